/- Part1: part 1. -/
import Derived.Test.YtkflnpjapgiajaaGreatDoorTermF
set_option maxRecDepth 100000
set_option maxHeartbeats 400000000
set_option linter.unusedSimpArgs false
set_option linter.unusedVariables false
namespace Go.Proofs.YtkflnpjapgiajaaGreatDoor
open Value renaming slice→Z,int→J,string→zK,pointer→zR,bool→zZ,agg→zd,tuple→zp
open IntKind renaming i64→I,u32→yE
open Obj renaming cells→yM
open Ending renaming returned→yW
open Or renaming inl→yd,inr→yk
open Option renaming none→N,some→M
open Bool renaming true→y6,false→xd
open Go renaming World→E,Value→wF,undef→wQ
open RowKit renaming Hid→wT
open Go.Proofs.Tryz
open _root_.Array renaming size→O
open World renaming heap→T
open List renaming length→C
variable {rs:Ja} {i:Nat} {oi:Oper}
theorem gE:(∀(α:Type) (xs:List α) (i:Nat) (h:i<xs.toArray.size),xs.toArray[i]=xs[i]'(by simpa using h))/\(∀(α:Type) (a:α) (s:List α) (h:0<C (a::s)),(a::s)[0]=a)/\(∀(α:Type) (a:α) (s:List α) (i:Nat) (h:i+1<C (a::s)),(a::s)[i+1]=s[i]'(by simpa using h)):=⟨fun _ _ _ _=>rfl,fun _ _ _ _=>rfl,fun _ _ _ _ _=>rfl⟩
theorem aP:(∀(a:Act) (k:Nat) (v:wF),a.put k v= {a with tmps:=a.tmps.setIfInBounds k v})/\(∀(α:Type) (xs:List α) (i:Nat) (a:α),xs.toArray.setIfInBounds i a=(xs.set i a).toArray)/\(∀(α:Type) (x a:α) (s:List α),(x::s).set 0 a=a::s)/\(∀(α:Type) (x a:α) (s:List α) (i:Nat),(x::s).set (i+1) a=x::s.set i a):=⟨fun _ _ _=>rfl,fun _ _ _ _=>aE,fun _ _ _ _=>rfl,fun _ _ _ _ _=>rfl⟩
section
variable {P : Program} {ops : Array Oper} {Q : Exit -> Act -> E -> Prop} {md : Region.Mode} {S : E -> Prop} {n : Nat} {l : Array Bool} {a : Act} {w : E}
theorem cU (i:Nat) (v:wF) (h:∀u,S u ->(execOp a.eval oi).run P u=.ok (.value v) u) (k:wpAnyH P md ops Q S n (l.setIfInBounds i y6) (a.put oi.dst v) w)
  (e:ops[i]? =M oi:=by rfl) (hs:Region.noSelect ops=true:=by kernel_rfl) (f:Region.free md ops l i=true:=by kernel_rfl) (r:(Region.ready md ops l).contains i=true:=by kernel_rfl)
  (b:∀c a w,Q (.panic c) (a.put oi.dst v) w ->Q (.panic c) a w:=by first |exact fun _ _ _ h=>h |exact fun _ _ _ h=>by cases h.1) (g:Region.wanted oi (yielded ops a.tmps)=true:=by rfl) (d:S w:=by assumption):wpAnyH P md ops Q S (n+1) l a w:=
 nQ e hs f r b (Or.inl ⟨g,h⟩) d k
theorem ar (i:Nat) (v:wF) (k:wpAnyH P md ops Q S n (l.setIfInBounds i y6) (a.put oi.dst v) w)
  (g:ops[i]? =M oi:=by rfl) (h:∀u,S u ->(execOp a.eval oi).run P u=.ok (.value v) u:=by intro u' Bh;(try simp only[gE]);(first |obtain⟨s,b,m,o⟩:=Bh |obtain⟨s,b,m⟩:=Bh |obtain⟨s,b⟩:=Bh |skip);go_simp) (hs:Region.noSelect ops=true:=by kernel_rfl) (f:Region.free md ops l i=true:=by kernel_rfl) (r:(Region.ready md ops l).contains i=true:=by kernel_rfl)
  (d:∀c a w,Q (.panic c) (a.put oi.dst v) w ->Q (.panic c) a w:=by first |exact fun _ _ _ h=>h |exact fun _ _ _ h=>by cases h.1) (j:Region.wanted oi (yielded ops a.tmps)=true:=by rfl) (e:S w:=by assumption):wpAnyH P md ops Q S (n+1) l a w:=
 nQ g hs f r d (Or.inl ⟨j,h⟩) e k
theorem cA {o:Oper} (h:∀K:Act ->E ->Prop,Shut (∀a w,S w ->(S w ->wpAnyH P md ops Q S n (l.setIfInBounds i y6) a w) ->K a w) ->if Region.wanted o (yielded ops a.tmps)=y6 then Oper.wp P o a w K Q else K (a.put o.dst wQ) w) (hs:AllReadyH P md ops Q S n l a w rs) (b:ops[i]? =M o:=by rfl):AllReadyH P md ops Q S n l a w (i::rs):=AllReadyH.cons b h hs
theorem nA:AllReadyH P md ops Q S n l a w []:=aG
theorem aF (rs:Ja) (h:AllReadyH P md ops Q S n l a w rs) (r:Region.ready md ops l=rs:=by kernel_rfl) (e:rs≠[]:=by simp):wpAnyH P md ops Q S (n+1) l a w:=wpAnyH_ready r e h
end
open Go.RowKit
variable {l:Kx} {a:Kd} {w w':E}
theorem Fa {p:Prop} (h:p):wT p:=h
def aB (w:E) (a:Kd) (l:Kx):Prop:=∀k (h:k<C l),∃g o,a=M ⟨g,o,N⟩/\g<O (T w)/\w.cell? ⟨g,o+k,N⟩=M (J I l[k])
theorem aB.aa (h:aB w a l) (c:da w w'):aB w' a l:=fun k f=>by
 obtain⟨g,o,d,b,e⟩:=h k f;exact⟨g,o,d,aT b c.size,(c.cell (p:=⟨g,_,N⟩) b).trans e⟩
theorem LW {B:Nat} {a b:E} (h:Below B a b) (k:Nat):Below B a (b.drewN k):=⟨h.os,h.tape,h.output,h.size,h.block⟩
def lB (k:Int) (l:Kx):Bool:=l.any (·==k)
theorem apC {k:Int} (h:i<C l):lB k (l.take (i+1))=(lB k (l.take i) ||l[i]==k):=by
 rw[gR h,lB,lB,List.any_append];simp
theorem apE {k:Int} (h:i<C l) (e:l[i]=k):lB k l=true:=by
 rw[lB,rF];exact⟨l[i],bU h,by simp[e]⟩
theorem al7 (k:Int) (a:Kd) (cap:Nat) (l:Kx) (w:E) (h:aB w a l) (n:C l<=140737488355328):
  c6 31 #[J I k,Z a (C l) cap] w fun e w'=>e=yW (zZ (lB k l))/\w'=w:=by
 have F:=Fa h;clear h;go_enter func31,ntmps31;go_wp2_with fail
 go_loop [5] (fun iv=>∃i:Nat,i<=C l/\iv=J I i/\wT (lB k (l.take i)=xd)) (fun iv=>C l - (intOf iv).toNat)
 case atStart=>exact⟨0,aV _,rfl,rfl⟩
 case round=>
  obtain⟨i,f,rfl,H⟩:=hrel;by_cases t:i<C l
  ·obtain⟨g,o,rfl,d,c⟩:=F.o i t;by_cases e:l[i]=k
   ·have Bm:=Fa (apE t e);go_wp2;go_ret;exact⟨by rw[Bm.o];rfl,rfl⟩
   ·have S:wT (lB k (l.take (i+1))=xd):=by show _=_;rw[apC t,H.o];simp[e]
    (have b:(l[i]==k)=false:=by simp[e]);generalize l[i]=x at *;go_wp2;go_round
    case rel=>exact⟨i+1,al,bd,S.o⟩
    case measure=>simp[intOf];omega
  ·have Bm:wT (lB k l=xd):=by
    show _=_;have:=H.o;rwa [kO al] at this
   go_wp2;go_ret;exact⟨by rw[Bm.o];rfl,rfl⟩
def Da (x:Int):Bool:=decide (1<=x/\x<=4)
def pH (l:Kx):Bool:=decide (1<=C l/\l.length<=8)&&l.all Da
theorem aiz {p:Int ->Bool} (h:i<C l) (e:p l[i]=xd):l.all p=false:=by
 rw[MW];exact⟨l[i],bU h,by rw[e];decide⟩
theorem aix {p:Int ->Bool} (h:i<C l) (h0:(l.take i).all p=y6) (e:p l[i]=y6):(l.take (i+1)).all p=true:=by
 rw[gR h,List.all_append,h0];simp[e]
theorem al9 (a:Kd) (cap:Nat) (l:Kx) (w:E) (h:aB w a l) (s:C l<=140737488355328):
  c6 109 #[Z a (C l) cap] w (dj w (zZ (pH l))):=by
 have F:=Fa h;clear h;by_cases d:1<=C l/\l.length<=8
 ·have H:wT (pH l=l.all Da):=by show _=_;rw[pH,cJ d];rfl
  obtain⟨u,v⟩:=d;generalize pH l=f at *;go_enter func109,ntmps109;go_wp2_with fail
  go_loopw [3] (fun iv wr=>∃i:Nat,i<=C l/\iv=J I i/\wT ((l.take i).all Da=y6)/\da w wr) (fun iv _=>C l - (intOf iv).toNat)
  case atStart=>exact⟨0,aV _,rfl,rfl,au _ _⟩
  case round=>
   obtain⟨i,r,rfl,Bj,b⟩:=hrel;by_cases t:i<C l
   ·obtain⟨g,o,rfl,q,k⟩:=(F.o.aa b) i t;by_cases e:1<=l[i]/\l[i]<=4
    ·have S:=Fa (aix t Bj.o (p:=Da) (cJ e));obtain⟨m,n⟩:=e;generalize l[i]=x at *;go_wp2;go_roundw
     case rel=>exact⟨i+1,al,bd,S.o,b⟩
     case measure=>simp[intOf];omega
    ·have Bm:wT (f=xd):=by show _=_;rw[H.o];exact aiz t (cX e)
     rcases (show l[i]<1∨(1<=l[i]/\4<l[i]) by omega) with c |⟨c,j⟩
     all_goals
      clear e;generalize l[i]=x at *;go_wp2;go_ret;exact⟨by rw[Bm.o];rfl,b⟩
   ·have Bm:wT (f=y6):=by
     show _=_;rw[H.o];have:=Bj.o;rwa [kO al] at this
    go_wp2;go_ret;exact⟨by rw[Bm.o];rfl,b⟩
 ·have Bm:wT (pH l=xd):=by show _=_;rw[pH,cX d];rfl
  generalize pH l=f at *;go_enter func109,ntmps109;rcases (show C l<1∨(1<=C l/\8<C l) by omega) with c |⟨c,j⟩
  all_goals
   go_wp2;go_ret;exact⟨by rw[Bm.o];rfl,au _ _⟩
def lX (l:Kx) (n:Int) (i:Nat):Bool:=decide (0<=l.getD i 0/\l.getD i 0<n/\(0< i ->l.getD (i - 1) 0<l.getD i 0))
def ei (l:Kx) (n:Int):Bool:=(List.range (C l)).all (lX l n)
theorem WW {n:Int} (h:i<C l) (e:lX l n i=xd):ei l n=false:=by
 rw[ei,MW];exact⟨i,bS.2 h,by rw[e];decide⟩
theorem RJ {n:Int} (h0:(List.range i).all (lX l n)=y6) (e:lX l n i=y6):(List.range (i+1)).all (lX l n)=true:=by
 rw[xN,List.all_append,h0];simp[e]
theorem getD_eq (h:i<C l):l.getD i 0=l[i]:=by simp[List.getD,h]
theorem al0 (a:Kd) (cap:Nat) (l:Kx) (n:Int) (w:E) (h:aB w a l) (L:C l<=140737488355328):
  c6 110 #[Z a (C l) cap,J I n] w (dj w (zZ (ei l n))):=by
 have F:=Fa h;clear h;have j:=Fa (fun i h e=>WW (l:=l) (n:=n) (i:=i) h e);have Ba:wT ((List.range (C l)).all (lX l n)=y6 ->ei l n=y6):=id;generalize ei l n=rb at *;go_enter func110,ntmps110;go_wp2_with fail
 go_loopw [5] (fun iv wr=>∃i:Nat,i<=C l/\iv=J I i/\wT ((List.range i).all (lX l n)=y6)/\da w wr) (fun iv _=>C l - (intOf iv).toNat)
 case atStart=>exact⟨0,aV _,rfl,rfl,au _ _⟩
 case round=>
  obtain⟨i,K,rfl,Bj,b⟩:=hrel;by_cases t:i<C l
  ·obtain⟨g,o,rfl,Bh,A⟩:=(F.o.aa b) i t;(have H:wT (lX l n i=decide (0<=l[i]/\l[i]<n/\(0< i ->l.getD (i - 1) 0<l[i]))):=by show _=_;rw[lX,getD_eq t]);by_cases c:l[i]<0
   ·have Bm:wT (rb=xd):=j.o i t (by rw[H.o];exact cX al);generalize l[i]=x at *;have d:decide (x<0)=true:=cJ c;go_wp2_with fail
    go_quiet (fail)
    go_wp2;go_ret;exact⟨by rw[Bm.o];rfl,LW b _⟩
   ·by_cases f:n<=l[i]
    ·have Bm:wT (rb=xd):=j.o i t (by rw[H.o];exact cX al);generalize l[i]=x at *;have d:decide (x<0)=false:=cX c;have k:decide (n<=x)=true:=cJ f;go_wp2_with fail
     go_quiet (fail)
     go_wp2;go_ret;exact⟨by rw[Bm.o];rfl,LW b _⟩
    ·by_cases q:i=0
     ·have S:=Fa (RJ Bj.o (i:=i) (by rw[H.o];exact cJ ⟨al,al,fun h=>absurd h al⟩));clear H;generalize l[i]=x at *;have d:decide (x<0)=false:=cX c;have k:decide (n<=x)=false:=cX f;have p:decide (0<i)=false:=cX al;(have B9:¬0<(i:Int):=al);have z:=Fa q;clear q;go_wp2_with fail
      go_quiet (fail)
      go_wp2;go_roundw
      case rel=>exact⟨i+1,al,bd,S.o,LW b _⟩
      case measure=>simp[intOf];omega
     ·have v:0<i:=al
      obtain⟨g',o',s,Bb,D⟩:=(F.o.aa b) (i - 1) al;simp only[Option.some.injEq,Addr.mk.injEq] at s;obtain⟨rfl,rfl, -⟩:=s;have m:l.getD (i - 1) 0=l[i - 1]:=getD_eq al;rw[m] at H;(have P:((i:Int) - 1).toNat=i - 1:=al);by_cases r:l[i]<=l[i - 1]
      ·have Bm:wT (rb=xd):=j.o i t (by rw[H.o];exact cX (fun h=>absurd (h.2.2 v) al));clear m H;generalize l[i]=x at *;generalize l[i - 1]=y at *;have d:decide (x<0)=false:=cX c;have k:decide (n<=x)=false:=cX f;have p:decide (0<(i:Int))=true:=cJ al;have u:decide (x<=y)=true:=cJ r;go_wp2_with fail
       go_quiet (fail)
       go_wp2;go_ret;exact⟨by rw[Bm.o];rfl,LW b _⟩
      ·have S:=Fa (RJ Bj.o (i:=i) (by rw[H.o];exact cJ ⟨al,al,fun _=>al⟩));clear m H;generalize l[i]=x at *;generalize l[i - 1]=y at *;have d:decide (x<0)=false:=cX c;have k:decide (n<=x)=false:=cX f;have p:decide (0<(i:Int))=true:=cJ al;have u:decide (x<=y)=false:=cX r;go_wp2_with fail
       go_quiet (fail)
       go_wp2;go_roundw
       case rel=>exact⟨i+1,al,bd,S.o,LW b _⟩
       case measure=>simp[intOf];omega
  ·obtain rfl:i=C l:=al
   have Bm:=Fa (Ba.o Bj.o);go_wp2;go_ret;exact⟨by rw[Bm.o];rfl,b⟩
variable {S vs:Ja}
def sz (S:Ja) (v:Nat):Nat:=S[v]?.getD 1
def cnt (S:Ja):Ja ->Nat
 |[]=>1
 |v::vs=>sz S v*cnt S vs
theorem asP (S a b:Ja):cnt S (a++b)=cnt S a*cnt S b:=by
 induction a with
 |nil=>simp[cnt]
 |cons v a ih=>simp only[gF,cnt,ih,jr]
theorem asM (S a:Ja) (v:Nat):cnt S (a++[v])=cnt S a*sz S v:=by rw[asP];simp[cnt]
def Pos (S:Ja):Prop:=∀x∈S,1<=x
theorem lp (h:Pos S) (v:Nat):1<=sz S v:=by
 rw[sz];cases e:S[v]? with
 |none=>simp
 |some x=>exact h x (VS e)
theorem LS (h:Pos S) (vs:Ja):1<=cnt S vs:=by
 induction vs with
 |nil=>exact ah _
 |cons v vs ih=>exact kN (lp h v) ih
def oC (S:Ja):Ja ->Nat ->Ja
 |[],_=>[]
 |_::vs,k=>(k/cnt S vs)::oC S vs (k % cnt S vs)
theorem ahP (S vs:Ja):∀k,C (oC S vs k)=C vs:=by
 induction vs with
 |nil=>intro _;rfl
 |cons v vs ih=>intro k;simp[oC,ih]
theorem aeT (k c s:Nat):k % (s*c)/c=k/c % s:=by
 rw[eQ s c,Nat.mod_mul_right_div_self]
theorem aeS (k c s:Nat):k % (s*c) % c=k % c:=by
 rw[eQ s c,Nat.mod_mul_right_mod]
def aX (S:Ja):Ja ->Nat ->Nat ->Nat
 |[],_,_=>0
 |u::vs,k,v=>if v=u then k/cnt S vs else aX S vs (k % cnt S vs) v
theorem LX:∀ {vs:Ja} {k v:Nat},¬v∈vs ->aX S vs k v=0
 |[],_,_,_=>rfl
 |u::vs,k,v,h=>by
  rw[aX,aC (fun e=>h (by rw[e];exact dJ))];exact LX fun e=>h (dZ _ e)
def dN (S:Ja):Ja ->Nat ->Nat
 |[],_=>0
 |u::vs,v=>if v=u then cnt S vs else dN S vs v
theorem WI:∀ {vs:Ja} {v:Nat},¬v∈vs ->dN S vs v=0
 |[],_,_=>rfl
 |u::vs,v,h=>by
  rw[dN,aC (fun e=>h (by rw[e];exact dJ))];exact WI fun e=>h (dZ _ e)
def pos (S:Ja) (f:Nat ->Nat) (vs:Ja):Nat:=vs.foldl (fun k v=>k*sz S v+f v) 0
theorem amt (S:Ja) (f:Nat ->Nat) (vs:Ja) (v:Nat):pos S f (vs++[v])=pos S f vs*sz S v+f v:=by simp[pos]
def gW (g:Nat ->Nat):Ja ->Nat
 |[]=>0
 |v::vs=>g v+gW g vs
theorem acu (g:Nat ->Nat) (a b:Ja):gW g (a++b)=gW g a+gW g b:=by
 induction a with
 |nil=>simp[gW]
 |cons v a ih=>simp only[gF,gW,ih];omega
theorem Ki {g h:Nat ->Nat}:∀ {l:Ja},(∀v∈l,g v=h v) ->gW g l=gW h l
 |[],_=>rfl
 |v::l,e=>by rw[gW,gW,e v dJ,Ki fun u a=>e u (dZ _ a)]
theorem T3 (S:Ja) (f:Nat ->Nat):∀(vs:Ja) (k:Nat),vs.foldl (fun k v=>k*sz S v+f v) k=k*cnt S vs+pos S f vs
 |[],k=>by simp[pos,cnt]
 |v::vs,k=>by
  have e:pos S f (v::vs)=f v*cnt S vs+pos S f vs:=by
   show vs.foldl (fun k v=>k*sz S v+f v) (0*sz S v+f v)=_;rw[T3 S f vs,oN,bQ]
  rw[tY,T3 S f vs,e,cnt,iC,jr];omega
theorem RX (S:Ja) (f:Nat ->Nat):∀ {vs:Ja},vs.Nodup ->pos S f vs=gW (fun v=>f v*dN S vs v) vs
 |[],_=>rfl
 |u::vs,h=>by
  rw[nS] at h;rw[pos,tY,T3,gW,RX S f h.2,oN,bQ];congr 1
  ·rw[dN,aw rfl]
  ·exact Ki fun v a=>by rw[dN,aC (fun e=>h.1 (by rw[<- e];exact a))]
theorem acv (g:Nat ->Nat) (n:Nat):∀ {vs:Ja},vs.Nodup ->(∀v∈vs,v<n) ->(∀v,¬v∈vs ->g v=0) ->gW g vs=gW g (List.range n):=by
 intro vs a t c
 have k:∀ {vs:Ja},vs.Nodup ->(∀v∈vs,v<n) ->gW g vs=gW (fun v=>if v∈vs then g v else 0) (List.range n):=by
  intro vs;induction vs with
  |nil=>
   intro _ _
   have:∀l:Ja,gW (fun v=>if v∈([]:Ja) then g v else 0) l=0:=by
    intro l;induction l with
    |nil=>rfl
    |cons x l ih=>rw[gW,ih];simp
   rw[this];rfl
  |cons u vs ih=>
   intro a t;rw[nS] at a;rw[gW,ih a.2 fun v b=>t v (dZ _ b)];have d:=t u dJ
   have o:∀m,u< m ->gW (fun v=>if v∈u::vs then g v else 0) (List.range m)=g u+gW (fun v=>if v∈vs then g v else 0) (List.range m):=by
    intro m;induction m with
    |zero=>intro h;omega
    |succ m NZ=>
     intro h;rw[xN,acu,acu];by_cases e:u=m
     ·subst e
      have:gW (fun v=>if v∈u::vs then g v else 0) (List.range u)=gW (fun v=>if v∈vs then g v else 0) (List.range u):=Ki fun v b=>by
       (have:¬v=u:=by have:=bS.1 b;omega);simp[this]
      rw[this];simp[gW,a.1];omega
     ·rw[NZ al];have:¬m=u:=fun h=>e h.symm;simp[gW,this];omega
   rw[o n d]
 rw[k a t]
 exact Ki fun v _=>by
  by_cases h:v∈vs
  ·rw[aw h]
  ·rw[aC h,c v h]
theorem stand {other:Ja} (n k:Nat) (a:vs.Nodup) (o:other.Nodup) (f:∀v∈vs,v<n) (Bm:∀v∈other,v<n):gW (fun v=>aX S vs k v*dN S other v) vs=pos S (aX S vs k) other:=by
 rw[RX S _ o,acv _ n a f,acv _ n o Bm]
 ·intro v h;rw[WI h,lQ]
 ·intro v h;rw[LX h,oN]
theorem atI (u:Nat) (h:Ja) (k v:Nat):aX S (u::h) (k % cnt S (u::h)) v=if v=u then k/cnt S h % sz S u else aX S h (k % cnt S h) v:=by
 rw[aX,cnt,aeT k _ _,aeS]
variable {n v:Nat}
def af (l:Kx):Ja:=l.map Int.toNat
theorem gG (l:Kx):C (af l)=C l:=by simp[af]
theorem wC (h:i<C l):(af l)[i]'(by rw[gG];exact h)=l[i].toNat:=by simp[af]
structure fK (l:Kx):Prop where
 one:1<=C l
 eight:C l<=8
 each:∀i (h:i<C l),1<=l[i]/\l[i]<=4
theorem aaj (h:pH l=y6):fK l:=by
 rw[pH,iu,eP] at h
 exact⟨h.1.1,h.1.2,fun i a=>by
  have:=fM.1 h.2 l[i] (bU a);simpa [Da] using this⟩
theorem fK.pos (h:fK l):Pos (af l):=by
 intro x b;obtain⟨i,a,rfl⟩:=List.mem_iff_getElem.1 b;rw[gG] at a;rw[wC a];have:=h.each i a;omega
theorem fK.sz_le (h:fK l) (v:Nat):sz (af l) v<=4:=by
 rw[sz];by_cases a:v<C l
 ·rw[a7 (by rw[gG];exact a),CH,wC a];have:=h.each v a;omega
 ·rw[iT (by rw[gG];omega)];simp
theorem fK.sz_eq (h:fK l) (a:v<C l):(sz (af l) v:Int)=l[v]:=by
 rw[sz,a7 (by rw[gG];exact a),CH,wC a];have:=h.each v a;omega
structure Up (l:Kx) (n:Nat):Prop where
 each:∀i (h:i<C l),0<=l[i]/\l[i]<n
 lt:∀i j (hj:j<C l) (hi:i<j),l[i]<l[j]
theorem lr (h:ei l n=y6):Up l n:=by
 have b:∀i (a:i<C l),0<=l[i]/\l[i]<(n:Int)/\(0< i ->l.getD (i - 1) 0<l[i]):=fun i a=>by
  have:=fM.1 h i (bS.2 a);rw[lX,eP,getD_eq a] at this;exact this
 refine⟨fun i a=>⟨(b i a).1,(b i a).2.1⟩,?_⟩;intro i j;induction j with
 |zero=>intro _ h;omega
 |succ j ih=>
  intro e a;have c:=(b (j+1) e).2.2 al;rw[QU,getD_eq al] at c;rcases dX i j with d |d
  ·have:=ih al d;omega
  ·obtain rfl:i=j:=al
   exact c
theorem Up.nat (h:Up l n) (a:i<C l):((l[i].toNat:Nat):Int)=l[i]/\l[i].toNat<n:=by
 have:=h.each i a;constructor<;>omega
theorem Up.aa (h:Up l n):∀v∈af l,v<n:=by
 intro v b;obtain⟨i,a,rfl⟩:=List.mem_iff_getElem.1 b;rw[gG] at a;rw[wC a];exact(h.nat a).2
theorem Up.nodup (h:Up l n):(af l).Nodup:=by
 rw[List.Nodup,zq];intro i j a b q;rw[gG] at a b;rw[wC a,wC b];have c:=h.lt i j b q;have d:=h.each i a;omega
theorem Up.ge (h:Up l n):∀i (a:i<C l),(i:Int)<=l[i]:=by
 intro i;induction i with
 |zero=>intro a;exact(h.each 0 a).1
 |succ i ih=>
  intro a;have:=ih al;have:=h.lt i (i+1) a al;omega
theorem Up.length (h:Up l n):C l<=n:=by
 rcases zj (C l) with a |a
 ·omega
 ·have b:=h.ge (C l - 1) al;have c:=(h.each (C l - 1) al).2;omega
theorem ah0 (h:∀v,sz S v<=4):∀vs:Ja,cnt S vs<=4^C vs
 |[]=>ah _
 |v::vs=>by
  rw[cnt,eA,jI,eQ (4^_)];exact kN (h v) (ah0 h vs)
theorem xm (h:∀v,sz S v<=4) (a:C vs<=8):cnt S vs<=65536:=by
 have b:=ah0 h vs;have c:4^C vs<=4^8:=k7 a6 a;have d:(4:Nat)^8=65536:=a6
 omega
theorem ahZ (S vs:Ja) (h:i<C vs):cnt S (vs.take (i+1))=cnt S (vs.take i)*sz S vs[i]:=by
 rw[gR h,asM]
def countB (Fb Fd:Kx):Bool:=pH Fb&&ei Fd (C Fb)
def mq (Fb Fd:Kx):Int×Int:=if countB Fb Fd=y6 then(((cnt (af Fb) (af Fd):Nat):Int),0) else(0,11)
theorem LQ {Fb Fd:Kx} (h:countB Fb Fd=y6):mq Fb Fd=(((cnt (af Fb) (af Fd):Nat):Int),0):=aw h
theorem LR {Fb Fd:Kx} (h:countB Fb Fd=xd):mq Fb Fd=(0,11):=aC (by rw[h];decide)
theorem amf (a b:Kd) (ca cb:Nat) (Fb Fd:Kx) (w:E) (hs:aB w a Fb) (p:aB w b Fd) (Bj:C Fb<=140737488355328) (Bm:C Fd<=140737488355328):
  c6 55 #[Z a (C Fb) ca,Z b (C Fd) cb] w (dj w (zp #[J I (mq Fb Fd).1,J I (mq Fb Fd).2])):=by
 have H:=Fa hs;have j:=Fa p;clear hs p;have S:=Fa (fun V h=>al9 a ca Fb V h Bj);have k:=Fa (fun V h=>al0 b cb Fd (C Fb) V h Bm);cases hf:pH Fb with
 |false=>
  have A:=Fa (LR (Fb:=Fb) (Fd:=Fd) (by rw[countB,hf];rfl));rw[hf] at S;generalize mq Fb Fd=r at *;generalize ei Fd (C Fb)=rb at *;go_enter func55,ntmps55;go_wp2_with fail
  refine(S.o _ H.o).ae ?_;rintro e q ⟨rfl,c⟩;go_wp2_with fail
  refine(k.o _ (j.o.aa c)).ae ?_;rintro e u ⟨rfl,d⟩;have f:=c.trans (d.ae c.size);go_wp2;go_ret2;exact⟨by rw[A.o];rfl,f⟩
 |true=>
  rw[hf] at S;cases hr:ei Fd (C Fb) with
  |false=>
   have A:=Fa (LR (Fb:=Fb) (Fd:=Fd) (by rw[countB,hr,Bool.and_false]));rw[hr] at k;generalize mq Fb Fd=r at *;go_enter func55,ntmps55;go_wp2_with fail
   refine(S.o _ H.o).ae ?_;rintro e q ⟨rfl,c⟩;go_wp2_with fail
   refine(k.o _ (j.o.aa c)).ae ?_;rintro e u ⟨rfl,d⟩;have f:=c.trans (d.ae c.size);go_wp2;go_ret2;exact⟨by rw[A.o];rfl,f⟩
  |true=>
   have A:=Fa (LQ (Fb:=Fb) (Fd:=Fd) (by rw[countB,hf,hr];rfl));rw[hr] at k;have L:=aaj hf;have m:=lr hr;have B7:=L.eight;have Q:=m.length;have n:=Fa L;have Bh:=Fa m;clear hf hr L m;generalize mq Fb Fd=r at *;go_enter func55,ntmps55;go_wp2_with fail
   refine(S.o _ H.o).ae ?_;rintro e q ⟨rfl,c⟩;go_wp2_with fail
   refine(k.o _ (j.o.aa c)).ae ?_;rintro e u ⟨rfl,d⟩;have f:=c.trans (d.ae c.size);clear c d;go_wp2_with fail
   go_loopw [8,9] (fun nv iv wr=>∃i:Nat,i<=C Fd/\iv=J I i/\nv=J I (cnt (af Fb) ((af Fd).take i):Nat)/\da w wr) (fun _ iv _=>C Fd - (intOf iv).toNat)
   case atStart=>exact⟨0,aV _,rfl,rfl,f⟩
   case round=>
    obtain⟨i,P,rfl,rfl,l⟩:=hrel;by_cases t:i<C Fd
    ·obtain⟨g,o,rfl,B9,y⟩:=(j.o.aa l) i t;obtain⟨R,F⟩:=Bh.o.nat t
     have s:cnt (af Fb) ((af Fd).take (i+1))=cnt (af Fb) ((af Fd).take i)*sz (af Fb) Fd[i].toNat:=by
      rw[ahZ _ _ (by rw[gG];exact t),wC t]
     have K:cnt (af Fb) ((af Fd).take (i+1))<=65536:=xm n.o.sz_le (by rw[fh,gG];omega);generalize hV:Fd[i].toNat=v at *;rw[<- R] at y;obtain⟨g',o',rfl,U,z⟩:=(H.o.aa l) v F;rw[<- n.o.sz_eq F] at z;rw[s] at K;have D:((cnt (af Fb) ((af Fd).take i):Nat):Int)*((sz (af Fb) v:Nat):Int)=((cnt (af Fb) ((af Fd).take i)*sz (af Fb) v:Nat):Int):=(mP _ _).symm;have Ba:=Fa s;clear s R hV;generalize cnt (af Fb) ((af Fd).take i)=X at *;generalize sz (af Fb) v=Y at *;(have zP:0<=(X:Int)*(Y:Int):=by rw[D];omega);(have Bb:(X:Int)*(Y:Int)<=65536:=by rw[D];omega);have x:=Fa D;clear D;go_wp2;go_roundw
     case rel=>exact⟨i+1,al,bd,by rw[Ba.o, <- x.o],l⟩
     case measure=>simp[intOf];omega
    ·obtain rfl:i=C Fd:=al
     rw[kO (by rw[gG];exact ah _)];go_wp2;go_ret2;exact⟨by rw[A.o];rfl,l⟩
theorem F8 {l:Ja} (h:i<C l):l.getD i 0=l[i]:=by simp[List.getD,h]
theorem aaz {Fb Fd:Kx} (h:countB Fb Fd=y6):fK Fb/\Up Fd (C Fb):=by
 rw[countB,iu] at h;exact⟨aaj h.1,lr h.2⟩
theorem aoX (a:Kd) (cap:Nat) (l:Kx) (w:E) (h:aB w a l) (s:C l<=140737488355328):
  c6 146 #[Z a (C l) cap] w (dj w (zZ (pH l))):=by
 have F:=Fa h;clear h;by_cases d:1<=C l/\l.length<=8
 ·have H:wT (pH l=l.all Da):=by show _=_;rw[pH,cJ d];rfl
  obtain⟨u,v⟩:=d;generalize pH l=f at *;go_enter func146,ntmps146;go_wp2_with fail
  go_loopw [15] (fun iv wr=>∃i:Nat,i<=C l/\iv=J I i/\wT ((l.take i).all Da=y6)/\da w wr) (fun iv _=>C l - (intOf iv).toNat)
  case atStart=>exact⟨0,aV _,rfl,rfl,au _ _⟩
  case round=>
   obtain⟨i,r,rfl,Bj,b⟩:=hrel;by_cases t:i<C l
   ·obtain⟨g,o,rfl,q,k⟩:=(F.o.aa b) i t;by_cases e:1<=l[i]/\l[i]<=4
    ·have S:=Fa (aix t Bj.o (p:=Da) (cJ e));obtain⟨m,n⟩:=e;generalize l[i]=x at *;go_wp2;go_roundw
     case rel=>exact⟨i+1,al,bd,S.o,b⟩
     case measure=>simp[intOf];omega
    ·have Bm:wT (f=xd):=by show _=_;rw[H.o];exact aiz t (cX e)
     rcases (show l[i]<1∨(1<=l[i]/\4<l[i]) by omega) with c |⟨c,j⟩
     all_goals
      clear e;generalize l[i]=x at *;go_wp2;go_ret;exact⟨by rw[Bm.o];rfl,b⟩
   ·have Bm:wT (f=y6):=by
     show _=_;rw[H.o];have:=Bj.o;rwa [kO al] at this
    go_wp2;go_ret;exact⟨by rw[Bm.o];rfl,b⟩
 ·have Bm:wT (pH l=xd):=by show _=_;rw[pH,cX d];rfl
  generalize pH l=f at *;go_enter func146,ntmps146;rcases (show C l<1∨(1<=C l/\8<C l) by omega) with c |⟨c,j⟩
  all_goals
   go_wp2;go_ret;exact⟨by rw[Bm.o];rfl,au _ _⟩
def least (l:Kx) (i:Nat):Int:=if i=0 then 0 else l.getD (i - 1) 0+1
theorem afq (h:i<C l):least l (i+1)=l[i]+1:=by
 rw[least,aC al,QU,getD_eq h]
theorem aeq {n:Int} (d:i<C l) (h:(List.range i).all (lX l n)=y6):lX l n i=decide (least l i<=l[i]/\l[i]<n)/\0<=least l i:=by
 rw[lX,getD_eq d,least];by_cases b:i=0
 ·subst b;refine⟨?_,aE⟩;simp
 ·have p:=fM.1 h (i - 1) (bS.2 al);rw[lX,eP,getD_eq al] at p;rw[aC b,getD_eq al];refine⟨?_,al⟩;rw[EK];constructor
  ·intro ⟨_,a,c⟩;have:=c al;exact⟨al,a⟩
  ·intro ⟨e,a⟩;exact⟨al,a,fun _=>al⟩
theorem alK (a:Kd) (cap:Nat) (l:Kx) (n:Int) (w:E) (h:aB w a l) (v:C l<=140737488355328) (Bj:n<=140737488355328):
  c6 147 #[Z a (C l) cap,J I n] w (dj w (zZ (ei l n))):=by
 have F:=Fa h;clear h;have d:=Fa (fun i h e=>WW (l:=l) (n:=n) (i:=i) h e);have Ba:wT ((List.range (C l)).all (lX l n)=y6 ->ei l n=y6):=id;generalize ei l n=rb at *;go_enter func147,ntmps147;go_wp2_with fail
 go_loopw [5,10] (fun lv iv wr=>∃i:Nat,i<=C l/\iv=J I i/\lv=J I (least l i)/\wT ((List.range i).all (lX l n)=y6)/\da w wr) (fun _ iv _=>C l - (intOf iv).toNat)
 case atStart=>exact⟨0,aV _,rfl,rfl,rfl,au _ _⟩
 case round=>
  obtain⟨i,u,rfl,rfl,H,b⟩:=hrel;by_cases t:i<C l
  ·obtain⟨g,o,rfl,r,j⟩:=(F.o.aa b) i t;obtain⟨D,y⟩:=aeq t H.o;have s:=Fa (afq t);have c:=Fa D;clear D;generalize least l i=m at *;generalize l[i]=x at *;by_cases e:m<=x/\x<n
   ·have S:=Fa (RJ H.o (by rw[c.o];exact cJ e));obtain⟨k,p⟩:=e;go_wp2;go_roundw
    case rel=>exact⟨i+1,al,bd,by rw[s.o],S.o,b⟩
    case measure=>simp[intOf];omega
   ·have Bm:=Fa (d.o i t (by rw[c.o];exact cX e));rcases (show x<m∨(m<=x/\n<=x) by omega) with f |⟨f,q⟩
    all_goals
     clear e;go_wp2;go_ret;exact⟨by rw[Bm.o];rfl,b⟩
  ·obtain rfl:i=C l:=al
   have Bm:=Fa (Ba.o H.o);go_wp2;go_ret;exact⟨by rw[Bm.o];rfl,b⟩
theorem ahV (a b:Kd) (ca cb:Nat) (Fb Fd:Kx) (w:E) (hs:aB w a Fb) (d:aB w b Fd) (R:fK Fb) (c:Up Fd (C Fb)):
  c6 148 #[Z a (C Fb) ca,Z b (C Fd) cb] w (dj w (J I (cnt (af Fb) (af Fd):Nat))):=by
 have H:=Fa hs;have V:=Fa d;have u:=R.eight;have Q:=c.length;have e:=Fa R;have n:=Fa c;clear hs d R c;have D:wT (cnt (af Fb) ((af Fd).take (C Fd))=cnt (af Fb) (af Fd)):=by show _=_;rw[kO (by rw[gG];exact ah _)]
 go_enter func148,ntmps148;go_wp2_with fail
 go_loopw [5,10] (fun nv iv wr=>∃i:Nat,i<=C Fd/\iv=J I i/\nv=J I (cnt (af Fb) ((af Fd).take i):Nat)/\da w wr) (fun _ iv _=>C Fd - (intOf iv).toNat)
 case atStart=>exact⟨0,aV _,rfl,rfl,au _ _⟩
 case round=>
  obtain⟨i,r,rfl,rfl,h⟩:=hrel;by_cases t:i<C Fd
  ·obtain⟨g,o,rfl,q,f⟩:=(V.o.aa h) i t;obtain⟨k,F⟩:=n.o.nat t
   have s:cnt (af Fb) ((af Fd).take (i+1))=cnt (af Fb) ((af Fd).take i)*sz (af Fb) Fd[i].toNat:=by
    rw[ahZ _ _ (by rw[gG];exact t),wC t]
   have p:cnt (af Fb) ((af Fd).take (i+1))<=65536:=xm e.o.sz_le (by rw[fh,gG];omega);generalize hV:Fd[i].toNat=v at *;rw[<- k] at f;obtain⟨g',o',rfl,z,j⟩:=(H.o.aa h) v F;rw[<- e.o.sz_eq F] at j;rw[s] at p;have l:((cnt (af Fb) ((af Fd).take i):Nat):Int)*((sz (af Fb) v:Nat):Int)=((cnt (af Fb) ((af Fd).take i)*sz (af Fb) v:Nat):Int):=(mP _ _).symm;have S:=Fa s;clear s k hV;generalize cnt (af Fb) ((af Fd).take i)=X at *;generalize sz (af Fb) v=Y at *;(have P:0<=(X:Int)*(Y:Int):=by rw[l];omega);(have K:(X:Int)*(Y:Int)<=65536:=by rw[l];omega);have m:=Fa l;clear l;go_wp2;go_roundw
   case rel=>exact⟨i+1,al,bd,by rw[S.o, <- m.o],h⟩
   case measure=>simp[intOf];omega
  ·obtain rfl:i=C Fd:=al
   rw[D.o];go_wp2;go_ret;exact⟨rfl,h⟩
theorem Rx (a b:Kd) (ca cb:Nat) (Fb Fd:Kx) (w:E) (hs:aB w a Fb) (i:aB w b Fd) (p:C Fb<=140737488355328) (n:C Fd<=140737488355328):
  c6 92 #[Z a (C Fb) ca,Z b (C Fd) cb] w (dj w (zp #[J I (mq Fb Fd).1,J I (mq Fb Fd).2])):=by
 have H:=Fa hs;have f:=Fa i;clear hs i;have v:=Fa (fun V h=>aoX a ca Fb V h p);have k:=Fa (fun V h=>alK b cb Fd (C Fb) V h n al);cases hf:pH Fb with
 |false=>
  have A:=Fa (LR (Fb:=Fb) (Fd:=Fd) (by rw[countB,hf];rfl));rw[hf] at v;generalize mq Fb Fd=r at *;go_enter func92,ntmps92;go_wp2_with fail
  refine(v.o _ H.o).ae ?_;rintro e j ⟨rfl,c⟩;go_wp2;go_ret2;exact⟨by rw[A.o];rfl,c⟩
 |true=>
  rw[hf] at v;cases hr:ei Fd (C Fb) with
  |false=>
   have A:=Fa (LR (Fb:=Fb) (Fd:=Fd) (by rw[countB,hr,Bool.and_false]));rw[hr] at k;generalize mq Fb Fd=r at *;go_enter func92,ntmps92;go_wp2_with fail
   refine(v.o _ H.o).ae ?_;rintro e j ⟨rfl,c⟩;go_wp2_with fail
   refine(k.o _ (f.o.aa c)).ae ?_;rintro e q ⟨rfl,g⟩;have d:=c.trans (g.ae c.size);go_wp2;go_ret2;exact⟨by rw[A.o];rfl,d⟩
  |true=>
   have A:=Fa (LQ (Fb:=Fb) (Fd:=Fd) (by rw[countB,hf,hr];rfl));rw[hr] at k;have y:=Fa (fun V l m=>ahV a b ca cb Fb Fd V l m (aaj hf) (lr hr));generalize mq Fb Fd=r at *;go_enter func92,ntmps92;go_wp2_with fail
   refine(v.o _ H.o).ae ?_;rintro e j ⟨rfl,c⟩;go_wp2_with fail
   refine(k.o _ (f.o.aa c)).ae ?_;rintro e q ⟨rfl,g⟩;have d:=c.trans (g.ae c.size);go_wp2_with fail
   refine(y.o _ (H.o.aa d) (f.o.aa d)).ae ?_;rintro e t ⟨rfl,s⟩;go_wp2;go_ret2;exact⟨by rw[A.o];rfl,d.trans (s.ae d.size)⟩
theorem apu (a:Kd) (ca:Nat) (Fb:Kx) (v:Nat) (x:Int) (w:E) (hs:aB w a Fb) (R:fK Fb) (h:v<C Fb):
  c6 173 #[Z a (C Fb) ca,J I (v:Nat),J I x] w (dj w (zZ (decide (0<=x/\x<(sz (af Fb) v:Int))))):=by
 obtain⟨g,o,rfl,k,c⟩:=hs v h;rw[<- R.sz_eq h] at c;have u:=R.eight;generalize sz (af Fb) v=Y at *;by_cases e:0<=x/\x<(Y:Int)
 ·rw[cJ e];obtain⟨f,i⟩:=e;go_enter func173,ntmps173;go_wp2;go_ret;exact⟨rfl,au _ _⟩
 ·rw[cX e];rcases (show x<0∨(0<=x/\(Y:Int)<=x) by omega) with d |⟨d,j⟩
  all_goals
   clear e;go_enter func173,ntmps173;go_wp2;go_ret
   first
    |exact⟨rfl,au _ _⟩
    |exact⟨eG (fun b=>Ending.returned (Value.bool b)) (cX al),au _ _⟩
def aA:Ja ->Nat
 |[]=>0
 |v::l=>aA l |||2^v
theorem qh (l:Ja) (v:Nat):(aA l).testBit v=decide (v∈l):=by
 induction l with
 |nil=>simp[aA]
 |cons u l ih=>
  rw[aA,Nat.testBit_or,ih,Nat.testBit_two_pow];by_cases h:u=v
  ·subst h;simp
  ·have a:¬v=u:=fun e=>h e.symm;simp[h,a]
theorem Su {a b:Ja} (h:∀x,x∈a↔x∈b):aA a=aA b:=by
 apply MM;intro i;rw[qh,qh];exact EK.2 (h i)
theorem uY:∀ {l:Ja},(∀v∈l,v<8) ->aA l<256
 |[],_=>a6
 |v::l,h=>by
  have a:=uY (l:=l) fun u c=>h u (dZ _ c);have b:2^v<2^8:=VI a6 (h v dJ);exact Nat.or_lt_two_pow (n:=8) a b
theorem atw (s v:Nat):(s/2^v&&&1=1)↔s.testBit v=true:=by
 rw[Nat.testBit_eq_decide_div_mod_eq,eP,Nat.and_one_is_mod]
theorem ap7 {s p:Nat} (hs:s<256) (f:p<256):(p&&&(4294967295 - s)=0)↔∀v,p.testBit v=y6 ->s.testBit v=true:=by
 have e:4294967295 - s=2^32 - (s+1):=al
 have d:s<2^32:=al
 rw[e];constructor
 ·intro h v b;have c:(p&&&(2^32 - (s+1))).testBit v=false:=by rw[h];simp
  rw[QS,b,VG d,Hs] at c
  have l:v<32:=by
   rcases dX v 32 with a |a
   ·exact a
   ·have:=Nat.testBit_lt_two_pow (x:=p) (i:=v) (aT (show p<2^32 by omega) (k7 a6 a));rw[this] at b;cases b
  simpa [l] using c
 ·intro h;apply MM;intro i;rw[QS,VG d,Nat.zero_testBit];cases hp':p.testBit i
  ·rfl
  ·rw[h i hp'];simp
theorem Kn (l:Ja) (v:Nat) (w:E) (h:∀u∈l,u<8) (b:v<8):
  c6 181 #[J yE (aA l:Nat),J I (v:Nat)] w fun e w'=>e=yW (J yE (aA (v::l):Nat))/\w'=w:=by
 have hs:=uY h;have c:2^v<256:=show 2^v<2^8 from VI a6 b
 have Bm:wT (bits BinOp.or IntKind.u32 (aA l:Nat) (2^v % 4294967296)=((aA (v::l):Nat):Int)):=by
  show _=_
  have e:((2:Int)^v % 4294967296)=((2^v:Nat):Int):=by
   (have a:((2:Int)^v)=((2^v:Nat):Int):=by rw[Int.natCast_pow];rfl);rw[a];generalize (2^v:Nat)=q at *;omega
  rw[e,u32_or_nat _ _ al al];rfl
 generalize aA (v::l)=r at *;generalize aA l=s at *;go_enter func181,ntmps181;go_wp2;go_ret;exact⟨by rw[Bm.o];rfl,rfl⟩
theorem Ko (l:Ja) (v:Nat) (w:E) (h:∀u∈l,u<8) (a:v<8):
  c6 222 #[J yE (aA l:Nat),J I (v:Nat)] w fun e w'=>e=yW (zZ (decide (v∈l)))/\w'=w:=by
 have hs:=uY h
 have Bm:wT ((bits BinOp.and IntKind.u32 ((aA l:Nat)/2^v) 1==1)=decide (v∈l)):=by
  show _=_;have e:(((aA l:Nat):Int)/2^v)=((aA l/2^v:Nat):Int):=by rw[AX,Int.natCast_pow];rfl
  have b:aA l/2^v<=aA l:=AV _ _;rw[e,show (1:Int)=((1:Nat):Int) from rfl,u32_and_nat _ _ al al, <- qh,wm, <- atw,xL];omega
 generalize decide (v∈l)=r at *;generalize aA l=s at *;go_enter func222,ntmps222;go_wp2;go_ret;exact⟨by rw[Bm.o];rfl,rfl⟩
theorem aly (l p:Ja) (w:E) (a:∀u∈l,u<8) (b:∀u∈p,u<8):
  c6 224 #[J yE (aA l:Nat),J yE (aA p:Nat)] w fun e w'=>e=yW (zZ (decide (∀v∈p,v∈l)))/\w'=w:=by
 have hs:=uY a;have q:=uY b
 have Bm:wT ((bits BinOp.andNot IntKind.u32 (aA p:Nat) (aA l:Nat)==0)=decide (∀v∈p,v∈l)):=by
  show _=_;have h:=ap7 hs q;simp only[qh,VE] at h;rw[u32_andNot_nat _ _ al al,wm,xL,eP, <- h];omega
 generalize decide (∀v∈p,v∈l)=r at *;generalize aA l=s at *;generalize aA p=t at *;go_enter func224,ntmps224;go_wp2;go_ret;exact⟨by rw[Bm.o];rfl,rfl⟩
theorem ac9 (f:n<=8) (h:(List.range i).all (lX l n)=y6) (e:i<=C l):∀u∈af (l.take i),u<8:=by
 intro u c;obtain⟨x,d,rfl⟩:=aN.1 c;obtain⟨j,b,rfl⟩:=iE d;rw[fh] at b;have a:=fM.1 h j (bS.2 al);rw[lX,eP,getD_eq al] at a;rw[xO];omega
def setA (l:Kx) (n:Nat):Nat:=if ei l n=y6 then aA (af l) else 0
theorem acY (a:Kd) (cap:Nat) (l:Kx) (n:Nat) (w:E) (h:aB w a l) (B9:C l<=140737488355328) (Bj:n<=8):
  c6 127 #[Z a (C l) cap,J I (n:Nat)] w fun e w'=>e=yW (zp #[J yE (setA l n:Nat),zZ (ei l n)])/\w'=w:=by
 have F:=Fa h;clear h;have c:=Fa (fun i h e=>WW (l:=l) (n:=n) (i:=i) h e);have Ba:wT ((List.range (C l)).all (lX l n)=y6 ->ei l n=y6):=id;have Q:wT (ei l n=y6 ->setA l n=aA (af l)):=fun h=>aw h;have p:wT (ei l n=xd ->setA l n=0):=fun h=>aC (by rw[h];decide);generalize ei l n=rb at *;generalize setA l n=P at *;go_enter func127,ntmps127;go_wp2_with fail
 go_loopw [6,7,12] (fun sv lv iv wr=>∃i:Nat,i<=C l/\iv=J I i/\lv=J I (least l i)/\sv=J yE (aA (af (l.take i)):Nat)/\wT ((List.range i).all (lX l n)=y6)/\wr=w) (fun _ _ iv _=>C l - (intOf iv).toNat)
 case atStart=>exact⟨0,aV _,rfl,rfl,rfl,rfl,rfl⟩
 case round=>
  obtain⟨i,f,rfl,rfl,rfl,H,rfl⟩:=hrel;by_cases t:i<C l
  ·obtain⟨g,o,rfl,Bb,y⟩:=F.o i t;obtain⟨D,V⟩:=aeq t H.o;have s:=Fa (afq t);have b:=Fa D;have k:=Fa (ac9 Bj H.o f)
   have q:wT (∀x:Nat,(x:Int)=l[i] ->aA (x::af (l.take i))=aA (af (l.take (i+1)))):=fun x j=>Su fun z=>by
    rw[gR t, <- j,af,af,gV];simp only[bY,bE,gw,oQ,gK,jq,oU];exact or_comm
   clear D;generalize hs1:aA (af (l.take (i+1)))=R at *;have r:=Fa hs1;clear hs1;generalize af (l.take i)=v at *;generalize least l i=m at *;generalize l[i]=x at *;by_cases e:m<=x/\x<n
   ·have S:=Fa (RJ H.o (by rw[b.o];exact cJ e));obtain⟨Bh,K⟩:=e;obtain⟨X,rfl⟩:∃X:Nat,x=X:=⟨x.toNat,al⟩;have u:=q.o X rfl;go_wp2_with fail
    refine(Kn v X _ k.o al).ae ?_;rintro e U ⟨rfl,rfl⟩;rw[u];go_wp2;go_roundw
    case rel=>exact⟨i+1,al,bd,by rw[s.o],by rw[r.o],S.o,trivial⟩
    case measure=>simp[intOf];omega
   ·have Bm:=Fa (c.o i t (by rw[b.o];exact cX e));rcases (show x<m∨(m<=x/\(n:Int)<=x) by omega) with d |⟨d,L⟩
    all_goals
     clear e;go_wp2;go_ret2;exact⟨by rw[p.o Bm.o,Bm.o];rfl,rfl⟩
  ·obtain rfl:i=C l:=al
   have Bm:=Fa (Ba.o H.o);have A:=Fa (Q.o Bm.o);rw[iD];go_wp2;go_ret2;exact⟨by rw[A.o,Bm.o];rfl,rfl⟩
theorem Kj {α:Type} {P:List α ->Prop} (h0:P []) (h1:∀l a,P l ->P (l++[a])) (l:List α):P l:=by
 have h:∀m:List α,P m.reverse:=by
  intro m;induction m with
  |nil=>exact h0
  |cons a m ih=>rw[List.reverse_cons];exact h1 _ _ ih
 have:=h l.reverse;rwa [List.reverse_reverse] at this
def nb (l:List UInt8):Nat:=l.foldl (fun n c=>n*256+c.toNat) 0
theorem Im:nb []=0:=rfl
theorem Bg (l:List UInt8) (c:UInt8):nb (l++[c])=nb l*256+c.toNat:=by simp[nb]
theorem Fi (a b:List UInt8):nb (a++b)=nb a*256^C b+nb b:=by
 induction b using Kj with
 |h0=>simp[Im]
 |h1 l c ih=>
  rw[<- p9,Bg,ih,Bg,cE,Hn,jI,iC,jr,zl]
theorem an5 (c:UInt8):nb [c]=c.toNat:=by simp[nb]
theorem Io (c:UInt8) (l:List UInt8):nb (c::l)=c.toNat*256^C l+nb l:=by
 have:=Fi [c] l;rwa [List.singleton_append,an5] at this
theorem wK (l:List UInt8):nb l<256^C l:=by
 induction l using Kj with
 |h0=>simp[Im]
 |h1 l c ih=>
  rw[Bg,cE,Hn,jI];have:=c.toNat_lt;omega
def bn (n:Nat):List UInt8:=if _h:n=0 then[] else bn (n/256)++[UInt8.ofNat (n % 256)]
theorem sk:bn 0=[]:=by rw[bn];simp
theorem sq (n:Nat) (h:n≠0):bn n=bn (n/256)++[UInt8.ofNat (n % 256)]:=by rw[bn];simp[h]
theorem ofNat_toNat (n:Nat):(UInt8.ofNat (n % 256)).toNat=n % 256:=aE
theorem XS (n:Nat):nb (bn n)=n:=by
 induction n using Nat.strongRecOn with
 |ind n ih=>
  by_cases h:n=0
  ·subst h;simp[sk,Im]
  ·rw[sq n h,Bg,ih (n/256) al,ofNat_toNat];omega
theorem atu (n:Nat) (c:UInt8) (h:n≠0∨c.toNat≠0):bn (n*256+c.toNat)=bn n++[c]:=by
 have a:=c.toNat_lt;rw[sq _ al,show (n*256+c.toNat)/256=n by omega,show (n*256+c.toNat) % 256=c.toNat by omega];simp
theorem aaK (l:List UInt8):bn (nb l)=l.dropWhile (·==0):=by
 induction l using Kj with
 |h0=>simp[Im,sk]
 |h1 l c ih=>
  rw[Bg];by_cases h:nb l≠0∨c.toNat≠0
  ·rw[atu _ _ h,ih];by_cases a:l.dropWhile (·==0)=[]
   ·have z:nb l=0:=by rw[<- XS (nb l),ih,a,Im]
    (have b:c≠0:=by intro e;subst e;simp[z] at h);rw[a,List.dropWhile_append,a];simp[b]
   ·rw[List.dropWhile_append];simp[a]
  ·have h1:nb l=0:=al
   (have d:c.toNat=0:=al);(have b:c=0:=by simpa [<- QQ] using d);rw[h1,d];rw[h1,sk] at ih;rw[List.dropWhile_append, <- ih];simp[b,sk]
theorem aaL {a b:Nat} (h:a<=b):C (bn a)<=C (bn b):=by
 induction a using Nat.strongRecOn generalizing b with
 |ind a ih=>
  by_cases c:a=0
  ·subst c;simp[sk]
  ·rw[sq a c,sq b al];have:= @ih (a/256) al (b/256) al;simp;omega
def W:Nat:=4294967296
theorem iZ:W=4294967296:=rfl
theorem nG:0<W:=a6
def nw:Ja ->Nat
 |[]=>0
 |x::r=>x+W*nw r
theorem o7:nw []=0:=rfl
theorem lZ (x:Nat) (r:Ja):nw (x::r)=x+W*nw r:=rfl
theorem Db (a b:Ja):nw (a++b)=nw a+W^C a*nw b:=by
 induction a with
 |nil=>simp[o7]
 |cons x a ih=>rw[gF,lZ,lZ,ih,eA,jI,oO];rw[eQ (W^C a) W,jr];omega
theorem Ff (a:Ja) (x:Nat):nw (a++[x])=nw a+W^C a*x:=by rw[Db,lZ,o7];simp
def Small (l:Ja):Prop:=∀x∈l,x<W
theorem xX (l:Ja) (h:Small l):nw l<W^C l:=by
 induction l with
 |nil=>simp[o7]
 |cons x r ih=>
  have a:=ih (fun y b=>h y (dZ _ b));have c:=h x (dJ);rw[lZ,eA,jI];have:W*(nw r+1)<=W*W^C r:=mK _ a;rw[eQ (W^C r) W];rw[oO] at this;omega
def words (n:Nat):Ja:=if _h:n=0 then[] else(n % 4294967296)::words (n/4294967296)
theorem zu:words 0=[]:=by rw[words,dif_pos rfl]
theorem CV (n:Nat) (h:n≠0):words n=(n % W)::words (n/W):=by rw[words,dif_neg h,iZ]
theorem Ui (h:n≠0):n/W<n:=Nat.div_lt_self (lO h) a6
theorem lY (n:Nat):nw (words n)=n:=by
 induction n using Nat.strongRecOn with
 |ind n ih=>
  by_cases h:n=0
  ·subst h;simp[zu,o7]
  ·rw[CV n h,lZ,ih _ (Ui h)];exact Nat.mod_add_div n W
theorem oY (n:Nat):Small (words n):=by
 induction n using Nat.strongRecOn with
 |ind n ih=>
  by_cases h:n=0
  ·subst h;simp[zu,Small]
  ·rw[CV n h];intro x a;rcases bY.1 a with rfl |a
   ·exact jc _ nG
   ·exact ih _ (Ui h) x a
theorem Ri (n:Nat):words n=[]↔n=0:=by
 constructor
 ·intro h;rw[<- lY n,h,o7]
 ·rintro rfl;exact zu
theorem abN (n:Nat) (h:words n≠[]):(words n).getLast h≠0:=by
 induction n using Nat.strongRecOn with
 |ind n ih=>
  have b:n≠0:=fun e=>h ((Ri n).2 e);by_cases a:words (n/W)=[]
  ·have z:=(Ri _).1 a
   have:(words n).getLast h=n % W:=by
    have w:=CV n b;rw[a] at w;simp[w]
   rw[this];intro m;have:=Nat.mod_add_div n W;rw[m,z] at this;simp at this;exact b this.symm
  ·have:(words n).getLast h=(words (n/W)).getLast a:=by
    have w:=CV n b;simp only[w];rw[List.getLast_cons a]
   rw[this];exact ih _ (Ui b) a
theorem ajz (l:Ja) (hs:Small l) (b:∀h:l≠[],l.getLast h≠0):words (nw l)=l:=by
 induction l with
 |nil=>simp[o7,zu]
 |cons x r ih=>
  have c:=hs x (dJ);have a:words (nw r)=r:=ih (fun y d=>hs y (dZ _ d)) (fun h=>by have:=b aE;rwa [List.getLast_cons h] at this)
  have e:nw (x::r)≠0:=by
   intro h;rw[lZ] at h;(have f:x=0:=al)
   have B9:nw r=0:=by
    (have:W*nw r=0:=al);rcases Nat.mul_eq_zero.1 this with h |h
    ·simp[W] at h
    ·exact h
   rw[B9,zu] at a;subst a;exact b aE (by simpa using f)
  rw[CV _ e,lZ,abv,kp c,Nat.add_mul_div_left _ _ nG,zk c,bQ,a]
theorem Rj (n:Nat):C (words n)=(C (bn n)+3)/4:=by
 induction n using Nat.strongRecOn with
 |ind n ih=>
  by_cases h:n=0
  ·subst h;simp[zu,sk]
  ·rw[CV n h,eA,ih _ (Ui h)];by_cases a:n/256=0
   ·rw[sq n h,a,sk,show n/W=0 by simp only[W];omega,sk];simp
   ·by_cases b:n/256/256=0
    ·rw[sq n h,sq _ a,b,sk,show n/W=0 by simp only[W];omega,sk];simp
    ·by_cases c:n/256/256/256=0
     ·rw[sq n h,sq _ a,sq _ b,c,sk,show n/W=0 by simp only[W];omega,sk];simp
     ·rw[sq n h,sq _ a,sq _ b,sq _ c,show n/256/256/256/256=n/W by simp only[W];omega];simp;omega
def part (n i:Nat):Nat:=n/W^i % W
theorem amQ (n:Nat):part n 0=n % W:=by rw[part,MH,Hi]
theorem amR (n i:Nat):part n (Nat.succ i)=part (n/W) i:=by rw[part,part,Nat.succ_eq_add_one,jI,eQ,VM]
theorem ajB (i:Nat):∀n,i<C (words n) ->(words n)[i]? =M (part n i):=by
 induction i with
 |zero=>
  intro n h;have a:n≠0:=by rintro rfl;rw[zu] at h;simp at h
  rw[CV n a,amQ];rfl
 |succ i ih=>
  intro n h;have a:n≠0:=by rintro rfl;rw[zu] at h;simp at h
  rw[CV n a,eA] at h;rw[CV n a,List.getElem?_cons_succ,ih _ (Nat.lt_of_succ_lt_succ h), <- amR]
theorem ajC (n:Nat):words n=(List.range (C (words n))).map (part n):=by
 apply MV;intro i;rw[k9];by_cases h:i<C (words n)
 ·rw[ajB i n h,MT h];rfl
 ·rw[iT al,iT (by simpa using h)];rfl
theorem aud (i:Nat):W^i=256^(4*i):=by rw[Nat.pow_mul];rfl
theorem amS (l:List UInt8) (i:Nat) (h:4*i<=C l):nb ((l.take (C l - 4*i)).drop (C l - 4*i - 4))=part (nb l) i:=by
 have a:nb (l.take (C l - 4*i))=nb l/W^i:=by
  have Y:=zo (C l - 4*i) l;have n:=Fi (l.take (C l - 4*i)) (l.drop (C l - 4*i));rw[Y] at n;have e:C (l.drop (C l - 4*i))=4*i:=by simp;omega
  rw[e] at n;have t:=wK (l.drop (C l - 4*i));rw[e] at t;have p:0<256^(4*i):=wh a6;rw[aud,n,EO,VO _ _ p,zk t,bQ]
 rw[part, <- a];generalize hm:l.take (C l - 4*i)=m;have r:C m=C l - 4*i:=by rw[<- hm];simp
 rw[<- r];have n:=Fi (m.take (C m - 4)) (m.drop (C m - 4));rw[zo] at n;by_cases b:4<=C m
 ·have e:C (m.drop (C m - 4))=4:=by simp;omega
  have t:=wK (m.drop (C m - 4));rw[e] at n t;rw[n,show (256:Nat)^4=W from rfl,EO,VN];exact(kp t).symm
 ·have z:C m - 4=0:=al
  rw[z,ES];have t:=wK m;have:256^C m<=256^4:=k7 a6 al;exact(kp (by show nb m<256^4;omega)).symm
theorem XG (l:Ja) (k:Nat) (h:k<C l):nw (l.take (k+1))=nw (l.take k)+W^k*l[k]:=by
 rw[gR h,Ff,fh,uO (AU h)]
theorem Kk {l:Ja} (h:Small l) (k:Nat):Small (l.take k):=fun x a=>h x (QW a)
theorem V9 (l:Ja) (hs:Small l) (k:Nat) (b:k<=C l) (n:nw (l.take k)=nw l) (a:k=0∨l[k - 1]?.getD 0≠0):words (nw l)=l.take k:=by
 rw[<- n];refine ajz _ (Kk hs k) fun h=>?_;rcases a with rfl |a
 ·simp at h
 ·have c:k≠0:=by rintro rfl;simp at h
  rw[List.getLast_eq_getElem];simp only[fh,uO b,xO];rwa [a7 al] at a
theorem Rh (l:Ja) (hs:Small l):∃k,k<=C l/\words (nw l)=l.take k:=by
 induction l using Kj with
 |h0=>exact⟨0,ah _,by rw[o7,zu];rfl⟩
 |h1 l a ih=>
  by_cases h:a=0
  ·subst h;obtain⟨k,b,e⟩:=ih (fun x c=>hs x (ER _ c));refine⟨k,by simp;omega,?_⟩;rw[Ff,lQ,jd,e,VP b]
  ·refine⟨C (l++[a]),ah _,?_⟩;exact V9 _ hs _ (ah _) (by rw[iD]) (Or.inr (by simpa using h))
theorem akd (l q:Ja) (m y:Nat) (h:m<C l):(l.take (m+1)++q).set m y=l.take m++y::q:=by
 rw[gR h,p9];have e:C (l.take m)=m:=by simp;omega
 rw[Hj _ _ al,e,rE];rfl
section
open Go.Shelf
attribute [local go_sem] Oper.semAt_some
variable {Bn:Nat}
def B2 (s:ByteArray):Nat:=nb s.data.toList
def B (n:Nat):ByteArray:=⟨(bn n).toArray⟩
theorem cQ (n:Nat):B2 (B n)=n:=XS n
theorem nP (n:Nat):(B n).size=C (bn n):=by simp[B,ByteArray.size]
theorem ajW (s:ByteArray):(⟨(Lib.trimLeftB s.data.toList 0).toArray⟩:ByteArray)=B (B2 s):=by
 rw[B,B2,aaK];rfl
theorem C3 {k:IntKind} {a b:Int} (h:a=b):Ending.returned (J k a)=yW (J k b):=by rw[h]
theorem int_eq {k:IntKind} {a b:Int} (h:a=b):Value.int k a=J k b:=by rw[h]
theorem Gh (s:ByteArray) (w:E):
  c6 244 #[zK s] w fun e w'=>e=yW (zK (B (B2 s)))/\w'=w:=by
 rw[<- ajW];go_enter func244,ntmps244;go_wp2_with (go_at_call 277;refine(Tryz.strings_TrimLeft_one _ 0 a6 _).ae ?_;rintro e w' ⟨rfl,rfl⟩)
 go_ret;exact⟨rfl,rfl⟩
theorem ahU (s:ByteArray) (w:E) (hs:s.size<=140737488355328):
  c6 247 #[zK s] w fun e w'=>e=yW (J I ((s.size+3)/4:Nat))/\w'=w:=by
 go_enter func247,ntmps247;go_wp2;go_ret;exact⟨C3 al,rfl⟩
theorem ans (p c:Nat) (a:p<16777216) (h:c<256):bits .or yE ((p:Int)*256) (c:Int)=((p*256+c:Nat):Int):=by
 have e:(p:Int)*256=((p*256:Nat):Int):=al
 rw[e,u32_or_nat _ _ al al,nat_join 8 _ _ al h]
theorem Ng (s:ByteArray) (k:Nat) (h:k<s.size):s.data.toList.take (k+1)=s.data.toList.take k++[s[k]]:=by
 rw[gR (by simpa using h)];rfl
theorem an6 (l:List UInt8) (k:Nat) (h:C l<=k):nb l<256^k:=
 aT (wK l) (k7 a6 h)
theorem alP (s:ByteArray) (w:E) (hs:s.size<=4):
  c6 279 #[zK s] w fun e w'=>e=yW (J yE (B2 s))/\w'=w:=by
 go_enter func279,ntmps279;go_wp2;go_loop [3,7] (fun n i=>∃k:Nat,k<=s.size/\i=J I k/\n=J yE (nb (s.data.toList.take k))) (fun _ i=>s.size - (intOf i).toNat)
 case atStart=>exact⟨0,aV _,rfl,rfl⟩
 case round=>
  obtain⟨k,a,rfl,rfl⟩:=hrel;by_cases h:k<s.size
  ·have b:nb (s.data.toList.take k)<16777216:=an6 _ 3 (by simp;omega);have c:=s[k].toNat_lt;(have S:wT (nb (s.data.toList.take (k+1))=nb (s.data.toList.take k)*256+s[k].toNat):=by rw[Ng s k h,Bg];rfl);have H:wT (bits .or yE ((nb (s.data.toList.take k):Int)*256) (s[k].toNat:Int)=((nb (s.data.toList.take k)*256+s[k].toNat:Nat):Int)):=ans _ _ b c;generalize nb (s.data.toList.take k)=p at *;go_wp2;go_round
   case rel=>exact⟨k+1,al,bd,by rw[S.o];exact int_eq H.o⟩
   case measure=>simp[intOf];omega
  ·go_wp2;go_ret;exact⟨C3 (by rw[B2,kO (by simp;omega)]),rfl⟩
def qH (Bn:Nat) (V V':E):Prop:=V'.cell? ⟨Bn,0,N⟩=V.cell? ⟨Bn,0,N⟩
theorem qH.t {A B B1:E} (h:qH Bn A B) (k:qH Bn B B1):qH Bn A B1:=Eq.trans k h
theorem qH.b (n:Bn<O (T w)) (V:E) (l:Nat) (o o':Obj) (h:O (T w)<=l) (_:V.heap[l]? =M o) (_:o.isCells=xd) (_:o.isWalk=xd):qH Bn V (V.putObj l o'):=
 iM (zh (show Bn≠l by omega))
def upto (n k:Nat):Ja:=(List.range k).map (part n)
theorem ab5 (n k:Nat):upto n (k+1)=upto n k++[part n k]:=by simp[upto,xN]
theorem ajR (n k:Nat):C (upto n k)=k:=by simp[upto]
theorem amP (s:ByteArray) (k:Nat) (h:4*k<=s.size):B2 (s.extract (s.size - 4*k - 4) (s.size - 4*k))=part (B2 s) k:=by
 rw[B2,B2, <- amS _ _ (by simpa using h)];congr 1
 rw[ByteArray.data_extract];simp[List.drop_take]
theorem alO (s:ByteArray) (k:Nat) (w:E) (h:4*k<=s.size):
  c6 279 #[zK (s.extract (max 0 ((s.size:Int) - (k:Int)*4 - 4)).toNat (s.size - k*4))] w fun e w'=>e=yW (J yE (part (B2 s) k:Nat))/\w'=w:=by
 have a:(max 0 ((s.size:Int) - (k:Int)*4 - 4)).toNat=s.size - 4*k - 4:=al
 have b:s.size - k*4=s.size - 4*k:=al
 rw[a,b, <- amP s k h];exact alP _ w (by rw[ByteArray.size_extract];omega)
theorem art (n:Nat) (j:1<=n) (l Bn:Nat) (s:ByteArray) (hs:s.size<=140737488355328) (Bh a:Ja ->E ->Prop)
  (Y:∀p x V,Bh p V ->C p<(s.size+3)/4 ->YieldAt Fence.wide (n - 1) prog l #[J yE (x:Nat)] V fun e V'=>
   (e=yW (zZ y6)/\Bh (p++[x]) V'/\qH Bn V V')∨(e=yW (zZ xd)/\a (p++[x]) V'))
  (V:E) (Bj:V.cell? ⟨Bn,0,N⟩=M (zK s)) (h0:Bh [] V):
  CallsIn Fence.wide n prog 278 #[.func (.yield l) #[] #[],zR (M ⟨Bn,0,N⟩)] V fun e V'=>(∃v,e=yW v)/\
   ((∃y,y=upto (B2 s) ((s.size+3)/4)/\Bh y V')∨(∃p,(∃k,k<=(s.size+3)/4/\p=upto (B2 s) k)/\a p V')):=by
 refine JP func278 rfl trivial ?_ rfl;simp only[ntmps278,mL,eA,lS,Nat.reduceAdd,Nat.reduceSub,oX,oW,oP,nV,gS,gF];gi_wp2_with (refine⟨trivial,?_⟩;gi_at_call 247;refine(jb.2 (ahU _ _ hs)).ae ?_;rintro e w' ⟨rfl,rfl⟩)
 gi_loopw [7] (fun i wr=>∃k:Nat,k<=(s.size+3)/4/\i=J I k/\Bh (upto (B2 s) k) wr/\wr.cell? ⟨Bn,0,N⟩=M (zK s))
  (fun i _=>(s.size+3)/4 - (intOf i).toNat)
 case atStart=>exact⟨0,aV _,rfl,h0,Bj⟩
 case round=>
  obtain⟨k,g,rfl,h,b⟩:=hrel;by_cases t:k<(s.size+3)/4
  ·obtain⟨fn,q,r,o,m,R⟩:=Y _ (part (B2 s) k) wr h (by rw[ajR];exact t);gi_wp2_with (refine⟨trivial,?_⟩;gi_at_call 279;refine(jb.2 (alO s k _ al)).ae ?_;rintro e w' ⟨rfl,rfl⟩)
   refine R.ae ?_;rintro e W3 (⟨rfl,c,d⟩ |⟨rfl,f⟩)
   ·have B7:W3.cell? ⟨Bn,0,N⟩=M (zK s):=Eq.trans d b;gi_wp2
    go_roundw
    case rel=>exact⟨k+1,al,aE,by rw[ab5];exact c,B7⟩
    case measure=>simp[intOf];omega
   ·gi_wp2
    refine dI (results_none rfl _ _ _) rfl ?_;exact⟨⟨_,rfl⟩,yk ⟨_,⟨k+1,al,(ab5 _ _).symm⟩,f⟩⟩
  ·obtain rfl:k=(s.size+3)/4:=al
   gi_wp2
   go_end0
   exact⟨⟨_,rfl⟩,yd ⟨_,rfl,h⟩⟩
theorem ars (n:Nat) (s:ByteArray) (w:E):
  CallsIn Fence.wide n prog 248 #[zK s] w fun e w'=>e=yW (.func (.func 278) #[] #[zR (M ⟨O (T w),0,N⟩)])/\w'=w.alloc (yM #[zK s] 61):=by
 refine JP func248 rfl trivial ?_ rfl;simp only[ntmps248,mL,eA,lS,Nat.reduceAdd,Nat.reduceSub,oX,oW,oP,nV,gS,gF];gi_wp2
 go_ret;exact⟨rfl,rfl⟩
theorem arq (n:Nat) (d:1<=n) (Bn:Nat) (s:ByteArray) (hs:s.size<=140737488355328) (w:E) (Bj:Bn<O (T w)) (c:w.cell? ⟨Bn,0,N⟩=M (zK s)):
  SeqStopsK Fence.wide n prog 278 #[zR (M ⟨Bn,0,N⟩)] (fun x:Nat=> #[Value.int yE (x:Nat)]) (qH Bn) (fun y=>y=upto (B2 s) ((s.size+3)/4)) (fun e=>∃k,k<=(s.size+3)/4/\e=upto (B2 s) k) ((s.size+3)/4) w:=fun l Bh a V b _ _ Y h=>
 art n d l Bn s hs Bh a Y V ((b.cell (p:=⟨Bn,0,N⟩) Bj).trans c) h
theorem Tryz.infoU32:(prog.info? 157).map (fun i=>(i.zero,i.size,i.bytes))=M (M (J yE 0),1,4):=ao
def u32 (x:Nat):Value:=J yE (x:Nat)
theorem ajQ (n:Nat):upto n (((B n).size+3)/4)=words n:=by
 rw[nP, <- Rj,upto, <- ajC]
end
section
open Go.Shelf
attribute [local go_sem] Oper.semAt_some
theorem jV (s:ByteArray):(B (B2 s)).size<=s.size:=by
 rw[nP,B2,aaK];have:C (s.data.toList.dropWhile (·==0))<=C s.data.toList:=(List.dropWhile_sublist _).length_le;simpa using this
end
def lenOf:wF ->Nat |.slice _ n _=>n |_=>0
theorem RF (b f cap:Nat) (l:Ja) (w:E) (hs:Small l) (u:C l<=cap) (i:C l<=140737488355328)
  (d:∀j,j<C l ->w.cell? ⟨b,f+j,N⟩=M (J yE (l[j]?.getD 0:Nat))):
  c6 245 #[Z (M ⟨b,f,N⟩) (C l) cap] w fun e w'=>e=yW (Z (M ⟨b,f,N⟩) (C (words (nw l))) cap)/\w'=w:=by
 go_enter func245,ntmps245;go_wp2;go_loop [0] (fun v=>∃k:Nat,k<=C l/\v=Z (M ⟨b,f,N⟩) k cap/\nw (l.take k)=nw l) (fun v=>lenOf v)
 case atStart=>exact⟨C l,ah _,rfl,by rw[iD]⟩
 case round=>
  obtain⟨k,a,rfl,n⟩:=hrel;have H:wT (nw (l.take k)=nw l):=n;clear n;by_cases c:k=0
  ·subst c;have e:=V9 l hs 0 (aV _) H.o (Or.inl rfl);(have Bm:wT (C (words (nw l))=0):=by rw[e];rfl);clear e;go_wp2;go_ret;exact⟨by rw[Bm.o];rfl,rfl⟩
  ·have g:=d (k - 1) al;by_cases h:l[k - 1]?.getD 0=0
   ·have p:wT (nw (l.take (k - 1))=nw l):=by
     have e:=XG l (k - 1) al;rw[show k - 1+1=k by omega,H.o] at e;rw[a7 al] at h;simp only[CH] at h;rw[h,lQ,jd] at e;exact e.symm
    rw[h] at g;go_wp2;go_round
    case rel=>exact⟨k - 1,al,rfl,p.o⟩
    case measure=>simp[lenOf];omega
   ·have e:=V9 l hs k a H.o (Or.inr h);(have Bm:wT (C (words (nw l))=k):=by rw[e,fh];exact uO a);clear e;go_wp2;go_ret;exact⟨by rw[Bm.o];rfl,rfl⟩
theorem ak8 (w:E):
  c6 245 #[Z N 0 0] w fun e w'=>e=yW (Z N 0 0)/\w'=w:=by
 go_enter func245,ntmps245;go_wp2;refine Mz 1 ?_;rw[sP];go_wp2;go_ret;exact⟨rfl,rfl⟩
def cV (x k:Nat):Int:=((x/256^k % 256:Nat):Int)
theorem att (x:Nat) (h:x<18446744073709551616):cV x 7=(x:Int)/72057594037927936/\cV x 6=(x:Int)/281474976710656 % 256/\cV x 5=(x:Int)/1099511627776 % 256/\cV x 4=(x:Int)/4294967296 % 256/\
  cV x 3=(x:Int)/16777216 % 256/\cV x 2=(x:Int)/65536 % 256/\cV x 1=(x:Int)/256 % 256/\cV x 0=(x:Int) % 256:=by
 unfold cV;simp only[Nat.reducePow];omega
theorem aie (x:Nat) (w:E) (i:x<18446744073709551616):
  c6 243 #[J .u64 (x:Nat)] w (dj w (zd #[J .u8 (cV x 7),J .u8 (cV x 6),J .u8 (cV x 5),J .u8 (cV x 4),J .u8 (cV x 3),J .u8 (cV x 2),J .u8 (cV x 1),J .u8 (cV x 0)])):=by
 obtain⟨h,g,f,d,c,b,a,e⟩:=att x i;rw[h,g,f,d,c,b,a,e];clear h g f d c b a e;go_enter func243,ntmps243;go_wp2;refine Mz 9 ?_;rw[sP];go_wp2;rw[sP];go_wp2;rw[sP];go_wp2;rw[sP];go_wp2;rw[sP];go_wp2;rw[sP];go_wp2;rw[sP];go_wp2;rw[sP];go_wp2;rw[sP];go_wp2;refine dI (v:=zd #[J .u8 ((x:Int)/72057594037927936),J .u8 ((x:Int)/281474976710656 % 256),J .u8 ((x:Int)/1099511627776 % 256),J .u8 ((x:Int)/4294967296 % 256),J .u8 ((x:Int)/16777216 % 256),J .u8 ((x:Int)/65536 % 256),J .u8 ((x:Int)/256 % 256),J .u8 ((x:Int) % 256)]) (by simp[results,Tryz.results243,go_sem]) rfl ⟨rfl,?_⟩;exact(((au _ _).alloc (ah _) _).alloc aE _)
theorem Ge (x c:Nat):x/(c*256)*256+x/c % 256=x/c:=by rw[<- VM];exact Nat.div_add_mod' _ _
theorem asn (x:Nat) (h:x<18446744073709551616):0*256+x/72057594037927936 % 256=x/72057594037927936:=al
theorem ahN (x:Nat):x/256*256+x/1 % 256=x:=al
theorem an9 (x:Nat) (f:x<18446744073709551616):B2 (strOfNums [cV x 7,cV x 6,cV x 5,cV x 4,cV x 3,cV x 2,cV x 1,cV x 0])=x:=by
 have e:=Ge x 281474976710656;have d:=Ge x 1099511627776;have c:=Ge x 4294967296;have b:=Ge x 16777216;have a:=Ge x 65536;have h:=Ge x 256;simp only[Nat.reduceMul] at e d c b a h;simp only[B2,JN,gw,oQ,cV,oU,nb,tY,List.foldl_nil,UInt8.toNat_ofNat',Nat.reducePow,Nat.mod_mod];rw[asn x f,e,d,c,b,a,h,ahN]
theorem ajF (x:Nat) (t:TypeId) (w:E):∀i,i< 8 ->(w.alloc (yM #[J .u8 (cV x 7),J .u8 (cV x 6),J .u8 (cV x 5),J .u8 (cV x 4),J .u8 (cV x 3),J .u8 (cV x 2),J .u8 (cV x 1),J .u8 (cV x 0)] t)).cell? ⟨O (T w),0+i,N⟩=
  M (J .u8 (([cV x 7,cV x 6,cV x 5,cV x 4,cV x 3,cV x 2,cV x 1,cV x 0]:Kx).getD i 0)):=by
 intro i h;rcases (show i=0∨i=1∨i=2∨i=3∨i=4∨i=5∨i=6∨i=7 by omega) with rfl |rfl |rfl |rfl |rfl |rfl |rfl |rfl<;>simp
theorem aer (x:Nat) (w:E) (h:x<18446744073709551616):
  c6 195 #[J .u64 (x:Nat)] w (dj w (zK (B x))):=by
 have Q:=fun (a:E)=>JO (P:=prog) (a.alloc (yM #[J .u8 (cV x 7),J .u8 (cV x 6),J .u8 (cV x 5),J .u8 (cV x 4),J .u8 (cV x 3),J .u8 (cV x 2),J .u8 (cV x 1),J .u8 (cV x 0)] 261)) 148 5 underlying148 underlying5 (O (T a)) 0 8 8 _ rfl (ajF x _ a) 61 underlying61;have H:wT (B2 (strOfNums [cV x 7,cV x 6,cV x 5,cV x 4,cV x 3,cV x 2,cV x 1,cV x 0])=x):=an9 x h;go_enter func195,ntmps195
 go_wp2_with (first
  |(go_at_call 243;refine(aie x _ h).ae ?_;rintro e a ⟨rfl,b⟩)
  |(go_at_call 244;refine(Gh _ _).ae ?_;rintro e c ⟨rfl,rfl⟩;rw[H.o]))
 go_ret;exact⟨rfl,b.alloc b.size _⟩
variable {xs:List wF} {g:Nat}
def vH (x:Nat):Kx:=[cV x 3,cV x 2,cV x 1,cV x 0]
def qj:Ja ->Kx
 |[]=>[]
 |x::r=>qj r++vH x
theorem ao5 (a:Ja) (y:Nat):qj (a++[y])=vH y++qj a:=by
 induction a with
 |nil=>simp[qj]
 |cons x a ih=>rw[gF,qj,ih,qj,p9]
theorem X0 (a:Ja):C (qj a)=4*C a:=by
 induction a with
 |nil=>rfl
 |cons x a ih=>rw[qj,cE,ih];simp[vH];omega
theorem asm (x:Nat) (h:x<4294967296):0*256+x/16777216 % 256=x/16777216:=al
theorem aoa (x:Nat) (b:x<W):nb ((vH x).map fun n=>UInt8.ofNat n.toNat)=x:=by
 rw[iZ] at b;have c:=asm x b;have a:=Ge x 65536;have h:=Ge x 256;simp only[Nat.reduceMul] at a h;simp only[vH,gw,oQ,cV,oU,nb,tY,List.foldl_nil,UInt8.toNat_ofNat',Nat.reducePow,Nat.mod_mod];rw[c,a,h,ahN]
theorem auk (l:Ja) (hs:Small l):B2 (strOfNums (qj l))=nw l:=by
 rw[B2,JN];induction l with
 |nil=>rfl
 |cons x r ih=>
  rw[qj,gV,Fi,ih (fun y h=>hs y (dZ _ h)),aoa x (hs x dJ),lZ,cY];show nw r*256^4+x=x+W*nw r;rw[eQ,EO];rfl
def rQ (l:Ja) (k:Nat):Kx:=List.replicate (4*(C l - k)) 0++qj (l.take k)
theorem ang (l:Ja):rQ l 0=List.replicate (4*C l) 0:=by simp[rQ,qj]
theorem anj (l:Ja):rQ l (C l)=qj l:=by simp[rQ]
theorem ani (l:Ja) (k:Nat) (h:k<=C l):C (rQ l k)=4*C l:=by
 rw[rQ,cE,tW,X0,fh,uO h];omega
theorem anh (l:Ja) (k:Nat) (h:k<C l):splice (rQ l k) (4*C l - 4*k - 4) (vH (l[k]?.getD 0))=rQ l (k+1):=by
 rw[a7 h,CH];have e:4*(C l - k)=(4*C l - 4*k - 4)+4:=al
 have a:4*(C l - (k+1))=4*C l - 4*k - 4:=al
 rw[rQ,rQ,gR h,ao5,e,a, <- abw,splice];generalize 4*C l - 4*k - 4=m;have d:C (vH l[k])=4:=rfl;rw[d]
 have b:(List.replicate m (0:Int)++List.replicate 4 0++qj (l.take k)).take m=List.replicate m 0:=by
  rw[p9,VP aE];simp
 have c:(List.replicate m (0:Int)++List.replicate 4 0++qj (l.take k)).drop (m+4)=qj (l.take k):=by
  rw[List.drop_append_of_le_length aE];simp
 rw[b,c]
theorem acH {α β:Type} (f:α ->β) (L:List α) (o:Nat) (c:List α):splice (L.map f) o (c.map f)=(splice L o c).map f:=by
 simp[splice,QX,List.map_drop]
def u8 (x:Int):Value:=J .u8 x
theorem Tryz.infoByte:(prog.info? 5).map (fun i=>(i.zero,i.size,i.bytes))=M (M (J .u8 0),1,1):=ao
theorem ajD (l:Ja) (hs:Small l):C (words (nw l))<=C l/\∀j,j<C (words (nw l)) ->(words (nw l))[j]?.getD 0=l[j]?.getD 0:=by
 obtain⟨k,a,e⟩:=Rh l hs;rw[e];refine⟨by simp;omega,fun j h=>?_⟩;rw[sQ,aw (by simp at h;omega)]
theorem sB {base:Nat} {t:TypeId} (h:w.ownsRow base t 1 (Z (M ⟨g,0,N⟩) n n) n xs):w.heap[g]? =M (yM xs.toArray t (0,0)):=by
 rcases h.2 with ⟨a,_⟩ |⟨g',p,c,a,_,b,F,_,s,m⟩
 ·cases a
 ·cases a;rw[b, <- m,kO (by simp;omega)]
theorem ae4 (n:Nat):(madeCells (Value.int .u8 0).cells (n*1)).toList=(List.replicate n (0:Int)).map u8:=by
 rw[show (Value.int .u8 0).cells= #[Value.int .u8 0] from rfl,MA,qM,QY];rfl
theorem atz (x:Nat) (t:TypeId) (w:E):∀j v,((vH x).map u8)[j]? =M v ->(w.alloc (yM #[J .u8 (cV x 7),J .u8 (cV x 6),J .u8 (cV x 5),J .u8 (cV x 4),J .u8 (cV x 3),J .u8 (cV x 2),J .u8 (cV x 1),J .u8 (cV x 0)] t)).cell? ((⟨O (T w),4,N⟩:Addr).add j)=M v:=by
 intro j v a
 have b:j<4:=by
  rcases dX j 4 with h |h
  ·exact h
  ·rw[iT (by simpa [vH] using h)] at a;cases a
 have d:(⟨O (T w),4,N⟩:Addr).add j=⟨O (T w),4+j,N⟩:=by unfold Addr.add;split<;>simp_all
 rw[d];rcases (show j=0∨j=1∨j=2∨j=3 by omega) with rfl |rfl |rfl |rfl<;>simp[vH,u8] at a<;>subst a<;>simp
theorem aab (g cap:Nat) (l:Ja) (w:E) (hs:Small l) (uz:C l<=cap) (aq:C l<=35184372088832) (B7:g<O (T w))
  (d:∀j,j<C l ->w.cell? ⟨g,0+j,N⟩=M (J yE (l[j]?.getD 0:Nat))):
  c6 196 #[Z (M ⟨g,0,N⟩) (C l) cap] w (dj w (zK (B (nw l)))):=by
 obtain⟨i0,f,ad,ai,aj⟩:=eC Tryz.infoByte;have u:=RF g 0 cap l w hs uz al d;obtain⟨an,Bh⟩:=ajD l hs;have F:=oY (nw l);have B9:wT (B2 (strOfNums (qj (words (nw l))))=nw l):=by show _=_;rw[auk _ F,lY]
 have A:∀j,j<C (words (nw l)) ->w.cell? ⟨g,j,N⟩=M (J yE ((words (nw l))[j]?.getD 0:Nat)):=fun j hj=>by
  have:=d j al;rw[bQ] at this;rw[this,Bh j hj]
 generalize words (nw l)=ws at *;have Q:wT (∀j,j<C ws ->w.cell? ⟨g,j,N⟩=M (J yE (ws[j]?.getD 0:Nat))):=A;have S:wT (c6 245 #[Z (M ⟨g,0,N⟩) (C l) cap] w fun e w'=>e=yW (Z (M ⟨g,0,N⟩) (C ws) cap)/\w'=w):=u;clear d Bh A u;go_enter func196,ntmps196
 go_wp2_with (first
  |(go_at_call 245;refine(S.o).ae ?_;rintro e a ⟨rfl,q⟩;subst q)
  |(at_make;refine oK _ rfl _ _ 148 rfl (O (T a)) 5 i0 (J .u8 0) 1 underlying148 f ad ai I I _ _ (4*C ws) rfl rfl al al (by rw[aj];omega) (by unfold maxLen;omega) (ah _) ?_;intro v L Bb))
 have m:=sB L;rw[ae4, <- ang] at m;have y:da a v:=(au _ a).grown Bb (ah _) (fun k e=>by cases e);have Bj:wT (v.heap[O (T a)]? =M (yM ((rQ ws 0).map u8).toArray 5 (0,0))):=m;clear L Bb m S
 go_loopw [16] (fun i wr=>∃k:Nat,k<=C ws/\i=J I k/\wT (wr.heap[O (T a)]? =M (yM ((rQ ws k).map u8).toArray 5 (0,0)))/\da a wr)
  (fun i _=>C ws - (intOf i).toNat)
 case atStart=>exact⟨0,aV _,rfl,Bj,y⟩
 case round=>
  obtain⟨k,hk,rfl,H,c⟩:=hrel;clear Bj y;by_cases h:k<C ws
  ·have ab:wr.cell? ⟨g,k,N⟩=M (J yE (ws[k]?.getD 0:Nat)):=(c.cell (p:=⟨g,k,N⟩) B7).trans (Q.o k h)
   have x8:ws[k]?.getD 0<4294967296:=by
    rw[a7 h];exact F _ (bU h)
   have r:wT (splice (rQ ws k) (4*C ws - 4*k - 4) (vH (ws[k]?.getD 0))=rQ ws (k+1)):=anh ws k h;have FE:=ani ws k hk;generalize ws[k]?.getD 0=x at *;go_wp2_with (go_at_call 243;refine(aie x _ al).ae ?_;rintro e b ⟨rfl,n⟩)
   have s:da a b:=c.trans (n.ae c.size)
   have K:∀o,(b.alloc o).heap[O (T a)]? =M (yM ((rQ ws k).map u8).toArray 5 (0,0)):=fun o=>by
    have z:O (T a)<O (T wr):=(cS.1 H.o).1;rw[uP _ _ _ (aT z n.size),n.block _ z];exact H.o
   have X:wT (∀o,(b.alloc o).heap[O (T a)]? =M (yM ((rQ ws k).map u8).toArray 5 (0,0))):=K;clear K ab;obtain⟨Bm,t⟩:∃Bm,Bm=4*C ws - 4*k - 4:=⟨_,rfl⟩;(have f1:IntKind.i64.wrap (4*(C ws:Int) - (k:Int)*4 - 4)=(Bm:Int):=by rw[js];omega);(have R:(k:Int)*4<=4*(C ws:Int):=al);(have Ba:4*(C ws:Int) - (k:Int)*4<=4*(C ws:Int):=al);(have U:(Bm:Int)<=4*(C ws:Int) - (k:Int)*4:=al);(have V:¬4*C ws=Bm:=al);(have Y:(4*(C ws:Int) - (k:Int)*4).toNat - Bm=4:=al);(have ak:Bm+4<=4*C ws:=al);rw[<- t] at r;clear t;go_region_law (refine step_copy_splice rfl (.tmp 33) (.tmp 34) 148 148 rfl 5 underlying148 ao _ _ _ _ _ _ rfl rfl (O (T a)) Bm ((rQ ws k).map u8) 5 (by exact X.o _) ((vH x).map u8) rfl (fun _=>⟨rfl,_,rfl,by exact atz x _ b⟩) (by simp[vH];omega) (by simp[vH,u8,Value.oneCell']) (O (T a)) a (by exact(s.alloc s.size _).drew) (ah _) ?_;intro w4 D aa)
   clear f1 R Ba U V Y X;go_wp2;go_roundw
   case rel=>exact⟨k+1,al,bd,by rw[acH,r.o] at D;exact D,aa⟩
   case measure=>simp[intOf];omega
  ·obtain rfl:k=C ws:=al
   have BQ:=JO (P:=prog) wr 148 5 underlying148 underlying5 (O (T a)) 0 (4*C ws) (4*C ws) (qj ws) (X0 ws) (fun i f=>by
    have e:=ba wr (O (T a)) (0+i) _ _ _ H.o;rw[e,anj];(have py:i<C (qj ws):=by rw[X0];exact f);simp[u8,a7 py,cF]) 61 underlying61
   clear H;go_wp2_with (go_at_call 244;refine(Gh _ _).ae ?_;rintro e b ⟨rfl,q⟩;subst q)
   go_ret;exact⟨by rw[B9.o];rfl,c⟩
variable {l':Ja} {cap g' j m off':Nat}
def bM (w:E) (g off:Nat) (l:Ja):Prop:=
 ∃cur,w.heap[g]? =M (yM cur 157 (0,0))/\off+C l<=cur.size/\∀j,j<C l ->cur[off+j]? =M (u32 (l[j]?.getD 0))
theorem bM.cell {f:Nat} {l:Ja} (h:bM w g f l) (j:Nat) (b:j<C l):w.cell? ⟨g,f+j,N⟩=M (J yE (l[j]?.getD 0:Nat)):=by
 obtain⟨r,a,_,c⟩:=h;rw[ba w g (f+j) r _ (0,0) a];exact c j b
theorem bM.frozen {f:Nat} {l:Ja} (h:bM w g f l) (j:Nat):w.frozen? ⟨g,j,N⟩=false:=by
 obtain⟨c,a,_,_⟩:=h;exact gj w g j c _ a
theorem bM.lt {f:Nat} {l:Ja} (h:bM w g f l):g<O (T w):=by
 obtain⟨c,a,_,_⟩:=h;exact(cS.1 a).1
theorem bM.of_block {f:Nat} {l:Ja} (h:bM w g f l) (e:w'.heap[g]? =w.heap[g]?):bM w' g f l:=by
 obtain⟨r,c,a,b⟩:=h;exact⟨r,e.trans c,a,b⟩
theorem bM.aa {f B:Nat} {l:Ja} (h:bM w g f l) (b:Below B w w') (a:g<B):bM w' g f l:=h.of_block (b.block g a)
theorem bM.grown {f:Nat} {row:Option Nat} {l:Ja} (h:bM w g f l) (b:w.grownBy w' row) (e:M g≠row):bM w' g f l:=h.of_block (b.block g h.lt e)
theorem bM.piece {f:Nat} {l:Ja} (h:bM w g f l) (a n:Nat) (e:a+n<=C l):bM w g (f+a) ((l.drop a).take n):=by
 obtain⟨r,c,d,b⟩:=h;have k:C ((l.drop a).take n)=n:=by simp;omega
 refine⟨r,c,al,fun j i=>?_⟩;rw[zl,b (a+j) al,sQ,aw al,MU]
structure dL (g off n:Nat) (w w':E):Prop where
 grown:w.grownBy w' (M g)
 inside:∀cur,w.heap[g]? =M (yM cur 157 (0,0)) ->∃cur',w'.heap[g]? =M (yM cur' 157 (0,0))/\cur'.size=cur.size/\∀i,(i<off∨off+n<=i) ->cur'[i]? =cur[i]?
theorem dL.refl (g f n:Nat) (w:E):dL g f n w w:=⟨World.grownBy.refl _ _,fun c h=>⟨c,h,rfl,fun _ _=>rfl⟩⟩
theorem dL.trans {f:Nat} {a b c:E} (h:dL g f n a b) (k:dL g f n b c):dL g f n a c:=
 ⟨h.grown.trans k.grown,fun u q=>by
  obtain⟨e,o,s,l⟩:=h.inside u q;obtain⟨j,p,r,m⟩:=k.inside e o;exact⟨j,p,r.trans s,fun i d=>(m i d).trans (l i d)⟩⟩
theorem dL.ae {f n':Nat} (h:dL g f n w w') (h1:off'<=f) (d:f+n<=off'+n'):dL g off' n' w w':=
 ⟨h.grown,fun r b=>by
  obtain⟨c,a,s,e⟩:=h.inside r b;exact⟨c,a,s,fun i j=>e i al⟩⟩
theorem dL.aa {f B:Nat} {a:E} (c:Below B a w) (h:dL g f n w w') (b:B<=g) (hs:B<=O (T w)):Below B a w':=
 c.grown h.grown hs (fun k e=>by cases e;exact b)
theorem OQ (w:E) (g j:Nat) (c:Array wF) (t:TypeId) (u:wF) (h:w.heap[g]? =M (yM c t (0,0))):(w.setCell ⟨g,j,N⟩ u).heap[g]? =M (yM (c.setIfInBounds j u) t (0,0)):=
 jW w g j c t u h
theorem dL.setCell {f:Nat} (h1:f<=j) (a:j<f+n) (u:wF):dL g f n w (w.setCell ⟨g,j,N⟩ u):=by
 refine⟨⟨rfl,rfl,rfl,by simp[World.setCell],fun k _ h=>eW _ _ _ _ (by rintro rfl;exact h rfl)⟩,fun r c=>?_⟩;refine⟨_,OQ w g j r _ u c,aE,fun i b=>?_⟩;rw[Array.getElem?_setIfInBounds_ne al]
theorem bM.set {f:Nat} {l:Ja} (h:bM w g f l) (j:Nat) (k:j<C l) (x:Nat):bM (w.setCell ⟨g,f+j,N⟩ (J yE (x:Nat))) g f (l.set j x):=by
 obtain⟨r,d,b,c⟩:=h;refine⟨_,OQ w g (f+j) r _ _ d,by simpa using b,fun i a=>?_⟩;rw[gA] at a;by_cases e:i=j
 ·subst e;rw[Array.getElem?_setIfInBounds_self_of_lt al];simp[k,u32]
 ·rw[Array.getElem?_setIfInBounds_ne al,c i a,wj al]
theorem bM.beside {f:Nat} {l:Ja} (h:bM w g f l) (u:dL g off' n w w') (m:f+C l<=off'∨off'+n<=f):bM w' g f l:=by
 obtain⟨r,d,k,b⟩:=h;obtain⟨c,a,s,e⟩:=u.inside r d;exact⟨c,a,al,fun j i=>(e (f+j) al).trans (b j i)⟩
theorem bM.apart {f:Nat} {l:Ja} (h:bM w g f l) (u:dL g' off' n w w') (d:g≠g'):bM w' g f l:=
 h.grown u.grown (by simp[d])
theorem bM.append {f:Nat} {a b:Ja} (k:bM w g f a) (l:bM w g (f+C a) b):bM w g f (a++b):=by
 obtain⟨r,h,n,c⟩:=k;obtain⟨u,i,o,d⟩:=l;rw[h] at i;cases i;refine⟨r,h,by simp;omega,fun j m=>?_⟩;rw[cE] at m;by_cases e:j<C a
 ·rw[Q3 e,c j e]
 ·rw[JU al];have:=d (j - C a) al;rwa [show f+C a+(j - C a)=f+j by omega] at this
theorem E9 {base:Nat} {l:Ja} (h:w.ownsRow base 157 1 (Z (M ⟨g,0,N⟩) n cap) n (l.map u32)):n=C l/\l.length<=cap/\base<=g/\bM w g 0 l:=by
 have i:n=C l:=by have:=h.1;simp at this;exact this.symm
 rcases h.2 with ⟨a,_⟩ |⟨g',p,c,a,d,f,F,_,s,m⟩
 ·cases a
 ·cases a;refine⟨i,al,d,c,f,al,fun j b=>?_⟩;have e:(c.toList.take (n*1))[j]? =(l.map u32)[j]?:=by rw[m]
  rw[sQ,aw al,k9,a7 b] at e;rw[bQ,a7 b];simpa using e
theorem ad0 {base:Nat} {l:Ja} (h:w.ownsRow base 157 1 (Z (M ⟨g,0,N⟩) n cap) n (l.map u32)) (u:dL g 0 m w w') (o:bM w' g 0 l') (q:C l'=n):w'.ownsRow base 157 1 (Z (M ⟨g,0,N⟩) n cap) n (l'.map u32):=by
 refine⟨by simp[q],?_⟩;rcases h.2 with ⟨a,_⟩ |⟨g',x,r,a,j,k,F,p,z,B7⟩
 ·cases a
 ·cases a;obtain⟨e,c,v,_⟩:=u.inside r k;obtain⟨s,d,t,f⟩:=o;rw[c] at d;cases d;refine yk ⟨g,cap,e,rfl,j,c,F,p,al,?_⟩;apply MV;intro i;rw[sQ,k9];by_cases b:i<C l'
  ·have:=f i b;rw[bQ,a7 b] at this;rw[aw al,a7 b,wu,this];rfl
  ·rw[aC al,iT al];rfl
theorem am3 {base:Nat} {v:wF} {l:Ja} (h:w.ownsRow base 157 1 v n (l.map u32)):n=C l:=by have:=h.1;simp at this;exact this.symm
theorem Sd {base B:Nat} {e:TypeId} {i:Nat} {v:wF} (h:w.ownsRow base e i v n xs) (c:Below B w w') (b:O (T w)<=B):w'.ownsRow base e i v n xs:=by
 refine⟨h.1,?_⟩;rcases h.2 with a |⟨g,cap,u,d,f,r,j⟩
 ·exact yd a
 ·exact yk ⟨g,cap,u,d,f,(c.block g (aT (cS.1 r).1 b)).trans r,j⟩
theorem Ny {base:Nat} {l:Ja} (c:Array wF) (b:w.heap[g]? =M (yM c 157 (0,0))) (hs:c.size=cap) (e:base<=g) (m:cap<=maxLen) (f:C l<=cap) (j:bM w g 0 l):w.ownsRow base 157 1 (Z (M ⟨g,0,N⟩) (C l) cap) (C l) (l.map u32):=by
 refine⟨aE,yk ⟨g,cap,c,rfl,e,b,f,m,al,?_⟩⟩;obtain⟨k,a,n,d⟩:=j;rw[b] at a;cases a;apply MV;intro i;rw[sQ,k9];by_cases h:i<C l
 ·have:=d i h;rw[bQ,a7 h] at this;rw[aw al,a7 h,wu,this];rfl
 ·rw[aC al,iT al];rfl
def Has (w:E) (base:Nat) (v:wF) (l:Ja):Prop:=w.ownsRow base 157 1 v (C l) (l.map u32)
theorem Has.cases {base:Nat} {v:wF} {l:Ja} (h:Has w base v l):(v=Z N 0 0/\l=[])∨∃g cap,v=Z (M ⟨g,0,N⟩) (C l) cap/\l.length<=cap/\base<=g/\bM w g 0 l:=by
 rcases h.2 with ⟨a,n⟩ |⟨g,cap,u,a,r⟩
 ·exact yd ⟨a,Q6 n⟩
 ·subst a;obtain⟨_,b,c,d⟩:=E9 h;exact yk ⟨g,cap,rfl,b,c,d⟩
theorem Has.aa {base B:Nat} {v:wF} {l:Ja} (h:Has w base v l) (b:Below B w w') (a:O (T w)<=B):Has w' base v l:=Sd h b a
theorem asx {base:Nat} {l:Ja} (k:Nat) (d:k<=C l) (h:w.ownsRow base 157 1 (Z (M ⟨g,0,N⟩) n cap) n (l.map u32)):w.ownsRow base 157 1 (Z (M ⟨g,0,N⟩) k cap) k ((l.take k).map u32):=by
 have e:=am3 h;refine⟨by simp;omega,?_⟩;rcases h.2 with ⟨a,_⟩ |⟨g',p,r,a,b,c,F,m,s,B7⟩
 ·cases a
 ·cases a;refine yk ⟨g,cap,r,rfl,b,c,al,m,s,?_⟩;rw[QX, <- B7,List.take_take,uO al,qM]
theorem aq1 (w:E):c6 196 #[Z N 0 0] w (dj w (zK (B 0))):=by
 obtain⟨d,h,z,f,l⟩:=eC Tryz.infoByte;have Q:=fun (c:E)=>JO (P:=prog) c 148 5 underlying148 underlying5 (O (T w)) 0 0 0 [] rfl (fun i h=>absurd h (EM _)) 61 underlying61;have H:wT (B2 (strOfNums [])=0):=rfl;go_enter func196,ntmps196
 go_wp2_with (first
  |(go_at_call 245;refine(ak8 _).ae ?_;rintro e b ⟨rfl,a⟩;subst a)
  |(at_make;refine oK _ rfl _ _ 148 rfl (O (T b)) 5 d (J .u8 0) 1 underlying148 h z f I I _ _ 0 rfl rfl rfl rfl al (by unfold maxLen;omega) (ah _) ?_;intro c n g))
 refine Mz 1 ?_;rw[sP];go_wp2_with (go_at_call 244;refine(Gh _ _).ae ?_;rintro e j ⟨rfl,a⟩;subst a)
 go_ret;exact⟨by rw[H.o];rfl,(au _ b).grown g (ah _) (fun k e=>by cases e)⟩
theorem TR (base:Nat) (v:wF) (l:Ja) (w:E) (hs:Small l) (e:C l<=35184372088832) (h:Has w base v l):
  c6 196 #[v] w (dj w (zK (B (nw l)))):=by
 rcases h.cases with ⟨rfl,rfl⟩ |⟨g,cap,rfl,u,c,a⟩
 ·rw[o7];exact aq1 w
 ·exact aab g cap l w hs u e a.lt (fun j b=>a.cell j b)
theorem aei (r x:Nat) (h:r<4294967296) (a:x<4294967296):bits .or .u64 ((r:Int)*4294967296) (x:Int)=((r*4294967296+x:Nat):Int):=by
 have e:(r:Int)*4294967296=((r*4294967296:Nat):Int):=al
 rw[e,u64_or_nat _ _ al al,nat_join 32 _ _ al al]
def G:Nat:=1000000000
theorem aD {p:Prop} (h:p):wT p:=h
theorem Has.upd {base:Nat} {l:Ja} (h:Has w base (Z (M ⟨g,0,N⟩) n cap) l) (u:dL g 0 m w w') (b:bM w' g 0 l') (e:C l'=C l):Has w' base (Z (M ⟨g,0,N⟩) n cap) l':=by
 have c:n=C l:=by
  rcases h.2 with ⟨a,_⟩ |⟨g',p,r,a,_⟩
  ·cases a
  ·cases a;rfl
 subst c;have:=ad0 h u b e;rw[Has,e];exact this
theorem Ug (q l:Ja) (k y:Nat) (a:C q=k) (h:k<C l):(q++l.drop k).set k y=q++[y]++l.drop (k+1):=by
 rw[Hj _ _ al,a,rE,qP h,CM,p9];rfl
variable {k:Nat} {f:Nat ->Nat}
def j6 (f:Nat ->Nat):Nat ->Nat
 |0=>0
 |k+1=>j6 f k+W^k*f k
theorem aev (f g:Nat ->Nat) (k:Nat):j6 (fun j=>f j+g j) k=j6 f k+j6 g k:=by
 induction k with
 |zero=>rfl
 |succ k ih=>simp only[j6,ih,oO];omega
theorem aet (c:Nat) (f:Nat ->Nat) (k:Nat):j6 (fun j=>c*f j) k=c*j6 f k:=by
 induction k with
 |zero=>rfl
 |succ k ih=>simp only[j6,ih,oO];congr 1;rw[<- jr,eQ (W^k) c,jr]
theorem KF (l:Ja) (k:Nat):j6 (fun j=>l[j]?.getD 0) k=nw (l.take k):=by
 induction k with
 |zero=>simp[j6,o7]
 |succ k ih=>
  rw[j6,ih];by_cases h:k<C l
  ·rw[XG l k h,a7 h];rfl
  ·rw[iT al,kO (by omega:C l<=k),kO (by omega:C l<=k+1)];simp
theorem aeu (l:Ja) (k:Nat) (h:C l<=k):j6 (fun j=>l[j]?.getD 0) k=nw l:=by rw[KF,kO h]
theorem anN {g:Nat ->Nat} (h:∀j,j< k ->f j=g j):j6 f k=j6 g k:=by
 induction k with
 |zero=>rfl
 |succ k ih=>rw[j6,j6,ih (fun j a=>h j al),h k al]
def acc (f:Nat ->Nat):Nat ->Ja×Nat
 |0=>([],0)
 |k+1=>((acc f k).1++[((acc f k).2+f k) % W],((acc f k).2+f k)/W)
theorem PJ (f:Nat ->Nat) (k:Nat):(acc f k).1.length=k:=by
 induction k with
 |zero=>rfl
 |succ k ih=>simp[acc,ih]
theorem aaY (f:Nat ->Nat) (k:Nat):Small (acc f k).1:=by
 induction k with
 |zero=>intro x h;simp[acc] at h
 |succ k ih=>
  intro x h;rw[acc] at h;rcases bE.1 h with h |h
  ·exact ih x h
  ·simp at h;subst h;exact jc _ nG
theorem aaZ (f:Nat ->Nat) (k:Nat):nw (acc f k).1+W^k*(acc f k).2=j6 f k:=by
 induction k with
 |zero=>simp[acc,j6,o7]
 |succ k ih=>
  rw[acc,j6,Ff,PJ, <- ih,jI,jr];have e:=Nat.mod_add_div ((acc f k).2+f k) W
  have:W^k*(((acc f k).2+f k) % W)+W^k*(W*(((acc f k).2+f k)/W))=W^k*(acc f k).2+W^k*f k:=by
   rw[<- oO,e,oO]
  show nw (acc f k).1+W^k*(((acc f k).2+f k) % W)+W^k*(W*(((acc f k).2+f k)/W))=_;omega
theorem aa0 (f:Nat ->Nat) (b:Nat) (k:Nat) (h:∀j,j< k ->f j+b<(b+1)*W):(acc f k).2<=b:=by
 induction k with
 |zero=>exact aV _
 |succ k ih=>
  have a:=ih (fun j d=>h j al);have c:=h k al;rw[acc];have:((acc f k).2+f k)/W<b+1:=JR (by rw[eQ];omega);omega
theorem ac0 (a q l:Ja) (i k y:Nat) (h:C a=i) (c:C q=k) (b:i+k<C l):(a++q++l.drop (i+k)).set (i+k) y=a++(q++[y])++l.drop (i+(k+1)):=by
 rw[Hj _ _ (by rw[cE];omega),cE,h,c,rE,qP b,CM];simp[p9,zl]
theorem aln (a q l:Ja) (i k:Nat) (h:C a=i) (b:C q=k):(a++q++l.drop (i+k))[i+k]?.getD 0=l[i+k]?.getD 0:=by
 rw[JU (by rw[cE];omega),cE,h,b,rE,MU,jd]
theorem getD_lt {l:Ja} (h:Small l) (j:Nat):l[j]?.getD 0<W:=by
 by_cases a:j<C l
 ·rw[a7 a];exact h _ (bU a)
 ·rw[iT al];exact nG
theorem A6 {a b:Ja} (h:Small a) (c:Small b):Small (a++b):=fun x d=>(bE.1 d).elim (h x) (c x)
theorem Ni {l:Ja} (h:Small l) (k:Nat):Small (l.drop k):=fun x a=>h x (List.mem_of_mem_drop a)
theorem anM (l:Ja) (k:Nat):nw l=nw (l.take k)+W^(min k (C l))*nw (l.drop k):=by
 have:=Db (l.take k) (l.drop k);rwa [zo,fh] at this
theorem uW (l:Ja) (k:Nat) (h:k<=C l):nw l=nw (l.take k)+W^k*nw (l.drop k):=by
 have:=anM l k;rwa [uO h] at this
theorem XF (n:Nat):nw (List.replicate n 0)=0:=by
 induction n with
 |zero=>rfl
 |succ n ih=>rw[MO,lZ,ih];simp
theorem acK (n:Nat):Small (List.replicate n 0):=fun x h=>by rw[(List.mem_replicate.1 h).2];exact nG
def iw (xs ys:Ja) (j:Nat):Nat:=xs[j]?.getD 0+ys[j]?.getD 0
theorem acw (xs s:Ja) (k:Nat):j6 (iw xs s) k=nw (xs.take k)+nw (s.take k):=by
 rw[show iw xs s=fun j=>(fun j=>xs[j]?.getD 0) j+(fun j=>s[j]?.getD 0) j from rfl,aev,KF,KF]
theorem akE (xs s:Ja) (h:Small xs) (y:Small s) (k:Nat):(acc (iw xs s) k).2<=1:=by
 refine aa0 _ 1 k fun j _=>?_;have a:=getD_lt h j;have b:=getD_lt y j;unfold iw;omega
theorem Xh (g h cap b z Ba:Nat) (xs a:Ja) (w:E) (r:Small xs) (A:Small a) (ae:C xs<=35184372088832) (U:C a<=C xs) (R:bM w g h xs) (S:bM w b z a) (Y:b≠g):
  c6 246 #[Z (M ⟨g,h,N⟩) (C xs) cap,Z (M ⟨b,z,N⟩) (C a) Ba] w fun e w'=>∃(c:Bool) (l':Ja),e=yW (zZ c)/\l'.length=C xs/\Small l'/\nw l'+(if c then W^C xs else 0)=nw xs+nw a/\bM w' g h l'/\dL g h (C xs) w w':=by
 go_enter func246,ntmps246;go_wp2
 go_loopw [5,9] (fun c i wr=>∃k:Nat,k<=C xs/\i=J I k/\c=J .u64 ((acc (iw xs a) k).2:Nat)/\bM wr g h ((acc (iw xs a) k).1++xs.drop k)/\dL g h (C xs) w wr)
  (fun _ i _=>C xs - (intOf i).toNat)
 case atStart=>exact⟨0,aV _,rfl,rfl,by simpa [acc] using R,dL.refl _ _ _ _⟩
 case round=>
  obtain⟨k,P,rfl,rfl,d,j⟩:=hrel;have zX:=akE xs a r A k;have f:=PJ (iw xs a) k;have Bb:=aaY (iw xs a) k;have H:=aD (aaZ (iw xs a) k);by_cases B7:k<C xs
  ·have l:k<C ((acc (iw xs a) k).1++xs.drop k):=by rw[cE,f,p8];omega
   have Bh:=d.cell k l;have X:=d.frozen (h+k);have Bm:=fun y=>d.set k l y;simp only[Ug _ xs k _ f B7] at Bm
   have p:((acc (iw xs a) k).1++xs.drop k)[k]?.getD 0=xs[k]?.getD 0:=by
    rw[JU al,f,rE,MU,jd]
   rw[p] at Bh;have n:wT (acc (iw xs a) (k+1)=((acc (iw xs a) k).1++[((acc (iw xs a) k).2+iw xs a k) % W],((acc (iw xs a) k).2+iw xs a k)/W)):=rfl;have V:=getD_lt r k;have K:=getD_lt A k;rw[iZ] at V K;by_cases L:k<C a
   focus
    have ab:=(S.apart j Y).cell k L;have F:wT (iw xs a k=xs[k]?.getD 0+a[k]?.getD 0):=rfl;generalize (acc (iw xs a) k).2=c at *;generalize (acc (iw xs a) k).1=q at *;generalize iw xs a k=s at *;generalize xs[k]?.getD 0=x at *;generalize a[k]?.getD 0=y at *;have D:=aD Bm;clear Bm p l d H;go_wp2;have v:Value.int yE (((c:Int)+(x:Int)+(y:Int)) % 4294967296)=J yE (((c+s) % W:Nat):Int):=int_eq (by rw[iZ,F.o];omega);have Bj:Value.int .u64 (((c:Int)+(x:Int)+(y:Int))/4294967296)=J .u64 (((c+s)/W:Nat):Int):=int_eq (by rw[iZ,F.o];omega)
   rotate_left
   focus
    (have u:a[k]?.getD 0=0:=by rw[iT al];rfl);by_cases t:(acc (iw xs a) k).2=0
    ·have m:wT (nw ((acc (iw xs a) k).1++xs.drop k)=nw xs+nw a):=by
      show _=_;have e:=H.o;rw[t,lQ,jd,acw,kO (show C a<=k by omega)] at e;rw[Db,f,e,uW xs k P];omega
     have aa:=A6 Bb (Ni r k);(have B9:C ((acc (iw xs a) k).1++xs.drop k)=C xs:=by rw[cE,f,p8];omega);rw[t];generalize (acc (iw xs a) k).1++xs.drop k=q at *;clear Bm Bh X n p l H;go_wp2;go_ret;exact⟨xd,q,rfl,B9,aa,by rw[m.o];rfl,d,j⟩
    focus
     (have F:wT (iw xs a k=xs[k]?.getD 0):=by show _=_;rw[iw,u,jd]);(have ad:(((acc (iw xs a) k).2:Int)==0)=false:=by rw[Hd];omega);generalize (acc (iw xs a) k).2=c at *;generalize (acc (iw xs a) k).1=q at *;generalize iw xs a k=s at *;generalize xs[k]?.getD 0=x at *;have D:=aD Bm;clear Bm p l d H u t;go_wp2;have v:Value.int yE (((c:Int)+(x:Int)) % 4294967296)=J yE (((c+s) % W:Nat):Int):=int_eq (by rw[iZ,F.o];omega);have Bj:Value.int .u64 (((c:Int)+(x:Int))/4294967296)=J .u64 (((c+s)/W:Nat):Int):=int_eq (by rw[iZ,F.o];omega)
   all_goals
    rw[v,Bj];have Q:=D.o ((c+s) % W);go_roundw
    case rel=>exact⟨k+1,al,bd,by rw[n.o],by rw[n.o];exact Q,j.trans (dL.setCell (MK _ _) al _)⟩
    case measure=>simp[intOf];omega
  ·obtain rfl:k=C xs:=al
   rw[List.drop_length,kq] at d
   have m:wT (nw (acc (iw xs a) (C xs)).1+W^C xs*(acc (iw xs a) (C xs)).2=nw xs+nw a):=by
    show _=_;rw[H.o,acw,iD,kO U]
   generalize (acc (iw xs a) (C xs)).1=q at *;generalize (acc (iw xs a) (C xs)).2=c at *;clear H;rcases (show c=0∨c=1 by omega) with rfl |rfl
   ·go_wp2;go_ret;exact⟨xd,q,rfl,f,Bb,by have:=m.o;simpa using this,d,j⟩
   ·go_wp2;go_ret;exact⟨y6,q,rfl,f,Bb,by have:=m.o;simpa using this,d,j⟩
section
open Go.Shelf
attribute [local go_sem] Oper.semAt_some
theorem A5 (s:ByteArray) (w:E) (hs:s.size<=140737488355328):
  c6 198 #[zK s] w fun e w'=>∃g cap,e=yW (Z (M ⟨g,0,N⟩) (C (words (B2 s))) cap)/\Has w' (O (T w)) (Z (M ⟨g,0,N⟩) (C (words (B2 s))) cap) (words (B2 s))/\da w w':=by
 refine(jb (n:=6)).1 ?_;have Bm:(B (B2 s)).size<=140737488355328:=aM (jV s) hs;have u:=ajQ (B2 s);have y:=cQ (B2 s);generalize hm:B2 s=m at *;obtain⟨A,z,L,Bb,B9⟩:=eC Tryz.infoU32;refine vY func198 rfl trivial ?_ rfl;simp only[ntmps198,mL,eA,lS,Nat.reduceAdd,Nat.reduceSub,oX,oW,oP,nV,gS,gF];have R:wT (B2 s=m):=hm;have S:wT (B2 (B m)=m):=y;have U:wT (upto m (((B m).size+3)/4)=words m):=u;clear hm y u
 gi_wp2_with (first
  |(refine⟨trivial,?_⟩;gi_at_call 244;refine(jb.2 (Gh _ _)).ae ?_;rintro e w' ⟨rfl,rfl⟩;rw[R.o])
  |(refine⟨trivial,?_⟩;gi_at_call 247;refine(jb.2 (ahU _ _ Bm)).ae ?_;rintro e w' ⟨rfl,rfl⟩)
  |(gi_at_make;refine wpListIn_make_own _ rfl _ _ 221 rfl (O (T w')) 157 A (J yE 0) 1 underlying221 z L Bb I I _ (((B m).size+3)/4) rfl rfl al (by rw[B9];omega) (by unfold maxLen;omega) (ah _) ?_;intro a av Bh)
  |(refine⟨trivial,?_⟩;gi_at_call 248;refine(ars _ _ _).ae ?_;rintro e w2 ⟨rfl,rfl⟩))
 have F:=Bh.size;have ab:da w' a:=(au _ w').grown Bh (ah _) (fun k e=>by cases e);have X:=bF a 221 (Z (M ⟨O (T w'),0,N⟩) 0 (((B m).size+3)/4));have q:=bF (a.alloc (yM #[Z (M ⟨O (T w'),0,N⟩) 0 (((B m).size+3)/4)] 221)) 61 (zK (B m));rw[eV] at q;have aa:da w' ((a.alloc (yM #[Z (M ⟨O (T w'),0,N⟩) 0 (((B m).size+3)/4)] 221)).alloc (yM #[zK (B m)] 61)):=(ab.alloc F _).alloc (by simp;omega) _
 refine QK (α:=Nat) rfl al (gf:=278) (lb:= #[zR (M ⟨O (T a)+1,0,N⟩)]) rfl trivial (enters_of func278 ao rfl)
  (arq 5 al (O (T a)+1) (B m) Bm _ aE q.cell) qH.t (qH.b aE) (au _ _) (fun _=>rfl)
  (fun (p:Ja) V=>((∃v,Boxed V (O (T a)) 221 v/\V.ownsRow (O (T w')) 157 1 v (C p) (p.map u32)/\v≠Z N 0 0)/\da w' V)/\Boxed V (O (T a)+1) 61 (zK (B m)))
  (fun _ _ _=>False)
  (gJ (gJ (iB (holdsRow_own (O (T w')) (O (T a)) 221 157 1 (fun p:Ja=>C p) (fun p=>p.map u32) (fun _ v=>v≠Z N 0 0)) _) (CE (ah _) (by simp;omega))) (iB (ko _ _ (fun _=>zK (B m))) _))
  (fun _ _ _ _ _ hs _ _=>hs)
  ⟨⟨⟨_,X.alloc _,(av.alloc _).alloc _,aE⟩,aa⟩,q⟩
  (fun x=> {tmps:= #[zK (B m),wQ,Z N 0 0,zR (M ⟨O (T a),0,N⟩),J yE (x:Nat),zK s,zK (B m),zK (B m),J I (((B m).size+3)/4),Z (M ⟨O (T w'),0,N⟩) 0 (((B m).size+3)/4),zK (B m),.func (.func 278) #[] #[zR (M ⟨O (T a)+1,0,N⟩)],J yE (x:Nat),wQ,wQ,wQ,wQ,wQ],defers:=[]}) ?assign ?body ?done ?stop
 case assign=>
  intro l x V K f;gi_wp2
  exact f
 case body=>
  rintro l p x V ⟨⟨⟨v,j,r,_⟩,d⟩,i⟩ ay;have B7:=j.cell;gi_wp2_with (gi_at_builtin;refine wpListIn_append_own _ rfl _ _ 221 rfl (O (T w')) 157 A (J yE 0) 1 4 underlying221 z L Bb B9 rfl a6 _ _ _ rfl (r.alloc _) ⟨O (T V),0,N⟩ 1 1 [J yE (x:Nat)] rfl rfl (cell_one_new _ _ _) (by simp[Value.oneCell']) (by unfold maxLen;omega) al (by have:=d.size;simp;omega) ?_;intro v' w3 Q P _;obtain⟨g',aq,rfl⟩:=ownsRow_succ Q;obtain⟨H,an,ak,aj,ad⟩:=j.appended a6 r d.size F Q P;have ai:=(i.alloc _).kept P (i.not_row a6 r);have ax:=H.cell;have IV:=H.frozen)
  have Bj:=ai.other (B':=O (T a)) al (Z (M ⟨g',0,N⟩) (C p+1) aq);exact⟨aj.from _,Bj.cell.trans i.cell.symm,⟨⟨_,an,by simpa [u32] using ak,aE⟩,d.trans ad⟩,Bj⟩
 case done=>
  rintro D ys V Y rfl ⟨⟨⟨v,j,r,Ba⟩,d⟩,i⟩ f;have B7:=j.cell;rw[S.o,U.o] at r;gi_wp2
  refine⟨aE,yd ⟨_,_,rfl,CC f,?_⟩⟩
  obtain⟨g,cap,rfl⟩:∃g cap,v=Z (M ⟨g,0,N⟩) (C (words m)) cap:=by
   rcases r.2 with ⟨e,_⟩ |⟨g,cap,_,e,_⟩
   ·exact absurd e Ba
   ·exact⟨g,cap,e⟩
  refine⟨_,CD rfl _ _ _,g,cap,rfl,?_,d.trans (xM (w:=w') (ah _) V D _ _ (by simp at Y;omega) f rfl rfl)⟩;exact ownsRow_putObj r _ f rfl
 case stop=>
  rintro D c p V _ _ h _;exact h.elim
end
theorem NN (n:Nat):(madeCells (Value.int yE 0).cells (n*1)).toList=(List.replicate n 0).map u32:=by
 rw[show (Value.int yE 0).cells= #[Value.int yE 0] from rfl,MA,qM,QY];rfl
theorem SH {l:Ja} (h:w.heap[g]? =M (yM (l.map u32).toArray 157 (0,0))):bM w g 0 l:=
 ⟨_,h,aE,fun j a=>by simp[a7 a]⟩
theorem acI (l:Ja):splice ((List.replicate (C l+1) 0).map u32) 0 (l.map u32)=(l++[0]).map u32:=by
 rw[acH,splice,MN,gS,bQ,List.drop_replicate];simp
theorem ah9 {l:Ja} (h:bM w g 0 l):∀j v,(l.map u32)[j]? =M v ->w.cell? ((⟨g,0,N⟩:Addr).add j)=M v:=by
 intro j v a
 have r:j<C l:=by
  rcases dX j (C l) with h |h
  ·exact h
  ·rw[iT (by simpa using h)] at a;cases a
 rw[Lib.add_plain,h.cell j r];rw[k9,a7 r] at a;rw[a7 r];exact a
theorem aen (l:Ja):∀v∈l.map u32,v.oneCell'=true:=by
 intro v h;obtain⟨x,_,rfl⟩:=aN.1 h;rfl
theorem aco {xs s:Ja} (x:Small xs) (y:Small s) (h:C s<=C xs):nw xs+nw s<W^(C xs+1):=by
 have a:=xX xs x;have b:=xX s y;have c:W^C s<=W^C xs:=k7 nG h;have d:W^(C xs+1)=W^C xs*W:=jI ..;have e:W^C xs*2<=W^C xs*W:=mK _ a6;omega
theorem amE (i P y S:Nat) (xs s:Ja) (w:E) (n:Small xs) (m:Small s) (ax:C xs<=17592186044416) (X:C s<=C xs) (h:bM w i 0 xs) (j:bM w y 0 s):
  c6 197 #[Z (M ⟨i,0,N⟩) (C xs) P,Z (M ⟨y,0,N⟩) (C s) S] w fun e w'=>∃v l,e=yW v/\Has w' (O (T w)) v l/\Small l/\l.length=C xs+1/\nw l=nw xs+nw s/\da w w':=by
 obtain⟨Bb,L,ak,an,aq⟩:=eC Tryz.infoU32;have av:¬C xs<C s:=al
 have ab:=h.lt;have Q:=j.lt;go_enter func197,ntmps197
 go_wp2_with (first
  |(at_make;refine oK _ rfl _ _ 221 rfl (O (T w)) 157 Bb (J yE 0) 1 underlying221 L ak an I I _ _ (C xs+1) rfl rfl al al (by rw[aq];omega) (by unfold maxLen;omega) (ah _) ?_;intro Ba A D;have b:=sB A;rw[NN] at b;have Bj:=aD b;have q:da w Ba:=(au _ w).grown D (ah _) (fun k e=>by cases e);have aj:=h.aa q ab;clear A D b)
  |(refine wpList_copy_splice rfl (.tmp 17) (.tmp 18) 221 221 rfl 157 underlying221 ao _ _ _ _ _ _ rfl rfl (O (T w)) 0 ((List.replicate (C xs+1) 0).map u32) 157 (by exact Bj.o) (xs.map u32) (by rw[cY];exact(uO (Nat.le_succ _)).symm) (fun _=>⟨rfl,_,rfl,ah9 aj⟩) aE (aen xs) (O (T w)) w q (ah _) ?_;intro U g d))
 rw[acI] at g;have ad:=SH g.o;have K:=j.aa d Q;have Bh:C (xs++[0])=C xs+1:=aE
 have ai:Small (xs++[0]):=A6 n (fun x h=>by simp at h;subst h;exact nG);have r:=Xh (O (T w)) 0 (C xs+1) y 0 S (xs++[0]) s U ai m al al ad K al;rw[Bh,Ff,lQ,jd] at r;refine r.ae ?_;rintro e V ⟨c,p,rfl,f,B9,F,u,a⟩;have R:da w V:=dL.aa d a (ah _) d.size;obtain⟨B7,t,z,_⟩:=a.inside _ g.o;have Y:=Ny (base:=O (T w)) (cap:=C xs+1) B7 t (by rw[z];simp) (ah _) (by unfold maxLen;omega) al u
 have Bm:wT (nw p=nw xs+nw s):=by
  show _=_;cases c with
  |false=>simpa using F
  |true=>
   have hf:=aco n m X;simp only[if_true] at F;omega
 have H:=aD f;rw[f] at Y;clear F f t z r g u a;go_wp2;go_ret;exact⟨_,p,rfl,by rw[Has,H.o];exact Y,B9,H.o,Bm.o,R⟩
theorem amD (i P y S:Nat) (xs s:Ja) (w:E) (n:Small xs) (m:Small s) (ax:C xs<=17592186044416) (av:C s<C xs) (h:bM w i 0 xs) (j:bM w y 0 s):
  c6 197 #[Z (M ⟨y,0,N⟩) (C s) S,Z (M ⟨i,0,N⟩) (C xs) P] w fun e w'=>∃v l,e=yW v/\Has w' (O (T w)) v l/\Small l/\l.length=C xs+1/\nw l=nw xs+nw s/\da w w':=by
 obtain⟨Bb,L,ak,an,aq⟩:=eC Tryz.infoU32;have X:C s<=C xs:=al
 have ab:=h.lt;have Q:=j.lt;go_enter func197,ntmps197
 go_wp2_with (first
  |(at_make;refine oK _ rfl _ _ 221 rfl (O (T w)) 157 Bb (J yE 0) 1 underlying221 L ak an I I _ _ (C xs+1) rfl rfl al al (by rw[aq];omega) (by unfold maxLen;omega) (ah _) ?_;intro Ba A D;have b:=sB A;rw[NN] at b;have Bj:=aD b;have q:da w Ba:=(au _ w).grown D (ah _) (fun k e=>by cases e);have aj:=h.aa q ab;clear A D b)
  |(refine wpList_copy_splice rfl (.tmp 17) (.tmp 18) 221 221 rfl 157 underlying221 ao _ _ _ _ _ _ rfl rfl (O (T w)) 0 ((List.replicate (C xs+1) 0).map u32) 157 (by exact Bj.o) (xs.map u32) (by rw[cY];exact(uO (Nat.le_succ _)).symm) (fun _=>⟨rfl,_,rfl,ah9 aj⟩) aE (aen xs) (O (T w)) w q (ah _) ?_;intro U g d))
 rw[acI] at g;have ad:=SH g.o;have K:=j.aa d Q;have Bh:C (xs++[0])=C xs+1:=aE
 have ai:Small (xs++[0]):=A6 n (fun x h=>by simp at h;subst h;exact nG);have r:=Xh (O (T w)) 0 (C xs+1) y 0 S (xs++[0]) s U ai m al al ad K al;rw[Bh,Ff,lQ,jd] at r;refine r.ae ?_;rintro e V ⟨c,p,rfl,f,B9,F,u,a⟩;have R:da w V:=dL.aa d a (ah _) d.size;obtain⟨B7,t,z,_⟩:=a.inside _ g.o;have Y:=Ny (base:=O (T w)) (cap:=C xs+1) B7 t (by rw[z];simp) (ah _) (by unfold maxLen;omega) al u
 have Bm:wT (nw p=nw xs+nw s):=by
  show _=_;cases c with
  |false=>simpa using F
  |true=>
   have hf:=aco n m X;simp only[if_true] at F;omega
 have H:=aD f;rw[f] at Y;clear F f t z r g u a;go_wp2;go_ret;exact⟨_,p,rfl,by rw[Has,H.o];exact Y,B9,H.o,Bm.o,R⟩
theorem amF (g m y j:Nat) (xs s:Ja) (w:E) (k:Small xs) (i:Small s) (o:C xs<=17592186044416) (p:C s<=17592186044416) (x:bM w g 0 xs) (f:bM w y 0 s):
  c6 197 #[Z (M ⟨g,0,N⟩) (C xs) m,Z (M ⟨y,0,N⟩) (C s) j] w fun e w'=>∃v l,e=yW v/\Has w' (O (T w)) v l/\Small l/\l.length<=17592186044417/\nw l=nw xs+nw s/\da w w':=by
 by_cases h:C s<=C xs
 ·refine(amE g m y j xs s w k i o h x f).ae ?_;rintro e w' ⟨v,l,rfl,a,b,n,d,c⟩;exact⟨v,l,rfl,a,b,al,d,c⟩
 ·refine(amD y j g m s xs w i k p al f x).ae ?_;rintro e w' ⟨v,l,rfl,a,b,n,d,c⟩;exact⟨v,l,rfl,a,b,al,al,c⟩
theorem Aa {base:Nat} {l:Ja} (h:Has w base (Z (M ⟨g,0,N⟩) n cap) l) (b:da w w'):bM w' g 0 l:=by
 rcases h.cases with ⟨e,_⟩ |⟨g',c,e,_,_,a⟩
 ·cases e
 ·cases e;exact a.aa b a.lt
theorem A0 (s:ByteArray) (k:Nat) (h:s.size<=4*k):C (words (B2 s))<=k:=by
 rw[Rj, <- nP];have:=jV s;omega
theorem au5 (a b:ByteArray) (w:E) (z:a.size<=1099511627776) (A:b.size<=1099511627776):
  c6 141 #[zK a,zK b] w (dj w (zK (B (B2 a+B2 b)))):=by
 have F:=A0 a 274877906944 al;have D:=A0 b 274877906944 al;go_enter func141,ntmps141;go_wp2_with fail
 refine(A5 a _ al).ae ?_;rintro e Bh ⟨k,i,rfl,n,c⟩;go_wp2_with fail
 refine(A5 b _ al).ae ?_;rintro e r ⟨m,j,rfl,p,f⟩;have Bm:=Aa n f;have x:=Aa p (au _ _);have h:da w r:=c.trans (f.ae c.size);go_wp2_with fail
 refine(amF k i m j _ _ _ (oY _) (oY _) al al Bm x).ae ?_;rintro e s ⟨v,l,rfl,q,y,Bj,g,t⟩;have d:da w s:=h.trans (t.ae h.size);have H:=aD g;clear g;go_wp2_with fail
 refine(TR _ _ _ _ y al q).ae ?_;rintro e K ⟨rfl,u⟩;go_wp2;go_ret;exact⟨by rw[H.o,lY,lY];rfl,d.trans (u.ae d.size)⟩
theorem toList_data (s:ByteArray):s.toList=s.data.toList:=by
 obtain⟨⟨l⟩⟩:=s;simp
theorem alM {a b:Bool} (h:a=b):Ending.returned (zZ a)=yW (zZ b):=by rw[h]
def kd (m n:Nat):Int:=if m<n then -1 else if m=n then 0 else 1
theorem afl:∀(l m:List UInt8),C l=C m ->Op.bytesLess l m=decide (nb l<nb m)
 |[],[],_=>rfl
 |x::l,y::m,h=>by
  have b:C l=C m:=by simpa using h
  have i:=afl l m b;have g:=wK l;have d:=wK m;rw[Io,Io, <- b];rw[<- b] at d;rw[Op.bytesLess];rcases VJ x.toNat y.toNat with e |e |e
  ·have c:(decide (x<y))=true:=by simpa [UInt8.lt_iff_toNat_lt] using e
   have:(x.toNat+1)*256^C l<=y.toNat*256^C l:=lR _ e;rw[iC] at this;rw[c,Bool.true_or];symm;rw[VE];omega
  ·have c:x=y:=QQ.1 e;subst c;(have a:(decide (x<x))=false:=aE);rw[a,Bool.false_or,beq_self_eq_true,Hs,i];congr 1
   apply propext;omega
  ·have a:(decide (x<y))=false:=by simp[UInt8.lt_iff_toNat_lt];omega
   (have f:(x==y)=false:=by rw[Hd];rintro rfl;omega);have:(y.toNat+1)*256^C l<=x.toNat*256^C l:=lR _ e;rw[iC] at this;rw[a,f,Bool.false_or,Bool.false_and];symm;rw[QO];omega
theorem aeK:∀(l m:List UInt8),C l=C m ->nb l=nb m ->l=m
 |[],[],_,_=>rfl
 |x::l,y::m,h,e=>by
  have a:C l=C m:=by simpa using h
  have f:=wK l;have d:=wK m;rw[Io,Io, <- a] at e;rw[<- a] at d;have p:0<256^C l:=wh a6
  have b:x.toNat=y.toNat:=by
   rcases VJ x.toNat y.toNat with c |c |c
   ·have:(x.toNat+1)*256^C l<=y.toNat*256^C l:=lR _ c;rw[iC] at this;omega
   ·exact c
   ·have:(y.toNat+1)*256^C l<=x.toNat*256^C l:=lR _ c;rw[iC] at this;omega
  rw[b] at e;rw[QQ.1 b,aeK l m a al]
theorem au2 (a b:ByteArray) (w:E) (h:a.size=b.size):
  c6 262 #[zK a,zK b] w fun e w'=>e=yW (J I (kd (B2 a) (B2 b)))/\w'=w:=by
 have l:=afl a.data.toList b.data.toList (by rw[Ht,Ht];exact h);rcases VJ (B2 a) (B2 b) with c |c |c
 ·have L:Op.bytesLess a.toList b.toList=true:=by rw[toList_data,toList_data,l];simpa [B2] using c
  have H:wT (kd (B2 a) (B2 b)= -1):=by show _=_;rw[kd,aw c]
  clear l c;go_enter func262,ntmps262;go_wp2;go_ret;exact⟨C3 H.o.symm,rfl⟩
 ·have L:Op.bytesLess a.toList b.toList=false:=by rw[toList_data,toList_data,l];simp only[B2] at c;rw[QO];omega
  have Bm:(a.toList==b.toList)=true:=by
   rw[toList_data,toList_data,aeK a.data.toList b.data.toList (by rw[Ht,Ht];exact h) c];simp
  have H:wT (kd (B2 a) (B2 b)=0):=by show _=_;rw[kd,aC al,aw c]
  clear l c;go_enter func262,ntmps262;go_wp2;go_ret;exact⟨C3 H.o.symm,rfl⟩
 ·have L:Op.bytesLess a.toList b.toList=false:=by rw[toList_data,toList_data,l];simp only[B2] at c;rw[QO];omega
  have Bm:(a.toList==b.toList)=false:=by
   rw[toList_data,toList_data,Hd];intro e;rw[B2,B2,e] at c;omega
  have H:wT (kd (B2 a) (B2 b)=1):=by show _=_;rw[kd,aC al,aC al]
  clear l c;go_enter func262,ntmps262;go_wp2;go_ret;exact⟨C3 H.o.symm,rfl⟩
theorem abr (a b:ByteArray) (w:E):
  c6 211 #[zK a,zK b] w fun e w'=>e=yW (J I (kd (B2 a) (B2 b)))/\w'=w:=by
 by_cases h:(B (B2 a)).size=(B (B2 b)).size
 ·have f:=fun V=>au2 (B (B2 a)) (B (B2 b)) V h;simp only[cQ] at f;have H:=aD f;have n:(((B (B2 a)).size:Int) !=((B (B2 b)).size:Int))=false:=by rw[h];simp
  clear f h;go_enter func211,ntmps211;go_wp2_with fail
  refine(Gh _ _).ae ?_;rintro e g ⟨rfl,d⟩;subst d;go_wp2_with fail
  refine(Gh _ _).ae ?_;rintro e i ⟨rfl,d⟩;subst d;go_wp2_with fail
  refine(H.o _).ae ?_;rintro e j ⟨rfl,d⟩;subst d;go_wp2;go_ret;exact⟨rfl,rfl⟩
 ·have n:(((B (B2 a)).size:Int) !=((B (B2 b)).size:Int))=true:=by rw[bne_iff_ne];omega
  have R:wT (Lib.compareInt (((B (B2 a)).size:Nat):Int) (((B (B2 b)).size:Nat):Int)=kd (B2 a) (B2 b)):=by
   show _=_;rw[nP,nP] at h⊢;unfold Lib.compareInt kd;rcases dX (B2 a) (B2 b) with c |c
   ·have:=aaL (AU c);rw[aw al,aw c]
   ·have:=aaL c;rw[aC al,aw al,aC al,aC (by intro e;rw[e] at h;exact h rfl)]
  clear h;go_enter func211,ntmps211;go_wp2_with fail
  refine(Gh _ _).ae ?_;rintro e g ⟨rfl,d⟩;subst d;go_wp2_with fail
  refine(Gh _ _).ae ?_;rintro e i ⟨rfl,d⟩;subst d;go_wp2_with fail
  refine(Tryz.cmp_Compare_int _ _ _).ae ?_;rintro e j ⟨rfl,d⟩;subst d;go_wp2;go_ret;exact⟨C3 R.o,rfl⟩
def dQ (xs ys:Ja) (f:Nat):Nat ->Ja×Nat×Nat
 |0=>([],0,0)
 |k+1=>((dQ xs ys f k).1++[(xs[k]?.getD 0+2*W - ((dQ xs ys f k).2.1+ys[k]?.getD 0*f) % W - (dQ xs ys f k).2.2) % W],
   ((dQ xs ys f k).2.1+ys[k]?.getD 0*f)/W,if xs[k]?.getD 0<((dQ xs ys f k).2.1+ys[k]?.getD 0*f) % W+(dQ xs ys f k).2.2 then 1 else 0)
theorem ac1 (xs s:Ja) (f k:Nat):(dQ xs s f k).1.length=k:=by
 induction k with
 |zero=>rfl
 |succ k ih=>simp[dQ,ih]
theorem als (xs s:Ja) (f k:Nat):Small (dQ xs s f k).1:=by
 induction k with
 |zero=>intro x h;simp[dQ] at h
 |succ k ih=>
  intro x h;rw[dQ] at h;rcases bE.1 h with h |h
  ·exact ih x h
  ·simp only[bA] at h;subst h;exact jc _ nG
theorem ac2 (xs s:Ja) (f k:Nat):(dQ xs s f k).2.2<=1:=by
 cases k with
 |zero=>exact aV _
 |succ k=>
  rw[dQ];show (if _ then 1 else 0)<=1;split<;>omega
theorem alv (xs s:Ja) (f:Nat) (h:Small s) (d:f<W) (k:Nat):(dQ xs s f k).2.1<W:=by
 induction k with
 |zero=>exact nG
 |succ k ih=>
  rw[dQ];refine JR ?_;have a:=getD_lt h k;have b:s[k]?.getD 0*f<=(W - 1)*(W - 1):=kN al al;have c:(W - 1)*(W - 1)+W<=W*W:=a6
  omega
theorem alr (x c t b:Nat) (d:x<W) (a:b<=1):
  (x+2*W - (c+t) % W - b) % W+t+b+c=x+W*((c+t)/W+if x<(c+t) % W+b then 1 else 0):=by
 have e:=Nat.mod_add_div (c+t) W;have l:=jc (c+t) nG;generalize (c+t) % W=lo at *;generalize (c+t)/W=q at *;rw[oO];by_cases h:x<lo+b
 ·rw[aw h]
  have:(x+2*W - lo - b) % W=x+W - lo - b:=by
   rw[show x+2*W - lo - b=(x+W - lo - b)+W by omega,Nat.add_mod_right];exact kp al
  omega
 ·rw[aC h]
  have:(x+2*W - lo - b) % W=x - lo - b:=by
   rw[show x+2*W - lo - b=(x - lo - b)+W+W by omega,Nat.add_mod_right,Nat.add_mod_right];exact kp al
  omega
theorem alu (xs s:Ja) (f:Nat) (x:Small xs) (k:Nat):
  nw (dQ xs s f k).1+f*nw (s.take k)=nw (xs.take k)+W^k*((dQ xs s f k).2.1+(dQ xs s f k).2.2):=by
 rw[<- KF xs k, <- KF s k];induction k with
 |zero=>simp[dQ,j6,o7]
 |succ k ih=>
  have h:=ac2 xs s f k;have a:=alr (xs[k]?.getD 0) (dQ xs s f k).2.1 (s[k]?.getD 0*f) (dQ xs s f k).2.2 (getD_lt x k) h
  have e:f*(j6 (fun j=>s[j]?.getD 0) k+W^k*s[k]?.getD 0)=f*j6 (fun j=>s[j]?.getD 0) k+W^k*(s[k]?.getD 0*f):=by
   rw[oO,CL,eQ f (s[k]?.getD 0)]
  rw[dQ,j6,j6,Ff,ac1,e];show _=_+W^(k+1)*(_+if _ then 1 else 0);rw[jI,jr];generalize (xs[k]?.getD 0+2*W - ((dQ xs s f k).2.1+s[k]?.getD 0*f) % W - (dQ xs s f k).2.2) % W=d at *;generalize (((dQ xs s f k).2.1+s[k]?.getD 0*f)/W+if xs[k]?.getD 0<((dQ xs s f k).2.1+s[k]?.getD 0*f) % W+(dQ xs s f k).2.2 then 1 else 0)=z at *;generalize (dQ xs s f k).2.1=c at *;generalize (dQ xs s f k).2.2=b at *;generalize s[k]?.getD 0*f=t at *;have:=eG (W^k*·) a;simp only[oO] at this ih⊢;omega
theorem aaU (t:Nat) (h:t<18446744073709551616):bits .and .u64 (t:Int) 4294967295=((t % 4294967296:Nat):Int):=by
 have e:(4294967295:Int)=((4294967295:Nat):Int):=rfl;rw[e,u64_and_nat t 4294967295 h al];congr 1
 exact Nat.and_two_pow_sub_one_eq_mod t 32
theorem WG (x lo b:Nat) (c:x<4294967296) (l:lo<4294967296) (a:b<=1):
  IntKind.u64.wrap (IntKind.u64.wrap ((x:Int) - (lo:Int)) - (b:Int))/9223372036854775808=((if x<lo+b then 1 else 0:Nat):Int)/\
  IntKind.u64.wrap (IntKind.u64.wrap ((x:Int) - (lo:Int)) - (b:Int)) % 4294967296=(((x+2*W - lo - b) % W:Nat):Int):=by
 rw[Q8,Q8,iZ];by_cases h:x<lo+b
 ·rw[aw h];have e:(((x:Int) - (lo:Int)) % 18446744073709551616 - (b:Int)) % 18446744073709551616=(x:Int) - (lo:Int) - (b:Int)+18446744073709551616:=al
  rw[e];omega
 ·rw[aC h];have e:(((x:Int) - (lo:Int)) % 18446744073709551616 - (b:Int)) % 18446744073709551616=(x:Int) - (lo:Int) - (b:Int):=al
  rw[e];omega
theorem ace (g l cap b S jS:Nat) (xs a:Ja) (f:Nat) (w:E) (Bh:Small xs) (Ba:Small a) (F:f<W) (ay:C xs<=35184372088832) (x6:C a<=C xs) (hx:bM w g l xs) (hy:bM w b S a) (ak:b≠g):
  c6 260 #[Z (M ⟨g,l,N⟩) (C xs) cap,Z (M ⟨b,S,N⟩) (C a) jS,J yE (f:Nat)] w fun e w'=>∃(s:Nat) (l':Ja),e=yW (zZ (decide (s≠0)))/\l'.length=C xs/\Small l'/\nw l'+f*nw a=nw xs+W^C xs*s/\bM w' g l l'/\dL g l (C xs) w w':=by
 have ax:f<4294967296:=F;go_enter func260,ntmps260;go_wp2
 go_loopw [7,8,13] (fun c bo i wr=>∃k:Nat,k<=C xs/\i=J I k/\c=J .u64 ((dQ xs a f k).2.1:Nat)/\bo=J .u64 ((dQ xs a f k).2.2:Nat)/\bM wr g l ((dQ xs a f k).1++xs.drop k)/\dL g l (C xs) w wr)
  (fun _ _ i _=>C xs - (intOf i).toNat)
 case atStart=>exact⟨0,aV _,rfl,rfl,rfl,by simpa [dQ] using hx,dL.refl _ _ _ _⟩
 case round=>
  obtain⟨k,hk,rfl,rfl,rfl,d,h⟩:=hrel;have X:=alv xs a f Ba F k;have V:=ac2 xs a f k;have j:=ac1 xs a f k;have Bb:=als xs a f k;have H:=aD (alu xs a f Bh k);rw[iZ] at X;by_cases an:k<C xs
  ·have p:k<C ((dQ xs a f k).1++xs.drop k):=by rw[cE,j,p8];omega
   have ab:=d.cell k p;have aj:=d.frozen (l+k);have Bm:=fun y=>d.set k p y;simp only[Ug _ xs k _ j an] at Bm
   have u:((dQ xs a f k).1++xs.drop k)[k]?.getD 0=xs[k]?.getD 0:=by
    rw[JU al,j,rE,MU,jd]
   rw[u] at ab
   have t:wT (dQ xs a f (k+1)=((dQ xs a f k).1++[(xs[k]?.getD 0+2*W - ((dQ xs a f k).2.1+a[k]?.getD 0*f) % W - (dQ xs a f k).2.2) % W],
    ((dQ xs a f k).2.1+a[k]?.getD 0*f)/W,if xs[k]?.getD 0<((dQ xs a f k).2.1+a[k]?.getD 0*f) % W+(dQ xs a f k).2.2 then 1 else 0)):=rfl
   have z:=getD_lt Bh k;have Q:=getD_lt Ba k;have A:a[k]?.getD 0*f<=4294967295*4294967295:=kN (by rw[iZ] at Q;omega) (by rw[iZ] at F;omega);rw[iZ] at z Q;by_cases K8:k<C a
   ·have av:=(hy.apart h ak).cell k K8;generalize (dQ xs a f k).2.1=c at *;generalize (dQ xs a f k).2.2=bo at *;generalize (dQ xs a f k).1=q at *;generalize xs[k]?.getD 0=x at *;generalize a[k]?.getD 0=y at *;(have K4:(y:Int)*(f:Int)<=18446744065119617025:=by rw[<- mP];omega);(have zP:0<=(y:Int)*(f:Int):=by rw[<- mP];omega);obtain⟨lo,L⟩:∃lo,lo=(c+y*f) % 4294967296:=⟨_,rfl⟩
    have aq:bits .and .u64 ((c:Int)+(y:Int)*(f:Int)) 4294967295=(lo:Int):=by
     have:=aaU (c+y*f) al;rw[<- L] at this;rw[<- this,ET,mP]
    (have ad:lo<4294967296:=al);have Qt:=aD L;have D:=aD Bm;clear Bm u p d H L A;go_wp2;obtain⟨v,r⟩:=WG x lo bo z ad V;rw[v,r];have P:Value.int .u64 (((c:Int)+(y:Int)*(f:Int))/4294967296)=J .u64 (((c+y*f)/W:Nat):Int):=int_eq (by rw[iZ,AX,ET,mP];rfl);rw[P];have n:=D.o ((x+2*W - lo - bo) % W);have nN:wT ((c+y*f) % W=lo):=Qt.o.symm;have Bj:=t.o;rw[nN.o] at Bj;go_roundw
    case rel=>exact⟨k+1,al,bd,by rw[Bj],by rw[Bj],by rw[Bj];exact n,h.trans (dL.setCell (MK _ _) al _)⟩
    case measure=>simp[intOf];omega
   ·have R:a[k]?.getD 0=0:=by rw[iT al];rfl
    by_cases K:(dQ xs a f k).2.1=0/\(dQ xs a f k).2.2=0
    ·obtain⟨Y,B7⟩:=K
     have m:wT (nw ((dQ xs a f k).1++xs.drop k)+f*nw a=nw xs):=by
      show _=_;have e:=H.o;rw[Y,B7,lQ,jd,kO (show C a<=k by omega)] at e;have e2:=uW xs k hk;rw[Db,j];omega
     have ao:=A6 Bb (Ni Bh k);(have dO:C ((dQ xs a f k).1++xs.drop k)=C xs:=by rw[cE,j,p8];omega);rw[Y,B7];generalize (dQ xs a f k).1++xs.drop k=q at *;clear Bm ab aj t u p H A;go_wp2;go_ret;exact⟨0,q,rfl,dO,ao,by rw[m.o,lQ,jd],d,h⟩
    ·have Bj:=t.o;simp only[R,oN,jd] at Bj;generalize (dQ xs a f k).2.1=c at *;generalize (dQ xs a f k).2.2=bo at *;generalize (dQ xs a f k).1=q at *;generalize xs[k]?.getD 0=x at *;have aa:c % W=c:=kp X;simp only[aa] at Bj
     have aq:bits .and .u64 (c:Int) 4294967295=(c:Int):=by
      have:=aaU c al;rwa [kp X] at this
     have U:=aD Bj;have D:=aD Bm;clear Bm u p d H R A t Bj aa;by_cases B9:c=0
     ·subst B9;(have ae:bo=1:=al);subst ae;clear K;go_wp2;obtain⟨v,r⟩:=WG x 0 1 z al al;have hz:bits .and .u64 0 4294967295=((0:Nat):Int):=aaU 0 al;rw[hz,show IntKind.u64.wrap (IntKind.u64.wrap ((x:Int) - ((0:Nat):Int)) - 1)=IntKind.u64.wrap (IntKind.u64.wrap ((x:Int) - ((0:Nat):Int)) - ((1:Nat):Int)) from rfl,v,r];have n:=D.o ((x+2*W - 0 - 1) % W);go_roundw
      case rel=>exact⟨k+1,al,bd,by rw[U.o];rfl,by rw[U.o],by rw[U.o];exact n,h.trans (dL.setCell (MK _ _) al _)⟩
      case measure=>simp[intOf];omega
     ·have ai:((c:Int)==0)=false:=by rw[Hd];omega
      clear K;go_wp2;obtain⟨v,r⟩:=WG x c bo z X V;rw[v,r];have P:Value.int .u64 ((c:Int)/4294967296)=J .u64 ((c/W:Nat):Int):=int_eq (by rw[iZ];omega);have n:=D.o ((x+2*W - c - bo) % W);rw[P];go_roundw
      case rel=>exact⟨k+1,al,bd,by rw[U.o],by rw[U.o],by rw[U.o];exact n,h.trans (dL.setCell (MK _ _) al _)⟩
      case measure=>simp[intOf];omega
  ·obtain rfl:k=C xs:=al
   rw[List.drop_length,kq] at d
   have m:wT (nw (dQ xs a f (C xs)).1+f*nw a=nw xs+W^C xs*((dQ xs a f (C xs)).2.1+(dQ xs a f (C xs)).2.2)):=by
    show _=_;have e:=H.o;rwa [iD,kO x6] at e
   generalize (dQ xs a f (C xs)).1=q at *;generalize (dQ xs a f (C xs)).2.1=c at *;generalize (dQ xs a f (C xs)).2.2=bo at *;clear H;by_cases B9:c=0
   ·subst B9;rcases (show bo=0∨bo=1 by omega) with rfl |rfl
    ·go_wp2;go_ret;exact⟨0,q,rfl,j,Bb,m.o,d,h⟩
    ·go_wp2;go_ret;exact⟨1,q,rfl,j,Bb,m.o,d,h⟩
   ·have ai:((c:Int) !=0)=true:=by rw[bne_iff_ne];omega
    go_wp2;go_ret;exact⟨c+bo,q,alM (by symm;rw[VE];omega),j,Bb,m.o,d,h⟩
theorem ajA (h:m<=n):C (words m)<=C (words n):=by
 rw[Rj,Rj];have:=aaL h;omega
theorem aug (a b:ByteArray) (w:E) (h:B2 a<B2 b):
  c6 210 #[zK a,zK b] w (dj w (zp #[zK ⟨#[]⟩,zZ xd])):=by
 have d:kd (B2 a) (B2 b)= -1:=by rw[kd,aw h]
 have c:=fun V=>abr a b V;simp only[d] at c;have H:=aD c;clear c d;go_enter func210,ntmps210;go_wp2_with fail
 refine(H.o _).ae ?_;rintro e g ⟨rfl,f⟩;subst f;go_wp2;go_ret2;exact⟨rfl,au _ _⟩
theorem aue (a b:ByteArray) (w:E) (U:a.size<=1099511627776) (X:b.size<=1099511627776) (h:B2 b<=B2 a):
  c6 210 #[zK a,zK b] w (dj w (zp #[zK (B (B2 a - B2 b)),zZ y6])):=by
 have Y:0<=kd (B2 a) (B2 b):=by
  rw[kd,aC al];split<;>omega
 have p:=fun V=>abr a b V;generalize kd (B2 a) (B2 b)=Ba at *;have H:=aD p;clear p;have lF:=A0 a 274877906944 al;have B7:=A0 b 274877906944 al;go_enter func210,ntmps210;go_wp2_with fail
 refine(H.o _).ae ?_;rintro e w0 ⟨rfl,K⟩;subst K;go_wp2_with fail
 refine(A5 a _ al).ae ?_;rintro e q ⟨g,F,rfl,c,t⟩;go_wp2_with fail
 refine(A5 b _ al).ae ?_;rintro e Bb ⟨k,Bj,rfl,f,i⟩;have Bm:=Aa c i;have x:=Aa f (au _ _);have D:=c.aa i (ah _);have ab:g<O (T q):=(Aa c (au _ _)).lt
 have ad:O (T q)<=k:=by
  rcases f.cases with ⟨e,_⟩ |⟨g',S,e,_,j,_⟩
  ·cases e
  ·cases e;exact j
 have Q:O (T w0)<=g:=by
  rcases c.cases with ⟨e,_⟩ |⟨g',S,e,_,j,_⟩
  ·cases e
  ·cases e;exact j
 have r:da w0 Bb:=t.trans (i.ae t.size);go_wp2_with fail
 refine(ace g 0 F k 0 Bj _ _ 1 _ (oY _) (oY _) a6 al (ajA h) Bm x al).ae ?_;rintro e B9 ⟨s,l,rfl,d,z,n,v,u⟩
 have y:s=0:=by
  have R:=xX l z;rw[d] at R;rw[lY,lY] at n;rcases zj s with e |e
  ·exact e
  ·have:W^C (words (B2 a))*1<=W^C (words (B2 a))*s:=mK _ e;omega
 have A:wT (nw l=B2 a - B2 b):=by
  show _=_;rw[lY,lY,y] at n;omega
 have Bh:=D.upd u v d;have m:da w0 B9:=dL.aa r u Q r.size;have L:=aD d;clear n d Bm x D v u c f y;go_wp2_with fail
 refine(TR _ _ _ _ z (by rw[L.o];omega) Bh).ae ?_;rintro e w4 ⟨rfl,P⟩;go_wp2;go_ret2;exact⟨by rw[A.o];rfl,m.trans (P.ae m.size)⟩
def jt (x:Nat) (ys p:Ja) (i j:Nat):Nat:=x*ys[j]?.getD 0+p[i+j]?.getD 0
theorem ac7 (x:Nat) (s p:Ja) (i:Nat) (f:x<W) (y:Small s) (a:Small p) (k:Nat):(acc (jt x s p i) k).2<W:=by
 have h:=aa0 (jt x s p i) (W - 1) k fun j _=>by
  have b:=getD_lt y j;have c:=getD_lt a (i+j);have d:x*s[j]?.getD 0<=(W - 1)*(W - 1):=kN al al;have e:(W - 1)*(W - 1)+W+W<=W*W+1:=a6
  unfold jt;rw[VH nG];omega
 have:=nG;omega
theorem alE (x:Nat) (s p:Ja) (i:Nat):j6 (jt x s p i) (C s)=x*nw s+nw ((p.drop i).take (C s)):=by
 rw[show jt x s p i=fun j=>(fun j=>x*(fun j=>s[j]?.getD 0) j) j+(fun j=>p[i+j]?.getD 0) j from rfl,aev,aet,aeu s _ (ah _)];congr 1
 rw[<- KF];exact anN fun j _=>by rw[MU]
def Bl (x:Nat) (ys p:Ja) (i:Nat):Ja:=p.take i++((acc (jt x ys p i) (C ys)).1++[(acc (jt x ys p i) (C ys)).2])++p.drop (i+(C ys+1))
theorem aes (p:Ja) (k:Nat) (h:∀j,k<=j ->p[j]?.getD 0=0):nw (p.drop k)=0:=by
 have:p.drop k=List.replicate (C (p.drop k)) 0:=by
  apply ld
  ·simp
  ·intro j a b;have:=h (k+j) al;rw[p8] at a;rw[a7 al] at this;simpa using this
 rw[this,XF]
theorem aoq (x:Nat) (s p:Ja) (i:Nat) (m:x<W) (y:Small s) (h:Small p) (n:i+C s<C p) (a:∀j,i+C s<=j ->p[j]?.getD 0=0):
  (Bl x s p i).length=C p/\Small (Bl x s p i)/\nw (Bl x s p i)=nw p+W^i*(x*nw s)/\∀j,i+1+C s<=j ->(Bl x s p i)[j]?.getD 0=0:=by
 have l:=PJ (jt x s p i) (C s);have K:C (p.take i)=i:=by rw[fh];omega
 have f:C (p.take i++((acc (jt x s p i) (C s)).1++[(acc (jt x s p i) (C s)).2]))=i+(C s+1):=by
  rw[cE,cE,K,l];rfl
 refine⟨?_,?_,?_,?_⟩
 ·rw[Bl,cE,f,p8];omega
 ·refine A6 (A6 (Kk h i) (A6 (aaY _ _) ?_)) (Ni h _);intro z c;simp only[bA] at c;subst c;exact ac7 x s p i m y h _
 ·have e:=aaZ (jt x s p i) (C s);rw[alE] at e;have d:=uW p i al;have b:=uW (p.drop i) (C s) (by rw[p8];omega);rw[List.drop_drop,aes p (i+C s) a,lQ,jd] at b;have g:=aes p (i+(C s+1)) (fun j k=>a j al);rw[Bl,Db,g,lQ,jd,Db,K,Ff,l,e,d,b,oO];omega
 ·intro j k;rw[Bl,JU al,f,MU];exact a _ al
theorem dL.drewN {f:Nat} {a b:E} (h:dL g f n a b) (k:Nat):dL g f n a (b.drewN k):=⟨⟨h.grown.os,h.grown.tape,h.grown.output,h.grown.size,h.grown.block⟩,h.inside⟩
theorem bM.drewN {f:Nat} {l:Ja} (h:bM w g f l) (k:Nat):bM (w.drewN k) g f l:=h
theorem akc (P mA Q jS:Nat) (xs a:Ja) (w:E) (jy:Small xs) (A:Small a) (bs:C xs<=8796093022208) (bt:C a<=8796093022208) (R:bM w P 0 xs) (Ba:bM w Q 0 a):
  c6 212 #[Z (M ⟨P,0,N⟩) (C xs) mA,Z (M ⟨Q,0,N⟩) (C a) jS] w fun e w'=>∃v l,e=yW v/\Has w' (O (T w)) v l/\Small l/\l.length=C xs+C a/\nw l=nw xs*nw a/\da w w':=by
 obtain⟨i0,hi,bc,bf,bg⟩:=eC Tryz.infoU32;have aI:=R.lt;have r5:=Ba.lt;go_enter func212,ntmps212
 go_wp2_with (first
  |(at_make;refine oK _ rfl _ _ 221 rfl (O (T w)) 157 i0 (J yE 0) 1 underlying221 hi bc bf I I _ _ (C xs+C a) rfl rfl al al (by rw[bg];omega) (by unfold maxLen;omega) (ah _) ?_;intro g ak an;have Bj:=sB ak;rw[NN] at Bj;have Y:=aD Bj;have t:da w g:=(au _ w).grown an (ah _) (fun k e=>by cases e);have a6:=R.aa t aI;have bb:=Ba.aa t r5;clear ak an Bj))
 have aJ:=SH Y.o
 go_loopw [17] (fun i wr=>∃(k:Nat) (p:Ja),k<=C xs/\i=J I k/\p.length=C xs+C a/\Small p/\wT (nw p=nw (xs.take k)*nw a)/\wT (∀j,k+C a<=j ->p[j]?.getD 0=0)/\bM wr (O (T w)) 0 p/\dL (O (T w)) 0 (C xs+C a) g wr)
  (fun i _=>C xs - (intOf i).toNat)
 case atStart=>exact⟨0,_,aV _,rfl,aE,acK _,by show _=_;rw[XF];simp[o7],fun j _=>by rw[JT];split<;>rfl,aJ,dL.refl _ _ _ _⟩
 case round=>
  obtain⟨k,p,hk,rfl,u,H,yq,aR,d,h⟩:=hrel;obtain⟨q,rfl⟩:∃q:E,q=wr:=⟨_,rfl⟩;by_cases Bh:k<C xs
  ·have vt:=fun V (hV:dL (O (T w)) 0 (C xs+C a) g V)=>(a6.apart hV al).cell k Bh;have r:=getD_lt jy k;have ad:=aoq (xs[k]?.getD 0) a p k r A H al aR.o
   have X:wT (nw (xs.take (k+1))=nw (xs.take k)+W^k*xs[k]?.getD 0):=by
    show _=_;rw[XG xs k Bh,a7 Bh];rfl
   generalize xs[k]?.getD 0=x at *;have aq:=aD vt;have ab:=aD ad;(have aj:bM q (O (T w)) 0 (p.take k++(acc (jt x a p k) 0).1++p.drop (k+0)):=by simpa [acc] using d);clear vt ad;go_wp2
   go_loopw [7,22] (fun c j wr=>∃m:Nat,m<=C a/\j=J I m/\c=J .u64 ((acc (jt x a p k) m).2:Nat)/\bM wr (O (T w)) 0 (p.take k++(acc (jt x a p k) m).1++p.drop (k+m))/\dL (O (T w)) 0 (C xs+C a) g wr)
    (fun _ j _=>C a - (intOf j).toNat)
   case atStart=>exact⟨0,aV _,rfl,rfl,aj,h⟩
   case round=>
    obtain⟨m,hm,rfl,rfl,F,S⟩:=hrel;have zX:=ac7 x a p k r A H m;have f:=PJ (jt x a p k) m;(have B7:C (p.take k)=k:=by rw[fh];omega);rw[iZ] at zX;by_cases Y0:m<C a
    ·have b:k+m<C (p.take k++(acc (jt x a p k) m).1++p.drop (k+m)):=by rw[cE,cE,B7,f,p8];omega
     have K:=F.cell (k+m) b;have az:=F.frozen (k+m);rw[aln _ _ _ k m B7 f,bQ] at K;have Bm:=fun z n=>(F.drewN n).set (k+m) b z;simp only[ac0 _ _ p k m _ B7 f al,bQ] at Bm;have av:=aq.o wr S;rw[bQ] at av;have ax:=(bb.apart S al).cell m Y0;rw[bQ] at ax;have L:=getD_lt A m;have kT:=getD_lt H (k+m);have B9:wT (acc (jt x a p k) (m+1)=((acc (jt x a p k) m).1++[((acc (jt x a p k) m).2+jt x a p k m) % W],((acc (jt x a p k) m).2+jt x a p k m)/W)):=rfl;have Bb:wT (jt x a p k m=x*a[m]?.getD 0+p[k+m]?.getD 0):=rfl;have Oj:x*a[m]?.getD 0<=4294967295*4294967295:=kN (by rw[iZ] at r;omega) (by rw[iZ] at L;omega);rw[iZ] at L kT;have bk:x<4294967296:=r;generalize (acc (jt x a p k) m).2=c at *;generalize (acc (jt x a p k) m).1=bh at *;generalize jt x a p k m=s at *;generalize a[m]?.getD 0=y at *;generalize p[k+m]?.getD 0=z at *;(have K4:(x:Int)*(y:Int)<=18446744065119617025:=by rw[<- mP];omega);(have zP:0<=(x:Int)*(y:Int):=by rw[<- mP];omega);(have bp:(k:Int)<(C xs:Int):=al);(have bu:(m:Int)<(C a:Int):=al);(have bo:(k:Int)+(m:Int)<(C xs:Int)+(C a:Int):=al);(have bm:((k:Int)+(m:Int)).toNat=k+m:=al);have D:=aD Bm;clear Bm b F Oj;go_wp2_with fail
     go_quiet (fail)
     go_wp2;have hv:Value.int yE (((c:Int)+((x:Int)*(y:Int)+(z:Int))) % 4294967296)=J yE (((c+s) % W:Nat):Int):=int_eq (by rw[iZ,Bb.o,wk,ET,ET,mP];rfl);have a1:Value.int .u64 (((c:Int)+((x:Int)*(y:Int)+(z:Int)))/4294967296)=J .u64 (((c+s)/W:Nat):Int):=int_eq (by rw[iZ,Bb.o,AX,ET,ET,mP];rfl);rw[hv,a1];have hq:=D.o ((c+s) % W) nq;go_roundw
     case rel=>exact⟨m+1,al,bd,by rw[B9.o],by rw[B9.o];exact hq,(S.drewN nq).trans (dL.setCell (aV _) al _)⟩
     case measure=>simp[intOf];omega
    ·obtain rfl:m=C a:=al
     (have b:k+C a<C (p.take k++(acc (jt x a p k) (C a)).1++p.drop (k+C a)):=by rw[cE,cE,B7,f,p8];omega);have K:=F.cell (k+C a) b;have az:=F.frozen (k+C a);rw[bQ] at K;have Bm:=F.set (k+C a) b (acc (jt x a p k) (C a)).2;rw[ac0 _ _ p k (C a) _ B7 f al,bQ] at Bm;change bM _ _ _ (Bl x a p k) at Bm
     have D:=aD Bm;(have br:((k:Int)+(C a:Int)).toNat=k+C a:=al);generalize (p.take k++(acc (jt x a p k) (C a)).1++p.drop (k+C a))[k+C a]?.getD 0=bw at *;generalize (acc (jt x a p k) (C a)).2=c at *;obtain⟨s1,s2,s3,s4⟩:=ab.o
     have Cj:wT (nw (Bl x a p k)=nw (xs.take (k+1))*nw a):=by
      show _=_;rw[s3,yq.o,X.o,iC,jr]
     have ir:=aD s1;have tJ:=aD s2;have ao:=aD s4;generalize Bl x a p k=p2 at *;clear Bm b F ab s1 s2 s3 s4 X aj d;go_wp2;go_roundw
     case rel=>exact⟨k+1,p2,al,bd,by rw[ir.o,u],tJ.o,Cj,fun j hj=>ao.o j al,D.o,S.trans (dL.setCell (aV _) al _)⟩
     case measure=>simp[intOf];omega
  ·obtain rfl:k=C xs:=al
   obtain⟨ay,ae,ai,_⟩:=h.inside _ Y.o;have rY:=Ny (base:=O (T w)) (cap:=C xs+C a) ay ae (by rw[ai];simp) (ah _) (by unfold maxLen;omega) al d;have fR:da w q:=dL.aa t h (ah _) t.size;have U:=aD u;rw[u] at rY;clear u ae ai d h;go_wp2;go_ret;exact⟨_,p,rfl,by rw[Has,U.o];exact rY,H,U.o,by have:=yq.o;rwa [iD] at this,fR⟩
theorem PU (a b:ByteArray) (w:E) (A:a.size<=1099511627776) (D:b.size<=1099511627776):
  c6 158 #[zK a,zK b] w (dj w (zK (B (B2 a*B2 b)))):=by
 have Bj:=A0 a 274877906944 al;have F:=A0 b 274877906944 al;go_enter func158,ntmps158;go_wp2_with fail
 refine(A5 a _ al).ae ?_;rintro e Bh ⟨m,j,rfl,p,f⟩;go_wp2_with fail
 refine(A5 b _ al).ae ?_;rintro e s ⟨n,k,rfl,q,g⟩;have Bm:=Aa p g;have y:=Aa q (au _ _);have h:da w s:=f.trans (g.ae f.size);go_wp2_with fail
 refine(akc m j n k _ _ _ (oY _) (oY _) al al Bm y).ae ?_;rintro e t ⟨v,l,rfl,r,z,c,i,u⟩;have d:da w t:=h.trans (u.ae h.size);have V:=aD i;have H:=aD c;clear i c;go_wp2_with fail
 refine(TR _ _ _ _ z (by rw[H.o];omega) r).ae ?_;rintro e K ⟨rfl,x⟩;go_wp2;go_ret;exact⟨by rw[V.o,lY,lY];rfl,d.trans (x.ae d.size)⟩
theorem aiJ (n:Int) (w:E) (h0: -9223372036854775808<=n) (h1:n<=9223372036854775807):
  c6 140 #[J I n] w (dj w (zK (B n.toNat))):=by
 have h:=fun V=>aer n.toNat V al;by_cases c:0<=n
 ·obtain⟨m,rfl⟩:=Int.eq_ofNat_of_zero_le c;rw[oU] at h⊢;have H:=aD h;have x:max (m:Int) 0=(m:Int):=al
  clear h;go_enter func140,ntmps140;go_wp2_with fail
  refine(H.o _).ae ?_;rintro e d ⟨rfl,b⟩;go_wp2;go_ret;exact⟨rfl,b⟩
 ·have a:n.toNat=0:=al
  rw[a] at h⊢;have H:=aD h;have x:max n 0=0:=al
  clear h a;go_enter func140,ntmps140;go_wp2_with fail
  refine(H.o _).ae ?_;rintro e d ⟨rfl,b⟩;go_wp2;go_ret;exact⟨rfl,b⟩
theorem aq0 (a b:Nat) (w:E) (d:a<18446744073709551616) (e:b<18446744073709551616):
  c6 241 #[J .u64 (a:Nat),J .u64 (b:Nat)] w (dj w (J .u64 (Nat.gcd a b:Nat))):=by
 go_enter func241,ntmps241;go_wp2;go_loopw [0,1] (fun x y wr=>∃m n:Nat,x=J .u64 m/\y=J .u64 n/\m<18446744073709551616/\n<18446744073709551616/\wT (Nat.gcd m n=Nat.gcd a b)/\da w wr) (fun _ y _=>(intOf y).toNat)
 case atStart=>exact⟨a,b,rfl,rfl,d,e,rfl,au _ _⟩
 case round=>
  obtain⟨m,n,rfl,rfl,i,f,g,h⟩:=hrel;by_cases c:n=0
  ·subst c;go_wp2;go_ret;exact⟨C3 (by rw[<- g.o,Nat.gcd_zero_right]),h⟩
  ·have K:((n:Int) !=0)=true:=by rw[bne_iff_ne];omega
   (have l:((n:Int)==0)=false:=by rw[Hd];omega);(have j:¬(n:Int)=0:=al);(have k:0<n:=al);have r:m % n<n:=jc _ k;(have H:wT (Nat.gcd n (m % n)=Nat.gcd a b):=by show _=_;rw[<- g.o, <- ML (m % n) n, <- Nat.gcd_rec,ML]);go_wp2_with fail
   go_region
   all_goals go_wp2
   rw[show ((m:Int) % (n:Int))=((m % n:Nat):Int) from (wk m n).symm];go_roundw
   case rel=>exact⟨n,m % n,rfl,rfl,f,al,H,h.drew⟩
   case measure=>simp[intOf];omega
theorem ant (a b:Nat) (h:a<4294967296) (d:b<4294967296):bits .or .u64 (a:Int) ((b:Int)*4294967296)=((a+b*4294967296:Nat):Int):=by
 have e:(b:Int)*4294967296=((b*4294967296:Nat):Int):=al
 rw[e,u64_or_nat _ _ al al];congr 1
 have:=nat_join 32 (b*4294967296) a al al;have c:a |||b*4294967296=b*4294967296 |||a:=Nat.or_comm _ _;omega
theorem or_zero (a:Nat) (h:a<4294967296):bits .or .u64 0 (a:Int)=(a:Int):=by
 have:=u64_or_nat 0 a al al;rw[show ((0:Nat):Int)=0 from rfl] at this;rw[this,Nat.zero_or]
theorem abP (g cap:Nat) (l:Ja) (w:E) (hs:Small l) (n:C l<=2) (d:bM w g 0 l):
  c6 242 #[Z (M ⟨g,0,N⟩) (C l) cap] w fun e w'=>e=yW (J .u64 (nw l:Nat))/\w'=w:=by
 match l,n with
 |[],_=>
  go_enter func242,ntmps242;go_wp2;refine Mz 1 ?_;rw[sP];go_wp2;go_ret;exact⟨rfl,rfl⟩
 |[a],_=>
  have c:=d.cell 0 aE;have h:a<4294967296:=hs a aE;have o:=or_zero a h;simp only[bQ,List.getElem?_cons_zero,CH] at c;go_enter func242,ntmps242;go_wp2;refine Mz 2 ?_;rw[sP];go_wp2;rw[sP];go_wp2;go_ret;exact⟨C3 (by simp[lZ,o7]),rfl⟩
 |[a,b],_=>
  have c:=d.cell 0 aE;have f:=d.cell 1 aE;have h:a<4294967296:=hs a aE;have i:b<4294967296:=hs b aE;have o:=or_zero a h;have j:=ant a b h i;simp only[bQ,List.getElem?_cons_zero,List.getElem?_cons_succ,CH] at c f;go_enter func242,ntmps242;go_wp2;refine Mz 3 ?_;rw[sP];go_wp2;rw[sP];go_wp2;rw[sP];go_wp2;go_ret;exact⟨C3 (by simp only[lZ,o7,iZ];omega),rfl⟩
def j3 (xs:Ja) (s j:Nat):Nat:=2^s*xs[j]?.getD 0
theorem alf (xs:Ja) (s:Nat):j6 (j3 xs s) (C xs)=2^s*nw xs:=by
 rw[show j3 xs s=fun j=>2^s*(fun j=>xs[j]?.getD 0) j from rfl,aet,aeu xs _ (ah _)]
theorem acR (xs:Ja) (x:Small xs) (s k:Nat):(acc (j3 xs s) k).2<2^s:=by
 have p:0<2^s:=wh a6
 have h:=aa0 (j3 xs s) (2^s - 1) k fun j _=>by
  have a:=getD_lt x j;have b:2^s*(xs[j]?.getD 0+1)<=2^s*W:=mK _ a;rw[oO] at b;unfold j3;rw[VH p];omega
 omega
theorem RV {s:Nat} (hs:s<32):2^s<=2147483648:=by
 have:2^s<=2^31:=k7 a6 al;simpa using this
theorem ak9 (c x s:Nat) (hs:s<32) (h:c<2^s) (a:x<4294967296):bits .or .u64 (c:Int) (IntKind.u64.wrap ((x:Int)*2^s))=((c+2^s*x:Nat):Int):=by
 have p:=RV hs;have m:x*2^s<=4294967295*2147483648:=kN al p
 have e:IntKind.u64.wrap ((x:Int)*2^s)=((x*2^s:Nat):Int):=by
  rw[Q8,show ((x:Int)*2^s)=((x*2^s:Nat):Int) by simp];omega
 rw[e,u64_or_nat _ _ al al,Nat.or_comm,nat_join s _ _ (Nat.mul_mod_left _ _) h];congr 1
 rw[eQ];omega
theorem acP (Bh mA:Nat) (xs:Ja) (s:Nat) (w:E) (n:Small xs) (hs:s<32) (aJ:C xs<=8796093022208) (L:bM w Bh 0 xs):
  c6 274 #[Z (M ⟨Bh,0,N⟩) (C xs) mA,J I (s:Nat)] w fun e w'=>∃v l,e=yW v/\Has w' (O (T w)) v l/\Small l/\l.length=C xs+1/\nw l=2^s*nw xs/\da w w':=by
 obtain⟨i0,hi,av,ax,ay⟩:=eC Tryz.infoU32;have aj:=L.lt;go_enter func274,ntmps274
 go_wp2_with (first
  |(at_make;refine oK _ rfl _ _ 221 rfl (O (T w)) 157 i0 (J yE 0) 1 underlying221 hi av ax I I _ _ (C xs+1) rfl rfl al al (by rw[ay];omega) (by unfold maxLen;omega) (ah _) ?_;intro r X B7;have A:=sB X;rw[NN] at A;have g:=aD A;have u:da w r:=(au _ w).grown B7 (ah _) (fun k e=>by cases e);have aq:=L.aa u aj;clear X B7 A))
 have ak:=SH g.o
 go_loopw [6,15] (fun c i wr=>∃k:Nat,k<=C xs/\i=J I k/\c=J .u64 ((acc (j3 xs s) k).2:Nat)/\bM wr (O (T w)) 0 ((acc (j3 xs s) k).1++(List.replicate (C xs+1) 0).drop k)/\dL (O (T w)) 0 (C xs+1) r wr)
  (fun _ i _=>C xs - (intOf i).toNat)
 case atStart=>exact⟨0,aV _,rfl,rfl,by simpa [acc] using ak,dL.refl _ _ _ _⟩
 case round=>
  obtain⟨k,hk,rfl,rfl,d,h⟩:=hrel;have j:=PJ (j3 xs s) k;by_cases an:k<C xs
  ·have vt:=(aq.apart h al).cell k an;rw[bQ] at vt;(have a:k<C ((acc (j3 xs s) k).1++(List.replicate (C xs+1) 0).drop k):=by rw[cE,j,p8,tW];omega);have D:=d.cell k a;have ai:=d.frozen k;have Bm:=fun y=>d.set k a y;rw[bQ] at D;simp only[Ug _ (List.replicate (C xs+1) 0) k _ j (by simp;omega),bQ] at Bm;have V:=getD_lt n k;have b:=acR xs n s k;have Bj:wT (acc (j3 xs s) (k+1)=((acc (j3 xs s) k).1++[((acc (j3 xs s) k).2+j3 xs s k) % W],((acc (j3 xs s) k).2+j3 xs s k)/W)):=rfl;have F:wT (j3 xs s k=2^s*xs[k]?.getD 0):=rfl;rw[iZ] at V;have P:=ak9 (acc (j3 xs s) k).2 (xs[k]?.getD 0) s hs b V;have K:2^s*xs[k]?.getD 0<=2147483648*4294967295:=kN (RV hs) al;have p:=RV hs;rw[<- F.o] at P K;generalize j3 xs s k=f at *;generalize (acc (j3 xs s) k).2=c at *;generalize (acc (j3 xs s) k).1=q at *;generalize xs[k]?.getD 0=x at *;generalize (q++(List.replicate (C xs+1) 0).drop k)[k]?.getD 0=az at *;obtain⟨t,m⟩:∃t,t=c+f:=⟨_,rfl⟩;rw[<- m] at P;(have Dn:t<18446744073709551615:=al);have Ba:=aD m;have mD:=aD Bm;(have R:c<4294967296:=al);clear Bm a d m K p b F;go_wp2;have hv:Value.int yE ((t:Int) % 4294967296)=J yE (((c+f) % W:Nat):Int):=int_eq (by rw[iZ, <- Ba.o];omega);have ao:Value.int .u64 ((t:Int)/4294967296)=J .u64 (((c+f)/W:Nat):Int):=int_eq (by rw[iZ, <- Ba.o];omega);rw[hv,ao];have hq:=mD.o ((c+f) % W);go_roundw
   case rel=>exact⟨k+1,al,bd,by rw[Bj.o],by rw[Bj.o];exact hq,h.trans (dL.setCell (aV _) al _)⟩
   case measure=>simp[intOf];omega
  ·obtain rfl:k=C xs:=al
   (have a:C xs<C ((acc (j3 xs s) (C xs)).1++(List.replicate (C xs+1) 0).drop (C xs)):=by rw[cE,j,p8,tW];omega);have D:=d.cell (C xs) a;have ai:=d.frozen (C xs);have Bm:=d.set (C xs) a (acc (j3 xs s) (C xs)).2;rw[Ug _ (List.replicate (C xs+1) 0) (C xs) _ j aE,JW aE,kq,bQ] at Bm;rw[bQ] at D;have b:=acR xs n s (C xs);have p:=RV hs;have HE:=aD (aaZ (j3 xs s) (C xs));have wM:=aaY (j3 xs s) (C xs);have F:=aD (alf xs s);obtain⟨aI,ae,OX,_⟩:=h.inside _ g.o;generalize ((acc (j3 xs s) (C xs)).1++(List.replicate (C xs+1) 0).drop (C xs))[C xs]?.getD 0=az at *;generalize (acc (j3 xs s) (C xs)).2=c at *;generalize (acc (j3 xs s) (C xs)).1=q at *;(have R:c<4294967296:=al);have Y:dL (O (T w)) 0 (C xs+1) r (wr.setCell ⟨O (T w),C xs,N⟩ (J yE (c:Nat))):=h.trans (dL.setCell (aV _) al _);obtain⟨ad,U,Q,_⟩:=Y.inside _ g.o;(have S:C (q++[c])=C xs+1:=by rw[cE,j];rfl);have B9:=Ny (base:=O (T w)) (cap:=C xs+1) ad U (by rw[Q];simp) (ah _) (by unfold maxLen;omega) al Bm;have fR:=dL.aa u Y (ah _) u.size;have HO:=aD B9;have H:=aD S;have ab:=aD j;clear Bm a d ae OX U Q B9 Y S j p b;go_wp2;go_ret;refine⟨_,q++[c],rfl,?_,?_,H.o,?_,fR⟩
   ·rw[Has,H.o];have:=HO.o;rwa [H.o] at this
   ·exact A6 wM (fun z Bb=>by simp at Bb;subst Bb;exact R)
   ·rw[Ff,ab.o,HE.o,F.o]
def qf (s:Nat):Ja ->Ja
 |[]=>[]
 |x::r=>(x+W*r[0]?.getD 0)/2^s % W::qf s r
theorem ald (s:Nat) (l:Ja):C (qf s l)=C l:=by
 induction l with
 |nil=>rfl
 |cons x r ih=>rw[qf,eA,ih,eA]
theorem acQ (s:Nat) (l:Ja):Small (qf s l):=by
 induction l with
 |nil=>intro x a;simp[qf] at a
 |cons x r ih=>
  intro y h;rw[qf] at h;rcases bY.1 h with rfl |h
  ·exact jc _ nG
  ·exact ih y h
theorem anL (l:Ja) (h:Small l):nw l % W=l[0]?.getD 0:=by
 cases l with
 |nil=>rfl
 |cons x r=>rw[lZ,abv];exact kp (h x dJ)
theorem auc {s:Nat} (hs:s<=32):W=2^s*2^(32 - s):=by rw[<- EL,show s+(32 - s)=32 by omega];rfl
theorem alc (s:Nat) (hs:s<=32) (l:Ja) (d:Small l):nw (qf s l)=nw l/2^s:=by
 induction l with
 |nil=>simp[qf,o7]
 |cons x r ih=>
  have f:Small r:=fun y o=>d y (dZ _ o);have t:=d x dJ;have h:0<2^s:=wh a6;rw[qf,lZ,lZ,ih f, <- anL r f];generalize nw r=n;have g:=QT n (2^s);have m:=jc n h;generalize hq:n/2^s=a at *;generalize iG:n % 2^s=b at *
  have q:(x+W*b)/2^s<W:=by
   refine JR ?_;have:W*(b+1)<=W*2^s:=mK _ m;rw[oO,eQ W (2^s)] at this;omega
  have i:(x+W*n)/2^s=(x+W*b)/2^s+W*a:=by
   rw[<- g,oO, <- zl,Nat.add_right_comm,show W*(2^s*a)=2^s*(W*a) by rw[CL],Nat.add_mul_div_left _ _ h]
  have j:(x+W*(n % W))/2^s % W=(x+W*b)/2^s:=by
   have k:=auc hs;(have p:n % W % 2^s=b:=by rw[<- iG,k,Nat.mod_mul_right_mod]);have e:=QT (n % W) (2^s);rw[p] at e;generalize n % W/2^s=c at *;rw[<- e,oO, <- zl,Nat.add_right_comm,show W*(2^s*c)=2^s*(W*c) by rw[CL],Nat.add_mul_div_left _ _ h,abv];exact kp q
  rw[i,j]
theorem ala (a x:Nat) (h:x<4294967296):bits .or .u64 (IntKind.u64.wrap ((a:Int)*4294967296)) (x:Int)=((a % 4294967296*4294967296+x:Nat):Int):=by
 have e:IntKind.u64.wrap ((a:Int)*4294967296)=((a % 4294967296:Nat):Int)*4294967296:=by rw[Q8];omega
 rw[e];exact aei (a % 4294967296) x al h
theorem alb (g cap:Nat) (l:Ja) (s:Nat) (w:E) (Y:Small l) (hs:s<32) (V:C l<=35184372088832) (F:bM w g 0 l):
  c6 276 #[Z (M ⟨g,0,N⟩) (C l) cap,J I (s:Nat)] w fun e w'=>e=yW (zp #[])/\bM w' g 0 (qf s l)/\dL g 0 (C l) w w':=by
 go_enter func276,ntmps276;go_wp2
 go_loopw [4,9] (fun a i wr=>∃k b:Nat,k<=C l/\i=J I k/\a=J .u64 (b:Nat)/\b<18446744073709551616/\wT (b % 4294967296=(l.drop (C l - k))[0]?.getD 0)/\bM wr g 0 (l.take (C l - k)++qf s (l.drop (C l - k)))/\dL g 0 (C l) w wr)
  (fun _ i _=>C l - (intOf i).toNat)
 case atStart=>exact⟨0,0,aV _,rfl,rfl,al,by show _=_;simp,by simpa [qf] using F,dL.refl _ _ _ _⟩
 case round=>
  obtain⟨k,b,B9,rfl,rfl,R,B7,d,u⟩:=hrel;by_cases S:k<C l
  ·obtain⟨m,Bj⟩:∃m,m+1=C l - k:=⟨C l - k - 1,al⟩;(have r:m<C l:=al);(have f:C l - (k+1)=m:=al);have h:l.drop m=l[m]::l.drop (m+1):=qP r;have p:=Y _ (bU r);rw[<- Bj] at d B7;(have j:m<C (l.take (m+1)++qf s (l.drop (m+1))):=by simp;omega);have z:=d.cell m j;have Bb:=d.frozen (0+m);have Bm:=fun y=>d.set m j y;simp only[akd l _ m _ r] at Bm
   have v:(l.take (m+1)++qf s (l.drop (m+1)))[m]?.getD 0=l[m]:=by
    rw[Q3 (by simp;omega),sQ,aw al,a7 r];rfl
   rw[v] at z;rw[bQ] at z Bb;(have H:wT (qf s (l.drop m)=(l[m]+W*(l.drop (m+1))[0]?.getD 0)/2^s % W::qf s (l.drop (m+1))):=by show _=_;rw[h];rfl);(have A:wT ((l.drop m)[0]?.getD 0=l[m]):=by show _=_;rw[h];rfl);rw[iZ] at p;rw[<- B7.o] at H;generalize qf s (l.drop (m+1))=q at *;generalize l[m]=x at *;obtain⟨t,c⟩:∃t,t=b % 4294967296*4294967296+x:=⟨_,rfl⟩;(have Q:bits .or .u64 (IntKind.u64.wrap ((b:Int)*4294967296)) (x:Int)=(t:Int):=by rw[c];exact ala b x p);(have D:t<18446744073709551616:=al);(have K:t % 4294967296=x:=al);have P:=aD K;have Ba:=aD c;(have U:(C l:Int) - 1 - (k:Int)=(m:Int):=al);have L:=aD Bm;clear c v Bm h j d B7 K;go_wp2
   have Bh:Value.int yE ((t:Int)/2^s % 4294967296)=J yE (((x+W*(b % 4294967296))/2^s % W:Nat):Int):=int_eq (by
    (have e:x+W*(b % 4294967296)=t:=by rw[Ba.o,iZ,eQ];omega);rw[e,iZ,wk,AX,Int.natCast_pow];rfl)
   rw[Bh];have n:=L.o ((x+W*(b % 4294967296))/2^s % W);rw[bQ] at n;go_roundw
   case rel=>exact⟨k+1,t,al,bd,rfl,D,by show _=_;rw[f,A.o];exact P.o,by rw[f,H.o];exact n,u.trans (dL.setCell (aV _) al _)⟩
   case measure=>simp[intOf];omega
  ·obtain rfl:k=C l:=al
   go_wp2;go_end0
   refine⟨rfl,?_,u⟩;simpa using d
theorem aqU (xs s:Ja) (k:C xs=C s+1) (g:Small xs) (S:0<C s) (w:s[C s - 1]?.getD 0≠0) (l:nw xs<W*nw s):
  nw xs/nw s<=min ((xs[C s]?.getD 0*W+xs[C s - 1]?.getD 0)/s[C s - 1]?.getD 0) (W - 1):=by
 obtain⟨d,f⟩:∃d,C s=d+1:=⟨C s - 1,al⟩;rw[f,QU] at w⊢
 have o:0<nw s:=by
  have:=uW s d al
  have h:s.drop d=[s[d]?.getD 0]:=by
   rw[qP al,JW al,a7 al];rfl
  rw[h,lZ,o7,lQ,jd] at this;have:0<W^d*s[d]?.getD 0:=MI (wh nG) (lO w);omega
 have m:nw xs/nw s<W:=JR (by rw[eQ];exact l);have n:=Nat.div_mul_le_self (nw xs) (nw s);generalize nw xs/nw s=q at *;refine Nat.le_min.2 ⟨?_,al⟩;rw[Nat.le_div_iff_mul_le (lO w)];have b:=uW s d al
 have j:s.drop d=[s[d]?.getD 0]:=by
  rw[qP al,JW al,a7 al];rfl
 rw[j,lZ,o7,lQ,jd] at b;have e:=uW xs d al
 have i:xs.drop d=[xs[d]?.getD 0,xs[d+1]?.getD 0]:=by
  rw[qP al,qP al,JW al,a7 al,a7 al];rfl
 have p:=xX (xs.take d) (Kk g d);rw[fh,uO al] at p;rw[i,lZ,lZ,o7,lQ,jd] at e;generalize s[d]?.getD 0=y at *;generalize xs[d]?.getD 0=a at *;generalize xs[d+1]?.getD 0=x at *;have c:q*(W^d*y)<=q*nw s:=mK _ al
 have h:W^d*(q*y)<W^d*(x*W+a+1):=by
  rw[CL] at c;rw[oO,qM,EO (x*W) a,eQ x W];omega
 have:=Nat.lt_of_mul_lt_mul_left h;omega
theorem akg (g f cap b S:Nat) (xs y:Ja) (w:E) (v:C xs=C y+1) (k:Small xs) (x:Small y) (aI:C xs<=35184372088832) (kS:0<C y) (wO:y[C y - 1]?.getD 0≠0) (K:nw xs<W*nw y) (D:bM w g f xs) (Bm:bM w b 0 y) (Bh:b≠g):
  c6 275 #[Z (M ⟨g,f,N⟩) (C xs) cap,Z (M ⟨b,0,N⟩) (C y) S] w fun e w'=>∃l',e=yW (J yE (nw xs/nw y:Nat))/\l'.length=C xs/\Small l'/\nw l'=nw xs % nw y/\bM w' g f l'/\dL g f (C xs) w w':=by
 have av:=aqU xs y v k kS wO K;have q:=D.cell (C y) al;have j:=D.cell (C y - 1) al;have aq:=Bm.cell (C y - 1) al;rw[bQ] at aq;have an:=getD_lt k (C y);have ao:=getD_lt k (C y - 1);have a1:=getD_lt x (C y - 1);have Ba:=aD av;have HL:=aD v;have U5:=aD K;rw[iZ] at an ao a1;have vd:C y<C xs:=al
 have yr:=aei (xs[C y]?.getD 0) (xs[C y - 1]?.getD 0) an ao;rw[iZ] at Ba;generalize xs[C y]?.getD 0=x1 at *;generalize xs[C y - 1]?.getD 0=x0 at *;generalize y[C y - 1]?.getD 0=p at *;obtain⟨t,ht⟩:∃t,t=x1*4294967296+x0:=⟨_,rfl⟩;rw[<- ht] at yr Ba;have Dn:t<18446744073709551616:=al
 have Dw:(C y:Int) - 1<(C xs:Int):=al
 have qY:(C y:Int)<(C xs:Int):=al
 have zU:0<=(C y:Int) - 1:=al
 have BO:((C y:Int) - 1).toNat=C y - 1:=al
 have Th:IntKind.i64.wrap ((C y:Int) - 1+1)=(C y:Int):=by rw[js];omega
 clear ht v K av;go_enter func275,ntmps275;go_wp2_with fail
 go_quiet (fail)
 go_wp2_with fail
 obtain⟨gs,H⟩:∃gs,gs=min (t/p) 4294967295:=⟨_,rfl⟩;have bf:t/p<=t:=AV _ _
 have B9:min (IntKind.u64.wrap ((t:Int)/(p:Int))) 4294967295 % 4294967296=(gs:Int):=by
  rw[Q8, <- AX,H];generalize t/p=z at *;omega
 rw[B9];have ak:gs<4294967296:=al
 have P:wT (nw xs/nw y<=gs):=by show _<=_;rw[H];exact Ba.o
 clear B9 H Ba yr q j aq;refine(ace g f cap b 0 S xs y gs _ k x ak aI al (D.drewN nq) (Bm.drewN nq) Bh).ae ?_;rintro e w2 ⟨s,l,rfl,dO,ay,A,R,hu⟩;have az:dL g f (C xs) w w2:=((dL.refl g f (C xs) w).drewN nq).trans hu;have ab:=xX l ay;rw[dO] at ab
 have aY:gs*nw y<W^C xs:=by
  have a:=xX y x;have h2:gs*nw y<=(W - 1)*nw y:=lR _ (by rw[iZ];omega);have h3:W*nw y<=W*W^C y:=mK _ (AU a);have h4:(W - 1)*nw y<=W*nw y:=lR _ al;have h5:W^C xs=W*W^C y:=by rw[HL.o,jI,eQ]
  have h6:0<W^C y:=wh nG;have h7:(W - 1)*nw y<=(W - 1)*W^C y:=mK _ (AU a)
  have h8:(W - 1)*W^C y+W^C y=W*W^C y:=by
   (have:(W - 1+1)*W^C y=W*W^C y:=by rw[VH nG]);rwa [iC,k8] at this
  omega
 have ax:s=0∨s=1:=by
  rcases dX s 2 with h |h
  ·omega
  ·have:W^C xs*2<=W^C xs*s:=mK _ h;omega
 have ai:wT ((decide (s≠0)=xd/\nw l+gs*nw y=nw xs)∨(decide (s≠0)=y6/\nw l+gs*nw y=nw xs+W^C xs/\nw xs<gs*nw y)):=by
  rcases ax with rfl |rfl
  ·exact yd ⟨rfl,by rw[A];omega⟩
  ·refine yk ⟨rfl,by rw[A];omega,?_⟩;omega
 generalize decide (s≠0)=be at *;clear A ab aY ax hu;go_wp2;go_loopg [7,8] gs (fun r gu be wr=>∃(l:Ja) (d:Bool),gu=J yE (r:Nat)/\be=zZ d/\l.length=C xs/\Small l/\bM wr g f l/\dL g f (C xs) w wr/\wT (nw xs/nw y<=r)/\r<4294967296/\wT ((d=xd/\nw l+r*nw y=nw xs)∨(d=y6/\nw l+r*nw y=nw xs+W^C xs/\nw xs<r*nw y)))
 case atStart=>exact⟨l,be,rfl,rfl,dO,ay,R,az,P,ak,ai⟩
 case round=>
  obtain⟨i,d,rfl,rfl,ad,B7,V,F,pq,bd,L⟩:=hrel;clear ai R az P;have m:=aD ad;clear ad;cases d with
  |false=>
   have hc:nw i+gk*nw y=nw xs:=by
    rcases L.o with ⟨_,h⟩ |⟨h,_⟩
    ·exact h
    ·cases h
   have Bb:0<nw y:=by
    rcases zj (nw y) with e |e
    ·have:=U5.o;rw[e,lQ] at this;omega
    ·exact e
   have u:gk=nw xs/nw y:=by
    have a:gk<=nw xs/nw y:=(Nat.le_div_iff_mul_le Bb).2 al;have:=pq.o;omega
   have HR:wT (nw i=nw xs % nw y):=by
    show _=_;have a:=Nat.div_add_mod' (nw xs) (nw y);rw[<- u] at a;omega
   have HG:=aD u;clear hc u L;go_wp2;go_ret;exact⟨i,by rw[<- HG.o];rfl,m.o,B7,HR.o,V,F⟩
  |true=>
   obtain⟨q,j⟩:nw i+gk*nw y=nw xs+W^C xs/\nw xs<gk*nw y:=by
    rcases L.o with ⟨h,_⟩ |⟨_,h⟩
    ·cases h
    ·exact h
   have a6:1<=gk:=by
    rcases zj gk with e |e
    ·rw[e,oN] at j;omega
    ·exact e
   have U:=aD q;have Q:=aD j;have aE:=(Bm.apart F Bh);clear q j L;go_wp2_with fail
   have X:=Xh g f cap b 0 S i y wr B7 x (by rw[m.o];exact aI) (by rw[m.o];omega) V aE Bh;rw[m.o] at X;refine X.ae ?_;rintro e w3 ⟨c,n,rfl,Y,aj,Bj,aR,mX⟩;have aa:=xX n aj;rw[Y] at aa
   have bc:gk*nw y=(gk - 1)*nw y+nw y:=by
    (have:(gk - 1+1)*nw y=gk*nw y:=by rw[VH a6]);rw[<- this,iC,k8]
   have vR:wT (((!c)=xd/\nw n+(gk - 1)*nw y=nw xs)∨((!c)=y6/\nw n+(gk - 1)*nw y=nw xs+W^C xs/\nw xs<(gk - 1)*nw y)):=by
    have a:=U.o;cases c with
    |true=>simp only[if_true] at Bj;exact yd ⟨rfl,al⟩
    |false=>simp only[Bool.false_eq_true,if_false,jd] at Bj;exact yk ⟨rfl,al,al⟩
   have aJ:wT (nw xs/nw y<=gk - 1):=by
    show _<=_
    have Bb:0<nw y:=by
     rcases zj (nw y) with e |e
     ·have:=U5.o;rw[e,lQ] at this;omega
     ·exact e
    have:=(Nat.div_lt_iff_lt_mul Bb).2 Q.o;omega
   have Qv:=aD Y;clear Bj aa bc X Y V aE U Q;go_wp2;go_roundg (gk - 1)
   case measure=>omega
   case rel=>exact⟨n,!c,int_eq al,rfl,Qv.o,aj,aR,F.trans mX,aJ,al,vR⟩
variable {lf ql:Ja}
theorem anK (l:Ja) (i y:Nat) (h:i<C l):nw (l.set i y)+W^i*l[i]?.getD 0=nw l+W^i*y:=by
 have e:=uW l i al;have a:=uW (l.set i y) i (by rw[gA];omega);have b:(l.set i y).take i=l.take i:=List.take_set_of_le (ah _)
 have c:(l.set i y).drop i=y::l.drop (i+1):=by
  rw[List.drop_set,aC al,rE,qP h,CM]
 have d:l.drop i=l[i]?.getD 0::l.drop (i+1):=by rw[qP h,a7 h];rfl
 rw[b,c,lZ,oO] at a;rw[d,lZ,oO] at e;omega
structure vX (X Y L:Nat) (lf ql:Ja) (j:Nat):Prop where
 qlen:C ql=L
 qs:Small ql
 ls:Small lf
 zero:∀t,t< j ->ql[t]?.getD 0=0
 eq:nw ql*Y+nw lf=X
 lt:nw (lf.drop j)<Y
theorem vX.seg {X Y L:Nat} (h:vX X Y L lf ql (i+1)) (f:Y<=W^m) (n:i+m+1<=C lf):
  nw ((lf.drop i).take (m+1))<W*Y/\nw (lf.drop i)=nw ((lf.drop i).take (m+1))/\nw (lf.drop (i+(m+1)))=0:=by
 have a:lf.drop i=lf[i]?.getD 0::lf.drop (i+1):=by rw[qP al,a7 al];rfl
 have l:nw (lf.drop i)<W*Y:=by
  have b:=h.lt;have g:=getD_lt h.ls i;have d:W*(nw (lf.drop (i+1))+1)<=W*Y:=mK _ b;rw[oO] at d;rw[a,lZ];omega
 have c:=uW (lf.drop i) (m+1) (by rw[p8];omega);rw[List.drop_drop] at c
 have z:nw (lf.drop (i+(m+1)))=0:=by
  rcases zj (nw (lf.drop (i+(m+1)))) with e |e
  ·exact e
  ·have j:W^(m+1)*1<=W^(m+1)*nw (lf.drop (i+(m+1))):=mK _ e;(have k:W*Y<=W^(m+1):=by rw[jI,eQ];exact lR _ f);omega
 rw[z,lQ,jd] at c;exact⟨al,c,z⟩
theorem vX.step {X Y L:Nat} {e:Ja} (h:vX X Y L lf ql (i+1)) (b:Y<=W^m) (l:i+m+1<=C lf) (d:i<L) (j:0<Y)
  (p:C e=m+1) (o:Small e) (c:nw e=nw ((lf.drop i).take (m+1)) % Y):
  vX X Y L (lf.take i++e++lf.drop (i+(m+1))) (ql.set i (nw ((lf.drop i).take (m+1))/Y)) i:=by
 obtain⟨f,g,s⟩:=h.seg b l;have z:C (lf.take i)=i:=by rw[fh];omega
 generalize hS:nw ((lf.drop i).take (m+1))=S at *;have q:S/Y<W:=JR (by rw[eQ];exact f);have Bm:=anK ql i (S/Y) (by rw[h.qlen];exact d);rw[h.zero i al,lQ,jd] at Bm;have k:=Nat.div_add_mod' S Y;have hcut:=uW lf i al
 have n:nw (lf.take i++e++lf.drop (i+(m+1)))=nw (lf.take i)+W^i*(S % Y):=by
  rw[Db,s,lQ,jd,Db,z,c]
 refine⟨by rw[gA];exact h.qlen,?_,?_,?_,?_,?_⟩
 ·intro x a;rcases abx a with a |rfl
  ·exact h.qs x a
  ·exact q
 ·exact A6 (A6 (Kk h.ls i) o) (Ni h.ls _)
 ·intro t r;rw[wj al];exact h.zero t al
 ·rw[Bm,n,iC, <- h.eq,hcut,g];have:W^i*S=W^i*(S/Y)*Y+W^i*(S % Y):=by rw[jr, <- oO,k]
  omega
 ·rw[p9,List.drop_append,z,rE,JW al,gS,ES,Db,s,lQ,jd,c];exact jc _ j
theorem vX.start {X Y s:Nat} {xs:Ja} (i:0<m) (j:m<=n) (hs:Small lf) (a:C xs=n) (K:Small xs) (f:X=2^s*nw xs) (w:nw lf=X) (d:C lf=n+1) (c:2^s*W^(m - 1)<=Y):
  vX X Y (n - m+1) lf (List.replicate (n - m+1) 0) (n - m+1):=by
 refine⟨aE,acK _,hs,fun t _=>by rw[JT];split<;>rfl,by rw[XF,oN,bQ,w],?_⟩;have g:=uW lf (n - m+1) al;have l:nw xs<W^n:=by rw[<- a];exact xX xs K
 have p:0<2^s:=wh a6;have e:2^s*nw xs<2^s*W^n:=Nat.mul_lt_mul_of_pos_left l p;have h:W^n=W^(n - m+1)*W^(m - 1):=by rw[<- EL];congr 1;omega
 have b:W^(n - m+1)*nw (lf.drop (n - m+1))<W^(n - m+1)*(2^s*W^(m - 1)):=by
  rw[CL, <- h];omega
 exact aT (Nat.lt_of_mul_lt_mul_left b) c
theorem vX.stop {X Y L:Nat} (h:vX X Y L lf ql 0):nw ql=X/Y/\nw lf=X % Y:=by
 have a:=h.lt;rw[ES] at a;have b:=h.eq;have c:0<Y:=al
 constructor
 ·rw[<- b,EO,VO _ _ c,zk a,bQ]
 ·rw[<- b,EO,VN,kp a]
theorem aty (k:Nat):∀x,x<2^k ->k<=32 ->Lib.bitLen x<=k/\x<2^Lib.bitLen x:=by
 induction k with
 |zero=>
  intro x h _;have:x=0:=by simpa using h
  subst this;exact⟨ah _,a6⟩
 |succ k ih=>
  intro x h b;by_cases a:x=0
  ·subst a;exact⟨aV _,a6⟩
  ·have q:x<2^64:=aT h (k7 a6 al);have e:=Lib.bitLen_half x a q;obtain⟨i,c⟩:=ih (x/2) (JR (by rw[jI] at h;omega)) al;rw[e];refine⟨al,?_⟩;rw[EO,jI];omega
theorem atx (x:Nat) (h0:x≠0) (h:x<4294967296):1<=Lib.bitLen x:=by
 have:=Lib.bitLen_half x h0 al;omega
theorem aif (a:Ja) (s:Nat) (hs:Small a) (S:0<C a) (w:a[C a - 1]?.getD 0≠0) (j:2^s*(a[C a - 1]?.getD 0+1)<=W):
  (words (2^s*nw a)).length=C a/\2^s*W^(C a - 1)<=2^s*nw a/\2^s*nw a<=W^C a:=by
 obtain⟨d,g⟩:∃d,C a=d+1:=⟨C a - 1,al⟩;rw[g,QU] at w j⊢;have f:=uW a d al
 have q:a.drop d=[a[d]?.getD 0]:=by
  rw[qP al,JW al,a7 al];rfl
 rw[q,lZ,o7,lQ,jd] at f;have t:=xX (a.take d) (Kk hs d);rw[fh,uO al] at t;generalize a[d]?.getD 0=y at *;have p:0<2^s:=wh a6;have v:W^d*1<=W^d*y:=mK _ (lO w);have x:W^d<=nw a:=al
 have F:nw a<W^d*(y+1):=by rw[oO];omega
 have A:2^s*nw a<2^s*(W^d*(y+1)):=Nat.mul_lt_mul_of_pos_left F p;have D:2^s*(W^d*(y+1))<=W^d*W:=by rw[CL];exact mK _ j
 have Bm:2^s*nw a<W^(d+1):=by rw[jI];omega
 have H:W^d<=2^s*nw a:=aM x (EN _ p);refine⟨?_,mK _ x,al⟩;have i:=lY (2^s*nw a);have m:=oY (2^s*nw a);have u:=xX _ m;rw[i] at u
 have L:C (words (2^s*nw a))<=d+1:=by
  obtain⟨k,K,e⟩:=Rh (words (2^s*nw a)++List.replicate 0 0) (by simpa using m);have o:words (2^s*nw a)≠[]:=fun e=>by rw[Ri] at e;have:0<W^d:=wh nG;omega
  have h:=abN _ o;rcases dX (d+1) (C (words (2^s*nw a))) with c |c
  ·exfalso
   generalize words (2^s*nw a)=l at *;obtain⟨z,n⟩:∃z,C l=z+1:=⟨C l - 1,al⟩;have b:=uW l z al;rw[List.getLast_eq_getElem] at h;(have r:l.drop z=[l[z]'al]:=by rw[qP al,JW al]);simp only[n,QU] at h;rw[r,lZ,o7,lQ,jd] at b;have Bj:W^z*1<=W^z*l[z]'al:=mK _ (lO h);have Bh:W^(d+1)<=W^z:=k7 nG al;omega
  ·exact c
 rcases dX (C (words (2^s*nw a))) (d+1) with c |c
 ·have:W^C (words (2^s*nw a))<=W^d:=k7 nG al;omega
 ·omega
theorem asj (vx:Kd) (n A:Nat) (v:Kd) (m j:Nat) (w:E) (h:n<m):
  c6 240 #[Z vx n A,Z v m j] w fun e w'=>e=yW (zp #[Z N 0 0,Z vx n A])/\w'=w:=by
 go_enter func240,ntmps240;go_wp2;go_ret2;exact⟨rfl,rfl⟩
theorem Has.slice {base:Nat} {v:wF} {l:Ja} (h:Has w base v l) (a:0<C l):∃g cap,v=Z (M ⟨g,0,N⟩) (C l) cap/\l.length<=cap/\base<=g/\bM w g 0 l:=by
 rcases h.cases with ⟨_,rfl⟩ |h
 ·simp at a
 ·exact h
theorem Wc (n:Nat) (h:0<C (words n)):(words n)[C (words n) - 1]?.getD 0≠0:=by
 have e:words n≠[]:=List.length_pos_iff.1 h;have:=abN n e;rw[List.getLast_eq_getElem] at this;rwa [a7 al]
def qG (w:E) (base g n cap:Nat) (l:Ja):Prop:=w.ownsRow base 157 1 (Z (M ⟨g,0,N⟩) n cap) n (l.map u32)
theorem qG.lies {base:Nat} {l:Ja} (h:qG w base g n cap l):bM w g 0 l:=(E9 h).2.2.2
theorem qG.len {base:Nat} {l:Ja} (h:qG w base g n cap l):n=C l:=(E9 h).1
theorem qG.upd {base f:Nat} {l:Ja} (h:qG w base g n cap l) (u:dL g f m w w') (a:bM w' g 0 l') (e:C l'=n):qG w' base g n cap l':=
 ad0 h (u.ae (off':=0) (n':=f+m) (aV _) al) a e
theorem qG.apart {base o:Nat} {l:Ja} (h:qG w base g n cap l) (u:dL g' o m w w') (d:g≠g'):qG w' base g n cap l:=by
 refine⟨h.1,?_⟩;rcases h.2 with ⟨a,_⟩ |⟨i,v,f,b,c,r,e⟩
 ·cases a
 ·cases b;exact yk ⟨g,cap,f,rfl,c,(u.grown.block g (cS.1 r).1 (by simp[d])).trans r,e⟩
theorem qG.lies_le {base:Nat} {l:Ja} (h:qG w base g n cap l):C l<=cap:=(E9 h).2.1
theorem qG.words {base:Nat} {l:Ja} (h:qG w base g n cap l) (hs:Small l):Has w base (Z (M ⟨g,0,N⟩) (C (words (nw l))) cap) (words (nw l)):=by
 obtain⟨k,b,a⟩:=Rh l hs;have d:C (Proofs.YtkflnpjapgiajaaGreatDoor.words (nw l))=k:=by rw[a];simp;omega
 have:=asx k b h;rw[<- a] at this;rw[Has,d];exact this
theorem bM.patch {a:Nat} {e:Ja} (h:bM w g 0 lf) (u:dL g a n w w') (hs:bM w' g a e) (d:C e=n) (l:a+n<=C lf):bM w' g 0 (lf.take a++e++lf.drop (a+n)):=by
 have c:bM w g 0 (lf.take a):=by have:=h.piece 0 a al;rwa [ES] at this
 have b:=h.piece (a+n) (C lf - (a+n)) al;rw[kO aE] at b;have z:C (lf.take a)=a:=by rw[fh];omega
 refine((c.beside u (by rw[z];omega)).append (by rw[z,bQ];exact hs)).append ?_;rw[cE,z,d];exact b.beside u al
theorem asl (gx mA gy jS:Nat) (xs y:Ja) (w:E) (jy:Small xs) (jx:Small y) (b6:C xs<=4398046511104) (K:0<C y) (Bb:y[C y - 1]?.getD 0≠0) (x6:C y<=C xs) (hx:bM w gx 0 xs) (hy:bM w gy 0 y):
  c6 240 #[Z (M ⟨gx,0,N⟩) (C xs) mA,Z (M ⟨gy,0,N⟩) (C y) jS] w fun e w'=>
   ∃gq cq gr cr,e=yW (zp #[Z (M ⟨gq,0,N⟩) (C (words (nw xs/nw y))) cq,Z (M ⟨gr,0,N⟩) (C (words (nw xs % nw y))) cr])/\
    Has w' (O (T w)) (Z (M ⟨gq,0,N⟩) (C (words (nw xs/nw y))) cq) (words (nw xs/nw y))/\Has w' (O (T w)) (Z (M ⟨gr,0,N⟩) (C (words (nw xs % nw y))) cr) (words (nw xs % nw y))/\da w w':=by
 obtain⟨i0,hi,bu,bw,bx⟩:=eC Tryz.infoU32;have b4:=hx.lt;have r5:=hy.lt;have zX:=hy.cell (C y - 1) al;rw[bQ] at zX;have aj:=getD_lt jx (C y - 1);rw[iZ] at aj;obtain⟨bk,aJ⟩:=aty 32 (y[C y - 1]?.getD 0) (by simpa using aj) al;have bh:=atx _ Bb aj;obtain⟨s,hs⟩:∃s,s=32 - Lib.bitLen (y[C y - 1]?.getD 0):=⟨_,rfl⟩;have YI:s<32:=al
 have jz:2^s*(y[C y - 1]?.getD 0+1)<=W:=by
  have m:2^s*(y[C y - 1]?.getD 0+1)<=2^s*2^Lib.bitLen (y[C y - 1]?.getD 0):=mK _ aJ;rw[<- EL,show s+Lib.bitLen (y[C y - 1]?.getD 0)=32 by omega] at m;exact m
 have aI:=aif y s jx K Bb jz;have b:=aD aI;have Ba:=fun V=>Tryz.bits_LeadingZeros32 ((y[C y - 1]?.getD 0:Nat):Int) V al al;simp only[oU] at Ba;have zM:(32:Int) - (Lib.bitLen (y[C y - 1]?.getD 0):Int)=(s:Int):=al
 simp only[zM] at Ba;have bc:=aD Ba;have bP:=aD Bb;generalize y[C y - 1]?.getD 0=y1 at *;have b7:¬C xs<C y:=al
 clear bk aJ bh hs jz aI Ba zM Bb;go_enter func240,ntmps240;go_wp2_with fail
 refine(bc.o _).ae ?_;rintro e w0 ⟨rfl,br⟩;subst br;go_wp2_with fail
 refine(acP gx mA xs s _ jy YI al hx).ae ?_;rintro e w1 ⟨v1,d,rfl,m,z,kE,fX,ad⟩;obtain⟨g,c,rfl,b2,ax,ay⟩:=m.slice al;have R:=aD kE;have Mo:=aD fX;have b1:C d<=4398046511105:=al
 have bN:C xs+1<=c:=al
 clear kE fX;have bb:=hy.aa ad r5;go_wp2_with fail
 refine(acP gy jS y s _ jx YI al bb).ae ?_;rintro e w2 ⟨v2,q,rfl,h2,u,bo,iU,ai⟩;obtain⟨f,c2,rfl,bm,bO,A⟩:=h2.slice al;have pS:=aD iU;have b0:C q<=4398046511105:=al
 clear bo iU;go_wp2_with fail
 have uo:=RF f 0 c2 q w2 u bm al (fun j h=>A.cell j h);rw[pS.o,b.o.1] at uo;refine uo.ae ?_;rintro e a ⟨rfl,bs⟩;subst bs;have a1:∃k,k<=C q/\words (nw q)=q.take k:=Rh q u
 have kD:bM a f 0 (words (2^s*nw y)):=by
  obtain⟨k,hk,e⟩:=a1;have:=A.piece 0 k al;rwa [ES, <- e,pS.o] at this
 have vD:=m.aa ai (ah _);have ab:da w0 a:=ad.trans (ai.ae ad.size);have bD:g<O (T w1):=ay.lt;have bC:f<O (T a):=A.lt;have SY:=ab.size;have bX:=ai.size;have ak:=aD vD;have GU:=aD kD;clear uo a1 kD vD ay A m h2 bb;go_wp2_with (at_make;refine oK _ rfl _ _ 221 rfl (O (T w0)) 157 i0 (J yE 0) 1 underlying221 hi bu bw I I _ _ (C xs - C y+1) rfl rfl al al (by rw[bx];omega) (by unfold maxLen;omega) al ?_;intro L rY Bj)
 have v:=sB rY;rw[NN] at v;have fA:=aD v;have fR:da w0 L:=ab.grown Bj al (fun k e=>by cases e);have pR:wT (qG L (O (T w0)) g (C d) c d):=Has.aa ak.o (B:=O (T a)) ((au _ a).grown Bj (ah _) (fun k e=>by cases e)) (ah _)
 have an:wT (qG L (O (T w0)) (O (T a)) (C xs - C y+1) (C xs - C y+1) (List.replicate (C xs - C y+1) 0)):=by
  have:=Ny (base:=O (T w0)) (cap:=C xs - C y+1) (l:=List.replicate (C xs - C y+1) 0) _ v aE al (by unfold maxLen;omega) aE ⟨_,v,aE,fun j h=>by simp at h;simp[h]⟩;rw[tW] at this;exact this
 have nN:wT (bM L f 0 (words (2^s*nw y))):=(GU.o).grown Bj aE;have HI:wT (vX (2^s*nw xs) (2^s*nw y) (C xs - C y+1) d (List.replicate (C xs - C y+1) 0) (C xs - C y+1)):=vX.start K x6 z rfl jy rfl Mo.o R.o b.o.2.1;have Cy:=aD fR;clear v rY Bj ak GU ab fR
 go_loopw [40] (fun i wr=>∃(k:Nat) (lf ql:Ja),k<=C xs - C y+1/\i=J I k/\wT (vX (2^s*nw xs) (2^s*nw y) (C xs - C y+1) lf ql (C xs - C y+1 - k))/\wT (qG wr (O (T w0)) g (C d) c lf)/\wT (qG wr (O (T w0)) (O (T a)) (C xs - C y+1) (C xs - C y+1) ql)/\wT (bM wr f 0 (words (2^s*nw y)))/\wT (da w0 wr))
  (fun i _=>C xs - C y+1 - (intOf i).toNat)
 case atStart=>exact⟨0,d,_,aV _,rfl,HI,pR,an,nN,Cy⟩
 case round=>
  obtain⟨k,lf,ql,hk,rfl,U,r,Q,X,F⟩:=hrel;clear HI pR an nN Cy;by_cases b5:k<C xs - C y+1
  ·go_wp2_with fail
   obtain⟨p,hp⟩:∃p,p=C xs - C y - k:=⟨_,rfl⟩;(have hn:C xs - C y - k+C y+1 - (C xs - C y - k)=C y+1:=al);rw[hn, <- hp];(have az:C lf=C xs+1:=by have:=r.o.len;have:=R.o;omega);(have Y:C ((lf.drop p).take (C y+1))=C y+1:=by rw[fh,p8];omega)
   have H:wT (vX (2^s*nw xs) (2^s*nw y) (C xs - C y+1) lf ql (p+1)):=by
    have:=U.o;rwa [show C xs - C y+1 - k=p+1 by omega] at this
   have YE:=H.o.seg b.o.2.2 al;have P:=akg g p (c - p) f c2 ((lf.drop p).take (C y+1)) (words (2^s*nw y)) wr (by rw[Y,b.o.1]) (Kk (Ni H.o.ls _) _) (oY _) (by rw[Y];omega) (by rw[b.o.1];exact K) (Wc _ (by rw[b.o.1];exact K)) (by rw[lY];exact YE.1) (by have:=r.o.lies.piece p (C y+1) al;rwa [bQ] at this) X.o al;rw[Y,b.o.1,lY] at P;refine P.ae ?_;clear P;rintro e t ⟨bz,rfl,B7,bg,aq,B9,D⟩;(have bp:p<C xs - C y+1:=al);have bf:=aD (H.o.step b.o.2.2 al bp (by have:=YE.1;rcases zj (2^s*nw y) with e |e;(rw[e,lQ] at this;omega);exact e) B7 bg aq);have IJ:=r.o.lies.patch D B9 B7 al;have Bm:wT (qG t (O (T w0)) g (C d) c (lf.take p++bz++lf.drop (p+(C y+1)))):=r.o.upd D IJ (by have:=R.o;simp;omega);have x:=aD (Q.o.apart D al);have Md:=aD (X.o.apart D al);have Bh:=aD (dL.aa F.o D ax F.o.size);(have av:p<C ql:=by have:=Q.o.len;omega);have bB:=x.o.lies.cell p av;have b3:=x.o.lies.frozen p;rw[bQ] at bB;have eE:=x.o.lies.set p av (nw ((lf.drop p).take (C y+1))/(2^s*nw y));rw[bQ] at eE;have mD:=aD eE;have Qu:=aD az;generalize hqv:nw ((lf.drop p).take (C y+1))/(2^s*nw y)=qv at *;generalize ql[p]?.getD 0=b8 at *;clear eE IJ YE Y B7 aq B9 az U r Q X F H hn hqv;subst hp;go_wp2;go_roundw
   case rel=>
    have S:dL (O (T a)) (C xs - C y - k) 1 t (t.setCell ⟨O (T a),C xs - C y - k,N⟩ (J yE (qv:Nat))):=dL.setCell (ah _) al _;refine⟨k+1,_,_,al,bd,?_,aD (Bm.o.apart S al),aD (x.o.upd S mD.o (by have:=x.o.len;rw[gA];omega)),aD (Md.o.apart S al),aD (dL.aa Bh.o S SY Bh.o.size)⟩;have e:=bf.o;show vX _ _ _ _ _ _;rwa [show C xs - C y+1 - (k+1)=C xs - C y - k by omega]
   case measure=>simp[intOf];omega
  ·obtain rfl:k=C xs - C y+1:=al
   have n:=U.o;rw[rE] at n;have Ds:0<2^s:=wh a6;obtain⟨hq,hr⟩:=n.stop;rw[Nat.mul_div_mul_left _ _ Ds] at hq;rw[Nat.mul_mod_mul_left] at hr;(have aY:nw (qf s lf)=nw xs % nw y:=by rw[alc s al lf n.ls,hr,Nat.mul_div_cancel_left _ Ds]);have II:=n.ls;have wM:=n.qs;have ao:=aD hq;have UN:=aD aY;have YF:=alb g c lf s wr II YI (by have:=r.o.len;omega) r.o.lies;rw[<- r.o.len] at YF;have uI:=aD YF;clear hq hr aY n U YF;go_wp2_with fail
   refine uI.o.ae ?_;rintro e t ⟨rfl,B9,D⟩;have Bm:=aD (r.o.upd D B9 (by rw[ald];exact r.o.len.symm));have x:=aD (Q.o.apart D al);have Bh:=aD (dL.aa F.o D ax F.o.size);have z:=RF (O (T a)) 0 (C xs - C y+1) ql t wM (by rw[<- x.o.len];omega) (by rw[<- x.o.len];omega) (fun j h=>x.o.lies.cell j h);rw[<- x.o.len,ao.o] at z;have u:=RF g 0 c (qf s lf) t (acQ s lf) Bm.o.lies_le (by rw[<- Bm.o.len];omega) (fun j h=>Bm.o.lies.cell j h);rw[<- Bm.o.len,UN.o] at u;have ir:=aD z;have tJ:=aD u;clear z u B9 D uI r Q F;go_wp2_with fail
   refine ir.o.ae ?_;rintro e w6 ⟨rfl,bt⟩;subst bt;go_wp2_with fail
   refine tJ.o.ae ?_;rintro e w7 ⟨rfl,SM⟩;subst SM;go_wp2;go_ret2;have IV:=x.o.words wM;have aR:=Bm.o.words (acQ s lf);rw[ao.o] at IV;rw[UN.o] at aR;exact⟨_,_,_,_,rfl,IV,aR,Bh.o⟩
theorem Wa (h:n≠0):0<C (words n):=by
 rcases zj (C (words n)) with e |e
 ·exact absurd ((Ri n).1 (Q6 e)) h
 ·exact e
theorem ae5 {x y:Nat} (h:C (words x)<C (words y)):x<y:=by
 have k:0<C (words y):=al
 have c:=getD_lt (oY y) (C (words y) - 1);have a:=(aif (words y) 0 (oY y) k (Wc y k) (by rw[MH,k8];exact c)).2.1;rw[MH,k8,k8,lY] at a;have b:=xX (words x) (oY x);rw[lY] at b;have d:W^C (words x)<=W^(C (words y) - 1):=k7 nG al;omega
theorem Wb {x y:Nat} (h:x<=y):C (words x)<=C (words y):=by
 rcases dX (C (words y)) (C (words x)) with c |c
 ·have:=ae5 c;omega
 ·exact c
theorem ae6 {x:Nat} (h:C (words x)<=2):x<18446744073709551616:=by
 have a:=xX (words x) (oY x);rw[lY] at a;have b:W^C (words x)<=W^2:=k7 nG h;have c:W^2=18446744073709551616:=by rw[iZ]
 omega
theorem ahM (g m a j x y:Nat) (w:E) (Q:y≠0) (o:C (words x)<=4398046511104) (t:C (words x)<=m) (b:bM w g 0 (words x)) (n:bM w a 0 (words y)):
  c6 240 #[Z (M ⟨g,0,N⟩) (C (words x)) m,Z (M ⟨a,0,N⟩) (C (words y)) j] w fun e w'=>
   ∃q gr r,e=yW (zp #[q,Z (M ⟨gr,0,N⟩) (C (words (x % y))) r])/\Has w' (O (T w)) q (words (x/y))/\(words (x % y)).length<=r/\bM w' gr 0 (words (x % y))/\da w w':=by
 rcases dX (C (words x)) (C (words y)) with c |c
 ·have h:=ae5 c;refine(asj _ _ m _ _ j w c).ae ?_;rintro e w' ⟨rfl,rfl⟩;refine⟨_,g,m,by rw[kp h],?_,by rw[kp h];exact t,by rw[kp h];exact b,au _ _⟩;rw[zk h,zu];exact⟨rfl,yd ⟨rfl,rfl⟩⟩
 ·have p:=Wa Q;have:=asl g m a j (words x) (words y) w (oY _) (oY _) o p (Wc y p) c b n;rw[lY,lY] at this;refine this.ae ?_;rintro e w' ⟨u,s,gr,r,rfl,d,f,i⟩;obtain⟨_,k,_,l⟩:=E9 f;exact⟨_,gr,r,rfl,d,k,l,i⟩
theorem au1 (a b:ByteArray) (w:E) (Bj:a.size<=1099511627776) (Bh:b.size<=1099511627776) (h0:B2 b≠0):
  c6 192 #[zK a,zK b] w (dj w (zp #[zK (B (B2 a/B2 b)),zK (B (B2 a % B2 b)),zZ y6])):=by
 have l:=A0 a 274877906944 al;have K:=A0 b 274877906944 al;have S:=Wa h0;have Q:¬((C (words (B2 b)):Int)=0):=al
 have P:C (words (B2 a/B2 b))<=274877906944:=aM (Wb (AV _ _)) l;have V:C (words (B2 a % B2 b))<=274877906944:=aM (Wb (Nat.mod_le _ _)) l;go_enter func192,ntmps192;go_wp2_with fail
 refine(A5 b _ al).ae ?_;rintro e Bb ⟨q,n,rfl,t,g⟩;go_wp2_with fail
 refine(A5 a _ al).ae ?_;rintro e x ⟨s,o,rfl,h,i⟩;have Bm:=Aa t i;have H:=Aa h (au _ _);have c:da w x:=g.trans (i.ae g.size);go_wp2_with fail
 refine(ahM s o q n (B2 a) (B2 b) _ h0 al (E9 h).2.1 H Bm).ae ?_;rintro e y ⟨L,gr,p,rfl,v,F,r,A⟩;have d:da w y:=c.trans (A.ae c.size);go_wp2_with fail
 refine(TR _ _ _ _ (oY _) al v).ae ?_;rintro e z ⟨rfl,k⟩;have m:=r.aa k r.lt;have f:da w z:=d.trans (k.ae d.size);rw[lY];go_wp2_with fail
 refine(aab gr p _ _ (oY _) F al m.lt (fun j u=>m.cell j u)).ae ?_;rintro e B9 ⟨rfl,D⟩;rw[lY];go_wp2;go_ret3
 exact⟨rfl,f.trans (D.ae f.size)⟩
theorem au0 (a b:ByteArray) (w:E) (ha:a.size<=1099511627776) (hb:b.size<=1099511627776):
  c6 191 #[zK a,zK b] w (dj w (zK (B (Nat.gcd (B2 a) (B2 b))))):=by
 have U:=A0 a 274877906944 al;have Ba:=A0 b 274877906944 al;go_enter func191,ntmps191;go_wp2_with fail
 refine(A5 a _ al).ae ?_;rintro e w1 ⟨g1,c1,rfl,l,p⟩;go_wp2_with fail
 refine(A5 b _ al).ae ?_;rintro e w2 ⟨g2,c2,rfl,m,q⟩;have Bm:=Aa l q;have H:=Aa m (au _ _);have v:da w w2:=p.trans (q.ae p.size);have D:=(E9 l).2.1;have F:=(E9 m).2.1;go_wp2_with fail
 go_loopg [5,6] (B2 b) (fun r vx vy wr=>∃(x g cx y c:Nat),vx=Z (M ⟨g,0,N⟩) (C (words x)) cx/\vy=Z (M ⟨y,0,N⟩) (C (words r)) c/\(words x).length<=cx/\(words r).length<=c/\(words x).length<=274877906944/\(words r).length<=274877906944/\wT (bM wr g 0 (words x))/\wT (bM wr y 0 (words r))/\wT (Nat.gcd x r=Nat.gcd (B2 a) (B2 b))/\wT (da w wr))
 case atStart=>exact⟨_,_,_,_,_,rfl,rfl,D,F,U,Ba,Bm,H,rfl,v⟩
 case round=>
  obtain⟨x,g,cx,y,c,rfl,rfl,t,zX,B7,zI,i,K,d,h⟩:=hrel;clear Bm H v D F l m p q;by_cases k:gk=0
  ·subst k;rw[zu] at *;go_wp2_with fail
   refine(aab g cx _ _ (oY _) t al i.o.lt (fun j P=>i.o.cell j P)).ae ?_;rintro e s ⟨rfl,f⟩;rw[lY];go_wp2;go_ret;exact⟨by rw[<- d.o,Nat.gcd_zero_right];rfl,h.o.trans (f.ae h.o.size)⟩
  ·have kS:=Wa k;(have ai:¬((C (words gk):Int)=0):=al);by_cases Bj:2<C (words x)
   focus
    go_wp2_with fail
   rotate_left
   focus
    by_cases u:2<C (words gk)
    focus
     go_wp2_with fail
    rotate_left
    ·have Y:=ae6 (Nat.le_of_not_lt Bj);have z:=ae6 (Nat.le_of_not_lt u);go_wp2_with fail
     refine(abP g cx _ _ (oY _) (Nat.le_of_not_lt Bj) i.o).ae ?_;rintro e s ⟨rfl,n⟩;subst n;rw[lY];go_wp2_with fail
     refine(abP y c _ _ (oY _) (Nat.le_of_not_lt u) K.o).ae ?_;rintro e w6 ⟨rfl,n⟩;subst n;rw[lY];go_wp2_with fail
     refine(aq0 x gk _ Y z).ae ?_;rintro e w7 ⟨rfl,L⟩;have A:=h.o.trans (L.ae h.o.size);rw[d.o];(have ab:Nat.gcd (B2 a) (B2 b)<18446744073709551616:=by rw[<- d.o];exact VL (Nat.gcd_le_right _ (lO k)) z);go_wp2_with fail
     refine(aer _ _ ab).ae ?_;rintro e w8 ⟨rfl,S⟩;go_wp2;go_ret;exact⟨rfl,A.trans (S.ae A.size)⟩
   all_goals
    refine(ahM g cx y c x gk _ k al t i.o K.o).ae ?_;rintro e s ⟨vq,gr,Bh,rfl,_,ad,Q,f⟩;have V:C (words (x % gk))<=274877906944:=aM (Wb (Nat.mod_le _ _)) B7;have R:=aD Q;have Bb:=aD (K.o.aa f K.o.lt);have B9:=aD (h.o.trans (f.ae h.o.size));(have X:wT (Nat.gcd gk (x % gk)=Nat.gcd (B2 a) (B2 b)):=by show _=_;rw[<- d.o,ML x gk,Nat.gcd_rec gk x,ML]);go_wp2;go_roundg (x % gk)
    case measure=>exact jc _ (lO k)
    case rel=>exact⟨gk,y,c,gr,Bh,rfl,rfl,zX,ad,zI,V,Bb,R,X,B9⟩
variable {w0:E}
theorem sA (k:Nat):∀n,n<256^k ->C (bn n)<=k:=by
 induction k with
 |zero=>
  intro n h;have:n=0:=by simpa using h
  subst this;simp[sk]
 |succ k ih=>
  intro n h;by_cases e:n=0
  ·subst e;simp[sk]
  ·rw[sq n e,cE,Hn];have:=ih (n/256) (JR (by rw[jI] at h;omega));omega
theorem Hb (n:Nat):n<256^(B n).size:=by
 have:=wK (bn n);rwa [XS, <- nP] at this
theorem ku (h:m<=n):(B m).size<=(B n).size:=by
 rw[nP m];exact sA _ _ (VL h (Hb n))
theorem rH (m n:Nat):(B (m*n)).size<=(B m).size+(B n).size:=by
 rw[nP (m*n)];refine sA _ _ ?_;rw[EL];exact MJ (Hb m) (Hb n)
theorem acj (m n:Nat):(B (m+n)).size<=(B m).size+(B n).size+1:=by
 rw[nP (m+n)];refine sA _ _ ?_;have h:=Hb m;have a:=Hb n;have b:256^(B m).size<=256^((B m).size+(B n).size):=k7 a6 al;have c:256^(B n).size<=256^((B m).size+(B n).size):=k7 a6 al;rw[jI];omega
theorem CB:B 0=⟨#[]⟩:=by rw[B,sk]
theorem aiK:B2 ⟨#[]⟩=0:=rfl
theorem aji (h:B m=B n):m=n:=by rw[<- cQ m,h,cQ]
theorem EJ (h:n≠0):(B n).toList.isEmpty=false:=by
 cases e:(B n).toList with
 |cons=>rfl
 |nil=>
  rw[Lib.toList_data] at e;have a:(B n).size=0:=by rw[ByteArray.size, <- Ht,e];rfl
  have b:=Hb n;rw[a] at b;omega
theorem B0 (s:ByteArray):C s.data.toList=s.size:=by rw[Ht];rfl
theorem VB:(B 1).size<=1:=by rw[nP];exact sA 1 1 a6
theorem under {P:Program} {f:FuncId} {args:Array wF} {X:Ending} (a:da w0 w) (h:Calls P f args w fun e w'=>e=X/\da w w'):Calls P f args w fun e w'=>e=X/\da w0 w':=
 h.ae fun _ _ ⟨b,c⟩=>⟨b,a.trans (c.ae a.size)⟩
theorem auZ {a b:ByteArray} (n:Nat) (c:da w0 w) (h:Nat.gcd (B2 a) (B2 b)=n) (d:a.size<=1099511627776) (e:b.size<=1099511627776):
  c6 191 #[zK a,zK b] w (dj w0 (zK (B n))):=by
 subst h;exact under c (au0 a b w d e)
theorem aiI {x:Int} (n:Nat) (a:da w0 w) (h:x=(n:Int)) (b:x<=9223372036854775807):
  c6 140 #[J I x] w (dj w0 (zK (B n))):=by
 have:=under a (aiJ x w al b);rwa [show x.toNat=n by omega] at this
theorem aiF {a b:ByteArray} (n:Nat) (c:da w0 w) (h:B2 a=B2 b+n) (d:a.size<=1099511627776) (e:b.size<=1099511627776):
  c6 210 #[zK a,zK b] w (dj w0 (zp #[zK (B n),zZ y6])):=by
 have:=under c (aue a b w d e al);rwa [show B2 a - B2 b=n by omega] at this
theorem auf {a b:ByteArray} (c:da w0 w) (h:B2 a<B2 b):
  c6 210 #[zK a,zK b] w fun e w'=>e=yW (zp #[zK ⟨#[]⟩,zZ xd])/\da w0 w':=under c (aug a b w h)
theorem ajh {a b:ByteArray} (q r:Nat) (h:da w0 w) (e:B2 a/B2 b=q) (f:B2 a % B2 b=r) (h0:B2 b≠0) (c:a.size<=1099511627776) (d:b.size<=1099511627776):
  c6 192 #[zK a,zK b] w (dj w0 (zp #[zK (B q),zK (B r),zZ y6])):=by
 subst e f;exact under h (au1 a b w c d h0)
def nd:Ja ->Nat
 |[]=>0
 |x::r=>x+256*nd r
theorem Il (x:Nat) (r:Ja):nd (x::r)=x+256*nd r:=rfl
theorem XQ (n:Nat):nd (List.replicate n 0)=0:=by
 induction n with
 |zero=>rfl
 |succ n ih=>rw[MO,Il,ih]
theorem Ss (l:Ja):∀(j y:Nat) (h:j<C l),nd (l.set j y)+l[j]*256^j=nd l+y*256^j:=by
 induction l with
 |nil=>intro j y h;exact absurd h (EM _)
 |cons x r ih=>
  intro j y h;cases j with
  |zero=>simp only[CM,Il,List.getElem_cons_zero,MH,qM];omega
  |succ j=>
   (have b:j<C r:=by simpa using h);have:=ih j y b;simp only[VQ,Il,VX,jI];(have e:r[j]*(256^j*256)=256*(r[j]*256^j):=by rw[<- jr,eQ]);(have a:y*(256^j*256)=256*(y*256^j):=by rw[<- jr,eQ]);rw[e,a];omega
def tV (l:Ja):Prop:=∀x∈l,x<256
theorem aav (n:Nat):tV (List.replicate n 0):=fun x h=>by rw[(List.mem_replicate.1 h).2];decide
theorem Px {l:Ja} (h:tV l) (j y:Nat) (c:y<256):tV (l.set j y):=fun x b=>by
 rcases abx b with a |a
 ·exact h x a
 ·rw[a];exact c
theorem an1 (l:Ja) (h:tV l):nd l<256^C l:=by
 induction l with
 |nil=>decide
 |cons x r ih=>
  have b:=ih fun y a=>h y (dZ _ a);have c:=h x dJ;rw[Il,eA,jI];omega
def rb (l:Ja):List UInt8:=l.reverse.map UInt8.ofNat
theorem an4 (l:Ja) (h:tV l):nb (rb l)=nd l:=by
 induction l with
 |nil=>rfl
 |cons x r ih=>
  have a:=ih fun y b=>h y (dZ _ b);have c:=h x dJ;have:rb (x::r)=rb r++[UInt8.ofNat x]:=by simp[rb]
  rw[this,Bg,a,Il];have:(UInt8.ofNat x).toNat=x:=by simp;omega
  omega
theorem an8 (l:List UInt8) (i:Nat) (h:i<C l):nb l/256^i % 256=(l[C l - 1 - i]'al).toNat:=by
 have e:l=l.take (C l - 1 - i)++(l[C l - 1 - i]'al::l.drop (C l - i)):=by
  have a:=zo (C l - 1 - i) l;have d:l.drop (C l - 1 - i)=l[C l - 1 - i]'al::l.drop (C l - 1 - i+1):=qP al;rw[d,show C l - 1 - i+1=C l - i by omega] at a;exact a.symm
 have b:C (l.drop (C l - i))=i:=by rw[p8];omega
 have t:=wK (l.drop (C l - i));rw[b] at t
 have n:nb l=(nb (l.take (C l - 1 - i))*256+(l[C l - 1 - i]'al).toNat)*256^i+nb (l.drop (C l - i)):=by
  conv=>lhs;rw[e]
  rw[Fi,Io,eA,b,jI,iC,jr,eQ 256 (256^i),zl]
 generalize (l[C l - 1 - i]'al)=c at *;generalize nb (l.take (C l - 1 - i))=p at *;have f:=c.toNat_lt;rw[n,eQ,Nat.mul_add_div (wh a6),zk t,jd];omega
theorem an7 (l:List UInt8) (i:Nat) (h:C l<=i):nb l/256^i % 256=0:=by
 rw[zk (aT (wK l) (k7 a6 h))]
theorem ar8 (l:List UInt8):∀k,k<=C l ->(l.take k).all (·==0)=y6 ->(∀h:k<C l,l[k]≠0) ->l.dropWhile (·==0)=l.drop k:=by
 induction l with
 |nil=>intro k _ _ _;simp
 |cons x r ih=>
  intro k c a b;cases k with
  |zero=>
   have:x≠0:=b aE;rw[List.dropWhile_cons,aC (by simpa using this),ES]
  |succ k=>
   simp only[List.take_succ_cons,List.all_cons,iu] at a;rw[List.dropWhile_cons,aw a.1,List.drop_succ_cons];exact ih k (by simpa using c) a.2 (fun h=>by have:=b (by simpa using h);simpa using this)
theorem KM (n k:Nat):n % 256^(k+1)=n % 256^k+256^k*(n/256^k % 256):=by
 rw[jI,Nat.mod_mul]
theorem ab9 (s:ByteArray) (k:Nat) (a:k<=s.size) (h0:(s.data.toList.take k).all (·==0)=y6) (h1:∀h:k<s.size,s[k].toNat≠0):s.extract k s.size=B (B2 s):=by
 have e:s.data.toList.dropWhile (·==0)=s.data.toList.drop k:=ar8 _ k (by simpa using a) h0 (fun h z=>h1 (by simpa using h) (by
  have:s[k]'(by simpa using h)=s.data.toList[k]:=rfl;rw[this,z];rfl))
 apply Rb;apply Rc.1;rw[B,B2,aaK,e];show (s.extract k s.size).data.toList=_;rw[ByteArray.data_extract,Array.toList_extract];simp[kO]
theorem o6 (s:ByteArray) (w:E) (hs:s.size<=140737488355328):
  c6 119 #[zK s] w fun e w'=>e=yW (zK (B (B2 s)))/\w'=w:=by
 go_enter func119,ntmps119;go_wp2;go_loop [3] (fun i=>∃k:Nat,k<=s.size/\i=J I k/\(s.data.toList.take k).all (·==0)=y6) (fun i=>s.size - (intOf i).toNat)
 case atStart=>exact⟨0,aV _,rfl,rfl⟩
 case round=>
  obtain⟨k,a,rfl,b⟩:=hrel;have A:wT ((s.data.toList.take k).all (·==0)=y6):=b;clear b;by_cases l:k<s.size
  ·by_cases c:s[k].toNat=0
   ·have H:wT ((s.data.toList.take (k+1)).all (·==0)=y6):=by
     show _=_;rw[Ng s k l,List.all_append,A.o];have:s[k]=0:=QQ.1 c;simp[this]
    go_wp2;go_round
    case rel=>exact⟨k+1,al,bd,H.o⟩
    case measure=>simp[intOf];omega
   ·have Bm:=aD (ab9 s k a A.o fun _=>c);go_wp2;go_ret;exact⟨by rw[<- Bm.o];rfl,rfl⟩
  ·have Bm:=aD (ab9 s k a A.o fun h=>absurd h l);go_wp2;go_ret;exact⟨by rw[<- Bm.o];rfl,rfl⟩
theorem abE (n:Nat) (h:n<256):wrap64 (n:Int)=(n:Int):=by
 rw[wrap64];omega
theorem I9 (s:ByteArray) (i:Nat) (w:E) (hs:s.size<=140737488355328) (a:i<=9223372036854775807):
  c6 121 #[zK s,J I (i:Int)] w fun e w'=>e=yW (J I ((B2 s/256^i % 256:Nat):Int))/\w'=w:=by
 go_enter func121,ntmps121;by_cases l:i<s.size
 ·have D:wT (B2 s/256^i % 256=(s[s.size - 1 - i]'al).toNat):=by
   show _=_;rw[B2,an8 _ i (by simpa using l)];simp;rfl
  have x:0<=(s.size:Int) - 1 - i:=al
  have h:=abE _ (s[s.size - 1 - i]'al).toNat_lt;have H:=aD h;clear h;go_wp2;go_ret;exact⟨by rw[D.o];exact eG (fun z=>Ending.returned (Value.int I z)) H.o,rfl⟩
 ·have D:wT (B2 s/256^i % 256=0):=an7 _ i (by simp;omega);go_wp2;go_ret;exact⟨by rw[D.o];rfl,rfl⟩
def iv (x:Nat):Value:=J I (x:Int)
def cP (w:E) (g:Nat) (l:Ja):Prop:=w.heap[g]? =M (yM (l.map iv).toArray 3 (0,0))
theorem cP.cell {l:Ja} (h:cP w g l) (j:Nat) (a:j<C l):w.cell? ⟨g,j,N⟩=M (J I (l[j]:Nat)):=by
 rw[ba w g j _ _ (0,0) h];simp[iv,a]
theorem cP.fz {l:Ja} (h:cP w g l) (j:Nat):w.frozen? ⟨g,j,N⟩=false:=gj w g j _ _ h
theorem cP.lt {l:Ja} (h:cP w g l):g<O (T w):=(cS.1 h).1
theorem cP.aa {b:Nat} {l:Ja} (h:cP w g l) (a:Below b w w') (c:g<b):cP w' g l:=(a.block g c).trans h
theorem cP.set {l:Ja} (h:cP w g l) (j y:Nat):cP (w.setCell ⟨g,j,N⟩ (J I (y:Int))) g (l.set j y):=by
 have:=jW w g j _ _ (J I (y:Int)) h;rw[cP,Hm];simpa [iv] using this
def ue (l:Ja) (k:Nat):Kx:=List.replicate (C l - k) 0++((l.take k).reverse.map Int.ofNat)
theorem amX (l:Ja):ue l 0=List.replicate (C l) 0:=by simp[ue]
theorem amZ (l:Ja) (k:Nat) (h:k<=C l):C (ue l k)=C l:=by simp[ue];omega
theorem amY (l:Ja) (k:Nat) (c:k<C l):(ue l k).set (C l - 1 - k) (l[k]:Int)=ue l (k+1):=by
 have h:C l - k=(C l - 1 - k)+1:=al
 have a:List.replicate (C l - k) (0:Int)=List.replicate (C l - 1 - k) 0++[0]:=by rw[h,List.replicate_succ']
 have b:C l - (k+1)=C l - 1 - k:=al
 rw[ue,ue,a,p9,Hj _ _ aE,b];rw[tW,rE,gF,gS,CM,gR c,List.reverse_append,List.reverse_singleton,gV];rfl
theorem am0 (l:Ja):ue l (C l)=l.reverse.map Int.ofNat:=by simp[ue]
theorem aui (l:Ja) (h:tV l):B2 (strOfNums (l.reverse.map Int.ofNat))=nd l:=by
 rw[B2,JN, <- an4 l h,rb];congr 1
 simp[Function.comp_def]
theorem KO (n:Nat):(madeCells (Value.int I 0).cells (n*1)).toList=(List.replicate n (0:Nat)).map iv:=by
 rw[show (Value.int I 0).cells= #[Value.int I 0] from rfl,MA,qM,QY];rfl
theorem Tryz.infoInt:(prog.info? 3).map (fun i=>(i.zero,i.size,i.bytes))=M (M (J I 0),1,8):=ao
theorem Xm (g:Nat) (l:Ja) (w:E) (d:tV l) (ai:C l<=140737488355328) (h:cP w g l):
  c6 123 #[Z (M ⟨g,0,N⟩) (C l) (C l)] w (dj w (zK (B (nd l)))):=by
 obtain⟨Bh,n,S,Ba,U⟩:=eC Tryz.infoByte;have B9:=h.lt;have Bb:wT (cP w g l):=h;have a:wT (B2 (strOfNums (l.reverse.map Int.ofNat))=nd l):=aui l d;have D:wT (tV l):=d;clear h d;go_enter func123,ntmps123
 go_wp2_with (first
  |(at_make;refine oK _ rfl _ _ 148 rfl (O (T w)) 5 Bh (J .u8 0) 1 underlying148 n S Ba I I _ _ (C l) rfl rfl al al (by rw[U];omega) (by unfold maxLen;omega) (ah _) ?_;intro p s v))
 have b:=sB s;rw[ae4, <- amX] at b;have q:da w p:=(au _ w).grown v (ah _) (fun k e=>by cases e);have Bj:wT (p.heap[O (T w)]? =M (yM ((ue l 0).map u8).toArray 5 (0,0))):=b;clear s v b
 go_loopw [4] (fun i wr=>∃k:Nat,k<=C l/\i=J I k/\wT (wr.heap[O (T w)]? =M (yM ((ue l k).map u8).toArray 5 (0,0)))/\da w wr)
  (fun i _=>C l - (intOf i).toNat)
 case atStart=>exact⟨0,aV _,rfl,Bj,q⟩
 case round=>
  obtain⟨k,A,rfl,H,c⟩:=hrel;clear Bj q;by_cases t:k<C l
  ·have ab:wr.cell? ⟨g,k,N⟩=M (J I (l[k]:Nat)):=(Bb.o.aa c B9).cell k t;have hx:=D.o l[k] (bU t);have f:=aD (amY l k t);obtain⟨Bm,j⟩:∃Bm,Bm=C l - 1 - k:=⟨_,rfl⟩;rw[<- j] at f;(have f1:(C l:Int) - 1 - (k:Int)=(Bm:Int):=al);(have y:Bm<C l:=al)
   have B7:wr.cell? ⟨O (T w),Bm,N⟩=M (J .u8 ((ue l k)[Bm]?.getD 0)):=by
    rw[ba wr _ Bm _ _ (0,0) H.o];(have:Bm<C (ue l k):=by rw[amZ l k A];exact y);simp[Go.Proofs.YtkflnpjapgiajaaGreatDoor.u8,a7 this]
   have ad:=gj wr (O (T w)) Bm _ _ H.o;have V:=aD (fun u=>jW wr (O (T w)) Bm _ _ u H.o);generalize l[k]=x at *;generalize (ue l k)[Bm]?.getD 0=z at *;clear j;go_wp2;have X:=V.o (J .u8 (x:Int));go_roundw
   case rel=>
    refine⟨k+1,al,bd,?_,c.setCell (ah _) _⟩;show _=_;rw[X, <- f.o,Hm];simp[Go.Proofs.YtkflnpjapgiajaaGreatDoor.u8]
   case measure=>simp[intOf];omega
  ·obtain rfl:k=C l:=al
   have F:=am0 l;(have L:C (l.reverse.map Int.ofNat)=C l:=aE);have r:=a.o;clear a Bb D;generalize l.reverse.map Int.ofNat=m at *;have a:=aD r;clear r
   have Y:=JO (P:=prog) wr 148 5 underlying148 underlying5 (O (T w)) 0 (C l) (C l) m L (fun i n=>by
    have e:=ba wr (O (T w)) (0+i) _ _ _ H.o;rw[e,F];(have K:i<C m:=al);simp[Go.Proofs.YtkflnpjapgiajaaGreatDoor.u8,a7 K,cF]) 61 underlying61
   clear H F
   have Q:(strOfNums m).size<=140737488355328:=by
    rw[<- B0,JN,cY];omega
   go_wp2_with (go_at_call 119;refine(o6 _ _ Q).ae ?_;rintro e w3 ⟨rfl,R⟩;subst R)
   go_ret;exact⟨by rw[a.o];rfl,c⟩
variable {A D c:Nat}
theorem aic (v P:Nat):v % 256*P+v/256*(P*256)=v*P:=by
 have h:v=v/256*256+v % 256:=al
 conv=>rhs;rw[h,iC,jr,eQ 256 P]
 omega
theorem atU {p:Ja} (a:k<C p) (h0:p[k]?.getD 0=0) (h:nd p+c*256^k=A % 256^k+D % 256^k):
  nd (p.set k ((c+A/256^k % 256+D/256^k % 256) % 256))+(c+A/256^k % 256+D/256^k % 256)/256*256^(k+1)=A % 256^(k+1)+D % 256^(k+1):=by
 have s:=Ss p k ((c+A/256^k % 256+D/256^k % 256) % 256) a;have t:p[k]=0:=by rwa [a7 a] at h0
 rw[t,oN,jd] at s;rw[s,KM,KM D,jI];have:=aic (c+A/256^k % 256+D/256^k % 256) (256^k)
 have e:(c+A/256^k % 256+D/256^k % 256)*256^k=c*256^k+256^k*(A/256^k % 256)+256^k*(D/256^k % 256):=by
  rw[iC,iC,eQ (A/256^k % 256),eQ (D/256^k % 256)]
 omega
theorem WR {p:Ja} {y:Nat} (h:∀j,k<=j ->p[j]?.getD 0=0):∀j,k+1<=j ->(p.set k y)[j]?.getD 0=0:=fun j a=>by
 rw[wj al];exact h j al
theorem atW {p:Ja} (d:A<256^n) (e:D<256^n) (h:nd p+c*256^(n+1)=A % 256^(n+1)+D % 256^(n+1)):nd p=A+D:=by
 have f:256^(n+1)=256*256^n:=by rw[jI,eQ]
 rw[kp al,kp al] at h
 have b:c=0:=by
  rcases zj c with a |a
  ·exact a
  ·have:1*256^(n+1)<=c*256^(n+1):=lR _ a;omega
 rw[b] at h;omega
theorem Gm (s:ByteArray):B2 s<256^s.size:=by
 have:=wK s.data.toList;rwa [B0] at this
theorem adp (a b:ByteArray) (w:E) (ha:a.size<=1000000) (hb:b.size<=1000000):
  c6 72 #[zK a,zK b] w (dj w (zK (B (B2 a+B2 b)))):=by
 obtain⟨i0,S,aj,ak,an⟩:=eC Tryz.infoInt;obtain⟨n,hn⟩:∃n,n=max a.size b.size:=⟨_,rfl⟩;have ab:a.size<=n:=al
 have K:b.size<=n:=al
 have fX:n<=1000000:=al
 have P:(b.size<=a.size/\a.size=n)∨(a.size<b.size/\b.size=n):=al
 clear hn;have Bb:wT (B2 a<256^n):=aT (Gm a) (k7 a6 ab);have U:wT (B2 b<256^n):=aT (Gm b) (k7 a6 K);have L:=aD (fun (k:Nat) (V:E) (h:k<=9223372036854775807)=>I9 a k V al h);have Q:=aD (fun (k:Nat) (V:E) (h:k<=9223372036854775807)=>I9 b k V al h);generalize hA:B2 a=A at *;generalize hD:B2 b=D at *;clear hA hD;go_enter func72,ntmps72;rcases P with ⟨r,s⟩ |⟨r,s⟩
 all_goals
  go_wp2_with (first
   |(at_make;refine oK _ rfl _ _ 27 rfl (O (T w)) 3 i0 (J I 0) 1 underlying27 S aj ak I I _ _ (n+1) rfl rfl bd bd (by rw[an];omega) (by unfold maxLen;omega) (ah _) ?_;intro l v F))
  have f:=sB v;rw[KO] at f;have q:da w l:=(au _ w).grown F (ah _) (fun k e=>by cases e);have Bj:wT (cP l (O (T w)) (List.replicate (n+1) 0)):=f;clear v F f r s
  go_loopw [7,8] (fun cv iv wr=>∃(k c:Nat) (p:Ja),k<=n+1/\iv=J I k/\cv=J I c/\c<=1/\p.length=n+1/\wT (tV p)/\wT (∀j,k<=j ->p[j]?.getD 0=0)/\wT (nd p+c*256^k=A % 256^k+D % 256^k)/\wT (cP wr (O (T w)) p)/\da w wr)
   (fun _ i _=>n+1 - (intOf i).toNat)
  case atStart=>exact⟨0,0,List.replicate (n+1) 0,aV _,rfl,rfl,aV _,aE,aav _,(fun j _=>by rw[JT];split<;>rfl),(show _=_ by rw[XQ];simp[Nat.mod_one]),Bj,q⟩
  case round=>
   obtain⟨k,c,p,hk,rfl,rfl,hc,u,t,B7,Bm,H,d⟩:=hrel;clear Bj q;by_cases av:k<n+1
   ·have B9:k<C p:=al
    have ao:=aD (atU B9 (B7.o k (ah _)) Bm.o);have X:=aD (fun V=>L.o k V al);have Y:=aD (fun V=>Q.o k V al);have hx:A/256^k % 256<256:=jc _ a6;have hy:D/256^k % 256<256:=jc _ a6;generalize A/256^k % 256=x at *;generalize D/256^k % 256=y at *;have ax:=H.o.cell k B9;have aq:=H.o.fz k;have R:=aD (fun z=>H.o.set k z);generalize p[k]=pk at *;clear Bm
    go_wp2_with (first
     |(have ay:=ai;go_at_call 121;refine(Y.o _).ae ?_;rintro e m ⟨rfl,g⟩;subst g)
     |(go_at_call 121;refine(X.o _).ae ?_;rintro e m ⟨rfl,g⟩;subst g;have ai:True:=trivial))
    have hv:Value.int I (((c:Int)+(x:Int)+(y:Int)) % 256)=J I (((c+x+y) % 256:Nat):Int):=int_eq al;have ad:Value.int I (((c:Int)+(x:Int)+(y:Int))/256)=J I (((c+x+y)/256:Nat):Int):=int_eq al;rw[hv,ad];go_roundw
    case rel=>exact⟨k+1,(c+x+y)/256,p.set k ((c+x+y) % 256),al,bd,rfl,al,by rw[gA];exact u,Px t.o _ _ (jc _ a6),WR B7.o,ao.o,R.o _,d.setCell (ah _) _⟩
    case measure=>simp[intOf];omega
   ·obtain rfl:k=n+1:=al
    have Ba:=Xm (O (T w)) p wr t.o al H.o;rw[u,atW Bb.o U.o Bm.o] at Ba;have Bh:=aD Ba;clear Ba;go_wp2_with (go_at_call 123;refine(Bh.o).ae ?_;rintro e m ⟨rfl,aa⟩)
    go_ret;exact⟨rfl,d.trans (aa.ae d.size)⟩
theorem Ut {b:Nat} {v u:E} (h:Below b v u) (k:Nat):Below b v (u.drewN k):=⟨h.os,h.tape,h.output,h.size,h.block⟩
theorem ae8 (a b:ByteArray) (k:Nat) (j:k<a.size) (m:k<b.size) (n:a.size=b.size) (p:a.data.toList.take k=b.data.toList.take k) (h:a[k].toNat<b[k].toNat):B2 a<B2 b:=by
 have f:a.data.toList=a.data.toList.take k++(a[k]::a.data.toList.drop (k+1)):=by
  have d:a.data.toList.drop k=a[k]::a.data.toList.drop (k+1):=qP (l:=a.data.toList) (i:=k) (by simpa using j);rw[<- d,zo]
 have g:b.data.toList=b.data.toList.take k++(b[k]::b.data.toList.drop (k+1)):=by
  have d:b.data.toList.drop k=b[k]::b.data.toList.drop (k+1):=qP (l:=b.data.toList) (i:=k) (by simpa using m);rw[<- d,zo]
 rw[B2,B2,f,g,p,Fi,Fi,Io,Io];have c:C (a.data.toList.drop (k+1))=a.size - (k+1):=by rw[p8,B0]
 have q:C (b.data.toList.drop (k+1))=a.size - (k+1):=by rw[p8,B0,n]
 have e:=wK (a.data.toList.drop (k+1));rw[c] at e;rw[eA,eA,c,q];have o:(a[k].toNat+1)*256^(a.size - (k+1))<=b[k].toNat*256^(a.size - (k+1)):=lR _ h;rw[iC,k8] at o;omega
theorem ae7 (h:(B m).size<(B n).size):m<n:=by
 rcases dX m n with a |a
 ·exact a
 ·have:=ku a;omega
theorem aaE (h:m<n):kd m n= -1:=aw h
theorem ah5 (h:n<m):kd m n=1:=by rw[kd,aC al,aC al]
theorem asU (h:m=n):kd m n=0:=by rw[kd,aC al,aw h]
theorem arZ (l:(B m).size=(B n).size) (h:(B m).data.toList.take (B m).size=(B n).data.toList.take (B m).size):m=n:=by
 rw[kO (by rw[B0];exact ah _),kO (by rw[B0,l];exact ah _)] at h;exact aji (Rb (Rc.1 h))
theorem ado (a b:ByteArray) (w:E) (A:a.size<=1000000) (Bm:b.size<=1000000):
  c6 176 #[zK a,zK b] w (dj w (J I (kd (B2 a) (B2 b)))):=by
 have u:=aD (o6 a w al);have j:=aD (o6 b w al);have K:=aM (jV a) A;have Bb:=aM (jV b) Bm;have s:=aD (fun h=>aaE (ae7 (m:=B2 a) (n:=B2 b) h));have q:=aD (fun h=>ah5 (ae7 (m:=B2 b) (n:=B2 a) h));have Q:=aD (fun l p=>asU (arZ (m:=B2 a) (n:=B2 b) l p));have L:=aD (fun k d f l p h=>aaE (m:=B2 a) (n:=B2 b) (by have:=ae8 (B (B2 a)) (B (B2 b)) k d f l p h;rwa [cQ,cQ] at this));have Bj:=aD (fun k d f l p h=>ah5 (m:=B2 a) (n:=B2 b) (by have:=ae8 (B (B2 b)) (B (B2 a)) k d f l p h;rwa [cQ,cQ] at this));generalize kd (B2 a) (B2 b)=r at *;generalize B (B2 a)=x at *;generalize B (B2 b)=y at *;go_enter func176,ntmps176;go_wp2_with fail
 refine(u.o).ae ?_;rintro e v ⟨rfl,g⟩;subst g;go_wp2_with fail
 refine(j.o).ae ?_;rintro e v ⟨rfl,g⟩;subst g;clear u j;rcases (show x.size<y.size∨y.size<x.size∨x.size=y.size by omega) with hs |hs |hs
 ·go_wp2;go_ret;exact⟨by rw[s.o hs];rfl,au _ _⟩
 ·go_wp2;go_ret;exact⟨by rw[q.o hs];rfl,au _ _⟩
 ·clear s q;go_wp2;go_loopw [5] (fun i wr=>∃k:Nat,k<=x.size/\i=J I k/\wT (x.data.toList.take k=y.data.toList.take k)/\da v wr) (fun i _=>x.size - (intOf i).toNat)
  case atStart=>exact⟨0,aV _,rfl,rfl,au _ _⟩
  case round=>
   obtain⟨k,Bh,rfl,H,D⟩:=hrel;by_cases t:k<x.size
   ·have z:k<y.size:=al
    rcases (show x[k].toNat<y[k].toNat∨y[k].toNat<x[k].toNat∨x[k].toNat=y[k].toNat by omega) with c |c |c
    ·have F:=aD (L.o k t z hs H.o c);go_wp2_with fail
     go_quiet (fail)
     go_wp2;go_ret;exact⟨by rw[F.o];rfl,Ut D _⟩
    ·have F:=aD (Bj.o k z t hs.symm H.o.symm c);go_wp2_with fail
     go_quiet (fail)
     go_wp2_with fail
     go_quiet (fail)
     go_wp2;go_ret;exact⟨by rw[F.o];rfl,Ut (Ut D _) _⟩
    ·have S:wT (x.data.toList.take (k+1)=y.data.toList.take (k+1)):=by
      show _=_;rw[Ng x k t,Ng y k z,H.o,QQ.1 c]
     go_wp2_with fail
     go_quiet (fail)
     go_wp2_with fail
     go_quiet (fail)
     go_wp2;go_roundw
     case rel=>exact⟨k+1,al,bd,S.o,Ut D _⟩
     case measure=>simp[intOf];omega
   ·obtain rfl:k=x.size:=al
    have F:=aD (Q.o hs H.o);go_wp2;go_ret;exact⟨by rw[F.o];rfl,D⟩
theorem akF {y:Nat} {p:Ja} (b:k<C p) (h0:p[k]?.getD 0=0) (h:nd p+D % 256^k=A % 256^k+c*256^k) (a:Nat) (f:A/256^k % 256+a*256=y+D/256^k % 256+c):
  nd (p.set k y)+D % 256^(k+1)=A % 256^(k+1)+a*256^(k+1):=by
 have s:=Ss p k y b;have t:p[k]=0:=by rwa [a7 b] at h0
 rw[t,oN,jd] at s;rw[s,KM,KM A,jI];have e:=eG (fun z=>z*256^k) f;simp only[iC] at e;have d:a*256*256^k=a*(256^k*256):=by rw[jr,eQ 256]
 rw[d] at e;rw[eQ (256^k) (D/256^k % 256),eQ (256^k) (A/256^k % 256)];omega
theorem asT (h:n<=m):0<=kd m n:=by
 rw[kd,aC al];split<;>decide
theorem akG {p:Ja} (b:A<256^n) (e:D<=A) (f:nd p<256^n) (h:nd p+D % 256^n=A % 256^n+c*256^n):nd p=A - D:=by
 rw[kp b,kp al] at h
 have d:c=0:=by
  rcases zj c with a |a
  ·exact a
  ·have:1*256^n<=c*256^n:=lR _ a;omega
 rw[d] at h;omega
theorem adk (a b:ByteArray) (w:E) (d:a.size<=1000000) (f:b.size<=1000000) (h:B2 a<B2 b):
  c6 122 #[zK a,zK b] w (dj w (zp #[zK ⟨#[]⟩,zZ xd])):=by
 have c:=ado a b w d f;rw[aaE h] at c;have H:=aD c;clear c h;go_enter func122,ntmps122;go_wp2_with fail
 refine(H.o).ae ?_;rintro e i ⟨rfl,g⟩;go_wp2;go_ret2;exact⟨rfl,g⟩
theorem WZ (a b:ByteArray) (w:E) (ha:a.size<=1000000) (Q:b.size<=1000000) (h:B2 b<=B2 a):
  c6 122 #[zK a,zK b] w (dj w (zp #[zK (B (B2 a - B2 b)),zZ y6])):=by
 obtain⟨i0,hi,aj,ak,an⟩:=eC Tryz.infoInt;have g:=ado a b w ha Q;have q:∃r:Int,kd (B2 a) (B2 b)=r/\0<=r:=⟨_,rfl,asT h⟩;obtain⟨r,q,hr⟩:=q;rw[q] at g;have Bh:=aD g;have L:=aD (fun V=>o6 b V al);have sb:=aM (jV b) Q;have Jw:=aD (Gm a);have qJ:=aD h;have ED:=aD (fun (k:Nat) (V:E) (h:k<=9223372036854775807)=>I9 a k V al h);have B9:=fun (k:Nat) (V:E) (h:k<=9223372036854775807)=>I9 (B (B2 b)) k V al h;rw[cQ] at B9;have Mv:=aD B9;clear g q B9 h;generalize B (B2 b)=y' at *;generalize hA:B2 a=A at *;generalize hD:B2 b=D at *;clear hA hD;generalize hn:a.size=n at *;go_enter func122,ntmps122;go_wp2_with fail
 refine(Bh.o).ae ?_;rintro e w1 ⟨rfl,m⟩;clear Bh;go_wp2_with fail
 refine(L.o _).ae ?_;rintro e w9 ⟨rfl,ai⟩;subst ai;clear L
 go_wp2_with (first
  |(at_make;refine oK _ rfl _ _ 27 rfl (O (T w9)) 3 i0 (J I 0) 1 underlying27 hi aj ak I I _ _ n rfl rfl bd bd (by rw[an];omega) (by unfold maxLen;omega) (ah _) ?_;intro R U ab))
 have F:=sB U;rw[KO] at F;have S:da w9 R:=(au _ w9).grown ab (ah _) (fun k e=>by cases e);have K:wT (cP R (O (T w9)) (List.replicate n 0)):=F;clear U ab F
 go_loopw [8,9] (fun cv iv wr=>∃(k c:Nat) (p:Ja),k<=n/\iv=J I k/\cv=J I c/\c<=1/\p.length=n/\wT (tV p)/\wT (∀j,k<=j ->p[j]?.getD 0=0)/\wT (nd p+D % 256^k=A % 256^k+c*256^k)/\wT (cP wr (O (T w9)) p)/\da w9 wr)
  (fun _ i _=>n - (intOf i).toNat)
 case atStart=>exact⟨0,0,List.replicate n 0,aV _,rfl,rfl,aV _,aE,aav _,(fun j _=>by rw[JT];split<;>rfl),(show _=_ by rw[XQ];simp[Nat.mod_one]),K,S⟩
 case round=>
  obtain⟨k,c,p,hk,rfl,rfl,g,s,t,B7,Bm,H,f⟩:=hrel;clear K S;by_cases av:k<n
  ·have Bb:k<C p:=al
   have aa:=aD (fun y c'=>akF (y:=y) Bb (B7.o k (ah _)) Bm.o c');have X:=aD (fun V=>ED.o k V al);have Y:=aD (fun V=>Mv.o k V al);have hx:A/256^k % 256<256:=jc _ a6;have hy:D/256^k % 256<256:=jc _ a6;generalize A/256^k % 256=x at *;generalize D/256^k % 256=y at *;have ax:=H.o.cell k Bb;have aq:=H.o.fz k;have P:=aD (fun z=>H.o.set k z);generalize p[k]=pk at *;clear Bm;by_cases px:(x:Int) - y - c<0
   ·go_wp2_with (first
     |(have ao:=Bj;go_at_call 121;refine(Y.o _).ae ?_;rintro e l ⟨rfl,d⟩;subst d)
     |(go_at_call 121;refine(X.o _).ae ?_;rintro e l ⟨rfl,d⟩;subst d;have Bj:True:=trivial))
    have v:Value.int I ((x:Int) - (y:Int) - (c:Int)+256)=J I ((x+256 - y - c:Nat):Int):=int_eq al;rw[v];go_roundw
    case rel=>exact⟨k+1,1,p.set k (x+256 - y - c),al,bd,rfl,al,by rw[gA];exact s,Px t.o _ _ al,WR B7.o,aa.o _ 1 al,P.o _,f.setCell (ah _) _⟩
    case measure=>simp[intOf];omega
   ·go_wp2_with (first
     |(have ao:=Bj;go_at_call 121;refine(Y.o _).ae ?_;rintro e l ⟨rfl,d⟩;subst d)
     |(go_at_call 121;refine(X.o _).ae ?_;rintro e l ⟨rfl,d⟩;subst d;have Bj:True:=trivial))
    have v:Value.int I ((x:Int) - (y:Int) - (c:Int))=J I ((x - y - c:Nat):Int):=int_eq al;rw[v];go_roundw
    case rel=>exact⟨k+1,0,p.set k (x - y - c),al,bd,rfl,al,by rw[gA];exact s,Px t.o _ _ al,WR B7.o,aa.o _ 0 al,P.o _,f.setCell (ah _) _⟩
    case measure=>simp[intOf];omega
  ·obtain rfl:k=n:=al
   have Ba:=Xm (O (T w9)) p wr t.o al H.o;have u:=an1 p t.o;rw[s] at u;rw[s,akG Jw.o qJ.o u Bm.o] at Ba;have AG:=aD Ba;clear Ba u;go_wp2_with (go_at_call 123;refine(AG.o).ae ?_;rintro e l ⟨rfl,ad⟩)
   go_ret2;exact⟨rfl,(m.trans (f.ae m.size)).trans (ad.ae (m.trans (f.ae m.size)).size)⟩
theorem Kq (n:Int) (w:E) (h0: -9223372036854775808<=n) (h1:n<=9223372036854775807):
  c6 68 #[J I n] w (dj w (zK (B n.toNat))):=by
 go_enter func68,ntmps68;go_wp2;go_loopw [0,3] (fun v a wr=>∃(z:Int) (s:ByteArray),v=J I z/\a=zK s/\ -9223372036854775808<=z/\z<=9223372036854775807/\wT (bn z.toNat++s.data.toList=bn n.toNat)/\da w wr) (fun v _ _=>(intOf v).toNat)
 case atStart=>exact⟨n,⟨#[]⟩,rfl,rfl,h0,h1,(show _=_ by simp),au _ _⟩
 case round=>
  obtain⟨z,s,rfl,rfl,f,g,H,c⟩:=hrel;by_cases b:0<z
  ·have Q:=JO (P:=prog) (wr.alloc (yM #[J .u8 (z % 256)] 5)) 148 5 underlying148 underlying5 (O (T wr)) 0 1 1 [z % 256] rfl (fun i h=>by
    (obtain rfl:i=0:=al);rw[ba _ (O (T wr)) (0+0) _ _ (0,0) (dU _ _)];rfl) 61 underlying61
   have t:wT (bn (z/256).toNat++(strOfNums [z % 256]++s).data.toList=bn n.toNat):=by
    show _=_;rw[<- H.o,sq z.toNat al,ByteArray.data_append,Array.toList_append,JN,show (z/256).toNat=z.toNat/256 by omega,p9];(have:UInt8.ofNat (z % 256).toNat=UInt8.ofNat (z.toNat % 256):=by congr 1;omega);simp[this]
   have K:s.size<=8:=by
    have e:=eG List.length H.o;rw[cE,B0] at e;have:=sA 8 n.toNat (by show n.toNat<18446744073709551616;omega);omega
   have d:(strOfNums [z % 256]).size=1:=strOfNums_size _;go_wp2;go_roundw
   case rel=>exact⟨z/256,strOfNums [z % 256]++s,rfl,rfl,al,al,t.o,c.alloc c.size _⟩
   case measure=>simp[intOf];omega
  ·have Bm:wT (s=B n.toNat):=by
    show s=_;have:=H.o;rw[show z.toNat=0 by omega,sk,gS] at this;apply Rb;apply Rc.1;rw[this,B]
   go_wp2;go_ret;exact⟨by rw[<- Bm.o];rfl,c⟩
theorem an3 (l:List UInt8) (k:Nat):nb (l.take k)<=nb l:=by
 conv=>rhs;rw[<- zo k l,Fi]
 have:nb (l.take k)*1<=nb (l.take k)*256^C (l.drop k):=mK _ (wh a6);omega
theorem aeI (s:ByteArray) (k:Nat) (h:k<s.size):nb (s.data.toList.take (k+1))=nb (s.data.toList.take k)*256+s[k].toNat:=by
 rw[Ng s k h,Bg]
theorem aeJ (s:ByteArray):nb (s.data.toList.take s.size)=B2 s:=by
 rw[kO (by rw[B0];exact ah _),B2]
theorem Km (s:ByteArray) (w:E) (hs:s.size<=7):
  c6 175 #[zK s] w fun e w'=>e=yW (zp #[J I (B2 s:Nat),zZ y6])/\w'=w:=by
 have a:B2 s<72057594037927936:=aT (Gm s) (k7 a6 hs);have A:=aD (aeJ s);go_enter func175,ntmps175;go_wp2;go_loop [4,5] (fun v i=>∃k:Nat,k<=s.size/\i=J I k/\v=J I (nb (s.data.toList.take k):Nat)) (fun _ i=>s.size - (intOf i).toNat)
 case atStart=>exact⟨0,aV _,rfl,rfl⟩
 case round=>
  obtain⟨k,b,rfl,rfl⟩:=hrel;by_cases l:k<s.size
  ·have c:=abE _ s[k].toNat_lt;have t:=aeI s k l;have h:=an3 s.data.toList (k+1);rw[t] at h;have r:nb (s.data.toList.take k)*256+s[k].toNat<72057594037927936:=VL h a;have H:=aD t;clear t h a;generalize nb (s.data.toList.take k)=m at *;go_wp2;go_round
   case rel=>exact⟨k+1,al,bd,by rw[H.o];exact int_eq al⟩
   case measure=>simp[intOf];omega
  ·obtain rfl:k=s.size:=al
   rw[A.o];go_wp2;go_ret2;exact⟨rfl,rfl⟩
theorem acO (s:ByteArray) (w:E) (h1:7<s.size) (hs:s.size<=1000000):
  c6 175 #[zK s] w fun e w'=>e=yW (zp #[J I 0,zZ xd])/\w'=w:=by
 go_enter func175,ntmps175;go_wp2;go_ret2;exact⟨rfl,rfl⟩
theorem acL (m:Nat) (h:(B m).size<=7):m<72057594037927936:=aT (Hb m) (k7 a6 h)
theorem aon {Bb x y:Nat} {p:Ja} (a:k+m<C p) (h:nd p+c*256^(k+m)=Bb+x*256^k*(D % 256^m)) (b:D/256^m % 256=y):
  nd (p.set (k+m) ((c+p[k+m]+x*y) % 256))+(c+p[k+m]+x*y)/256*256^(k+(m+1))=Bb+x*256^k*(D % 256^(m+1)):=by
 have s:=Ss p (k+m) ((c+p[k+m]+x*y) % 256) a;have t:=aic (c+p[k+m]+x*y) (256^(k+m));have e:(c+p[k+m]+x*y)*256^(k+m)=c*256^(k+m)+p[k+m]*256^(k+m)+x*y*256^(k+m):=by rw[iC,iC]
 have f:x*256^k*(D % 256^(m+1))=x*256^k*(D % 256^m)+x*y*256^(k+m):=by
  rw[KM,b,oO,EL];congr 1
  rw[jr,jr,eQ y,jr]
 rw[f,show k+(m+1)=k+m+1 by omega,jI];omega
theorem an2 (l:Ja):∀(j:Nat) (h:j<C l),l[j]*256^j<=nd l:=by
 induction l with
 |nil=>intro j h;exact absurd h (EM _)
 |cons x r ih=>
  intro j h;cases j with
  |zero=>simp only[List.getElem_cons_zero,MH,qM,Il];omega
  |succ j=>
   (have a:j<C r:=by simpa using h);have:=ih j a;rw[VX,Il,jI, <- jr];omega
theorem aoo {lb x:Nat} {p:Ja} (d:k+lb<C p) (b:D<256^lb) (i:A/256^k % 256=x) (h:nd p+c*256^(k+lb)=A % 256^k*D+x*256^k*(D % 256^lb)):
  nd (p.set (k+lb) (p[k+lb]+c))=A % 256^(k+1)*D/\p[k+lb]+c<256:=by
 have s:=Ss p (k+lb) (p[k+lb]+c) d;rw[kp b] at h;have f:A % 256^(k+1)*D=A % 256^k*D+x*256^k*D:=by rw[KM,i,iC,eQ (256^k) x]
 have e:(p[k+lb]+c)*256^(k+lb)=p[k+lb]*256^(k+lb)+c*256^(k+lb):=iC _ _ _;have n:nd (p.set (k+lb) (p[k+lb]+c))=A % 256^(k+1)*D:=by rw[f];omega
 refine⟨n,?_⟩;have g:=an2 (p.set (k+lb) (p[k+lb]+c)) (k+lb) (by rw[gA];exact d);rw[n,Hp] at g;have m:A % 256^(k+1)*D<256^(k+1)*256^lb:=MJ (jc _ (wh a6)) b;rcases dX (p[k+lb]+c) 256 with a |a
 ·exact a
 ·have j:256*256^(k+lb)<=(p[k+lb]+c)*256^(k+lb):=lR _ a;have l:256^(k+1)*256^lb=256*256^(k+lb):=by rw[<- EL, <- Nat.pow_succ',show k+1+lb=k+lb+1 by omega]
  omega
theorem al2 (a b:ByteArray) (w:E) (ha:a.size<=1000000) (hb:b.size<=1000000):
  c6 118 #[zK a,zK b] w (dj w (zK (B (B2 a*B2 b)))):=by
 obtain⟨i0,hi,a1,bb,bc⟩:=eC Tryz.infoInt;have tG:=aD (o6 a w al);have fk:=aD (o6 b w al);have sa:=aM (jV a) ha;have sb:=aM (jV b) hb;have GH:B2 (B (B2 a))=B2 a:=cQ _;have GG:B2 (B (B2 b))=B2 b:=cQ _;generalize B (B2 a)=x at *;generalize B (B2 b)=y at *;have Bh:=aD (Gm x);have U:=aD (Gm y);have ED:=aD (fun (k:Nat) (V:E) (h:k<=9223372036854775807)=>I9 x k V al h);have Mv:=aD (fun (k:Nat) (V:E) (h:k<=9223372036854775807)=>I9 y k V al h);have K:=aD (fun (h:x.size<=7) (V:E)=>Km x V h);have u:=aD (fun (h:y.size<=7) (V:E)=>Km y V h);rw[GH] at Bh ED K;rw[GG] at U Mv u;clear GH GG;generalize hA:B2 a=A at *;generalize hD:B2 b=D at *;clear hA hD ha hb;go_enter func118,ntmps118;go_wp2_with fail
 refine(tG.o).ae ?_;rintro e f ⟨rfl,l⟩;subst l;go_wp2_with fail
 refine(fk.o).ae ?_;rintro e f ⟨rfl,l⟩;subst l;clear tG fk;by_cases aj:x.size+y.size<=7
 ·have hp:A*D<72057594037927936:=by
   have Bm:A*D<256^x.size*256^y.size:=MJ Bh.o U.o;rw[<- EL] at Bm;exact aT Bm (k7 a6 aj)
  have zP:(0:Int)<=(A:Int)*(D:Int):=Int.mul_nonneg al al
  have K4:(A:Int)*(D:Int)<72057594037927936:=by
   (have s:((A*D:Nat):Int)<72057594037927936:=al);rwa [mP] at s
  have HO:=aD (fun V=>Kq ((A:Int)*(D:Int)) V al al);have ak:((A:Int)*(D:Int)).toNat=A*D:=by rw[<- mP,oU]
  rw[ak] at HO;have aI:=aD (fun V=>K.o al V);have aJ:=aD (fun V=>u.o al V);have Y:=aD zP;have Q:=aD K4;have S1:(x.size:Int)+(y.size:Int)<=7:=al
  clear K u ak hp zP K4 aj;go_wp2_with fail
  refine(aI.o _).ae ?_;rintro e F ⟨rfl,l⟩;subst l;go_wp2_with fail
  refine(aJ.o _).ae ?_;rintro e F ⟨rfl,l⟩;subst l
  have bm:IntKind.i64.wrap ((A:Int)*(D:Int))=(A:Int)*(D:Int):=by
   have Bm:=Y.o;have s:=Q.o;rw[js];omega
  have Ys:wrap64 ((A:Int)*(D:Int))=(A:Int)*(D:Int):=by
   have Bm:=Y.o;have s:=Q.o;rw[wrap64];omega
  clear Y Q;go_wp2_with fail
  refine(HO.o _).ae ?_;rintro e S ⟨rfl,aa⟩;go_wp2;go_ret;exact⟨rfl,aa⟩
 ·clear K u
  go_wp2_with (first
   |(at_make;refine oK _ rfl _ _ 27 rfl (O (T f)) 3 i0 (J I 0) 1 underlying27 hi a1 bb I I _ _ (x.size+y.size+1) rfl rfl bd bd (by rw[bc];omega) (by unfold maxLen;omega) (ah _) ?_;intro F an aq))
  have B7:=sB an;rw[KO] at B7;have ad:da f F:=(au _ f).grown aq (ah _) (fun k e=>by cases e);have HI:wT (cP F (O (T f)) (List.replicate (x.size+y.size+1) 0)):=B7;clear an aq B7
  go_loopw [10] (fun iv wr=>∃(k:Nat) (p:Ja),k<=x.size/\iv=J I k/\p.length=x.size+y.size+1/\wT (tV p)/\wT (nd p=A % 256^k*D)/\wT (cP wr (O (T f)) p)/\da f wr)
   (fun i _=>x.size - (intOf i).toNat)
  case atStart=>exact⟨0,List.replicate (x.size+y.size+1) 0,aV _,rfl,aE,aav _,(show _=_ by rw[XQ];simp[Nat.mod_one]),HI,ad⟩
  case round=>
   obtain⟨k,p,hk,rfl,ai,P,Bj,R,v⟩:=hrel;clear HI ad;obtain⟨wo,Bx⟩:∃wo:E,wo=wr:=⟨_,rfl⟩;by_cases bh:k<x.size
   ·have HX:=aD (fun V=>ED.o k V al);have hx:A/256^k % 256<256:=jc _ a6;have bf:=aD (fun (c:Nat) (q:Ja) (hq:k+y.size<C q)=>aoo (A:=A) (D:=D) (k:=k) (lb:=y.size) (c:=c) (p:=q) hq U.o rfl);generalize A/256^k % 256=g at *;go_wp2_with (go_at_call 121;refine(HX.o _).ae ?_;rintro e S ⟨rfl,ab⟩;subst ab)
    go_loopw [12,13] (fun cv jv wr=>∃(m c:Nat) (q:Ja),m<=y.size/\jv=J I m/\cv=J I c/\c<=255/\q.length=x.size+y.size+1/\wT (tV q)/\wT (nd q+c*256^(k+m)=A % 256^k*D+g*256^k*(D % 256^m))/\wT (cP wr (O (T f)) q)/\da f wr)
     (fun _ j _=>y.size - (intOf j).toNat)
    case atStart=>
     refine⟨0,0,p,aV _,rfl,rfl,aV _,ai,P.o,?_,R,v⟩;show _=_;rw[Bj.o];simp[Nat.mod_one]
    case round=>
     obtain⟨m,c,q,hm,rfl,rfl,hc,fj,X,H,Bb,Aj⟩:=hrel;clear R v P Bj;by_cases Y0:m<y.size
     ·have r:k+m<C q:=al
      have HY:=aD (fun V=>Mv.o m V al);have zI:D/256^m % 256<256:=jc _ a6;have ao:=aon (y:=D/256^m % 256) r H.o rfl;have bg:=Bb.o.cell (k+m) r;have bk:=X.o q[k+m] (bU r);have aR:=Bb.o.fz (k+m);have L:=aD (fun z=>Bb.o.set (k+m) z);generalize D/256^m % 256=n at *;generalize q[k+m]=d at *;have ax:=aD ao;have Ol:g*n<=255*255:=kN al al;have az:(0:Int)<=(g:Int)*(n:Int):=Int.mul_nonneg al al
      have ay:(g:Int)*(n:Int)<=65025:=by
       (have s:((g*n:Nat):Int)<=65025:=al);rwa [mP] at s
      clear ao H;go_wp2_with (go_at_call 121;refine(HY.o _).ae ?_;rintro e S ⟨rfl,ab⟩;subst ab)
      have lC:(g:Int)*(n:Int)=((g*n:Nat):Int):=(mP _ _).symm;rw[lC];clear az ay lC;generalize g*n=t at *;have B9:Value.int I (((c:Int)+(d:Int)+(t:Int)) % 256)=J I (((c+d+t) % 256:Nat):Int):=int_eq al;have aY:Value.int I (((c:Int)+(d:Int)+(t:Int))/256)=J I (((c+d+t)/256:Nat):Int):=int_eq al;rw[B9,aY];go_roundw
      case rel=>exact⟨m+1,(c+d+t)/256,q.set (k+m) ((c+d+t) % 256),al,bd,rfl,al,by rw[gA];exact fj,Px X.o _ _ (jc _ a6),ax.o,L.o _,Aj.setCell (ah _) _⟩
      case measure=>simp[intOf];omega
     ·obtain rfl:m=y.size:=al
      (have r:k+y.size<C q:=al);obtain⟨pz,S0⟩:=bf.o c q r H.o;have bg:=Bb.o.cell (k+y.size) r;have aR:=Bb.o.fz (k+y.size);have L:=aD (fun z=>Bb.o.set (k+y.size) z);generalize q[k+y.size]=d at *;have av:=aD pz;clear pz H;go_wp2;have B9:Value.int I ((d:Int)+(c:Int))=J I ((d+c:Nat):Int):=int_eq al;rw[B9];go_roundw
      case rel=>exact⟨k+1,q.set (k+y.size) (d+c),al,bd,by rw[gA];exact fj,Px X.o _ _ S0,av.o,L.o _,Aj.setCell (ah _) _⟩
      case measure=>simp[intOf];omega
   ·obtain rfl:k=x.size:=al
    have Ba:=Xm (O (T f)) p wr P.o al R.o;rw[ai,Bj.o,kp Bh.o] at Ba;have AG:=aD Ba;clear Ba;go_wp2_with (go_at_call 123;refine(AG.o).ae ?_;rintro e S ⟨rfl,aa⟩)
    go_ret;exact⟨rfl,v.trans (aa.ae v.size)⟩
variable {d:Nat}
def bv (d:Nat):Value:=J .u8 (d:Int)
def Mc (w:E) (base:Nat) (v:wF) (l:Ja):Prop:=w.ownsRow base 5 1 v (C l) (l.map bv)
def qn (l:Ja):Nat:=l.foldl (fun n d=>n*256+d) 0
theorem ads (l:Ja) (d:Nat):qn (l++[d])=qn l*256+d:=by simp[qn]
theorem asq {l:Ja} (h:tV l) (c:d<256):tV (l++[d]):=fun x b=>by
 rcases bE.1 b with a |a
 ·exact h x a
 ·simp at a;omega
theorem auh (l:Ja):tV l ->B2 (strOfNums (l.map Int.ofNat))=qn l:=by
 induction l using Kj with
 |h0=>intro _;rfl
 |h1 l d ih=>
  intro h;have h1:=ih fun x a=>h x (ER _ a);have b:=h d (MP _ (bA.2 rfl));rw[B2,JN] at h1⊢;rw[gV,gV,gw,oQ,gw,oQ,Bg,h1,ads];have:(UInt8.ofNat (Int.ofNat d).toNat).toNat=d:=by simp;omega
  rw[this]
theorem aso {P:Nat} (h:0<D):(P*256+c)/D=P/D*256+(P % D*256+c)/D/\(P*256+c) % D=(P % D*256+c) % D:=by
 have e:P*256+c=P % D*256+c+P/D*256*D:=by
  have:=QT P D;have f:P/D*256*D=D*(P/D)*256:=by rw[Nat.mul_right_comm,eQ (P/D) D]
  omega
 rw[e,VO _ _ h,VN];exact⟨EO _ _,rfl⟩
theorem auj (s x:ByteArray) (k:Nat) (h:k<x.size):B2 (s++x.extract k (k+1))=B2 s*256+x[k].toNat:=by
 have e:(x.extract k (k+1)).data.toList=[x[k]]:=by
  rw[ByteArray.data_extract,Array.toList_extract,List.extract_eq_take_drop,show k+1 - k=1 by omega,qP (by rw[B0];exact h)];rfl
 rw[B2,ByteArray.data_append,Array.toList_append,e,Bg];rfl
theorem anF (x:ByteArray) (k:Nat) (h:k<x.size):(x.extract k (k+1)).size=1:=by
 rw[ByteArray.size_extract];omega
theorem amb (a b:ByteArray) (w:E) (p:a.size<=1000000) (s:b.size<=1000000) (h:B2 b≠0) (h1:(B (B2 a)).size<=7) (f:(B (B2 b)).size<=7):
  c6 120 #[zK a,zK b] w (dj w (zp #[zK (B (B2 a/B2 b)),zK (B (B2 a % B2 b)),zZ y6])):=by
 have t:=aD (o6 a w al);have n:=aD (o6 b w al);have H:B2 (B (B2 a))=B2 a:=cQ _;have j:B2 (B (B2 b))=B2 b:=cQ _;have S:=EJ h;have Bm:=acL _ h1;have Bj:=acL _ f;generalize B (B2 a)=x at *;generalize B (B2 b)=y at *;have l:=aD (fun (V:E)=>Km x V h1);have i:=aD (fun (V:E)=>Km y V f);rw[H] at l;rw[j] at i;clear H j;generalize hA':B2 a=A at *;generalize F6:B2 b=D at *;clear hA' F6 p s h1 f
 have P:(A:Int)/(D:Int)<=A:=by
  rw[<- AX];have:=AV A D;omega
 have K:0<=(A:Int)/(D:Int):=Int.ediv_nonneg al al
 have U:(A:Int) % (D:Int)<=A:=by
  rw[<- wk];have:=Nat.mod_le A D;omega
 have B9:0<=(A:Int) % (D:Int):=Int.emod_nonneg _ al;have q:=fun V=>Kq ((A:Int)/(D:Int)) V al al;have r:=fun V=>Kq ((A:Int) % (D:Int)) V al al;rw[<- AX,oU,AX] at q;rw[<- wk,oU,wk] at r;have Q:=aD q;have k:=aD r;clear q r;have Ba:0<D:=lO h;go_enter func120,ntmps120;go_wp2_with fail
 refine(t.o).ae ?_;rintro e u ⟨rfl,c⟩;subst c;go_wp2_with fail
 refine(n.o).ae ?_;rintro e u ⟨rfl,c⟩;subst c;go_wp2_with fail
 refine(l.o _).ae ?_;rintro e d ⟨rfl,c⟩;subst c;go_wp2_with fail
 refine(i.o _).ae ?_;rintro e d ⟨rfl,c⟩;subst c;go_upto_region 8 with fail
 have Bh:¬(D:Int)=0:=al
 have X:IntKind.i64.wrap ((A:Int)/(D:Int))=(A:Int)/(D:Int):=by rw[js];omega
 have Y:IntKind.i64.wrap ((A:Int) % (D:Int))=(A:Int) % (D:Int):=by rw[js];omega
 have g:=(au (O (T d)) d).drew
 go_region_held3 (fun V=>wT (da d V))
  (first |exact R |exact m |exact g)
  (first
   |(have F:=m;go_at_call 68;refine(k.o _).ae ?_;rintro e Bb ⟨rfl,z⟩;have R:=F.trans (z.ae F.size))
   |(go_at_call 68;refine(Q.o _).ae ?_;rintro e L ⟨rfl,v⟩;have m:=g.trans (v.ae g.size)))
 go_wp2;go_ret3
 exact⟨rfl,R⟩
theorem Mc.cases {base:Nat} {v:wF} {l:Ja} (h:Mc w base v l):(v=Z N 0 0/\l=[])∨∃g cap,v=Z (M ⟨g,0,N⟩) (C l) cap/\∀j,j<C l ->w.cell? ⟨g,j,N⟩=M (J .u8 (l[j]?.getD 0:Nat)):=by
 rcases h.2 with ⟨a,n⟩ |⟨g,cap,c,a,r⟩
 ·exact yd ⟨a,Q6 n⟩
 ·subst a;refine yk ⟨g,cap,rfl,fun j b=>?_⟩;rw[World.ownsRow.cellAt h j al,k9,a7 b];rfl
theorem ahO {R:Nat} {y:ByteArray} (b:B2 y=D) (a:R<256*D) (hs:y.size<=500000) (d:Nat):(B (R - d*D)).size<=1000000:=by
 have c:=ku (aM (Nat.sub_le R (d*D)) (AU a));have e:=rH 256 D;have h:=jV y;rw[b] at h;have f:(B 256).size<=2:=by rw[nP];exact sA 2 256 a6
 omega
theorem asp {R:Nat} (h:0<D) (h1:d*D<=R) (a:¬D<=R - d*D):R/D=d/\R % D=R - d*D:=by
 have e:R=(R - d*D)+d*D:=al
 constructor
 ·rw[e,VO _ _ h,zk al];omega
 ·conv=>lhs;rw[e]
  rw[VN,kp al]
theorem amc (a b:ByteArray) (w:E) (ha:a.size<=500000) (hb:b.size<=500000) (h:B2 b≠0) (ak:¬((B (B2 a)).size<=7/\(B (B2 b)).size<=7)):
  c6 120 #[zK a,zK b] w (dj w (zp #[zK (B (B2 a/B2 b)),zK (B (B2 a % B2 b)),zZ y6])):=by
 obtain⟨i0,F,a1,bb,bc⟩:=eC Tryz.infoByte;have tG:=aD (o6 a w al);have fk:=aD (o6 b w al);have GH:B2 (B (B2 a))=B2 a:=cQ _;have GG:B2 (B (B2 b))=B2 b:=cQ _;have bf:=EJ h;have sa:=aM (jV a) ha;have sb:=aM (jV b) hb;generalize B (B2 a)=x at *;generalize hy:B (B2 b)=y at *;have Bb:=aD GG;have HX:=aD (aeJ x);rw[GH] at HX;have Ba:0<B2 b:=lO h;clear GH GG;have lK:=aD (fun (V:E)=>if f:x.size<=7 then Exists.intro (p:=fun r:wF×wF=>r.2=zZ (decide (x.size<=7))/\c6 175 #[zK x] V fun e w'=>e=yW (zp #[r.1,r.2])/\w'=V) (J I (B2 x:Nat),zZ y6) ⟨by simp[f],Km x V f⟩ else⟨(J I 0,zZ xd),by simp[f],acO x V al al⟩);have Ci:=aD (fun (V:E)=>if f:y.size<=7 then Exists.intro (p:=fun r:wF×wF=>r.2=zZ (decide (y.size<=7))/\c6 175 #[zK y] V fun e w'=>e=yW (zp #[r.1,r.2])/\w'=V) (J I (B2 y:Nat),zZ y6) ⟨by simp[f],Km y V f⟩ else⟨(J I 0,zZ xd),by simp[f],acO y V al al⟩);generalize hA':B2 a=A at *;generalize F6:B2 b=D at *;clear hA' F6 ha hb hy;go_enter func120,ntmps120;go_wp2_with fail
 refine(tG.o).ae ?_;rintro e S ⟨rfl,j⟩;subst j;go_wp2_with fail
 refine(fk.o).ae ?_;rintro e S ⟨rfl,j⟩;subst j;clear tG fk;obtain⟨⟨p1,p2⟩,Ds,QE⟩:=lK.o S;obtain⟨⟨q1,q2⟩,pq,AQ⟩:=Ci.o S;simp only at Ds pq;subst Ds pq;have aq:=aD QE;have ao:=aD AQ;clear QE AQ lK Ci
 have aJ:(decide (x.size<=7)=xd)∨(decide (x.size<=7)=y6/\decide (y.size<=7)=xd):=by
  by_cases f:x.size<=7
  ·exact yk ⟨cJ f,cX fun h8=>ak ⟨f,h8⟩⟩
  ·exact yd (cX f)
 clear ak;generalize decide (x.size<=7)=t1 at *;generalize decide (y.size<=7)=t2 at *;go_wp2_with fail
 refine(aq.o).ae ?_;rintro e m ⟨rfl,j⟩;subst j;go_wp2_with fail
 refine(ao.o).ae ?_;rintro e m ⟨rfl,j⟩;subst j;clear aq ao;rcases aJ with rfl |⟨rfl,rfl⟩
 all_goals
  go_wp2
  go_loopw [11,12,13] (fun qv rv iv wr=>∃(k:Nat) (ql:Ja),k<=x.size/\iv=J I k/\rv=zK (B (nb (x.data.toList.take k) % D))/\ql.length=k/\wT (tV ql)/\wT (qn ql=nb (x.data.toList.take k)/D)/\wT (Mc wr (O (T m)) qv ql)/\da m wr)
   (fun _ _ i _=>x.size - (intOf i).toNat)
  case atStart=>exact⟨0,[],aV _,rfl,(by rw[MN,Im,Nat.zero_mod,CB]),rfl,(fun x hx=>by cases hx),(show _=_ by rw[MN,Im,Nat.zero_div];rfl),World.ownsRow_nil _ _ _ _,au _ _⟩
  case round=>
   obtain⟨k,ql,hk,rfl,rfl,Q,Bj,Bm,u,l⟩:=hrel;by_cases aa:k<x.size
   ·have ab:=anF x k aa;have X:=auj (B (nb (x.data.toList.take k) % D)) x k aa;rw[cQ] at X;have az:=aeI x k aa;obtain⟨K,B7⟩:=aso (P:=nb (x.data.toList.take k)) (D:=D) (c:=x[k].toNat) Ba;rw[<- az] at K B7;have ay:nb (x.data.toList.take k) % D<D:=jc _ Ba;have aY:=x[k].toNat_lt;have YB:(B (nb (x.data.toList.take k) % D)).size<=500000:=aM (ku (AU ay)) (by have:=jV y;rw[Bb.o] at this;omega);(have Mi:wT (nb (x.data.toList.take (k+1))/D=qn ql*256+(nb (x.data.toList.take k) % D*256+x[k].toNat)/D):=by show _=_;rw[K,Bm.o]);have oH:=aD B7;(have hR:nb (x.data.toList.take k) % D*256+x[k].toNat<256*D:=al);clear az K B7 Bm aY ay;generalize nb (x.data.toList.take k) % D*256+x[k].toNat=R at *;generalize B (nb (x.data.toList.take k) % D)=rs at *;(have aI:(rs++x.extract k (k+1)).size<=1000001:=by rw[ByteArray.size_append,ab];omega);have H:=aD (fun V=>o6 (rs++x.extract k (k+1)) V al);rw[X] at H;clear X aI
    have aj:=aD (fun (d:Nat) (V:E) (v:d*D<=R) (h2:D<=R - d*D)=>by
     have hs:=WZ (B (R - d*D)) y V (ahO Bb.o hR sb d) al (by rw[cQ,Bb.o];exact h2);rw[cQ,Bb.o,show R - d*D - D=R - (d+1)*D by rw[iC,k8];omega] at hs;exact hs)
    have Em:=aD (fun (d:Nat) (V:E) (h2:¬D<=R - d*D)=>adk (B (R - d*D)) y V (ahO Bb.o hR sb d) al (by rw[cQ,Bb.o];omega));go_wp2_with (go_at_call 119;refine(H.o _).ae ?_;rintro e U ⟨rfl,s⟩;subst s)
    clear H;go_loopw [12,14] (fun rv dv wi=>∃d:Nat,d*D<=R/\rv=zK (B (R - d*D))/\dv=J I d/\da U wi) (fun _ dv _=>256 - (intOf dv).toNat)
    case atStart=>exact⟨0,al,by rw[oN,Nat.sub_zero],rfl,au _ _⟩
    case round=>
     obtain⟨d,z,rfl,rfl,n⟩:=hrel
     have aR:d<256:=by
      rcases dX d 256 with v |v
      ·exact v
      ·have:=lR D v;omega
     by_cases q:D<=R - d*D
     ·have tq:(d+1)*D<=R:=by rw[iC,k8];omega
      have t:=aD (fun V=>aj.o d V z q);clear z q;go_wp2_with fail
      refine(t.o _).ae ?_;rintro e Y ⟨rfl,Bh⟩;go_wp2;go_roundw
      case rel=>exact⟨d+1,tq,rfl,bd,n.trans (Bh.ae n.size)⟩
      case measure=>simp[intOf];omega
     ·have t:=aD (fun V=>Em.o d V q);obtain⟨hq,hr⟩:=asp Ba z q;(have Cl:wT (qn (ql++[d])=nb (x.data.toList.take (k+1))/D):=by show _=_;rw[ads,Mi.o,hq]);(have gQ:wT (R - d*D=nb (x.data.toList.take (k+1)) % D):=by show _=_;rw[oH.o,hr]);clear hq hr z q aj Em oH Mi;go_wp2_with fail
      refine(t.o _).ae ?_;rintro e Y ⟨rfl,Bh⟩;have ai:Mc Y (O (T m)) _ ql:=Sd (Sd u.o n (ah _)) Bh (ah _);have L:=(l.trans (n.ae l.size)).trans (Bh.ae (l.trans (n.ae l.size)).size);have l8:=L.size;rw[gQ.o];clear gQ t;go_wp2_with (at_builtin;refine zg _ rfl _ _ 148 rfl (O (T m)) 5 i0 (J .u8 0) 1 1 underlying148 F a1 bb bc rfl a6 _ _ _ rfl (He ai _) ⟨O (T Y),0,N⟩ 1 1 [J .u8 (d:Nat)] rfl rfl (cell_one_new _ _ _) (by simp[Value.oneCell']) (by unfold maxLen;omega) al (by simp;omega) ?_;intro v' w5 FD FV _)
      have I6:da m w5:=(L.alloc L.size _).grown FV (by simp;omega) (fun k hk=>(World.ownsRow.lt ai k hk).1);go_wp2;go_roundw
      case rel=>
       refine⟨k+1,ql++[d],al,bd,rfl,by rw[cE,Q];rfl,asq Bj.o aR,Cl.o,?_,I6⟩;(have e:C (ql++[d])=C ql+1:=aE);show Mc _ _ _ _;rw[Mc,e];simpa [bv] using FD
      case measure=>simp[intOf];omega
   ·obtain rfl:k=x.size:=al
    rw[HX.o] at Bm⊢;have B9:=auh ql Bj.o;rw[Bm.o] at B9;rcases u.o.cases with ⟨rfl,rfl⟩ |⟨g,cap,rfl,ax⟩
    ·have H:=aD (fun V=>o6 ⟨#[]⟩ V (by show 0<=_;omega));have an:B2 ⟨#[]⟩=A/D:=B9;rw[an] at H;have BQ:=run_convert_bytes_nil (P:=prog) wr 148 5 underlying148 underlying5 0 0 61 underlying61;rw[show ByteArray.empty=⟨#[]⟩ from rfl] at BQ;clear B9 an u Bj Bm Q;go_wp2_with (go_at_call 119;refine(H.o _).ae ?_;rintro e U ⟨rfl,s⟩;subst s)
     go_ret3
     exact⟨rfl,l⟩
    ·have ad:C (ql.map Int.ofNat)=C ql:=aE
     have av:∀i,i<C ql ->wr.cell? ⟨g,0+i,N⟩=M (J .u8 ((ql.map Int.ofNat).getD i 0)):=fun i F=>by
      rw[bQ,ax i F];simp[cF,a7 F]
     have BQ:=JO (P:=prog) wr 148 5 underlying148 underlying5 g 0 (C ql) cap (ql.map Int.ofNat) ad av 61 underlying61
     have ab:(strOfNums (ql.map Int.ofNat)).size<=140737488355328:=by
      rw[strOfNums_size,ad];omega
     clear ad Q;have H:=aD (fun V=>o6 (strOfNums (ql.map Int.ofNat)) V ab);rw[B9] at H;clear B9 u Bj Bm ax av;go_wp2_with (go_at_call 119;refine(H.o _).ae ?_;rintro e U ⟨rfl,s⟩;subst s)
     go_ret3
     exact⟨rfl,l⟩
theorem adn (a b:ByteArray) (w:E) (c:a.size<=500000) (d:b.size<=500000) (h:B2 b≠0):
  c6 120 #[zK a,zK b] w (dj w (zp #[zK (B (B2 a/B2 b)),zK (B (B2 a % B2 b)),zZ y6])):=by
 by_cases hs:(B (B2 a)).size<=7/\(B (B2 b)).size<=7
 ·exact amb a b w al al h hs.1 hs.2
 ·exact amc a b w c d h hs
theorem Xb (m n:Nat) (w:E) (a:(B m).size<=500000) (b:(B n).size<=500000) (h:n≠0):
  c6 120 #[zK (B m),zK (B n)] w (dj w (zp #[zK (B (m/n)),zK (B (m % n)),zZ y6])):=by
 have:=adn (B m) (B n) w a b (by rw[cQ];exact h);rwa [cQ,cQ] at this
theorem al8 (a b:ByteArray) (w:E) (g:a.size<=500000) (i:b.size<=500000):
  c6 145 #[zK a,zK b] w (dj w (zK (B (Nat.gcd (B2 a) (B2 b))))):=by
 have t:=aD (o6 a w al);have k:=aD (o6 b w al);have s:=aM (jV a) g;have q:=aM (jV b) i;generalize hA':B2 a=A at *;generalize F6:B2 b=D at *;clear hA' F6 g i;go_enter func145,ntmps145;go_wp2_with fail
 refine(t.o).ae ?_;rintro e j ⟨rfl,f⟩;subst f;go_wp2_with fail
 refine(k.o).ae ?_;rintro e j ⟨rfl,f⟩;subst f;clear t k;go_wp2;go_loopg [0,1] D (fun r vx vy wr=>∃m:Nat,vx=zK (B m)/\vy=zK (B r)/\(B m).size<=500000/\(B r).size<=500000/\wT (Nat.gcd m r=Nat.gcd A D)/\da j wr)
 case atStart=>exact⟨A,rfl,rfl,s,q,rfl,au _ _⟩
 case round=>
  obtain⟨m,rfl,rfl,p,d,H,c⟩:=hrel;by_cases h:gk=0
  ·subst h;rw[CB];(have Bm:wT (m=Nat.gcd A D):=by show _=_;rw[<- H.o,Nat.gcd_zero_right]);go_wp2;go_ret;exact⟨by rw[<- Bm.o];rfl,c⟩
  ·have y:=EJ h;have n:=aD (fun V=>Xb m gk V p d h);have l:=jc m (lO h);have z:=aM (ku (AU l)) d;(have x:wT (Nat.gcd gk (m % gk)=Nat.gcd A D):=by show _=_;rw[<- H.o,ML m gk,Nat.gcd_rec gk m,ML]);go_wp2_with fail
   refine(n.o _).ae ?_;rintro e v ⟨rfl,u⟩;go_wp2;go_roundg (m % gk)
   case measure=>exact l
   case rel=>exact⟨gk,rfl,rfl,d,z,x.o,c.trans (u.ae c.size)⟩
variable {neg:Bool} {den num:ByteArray}
def sg (neg:Bool) (n:Nat):Int:=if neg then -(n:Int) else(n:Int)
theorem RG (neg:Bool) (n:Nat):(sg neg n).natAbs=n:=by cases neg<;>simp[sg]
theorem acS (neg:Bool):sg neg 0=0:=by cases neg<;>rfl
theorem alg (neg:Bool) (n:Nat):sg (!neg) n= -sg neg n:=by cases neg<;>simp[sg]
theorem alh (a b:Bool) (m n:Nat):sg (a !=b) (m*n)=sg a m*sg b n:=by cases a<;>cases b<;>simp[sg,Int.neg_mul,Int.mul_neg]
theorem acV (a:Bool) (m n:Nat):sg a m*(n:Int)=sg a (m*n):=by cases a<;>simp[sg,Int.neg_mul]
theorem ali:sg neg n=0↔n=0:=by cases neg<;>simp[sg]
theorem alj (neg:Bool) (n g:Nat) (h:g∣n):sg neg n/(g:Int)=sg neg (n/g):=by
 cases neg
 ·simp[sg]
 ·simp only[sg,if_true];rw[Int.neg_ediv_of_dvd (Int.natCast_dvd_natCast.2 h)];simp
theorem Sx {n:Int} (h:d≠0):mkRat n d=Rat.normalize n d h:=by rw[mkRat,dif_neg h]
theorem aeU {n:Int} (h:d≠0):(mkRat n d).num=n/(Nat.gcd n.natAbs d:Int):=by rw[Sx h,Rat.normalize_eq]
theorem aoO {n:Int} (h:d≠0):(mkRat n d).den=d/Nat.gcd n.natAbs d:=by rw[Sx h,Rat.normalize_eq]
theorem aoN (neg:Bool) (a d:Nat) (h:a≠0) (b:d≠0):decide ((mkRat (sg neg a) d).num<0)=neg/\(mkRat (sg neg a) d).num.natAbs=a/Nat.gcd a d/\(mkRat (sg neg a) d).den=d/Nat.gcd a d:=by
 have g:Nat.gcd a d∣a:=Nat.gcd_dvd_left _ _;have i:0<Nat.gcd a d:=Nat.gcd_pos_of_pos_left _ (lO h);rw[aeU b,aoO b,RG,alj neg a _ g,RG];refine⟨?_,rfl,rfl⟩;have q:0<a/Nat.gcd a d:=Nat.div_pos (Nat.le_of_dvd (lO h) g) i;cases neg
 ·simp only[sg];simp;omega
 ·simp only[sg];simp;omega
def val (neg:Bool) (num den:ByteArray):Rat:=mkRat (sg neg (B2 num)) (B2 den)
theorem ab2 (h:B2 num=0):val neg num den=0:=by rw[val,h,acS,MD]
theorem M5 (h:B2 den=0):val neg num den=0:=by rw[val,h,Rat.mkRat_zero]
theorem M4:val neg num den=0↔B2 num=0∨B2 den=0:=by
 constructor
 ·intro h;by_cases d:B2 den=0
  ·exact yk d
  ·rw[val,Rat.mkRat_eq_zero d,ali] at h;exact yd h
 ·rintro(h |h)
  ·exact ab2 h
  ·exact M5 h
theorem ajO (neg:Bool) (num den:ByteArray):val (!neg) num den= -val neg num den:=by rw[val,val,alg,Rat.neg_mkRat]
theorem val_mul (a b:Bool) (x y u v:ByteArray):mkRat (sg (a !=b) (B2 x*B2 u)) (B2 y*B2 v)=val a x y*val b u v:=by rw[val,val,Rat.mkRat_mul_mkRat,alh]
theorem val_add (a b:Bool) (x y u v:ByteArray) (c:B2 y≠0) (h:B2 v≠0):mkRat (sg a (B2 x*B2 v)+sg b (B2 u*B2 y)) (B2 y*B2 v)=val a x y+val b u v:=by
 rw[val,val,Rat.mkRat_add_mkRat _ _ c h,acV,acV]
theorem We (neg:Bool) (x y:ByteArray) (a:B2 x≠0) (b:B2 y≠0):val neg y x=(val neg x y)⁻¹:=by
 have h:val neg x y*val neg y x=1:=by
  rw[<- val_mul];have:sg (neg !=neg) (B2 x*B2 y)=((B2 x*B2 y:Nat):Int)*1:=by cases neg<;>simp[sg]
  rw[this,eQ (B2 y) (B2 x), <- qM (B2 x*B2 y),mP (B2 x*B2 y) 1,Int.natCast_one,Int.mul_one,Rat.mkRat_mul_left (CJ a b)];rfl
 grind
def B1 (q:Rat):Value:=zd #[zZ (decide (q.num<0)),zK (B q.num.natAbs),zK (B q.den)]
theorem G9:B1 0=zd #[zZ xd,zK ⟨#[]⟩,zK (B 1)]:=by
 show Value.agg #[_,zK (B 0),zK (B 1)]=_;rw[CB];rfl
theorem ajP (q:Rat):val (decide (q.num<0)) (B q.num.natAbs) (B q.den)=q:=by
 rw[val,cQ,cQ]
 have:sg (decide (q.num<0)) q.num.natAbs=q.num:=by
  by_cases h:q.num<0
  ·simp[sg,h];omega
  ·simp[sg,h];omega
 rw[this,Rat.mkRat_self]
theorem Vz (neg:Bool) (a d:Nat) (e:a≠0) (f:d≠0):B1 (mkRat (sg neg a) d)=zd #[zZ neg,zK (B (a/Nat.gcd a d)),zK (B (d/Nat.gcd a d))]:=by
 obtain⟨h,b,c⟩:=aoN neg a d e f;rw[B1,h,b,c]
def qw (q:Rat):Nat:=(B q.num.natAbs).size+(B q.den).size
theorem Xc {n:Int} (b:d≠0):qw (Rat.normalize n d b)<=(B n.natAbs).size+(B d).size:=by
 rw[Rat.normalize_eq]
 have a:(n/(Nat.gcd n.natAbs d:Int)).natAbs<=n.natAbs:=by
  have g:((Nat.gcd n.natAbs d:Nat):Int)∣n:=by have h:=Int.natCast_dvd_natCast.2 (Nat.gcd_dvd_left n.natAbs d);rwa [Int.dvd_natAbs] at h
  rw[Int.natAbs_ediv_of_dvd g];exact AV _ _
 have s:=ku a;have c:=ku (AV d (Nat.gcd n.natAbs d));simp only[qw];omega
theorem Nr:qw 0<=1:=by
 show (B 0).size+(B 1).size<=1;rw[CB];have:=VB;have:(⟨#[]⟩:ByteArray).size=0:=rfl;omega
theorem E8 (neg:Bool) (num den:ByteArray):qw (val neg num den)<=num.size+den.size+1:=by
 by_cases d:B2 den=0
 ·rw[M5 d];have:=Nr;omega
 ·rw[val,Sx d];have:=Xc (n:=sg neg (B2 num)) d;rw[RG] at this;have:=jV num;have:=jV den;omega
theorem RO (p q:Rat):qw (p*q)<=qw p+qw q:=by
 rw[Rat.mul_def];refine aM (Xc _) ?_;rw[Int.natAbs_mul];have:=rH p.num.natAbs q.num.natAbs;have:=rH p.den q.den;simp only[qw];omega
def kJ (p q:Rat):Int:=if p<q then -1 else if p=q then 0 else 1
theorem aoM (neg:Bool) (n d:Nat) (a:d≠0) (b:n≠0):(neg=y6 ->mkRat (sg neg n) d<0)/\(neg=xd ->0<mkRat (sg neg n) d):=by
 have p:∀m:Nat,m≠0 ->0<mkRat (m:Int) d:=fun m g=>by
  have c:0<=mkRat (m:Int) d:=by
   rw[<- Rat.num_nonneg,aeU a];exact Int.ediv_nonneg al al
  have f:mkRat (m:Int) d≠0:=by rw[Ne,Rat.mkRat_eq_zero a];omega
  grind
 constructor
 ·rintro rfl;have h:=p n b;have e:mkRat (sg y6 n) d= -mkRat (n:Int) d:=by rw[Rat.neg_mkRat];rfl
  rw[e];grind
 ·rintro rfl;exact p n b
variable {fn:Func}
theorem zE (a:ByteArray) (w:E):
  c6 157 #[zK a] w fun e w'=>e=yW (zZ (decide (B2 a=0)))/\w'=w:=by
 have c:(kd (B2 a) (B2 ⟨#[]⟩)==0)=decide (B2 a=0):=by
  rw[aiK,kd];by_cases h:B2 a=0
  ·simp[h]
  ·simp[h]
 have H:=aD c;clear c;go_enter func157,ntmps157;go_wp2_with fail
 refine(abr a ⟨#[]⟩ _).ae ?_;rintro e d ⟨rfl,b⟩;subst b;go_wp2;go_ret;exact⟨by rw[<- H.o];rfl,rfl⟩
def aL (w:E) (g:Nat) (neg:Bool) (num den:ByteArray):Prop:=w.heap[g]? =M (yM #[zZ neg,zK num,zK den] 63 (0,0))
theorem aL.c0 (h:aL w g neg num den):w.cell? ⟨g,0,N⟩=M (zZ neg):=by rw[ba w g 0 _ _ (0,0) h];rfl
theorem aL.c1 (h:aL w g neg num den):w.cell? ⟨g,1,N⟩=M (zK num):=by rw[ba w g 1 _ _ (0,0) h];rfl
theorem aL.c2 (h:aL w g neg num den):w.cell? ⟨g,2,N⟩=M (zK den):=by rw[ba w g 2 _ _ (0,0) h];rfl
theorem aL.fz (h:aL w g neg num den) (j:Nat):w.frozen? ⟨g,j,N⟩=false:=gj w g j _ _ h
theorem aL.lt (h:aL w g neg num den):g<O (T w):=(cS.1 h).1
theorem aL.of_block (h:aL w g neg num den) (e:w'.heap[g]? =w.heap[g]?):aL w' g neg num den:=e.trans h
theorem aL.aa {B:Nat} (h:aL w g neg num den) (b:Below B w w') (a:g<B):aL w' g neg num den:=h.of_block (b.block g a)
theorem aL.new (w:E) (neg:Bool) (num den:ByteArray):aL (w.alloc (yM #[zZ neg,zK num,zK den] 63)) (O (T w)) neg num den:=by
 exact dU _ _
theorem aL.alloc (h:aL w g neg num den) (o:Obj):aL (w.alloc o) g neg num den:=h.of_block (uP w o g h.lt)
theorem aL.drew (h:aL w g neg num den):aL w.drew g neg num den:=h
theorem aL.facts (h:aL w g neg num den):w.cell? ⟨g,0,N⟩=M (zZ neg)/\w.cell? ⟨g,1,N⟩=M (zK num)/\w.cell? ⟨g,2,N⟩=M (zK den)/\w.frozen? ⟨g,0,N⟩=xd/\w.frozen? ⟨g,1,N⟩=xd/\w.frozen? ⟨g,2,N⟩=false:=
 ⟨h.c0,h.c1,h.c2,h.fz 0,h.fz 1,h.fz 2⟩
theorem aL.put (h:aL w g neg num den) (n:Bool) (x y:ByteArray):aL (((w.setCell ⟨g,0,N⟩ (zZ n)).setCell ⟨g,1,N⟩ (zK x)).setCell ⟨g,2,N⟩ (zK y)) g n x y:=by
 have a:=jW w g 0 _ _ (zZ n) h;have b:=jW _ g 1 _ _ (zK x) a;have c:=jW _ g 2 _ _ (zK y) b;exact c
theorem aL.far (h:aL w g neg num den) (a:g≠g') (u:wF):aL (w.setCell ⟨g',j,N⟩ u) g neg num den:=h.of_block (eW w _ u g a)
theorem eT {B:Nat} {a:E} (h:Below B a w) (b:B<=g) (u v x:wF):Below B a (((w.setCell ⟨g,0,N⟩ u).setCell ⟨g,1,N⟩ v).setCell ⟨g,2,N⟩ x):=
 ((h.setCell b u).setCell b v).setCell b x
theorem aL.result (h:aL w g neg num den) {p:Tmp} (r:fn.results= #[.cell p 63]) (m:Array wF) (a:m.getD p wQ=zR (M ⟨g,0,N⟩)):
  (results fn m).run prog w=.ok (zd #[zZ neg,zK num,zK den]) w:=
 Hc r m w g _ _ _ _ a h underlying63 rfl ao
theorem XI (w:E):
  c6 159 #[] w (dj w (B1 0)):=by
 go_enter func159,ntmps159;have b:=aL.new w xd ⟨#[]⟩ ⟨#[]⟩;have h:da w (w.alloc (yM #[zZ xd,zK ⟨#[]⟩,zK ⟨#[]⟩] 63)):=(au _ w).alloc (ah _) _;go_wp2_with fail
 refine(aiJ 1 _ al al).ae ?_;rintro e c ⟨rfl,a⟩;have d:da w c:=h.trans (a.ae h.size);have x:=b.aa a b.lt;obtain⟨k,g,i,f0,f1,f⟩:=x.facts;clear b h;go_wp2;refine dI ((x.put _ _ _).result rfl _ rfl) rfl ?_;exact⟨by rw[G9],eT d (ah _) _ _ _⟩
abbrev FC (n:Bool) (x y:ByteArray):Obj:=yM #[zZ n,zK x,zK y] 63
theorem aL.at (h:O (T w)=g) (n:Bool) (x y:ByteArray):aL (w.alloc (FC n x y)) g n x y:=by
 subst h;exact aL.new w n x y
theorem anu (n:Bool) (x y:ByteArray) (w:E):
  c6 156 #[zd #[zZ n,zK x,zK y]] w (dj w (zd #[zZ (!n),zK x,zK y])):=by
 go_enter func156,ntmps156;go_wp2;refine dI ((aL.at (w:=w.alloc (FC n x y)) (g:=O (T w)+1) aE (!n) x y).result rfl _ rfl) rfl ?_;exact⟨rfl,((au _ w).alloc (ah _) _).alloc aE _⟩
theorem asi (n:Bool) (x y:ByteArray) (w:E) (h:B2 y=0):
  c6 209 #[zd #[zZ n,zK x,zK y]] w (dj w (B1 0)):=by
 have a:=fun V=>zE y V;simp only[h,decide_true] at a;have H:=aD a;clear a;go_enter func209,ntmps209;have b:=aL.at (w:=w.alloc (FC n x y)) (g:=O (T w)+1) aE xd ⟨#[]⟩ ⟨#[]⟩;have c:da w ((w.alloc (FC n x y)).alloc (FC xd ⟨#[]⟩ ⟨#[]⟩)):=((au _ w).alloc (ah _) _).alloc aE _;go_wp2_with fail
 refine(H.o _).ae ?_;rintro e d ⟨rfl,j⟩;subst j;go_wp2_with fail
 refine(XI _).ae ?_;rintro e d ⟨rfl,f⟩;have i:=b.aa f b.lt;have k:da w d:=c.trans (f.ae c.size);obtain⟨m,p,q,f0,f1,l⟩:=i.facts;clear b c;rw[G9];go_wp2;refine dI ((i.put _ _ _).result rfl _ rfl) rfl ?_;exact⟨by rw[G9],eT k al _ _ _⟩
theorem ash (n:Bool) (x y:ByteArray) (w:E) (h:B2 y≠0):
  c6 209 #[zd #[zZ n,zK x,zK y]] w (dj w (zd #[zZ n,zK x,zK y])):=by
 have a:=fun V=>zE y V;simp only[h,decide_false] at a;have H:=aD a;clear a;go_enter func209,ntmps209;go_wp2_with fail
 refine(H.o _).ae ?_;rintro e c ⟨rfl,b⟩;subst b;go_wp2;refine dI ((aL.at (w:=w.alloc (FC n x y)) (g:=O (T w)+1) aE n x y).result rfl _ rfl) rfl ?_;exact⟨rfl,((au _ w).alloc (ah _) _).alloc aE _⟩
theorem aul (n:Bool) (x y:ByteArray) (w:E) (h:B2 x=0∨B2 y=0):
  c6 138 #[zZ n,zK x,zK y] w (dj w (B1 0)):=by
 have X:=fun V=>zE x V;have Y:=fun V=>zE y V;have H:=aD X;have j:=aD Y;clear X Y;go_enter func138,ntmps138;have c:=aL.at (w:=w) rfl xd ⟨#[]⟩ ⟨#[]⟩;have f:da w (w.alloc (FC xd ⟨#[]⟩ ⟨#[]⟩)):=(au _ w).alloc (ah _) _;by_cases d:B2 x=0
 focus
  go_wp2_with fail
  refine(H.o _).ae ?_;rintro e b ⟨rfl,a⟩;subst a;rw[cJ d]
 rotate_left
 focus
  have k:B2 y=0:=h.resolve_left d;go_wp2_with fail
  refine(H.o _).ae ?_;rintro e b ⟨rfl,a⟩;subst a;rw[cX d];go_wp2_with fail
  refine(j.o _).ae ?_;rintro e b ⟨rfl,a⟩;subst a;rw[cJ k]
 all_goals
  go_wp2_with fail
  refine(XI _).ae ?_;rintro e b ⟨rfl,g⟩;have i:=c.aa g c.lt;have l:da w b:=f.trans (g.ae f.size);obtain⟨p,q,r,f0,f1,m⟩:=i.facts;clear c f;rw[G9];go_wp2;refine dI ((i.put _ _ _).result rfl _ rfl) rfl ?_;exact⟨by rw[G9],eT l al _ _ _⟩
theorem aum (n:Bool) (x y:ByteArray) (w:E) (h0:B2 x≠0) (h1:B2 y≠0) (g:x.size<=1099511627776) (i:y.size<=1099511627776):
  c6 138 #[zZ n,zK x,zK y] w (dj w (B1 (val n x y))):=by
 have X:=fun V=>zE x V;have Y:=fun V=>zE y V;have H:=aD X;have l:=aD Y;have P:Nat.gcd (B2 x) (B2 y)≠0:=fun h=>h0 (Nat.gcd_eq_zero_iff.1 h).1;have Q:=aM (ku (Nat.gcd_le_left (B2 y) (lO h0))) (jV x);clear X Y;go_enter func138,ntmps138;have c:=aL.at (w:=w) rfl xd ⟨#[]⟩ ⟨#[]⟩;have f:da w (w.alloc (FC xd ⟨#[]⟩ ⟨#[]⟩)):=(au _ w).alloc (ah _) _;go_wp2_with fail
 refine(H.o _).ae ?_;rintro e b ⟨rfl,d⟩;subst d;rw[cX h0];go_wp2_with fail
 refine(l.o _).ae ?_;rintro e b ⟨rfl,d⟩;subst d;rw[cX h1];have a:=au (O (T (w.alloc (FC xd ⟨#[]⟩ ⟨#[]⟩)))) (w.alloc (FC xd ⟨#[]⟩ ⟨#[]⟩));go_wp2_with fail
 refine(auZ (Nat.gcd (B2 x) (B2 y)) a rfl g i).ae ?_;rintro e b ⟨rfl,a⟩;go_wp2_with fail
 refine(ajh (B2 x/Nat.gcd (B2 x) (B2 y)) 0 a (by rw[cQ]) (by rw[cQ];exact Nat.mod_eq_zero_of_dvd (Nat.gcd_dvd_left _ _)) (by rw[cQ];exact P) g al).ae ?_;rintro e b ⟨rfl,a⟩;go_wp2_with fail
 refine(ajh (B2 y/Nat.gcd (B2 x) (B2 y)) 0 a (by rw[cQ]) (by rw[cQ];exact Nat.mod_eq_zero_of_dvd (Nat.gcd_dvd_right _ _)) (by rw[cQ];exact P) i al).ae ?_;rintro e b ⟨rfl,j⟩;have k:=c.aa j c.lt;have m:da w b:=f.trans (j.ae f.size);obtain⟨q,r,s,f0,f1,p⟩:=k.facts;clear c f;go_wp2;refine dI ((k.put _ _ _).result rfl _ rfl) rfl ?_;exact⟨by rw[val,Vz n _ _ h0 h1],eT m al _ _ _⟩
theorem UC (n:Bool) (x y:ByteArray) (w:E) (a:x.size<=1099511627776) (b:y.size<=1099511627776):
  c6 138 #[zZ n,zK x,zK y] w (dj w (B1 (val n x y))):=by
 by_cases h:B2 x=0∨B2 y=0
 ·have:=aul n x y w h;rwa [<- M4.2 h] at this
 ·exact aum n x y w (fun e=>h (yd e)) (fun e=>h (yk e)) a b
theorem ahL (n:Bool) (x y:ByteArray) (c:x.size<=1099511627776) (d:y.size<=1099511627776):∃(b:Bool) (x' a:ByteArray),B2 a≠0/\val b x' a=val n x y/\x'.size<=1099511627776/\a.size<=1099511627776/\x'.size+a.size<=x.size+y.size+1/\∀V:E,
  c6 209 #[zd #[zZ n,zK x,zK y]] V (dj V (zd #[zZ b,zK x',zK a])):=by
 have e:=VB;by_cases h:B2 y=0
 ·refine⟨xd,⟨#[]⟩,B 1,by rw[cQ];decide,?_,?_,?_,?_,fun V=>?_⟩
  ·rw[ab2 aiK,M5 h]
  ·show 0<=_;omega
  ·omega
  ·show 0+_<=_;omega
  ·have:=asi n x y V h;rwa [G9] at this
 ·exact⟨n,x,y,h,rfl,c,d,al,fun V=>ash n x y V h⟩
theorem acW (a:Bool) (m n:Nat):sg a (m+n)=sg a m+sg a n:=by cases a<;>simp[sg,Int.neg_add]
theorem acU {a b:Bool} (h:¬a=b) (e:m=n+k):sg a k=sg a m+sg b n:=by
 cases a<;>cases b<;>simp[sg] at h⊢<;>omega
theorem acT {a b:Bool} (h:¬a=b) (e:n=m+k):sg b k=sg a m+sg b n:=by
 cases a<;>cases b<;>simp[sg] at h⊢<;>omega
theorem aep {n:Bool} {x y:ByteArray} (h1:aL w' g n x y) (h:da w w'):w'.cell? ⟨g,0,N⟩=M (zZ n)/\wT (aL w' g n x y/\da w w'):=
 ⟨h1.c0,h1,h⟩
theorem Wl {h:Nat} {n m:Bool} {x y u v:ByteArray} (h1:aL w' g n x y) (a:aL w' h m u v) (b:da w w'):(w'.cell? ⟨g,1,N⟩=M (zK x)/\w'.cell? ⟨g,2,N⟩=M (zK y)/\w'.cell? ⟨h,1,N⟩=M (zK u)/\w'.cell? ⟨h,2,N⟩=M (zK v))/\wT (aL w' g n x y/\aL w' h m u v/\da w w'):=
 ⟨⟨h1.c1,h1.c2,a.c1,a.c2⟩,h1,a,b⟩
theorem aca (Bb nb:Bool) (H Bh Bj yb:ByteArray) (w:E) (Dj:H.size<=137438953472) (Di:Bh.size<=137438953472) (ay:Bj.size<=137438953472) (az:yb.size<=137438953472):
  c6 155 #[zd #[zZ Bb,zK H,zK Bh],zd #[zZ nb,zK Bj,zK yb]] w fun e w'=>
   ∃(n:Bool) (x d:Nat),e=yW (zp #[zZ n,zK (B x),zK (B d)])/\d≠0/\mkRat (sg n x) d=val Bb H Bh+val nb Bj yb/\(B x).size<=1099511627776/\(B d).size<=1099511627776/\da w w':=by
 obtain⟨c,a,j,z,ye,bb,ao,a1,HA⟩:=ahL Bb H Bh al al;obtain⟨p,Y,i,y,B7,bc,aq,a6,HB⟩:=ahL nb Bj yb al al;have tT:=aD HA;have aY:=aD HB;clear HA HB;go_enter func155,ntmps155;have V:=((aL.at (w:=w) rfl Bb H Bh).alloc (FC nb Bj yb)).drew;have b:=(aL.at (w:=w.alloc (FC Bb H Bh)) (g:=O (T w)+1) aE nb Bj yb).drew;have ak:da w ((w.alloc (FC Bb H Bh)).alloc (FC nb Bj yb)).drew:=(((au _ w).alloc (ah _) _).alloc aE _).drew;go_upto_region 1 with fail
 go_cut [] from 11 to 14 (fun wx=>aL wx (O (T w)) c a j/\aL wx (O (T w)+1) p Y i/\da w wx)
 case first=>
  go_region_with (first
   |(have X:=S;go_at_call 209;refine(aY.o _).ae ?_;rintro e w2 ⟨rfl,L⟩;have U:=aL.aa X L X.lt;have Ba:=aL.aa A L A.lt;have ab:=P.trans (L.ae P.size);obtain⟨D,Bm,F,f0,f1,k⟩:=U.facts;obtain⟨t,u,v,q,r,s⟩:=Ba.facts)
   |(go_at_call 209;refine(tT.o _).ae ?_;rintro e w1 ⟨rfl,K⟩;have S:=aL.aa V K V.lt;have A:=aL.aa b K b.lt;have P:=ak.trans (K.ae ak.size);obtain⟨D,Bm,F,f0,f1,k⟩:=S.facts;obtain⟨t,u,v,q,r,s⟩:=A.facts))
  all_goals go_wp2_with fail
  all_goals go_meet
  all_goals exact⟨((((U.put _ _ _).far al _).far al _).far al _),(((Ba.far al _).far al _).far al _).put _ _ _,eT (eT ab (ah _) _ _ _) al _ _ _⟩
 case rest=>
  obtain⟨V,b,l⟩:=hcut;obtain⟨D,Bm,F,f0,f1,k⟩:=V.facts;obtain⟨t,u,v,q,r,s⟩:=b.facts;clear tT aY;have aI:=rH (B2 a) (B2 i);have aJ:=rH (B2 Y) (B2 j);have aR:=rH (B2 j) (B2 i);have b1:=jV a;have b2:=jV j;have b3:=jV Y;have b4:=jV i;go_upto_region 2 with fail
  go_cut [7,8] from 15 to 24 (fun s7 s8 wx=>s7=zK (B (B2 a*B2 i))/\s8=zK (B (B2 Y*B2 j))/\aL wx (O (T w)) c a j/\aL wx (O (T w)+1) p Y i/\da w wx)
  case first=>
   clear ye B7 z y a1 a6 b1 b2 b3 b4 aI aJ aR D Bm F f0 f1 k t u v q r s Dj Di ay az
   go_region_held3 (fun w'=>(w'.cell? ⟨O (T w),1,N⟩=M (zK a)/\w'.cell? ⟨O (T w),2,N⟩=M (zK j)/\w'.cell? ⟨O (T w)+1,1,N⟩=M (zK Y)/\w'.cell? ⟨O (T w)+1,2,N⟩=M (zK i))/\wT (aL w' (O (T w)) c a j/\aL w' (O (T w)+1) p Y i/\da w w'))
    (first |exact Wl U Ba ab |exact Wl S A P |exact Wl V.drew b.drew l.drew)
    (first
     |(have X:=S;go_at_call 158;refine(PU Y j _ bc ao).ae ?_;rintro e w2 ⟨rfl,L⟩;have U:=X.aa L X.lt;have Ba:=A.aa L A.lt;have ab:=P.trans (L.ae P.size))
     |(go_at_call 158;refine(PU a i _ bb aq).ae ?_;rintro e w1 ⟨rfl,K⟩;have S:=V.drew.aa K V.lt;have A:=b.drew.aa K b.lt;have P:=l.drew.trans (K.ae l.size)))
   go_wp2_with fail
   go_meet
   exact⟨rfl,rfl,U,Ba,ab⟩
  case rest=>
   obtain⟨rfl,rfl,V,b,l⟩:=hcut;obtain⟨D,Bm,F,f0,f1,k⟩:=V.facts;obtain⟨t,u,v,q,r,s⟩:=b.facts;go_wp2_with fail
   refine(PU j i _ ao aq).ae ?_;rintro e w3 ⟨rfl,ad⟩;have B9:=V.aa ad V.lt;have vu:=b.aa ad b.lt;have f:=l.trans (ad.ae l.size);clear V b l D Bm F f0 f1 k t u v q r s ad;obtain⟨D,Bm,F,f0,f1,k⟩:=B9.facts;obtain⟨t,u,v,q,r,s⟩:=vu.facts;(have sl:(B (B2 a*B2 i)).size<=1099511627776:=al);(have sr:(B (B2 Y*B2 j)).size<=1099511627776:=al);(have sd:(B (B2 j*B2 i)).size<=1099511627776:=al);have sa:=acj (B2 a*B2 i) (B2 Y*B2 j);have sm:=ku (Nat.sub_le (B2 a*B2 i) (B2 Y*B2 j));have sn:=ku (Nat.sub_le (B2 Y*B2 j) (B2 a*B2 i));by_cases Q:c=p
   ·subst Q;go_upto_region 5 with fail
    go_region_held3 (fun w'=>w'.cell? ⟨O (T w),0,N⟩=M (zZ c)/\wT (aL w' (O (T w)) c a j/\da w w'))
     (first |exact aep Zm R |exact aep B9.drew f.drew)
     (first
      |(go_at_call 141;refine(au5 _ _ _ sl sr).ae ?_;rintro e w4 ⟨rfl,h⟩;have Zm:=B9.drew.aa h B9.lt;have R:=f.drew.trans (h.ae f.size)))
    go_wp2;go_ret3
    refine⟨c,B2 a*B2 i+B2 Y*B2 j,B2 j*B2 i,by rw[cQ,cQ];rfl,CJ z y,?_,al,al,R⟩;rw[<- ye, <- B7,acW,val_add _ _ _ _ _ _ z y]
   ·have aj:=au (O (T w3)) w3;(have fX:(c==p)=false:=by simp[Q]);have iU:decide (c=p)=false:=cX Q;by_cases bd:B2 Y*B2 j<=B2 a*B2 i
    ·go_wp2_with fail
     refine(aiF (B2 a*B2 i - B2 Y*B2 j) aj (by rw[cQ,cQ];omega) sl sr).ae ?_;rintro e w4 ⟨rfl,h⟩;have Zm:=B9.aa h B9.lt;have R:=f.trans (h.ae f.size);obtain⟨D,Bm,F,f0,f1,k⟩:=Zm.facts;go_wp2;go_ret3
     refine⟨c,B2 a*B2 i - B2 Y*B2 j,B2 j*B2 i,rfl,CJ z y,?_,al,al,R⟩;rw[<- ye, <- B7,acU Q (m:=B2 a*B2 i) (n:=B2 Y*B2 j) al,val_add _ _ _ _ _ _ z y]
    ·go_wp2_with fail
     refine(auf aj (by rw[cQ,cQ];omega)).ae ?_;rintro e w4 ⟨rfl,h⟩;have ai:=vu.aa h vu.lt;have R:=f.trans (h.ae f.size);have ax:=au (O (T w4)) w4;go_wp2_with fail
     refine(aiF (B2 Y*B2 j - B2 a*B2 i) ax (by rw[cQ,cQ];omega) sr sl).ae ?_;rintro e w5 ⟨rfl,an⟩;have av:=ai.aa an ai.lt;have I6:=R.trans (an.ae R.size);obtain⟨t,u,v,q,r,s⟩:=av.facts;go_wp2;go_ret3
     refine⟨p,B2 Y*B2 j - B2 a*B2 i,B2 j*B2 i,rfl,CJ z y,?_,al,al,I6⟩;rw[<- ye, <- B7,acT Q (m:=B2 a*B2 i) (n:=B2 Y*B2 j) al,val_add _ _ _ _ _ _ z y]
def aW (q:Rat):Bool:=decide (q.num<0)
def nu (q:Rat):ByteArray:=B q.num.natAbs
def de (q:Rat):ByteArray:=B q.den
theorem p7 (q:Rat):B1 q=zd #[zZ (aW q),zK (nu q),zK (de q)]:=rfl
theorem kr (q:Rat):val (aW q) (nu q) (de q)=q:=ajP q
theorem wG (q:Rat):(nu q).size+(de q).size=qw q:=rfl
theorem au3 (n:Bool) (x y:ByteArray) (w:E) (d:x.size<=1099511627776) (f:y.size<=1099511627776):
  c6 86 #[zd #[zZ n,zK x,zK y]] w (dj w (B1 (val n x y))):=by
 go_enter func86,ntmps86;have b:=aL.at (w:=w.alloc (FC n x y)) (g:=O (T w)+1) aE xd ⟨#[]⟩ ⟨#[]⟩;have h:da w ((w.alloc (FC n x y)).alloc (FC xd ⟨#[]⟩ ⟨#[]⟩)):=((au _ w).alloc (ah _) _).alloc aE _;go_wp2_with fail
 refine(UC n x y _ d f).ae ?_;rintro e i ⟨rfl,a⟩;have c:=b.aa a b.lt;have j:da w i:=h.trans (a.ae h.size);obtain⟨l,m,o,f0,f1,k⟩:=c.facts;clear b h;rw[p7];go_wp2;refine dI ((c.put _ _ _).result rfl _ rfl) rfl ?_;exact⟨rfl,eT j al _ _ _⟩
theorem ahy (c nb:Bool) (a y b yb:ByteArray) (w:E) (o:a.size<=137438953472) (D:y.size<=137438953472) (z:b.size<=137438953472) (A:yb.size<=137438953472):
  c6 160 #[zd #[zZ c,zK a,zK y],zd #[zZ nb,zK b,zK yb]] w (dj w (B1 (val c a y+val nb b yb))):=by
 go_enter func160,ntmps160;have f:=aL.at (w:=(w.alloc (FC c a y)).alloc (FC nb b yb)) (g:=O (T w)+2) aE xd ⟨#[]⟩ ⟨#[]⟩;have h:da w (((w.alloc (FC c a y)).alloc (FC nb b yb)).alloc (FC xd ⟨#[]⟩ ⟨#[]⟩)):=(((au _ w).alloc (ah _) _).alloc aE _).alloc (by simp;omega) _;go_wp2_with fail
 refine(aca c nb a y b yb _ o D z A).ae ?_;rintro e r ⟨n,x,d,rfl,F,v,p,s,k⟩;have j:=f.aa k f.lt;have i:da w r:=h.trans (k.ae h.size);clear f h;go_wp2_with fail
 refine(UC n (B x) (B d) _ p s).ae ?_;rintro e t ⟨rfl,l⟩;have m:=j.aa l j.lt;have u:da w t:=i.trans (l.ae i.size);have q:val n (B x) (B d)=val c a y+val nb b yb:=by rw[<- v,val,cQ,cQ]
 rw[q];clear j i q v;obtain⟨H,Bj,Bh,f0,f1,Bm⟩:=m.facts;rw[p7];go_wp2;refine dI ((m.put _ _ _).result rfl _ rfl) rfl ?_;exact⟨rfl,eT u al _ _ _⟩
theorem aL.far3 (h:aL w g neg num den) (a:g≠g') (u v x:wF):aL (((w.setCell ⟨g',0,N⟩ u).setCell ⟨g',1,N⟩ v).setCell ⟨g',2,N⟩ x) g neg num den:=
 ((h.far a u).far a v).far a x
theorem E6 {h:Nat} {n m:Bool} {x y u v:ByteArray} (h1:aL w' g n x y) (a:aL w' h m u v) (b:da w w'):(w'.cell? ⟨g,0,N⟩=M (zZ n)/\w'.cell? ⟨g,1,N⟩=M (zK x)/\w'.cell? ⟨g,2,N⟩=M (zK y)/\w'.cell? ⟨h,0,N⟩=M (zZ m)/\w'.cell? ⟨h,1,N⟩=M (zK u)/\w'.cell? ⟨h,2,N⟩=M (zK v))/\wT (aL w' g n x y/\aL w' h m u v/\da w w'):=
 ⟨⟨h1.c0,h1.c1,h1.c2,a.c0,a.c1,a.c2⟩,h1,a,b⟩
theorem ahv (n nb:Bool) (a y b yb:ByteArray) (w:E) (A:a.size<=137438953472) (D:y.size<=137438953472) (K:b.size<=137438953472) (Q:yb.size<=137438953472):
  c6 104 #[zd #[zZ n,zK a,zK y],zd #[zZ nb,zK b,zK yb]] w (dj w (B1 (val n a y*val nb b yb))):=by
 have Bj:(B (B2 a*B2 b)).size<=1099511627776:=by have:=rH (B2 a) (B2 b);have:=jV a;have:=jV b;omega
 have Bh:(B (B2 y*B2 yb)).size<=1099511627776:=by have:=rH (B2 y) (B2 yb);have:=jV y;have:=jV yb;omega
 have q:val (n !=nb) (B (B2 a*B2 b)) (B (B2 y*B2 yb))=val n a y*val nb b yb:=by rw[<- val_mul,val,cQ,cQ]
 have H:=aD q;clear q;have P:a.size<=1099511627776:=al
 have Bb:y.size<=1099511627776:=al
 have B9:b.size<=1099511627776:=al
 have L:yb.size<=1099511627776:=al
 clear A D K Q;go_enter func104,ntmps104;have V:=(((aL.at (w:=w) rfl n a y).alloc (FC nb b yb)).alloc (FC xd ⟨#[]⟩ ⟨#[]⟩)).drew;have i:=((aL.at (w:=w.alloc (FC n a y)) (g:=O (T w)+1) aE nb b yb).alloc (FC xd ⟨#[]⟩ ⟨#[]⟩)).drew;have x:=(aL.at (w:=(w.alloc (FC n a y)).alloc (FC nb b yb)) (g:=O (T w)+2) aE xd ⟨#[]⟩ ⟨#[]⟩).drew;have f:da w (((w.alloc (FC n a y)).alloc (FC nb b yb)).alloc (FC xd ⟨#[]⟩ ⟨#[]⟩)).drew:=((((au _ w).alloc (ah _) _).alloc aE _).alloc (by simp;omega) _).drew;go_upto_region 1 with fail
 go_region_held3 (fun w'=>(w'.cell? ⟨O (T w),0,N⟩=M (zZ n)/\w'.cell? ⟨O (T w),1,N⟩=M (zK a)/\w'.cell? ⟨O (T w),2,N⟩=M (zK y)/\w'.cell? ⟨O (T w)+1,0,N⟩=M (zZ nb)/\w'.cell? ⟨O (T w)+1,1,N⟩=M (zK b)/\w'.cell? ⟨O (T w)+1,2,N⟩=M (zK yb))/\wT (aL w' (O (T w)) n a y/\aL w' (O (T w)+1) nb b yb/\da w w'))
  (first
   |exact E6 (s.far3 al _ _ _) (v.far3 al _ _ _) (eT m al _ _ _)
   |exact E6 s v m |exact E6 r u l |exact E6 p j k |exact E6 V i f)
  (first
   |(have t:=r;go_at_call 138;refine(UC _ _ _ _ Bj Bh).ae ?_;rintro e w3 ⟨rfl,d⟩;have s:=t.aa d t.lt;have v:=u.aa d u.lt;have Y:=F.aa d F.lt;have m:=l.trans (d.ae l.size);obtain⟨S,Ba,U,f0,f1,R⟩:=Y.facts;rw[p7])
   |(have z:=p;go_at_call 158;refine(PU y yb _ Bb L).ae ?_;rintro e B7 ⟨rfl,c⟩;have r:=z.aa c z.lt;have u:=j.aa c j.lt;have F:=Bm.aa c Bm.lt;have l:=k.trans (c.ae k.size))
   |(go_at_call 158;refine(PU a b _ P B9).ae ?_;rintro e X ⟨rfl,h⟩;have p:=V.aa h V.lt;have j:=i.aa h i.lt;have Bm:=x.aa h x.lt;have k:=f.trans (h.ae f.size)))
 go_wp2;refine dI ((Y.put _ _ _).result rfl _ rfl) rfl ?_;exact⟨by rw[<- H.o];rfl,eT m al _ _ _⟩
variable {p:Rat}
theorem aL.result2 (h:aL w g neg num den) {p u:Tmp} (r:fn.results= #[.cell p 63,.tmp u]) (m:Array wF) (a:m.getD p wQ=zR (M ⟨g,0,N⟩)):
  (results fn m).run prog w=.ok (zp #[zd #[zZ neg,zK num,zK den],m.getD u wQ]) w:=by
 rw[results_cell_tmp r,a];simp only[asAddr,zi,vZ];rw[run_loadVar_row w g _ 63 _ _ _ h underlying63 rfl ao];simp only[vZ]
theorem asR {q:Rat} {n:Bool} {x:Nat} (e:d≠0) (h:mkRat (sg n x) d=p - q):kJ p q=if x=0 then 0 else if n=y6 then -1 else 1:=by
 by_cases a:x=0
 ·rw[aw a];rw[a,acS,MD] at h;have:p=q:=by grind
  subst this;rw[kJ,aC (by grind),aw rfl]
 ·rw[aC a];obtain⟨b,c⟩:=aoM n x d e a;cases n
  ·have:=c rfl;rw[h] at this;rw[aC a6,kJ,aC (by grind),aC (by grind)]
  ·have:=b rfl;rw[h] at this;rw[aw rfl,kJ,aw (by grind)]
theorem arX (c nb:Bool) (a y b yb:ByteArray) (w:E) (t:a.size<=137438953472) (D:y.size<=137438953472) (Bh:b.size<=137438953472) (K:yb.size<=137438953472):
  c6 102 #[zd #[zZ c,zK a,zK y],zd #[zZ nb,zK b,zK yb]] w (dj w (J I (kJ (val c a y) (val nb b yb)))):=by
 have r:val c a y+val (!nb) b yb=val c a y - val nb b yb:=by rw[ajO,Rat.sub_eq_add_neg]
 have Q:=aD r;clear r;go_enter func102,ntmps102;have j:=((aL.at (w:=w) rfl c a y).alloc (FC nb b yb)).drew;have i:=(aL.at (w:=w.alloc (FC c a y)) (g:=O (T w)+1) aE nb b yb).drew;have k:da w ((w.alloc (FC c a y)).alloc (FC nb b yb)).drew:=(((au _ w).alloc (ah _) _).alloc aE _).drew;go_upto_region 1 with fail
 go_region_held3 (fun w'=>(w'.cell? ⟨O (T w),0,N⟩=M (zZ c)/\w'.cell? ⟨O (T w),1,N⟩=M (zK a)/\w'.cell? ⟨O (T w),2,N⟩=M (zK y)/\w'.cell? ⟨O (T w)+1,0,N⟩=M (zZ nb)/\w'.cell? ⟨O (T w)+1,1,N⟩=M (zK b)/\w'.cell? ⟨O (T w)+1,2,N⟩=M (zK yb))/\wT (aL w' (O (T w)) c a y/\aL w' (O (T w)+1) nb b yb/\da w w'))
  (first
   |exact E6 Bj F f |exact E6 s A l |exact E6 j i k)
  (first
   |(have z:=s;go_at_call 155;refine(aca c (!nb) a y b yb _ t D Bh K).ae ?_;rintro e P ⟨n,x,d,rfl,u,v,Bb,L,p⟩;have Bj:=z.aa p z.lt;have F:=A.aa p A.lt;have f:=l.trans (p.ae l.size);have B7:=aD (asR u (v.trans Q.o));clear v)
   |(go_at_call 156;refine(anu nb b yb _).ae ?_;rintro e B9 ⟨rfl,m⟩;have s:=j.aa m j.lt;have A:=i.aa m i.lt;have l:=k.trans (m.ae k.size)))
 have q:∀V:E,c6 157 #[zK (B x)] V fun e w'=>e=yW (zZ (decide (x=0)))/\w'=V:=fun V=>by
  have:=zE (B x) V;rwa [cQ] at this
 have H:=aD q;clear q;go_wp2_with fail
 refine(H.o _).ae ?_;rintro e R ⟨rfl,Bm⟩;subst Bm;by_cases h:x=0
 ·rw[cJ h];go_wp2;go_ret;exact⟨by rw[B7.o,aw h];rfl,f⟩
 ·rw[cX h];cases n
  ·go_wp2;go_ret;exact⟨by rw[B7.o,aC h];rfl,f⟩
  ·go_wp2;go_ret;exact⟨by rw[B7.o,aC h];rfl,f⟩
theorem arW (n nb:Bool) (x y b yb:ByteArray) (w:E) (h:B2 b=0∨B2 yb=0):
  c6 103 #[zd #[zZ n,zK x,zK y],zd #[zZ nb,zK b,zK yb]] w (dj w (zp #[zd #[zZ xd,zK ⟨#[]⟩,zK ⟨#[]⟩],J I 3])):=by
 have X:=fun V=>zE b V;have Y:=fun V=>zE yb V;have H:=aD X;have i:=aD Y;clear X Y;go_enter func103,ntmps103;have r:=aL.at (w:=(w.alloc (FC n x y)).alloc (FC nb b yb)) (g:=O (T w)+2) aE xd ⟨#[]⟩ ⟨#[]⟩;have f:da w (((w.alloc (FC n x y)).alloc (FC nb b yb)).alloc (FC xd ⟨#[]⟩ ⟨#[]⟩)):=(((au _ w).alloc (ah _) _).alloc aE _).alloc (by simp;omega) _;by_cases c:B2 b=0
 ·go_wp2_with fail
  refine(H.o _).ae ?_;rintro e d ⟨rfl,a⟩;subst a;rw[cJ c];go_wp2;refine dI (r.result2 rfl _ rfl) rfl ?_;exact⟨rfl,f⟩
 ·have j:B2 yb=0:=h.resolve_left c;go_wp2_with fail
  refine(H.o _).ae ?_;rintro e d ⟨rfl,a⟩;subst a;rw[cX c];go_wp2_with fail
  refine(i.o _).ae ?_;rintro e d ⟨rfl,a⟩;subst a;rw[cJ j];go_wp2;refine dI (r.result2 rfl _ rfl) rfl ?_;exact⟨rfl,f⟩
theorem arV (n nb:Bool) (a y b yb:ByteArray) (w:E) (h0:B2 b≠0) (h1:B2 yb≠0) (j:a.size<=137438953472) (i:y.size<=137438953472) (m:b.size<=137438953472) (p:yb.size<=137438953472):
  c6 103 #[zd #[zZ n,zK a,zK y],zd #[zZ nb,zK b,zK yb]] w (dj w (zp #[B1 (val n a y/val nb b yb),J I 0])):=by
 have X:=fun V=>zE b V;have Y:=fun V=>zE yb V;have H:=aD X;have k:=aD Y;clear X Y;have q:val n a y*val nb yb b=val n a y/val nb b yb:=by rw[We nb b yb h0 h1,jH]
 go_enter func103,ntmps103;have r:=aL.at (w:=(w.alloc (FC n a y)).alloc (FC nb b yb)) (g:=O (T w)+2) aE xd ⟨#[]⟩ ⟨#[]⟩;have d:da w (((w.alloc (FC n a y)).alloc (FC nb b yb)).alloc (FC xd ⟨#[]⟩ ⟨#[]⟩)):=(((au _ w).alloc (ah _) _).alloc aE _).alloc (by simp;omega) _;go_wp2_with fail
 refine(H.o _).ae ?_;rintro e c ⟨rfl,h⟩;subst h;rw[cX h0];go_wp2_with fail
 refine(k.o _).ae ?_;rintro e c ⟨rfl,h⟩;subst h;rw[cX h1];go_wp2_with fail
 refine(ahv n nb a y yb b _ j i p m).ae ?_;rintro e c ⟨rfl,f⟩;rw[q];have x:=r.aa f r.lt;have l:da w c:=d.trans (f.ae d.size);obtain⟨t,u,v,f0,f1,s⟩:=x.facts;clear r d;rw[p7];go_wp2;refine dI ((x.put _ _ _).result2 rfl _ rfl) rfl ?_;exact⟨rfl,eT l al _ _ _⟩
theorem arU (n:Nat) (w:E) (h:n<=9223372036854775807):
  c6 88 #[J I (n:Int)] w (dj w (B1 (n:Rat))):=by
 have q:val xd (B n) (B 1)=(n:Rat):=by
  rw[val,cQ,cQ];show mkRat (n:Int) 1=_;rw[Rat.mkRat_one];rfl
 have m:=VB
 have s:(B n).size<=1099511627776:=by
  have:=sA 8 n (by show n<18446744073709551616;omega);rw[<- nP n] at this;omega
 go_enter func88,ntmps88;have r:=aL.at (w:=w) rfl xd ⟨#[]⟩ ⟨#[]⟩;have b:da w (w.alloc (FC xd ⟨#[]⟩ ⟨#[]⟩)):=(au _ w).alloc (ah _) _;have a:=au (O (T (w.alloc (FC xd ⟨#[]⟩ ⟨#[]⟩)))) (w.alloc (FC xd ⟨#[]⟩ ⟨#[]⟩));go_wp2_with fail
 refine(aiI n a rfl al).ae ?_;rintro e d ⟨rfl,a⟩;go_wp2_with fail
 refine(aiI 1 a rfl al).ae ?_;rintro e d ⟨rfl,a⟩;go_wp2_with fail
 refine(UC xd (B n) (B 1) _ s al).ae ?_;rintro e f ⟨rfl,c⟩;rw[q];have x:=(r.aa a r.lt).aa c (r.aa a r.lt).lt;have g:da w f:=(b.trans (a.ae b.size)).trans (c.ae (b.trans (a.ae b.size)).size);obtain⟨k,j,l,f0,f1,i⟩:=x.facts;clear r b a;rw[p7];go_wp2;refine dI ((x.put _ _ _).result rfl _ rfl) rfl ?_;exact⟨rfl,eT g al _ _ _⟩
theorem below_drewN {B:Nat} {a b:E} (h:Below B a b) (k:Nat):Below B a (b.drewN k):=⟨h.os,h.tape,h.output,h.size,h.block⟩
theorem arY {n m:Bool} {x y u v:ByteArray} {q:Rat} (r:Rat) (a:val n x y=p) (b:val m u v=q) (h:p+q=r) (s:x.size+y.size<=100000) (c:u.size+v.size<=100000):
  c6 160 #[zd #[zZ n,zK x,zK y],zd #[zZ m,zK u,zK v]] w (dj w (zd #[zZ (aW r),zK (nu r),zK (de r)])):=by
 subst a b h;exact ahy n m x y u v w al al al al
theorem aam {n m:Bool} {x y u v:ByteArray} {q:Rat} (r:Rat) (a:val n x y=p) (b:val m u v=q) (h:p*q=r) (s:x.size+y.size<=100000) (c:u.size+v.size<=100000):
  c6 104 #[zd #[zZ n,zK x,zK y],zd #[zZ m,zK u,zK v]] w (dj w (zd #[zZ (aW r),zK (nu r),zK (de r)])):=by
 subst a b h;exact ahv n m x y u v w al al al al
theorem aan {n m:Bool} {x y u v:ByteArray} {q:Rat} (k:Int) (a:val n x y=p) (b:val m u v=q) (h:kJ p q=k) (s:x.size+y.size<=100000) (c:u.size+v.size<=100000):
  c6 102 #[zd #[zZ n,zK x,zK y],zd #[zZ m,zK u,zK v]] w (dj w (J I k)):=by
 subst a b h;exact arX n m x y u v w al al al al
theorem Vy {n:Bool} {x y:ByteArray} (r:Rat) (h:val n x y=r) (s:x.size+y.size<=100000):
  c6 86 #[zd #[zZ n,zK x,zK y]] w (dj w (zd #[zZ (aW r),zK (nu r),zK (de r)])):=by
 subst h;exact au3 n x y w al al
theorem Gd {k:Int} (r:Rat) (n:Nat) (a:k=(n:Int)) (b:n<=1) (h:(n:Rat)=r):
  c6 88 #[J I k] w (dj w (zd #[zZ (aW r),zK (nu r),zK (de r)])):=by
 subst h a;exact arU n w al
theorem ahw {n m:Bool} {x y u v:ByteArray} (h:val m u v=0):
  c6 103 #[zd #[zZ n,zK x,zK y],zd #[zZ m,zK u,zK v]] w fun e w'=>e=yW (zp #[zd #[zZ xd,zK ⟨#[]⟩,zK ⟨#[]⟩],J I 3])/\da w w':=
 arW n m x y u v w (M4.1 h)
theorem ahx {n m:Bool} {x y u v:ByteArray} {q:Rat} (r:Rat) (a:val n x y=p) (b:val m u v=q) (h0:q≠0) (h:p/q=r) (s:x.size+y.size<=100000) (c:u.size+v.size<=100000):
  c6 103 #[zd #[zZ n,zK x,zK y],zd #[zZ m,zK u,zK v]] w (dj w (zp #[zd #[zZ (aW r),zK (nu r),zK (de r)],J I 0])):=by
 subst a b h;have t:=fun h=>h0 (M4.2 h);exact arV n m x y u v w (fun h=>t (yd h)) (fun h=>t (yk h)) al al al al
theorem QJ:B 1=⟨#[1]⟩:=by
 rw[B,sq 1 a6,show 1/256=0 from rfl,sk];rfl
theorem an0 (h:¬n=1):((B n).toList==[1])=false:=Hd.2 fun e=>h (aji (by
 rw[QJ];rw[Lib.toList_data] at e;exact Rb (Rc.1 e)))
theorem al4 (n:Bool) (x y:ByteArray) (w:E) (h:B2 x=0∨B2 y=0) (f:x.size<=500000) (g:y.size<=500000):
  c6 90 #[zZ n,zK x,zK y] w (dj w (B1 0)):=by
 have H:=aD (fun V=>o6 x V al);have Y:=aD (fun V=>o6 y V al);go_enter func90,ntmps90;by_cases a:B2 x=0
 focus
  rw[a,CB] at H
 rotate_left
 focus
  have c:B2 y=0:=h.resolve_left a;have i:=EJ a;rw[c,CB] at Y
 all_goals
  go_wp2_with fail
  refine(H.o _).ae ?_;rintro e d ⟨rfl,b⟩;subst b;go_wp2_with fail
  refine(Y.o _).ae ?_;rintro e d ⟨rfl,b⟩;subst b;go_wp2;refine dI ((aL.at (w:=w) rfl xd ⟨#[]⟩ ⟨#[1]⟩).result rfl _ rfl) rfl ?_;exact⟨by rw[G9,QJ],(au _ w).alloc (ah _) _⟩
theorem al5 (n:Bool) (x y:ByteArray) (w:E) (h0:B2 x≠0) (h1:B2 y≠0) (Bj:x.size<=500000) (Bh:y.size<=500000):
  c6 90 #[zZ n,zK x,zK y] w (dj w (B1 (val n x y))):=by
 have m:=aD (fun V=>o6 x V al);have p:=aD (fun V=>o6 y V al);have H:=aD (Vz n _ _ h0 h1);have s:=aM (jV x) Bj;have r:=aM (jV y) Bh;have c:=aD (fun V=>al8 (B (B2 x)) (B (B2 y)) V s r);rw[cQ,cQ] at c;have Q:=aM (ku (Nat.gcd_le_left (B2 y) (lO h0))) s;have i:Nat.gcd (B2 x) (B2 y)≠0:=fun h=>h0 (Nat.gcd_eq_zero_iff.1 h).1;have R:=aD (fun V=>Xb (B2 x) _ V s Q i);have D:=aD (fun V=>Xb (B2 y) _ V r Q i);have U:=EJ h0;have S:=EJ h1;rw[val];clear h0 h1 i;generalize mkRat (sg n (B2 x)) (B2 y)=q at *;generalize B2 x=X at *;generalize B2 y=Y at *;generalize Nat.gcd X Y=g at *;go_enter func90,ntmps90;have b:=aL.at (w:=w) rfl xd ⟨#[]⟩ ⟨#[]⟩;have j:da w (w.alloc (FC xd ⟨#[]⟩ ⟨#[]⟩)):=(au _ w).alloc (ah _) _;go_wp2_with fail
 refine(m.o _).ae ?_;rintro e f ⟨rfl,d⟩;subst d;go_wp2_with fail
 refine(p.o _).ae ?_;rintro e f ⟨rfl,d⟩;subst d;go_wp2_with fail
 refine(c.o _).ae ?_;rintro e f ⟨rfl,l⟩;have a:=b.aa l b.lt;have k:da w f:=j.trans (l.ae j.size);clear b j l m p c;by_cases h1:g=1
 ·subst h1;rw[Hi,Hi] at H;rw[QJ];obtain⟨K,L,Bb,f0,f1,F⟩:=a.facts;go_wp2;refine dI ((a.put _ _ _).result rfl _ rfl) rfl ?_;exact⟨by rw[H.o],eT k al _ _ _⟩
 ·have Ba:=an0 h1;go_wp2_with fail
  refine(R.o _).ae ?_;rintro e B9 ⟨rfl,u⟩;have z:=a.aa u a.lt;have t:da w B9:=k.trans (u.ae k.size);go_wp2_with fail
  refine(D.o _).ae ?_;rintro e P ⟨rfl,v⟩;have A:=z.aa v z.lt;have Bm:da w P:=t.trans (v.ae t.size);obtain⟨K,L,Bb,f0,f1,F⟩:=A.facts;go_wp2;refine dI ((A.put _ _ _).result rfl _ rfl) rfl ?_;exact⟨by rw[H.o],eT Bm al _ _ _⟩
theorem Nq (n:Bool) (x y:ByteArray) (w:E) (a:x.size<=500000) (b:y.size<=500000):
  c6 90 #[zZ n,zK x,zK y] w (dj w (B1 (val n x y))):=by
 by_cases h:B2 x=0∨B2 y=0
 ·have:=al4 n x y w h a b;rwa [<- M4.2 h] at this
 ·exact al5 n x y w (fun e=>h (yd e)) (fun e=>h (yk e)) a b
theorem Kr (n:Bool) (x y:ByteArray) (w:E) (d:x.size<=500000) (f:y.size<=500000):
  c6 40 #[zd #[zZ n,zK x,zK y]] w (dj w (B1 (val n x y))):=by
 go_enter func40,ntmps40;have b:=aL.at (w:=w.alloc (FC n x y)) (g:=O (T w)+1) aE xd ⟨#[]⟩ ⟨#[]⟩;have h:da w ((w.alloc (FC n x y)).alloc (FC xd ⟨#[]⟩ ⟨#[]⟩)):=((au _ w).alloc (ah _) _).alloc aE _;go_wp2_with fail
 refine(Nq n x y _ d f).ae ?_;rintro e i ⟨rfl,a⟩;have c:=b.aa a b.lt;have j:da w i:=h.trans (a.ae h.size);obtain⟨l,m,o,f0,f1,k⟩:=c.facts;clear b h;rw[p7];go_wp2;refine dI ((c.put _ _ _).result rfl _ rfl) rfl ?_;exact⟨rfl,eT j al _ _ _⟩
variable {U:E}
theorem Np {a b:ByteArray} (n:Nat) (c:da w0 w) (h:B2 a*B2 b=n) (d:a.size<=1000000) (e:b.size<=1000000):
  c6 118 #[zK a,zK b] w (dj w0 (zK (B n))):=by
 subst h;exact under c (al2 a b w al al)
theorem xC (q:Rat):B2 (nu q)=q.num.natAbs:=cQ _
theorem oF (q:Rat):B2 (de q)=q.den:=cQ _
def PQ (w V:E) (p q:Rat) (n:Bool) (x y:ByteArray):Prop:=aL V (O (T w)) (aW p) (nu p) (de p)/\aL V (O (T w)+1) (aW q) (nu q) (de q)/\aL V (O (T w)+2) n x y/\da w V
theorem PQ.step {V:E} {q:Rat} {n:Bool} {x y:ByteArray} (h:PQ w V p q n x y) (b:da V U):PQ w U p q n x y:=by
 obtain⟨a,c,d,e⟩:=h;exact⟨a.aa b a.lt,c.aa b c.lt,d.aa b d.lt,e.trans (b.ae e.size)⟩
theorem akz {q:Rat} (h:aW p=aW q):val (aW p) (B (p.num.natAbs*q.den+q.num.natAbs*p.den)) (B (p.den*q.den))=p+q:=by
 have e:=val_add (aW p) (aW q) (nu p) (de p) (nu q) (de q) (by rw[oF];exact p.den_nz) (by rw[oF];exact q.den_nz);rw[kr,kr,xC,xC,oF,oF, <- h, <- acW] at e;rw[val,cQ,cQ,e]
theorem akC {q:Rat} (h:¬aW p=aW q) (l:q.num.natAbs*p.den<=p.num.natAbs*q.den):val (aW p) (B (p.num.natAbs*q.den - q.num.natAbs*p.den)) (B (p.den*q.den))=p+q:=by
 have e:=val_add (aW p) (aW q) (nu p) (de p) (nu q) (de q) (by rw[oF];exact p.den_nz) (by rw[oF];exact q.den_nz);rw[kr,kr,xC,xC,oF,oF, <- acU h (k:=p.num.natAbs*q.den - q.num.natAbs*p.den) al] at e;rw[val,cQ,cQ,e]
theorem akA {q:Rat} (h:¬aW p=aW q) (l:p.num.natAbs*q.den<=q.num.natAbs*p.den):val (aW q) (B (q.num.natAbs*p.den - p.num.natAbs*q.den)) (B (p.den*q.den))=p+q:=by
 have e:=val_add (aW p) (aW q) (nu p) (de p) (nu q) (de q) (by rw[oF];exact p.den_nz) (by rw[oF];exact q.den_nz);rw[kr,kr,xC,xC,oF,oF, <- acT h (k:=q.num.natAbs*p.den - p.num.natAbs*q.den) al] at e;rw[val,cQ,cQ,e]
theorem amg (k nb:Bool) (x y d yb:ByteArray) (w:E) (ha:x.size+y.size<=50000) (hb:d.size+yb.size<=50000):
  c6 71 #[zd #[zZ k,zK x,zK y],zd #[zZ nb,zK d,zK yb]] w (dj w (B1 (val k x y+val nb d yb))):=by
 have HA:=aD (fun V=>Kr k x y V al al);have HB:=aD (fun V=>Kr nb d yb V al al);have q1:=E8 k x y;have q2:=E8 nb d yb;generalize val k x y=p at *;generalize val nb d yb=q at *;have z1:=wG p;have z2:=wG q;have s1:=rH p.num.natAbs q.den;have s2:=rH q.num.natAbs p.den;have s3:=rH p.den q.den;have s4:=acj (p.num.natAbs*q.den) (q.num.natAbs*p.den);have s5:=ku (Nat.sub_le (p.num.natAbs*q.den) (q.num.natAbs*p.den));have s6:=ku (Nat.sub_le (q.num.natAbs*p.den) (p.num.natAbs*q.den));have e1:(B p.num.natAbs).size=(nu p).size:=rfl;have e2:(B p.den).size=(de p).size:=rfl;have e3:(B q.num.natAbs).size=(nu q).size:=rfl;have e4:(B q.den).size=(de q).size:=rfl;have HS:=aD (fun h=>akz (p:=p) (q:=q) h);have HG:=aD (fun h l=>akC (p:=p) (q:=q) h l);have HL:=aD (fun h l=>akA (p:=p) (q:=q) h l);have Cr:=aD (fun (V:E)=>Np (w:=V) (p.num.natAbs*q.den) (au _ V) (by rw[xC,oF]) (show (nu p).size<=_ by omega) (show (de q).size<=_ by omega));have kh:=aD (fun (V:E)=>Np (w:=V) (q.num.natAbs*p.den) (au _ V) (by rw[xC,oF]) (show (nu q).size<=_ by omega) (show (de p).size<=_ by omega));have GR:=aD (fun (V:E)=>Np (w:=V) (p.den*q.den) (au _ V) (by rw[oF,oF]) (show (de p).size<=_ by omega) (show (de q).size<=_ by omega));generalize p+q=r at *;generalize p.num.natAbs*q.den=X at *;generalize q.num.natAbs*p.den=Y at *;generalize p.den*q.den=D at *;have t1:(B X).size<=200000:=al
 have t2:(B Y).size<=200000:=al
 have t3:(B D).size<=200000:=al
 have t4:(B (X+Y)).size<=500000:=al
 have t5:(B (X - Y)).size<=500000:=al
 have t6:(B (Y - X)).size<=500000:=al
 clear s1 s2 s3 s4 s5 s6 e1 e2 e3 e4 z1 z2 q1 q2 ha hb;go_enter func71,ntmps71;have F:=((aL.at (w:=w) rfl k x y).alloc (FC nb d yb)).alloc (FC xd ⟨#[]⟩ ⟨#[]⟩);have Bm:=(aL.at (w:=w.alloc (FC k x y)) (g:=O (T w)+1) aE nb d yb).alloc (FC xd ⟨#[]⟩ ⟨#[]⟩);have ai:=aL.at (w:=(w.alloc (FC k x y)).alloc (FC nb d yb)) (g:=O (T w)+2) aE xd ⟨#[]⟩ ⟨#[]⟩;have ab:da w (((w.alloc (FC k x y)).alloc (FC nb d yb)).alloc (FC xd ⟨#[]⟩ ⟨#[]⟩)):=(((au _ w).alloc (ah _) _).alloc aE _).alloc (by simp;omega) _;go_wp2_with fail
 refine(HA.o _).ae ?_;rintro e w1 ⟨rfl,m⟩;have P:=F.aa m F.lt;have A:=(Bm.aa m Bm.lt).far3 (g':=O (T w)) al (zZ (aW p)) (zK (nu p)) (zK (de p));have U:=(ai.aa m ai.lt).far3 (g':=O (T w)) al (zZ (aW p)) (zK (nu p)) (zK (de p));have ad:=eT (ab.trans (m.ae ab.size)) (ah _) (zZ (aW p)) (zK (nu p)) (zK (de p));have B7:=P.put (aW p) (nu p) (de p);obtain⟨Bj,Bh,Bb,f0,f1,v⟩:=P.facts;obtain⟨c,a,b,_,_,_⟩:=A.facts;rw[p7];clear F Bm ai ab P m;go_wp2_with fail
 clear Bj Bh Bb f0 f1 v c a b;refine(HB.o _).ae ?_;rintro e w2 ⟨rfl,s⟩;have S:=A.aa s A.lt;have r7:=(B7.aa s B7.lt).far3 (g':=O (T w)+1) al (zZ (aW q)) (zK (nu q)) (zK (de q));have zY:=(U.aa s U.lt).far3 (g':=O (T w)+1) al (zZ (aW q)) (zK (nu q)) (zK (de q));have dm:=eT (ad.trans (s.ae ad.size)) (g:=O (T w)+1) al (zZ (aW q)) (zK (nu q)) (zK (de q));have vu:=S.put (aW q) (nu q) (de q);obtain⟨Bj,Bh,Bb,f0,f1,v⟩:=S.facts;have ht:PQ w _ p q xd ⟨#[]⟩ ⟨#[]⟩:=⟨r7,vu,zY,dm⟩;obtain⟨c,a,b,_,_,_⟩:=r7.facts;obtain⟨f,i,j,_,_,_⟩:=vu.facts;rw[p7];clear B7 A U ad S r7 zY dm vu s HA HB;go_wp2_with fail
 refine(Cr.o _).ae ?_;rintro e w3 ⟨rfl,ak⟩;clear c a b f i j Bj Bh Bb f0 f1 v;have t:=ht.step ak;clear ht ak Cr;obtain⟨c,a,b,_,_,_⟩:=t.1.facts;obtain⟨f,i,j,_,_,_⟩:=t.2.1.facts;go_wp2_with fail
 refine(kh.o _).ae ?_;rintro e w4 ⟨rfl,an⟩;clear c a b f i j;have z:=t.step an;clear t an kh;obtain⟨c,a,b,_,_,_⟩:=z.1.facts;obtain⟨f,i,j,_,_,_⟩:=z.2.1.facts;go_wp2_with fail
 refine(GR.o _).ae ?_;rintro e w5 ⟨rfl,ao⟩;clear c a b f i j;have B9:=z.step ao;clear z ao GR;obtain⟨c,a,b,_,_,_⟩:=B9.1.facts;obtain⟨f,i,j,_,_,_⟩:=B9.2.1.facts;by_cases n:aW p=aW q
 focus
  have H:=aD (HS.o n);have fX:(aW p==aW q)=true:=by simp[n]
  have iU:decide (aW p=aW q)=true:=cJ n;have aj:=aD (fun V=>adp (B X) (B Y) V al al);rw[cQ,cQ] at aj;have HN:=aD n;clear n;go_wp2_with fail
  refine(aj.o _).ae ?_;rintro e w6 ⟨rfl,Q⟩;clear c a b f i j;have K:=B9.step Q;obtain⟨c,a,b,_,_,_⟩:=K.1.facts;go_wp2_with fail
  refine(Nq (aW p) (B (X+Y)) (B D) _ al al).ae ?_
 rotate_left
 focus
  have fX:(aW p==aW q)=false:=by simp[n]
  have iU:decide (aW p=aW q)=false:=cX n;by_cases l:Y<=X
  focus
   have H:=aD (HG.o n l);have Ba:=aD (fun V=>WZ (B X) (B Y) V al al (by rw[cQ,cQ];exact l));rw[cQ,cQ] at Ba;go_wp2_with fail
   refine(Ba.o _).ae ?_;rintro e w6 ⟨rfl,Q⟩;clear c a b f i j;have K:=B9.step Q;obtain⟨c,a,b,_,_,_⟩:=K.1.facts;go_wp2_with fail
   refine(Nq (aW p) (B (X - Y)) (B D) _ al al).ae ?_
  rotate_left
  ·have H:=aD (HL.o n al);have Em:=aD (fun V=>adk (B X) (B Y) V al al (by rw[cQ,cQ];omega));have Ba:=aD (fun V=>WZ (B Y) (B X) V al al (by rw[cQ,cQ];omega));rw[cQ,cQ] at Ba;go_wp2_with fail
   refine(Em.o _).ae ?_;rintro e w6 ⟨rfl,Q⟩;clear c a b f i j;have K:=B9.step Q;go_wp2_with fail
   refine(Ba.o _).ae ?_;rintro e w7 ⟨rfl,R⟩;have L:=K.step R;obtain⟨c,a,b,_,_,_⟩:=L.2.1.facts;go_wp2_with fail
   refine(Nq (aW q) (B (Y - X)) (B D) _ al al).ae ?_;rintro e w8 ⟨rfl,iW⟩;have u:=L.step iW;obtain⟨g0,g1,g2,i0,i1,i2⟩:=u.2.2.1.facts;rw[H.o,p7];go_wp2;refine dI ((u.2.2.1.put _ _ _).result rfl _ rfl) rfl ?_;exact⟨rfl,eT u.2.2.2 al _ _ _⟩
 all_goals
  rintro e w7 ⟨rfl,R⟩;have L:=K.step R;obtain⟨g0,g1,g2,i0,i1,i2⟩:=L.2.2.1.facts;rw[H.o,p7];go_wp2;refine dI ((L.2.2.1.put _ _ _).result rfl _ rfl) rfl ?_;exact⟨rfl,eT L.2.2.2 al _ _ _⟩
theorem al3 (n nb:Bool) (a y b yb:ByteArray) (w:E) (ha:a.size+y.size<=50000) (hb:b.size+yb.size<=50000):
  c6 66 #[zd #[zZ n,zK a,zK y],zd #[zZ nb,zK b,zK yb]] w (dj w (B1 (val n a y*val nb b yb))):=by
 have Ba:=aD (fun V=>Kr n a y V al al);have U:=aD (fun V=>Kr nb b yb V al al);have q1:=E8 n a y;have q2:=E8 nb b yb;generalize val n a y=p at *;generalize val nb b yb=q at *;have z1:=wG p;have z2:=wG q;have s1:=rH p.num.natAbs q.num.natAbs;have s3:=rH p.den q.den;have e1:(B p.num.natAbs).size=(nu p).size:=rfl;have e2:(B p.den).size=(de p).size:=rfl;have e3:(B q.num.natAbs).size=(nu q).size:=rfl;have e4:(B q.den).size=(de q).size:=rfl
 have HS:wT (val (aW p !=aW q) (B (p.num.natAbs*q.num.natAbs)) (B (p.den*q.den))=p*q):=by
  show _=_;have e:=val_mul (aW p) (aW q) (nu p) (de p) (nu q) (de q);rw[kr,kr,xC,xC,oF,oF] at e;rw[val,cQ,cQ,e]
 have R:=aD (fun (V:E)=>Np (w:=V) (p.num.natAbs*q.num.natAbs) (au _ V) (by rw[xC,xC]) (show (nu p).size<=_ by omega) (show (nu q).size<=_ by omega));have S:=aD (fun (V:E)=>Np (w:=V) (p.den*q.den) (au _ V) (by rw[oF,oF]) (show (de p).size<=_ by omega) (show (de q).size<=_ by omega));generalize p*q=r at *;generalize p.num.natAbs*q.num.natAbs=X at *;generalize p.den*q.den=D at *;have t1:(B X).size<=200000:=al
 have t3:(B D).size<=200000:=al
 clear s1 s3 e1 e2 e3 e4 z1 z2 q1 q2 ha hb;go_enter func66,ntmps66;have u:=((aL.at (w:=w) rfl n a y).alloc (FC nb b yb)).alloc (FC xd ⟨#[]⟩ ⟨#[]⟩);have t:=(aL.at (w:=w.alloc (FC n a y)) (g:=O (T w)+1) aE nb b yb).alloc (FC xd ⟨#[]⟩ ⟨#[]⟩);have Q:=aL.at (w:=(w.alloc (FC n a y)).alloc (FC nb b yb)) (g:=O (T w)+2) aE xd ⟨#[]⟩ ⟨#[]⟩;have B9:da w (((w.alloc (FC n a y)).alloc (FC nb b yb)).alloc (FC xd ⟨#[]⟩ ⟨#[]⟩)):=(((au _ w).alloc (ah _) _).alloc aE _).alloc (by simp;omega) _;go_wp2_with fail
 refine(Ba.o _).ae ?_;rintro e w1 ⟨rfl,h⟩;have Bm:=u.aa h u.lt;have A:=(t.aa h t.lt).far3 (g':=O (T w)) al (zZ (aW p)) (zK (nu p)) (zK (de p));have H:=(Q.aa h Q.lt).far3 (g':=O (T w)) al (zZ (aW p)) (zK (nu p)) (zK (de p));have P:=eT (B9.trans (h.ae B9.size)) (ah _) (zZ (aW p)) (zK (nu p)) (zK (de p));have Bj:=Bm.put (aW p) (nu p) (de p);obtain⟨v,x,z,f0,f1,s⟩:=Bm.facts;obtain⟨c,d,f,_,_,_⟩:=A.facts;rw[p7];clear u t Q B9 Bm h;go_wp2_with fail
 clear v x z f0 f1 s c d f;refine(U.o _).ae ?_;rintro e w2 ⟨rfl,i⟩;have F:=A.aa i A.lt;have Bh:=(Bj.aa i Bj.lt).far3 (g':=O (T w)+1) al (zZ (aW q)) (zK (nu q)) (zK (de q));have zY:=(H.aa i H.lt).far3 (g':=O (T w)+1) al (zZ (aW q)) (zK (nu q)) (zK (de q));have Y:=eT (P.trans (i.ae P.size)) (g:=O (T w)+1) al (zZ (aW q)) (zK (nu q)) (zK (de q));have K:=F.put (aW q) (nu q) (de q);obtain⟨v,x,z,f0,f1,s⟩:=F.facts;have B7:PQ w _ p q xd ⟨#[]⟩ ⟨#[]⟩:=⟨Bh,K,zY,Y⟩;obtain⟨c,d,f,_,_,_⟩:=Bh.facts;obtain⟨j,k,l,_,_,_⟩:=K.facts;rw[p7];clear Bj A H P F Bh zY Y K i Ba U;go_wp2_with fail
 refine(R.o _).ae ?_;rintro e w3 ⟨rfl,ab⟩;clear c d f j k l v x z f0 f1 s;have m:=B7.step ab;clear B7 ab R;obtain⟨c,d,f,_,_,_⟩:=m.1.facts;obtain⟨j,k,l,_,_,_⟩:=m.2.1.facts;go_wp2_with fail
 refine(S.o _).ae ?_;rintro e w4 ⟨rfl,ad⟩;clear c d f j k l;have Bb:=m.step ad;clear m ad S;obtain⟨c,d,f,_,_,_⟩:=Bb.1.facts;obtain⟨j,k,l,_,_,_⟩:=Bb.2.1.facts;go_wp2_with fail
 refine(Nq (aW p !=aW q) (B X) (B D) _ al al).ae ?_;rintro e w7 ⟨rfl,eR⟩;have L:=Bb.step eR;obtain⟨g0,g1,g2,i0,i1,i2⟩:=L.2.2.1.facts;rw[HS.o,p7];go_wp2;refine dI ((L.2.2.1.put _ _ _).result rfl _ rfl) rfl ?_;exact⟨rfl,eT L.2.2.2 al _ _ _⟩
theorem anO {q:Rat} (h:q=0):nu q=⟨#[]⟩:=by subst h;exact CB
theorem anP {q:Rat} (h:¬q=0):(nu q).toList.isEmpty=false:=EJ (by rw[Ne,Int.natAbs_eq_zero,Rat.num_eq_zero];exact h)
theorem alV (n:Bool) (x y:ByteArray) (w:E) (k:x.size+y.size<=50000):
  c6 60 #[zd #[zZ n,zK x,zK y]] w (dj w (zZ (decide (val n x y=0)))):=by
 have g:=aD (fun V=>Kr n x y V al al);generalize val n x y=q at *
 have z:(q=0/\decide (q=0)=y6)∨(¬q=0/\decide (q=0)=xd):=by
  by_cases h:q=0
  ·exact yd ⟨h,cJ h⟩
  ·exact yk ⟨h,cX h⟩
 have H:=aD z;clear z;generalize decide (q=0)=t at *;go_enter func60,ntmps60;have b:=aL.at (w:=w) rfl n x y;have c:da w (w.alloc (FC n x y)):=(au _ w).alloc (ah _) _;go_wp2_with fail
 refine(g.o _).ae ?_;rintro e s ⟨rfl,f⟩;have i:=b.aa f b.lt;have d:=eT (c.trans (f.ae c.size)) (ah _) (zZ (aW q)) (zK (nu q)) (zK (de q));obtain⟨l,m,p,f0,f1,j⟩:=i.facts;rw[p7];rcases H.o with ⟨h,rfl⟩ |⟨h,rfl⟩
 ·have a:=anO h;clear h H;generalize nu q=r at *;subst a;go_wp2;go_ret;exact⟨rfl,d⟩
 ·have a:=anP h;clear h H;go_wp2;go_ret;exact⟨rfl,d⟩
theorem amd (n nb:Bool) (a y b yb:ByteArray) (w:E) (h:¬val nb b yb=0) (Q:a.size+y.size<=40000) (R:b.size+yb.size<=40000):
  c6 65 #[zd #[zZ n,zK a,zK y],zd #[zZ nb,zK b,zK yb]] w (dj w (zp #[B1 (val n a y/val nb b yb),J I 0])):=by
 have B7:=aD (fun V=>alV nb b yb V al);rw[cX h] at B7;have Bm:=aD (fun V=>Kr nb b yb V al al);have U:=E8 nb b yb;generalize val nb b yb=q at *;have X:=wG q;have H:=aD (fun V=>al3 n (aW q) a y (de q) (nu q) V al al)
 have u:val (aW q) (de q) (nu q)=q⁻¹:=by
  rw[We (aW q) (nu q) (de q) (by rw[xC,Ne,Int.natAbs_eq_zero,Rat.num_eq_zero];exact h) (by rw[oF];exact q.den_nz),kr]
 rw[u, <- jH] at H;generalize val n a y/q=r at *;clear u h X U Q R;go_enter func65,ntmps65;have f:=((aL.at (w:=w) rfl n a y).alloc (FC nb b yb)).alloc (FC xd ⟨#[]⟩ ⟨#[]⟩);have i:=(aL.at (w:=w.alloc (FC n a y)) (g:=O (T w)+1) aE nb b yb).alloc (FC xd ⟨#[]⟩ ⟨#[]⟩);have s:=aL.at (w:=(w.alloc (FC n a y)).alloc (FC nb b yb)) (g:=O (T w)+2) aE xd ⟨#[]⟩ ⟨#[]⟩;have k:da w (((w.alloc (FC n a y)).alloc (FC nb b yb)).alloc (FC xd ⟨#[]⟩ ⟨#[]⟩)):=(((au _ w).alloc (ah _) _).alloc aE _).alloc (by simp;omega) _;go_wp2_with fail
 refine(B7.o _).ae ?_;rintro e w1 ⟨rfl,c⟩;have m:=f.aa c f.lt;have j:=i.aa c i.lt;have p:=s.aa c s.lt;have l:=k.trans (c.ae k.size);obtain⟨Bj,Bh,K,_,_,_⟩:=j.facts;clear f i s k c;go_wp2_with fail
 refine(Bm.o _).ae ?_;rintro e w2 ⟨rfl,d⟩;have Ba:=(m.aa d m.lt).far3 (g':=O (T w)+1) al (zZ (aW q)) (zK (nu q)) (zK (de q));have S:=j.aa d j.lt;have F:=(p.aa d p.lt).far3 (g':=O (T w)+1) al (zZ (aW q)) (zK (nu q)) (zK (de q));have A:=eT (l.trans (d.ae l.size)) (g:=O (T w)+1) al (zZ (aW q)) (zK (nu q)) (zK (de q));clear Bj Bh K m j p l d;obtain⟨v,x,z,f0,f1,t⟩:=S.facts;obtain⟨L,Bb,B9,_,_,_⟩:=Ba.facts;rw[p7];go_wp2_with fail
 refine(H.o _).ae ?_;rintro e w3 ⟨rfl,D⟩;have Y:=F.aa D F.lt;have P:=A.trans (D.ae A.size);clear v x z f0 f1 t L Bb B9;obtain⟨v,x,z,f0,f1,t⟩:=Y.facts;rw[p7];go_wp2;refine dI ((Y.put _ _ _).result2 rfl _ rfl) rfl ?_;exact⟨rfl,eT P al _ _ _⟩
theorem anJ {k:Int} (h:k<0):B1 (mkRat k 1)=zd #[zZ y6,zK (B ((-(k+1)).toNat+1)),zK (B 1)]:=by
 have e:k=sg y6 ((-(k+1)).toNat+1):=by simp only[sg,if_true];omega
 have a:=Vz y6 ((-(k+1)).toNat+1) 1 al a6;rw[<- e,Nat.gcd_one_right,Hi,Hi] at a;exact a
theorem anI (n:Nat):B1 (mkRat (n:Int) 1)=zd #[zZ xd,zK (B n),zK (B 1)]:=by
 by_cases h:n=0
 ·subst h;rw[show ((0:Nat):Int)=0 from rfl,MD,G9,CB]
 ·have a:=Vz xd n 1 h a6;rw[Nat.gcd_one_right,Hi,Hi] at a;exact a
theorem Xa (k:Int) (w:E) (h0: -9223372036854775808<=k) (h1:k<=9223372036854775807):
  c6 29 #[J I k] w (dj w (B1 (mkRat k 1))):=by
 by_cases d:k<0
 ·rw[anJ d];have H:=aD (fun V=>Kq (-(k+1)) V al al);have s:(B (-(k+1)).toNat).size<=8:=by rw[nP];exact sA 8 _ (by show _<18446744073709551616;omega)
  have A:=aD (fun V=>adp (B (-(k+1)).toNat) ⟨#[1]⟩ V al (by show 1<=_;omega));rw[cQ,show B2 ⟨#[1]⟩=1 from rfl] at A;rw[QJ];generalize (-(k+1)).toNat=n at *;go_enter func29,ntmps29;have r:=aL.at (w:=w) rfl xd ⟨#[]⟩ ⟨#[]⟩;have h:da w (w.alloc (FC xd ⟨#[]⟩ ⟨#[]⟩)):=(au _ w).alloc (ah _) _;go_wp2_with fail
  refine(H.o _).ae ?_;rintro e l ⟨rfl,b⟩;have p:=r.aa b r.lt;have a:=h.trans (b.ae h.size);go_wp2_with fail
  refine(A.o _).ae ?_;rintro e q ⟨rfl,c⟩;have F:=p.aa c p.lt;have m:=a.trans (c.ae a.size);obtain⟨g,i,j,f0,f1,f⟩:=F.facts;go_wp2;refine dI ((F.put _ _ _).result rfl _ rfl) rfl ?_;exact⟨rfl,eT m al _ _ _⟩
 ·obtain⟨n,rfl⟩:∃n:Nat,k=n:=⟨k.toNat,al⟩;rw[anI n];have H:=aD (fun V=>Kq (n:Int) V al al);rw[oU] at H;rw[QJ];go_enter func29,ntmps29;have r:=aL.at (w:=w) rfl xd ⟨#[]⟩ ⟨#[]⟩;have h:da w (w.alloc (FC xd ⟨#[]⟩ ⟨#[]⟩)):=(au _ w).alloc (ah _) _;go_wp2_with fail
  refine(H.o _).ae ?_;rintro e l ⟨rfl,b⟩;have p:=r.aa b r.lt;have a:=h.trans (b.ae h.size);obtain⟨g,i,j,f0,f1,f⟩:=p.facts;go_wp2;refine dI ((p.put _ _ _).result rfl _ rfl) rfl ?_;exact⟨rfl,eT a al _ _ _⟩
end Go.Proofs.YtkflnpjapgiajaaGreatDoor
