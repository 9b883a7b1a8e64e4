/- Part1: part 1. -/
import Derived.Test.YtkflnpjapgiajaaGreatDoorTermB
set_option maxRecDepth 100000
set_option maxHeartbeats 400000000
set_option linter.unusedSimpArgs false
set_option linter.unusedVariables false
namespace Go.Proofs.YtkflnpjapgiajaaGreatDoor
open Value renaming slice→J,int→E,string→zX,pointer→zZ,bool→zd,agg→zp,tuple→zz
open IntKind renaming i64→yR,u32→yW
open Obj renaming cells→yd
open Ending renaming returned→yk
open Or renaming inl→yp,inr→xS
open Option renaming none→O,some→I
open Bool renaming true→xq,false→x3
open Go renaming World→wA,Value→wQ,undef→wd
open RowKit renaming Hid→we
open Go.Proofs.Tryz
open List renaming length→Z
open World renaming alloc→AC
open World renaming setCell→AF
open World renaming cell?→AJ
variable {rs:Jp} {i:Nat} {oi:Oper}
theorem gE:(∀(α:Type) (xs:List α) (i:Nat) (h:i<xs.toArray.size),xs.toArray[i]=xs[i]'(by simpa using h))/\(∀(α:Type) (a:α) (s:List α) (h:0<Z (a::s)),(a::s)[0]=a)/\(∀(α:Type) (a:α) (s:List α) (i:Nat) (h:i+1<Z (a::s)),(a::s)[i+1]=s[i]'(by simpa using h)):=⟨fun _ _ _ _=>rfl,fun _ _ _ _=>rfl,fun _ _ _ _ _=>rfl⟩
theorem aP:(∀(a:Act) (k:Nat) (v:wQ),a.put k v= {a with tmps:=a.tmps.setIfInBounds k v})/\(∀(α:Type) (xs:List α) (i:Nat) (a:α),xs.toArray.setIfInBounds i a=(xs.set i a).toArray)/\(∀(α:Type) (x a:α) (s:List α),(x::s).set 0 a=a::s)/\(∀(α:Type) (x a:α) (s:List α) (i:Nat),(x::s).set (i+1) a=x::s.set i a):=⟨fun _ _ _=>rfl,fun _ _ _ _=>aE,fun _ _ _ _=>rfl,fun _ _ _ _ _=>rfl⟩
section
variable {P : Program} {ops : Array Oper} {Q : Exit -> Act -> wA -> Prop} {md : Region.Mode} {S : wA -> Prop} {n : Nat} {l : Array Bool} {a : Act} {w : wA}
theorem dt (i:Nat) (v:wQ) (h:∀u,S u ->(execOp a.eval oi).run P u=.ok (.value v) u) (k:wpAnyH P md ops Q S n (l.setIfInBounds i xq) (a.put oi.dst v) w)
  (e:ops[i]? =I oi:=by rfl) (hs:Region.noSelect ops=true:=by kernel_rfl) (f:Region.free md ops l i=true:=by kernel_rfl) (r:(Region.ready md ops l).contains i=true:=by kernel_rfl)
  (b:∀c a w,Q (.panic c) (a.put oi.dst v) w ->Q (.panic c) a w:=by first |exact fun _ _ _ h=>h |exact fun _ _ _ h=>by cases h.1) (g:Region.wanted oi (yielded ops a.tmps)=true:=by rfl) (d:S w:=by assumption):wpAnyH P md ops Q S (n+1) l a w:=
 od e hs f r b (Or.inl ⟨g,h⟩) d k
theorem au (i:Nat) (v:wQ) (k:wpAnyH P md ops Q S n (l.setIfInBounds i xq) (a.put oi.dst v) w)
  (g:ops[i]? =I oi:=by rfl) (h:∀u,S u ->(execOp a.eval oi).run P u=.ok (.value v) u:=by intro u' M;(try simp only[gE]);(first |obtain⟨s,b,m,o⟩:=M |obtain⟨s,b,m⟩:=M |obtain⟨s,b⟩:=M |skip);go_simp) (hs:Region.noSelect ops=true:=by kernel_rfl) (f:Region.free md ops l i=true:=by kernel_rfl) (r:(Region.ready md ops l).contains i=true:=by kernel_rfl)
  (d:∀c a w,Q (.panic c) (a.put oi.dst v) w ->Q (.panic c) a w:=by first |exact fun _ _ _ h=>h |exact fun _ _ _ h=>by cases h.1) (j:Region.wanted oi (yielded ops a.tmps)=true:=by rfl) (e:S w:=by assumption):wpAnyH P md ops Q S (n+1) l a w:=
 od g hs f r d (Or.inl ⟨j,h⟩) e k
theorem cA {o:Oper} (h:∀K:Act ->wA ->Prop,Shut (∀a w,S w ->(S w ->wpAnyH P md ops Q S n (l.setIfInBounds i xq) a w) ->K a w) ->if Region.wanted o (yielded ops a.tmps)=xq then Oper.wp P o a w K Q else K (a.put o.dst wd) w) (hs:AllReadyH P md ops Q S n l a w rs) (b:ops[i]? =I o:=by rfl):AllReadyH P md ops Q S n l a w (i::rs):=AllReadyH.cons b h hs
theorem nA:AllReadyH P md ops Q S n l a w []:=aH
theorem aG (rs:Jp) (h:AllReadyH P md ops Q S n l a w rs) (r:Region.ready md ops l=rs:=by kernel_rfl) (e:rs≠[]:=by simp):wpAnyH P md ops Q S (n+1) l a w:=wpAnyH_ready r e h
end
open Go.RowKit
variable {l:Kx} {a:Kd} {w w':wA}
theorem Fa {p:Prop} (h:p):we p:=h
def aC (w:wA) (a:Kd) (l:Kx):Prop:=∀k (h:k<Z l),∃g o,a=I ⟨g,o,O⟩/\g<w.heap.size/\w.cell? ⟨g,o+k,O⟩=I (E yR l[k])
theorem aC.aa (h:aC w a l) (c:da w w'):aC w' a l:=fun k f=>by
 obtain⟨g,o,d,b,e⟩:=h k f;exact⟨g,o,d,aT b c.size,(c.cell (p:=⟨g,_,O⟩) b).trans e⟩
theorem LV {B:Nat} {a b:wA} (h:Below B a b) (k:Nat):Below B a (b.drewN k):=⟨h.os,h.tape,h.output,h.size,h.block⟩
def jQ (k:Int) (l:Kx):Bool:=l.any (·==k)
theorem apJ {k:Int} (h:i<Z l):jQ k (l.take (i+1))=(jQ k (l.take i) ||l[i]==k):=by
 rw[ig h,jQ,jQ,List.any_append];simp
theorem apL {k:Int} (h:i<Z l) (e:l[i]=k):jQ k l=true:=by
 rw[jQ,rV];exact⟨l[i],bQ h,by simp[e]⟩
theorem adl (k:Int) (a:Kd) (cap:Nat) (l:Kx) (w:wA) (h:aC w a l) (n:Z l<=140737488355328):
  c6 31 #[E yR k,J a (Z l) cap] w fun e w'=>e=yk (zd (jQ k l))/\w'=w:=by
 have F:=Fa h;clear h;go_enter func31,ntmps31;go_wp2_with fail
 go_loop [5] (fun iv=>∃i:Nat,i<=Z l/\iv=E yR i/\we (jQ k (l.take i)=x3)) (fun iv=>Z l - (intOf iv).toNat)
 case atStart=>exact⟨0,aX _,rfl,rfl⟩
 case round=>
  obtain⟨i,f,rfl,H⟩:=hrel;by_cases t:i<Z l
  ·obtain⟨g,o,rfl,d,c⟩:=F.o i t;by_cases e:l[i]=k
   ·have B9:=Fa (apL t e);go_wp2;go_ret;exact⟨by rw[B9.o];rfl,rfl⟩
   ·have S:we (jQ k (l.take (i+1))=x3):=by show _=_;rw[apJ t,H.o];simp[e]
    (have b:(l[i]==k)=false:=by simp[e]);generalize l[i]=x at *;go_wp2;go_round
    case rel=>exact⟨i+1,al,bd,S.o⟩
    case measure=>simp[intOf];omega
  ·have B9:we (jQ k l=x3):=by
    show _=_;have:=H.o;rwa [lg al] at this
   go_wp2;go_ret;exact⟨by rw[B9.o];rfl,rfl⟩
def C9 (x:Int):Bool:=decide (1<=x/\x<=4)
def pM (l:Kx):Bool:=decide (1<=Z l/\l.length<=8)&&l.all C9
theorem aiJ {p:Int ->Bool} (h:i<Z l) (e:p l[i]=x3):l.all p=false:=by
 rw[MU];exact⟨l[i],bQ h,by rw[e];decide⟩
theorem aiH {p:Int ->Bool} (h:i<Z l) (h0:(l.take i).all p=xq) (e:p l[i]=xq):(l.take (i+1)).all p=true:=by
 rw[ig h,List.all_append,h0];simp[e]
theorem amj (a:Kd) (cap:Nat) (l:Kx) (w:wA) (h:aC w a l) (s:Z l<=140737488355328):
  c6 109 #[J a (Z l) cap] w (dj w (zd (pM l))):=by
 have F:=Fa h;clear h;by_cases d:1<=Z l/\l.length<=8
 ·have H:we (pM l=l.all C9):=by show _=_;rw[pM,cJ d];rfl
  obtain⟨u,v⟩:=d;generalize pM l=f at *;go_enter func109,ntmps109;go_wp2_with fail
  go_loopw [3] (fun iv wr=>∃i:Nat,i<=Z l/\iv=E yR i/\we ((l.take i).all C9=xq)/\da w wr) (fun iv _=>Z l - (intOf iv).toNat)
  case atStart=>exact⟨0,aX _,rfl,rfl,aw _ _⟩
  case round=>
   obtain⟨i,r,rfl,B7,b⟩:=hrel;by_cases t:i<Z l
   ·obtain⟨g,o,rfl,q,k⟩:=(F.o.aa b) i t;by_cases e:1<=l[i]/\l[i]<=4
    ·have S:=Fa (aiH t B7.o (p:=C9) (cJ e));obtain⟨m,n⟩:=e;generalize l[i]=x at *;go_wp2;go_roundw
     case rel=>exact⟨i+1,al,bd,S.o,b⟩
     case measure=>simp[intOf];omega
    ·have B9:we (f=x3):=by show _=_;rw[H.o];exact aiJ t (cT e)
     rcases (show l[i]<1∨(1<=l[i]/\4<l[i]) by omega) with c |⟨c,j⟩
     all_goals
      clear e;generalize l[i]=x at *;go_wp2;go_ret;exact⟨by rw[B9.o];rfl,b⟩
   ·have B9:we (f=xq):=by
     show _=_;rw[H.o];have:=B7.o;rwa [lg al] at this
    go_wp2;go_ret;exact⟨by rw[B9.o];rfl,b⟩
 ·have B9:we (pM l=x3):=by show _=_;rw[pM,cT d];rfl
  generalize pM l=f at *;go_enter func109,ntmps109;rcases (show Z l<1∨(1<=Z l/\8<Z l) by omega) with c |⟨c,j⟩
  all_goals
   go_wp2;go_ret;exact⟨by rw[B9.o];rfl,aw _ _⟩
def mE (l:Kx) (n:Int) (i:Nat):Bool:=decide (0<=l.getD i 0/\l.getD i 0<n/\(0< i ->l.getD (i - 1) 0<l.getD i 0))
def dZ (l:Kx) (n:Int):Bool:=(List.range (Z l)).all (mE l n)
theorem WT {n:Int} (h:i<Z l) (e:mE l n i=x3):dZ l n=false:=by
 rw[dZ,MU];exact⟨i,bR.2 h,by rw[e];decide⟩
theorem RF {n:Int} (h0:(List.range i).all (mE l n)=xq) (e:mE l n i=xq):(List.range (i+1)).all (mE l n)=true:=by
 rw[xZ,List.all_append,h0];simp[e]
theorem getD_eq (h:i<Z l):l.getD i 0=l[i]:=by simp[List.getD,h]
theorem amb (a:Kd) (cap:Nat) (l:Kx) (n:Int) (w:wA) (h:aC w a l) (L:Z l<=140737488355328):
  c6 110 #[J a (Z l) cap,E yR n] w (dj w (zd (dZ l n))):=by
 have F:=Fa h;clear h;have j:=Fa (fun i h e=>WT (l:=l) (n:=n) (i:=i) h e);have T:we ((List.range (Z l)).all (mE l n)=xq ->dZ l n=xq):=id;generalize dZ l n=rb at *;go_enter func110,ntmps110;go_wp2_with fail
 go_loopw [5] (fun iv wr=>∃i:Nat,i<=Z l/\iv=E yR i/\we ((List.range i).all (mE l n)=xq)/\da w wr) (fun iv _=>Z l - (intOf iv).toNat)
 case atStart=>exact⟨0,aX _,rfl,rfl,aw _ _⟩
 case round=>
  obtain⟨i,K,rfl,B7,b⟩:=hrel;by_cases t:i<Z l
  ·obtain⟨g,o,rfl,B6,A⟩:=(F.o.aa b) i t;(have H:we (mE l n i=decide (0<=l[i]/\l[i]<n/\(0< i ->l.getD (i - 1) 0<l[i]))):=by show _=_;rw[mE,getD_eq t]);by_cases c:l[i]<0
   ·have B9:we (rb=x3):=j.o i t (by rw[H.o];exact cT al);generalize l[i]=x at *;have d:decide (x<0)=true:=cJ c;go_wp2_with fail
    go_quiet (fail)
    go_wp2;go_ret;exact⟨by rw[B9.o];rfl,LV b _⟩
   ·by_cases f:n<=l[i]
    ·have B9:we (rb=x3):=j.o i t (by rw[H.o];exact cT al);generalize l[i]=x at *;have d:decide (x<0)=false:=cT c;have k:decide (n<=x)=true:=cJ f;go_wp2_with fail
     go_quiet (fail)
     go_wp2;go_ret;exact⟨by rw[B9.o];rfl,LV b _⟩
    ·by_cases q:i=0
     ·have S:=Fa (RF B7.o (i:=i) (by rw[H.o];exact cJ ⟨al,al,fun h=>absurd h al⟩));clear H;generalize l[i]=x at *;have d:decide (x<0)=false:=cT c;have k:decide (n<=x)=false:=cT f;have p:decide (0<i)=false:=cT al;(have B2:¬0<(i:Int):=al);have z:=Fa q;clear q;go_wp2_with fail
      go_quiet (fail)
      go_wp2;go_roundw
      case rel=>exact⟨i+1,al,bd,S.o,LV b _⟩
      case measure=>simp[intOf];omega
     ·have v:0<i:=al
      obtain⟨g',o',s,M,D⟩:=(F.o.aa b) (i - 1) al;simp only[Option.some.injEq,Addr.mk.injEq] at s;obtain⟨rfl,rfl, -⟩:=s;have m:l.getD (i - 1) 0=l[i - 1]:=getD_eq al;rw[m] at H;(have P:((i:Int) - 1).toNat=i - 1:=al);by_cases r:l[i]<=l[i - 1]
      ·have B9:we (rb=x3):=j.o i t (by rw[H.o];exact cT (fun h=>absurd (h.2.2 v) al));clear m H;generalize l[i]=x at *;generalize l[i - 1]=y at *;have d:decide (x<0)=false:=cT c;have k:decide (n<=x)=false:=cT f;have p:decide (0<(i:Int))=true:=cJ al;have u:decide (x<=y)=true:=cJ r;go_wp2_with fail
       go_quiet (fail)
       go_wp2;go_ret;exact⟨by rw[B9.o];rfl,LV b _⟩
      ·have S:=Fa (RF B7.o (i:=i) (by rw[H.o];exact cJ ⟨al,al,fun _=>al⟩));clear m H;generalize l[i]=x at *;generalize l[i - 1]=y at *;have d:decide (x<0)=false:=cT c;have k:decide (n<=x)=false:=cT f;have p:decide (0<(i:Int))=true:=cJ al;have u:decide (x<=y)=false:=cT r;go_wp2_with fail
       go_quiet (fail)
       go_wp2;go_roundw
       case rel=>exact⟨i+1,al,bd,S.o,LV b _⟩
       case measure=>simp[intOf];omega
  ·obtain rfl:i=Z l:=al
   have B9:=Fa (T.o B7.o);go_wp2;go_ret;exact⟨by rw[B9.o];rfl,b⟩
variable {S vs:Jp}
def sz (S:Jp) (v:Nat):Nat:=S[v]?.getD 1
def cnt (S:Jp):Jp ->Nat
 |[]=>1
 |v::vs=>sz S v*cnt S vs
theorem asK (S a b:Jp):cnt S (a++b)=cnt S a*cnt S b:=by
 induction a with
 |nil=>simp[cnt]
 |cons v a ih=>simp only[gC,cnt,ih,ju]
theorem asH (S a:Jp) (v:Nat):cnt S (a++[v])=cnt S a*sz S v:=by rw[asK];simp[cnt]
def Pos (S:Jp):Prop:=∀x∈S,1<=x
theorem jM (h:Pos S) (v:Nat):1<=sz S v:=by
 rw[sz];cases e:S[v]? with
 |none=>simp
 |some x=>exact h x (VS e)
theorem LP (h:Pos S) (vs:Jp):1<=cnt S vs:=by
 induction vs with
 |nil=>exact ak _
 |cons v vs ih=>exact ld (jM h v) ih
def oQ (S:Jp):Jp ->Nat ->Jp
 |[],_=>[]
 |_::vs,k=>(k/cnt S vs)::oQ S vs (k % cnt S vs)
theorem ahU (S vs:Jp):∀k,Z (oQ S vs k)=Z vs:=by
 induction vs with
 |nil=>intro _;rfl
 |cons v vs ih=>intro k;simp[oQ,ih]
theorem ae3 (k c s:Nat):k % (s*c)/c=k/c % s:=by
 rw[eN s c,Nat.mod_mul_right_div_self]
theorem ae2 (k c s:Nat):k % (s*c) % c=k % c:=by
 rw[eN s c,Nat.mod_mul_right_mod]
def aY (S:Jp):Jp ->Nat ->Nat ->Nat
 |[],_,_=>0
 |u::vs,k,v=>if v=u then k/cnt S vs else aY S vs (k % cnt S vs) v
theorem LW:∀ {vs:Jp} {k v:Nat},¬v∈vs ->aY S vs k v=0
 |[],_,_,_=>rfl
 |u::vs,k,v,h=>by
  rw[aY,aD (fun e=>h (by rw[e];exact dA))];exact LW fun e=>h (dL _ e)
def dJ (S:Jp):Jp ->Nat ->Nat
 |[],_=>0
 |u::vs,v=>if v=u then cnt S vs else dJ S vs v
theorem WG:∀ {vs:Jp} {v:Nat},¬v∈vs ->dJ S vs v=0
 |[],_,_=>rfl
 |u::vs,v,h=>by
  rw[dJ,aD (fun e=>h (by rw[e];exact dA))];exact WG fun e=>h (dL _ e)
def pos (S:Jp) (f:Nat ->Nat) (vs:Jp):Nat:=vs.foldl (fun k v=>k*sz S v+f v) 0
theorem amE (S:Jp) (f:Nat ->Nat) (vs:Jp) (v:Nat):pos S f (vs++[v])=pos S f vs*sz S v+f v:=by simp[pos]
def gS (g:Nat ->Nat):Jp ->Nat
 |[]=>0
 |v::vs=>g v+gS g vs
theorem acs (g:Nat ->Nat) (a b:Jp):gS g (a++b)=gS g a+gS g b:=by
 induction a with
 |nil=>simp[gS]
 |cons v a ih=>simp only[gC,gS,ih];omega
theorem Km {g h:Nat ->Nat}:∀ {l:Jp},(∀v∈l,g v=h v) ->gS g l=gS h l
 |[],_=>rfl
 |v::l,e=>by rw[gS,gS,e v dA,Km fun u a=>e u (dL _ a)]
theorem T4 (S:Jp) (f:Nat ->Nat):∀(vs:Jp) (k:Nat),vs.foldl (fun k v=>k*sz S v+f v) k=k*cnt S vs+pos S f vs
 |[],k=>by simp[pos,cnt]
 |v::vs,k=>by
  have e:pos S f (v::vs)=f v*cnt S vs+pos S f vs:=by
   show vs.foldl (fun k v=>k*sz S v+f v) (0*sz S v+f v)=_;rw[T4 S f vs,oY,bK]
  rw[uk,T4 S f vs,e,cnt,iG,ju];omega
theorem RS (S:Jp) (f:Nat ->Nat):∀ {vs:Jp},vs.Nodup ->pos S f vs=gS (fun v=>f v*dJ S vs v) vs
 |[],_=>rfl
 |u::vs,h=>by
  rw[mY] at h;rw[pos,uk,T4,gS,RS S f h.2,oY,bK];congr 1
  ·rw[dJ,aA rfl]
  ·exact Km fun v a=>by rw[dJ,aD (fun e=>h.1 (by rw[<- e];exact a))]
theorem acu (g:Nat ->Nat) (n:Nat):∀ {vs:Jp},vs.Nodup ->(∀v∈vs,v<n) ->(∀v,¬v∈vs ->g v=0) ->gS g vs=gS g (List.range n):=by
 intro vs a t c
 have k:∀ {vs:Jp},vs.Nodup ->(∀v∈vs,v<n) ->gS g vs=gS (fun v=>if v∈vs then g v else 0) (List.range n):=by
  intro vs;induction vs with
  |nil=>
   intro _ _
   have:∀l:Jp,gS (fun v=>if v∈([]:Jp) then g v else 0) l=0:=by
    intro l;induction l with
    |nil=>rfl
    |cons x l ih=>rw[gS,ih];simp
   rw[this];rfl
  |cons u vs ih=>
   intro a t;rw[mY] at a;rw[gS,ih a.2 fun v b=>t v (dL _ b)];have d:=t u dA
   have o:∀m,u< m ->gS (fun v=>if v∈u::vs then g v else 0) (List.range m)=g u+gS (fun v=>if v∈vs then g v else 0) (List.range m):=by
    intro m;induction m with
    |zero=>intro h;omega
    |succ m NZ=>
     intro h;rw[xZ,acs,acs];by_cases e:u=m
     ·subst e
      have:gS (fun v=>if v∈u::vs then g v else 0) (List.range u)=gS (fun v=>if v∈vs then g v else 0) (List.range u):=Km fun v b=>by
       (have:¬v=u:=by have:=bR.1 b;omega);simp[this]
      rw[this];simp[gS,a.1];omega
     ·rw[NZ al];have:¬m=u:=fun h=>e h.symm;simp[gS,this];omega
   rw[o n d]
 rw[k a t]
 exact Km fun v _=>by
  by_cases h:v∈vs
  ·rw[aA h]
  ·rw[aD h,c v h]
theorem stand {other:Jp} (n k:Nat) (a:vs.Nodup) (o:other.Nodup) (g:∀v∈vs,v<n) (F:∀v∈other,v<n):gS (fun v=>aY S vs k v*dJ S other v) vs=pos S (aY S vs k) other:=by
 rw[RS S _ o,acu _ n a g,acu _ n o F]
 ·intro v h;rw[WG h,mV]
 ·intro v h;rw[LW h,oY]
theorem aty (u:Nat) (g:Jp) (k v:Nat):aY S (u::g) (k % cnt S (u::g)) v=if v=u then k/cnt S g % sz S u else aY S g (k % cnt S g) v:=by
 rw[aY,cnt,ae3 k _ _,ae2]
variable {n v:Nat}
def ag (l:Kx):Jp:=l.map Int.toNat
theorem gG (l:Kx):Z (ag l)=Z l:=by simp[ag]
theorem wO (h:i<Z l):(ag l)[i]'(by rw[gG];exact h)=l[i].toNat:=by simp[ag]
structure fJ (l:Kx):Prop where
 one:1<=Z l
 eight:Z l<=8
 each:∀i (h:i<Z l),1<=l[i]/\l[i]<=4
theorem aaj (h:pM l=xq):fJ l:=by
 rw[pM,iI,eM] at h
 exact⟨h.1.1,h.1.2,fun i a=>by
  have:=fG.1 h.2 l[i] (bQ a);simpa [C9] using this⟩
theorem fJ.pos (h:fJ l):Pos (ag l):=by
 intro x b;obtain⟨i,a,rfl⟩:=List.mem_iff_getElem.1 b;rw[gG] at a;rw[wO a];have:=h.each i a;omega
theorem fJ.sz_le (h:fJ l) (v:Nat):sz (ag l) v<=4:=by
 rw[sz];by_cases a:v<Z l
 ·rw[ba (by rw[gG];exact a),CP,wO a];have:=h.each v a;omega
 ·rw[jw (by rw[gG];omega)];simp
theorem fJ.sz_eq (h:fJ l) (a:v<Z l):(sz (ag l) v:Int)=l[v]:=by
 rw[sz,ba (by rw[gG];exact a),CP,wO a];have:=h.each v a;omega
structure Up (l:Kx) (n:Nat):Prop where
 each:∀i (h:i<Z l),0<=l[i]/\l[i]<n
 lt:∀i j (hj:j<Z l) (hi:i<j),l[i]<l[j]
theorem mC (h:dZ l n=xq):Up l n:=by
 have b:∀i (a:i<Z l),0<=l[i]/\l[i]<(n:Int)/\(0< i ->l.getD (i - 1) 0<l[i]):=fun i a=>by
  have:=fG.1 h i (bR.2 a);rw[mE,eM,getD_eq a] at this;exact this
 refine⟨fun i a=>⟨(b i a).1,(b i a).2.1⟩,?_⟩;intro i j;induction j with
 |zero=>intro _ h;omega
 |succ j ih=>
  intro e a;have c:=(b (j+1) e).2.2 al;rw[QS,getD_eq al] at c;rcases dR i j with d |d
  ·have:=ih al d;omega
  ·obtain rfl:i=j:=al
   exact c
theorem Up.nat (h:Up l n) (a:i<Z l):((l[i].toNat:Nat):Int)=l[i]/\l[i].toNat<n:=by
 have:=h.each i a;constructor<;>omega
theorem Up.aa (h:Up l n):∀v∈ag l,v<n:=by
 intro v b;obtain⟨i,a,rfl⟩:=List.mem_iff_getElem.1 b;rw[gG] at a;rw[wO a];exact(h.nat a).2
theorem Up.nodup (h:Up l n):(ag l).Nodup:=by
 rw[List.Nodup,zo];intro i j a b r;rw[gG] at a b;rw[wO a,wO b];have c:=h.lt i j b r;have d:=h.each i a;omega
theorem Up.ge (h:Up l n):∀i (a:i<Z l),(i:Int)<=l[i]:=by
 intro i;induction i with
 |zero=>intro a;exact(h.each 0 a).1
 |succ i ih=>
  intro a;have:=ih al;have:=h.lt i (i+1) a al;omega
theorem Up.length (h:Up l n):Z l<=n:=by
 rcases zj (Z l) with a |a
 ·omega
 ·have b:=h.ge (Z l - 1) al;have c:=(h.each (Z l - 1) al).2;omega
theorem ah6 (h:∀v,sz S v<=4):∀vs:Jp,cnt S vs<=4^Z vs
 |[]=>ak _
 |v::vs=>by
  rw[cnt,dX,jK,eN (4^_)];exact ld (h v) (ah6 h vs)
theorem xC (h:∀v,sz S v<=4) (a:Z vs<=8):cnt S vs<=65536:=by
 have b:=ah6 h vs;have c:4^Z vs<=4^8:=lJ a6 a;have d:(4:Nat)^8=65536:=a6
 omega
theorem ah5 (S vs:Jp) (h:i<Z vs):cnt S (vs.take (i+1))=cnt S (vs.take i)*sz S vs[i]:=by
 rw[ig h,asH]
def countB (Fb Fd:Kx):Bool:=pM Fb&&dZ Fd (Z Fb)
def kE (Fb Fd:Kx):Int×Int:=if countB Fb Fd=xq then(((cnt (ag Fb) (ag Fd):Nat):Int),0) else(0,11)
theorem LN {Fb Fd:Kx} (h:countB Fb Fd=xq):kE Fb Fd=(((cnt (ag Fb) (ag Fd):Nat):Int),0):=aA h
theorem LO {Fb Fd:Kx} (h:countB Fb Fd=x3):kE Fb Fd=(0,11):=aD (by rw[h];decide)
theorem amp (a b:Kd) (ca cb:Nat) (Fb Fd:Kx) (w:wA) (hs:aC w a Fb) (n:aC w b Fd) (F:Z Fb<=140737488355328) (B9:Z Fd<=140737488355328):
  c6 55 #[J a (Z Fb) ca,J b (Z Fd) cb] w (dj w (zz #[E yR (kE Fb Fd).1,E yR (kE Fb Fd).2])):=by
 have H:=Fa hs;have k:=Fa n;clear hs n;have f:=Fa (fun V h=>amj a ca Fb V h F);have q:=Fa (fun V h=>amb b cb Fd (Z Fb) V h B9);cases hf:pM Fb with
 |false=>
  have A:=Fa (LO (Fb:=Fb) (Fd:=Fd) (by rw[countB,hf];rfl));rw[hf] at f;generalize kE Fb Fd=r at *;generalize dZ Fd (Z Fb)=rb at *;go_enter func55,ntmps55;go_wp2_with fail
  refine(f.o _ H.o).af ?_;rintro e p ⟨rfl,c⟩;go_wp2_with fail
  refine(q.o _ (k.o.aa c)).af ?_;rintro e u ⟨rfl,d⟩;have j:=c.trans (d.af c.size);go_wp2;go_ret2;exact⟨by rw[A.o];rfl,j⟩
 |true=>
  rw[hf] at f;cases hr:dZ Fd (Z Fb) with
  |false=>
   have A:=Fa (LO (Fb:=Fb) (Fd:=Fd) (by rw[countB,hr,Bool.and_false]));rw[hr] at q;generalize kE Fb Fd=r at *;go_enter func55,ntmps55;go_wp2_with fail
   refine(f.o _ H.o).af ?_;rintro e p ⟨rfl,c⟩;go_wp2_with fail
   refine(q.o _ (k.o.aa c)).af ?_;rintro e u ⟨rfl,d⟩;have j:=c.trans (d.af c.size);go_wp2;go_ret2;exact⟨by rw[A.o];rfl,j⟩
  |true=>
   have A:=Fa (LN (Fb:=Fb) (Fd:=Fd) (by rw[countB,hf,hr];rfl));rw[hr] at q;have D:=aaj hf;have m:=mC hr;have T:=D.eight;have M:=m.length;have P:=Fa D;have B7:=Fa m;clear hf hr D m;generalize kE Fb Fd=r at *;go_enter func55,ntmps55;go_wp2_with fail
   refine(f.o _ H.o).af ?_;rintro e p ⟨rfl,c⟩;go_wp2_with fail
   refine(q.o _ (k.o.aa c)).af ?_;rintro e u ⟨rfl,d⟩;have j:=c.trans (d.af c.size);clear c d;go_wp2_with fail
   go_loopw [8,9] (fun nv iv wr=>∃i:Nat,i<=Z Fd/\iv=E yR i/\nv=E yR (cnt (ag Fb) ((ag Fd).take i):Nat)/\da w wr) (fun _ iv _=>Z Fd - (intOf iv).toNat)
   case atStart=>exact⟨0,aX _,rfl,rfl,j⟩
   case round=>
    obtain⟨i,B2,rfl,rfl,l⟩:=hrel;by_cases t:i<Z Fd
    ·obtain⟨g,o,rfl,L,y⟩:=(k.o.aa l) i t;obtain⟨Q,B6⟩:=B7.o.nat t
     have s:cnt (ag Fb) ((ag Fd).take (i+1))=cnt (ag Fb) ((ag Fd).take i)*sz (ag Fb) Fd[i].toNat:=by
      rw[ah5 _ _ (by rw[gG];exact t),wO t]
     have K:cnt (ag Fb) ((ag Fd).take (i+1))<=65536:=xC P.o.sz_le (by rw[eZ,gG];omega);generalize hV:Fd[i].toNat=v at *;rw[<- Q] at y;obtain⟨g',o',rfl,R,z⟩:=(H.o.aa l) v B6;rw[<- P.o.sz_eq B6] at z;rw[s] at K;have U:((cnt (ag Fb) ((ag Fd).take i):Nat):Int)*((sz (ag Fb) v:Nat):Int)=((cnt (ag Fb) ((ag Fd).take i)*sz (ag Fb) v:Nat):Int):=(ng _ _).symm;have S:=Fa s;clear s Q hV;generalize cnt (ag Fb) ((ag Fd).take i)=X at *;generalize sz (ag Fb) v=Y at *;(have B1:0<=(X:Int)*(Y:Int):=by rw[U];omega);(have vD:(X:Int)*(Y:Int)<=65536:=by rw[U];omega);have x:=Fa U;clear U;go_wp2;go_roundw
     case rel=>exact⟨i+1,al,bd,by rw[S.o, <- x.o],l⟩
     case measure=>simp[intOf];omega
    ·obtain rfl:i=Z Fd:=al
     rw[lg (by rw[gG];exact ak _)];go_wp2;go_ret2;exact⟨by rw[A.o];rfl,l⟩
theorem Gd {l:Jp} (h:i<Z l):l.getD i 0=l[i]:=by simp[List.getD,h]
theorem aat {Fb Fd:Kx} (h:countB Fb Fd=xq):fJ Fb/\Up Fd (Z Fb):=by
 rw[countB,iI] at h;exact⟨aaj h.1,mC h.2⟩
theorem ao5 (a:Kd) (cap:Nat) (l:Kx) (w:wA) (h:aC w a l) (s:Z l<=140737488355328):
  c6 146 #[J a (Z l) cap] w (dj w (zd (pM l))):=by
 have F:=Fa h;clear h;by_cases d:1<=Z l/\l.length<=8
 ·have H:we (pM l=l.all C9):=by show _=_;rw[pM,cJ d];rfl
  obtain⟨u,v⟩:=d;generalize pM l=f at *;go_enter func146,ntmps146;go_wp2_with fail
  go_loopw [15] (fun iv wr=>∃i:Nat,i<=Z l/\iv=E yR i/\we ((l.take i).all C9=xq)/\da w wr) (fun iv _=>Z l - (intOf iv).toNat)
  case atStart=>exact⟨0,aX _,rfl,rfl,aw _ _⟩
  case round=>
   obtain⟨i,r,rfl,B7,b⟩:=hrel;by_cases t:i<Z l
   ·obtain⟨g,o,rfl,q,k⟩:=(F.o.aa b) i t;by_cases e:1<=l[i]/\l[i]<=4
    ·have S:=Fa (aiH t B7.o (p:=C9) (cJ e));obtain⟨m,n⟩:=e;generalize l[i]=x at *;go_wp2;go_roundw
     case rel=>exact⟨i+1,al,bd,S.o,b⟩
     case measure=>simp[intOf];omega
    ·have B9:we (f=x3):=by show _=_;rw[H.o];exact aiJ t (cT e)
     rcases (show l[i]<1∨(1<=l[i]/\4<l[i]) by omega) with c |⟨c,j⟩
     all_goals
      clear e;generalize l[i]=x at *;go_wp2;go_ret;exact⟨by rw[B9.o];rfl,b⟩
   ·have B9:we (f=xq):=by
     show _=_;rw[H.o];have:=B7.o;rwa [lg al] at this
    go_wp2;go_ret;exact⟨by rw[B9.o];rfl,b⟩
 ·have B9:we (pM l=x3):=by show _=_;rw[pM,cT d];rfl
  generalize pM l=f at *;go_enter func146,ntmps146;rcases (show Z l<1∨(1<=Z l/\8<Z l) by omega) with c |⟨c,j⟩
  all_goals
   go_wp2;go_ret;exact⟨by rw[B9.o];rfl,aw _ _⟩
def least (l:Kx) (i:Nat):Int:=if i=0 then 0 else l.getD (i - 1) 0+1
theorem afA (h:i<Z l):least l (i+1)=l[i]+1:=by
 rw[least,aD al,QS,getD_eq h]
theorem aey {n:Int} (d:i<Z l) (h:(List.range i).all (mE l n)=xq):mE l n i=decide (least l i<=l[i]/\l[i]<n)/\0<=least l i:=by
 rw[mE,getD_eq d,least];by_cases b:i=0
 ·subst b;refine⟨?_,aE⟩;simp
 ·have p:=fG.1 h (i - 1) (bR.2 al);rw[mE,eM,getD_eq al] at p;rw[aD b,getD_eq al];refine⟨?_,al⟩;rw[EO];constructor
  ·intro ⟨_,a,c⟩;have:=c al;exact⟨al,a⟩
  ·intro ⟨e,a⟩;exact⟨al,a,fun _=>al⟩
theorem alW (a:Kd) (cap:Nat) (l:Kx) (n:Int) (w:wA) (h:aC w a l) (y:Z l<=140737488355328) (z:n<=140737488355328):
  c6 147 #[J a (Z l) cap,E yR n] w (dj w (zd (dZ l n))):=by
 have f:=Fa h;clear h;have d:=Fa (fun i h e=>WT (l:=l) (n:=n) (i:=i) h e);have T:we ((List.range (Z l)).all (mE l n)=xq ->dZ l n=xq):=id;generalize dZ l n=rb at *;go_enter func147,ntmps147;go_wp2_with fail
 go_loopw [5,10] (fun lv iv wr=>∃i:Nat,i<=Z l/\iv=E yR i/\lv=E yR (least l i)/\we ((List.range i).all (mE l n)=xq)/\da w wr) (fun _ iv _=>Z l - (intOf iv).toNat)
 case atStart=>exact⟨0,aX _,rfl,rfl,rfl,aw _ _⟩
 case round=>
  obtain⟨i,v,rfl,rfl,H,b⟩:=hrel;by_cases t:i<Z l
  ·obtain⟨g,o,rfl,u,p⟩:=(f.o.aa b) i t;obtain⟨F,A⟩:=aey t H.o;have k:=Fa (afA t);have c:=Fa F;clear F;generalize least l i=m at *;generalize l[i]=x at *;by_cases e:m<=x/\x<n
   ·have S:=Fa (RF H.o (by rw[c.o];exact cJ e));obtain⟨q,r⟩:=e;go_wp2;go_roundw
    case rel=>exact⟨i+1,al,bd,by rw[k.o],S.o,b⟩
    case measure=>simp[intOf];omega
   ·have B9:=Fa (d.o i t (by rw[c.o];exact cT e));rcases (show x<m∨(m<=x/\n<=x) by omega) with j |⟨j,s⟩
    all_goals
     clear e;go_wp2;go_ret;exact⟨by rw[B9.o];rfl,b⟩
  ·obtain rfl:i=Z l:=al
   have B9:=Fa (T.o H.o);go_wp2;go_ret;exact⟨by rw[B9.o];rfl,b⟩
theorem ah1 (a b:Kd) (ca cb:Nat) (Fb Fd:Kx) (w:wA) (hs:aC w a Fb) (e:aC w b Fd) (R:fJ Fb) (c:Up Fd (Z Fb)):
  c6 148 #[J a (Z Fb) ca,J b (Z Fd) cb] w (dj w (E yR (cnt (ag Fb) (ag Fd):Nat))):=by
 have H:=Fa hs;have V:=Fa e;have x:=R.eight;have M:=c.length;have d:=Fa R;have n:=Fa c;clear hs e R c;have f:we (cnt (ag Fb) ((ag Fd).take (Z Fd))=cnt (ag Fb) (ag Fd)):=by show _=_;rw[lg (by rw[gG];exact ak _)]
 go_enter func148,ntmps148;go_wp2_with fail
 go_loopw [5,10] (fun nv iv wr=>∃i:Nat,i<=Z Fd/\iv=E yR i/\nv=E yR (cnt (ag Fb) ((ag Fd).take i):Nat)/\da w wr) (fun _ iv _=>Z Fd - (intOf iv).toNat)
 case atStart=>exact⟨0,aX _,rfl,rfl,aw _ _⟩
 case round=>
  obtain⟨i,u,rfl,rfl,h⟩:=hrel;by_cases t:i<Z Fd
  ·obtain⟨g,o,rfl,q,j⟩:=(V.o.aa h) i t;obtain⟨k,B6⟩:=n.o.nat t
   have s:cnt (ag Fb) ((ag Fd).take (i+1))=cnt (ag Fb) ((ag Fd).take i)*sz (ag Fb) Fd[i].toNat:=by
    rw[ah5 _ _ (by rw[gG];exact t),wO t]
   have p:cnt (ag Fb) ((ag Fd).take (i+1))<=65536:=xC d.o.sz_le (by rw[eZ,gG];omega);generalize hV:Fd[i].toNat=v at *;rw[<- k] at j;obtain⟨g',o',rfl,A,m⟩:=(H.o.aa h) v B6;rw[<- d.o.sz_eq B6] at m;rw[s] at p;have l:((cnt (ag Fb) ((ag Fd).take i):Nat):Int)*((sz (ag Fb) v:Nat):Int)=((cnt (ag Fb) ((ag Fd).take i)*sz (ag Fb) v:Nat):Int):=(ng _ _).symm;have S:=Fa s;clear s k hV;generalize cnt (ag Fb) ((ag Fd).take i)=X at *;generalize sz (ag Fb) v=Y at *;(have y:0<=(X:Int)*(Y:Int):=by rw[l];omega);(have D:(X:Int)*(Y:Int)<=65536:=by rw[l];omega);have r:=Fa l;clear l;go_wp2;go_roundw
   case rel=>exact⟨i+1,al,bd,by rw[S.o, <- r.o],h⟩
   case measure=>simp[intOf];omega
  ·obtain rfl:i=Z Fd:=al
   rw[f.o];go_wp2;go_ret;exact⟨rfl,h⟩
theorem Rq (a b:Kd) (ca cb:Nat) (Fb Fd:Kx) (w:wA) (hs:aC w a Fb) (v:aC w b Fd) (n:Z Fb<=140737488355328) (m:Z Fd<=140737488355328):
  c6 92 #[J a (Z Fb) ca,J b (Z Fd) cb] w (dj w (zz #[E yR (kE Fb Fd).1,E yR (kE Fb Fd).2])):=by
 have H:=Fa hs;have g:=Fa v;clear hs v;have f:=Fa (fun V h=>ao5 a ca Fb V h n);have q:=Fa (fun V h=>alW b cb Fd (Z Fb) V h m al);cases hf:pM Fb with
 |false=>
  have A:=Fa (LO (Fb:=Fb) (Fd:=Fd) (by rw[countB,hf];rfl));rw[hf] at f;generalize kE Fb Fd=r at *;go_enter func92,ntmps92;go_wp2_with fail
  refine(f.o _ H.o).af ?_;rintro e j ⟨rfl,c⟩;go_wp2;go_ret2;exact⟨by rw[A.o];rfl,c⟩
 |true=>
  rw[hf] at f;cases hr:dZ Fd (Z Fb) with
  |false=>
   have A:=Fa (LO (Fb:=Fb) (Fd:=Fd) (by rw[countB,hr,Bool.and_false]));rw[hr] at q;generalize kE Fb Fd=r at *;go_enter func92,ntmps92;go_wp2_with fail
   refine(f.o _ H.o).af ?_;rintro e j ⟨rfl,c⟩;go_wp2_with fail
   refine(q.o _ (g.o.aa c)).af ?_;rintro e p ⟨rfl,i⟩;have d:=c.trans (i.af c.size);go_wp2;go_ret2;exact⟨by rw[A.o];rfl,d⟩
  |true=>
   have A:=Fa (LN (Fb:=Fb) (Fd:=Fd) (by rw[countB,hf,hr];rfl));rw[hr] at q;have u:=Fa (fun V k l=>ah1 a b ca cb Fb Fd V k l (aaj hf) (mC hr));generalize kE Fb Fd=r at *;go_enter func92,ntmps92;go_wp2_with fail
   refine(f.o _ H.o).af ?_;rintro e j ⟨rfl,c⟩;go_wp2_with fail
   refine(q.o _ (g.o.aa c)).af ?_;rintro e p ⟨rfl,i⟩;have d:=c.trans (i.af c.size);go_wp2_with fail
   refine(u.o _ (H.o.aa d) (g.o.aa d)).af ?_;rintro e t ⟨rfl,s⟩;go_wp2;go_ret2;exact⟨by rw[A.o];rfl,d.trans (s.af d.size)⟩
theorem apD (a:Kd) (ca:Nat) (Fb:Kx) (v:Nat) (x:Int) (w:wA) (hs:aC w a Fb) (R:fJ Fb) (h:v<Z Fb):
  c6 173 #[J a (Z Fb) ca,E yR (v:Nat),E yR x] w (dj w (zd (decide (0<=x/\x<(sz (ag Fb) v:Int))))):=by
 obtain⟨g,o,rfl,k,c⟩:=hs v h;rw[<- R.sz_eq h] at c;have t:=R.eight;generalize sz (ag Fb) v=Y at *;by_cases e:0<=x/\x<(Y:Int)
 ·rw[cJ e];obtain⟨f,i⟩:=e;go_enter func173,ntmps173;go_wp2;go_ret;exact⟨rfl,aw _ _⟩
 ·rw[cT e];rcases (show x<0∨(0<=x/\(Y:Int)<=x) by omega) with d |⟨d,j⟩
  all_goals
   clear e;go_enter func173,ntmps173;go_wp2;go_ret
   first
    |exact⟨rfl,aw _ _⟩
    |exact⟨eG (fun b=>Ending.returned (Value.bool b)) (cT al),aw _ _⟩
def aB:Jp ->Nat
 |[]=>0
 |v::l=>aB l |||2^v
theorem qD (l:Jp) (v:Nat):(aB l).testBit v=decide (v∈l):=by
 induction l with
 |nil=>simp[aB]
 |cons u l ih=>
  rw[aB,Nat.testBit_or,ih,Nat.testBit_two_pow];by_cases h:u=v
  ·subst h;simp
  ·have a:¬v=u:=fun e=>h e.symm;simp[h,a]
theorem Sr {a b:Jp} (h:∀x,x∈a↔x∈b):aB a=aB b:=by
 apply ML;intro i;rw[qD,qD];exact EO.2 (h i)
theorem vt:∀ {l:Jp},(∀v∈l,v<8) ->aB l<256
 |[],_=>a6
 |v::l,h=>by
  have a:=vt (l:=l) fun u c=>h u (dL _ c);have b:2^v<2^8:=VI a6 (h v dA);exact Nat.or_lt_two_pow (n:=8) a b
theorem atn (s v:Nat):(s/2^v&&&1=1)↔s.testBit v=true:=by
 rw[Nat.testBit_eq_decide_div_mod_eq,eM,Nat.and_one_is_mod]
theorem aqf {s p:Nat} (hs:s<256) (f:p<256):(p&&&(4294967295 - s)=0)↔∀v,p.testBit v=xq ->s.testBit v=true:=by
 have e:4294967295 - s=2^32 - (s+1):=al
 have d:s<2^32:=al
 rw[e];constructor
 ·intro h v b;have c:(p&&&(2^32 - (s+1))).testBit v=false:=by rw[h];simp
  rw[QP,b,VG d,Hp] at c
  have l:v<32:=by
   rcases dR v 32 with a |a
   ·exact a
   ·have:=Nat.testBit_lt_two_pow (x:=p) (i:=v) (aT (show p<2^32 by omega) (lJ a6 a));rw[this] at b;cases b
  simpa [l] using c
 ·intro h;apply ML;intro i;rw[QP,VG d,Nat.zero_testBit];cases hp':p.testBit i
  ·rfl
  ·rw[h i hp'];simp
theorem Ks (l:Jp) (v:Nat) (w:wA) (h:∀u∈l,u<8) (b:v<8):
  c6 181 #[E yW (aB l:Nat),E yR (v:Nat)] w fun e w'=>e=yk (E yW (aB (v::l):Nat))/\w'=w:=by
 have hs:=vt h;have c:2^v<256:=show 2^v<2^8 from VI a6 b
 have B9:we (bits BinOp.or IntKind.u32 (aB l:Nat) (2^v % 4294967296)=((aB (v::l):Nat):Int)):=by
  show _=_
  have e:((2:Int)^v % 4294967296)=((2^v:Nat):Int):=by
   (have a:((2:Int)^v)=((2^v:Nat):Int):=by rw[Int.natCast_pow];rfl);rw[a];generalize (2^v:Nat)=q at *;omega
  rw[e,u32_or_nat _ _ al al];rfl
 generalize aB (v::l)=r at *;generalize aB l=s at *;go_enter func181,ntmps181;go_wp2;go_ret;exact⟨by rw[B9.o];rfl,rfl⟩
theorem Kt (l:Jp) (v:Nat) (w:wA) (h:∀u∈l,u<8) (a:v<8):
  c6 222 #[E yW (aB l:Nat),E yR (v:Nat)] w fun e w'=>e=yk (zd (decide (v∈l)))/\w'=w:=by
 have hs:=vt h
 have B9:we ((bits BinOp.and IntKind.u32 ((aB l:Nat)/2^v) 1==1)=decide (v∈l)):=by
  show _=_;have e:(((aB l:Nat):Int)/2^v)=((aB l/2^v:Nat):Int):=by rw[A3,Int.natCast_pow];rfl
  have b:aB l/2^v<=aB l:=AW _ _;rw[e,show (1:Int)=((1:Nat):Int) from rfl,u32_and_nat _ _ al al, <- qD,wL, <- atn,xX];omega
 generalize decide (v∈l)=r at *;generalize aB l=s at *;go_enter func222,ntmps222;go_wp2;go_ret;exact⟨by rw[B9.o];rfl,rfl⟩
theorem alI (l p:Jp) (w:wA) (a:∀u∈l,u<8) (b:∀u∈p,u<8):
  c6 224 #[E yW (aB l:Nat),E yW (aB p:Nat)] w fun e w'=>e=yk (zd (decide (∀v∈p,v∈l)))/\w'=w:=by
 have hs:=vt a;have q:=vt b
 have B9:we ((bits BinOp.andNot IntKind.u32 (aB p:Nat) (aB l:Nat)==0)=decide (∀v∈p,v∈l)):=by
  show _=_;have h:=aqf hs q;simp only[qD,VF] at h;rw[u32_andNot_nat _ _ al al,wL,xX,eM, <- h];omega
 generalize decide (∀v∈p,v∈l)=r at *;generalize aB l=s at *;generalize aB p=t at *;go_enter func224,ntmps224;go_wp2;go_ret;exact⟨by rw[B9.o];rfl,rfl⟩
theorem ac7 (f:n<=8) (h:(List.range i).all (mE l n)=xq) (e:i<=Z l):∀u∈ag (l.take i),u<8:=by
 intro u c;obtain⟨x,d,rfl⟩:=aQ.1 c;obtain⟨j,b,rfl⟩:=iQ d;rw[eZ] at b;have a:=fG.1 h j (bR.2 al);rw[mE,eM,getD_eq al] at a;rw[x4];omega
def setA (l:Kx) (n:Nat):Nat:=if dZ l n=xq then aB (ag l) else 0
theorem acW (a:Kd) (cap:Nat) (l:Kx) (n:Nat) (w:wA) (h:aC w a l) (B2:Z l<=140737488355328) (u:n<=8):
  c6 127 #[J a (Z l) cap,E yR (n:Nat)] w fun e w'=>e=yk (zz #[E yW (setA l n:Nat),zd (dZ l n)])/\w'=w:=by
 have d:=Fa h;clear h;have c:=Fa (fun i h e=>WT (l:=l) (n:=n) (i:=i) h e);have T:we ((List.range (Z l)).all (mE l n)=xq ->dZ l n=xq):=id;have Q:we (dZ l n=xq ->setA l n=aB (ag l)):=fun h=>aA h;have q:we (dZ l n=x3 ->setA l n=0):=fun h=>aD (by rw[h];decide);generalize dZ l n=rb at *;generalize setA l n=P at *;go_enter func127,ntmps127;go_wp2_with fail
 go_loopw [6,7,12] (fun sv lv iv wr=>∃i:Nat,i<=Z l/\iv=E yR i/\lv=E yR (least l i)/\sv=E yW (aB (ag (l.take i)):Nat)/\we ((List.range i).all (mE l n)=xq)/\wr=w) (fun _ _ iv _=>Z l - (intOf iv).toNat)
 case atStart=>exact⟨0,aX _,rfl,rfl,rfl,rfl,rfl⟩
 case round=>
  obtain⟨i,j,rfl,rfl,rfl,H,rfl⟩:=hrel;by_cases t:i<Z l
  ·obtain⟨g,o,rfl,M,B7⟩:=d.o i t;obtain⟨F,V⟩:=aey t H.o;have s:=Fa (afA t);have b:=Fa F;have r:=Fa (ac7 u H.o j)
   have v:we (∀x:Nat,(x:Int)=l[i] ->aB (x::ag (l.take i))=aB (ag (l.take (i+1)))):=fun x k=>Sr fun z=>by
    rw[ig t, <- k,ag,ag,gK];simp only[bU,bH,fR,om,gw,jf,oC];exact or_comm
   clear F;generalize hs1:aB (ag (l.take (i+1)))=R at *;have p:=Fa hs1;clear hs1;generalize ag (l.take i)=D at *;generalize least l i=m at *;generalize l[i]=x at *;by_cases e:m<=x/\x<n
   ·have S:=Fa (RF H.o (by rw[b.o];exact cJ e));obtain⟨B6,K⟩:=e;obtain⟨X,rfl⟩:∃X:Nat,x=X:=⟨x.toNat,al⟩;have y:=v.o X rfl;go_wp2_with fail
    refine(Ks D X _ r.o al).af ?_;rintro e U ⟨rfl,rfl⟩;rw[y];go_wp2;go_roundw
    case rel=>exact⟨i+1,al,bd,by rw[s.o],by rw[p.o],S.o,trivial⟩
    case measure=>simp[intOf];omega
   ·have B9:=Fa (c.o i t (by rw[b.o];exact cT e));rcases (show x<m∨(m<=x/\(n:Int)<=x) by omega) with f |⟨f,L⟩
    all_goals
     clear e;go_wp2;go_ret2;exact⟨by rw[q.o B9.o,B9.o];rfl,rfl⟩
  ·obtain rfl:i=Z l:=al
   have B9:=Fa (T.o H.o);have A:=Fa (Q.o B9.o);rw[iP];go_wp2;go_ret2;exact⟨by rw[A.o,B9.o];rfl,rfl⟩
theorem Kn {α:Type} {P:List α ->Prop} (h0:P []) (h1:∀l a,P l ->P (l++[a])) (l:List α):P l:=by
 have h:∀m:List α,P m.reverse:=by
  intro m;induction m with
  |nil=>exact h0
  |cons a m ih=>rw[List.reverse_cons];exact h1 _ _ ih
 have:=h l.reverse;rwa [List.reverse_reverse] at this
def nb (l:List UInt8):Nat:=l.foldl (fun n c=>n*256+c.toNat) 0
theorem Ia:nb []=0:=rfl
theorem Bu (l:List UInt8) (c:UInt8):nb (l++[c])=nb l*256+c.toNat:=by simp[nb]
theorem Fo (a b:List UInt8):nb (a++b)=nb a*256^Z b+nb b:=by
 induction b using Kn with
 |h0=>simp[Ia]
 |h1 l c ih=>
  rw[<- qj,Bu,ih,Bu,cD,Hl,jK,iG,ju,zl]
theorem aob (c:UInt8):nb [c]=c.toNat:=by simp[nb]
theorem Ib (c:UInt8) (l:List UInt8):nb (c::l)=c.toNat*256^Z l+nb l:=by
 have:=Fo [c] l;rwa [List.singleton_append,aob] at this
theorem wW (l:List UInt8):nb l<256^Z l:=by
 induction l using Kn with
 |h0=>simp[Ia]
 |h1 l c ih=>
  rw[Bu,cD,Hl,jK];have:=c.toNat_lt;omega
def bn (n:Nat):List UInt8:=if _h:n=0 then[] else bn (n/256)++[UInt8.ofNat (n % 256)]
theorem sO:bn 0=[]:=by rw[bn];simp
theorem sP (n:Nat) (h:n≠0):bn n=bn (n/256)++[UInt8.ofNat (n % 256)]:=by rw[bn];simp[h]
theorem ofNat_toNat (n:Nat):(UInt8.ofNat (n % 256)).toNat=n % 256:=aE
theorem XO (n:Nat):nb (bn n)=n:=by
 induction n using Nat.strongRecOn with
 |ind n ih=>
  by_cases h:n=0
  ·subst h;simp[sO,Ia]
  ·rw[sP n h,Bu,ih (n/256) al,ofNat_toNat];omega
theorem atl (n:Nat) (c:UInt8) (h:n≠0∨c.toNat≠0):bn (n*256+c.toNat)=bn n++[c]:=by
 have a:=c.toNat_lt;rw[sP _ al,show (n*256+c.toNat)/256=n by omega,show (n*256+c.toNat) % 256=c.toNat by omega];simp
theorem aaC (l:List UInt8):bn (nb l)=l.dropWhile (·==0):=by
 induction l using Kn with
 |h0=>simp[Ia,sO]
 |h1 l c ih=>
  rw[Bu];by_cases h:nb l≠0∨c.toNat≠0
  ·rw[atl _ _ h,ih];by_cases a:l.dropWhile (·==0)=[]
   ·have z:nb l=0:=by rw[<- XO (nb l),ih,a,Ia]
    (have b:c≠0:=by intro e;subst e;simp[z] at h);rw[a,List.dropWhile_append,a];simp[b]
   ·rw[List.dropWhile_append];simp[a]
  ·have h1:nb l=0:=al
   (have d:c.toNat=0:=al);(have b:c=0:=by simpa [<- QO] using d);rw[h1,d];rw[h1,sO] at ih;rw[List.dropWhile_append, <- ih];simp[b,sO]
theorem aaD {a b:Nat} (h:a<=b):Z (bn a)<=Z (bn b):=by
 induction a using Nat.strongRecOn generalizing b with
 |ind a ih=>
  by_cases c:a=0
  ·subst c;simp[sO]
  ·rw[sP a c,sP b al];have:= @ih (a/256) al (b/256) al;simp;omega
def W:Nat:=4294967296
theorem ja:W=4294967296:=rfl
theorem nR:0<W:=a6
def nw:Jp ->Nat
 |[]=>0
 |x::r=>x+W*nw r
theorem pq:nw []=0:=rfl
theorem mG (x:Nat) (r:Jp):nw (x::r)=x+W*nw r:=rfl
theorem Da (a b:Jp):nw (a++b)=nw a+W^Z a*nw b:=by
 induction a with
 |nil=>simp[pq]
 |cons x a ih=>rw[gC,mG,mG,ih,dX,jK,oZ];rw[eN (W^Z a) W,ju];omega
theorem Fl (a:Jp) (x:Nat):nw (a++[x])=nw a+W^Z a*x:=by rw[Da,mG,pq];simp
def Small (l:Jp):Prop:=∀x∈l,x<W
theorem yj (l:Jp) (h:Small l):nw l<W^Z l:=by
 induction l with
 |nil=>simp[pq]
 |cons x r ih=>
  have a:=ih (fun y b=>h y (dL _ b));have c:=h x (dA);rw[mG,dX,jK];have:W*(nw r+1)<=W*W^Z r:=mW _ a;rw[eN (W^Z r) W];rw[oZ] at this;omega
def words (n:Nat):Jp:=if _h:n=0 then[] else(n % 4294967296)::words (n/4294967296)
theorem zr:words 0=[]:=by rw[words,dif_pos rfl]
theorem CX (n:Nat) (h:n≠0):words n=(n % W)::words (n/W):=by rw[words,dif_neg h,ja]
theorem Ui (h:n≠0):n/W<n:=Nat.div_lt_self (mj h) a6
theorem mF (n:Nat):nw (words n)=n:=by
 induction n using Nat.strongRecOn with
 |ind n ih=>
  by_cases h:n=0
  ·subst h;simp[zr,pq]
  ·rw[CX n h,mG,ih _ (Ui h)];exact Nat.mod_add_div n W
theorem pg (n:Nat):Small (words n):=by
 induction n using Nat.strongRecOn with
 |ind n ih=>
  by_cases h:n=0
  ·subst h;simp[zr,Small]
  ·rw[CX n h];intro x a;rcases bU.1 a with rfl |a
   ·exact jh _ nR
   ·exact ih _ (Ui h) x a
theorem Rg (n:Nat):words n=[]↔n=0:=by
 constructor
 ·intro h;rw[<- mF n,h,pq]
 ·rintro rfl;exact zr
theorem abM (n:Nat) (h:words n≠[]):(words n).getLast h≠0:=by
 induction n using Nat.strongRecOn with
 |ind n ih=>
  have b:n≠0:=fun e=>h ((Rg n).2 e);by_cases a:words (n/W)=[]
  ·have z:=(Rg _).1 a
   have:(words n).getLast h=n % W:=by
    have w:=CX n b;rw[a] at w;simp[w]
   rw[this];intro m;have:=Nat.mod_add_div n W;rw[m,z] at this;simp at this;exact b this.symm
  ·have:(words n).getLast h=(words (n/W)).getLast a:=by
    have w:=CX n b;simp only[w];rw[List.getLast_cons a]
   rw[this];exact ih _ (Ui b) a
theorem ajL (l:Jp) (hs:Small l) (b:∀h:l≠[],l.getLast h≠0):words (nw l)=l:=by
 induction l with
 |nil=>simp[pq,zr]
 |cons x r ih=>
  have c:=hs x (dA);have a:words (nw r)=r:=ih (fun y d=>hs y (dL _ d)) (fun h=>by have:=b aE;rwa [List.getLast_cons h] at this)
  have n:nw (x::r)≠0:=by
   intro h;rw[mG] at h;(have f:x=0:=al)
   have e:nw r=0:=by
    (have:W*nw r=0:=al);rcases Nat.mul_eq_zero.1 this with h |h
    ·simp[W] at h
    ·exact h
   rw[e,zr] at a;subst a;exact b aE (by simpa using f)
  rw[CX _ n,mG,abu,kM c,Nat.add_mul_div_left _ _ nR,zk c,bK,a]
theorem Rh (n:Nat):Z (words n)=(Z (bn n)+3)/4:=by
 induction n using Nat.strongRecOn with
 |ind n ih=>
  by_cases h:n=0
  ·subst h;simp[zr,sO]
  ·rw[CX n h,dX,ih _ (Ui h)];by_cases a:n/256=0
   ·rw[sP n h,a,sO,show n/W=0 by simp only[W];omega,sO];simp
   ·by_cases b:n/256/256=0
    ·rw[sP n h,sP _ a,b,sO,show n/W=0 by simp only[W];omega,sO];simp
    ·by_cases c:n/256/256/256=0
     ·rw[sP n h,sP _ a,sP _ b,c,sO,show n/W=0 by simp only[W];omega,sO];simp
     ·rw[sP n h,sP _ a,sP _ b,sP _ c,show n/256/256/256/256=n/W by simp only[W];omega];simp;omega
def part (n i:Nat):Nat:=n/W^i % W
theorem am2 (n:Nat):part n 0=n % W:=by rw[part,MG,Hi]
theorem am3 (n i:Nat):part n (Nat.succ i)=part (n/W) i:=by rw[part,part,Nat.succ_eq_add_one,jK,eN,VM]
theorem ajN (i:Nat):∀n,i<Z (words n) ->(words n)[i]? =I (part n i):=by
 induction i with
 |zero=>
  intro n h;have a:n≠0:=by rintro rfl;rw[zr] at h;simp at h
  rw[CX n a,am2];rfl
 |succ i ih=>
  intro n h;have a:n≠0:=by rintro rfl;rw[zr] at h;simp at h
  rw[CX n a,dX] at h;rw[CX n a,List.getElem?_cons_succ,ih _ (Nat.lt_of_succ_lt_succ h), <- am3]
theorem ajO (n:Nat):words n=(List.range (Z (words n))).map (part n):=by
 apply MT;intro i;rw[mr];by_cases h:i<Z (words n)
 ·rw[ajN i n h,QZ h];rfl
 ·rw[jw al,jw (by simpa using h)];rfl
theorem at4 (i:Nat):W^i=256^(4*i):=by rw[Nat.pow_mul];rfl
theorem am4 (l:List UInt8) (i:Nat) (h:4*i<=Z l):nb ((l.take (Z l - 4*i)).drop (Z l - 4*i - 4))=part (nb l) i:=by
 have a:nb (l.take (Z l - 4*i))=nb l/W^i:=by
  have b:=AX (Z l - 4*i) l;have n:=Fo (l.take (Z l - 4*i)) (l.drop (Z l - 4*i));rw[b] at n;have e:Z (l.drop (Z l - 4*i))=4*i:=by simp;omega
  rw[e] at n;have t:=wW (l.drop (Z l - 4*i));rw[e] at t;have p:0<256^(4*i):=wH a6;rw[at4,n,ET,VO _ _ p,zk t,bK]
 rw[part, <- a];generalize hm:l.take (Z l - 4*i)=m;have v:Z m=Z l - 4*i:=by rw[<- hm];simp
 rw[<- v];have n:=Fo (m.take (Z m - 4)) (m.drop (Z m - 4));rw[AX] at n;by_cases c:4<=Z m
 ·have e:Z (m.drop (Z m - 4))=4:=by simp;omega
  have t:=wW (m.drop (Z m - 4));rw[e] at n t;rw[n,show (256:Nat)^4=W from rfl,ET,VN];exact(kM t).symm
 ·have z:Z m - 4=0:=al
  rw[z,EZ];have t:=wW m;have:256^Z m<=256^4:=lJ a6 al;exact(kM (by show nb m<256^4;omega)).symm
theorem XE (l:Jp) (k:Nat) (h:k<Z l):nw (l.take (k+1))=nw (l.take k)+W^k*l[k]:=by
 rw[ig h,Fl,eZ,wI (AV h)]
theorem Ko {l:Jp} (h:Small l) (k:Nat):Small (l.take k):=fun x a=>h x (QV a)
theorem V7 (l:Jp) (hs:Small l) (k:Nat) (b:k<=Z l) (n:nw (l.take k)=nw l) (a:k=0∨l[k - 1]?.getD 0≠0):words (nw l)=l.take k:=by
 rw[<- n];refine ajL _ (Ko hs k) fun h=>?_;rcases a with rfl |a
 ·simp at h
 ·have c:k≠0:=by rintro rfl;simp at h
  rw[List.getLast_eq_getElem];simp only[eZ,wI b,x4];rwa [ba al] at a
theorem Rf (l:Jp) (hs:Small l):∃k,k<=Z l/\words (nw l)=l.take k:=by
 induction l using Kn with
 |h0=>exact⟨0,ak _,by rw[pq,zr];rfl⟩
 |h1 l a ih=>
  by_cases h:a=0
  ·subst h;obtain⟨k,b,e⟩:=ih (fun x c=>hs x (AY _ c));refine⟨k,by simp;omega,?_⟩;rw[Fl,mV,ji,e,VP b]
  ·refine⟨Z (l++[a]),ak _,?_⟩;exact V7 _ hs _ (ak _) (by rw[iP]) (Or.inr (by simpa using h))
theorem ako (l q:Jp) (m y:Nat) (h:m<Z l):(l.take (m+1)++q).set m y=l.take m++y::q:=by
 rw[ig h,qj];have e:Z (l.take m)=m:=by simp;omega
 rw[Hj _ _ al,e,rT];rfl
section
open Go.Shelf
attribute [local go_sem] Oper.semAt_some
variable {Bn:Nat}
def N (s:ByteArray):Nat:=nb s.data.toList
def B (n:Nat):ByteArray:=⟨(bn n).toArray⟩
theorem cQ (n:Nat):N (B n)=n:=XO n
theorem nZ (n:Nat):(B n).size=Z (bn n):=by simp[B,ByteArray.size]
theorem aj9 (s:ByteArray):(⟨(Lib.trimLeftB s.data.toList 0).toArray⟩:ByteArray)=B (N s):=by
 rw[B,N,aaC];rfl
theorem C3 {k:IntKind} {a b:Int} (h:a=b):Ending.returned (E k a)=yk (E k b):=by rw[h]
theorem int_eq {k:IntKind} {a b:Int} (h:a=b):Value.int k a=E k b:=by rw[h]
theorem Gk (s:ByteArray) (w:wA):
  c6 244 #[zX s] w fun e w'=>e=yk (zX (B (N s)))/\w'=w:=by
 rw[<- aj9];go_enter func244,ntmps244;go_wp2_with (go_at_call 277;refine(Tryz.strings_TrimLeft_one _ 0 a6 _).af ?_;rintro e w' ⟨rfl,rfl⟩)
 go_ret;exact⟨rfl,rfl⟩
theorem ah0 (s:ByteArray) (w:wA) (hs:s.size<=140737488355328):
  c6 247 #[zX s] w fun e w'=>e=yk (E yR ((s.size+3)/4:Nat))/\w'=w:=by
 go_enter func247,ntmps247;go_wp2;go_ret;exact⟨C3 al,rfl⟩
theorem anD (p c:Nat) (a:p<16777216) (h:c<256):bits .or yW ((p:Int)*256) (c:Int)=((p*256+c:Nat):Int):=by
 have e:(p:Int)*256=((p*256:Nat):Int):=al
 rw[e,u32_or_nat _ _ al al,nat_join 8 _ _ al h]
theorem Nf (s:ByteArray) (k:Nat) (h:k<s.size):s.data.toList.take (k+1)=s.data.toList.take k++[s[k]]:=by
 rw[ig (by simpa using h)];rfl
theorem aoc (l:List UInt8) (k:Nat) (h:Z l<=k):nb l<256^k:=
 aT (wW l) (lJ a6 h)
theorem al1 (s:ByteArray) (w:wA) (hs:s.size<=4):
  c6 279 #[zX s] w fun e w'=>e=yk (E yW (N s))/\w'=w:=by
 go_enter func279,ntmps279;go_wp2;go_loop [3,7] (fun n i=>∃k:Nat,k<=s.size/\i=E yR k/\n=E yW (nb (s.data.toList.take k))) (fun _ i=>s.size - (intOf i).toNat)
 case atStart=>exact⟨0,aX _,rfl,rfl⟩
 case round=>
  obtain⟨k,a,rfl,rfl⟩:=hrel;by_cases h:k<s.size
  ·have b:nb (s.data.toList.take k)<16777216:=aoc _ 3 (by simp;omega);have c:=s[k].toNat_lt;(have S:we (nb (s.data.toList.take (k+1))=nb (s.data.toList.take k)*256+s[k].toNat):=by rw[Nf s k h,Bu];rfl);have H:we (bits .or yW ((nb (s.data.toList.take k):Int)*256) (s[k].toNat:Int)=((nb (s.data.toList.take k)*256+s[k].toNat:Nat):Int)):=anD _ _ b c;generalize nb (s.data.toList.take k)=p at *;go_wp2;go_round
   case rel=>exact⟨k+1,al,bd,by rw[S.o];exact int_eq H.o⟩
   case measure=>simp[intOf];omega
  ·go_wp2;go_ret;exact⟨C3 (by rw[N,lg (by simp;omega)]),rfl⟩
def qX (Bn:Nat) (V V':wA):Prop:=AJ V' ⟨Bn,0,O⟩=AJ V ⟨Bn,0,O⟩
theorem qX.t {A B C:wA} (h:qX Bn A B) (k:qX Bn B C):qX Bn A C:=Eq.trans k h
theorem qX.b (n:Bn<w.heap.size) (V:wA) (l:Nat) (o o':Obj) (h:w.heap.size<=l) (_:V.heap[l]? =I o) (_:o.isCells=x3) (_:o.isWalk=x3):qX Bn V (V.putObj l o'):=
 iE (zh (show Bn≠l by omega))
def upto (n k:Nat):Jp:=(List.range k).map (part n)
theorem ab1 (n k:Nat):upto n (k+1)=upto n k++[part n k]:=by simp[upto,xZ]
theorem aj2 (n k:Nat):Z (upto n k)=k:=by simp[upto]
theorem am1 (s:ByteArray) (k:Nat) (h:4*k<=s.size):N (s.extract (s.size - 4*k - 4) (s.size - 4*k))=part (N s) k:=by
 rw[N,N, <- am4 _ _ (by simpa using h)];congr 1
 rw[ByteArray.data_extract];simp[List.drop_take]
theorem al0 (s:ByteArray) (k:Nat) (w:wA) (h:4*k<=s.size):
  c6 279 #[zX (s.extract (max 0 ((s.size:Int) - (k:Int)*4 - 4)).toNat (s.size - k*4))] w fun e w'=>e=yk (E yW (part (N s) k:Nat))/\w'=w:=by
 have a:(max 0 ((s.size:Int) - (k:Int)*4 - 4)).toNat=s.size - 4*k - 4:=al
 have b:s.size - k*4=s.size - 4*k:=al
 rw[a,b, <- am1 s k h];exact al1 _ w (by rw[ByteArray.size_extract];omega)
theorem arC (n:Nat) (j:1<=n) (l Bn:Nat) (s:ByteArray) (hs:s.size<=140737488355328) (B6 a:Jp ->wA ->Prop)
  (Y:∀p x V,B6 p V ->Z p<(s.size+3)/4 ->YieldAt Fence.wide (n - 1) prog l #[E yW (x:Nat)] V fun e V'=>
   (e=yk (zd xq)/\B6 (p++[x]) V'/\qX Bn V V')∨(e=yk (zd x3)/\a (p++[x]) V'))
  (V:wA) (B7:AJ V ⟨Bn,0,O⟩=I (zX s)) (h0:B6 [] V):
  CallsIn Fence.wide n prog 278 #[.func (.yield l) #[] #[],zZ (I ⟨Bn,0,O⟩)] V fun e V'=>(∃v,e=yk v)/\
   ((∃y,y=upto (N s) ((s.size+3)/4)/\B6 y V')∨(∃p,(∃k,k<=(s.size+3)/4/\p=upto (N s) k)/\a p V')):=by
 refine JP func278 rfl trivial ?_ rfl;simp only[ntmps278,mX,dX,mo,Nat.reduceAdd,Nat.reduceSub,o8,o7,o6,oB,iH,gC];gi_wp2_with (refine⟨trivial,?_⟩;gi_at_call 247;refine(jg.2 (ah0 _ _ hs)).af ?_;rintro e w' ⟨rfl,rfl⟩)
 gi_loopw [7] (fun i wr=>∃k:Nat,k<=(s.size+3)/4/\i=E yR k/\B6 (upto (N s) k) wr/\wr.cell? ⟨Bn,0,O⟩=I (zX s))
  (fun i _=>(s.size+3)/4 - (intOf i).toNat)
 case atStart=>exact⟨0,aX _,rfl,h0,B7⟩
 case round=>
  obtain⟨k,g,rfl,h,b⟩:=hrel;by_cases t:k<(s.size+3)/4
  ·obtain⟨fn,q,r,o,m,R⟩:=Y _ (part (N s) k) wr h (by rw[aj2];exact t);gi_wp2_with (refine⟨trivial,?_⟩;gi_at_call 279;refine(jg.2 (al0 s k _ al)).af ?_;rintro e w' ⟨rfl,rfl⟩)
   refine R.af ?_;rintro e W3 (⟨rfl,c,d⟩ |⟨rfl,f⟩)
   ·have B1:AJ W3 ⟨Bn,0,O⟩=I (zX s):=Eq.trans d b;gi_wp2
    go_roundw
    case rel=>exact⟨k+1,al,aE,by rw[ab1];exact c,B1⟩
    case measure=>simp[intOf];omega
   ·gi_wp2
    refine cN (results_none rfl _ _ _) rfl ?_;exact⟨⟨_,rfl⟩,xS ⟨_,⟨k+1,al,(ab1 _ _).symm⟩,f⟩⟩
  ·obtain rfl:k=(s.size+3)/4:=al
   gi_wp2
   go_end0
   exact⟨⟨_,rfl⟩,yp ⟨_,rfl,h⟩⟩
theorem arB (n:Nat) (s:ByteArray) (w:wA):
  CallsIn Fence.wide n prog 248 #[zX s] w fun e w'=>e=yk (.func (.func 278) #[] #[zZ (I ⟨w.heap.size,0,O⟩)])/\w'=AC w (yd #[zX s] 61):=by
 refine JP func248 rfl trivial ?_ rfl;simp only[ntmps248,mX,dX,mo,Nat.reduceAdd,Nat.reduceSub,o8,o7,o6,oB,iH,gC];gi_wp2
 go_ret;exact⟨rfl,rfl⟩
theorem arA (n:Nat) (d:1<=n) (Bn:Nat) (s:ByteArray) (hs:s.size<=140737488355328) (w:wA) (B7:Bn<w.heap.size) (c:AJ w ⟨Bn,0,O⟩=I (zX s)):
  SeqStopsK Fence.wide n prog 278 #[zZ (I ⟨Bn,0,O⟩)] (fun x:Nat=> #[Value.int yW (x:Nat)]) (qX Bn) (fun y=>y=upto (N s) ((s.size+3)/4)) (fun e=>∃k,k<=(s.size+3)/4/\e=upto (N s) k) ((s.size+3)/4) w:=fun l B6 a V b _ _ Y h=>
 arC n d l Bn s hs B6 a Y V ((b.cell (p:=⟨Bn,0,O⟩) B7).trans c) h
theorem Tryz.infoU32:(prog.info? 157).map (fun i=>(i.zero,i.size,i.bytes))=I (I (E yW 0),1,4):=ao
def u32 (x:Nat):Value:=E yW (x:Nat)
theorem aj1 (n:Nat):upto n (((B n).size+3)/4)=words n:=by
 rw[nZ, <- Rh,upto, <- ajO]
end
section
open Go.Shelf
attribute [local go_sem] Oper.semAt_some
theorem kd (s:ByteArray):(B (N s)).size<=s.size:=by
 rw[nZ,N,aaC];have:Z (s.data.toList.dropWhile (·==0))<=Z s.data.toList:=(List.dropWhile_sublist _).length_le;simpa using this
end
def lenOf:wQ ->Nat |.slice _ n _=>n |_=>0
theorem Rz (b f cap:Nat) (l:Jp) (w:wA) (hs:Small l) (B7:Z l<=cap) (i:Z l<=140737488355328)
  (d:∀j,j<Z l ->AJ w ⟨b,f+j,O⟩=I (E yW (l[j]?.getD 0:Nat))):
  c6 245 #[J (I ⟨b,f,O⟩) (Z l) cap] w fun e w'=>e=yk (J (I ⟨b,f,O⟩) (Z (words (nw l))) cap)/\w'=w:=by
 go_enter func245,ntmps245;go_wp2;go_loop [0] (fun v=>∃k:Nat,k<=Z l/\v=J (I ⟨b,f,O⟩) k cap/\nw (l.take k)=nw l) (fun v=>lenOf v)
 case atStart=>exact⟨Z l,ak _,rfl,by rw[iP]⟩
 case round=>
  obtain⟨k,a,rfl,n⟩:=hrel;have H:we (nw (l.take k)=nw l):=n;clear n;by_cases c:k=0
  ·subst c;have e:=V7 l hs 0 (aX _) H.o (Or.inl rfl);(have B9:we (Z (words (nw l))=0):=by rw[e];rfl);clear e;go_wp2;go_ret;exact⟨by rw[B9.o];rfl,rfl⟩
  ·have g:=d (k - 1) al;by_cases h:l[k - 1]?.getD 0=0
   ·have p:we (nw (l.take (k - 1))=nw l):=by
     have e:=XE l (k - 1) al;rw[show k - 1+1=k by omega,H.o] at e;rw[ba al] at h;simp only[CP] at h;rw[h,mV,ji] at e;exact e.symm
    rw[h] at g;go_wp2;go_round
    case rel=>exact⟨k - 1,al,rfl,p.o⟩
    case measure=>simp[lenOf];omega
   ·have e:=V7 l hs k a H.o (Or.inr h);(have B9:we (Z (words (nw l))=k):=by rw[e,eZ];exact wI a);clear e;go_wp2;go_ret;exact⟨by rw[B9.o];rfl,rfl⟩
theorem ali (w:wA):
  c6 245 #[J O 0 0] w fun e w'=>e=yk (J O 0 0)/\w'=w:=by
 go_enter func245,ntmps245;go_wp2;refine Mx 1 ?_;rw[tr];go_wp2;go_ret;exact⟨rfl,rfl⟩
def cY (x k:Nat):Int:=((x/256^k % 256:Nat):Int)
theorem atk (x:Nat) (h:x<18446744073709551616):cY x 7=(x:Int)/72057594037927936/\cY x 6=(x:Int)/281474976710656 % 256/\cY x 5=(x:Int)/1099511627776 % 256/\cY x 4=(x:Int)/4294967296 % 256/\
  cY x 3=(x:Int)/16777216 % 256/\cY x 2=(x:Int)/65536 % 256/\cY x 1=(x:Int)/256 % 256/\cY x 0=(x:Int) % 256:=by
 unfold cY;simp only[Nat.reducePow];omega
theorem aio (x:Nat) (w:wA) (i:x<18446744073709551616):
  c6 243 #[E .u64 (x:Nat)] w (dj w (zp #[E .u8 (cY x 7),E .u8 (cY x 6),E .u8 (cY x 5),E .u8 (cY x 4),E .u8 (cY x 3),E .u8 (cY x 2),E .u8 (cY x 1),E .u8 (cY x 0)])):=by
 obtain⟨h,g,f,d,c,b,a,e⟩:=atk x i;rw[h,g,f,d,c,b,a,e];clear h g f d c b a e;go_enter func243,ntmps243;go_wp2;refine Mx 9 ?_;rw[tr];go_wp2;rw[tr];go_wp2;rw[tr];go_wp2;rw[tr];go_wp2;rw[tr];go_wp2;rw[tr];go_wp2;rw[tr];go_wp2;rw[tr];go_wp2;rw[tr];go_wp2;refine cN (v:=zp #[E .u8 ((x:Int)/72057594037927936),E .u8 ((x:Int)/281474976710656 % 256),E .u8 ((x:Int)/1099511627776 % 256),E .u8 ((x:Int)/4294967296 % 256),E .u8 ((x:Int)/16777216 % 256),E .u8 ((x:Int)/65536 % 256),E .u8 ((x:Int)/256 % 256),E .u8 ((x:Int) % 256)]) (by simp[results,Tryz.results243,go_sem]) rfl ⟨rfl,?_⟩;exact(((aw _ _).alloc (ak _) _).alloc aE _)
theorem Gi (x c:Nat):x/(c*256)*256+x/c % 256=x/c:=by rw[<- VM];exact Nat.div_add_mod' _ _
theorem asm (x:Nat) (h:x<18446744073709551616):0*256+x/72057594037927936 % 256=x/72057594037927936:=al
theorem ahS (x:Nat):x/256*256+x/1 % 256=x:=al
theorem aof (x:Nat) (f:x<18446744073709551616):N (strOfNums [cY x 7,cY x 6,cY x 5,cY x 4,cY x 3,cY x 2,cY x 1,cY x 0])=x:=by
 have e:=Gi x 281474976710656;have d:=Gi x 1099511627776;have c:=Gi x 4294967296;have b:=Gi x 16777216;have a:=Gi x 65536;have h:=Gi x 256;simp only[Nat.reduceMul] at e d c b a h;simp only[N,JN,fR,om,cY,oC,nb,uk,List.foldl_nil,UInt8.toNat_ofNat',Nat.reducePow,Nat.mod_mod];rw[asm x f,e,d,c,b,a,h,ahS]
theorem ajR (x:Nat) (t:TypeId) (w:wA):∀i,i< 8 ->AJ (AC w (yd #[E .u8 (cY x 7),E .u8 (cY x 6),E .u8 (cY x 5),E .u8 (cY x 4),E .u8 (cY x 3),E .u8 (cY x 2),E .u8 (cY x 1),E .u8 (cY x 0)] t)) ⟨w.heap.size,0+i,O⟩=
  I (E .u8 (([cY x 7,cY x 6,cY x 5,cY x 4,cY x 3,cY x 2,cY x 1,cY x 0]:Kx).getD i 0)):=by
 intro i h;rcases (show i=0∨i=1∨i=2∨i=3∨i=4∨i=5∨i=6∨i=7 by omega) with rfl |rfl |rfl |rfl |rfl |rfl |rfl |rfl<;>simp
theorem aez (x:Nat) (w:wA) (h:x<18446744073709551616):
  c6 195 #[E .u64 (x:Nat)] w (dj w (zX (B x))):=by
 have c:=fun (a:wA)=>JO (P:=prog) (AC a (yd #[E .u8 (cY x 7),E .u8 (cY x 6),E .u8 (cY x 5),E .u8 (cY x 4),E .u8 (cY x 3),E .u8 (cY x 2),E .u8 (cY x 1),E .u8 (cY x 0)] 261)) 148 5 underlying148 underlying5 a.heap.size 0 8 8 _ rfl (ajR x _ a) 61 underlying61;have H:we (N (strOfNums [cY x 7,cY x 6,cY x 5,cY x 4,cY x 3,cY x 2,cY x 1,cY x 0])=x):=aof x h;go_enter func195,ntmps195
 go_wp2_with (first
  |(go_at_call 243;refine(aio x _ h).af ?_;rintro e a ⟨rfl,b⟩)
  |(go_at_call 244;refine(Gk _ _).af ?_;rintro e d ⟨rfl,rfl⟩;rw[H.o]))
 go_ret;exact⟨rfl,b.alloc b.size _⟩
variable {xs:List wQ} {g:Nat}
def vS (x:Nat):Kx:=[cY x 3,cY x 2,cY x 1,cY x 0]
def qE:Jp ->Kx
 |[]=>[]
 |x::r=>qE r++vS x
theorem apd (a:Jp) (y:Nat):qE (a++[y])=vS y++qE a:=by
 induction a with
 |nil=>simp[qE]
 |cons x a ih=>rw[gC,qE,ih,qE,qj]
theorem XZ (a:Jp):Z (qE a)=4*Z a:=by
 induction a with
 |nil=>rfl
 |cons x a ih=>rw[qE,cD,ih];simp[vS];omega
theorem asl (x:Nat) (h:x<4294967296):0*256+x/16777216 % 256=x/16777216:=al
theorem aog (x:Nat) (b:x<W):nb ((vS x).map fun n=>UInt8.ofNat n.toNat)=x:=by
 rw[ja] at b;have c:=asl x b;have a:=Gi x 65536;have h:=Gi x 256;simp only[Nat.reduceMul] at a h;simp only[vS,fR,om,cY,oC,nb,uk,List.foldl_nil,UInt8.toNat_ofNat',Nat.reducePow,Nat.mod_mod];rw[c,a,h,ahS]
theorem aud (l:Jp) (hs:Small l):N (strOfNums (qE l))=nw l:=by
 rw[N,JN];induction l with
 |nil=>rfl
 |cons x r ih=>
  rw[qE,gK,Fo,ih (fun y h=>hs y (dL _ h)),aog x (hs x dA),mG,dm];show nw r*256^4+x=x+W*nw r;rw[eN,ET];rfl
def sj (l:Jp) (k:Nat):Kx:=List.replicate (4*(Z l - k)) 0++qE (l.take k)
theorem anr (l:Jp):sj l 0=List.replicate (4*Z l) 0:=by simp[sj,qE]
theorem anu (l:Jp):sj l (Z l)=qE l:=by simp[sj]
theorem ant (l:Jp) (k:Nat) (h:k<=Z l):Z (sj l k)=4*Z l:=by
 rw[sj,cD,ui,XZ,eZ,wI h];omega
theorem ans (l:Jp) (k:Nat) (h:k<Z l):splice (sj l k) (4*Z l - 4*k - 4) (vS (l[k]?.getD 0))=sj l (k+1):=by
 rw[ba h,CP];have e:4*(Z l - k)=(4*Z l - 4*k - 4)+4:=al
 have a:4*(Z l - (k+1))=4*Z l - 4*k - 4:=al
 rw[sj,sj,ig h,apd,e,a, <- abv,splice];generalize 4*Z l - 4*k - 4=m;have d:Z (vS l[k])=4:=rfl;rw[d]
 have b:(List.replicate m (0:Int)++List.replicate 4 0++qE (l.take k)).take m=List.replicate m 0:=by
  rw[qj,VP aE];simp
 have c:(List.replicate m (0:Int)++List.replicate 4 0++qE (l.take k)).drop (m+4)=qE (l.take k):=by
  rw[List.drop_append_of_le_length aE];simp
 rw[b,c]
theorem acF {α β:Type} (f:α ->β) (L:List α) (o:Nat) (c:List α):splice (L.map f) o (c.map f)=(splice L o c).map f:=by
 simp[splice,List.map_take,List.map_drop]
def u8 (x:Int):Value:=E .u8 x
theorem Tryz.infoByte:(prog.info? 5).map (fun i=>(i.zero,i.size,i.bytes))=I (I (E .u8 0),1,1):=ao
theorem ajP (l:Jp) (hs:Small l):Z (words (nw l))<=Z l/\∀j,j<Z (words (nw l)) ->(words (nw l))[j]?.getD 0=l[j]?.getD 0:=by
 obtain⟨k,a,e⟩:=Rf l hs;rw[e];refine⟨by simp;omega,fun j h=>?_⟩;rw[tu,aA (by simp at h;omega)]
theorem sR {base:Nat} {t:TypeId} (h:w.ownsRow base t 1 (J (I ⟨g,0,O⟩) n n) n xs):w.heap[g]? =I (yd xs.toArray t (0,0)):=by
 rcases h.2 with ⟨a,_⟩ |⟨g',p,c,a,_,b,F,_,s,H⟩
 ·cases a
 ·cases a;rw[b, <- H,lg (by simp;omega)]
theorem afe (n:Nat):(madeCells (Value.int .u8 0).cells (n*1)).toList=(List.replicate n (0:Int)).map u8:=by
 rw[show (Value.int .u8 0).cells= #[Value.int .u8 0] from rfl,My,rU,QW];rfl
theorem atq (x:Nat) (t:TypeId) (w:wA):∀j v,((vS x).map u8)[j]? =I v ->AJ (AC w (yd #[E .u8 (cY x 7),E .u8 (cY x 6),E .u8 (cY x 5),E .u8 (cY x 4),E .u8 (cY x 3),E .u8 (cY x 2),E .u8 (cY x 1),E .u8 (cY x 0)] t)) ((⟨w.heap.size,4,O⟩:Addr).add j)=I v:=by
 intro j v a
 have b:j<4:=by
  rcases dR j 4 with h |h
  ·exact h
  ·rw[jw (by simpa [vS] using h)] at a;cases a
 have d:(⟨w.heap.size,4,O⟩:Addr).add j=⟨w.heap.size,4+j,O⟩:=by unfold Addr.add;split<;>simp_all
 rw[d];rcases (show j=0∨j=1∨j=2∨j=3 by omega) with rfl |rfl |rfl |rfl<;>simp[vS,u8] at a<;>subst a<;>simp
theorem aac (g cap:Nat) (l:Jp) (w:wA) (hs:Small l) (vI:Z l<=cap) (aq:Z l<=35184372088832) (hg:g<w.heap.size)
  (d:∀j,j<Z l ->AJ w ⟨g,0+j,O⟩=I (E yW (l[j]?.getD 0:Nat))):
  c6 196 #[J (I ⟨g,0,O⟩) (Z l) cap] w (dj w (zX (B (nw l)))):=by
 obtain⟨i0,f,ad,ae,ai⟩:=eo Tryz.infoByte;have A:=Rz g 0 cap l w hs vI al d;obtain⟨an,B6⟩:=ajP l hs;have F:=pg (nw l);have B2:we (N (strOfNums (qE (words (nw l))))=nw l):=by show _=_;rw[aud _ F,mF]
 have z:∀j,j<Z (words (nw l)) ->AJ w ⟨g,j,O⟩=I (E yW ((words (nw l))[j]?.getD 0:Nat)):=fun j hj=>by
  have:=d j al;rw[bK] at this;rw[this,B6 j hj]
 generalize words (nw l)=ws at *;have Q:we (∀j,j<Z ws ->AJ w ⟨g,j,O⟩=I (E yW (ws[j]?.getD 0:Nat))):=z;have S:we (c6 245 #[J (I ⟨g,0,O⟩) (Z l) cap] w fun e w'=>e=yk (J (I ⟨g,0,O⟩) (Z ws) cap)/\w'=w):=A;clear d B6 z A;go_enter func196,ntmps196
 go_wp2_with (first
  |(go_at_call 245;refine(S.o).af ?_;rintro e a ⟨rfl,q⟩;subst q)
  |(at_make;refine oX _ rfl _ _ 148 rfl a.heap.size 5 i0 (E .u8 0) 1 underlying148 f ad ae yR yR _ _ (4*Z ws) rfl rfl al al (by rw[ai];omega) (by unfold maxLen;omega) (ak _) ?_;intro v L M))
 have m:=sR L;rw[afe, <- anr] at m;have y:da a v:=(aw _ a).grown M (ak _) (fun k e=>by cases e);have B7:we (v.heap[a.heap.size]? =I (yd ((sj ws 0).map u8).toArray 5 (0,0))):=m;clear L M m S
 go_loopw [16] (fun i wr=>∃k:Nat,k<=Z ws/\i=E yR k/\we (wr.heap[a.heap.size]? =I (yd ((sj ws k).map u8).toArray 5 (0,0)))/\da a wr)
  (fun i _=>Z ws - (intOf i).toNat)
 case atStart=>exact⟨0,aX _,rfl,B7,y⟩
 case round=>
  obtain⟨k,hk,rfl,H,c⟩:=hrel;clear B7 y;by_cases h:k<Z ws
  ·have ab:AJ wr ⟨g,k,O⟩=I (E yW (ws[k]?.getD 0:Nat)):=(c.cell (p:=⟨g,k,O⟩) hg).trans (Q.o k h)
   have yr:ws[k]?.getD 0<4294967296:=by
    rw[ba h];exact F _ (bQ h)
   have r:we (splice (sj ws k) (4*Z ws - 4*k - 4) (vS (ws[k]?.getD 0))=sj ws (k+1)):=ans ws k h;have FQ:=ant ws k hk;generalize ws[k]?.getD 0=x at *;go_wp2_with (go_at_call 243;refine(aio x _ al).af ?_;rintro e b ⟨rfl,n⟩)
   have s:da a b:=c.trans (n.af c.size)
   have K:∀o,(b.alloc o).heap[a.heap.size]? =I (yd ((sj ws k).map u8).toArray 5 (0,0)):=fun o=>by
    have u:a.heap.size<wr.heap.size:=(c5.1 H.o).1;rw[uY _ _ _ (aT u n.size),n.block _ u];exact H.o
   have X:we (∀o,(b.alloc o).heap[a.heap.size]? =I (yd ((sj ws k).map u8).toArray 5 (0,0))):=K;clear K ab;obtain⟨B9,t⟩:∃B9,B9=4*Z ws - 4*k - 4:=⟨_,rfl⟩;(have R:IntKind.i64.wrap (4*(Z ws:Int) - (k:Int)*4 - 4)=(B9:Int):=by rw[jx];omega);(have T:(k:Int)*4<=4*(Z ws:Int):=al);(have U:4*(Z ws:Int) - (k:Int)*4<=4*(Z ws:Int):=al);(have V:(B9:Int)<=4*(Z ws:Int) - (k:Int)*4:=al);(have Y:¬4*Z ws=B9:=al);(have B1:(4*(Z ws:Int) - (k:Int)*4).toNat - B9=4:=al);(have aj:B9+4<=4*Z ws:=al);rw[<- t] at r;clear t;go_region_law (refine step_copy_splice rfl (.tmp 33) (.tmp 34) 148 148 rfl 5 underlying148 ao _ _ _ _ _ _ rfl rfl a.heap.size B9 ((sj ws k).map u8) 5 (by exact X.o _) ((vS x).map u8) rfl (fun _=>⟨rfl,_,rfl,by exact atq x _ b⟩) (by simp[vS];omega) (by simp[vS,u8,Value.oneCell']) a.heap.size a (by exact(s.alloc s.size _).drew) (ak _) ?_;intro w4 D aa)
   clear R T U V Y B1 X;go_wp2;go_roundw
   case rel=>exact⟨k+1,al,bd,by rw[acF,r.o] at D;exact D,aa⟩
   case measure=>simp[intOf];omega
  ·obtain rfl:k=Z ws:=al
   have BW:=JO (P:=prog) wr 148 5 underlying148 underlying5 a.heap.size 0 (4*Z ws) (4*Z ws) (qE ws) (XZ ws) (fun i f=>by
    have e:=a8 wr a.heap.size (0+i) _ _ _ H.o;rw[e,anu];(have pG:i<Z (qE ws):=by rw[XZ];exact f);simp[u8,ba pG,cK]) 61 underlying61
   clear H;go_wp2_with (go_at_call 244;refine(Gk _ _).af ?_;rintro e b ⟨rfl,q⟩;subst q)
   go_ret;exact⟨by rw[B2.o];rfl,c⟩
variable {l':Jp} {cap g' j m off':Nat}
def bI (w:wA) (g off:Nat) (l:Jp):Prop:=
 ∃cur,w.heap[g]? =I (yd cur 157 (0,0))/\off+Z l<=cur.size/\∀j,j<Z l ->cur[off+j]? =I (u32 (l[j]?.getD 0))
theorem bI.cell {f:Nat} {l:Jp} (h:bI w g f l) (j:Nat) (b:j<Z l):AJ w ⟨g,f+j,O⟩=I (E yW (l[j]?.getD 0:Nat)):=by
 obtain⟨r,a,_,c⟩:=h;rw[a8 w g (f+j) r _ (0,0) a];exact c j b
theorem bI.frozen {f:Nat} {l:Jp} (h:bI w g f l) (j:Nat):w.frozen? ⟨g,j,O⟩=false:=by
 obtain⟨c,a,_,_⟩:=h;exact eA w g j c _ a
theorem bI.lt {f:Nat} {l:Jp} (h:bI w g f l):g<w.heap.size:=by
 obtain⟨c,a,_,_⟩:=h;exact(c5.1 a).1
theorem bI.of_block {f:Nat} {l:Jp} (h:bI w g f l) (e:w'.heap[g]? =w.heap[g]?):bI w' g f l:=by
 obtain⟨r,c,a,b⟩:=h;exact⟨r,e.trans c,a,b⟩
theorem bI.aa {f B:Nat} {l:Jp} (h:bI w g f l) (b:Below B w w') (a:g<B):bI w' g f l:=h.of_block (b.block g a)
theorem bI.grown {f:Nat} {row:Option Nat} {l:Jp} (h:bI w g f l) (b:w.grownBy w' row) (e:I g≠row):bI w' g f l:=h.of_block (b.block g h.lt e)
theorem bI.piece {f:Nat} {l:Jp} (h:bI w g f l) (a n:Nat) (e:a+n<=Z l):bI w g (f+a) ((l.drop a).take n):=by
 obtain⟨r,c,d,b⟩:=h;have k:Z ((l.drop a).take n)=n:=by simp;omega
 refine⟨r,c,al,fun j i=>?_⟩;rw[zl,b (a+j) al,tu,aA al,MP]
structure dH (g off n:Nat) (w w':wA):Prop where
 grown:w.grownBy w' (I g)
 inside:∀cur,w.heap[g]? =I (yd cur 157 (0,0)) ->∃cur',w'.heap[g]? =I (yd cur' 157 (0,0))/\cur'.size=cur.size/\∀i,(i<off∨off+n<=i) ->cur'[i]? =cur[i]?
theorem dH.refl (g f n:Nat) (w:wA):dH g f n w w:=⟨World.grownBy.refl _ _,fun c h=>⟨c,h,rfl,fun _ _=>rfl⟩⟩
theorem dH.trans {f:Nat} {a b c:wA} (h:dH g f n a b) (k:dH g f n b c):dH g f n a c:=
 ⟨h.grown.trans k.grown,fun u q=>by
  obtain⟨e,o,s,l⟩:=h.inside u q;obtain⟨j,p,r,m⟩:=k.inside e o;exact⟨j,p,r.trans s,fun i d=>(m i d).trans (l i d)⟩⟩
theorem dH.af {f n':Nat} (h:dH g f n w w') (h1:off'<=f) (d:f+n<=off'+n'):dH g off' n' w w':=
 ⟨h.grown,fun r b=>by
  obtain⟨c,a,s,e⟩:=h.inside r b;exact⟨c,a,s,fun i j=>e i al⟩⟩
theorem dH.aa {f B:Nat} {a:wA} (c:Below B a w) (h:dH g f n w w') (b:B<=g) (hs:B<=w.heap.size):Below B a w':=
 c.grown h.grown hs (fun k e=>by cases e;exact b)
theorem OM (w:wA) (g j:Nat) (c:Array wQ) (t:TypeId) (u:wQ) (h:w.heap[g]? =I (yd c t (0,0))):(AF w ⟨g,j,O⟩ u).heap[g]? =I (yd (c.setIfInBounds j u) t (0,0)):=
 ke w g j c t u h
theorem dH.setCell {f:Nat} (h1:f<=j) (a:j<f+n) (u:wQ):dH g f n w (AF w ⟨g,j,O⟩ u):=by
 refine⟨⟨rfl,rfl,rfl,by simp[World.setCell],fun k _ h=>eO _ _ _ _ (by rintro rfl;exact h rfl)⟩,fun r c=>?_⟩;refine⟨_,OM w g j r _ u c,aE,fun i b=>?_⟩;rw[Array.getElem?_setIfInBounds_ne al]
theorem bI.set {f:Nat} {l:Jp} (h:bI w g f l) (j:Nat) (k:j<Z l) (x:Nat):bI (AF w ⟨g,f+j,O⟩ (E yW (x:Nat))) g f (l.set j x):=by
 obtain⟨r,d,b,c⟩:=h;refine⟨_,OM w g (f+j) r _ _ d,by simpa using b,fun i a=>?_⟩;rw[gA] at a;by_cases e:i=j
 ·subst e;rw[Array.getElem?_setIfInBounds_self_of_lt al];simp[k,u32]
 ·rw[Array.getElem?_setIfInBounds_ne al,c i a,wJ al]
theorem bI.beside {f:Nat} {l:Jp} (h:bI w g f l) (u:dH g off' n w w') (m:f+Z l<=off'∨off'+n<=f):bI w' g f l:=by
 obtain⟨r,d,k,b⟩:=h;obtain⟨c,a,s,e⟩:=u.inside r d;exact⟨c,a,al,fun j i=>(e (f+j) al).trans (b j i)⟩
theorem bI.apart {f:Nat} {l:Jp} (h:bI w g f l) (u:dH g' off' n w w') (d:g≠g'):bI w' g f l:=
 h.grown u.grown (by simp[d])
theorem bI.append {f:Nat} {a b:Jp} (k:bI w g f a) (l:bI w g (f+Z a) b):bI w g f (a++b):=by
 obtain⟨r,h,n,c⟩:=k;obtain⟨u,i,o,d⟩:=l;rw[h] at i;cases i;refine⟨r,h,by simp;omega,fun j m=>?_⟩;rw[cD] at m;by_cases e:j<Z a
 ·rw[Q1 e,c j e]
 ·rw[JX al];have:=d (j - Z a) al;rwa [show f+Z a+(j - Z a)=f+j by omega] at this
theorem Fi {base:Nat} {l:Jp} (h:w.ownsRow base 157 1 (J (I ⟨g,0,O⟩) n cap) n (l.map u32)):n=Z l/\l.length<=cap/\base<=g/\bI w g 0 l:=by
 have i:n=Z l:=by have:=h.1;simp at this;exact this.symm
 rcases h.2 with ⟨a,_⟩ |⟨g',p,c,a,d,f,F,_,s,H⟩
 ·cases a
 ·cases a;refine⟨i,al,d,c,f,al,fun j b=>?_⟩;have e:(c.toList.take (n*1))[j]? =(l.map u32)[j]?:=by rw[H]
  rw[tu,aA al,mr,ba b] at e;rw[bK,ba b];simpa using e
theorem ad1 {base:Nat} {l:Jp} (h:w.ownsRow base 157 1 (J (I ⟨g,0,O⟩) n cap) n (l.map u32)) (u:dH g 0 m w w') (o:bI w' g 0 l') (q:Z l'=n):w'.ownsRow base 157 1 (J (I ⟨g,0,O⟩) n cap) n (l'.map u32):=by
 refine⟨by simp[q],?_⟩;rcases h.2 with ⟨a,_⟩ |⟨g',x,r,a,j,k,F,p,z,H⟩
 ·cases a
 ·cases a;obtain⟨e,c,v,_⟩:=u.inside r k;obtain⟨s,d,t,f⟩:=o;rw[c] at d;cases d;refine xS ⟨g,cap,e,rfl,j,c,F,p,al,?_⟩;apply MT;intro i;rw[tu,mr];by_cases b:i<Z l'
  ·have:=f i b;rw[bK,ba b] at this;rw[aA al,ba b,wM,this];rfl
  ·rw[aD al,jw al];rfl
theorem anj {base:Nat} {v:wQ} {l:Jp} (h:w.ownsRow base 157 1 v n (l.map u32)):n=Z l:=by have:=h.1;simp at this;exact this.symm
theorem Sa {base B:Nat} {e:TypeId} {i:Nat} {v:wQ} (h:w.ownsRow base e i v n xs) (c:Below B w w') (b:w.heap.size<=B):w'.ownsRow base e i v n xs:=by
 refine⟨h.1,?_⟩;rcases h.2 with a |⟨g,cap,u,d,f,r,j⟩
 ·exact yp a
 ·exact xS ⟨g,cap,u,d,f,(c.block g (aT (c5.1 r).1 b)).trans r,j⟩
theorem NA {base:Nat} {l:Jp} (c:Array wQ) (b:w.heap[g]? =I (yd c 157 (0,0))) (hs:c.size=cap) (e:base<=g) (m:cap<=maxLen) (f:Z l<=cap) (j:bI w g 0 l):w.ownsRow base 157 1 (J (I ⟨g,0,O⟩) (Z l) cap) (Z l) (l.map u32):=by
 refine⟨aE,xS ⟨g,cap,c,rfl,e,b,f,m,al,?_⟩⟩;obtain⟨k,a,n,d⟩:=j;rw[b] at a;cases a;apply MT;intro i;rw[tu,mr];by_cases h:i<Z l
 ·have:=d i h;rw[bK,ba h] at this;rw[aA al,ba h,wM,this];rfl
 ·rw[aD al,jw al];rfl
def Has (w:wA) (base:Nat) (v:wQ) (l:Jp):Prop:=w.ownsRow base 157 1 v (Z l) (l.map u32)
theorem Has.cases {base:Nat} {v:wQ} {l:Jp} (h:Has w base v l):(v=J O 0 0/\l=[])∨∃g cap,v=J (I ⟨g,0,O⟩) (Z l) cap/\l.length<=cap/\base<=g/\bI w g 0 l:=by
 rcases h.2 with ⟨a,n⟩ |⟨g,cap,u,a,r⟩
 ·exact yp ⟨a,Q4 n⟩
 ·subst a;obtain⟨_,b,c,d⟩:=Fi h;exact xS ⟨g,cap,rfl,b,c,d⟩
theorem Has.aa {base B:Nat} {v:wQ} {l:Jp} (h:Has w base v l) (b:Below B w w') (a:w.heap.size<=B):Has w' base v l:=Sa h b a
theorem asw {base:Nat} {l:Jp} (k:Nat) (d:k<=Z l) (h:w.ownsRow base 157 1 (J (I ⟨g,0,O⟩) n cap) n (l.map u32)):w.ownsRow base 157 1 (J (I ⟨g,0,O⟩) k cap) k ((l.take k).map u32):=by
 have e:=anj h;refine⟨by simp;omega,?_⟩;rcases h.2 with ⟨a,_⟩ |⟨g',p,r,a,b,c,F,m,s,H⟩
 ·cases a
 ·cases a;refine xS ⟨g,cap,r,rfl,b,c,al,m,s,?_⟩;rw[List.map_take, <- H,List.take_take,wI al,rU]
theorem arb (w:wA):c6 196 #[J O 0 0] w (dj w (zX (B 0))):=by
 obtain⟨d,h,z,f,m⟩:=eo Tryz.infoByte;have j:=fun (c:wA)=>JO (P:=prog) c 148 5 underlying148 underlying5 w.heap.size 0 0 0 [] rfl (fun i h=>absurd h (ER _)) 61 underlying61;have H:we (N (strOfNums [])=0):=rfl;go_enter func196,ntmps196
 go_wp2_with (first
  |(go_at_call 245;refine(ali _).af ?_;rintro e b ⟨rfl,a⟩;subst a)
  |(at_make;refine oX _ rfl _ _ 148 rfl b.heap.size 5 d (E .u8 0) 1 underlying148 h z f yR yR _ _ 0 rfl rfl rfl rfl al (by unfold maxLen;omega) (ak _) ?_;intro c n g))
 refine Mx 1 ?_;rw[tr];go_wp2_with (go_at_call 244;refine(Gk _ _).af ?_;rintro e l ⟨rfl,a⟩;subst a)
 go_ret;exact⟨by rw[H.o];rfl,(aw _ b).grown g (ak _) (fun k e=>by cases e)⟩
theorem TV (base:Nat) (v:wQ) (l:Jp) (w:wA) (hs:Small l) (e:Z l<=35184372088832) (h:Has w base v l):
  c6 196 #[v] w (dj w (zX (B (nw l)))):=by
 rcases h.cases with ⟨rfl,rfl⟩ |⟨g,cap,rfl,B7,c,a⟩
 ·rw[pq];exact arb w
 ·exact aac g cap l w hs B7 e a.lt (fun j b=>a.cell j b)
theorem aen (r x:Nat) (h:r<4294967296) (a:x<4294967296):bits .or .u64 ((r:Int)*4294967296) (x:Int)=((r*4294967296+x:Nat):Int):=by
 have e:(r:Int)*4294967296=((r*4294967296:Nat):Int):=al
 rw[e,u64_or_nat _ _ al al,nat_join 32 _ _ al al]
def G:Nat:=1000000000
theorem aF {p:Prop} (h:p):we p:=h
theorem Has.upd {base:Nat} {l:Jp} (h:Has w base (J (I ⟨g,0,O⟩) n cap) l) (u:dH g 0 m w w') (b:bI w' g 0 l') (e:Z l'=Z l):Has w' base (J (I ⟨g,0,O⟩) n cap) l':=by
 have c:n=Z l:=by
  rcases h.2 with ⟨a,_⟩ |⟨g',p,r,a,_⟩
  ·cases a
  ·cases a;rfl
 subst c;have:=ad1 h u b e;rw[Has,e];exact this
theorem Ug (q l:Jp) (k y:Nat) (a:Z q=k) (h:k<Z l):(q++l.drop k).set k y=q++[y]++l.drop (k+1):=by
 rw[Hj _ _ al,a,rT,ri h,CR,qj];rfl
variable {k:Nat} {f:Nat ->Nat}
def kq (f:Nat ->Nat):Nat ->Nat
 |0=>0
 |k+1=>kq f k+W^k*f k
theorem aeD (f g:Nat ->Nat) (k:Nat):kq (fun j=>f j+g j) k=kq f k+kq g k:=by
 induction k with
 |zero=>rfl
 |succ k ih=>simp only[kq,ih,oZ];omega
theorem aeB (c:Nat) (f:Nat ->Nat) (k:Nat):kq (fun j=>c*f j) k=c*kq f k:=by
 induction k with
 |zero=>rfl
 |succ k ih=>simp only[kq,ih,oZ];congr 1;rw[<- ju,eN (W^k) c,ju]
theorem KL (l:Jp) (k:Nat):kq (fun j=>l[j]?.getD 0) k=nw (l.take k):=by
 induction k with
 |zero=>simp[kq,pq]
 |succ k ih=>
  rw[kq,ih];by_cases h:k<Z l
  ·rw[XE l k h,ba h];rfl
  ·rw[jw al,lg (by omega:Z l<=k),lg (by omega:Z l<=k+1)];simp
theorem aeC (l:Jp) (k:Nat) (h:Z l<=k):kq (fun j=>l[j]?.getD 0) k=nw l:=by rw[KL,lg h]
theorem anW {g:Nat ->Nat} (h:∀j,j< k ->f j=g j):kq f k=kq g k:=by
 induction k with
 |zero=>rfl
 |succ k ih=>rw[kq,kq,ih (fun j a=>h j al),h k al]
def acc (f:Nat ->Nat):Nat ->Jp×Nat
 |0=>([],0)
 |k+1=>((acc f k).1++[((acc f k).2+f k) % W],((acc f k).2+f k)/W)
theorem PG (f:Nat ->Nat) (k:Nat):(acc f k).1.length=k:=by
 induction k with
 |zero=>rfl
 |succ k ih=>simp[acc,ih]
theorem aaS (f:Nat ->Nat) (k:Nat):Small (acc f k).1:=by
 induction k with
 |zero=>intro x h;simp[acc] at h
 |succ k ih=>
  intro x h;rw[acc] at h;rcases bH.1 h with h |h
  ·exact ih x h
  ·simp at h;subst h;exact jh _ nR
theorem aaT (f:Nat ->Nat) (k:Nat):nw (acc f k).1+W^k*(acc f k).2=kq f k:=by
 induction k with
 |zero=>simp[acc,kq,pq]
 |succ k ih=>
  rw[acc,kq,Fl,PG, <- ih,jK,ju];have e:=Nat.mod_add_div ((acc f k).2+f k) W
  have:W^k*(((acc f k).2+f k) % W)+W^k*(W*(((acc f k).2+f k)/W))=W^k*(acc f k).2+W^k*f k:=by
   rw[<- oZ,e,oZ]
  show nw (acc f k).1+W^k*(((acc f k).2+f k) % W)+W^k*(W*(((acc f k).2+f k)/W))=_;omega
theorem aaU (f:Nat ->Nat) (b:Nat) (k:Nat) (h:∀j,j< k ->f j+b<(b+1)*W):(acc f k).2<=b:=by
 induction k with
 |zero=>exact aX _
 |succ k ih=>
  have a:=ih (fun j d=>h j al);have c:=h k al;rw[acc];have:((acc f k).2+f k)/W<b+1:=JS (by rw[eN];omega);omega
theorem acY (a q l:Jp) (i k y:Nat) (h:Z a=i) (c:Z q=k) (b:i+k<Z l):(a++q++l.drop (i+k)).set (i+k) y=a++(q++[y])++l.drop (i+(k+1)):=by
 rw[Hj _ _ (by rw[cD];omega),cD,h,c,rT,ri b,CR];simp[qj,zl]
theorem alx (a q l:Jp) (i k:Nat) (h:Z a=i) (b:Z q=k):(a++q++l.drop (i+k))[i+k]?.getD 0=l[i+k]?.getD 0:=by
 rw[JX (by rw[cD];omega),cD,h,b,rT,MP,ji]
theorem getD_lt {l:Jp} (h:Small l) (j:Nat):l[j]?.getD 0<W:=by
 by_cases a:j<Z l
 ·rw[ba a];exact h _ (bQ a)
 ·rw[jw al];exact nR
theorem Bg {a b:Jp} (h:Small a) (c:Small b):Small (a++b):=fun x d=>(bH.1 d).elim (h x) (c x)
theorem Nh {l:Jp} (h:Small l) (k:Nat):Small (l.drop k):=fun x a=>h x (List.mem_of_mem_drop a)
theorem anV (l:Jp) (k:Nat):nw l=nw (l.take k)+W^(min k (Z l))*nw (l.drop k):=by
 have:=Da (l.take k) (l.drop k);rwa [AX,eZ] at this
theorem vk (l:Jp) (k:Nat) (h:k<=Z l):nw l=nw (l.take k)+W^k*nw (l.drop k):=by
 have:=anV l k;rwa [wI h] at this
theorem XD (n:Nat):nw (List.replicate n 0)=0:=by
 induction n with
 |zero=>rfl
 |succ n ih=>rw[MM,mG,ih];simp
theorem acI (n:Nat):Small (List.replicate n 0):=fun x h=>by rw[(List.mem_replicate.1 h).2];exact nR
def ix (xs ys:Jp) (j:Nat):Nat:=xs[j]?.getD 0+ys[j]?.getD 0
theorem acv (xs s:Jp) (k:Nat):kq (ix xs s) k=nw (xs.take k)+nw (s.take k):=by
 rw[show ix xs s=fun j=>(fun j=>xs[j]?.getD 0) j+(fun j=>s[j]?.getD 0) j from rfl,aeD,KL,KL]
theorem akQ (xs s:Jp) (h:Small xs) (y:Small s) (k:Nat):(acc (ix xs s) k).2<=1:=by
 refine aaU _ 1 k fun j _=>?_;have a:=getD_lt h j;have b:=getD_lt y j;unfold ix;omega
theorem Xe (g h cap b u T:Nat) (xs a:Jp) (w:wA) (D:Small xs) (z:Small a) (ae:Z xs<=35184372088832) (K:Z a<=Z xs) (R:bI w g h xs) (S:bI w b u a) (X:b≠g):
  c6 246 #[J (I ⟨g,h,O⟩) (Z xs) cap,J (I ⟨b,u,O⟩) (Z a) T] w fun e w'=>∃(c:Bool) (l':Jp),e=yk (zd c)/\l'.length=Z xs/\Small l'/\nw l'+(if c then W^Z xs else 0)=nw xs+nw a/\bI w' g h l'/\dH g h (Z xs) w w':=by
 go_enter func246,ntmps246;go_wp2
 go_loopw [5,9] (fun c i wr=>∃k:Nat,k<=Z xs/\i=E yR k/\c=E .u64 ((acc (ix xs a) k).2:Nat)/\bI wr g h ((acc (ix xs a) k).1++xs.drop k)/\dH g h (Z xs) w wr)
  (fun _ i _=>Z xs - (intOf i).toNat)
 case atStart=>exact⟨0,aX _,rfl,rfl,by simpa [acc] using R,dH.refl _ _ _ _⟩
 case round=>
  obtain⟨k,P,rfl,rfl,d,n⟩:=hrel;have zU:=akQ xs a D z k;have f:=PG (ix xs a) k;have Y:=aaS (ix xs a) k;have H:=aF (aaT (ix xs a) k);by_cases B1:k<Z xs
  ·have l:k<Z ((acc (ix xs a) k).1++xs.drop k):=by rw[cD,f,qi];omega
   have B6:=d.cell k l;have V:=d.frozen (h+k);have j:=fun y=>d.set k l y;simp only[Ug _ xs k _ f B1] at j
   have m:((acc (ix xs a) k).1++xs.drop k)[k]?.getD 0=xs[k]?.getD 0:=by
    rw[JX al,f,rT,MP,ji]
   rw[m] at B6;have p:we (acc (ix xs a) (k+1)=((acc (ix xs a) k).1++[((acc (ix xs a) k).2+ix xs a k) % W],((acc (ix xs a) k).2+ix xs a k)/W)):=rfl;have U:=getD_lt D k;have L:=getD_lt z k;rw[ja] at U L;by_cases M:k<Z a
   focus
    have ab:=(S.apart n X).cell k M;have F:we (ix xs a k=xs[k]?.getD 0+a[k]?.getD 0):=rfl;generalize (acc (ix xs a) k).2=c at *;generalize (acc (ix xs a) k).1=q at *;generalize ix xs a k=s at *;generalize xs[k]?.getD 0=x at *;generalize a[k]?.getD 0=y at *;have A:=aF j;clear j m l d H;go_wp2;have v:Value.int yW (((c:Int)+(x:Int)+(y:Int)) % 4294967296)=E yW (((c+s) % W:Nat):Int):=int_eq (by rw[ja,F.o];omega);have B7:Value.int .u64 (((c:Int)+(x:Int)+(y:Int))/4294967296)=E .u64 (((c+s)/W:Nat):Int):=int_eq (by rw[ja,F.o];omega)
   rotate_left
   focus
    (have t:a[k]?.getD 0=0:=by rw[jw al];rfl);by_cases r:(acc (ix xs a) k).2=0
    ·have B9:we (nw ((acc (ix xs a) k).1++xs.drop k)=nw xs+nw a):=by
      show _=_;have e:=H.o;rw[r,mV,ji,acv,lg (show Z a<=k by omega)] at e;rw[Da,f,e,vk xs k P];omega
     have aa:=Bg Y (Nh D k);(have B2:Z ((acc (ix xs a) k).1++xs.drop k)=Z xs:=by rw[cD,f,qi];omega);rw[r];generalize (acc (ix xs a) k).1++xs.drop k=q at *;clear j B6 V p m l H;go_wp2;go_ret;exact⟨x3,q,rfl,B2,aa,by rw[B9.o];rfl,d,n⟩
    focus
     (have F:we (ix xs a k=xs[k]?.getD 0):=by show _=_;rw[ix,t,ji]);(have ad:(((acc (ix xs a) k).2:Int)==0)=false:=by rw[Hd];omega);generalize (acc (ix xs a) k).2=c at *;generalize (acc (ix xs a) k).1=q at *;generalize ix xs a k=s at *;generalize xs[k]?.getD 0=x at *;have A:=aF j;clear j m l d H t r;go_wp2;have v:Value.int yW (((c:Int)+(x:Int)) % 4294967296)=E yW (((c+s) % W:Nat):Int):=int_eq (by rw[ja,F.o];omega);have B7:Value.int .u64 (((c:Int)+(x:Int))/4294967296)=E .u64 (((c+s)/W:Nat):Int):=int_eq (by rw[ja,F.o];omega)
   all_goals
    rw[v,B7];have Q:=A.o ((c+s) % W);go_roundw
    case rel=>exact⟨k+1,al,bd,by rw[p.o],by rw[p.o];exact Q,n.trans (dH.setCell (MJ _ _) al _)⟩
    case measure=>simp[intOf];omega
  ·obtain rfl:k=Z xs:=al
   rw[List.drop_length,lh] at d
   have B9:we (nw (acc (ix xs a) (Z xs)).1+W^Z xs*(acc (ix xs a) (Z xs)).2=nw xs+nw a):=by
    show _=_;rw[H.o,acv,iP,lg K]
   generalize (acc (ix xs a) (Z xs)).1=q at *;generalize (acc (ix xs a) (Z xs)).2=c at *;clear H;rcases (show c=0∨c=1 by omega) with rfl |rfl
   ·go_wp2;go_ret;exact⟨x3,q,rfl,f,Y,by have:=B9.o;simpa using this,d,n⟩
   ·go_wp2;go_ret;exact⟨xq,q,rfl,f,Y,by have:=B9.o;simpa using this,d,n⟩
section
open Go.Shelf
attribute [local go_sem] Oper.semAt_some
theorem Be (s:ByteArray) (w:wA) (hs:s.size<=140737488355328):
  c6 198 #[zX s] w fun e w'=>∃g cap,e=yk (J (I ⟨g,0,O⟩) (Z (words (N s))) cap)/\Has w' w.heap.size (J (I ⟨g,0,O⟩) (Z (words (N s))) cap) (words (N s))/\da w w':=by
 refine(jg (n:=6)).1 ?_;have Y:(B (N s)).size<=140737488355328:=aO (kd s) hs;have u:=aj1 (N s);have y:=cQ (N s);generalize hm:N s=m at *;obtain⟨A,z,B6,L,M⟩:=eo Tryz.infoU32;refine wF func198 rfl trivial ?_ rfl;simp only[ntmps198,mX,dX,mo,Nat.reduceAdd,Nat.reduceSub,o8,o7,o6,oB,iH,gC];have Q:we (N s=m):=hm;have R:we (N (B m)=m):=y;have U:we (upto m (((B m).size+3)/4)=words m):=u;clear hm y u
 gi_wp2_with (first
  |(refine⟨trivial,?_⟩;gi_at_call 244;refine(jg.2 (Gk _ _)).af ?_;rintro e w' ⟨rfl,rfl⟩;rw[Q.o])
  |(refine⟨trivial,?_⟩;gi_at_call 247;refine(jg.2 (ah0 _ _ Y)).af ?_;rintro e w' ⟨rfl,rfl⟩)
  |(gi_at_make;refine wpListIn_make_own _ rfl _ _ 221 rfl w'.heap.size 157 A (E yW 0) 1 underlying221 z B6 L yR yR _ (((B m).size+3)/4) rfl rfl al (by rw[M];omega) (by unfold maxLen;omega) (ak _) ?_;intro a ar B9)
  |(refine⟨trivial,?_⟩;gi_at_call 248;refine(arB _ _ _).af ?_;rintro e w2 ⟨rfl,rfl⟩))
 have F:=B9.size;have ab:da w' a:=(aw _ w').grown B9 (ak _) (fun k e=>by cases e);have S:=bE a 221 (J (I ⟨w'.heap.size,0,O⟩) 0 (((B m).size+3)/4));have q:=bE (AC a (yd #[J (I ⟨w'.heap.size,0,O⟩) 0 (((B m).size+3)/4)] 221)) 61 (zX (B m));rw[eW] at q;have aa:da w' (AC (AC a (yd #[J (I ⟨w'.heap.size,0,O⟩) 0 (((B m).size+3)/4)] 221)) (yd #[zX (B m)] 61)):=(ab.alloc F _).alloc (by simp;omega) _
 refine QI (α:=Nat) rfl al (gf:=278) (lb:= #[zZ (I ⟨a.heap.size+1,0,O⟩)]) rfl trivial (enters_of func278 ao rfl)
  (arA 5 al (a.heap.size+1) (B m) Y _ aE q.cell) qX.t (qX.b aE) (aw _ _) (fun _=>rfl)
  (fun (p:Jp) V=>((∃v,Boxed V a.heap.size 221 v/\V.ownsRow w'.heap.size 157 1 v (Z p) (p.map u32)/\v≠J O 0 0)/\da w' V)/\Boxed V (a.heap.size+1) 61 (zX (B m)))
  (fun _ _ _=>False)
  (gJ (gJ (iF (holdsRow_own w'.heap.size a.heap.size 221 157 1 (fun p:Jp=>Z p) (fun p=>p.map u32) (fun _ v=>v≠J O 0 0)) _) (CO (ak _) (by simp;omega))) (iF (kL _ _ (fun _=>zX (B m))) _))
  (fun _ _ _ _ _ hs _ _=>hs)
  ⟨⟨⟨_,S.alloc _,(ar.alloc _).alloc _,aE⟩,aa⟩,q⟩
  (fun x=> {tmps:= #[zX (B m),wd,J O 0 0,zZ (I ⟨a.heap.size,0,O⟩),E yW (x:Nat),zX s,zX (B m),zX (B m),E yR (((B m).size+3)/4),J (I ⟨w'.heap.size,0,O⟩) 0 (((B m).size+3)/4),zX (B m),.func (.func 278) #[] #[zZ (I ⟨a.heap.size+1,0,O⟩)],E yW (x:Nat),wd,wd,wd,wd,wd],defers:=[]}) ?assign ?body ?done ?stop
 case assign=>
  intro l x V K f;gi_wp2
  exact f
 case body=>
  rintro l p x V ⟨⟨⟨v,j,r,_⟩,d⟩,i⟩ ax;have X:=j.cell;gi_wp2_with (gi_at_builtin;refine wpListIn_append_own _ rfl _ _ 221 rfl w'.heap.size 157 A (E yW 0) 1 4 underlying221 z B6 L M rfl a6 _ _ _ rfl (r.alloc _) ⟨V.heap.size,0,O⟩ 1 1 [E yW (x:Nat)] rfl rfl (cell_one_new _ _ _) (by simp[Value.oneCell']) (by unfold maxLen;omega) al (by have:=d.size;simp;omega) ?_;intro v' w3 P B2 _;obtain⟨g',aq,rfl⟩:=ownsRow_succ P;obtain⟨H,an,aj,ai,ad⟩:=j.appended a6 r d.size F P B2;have ae:=(i.alloc _).kept B2 (i.not_row a6 r);have av:=H.cell;have BV:=H.frozen)
  have B7:=ae.other (B':=a.heap.size) al (J (I ⟨g',0,O⟩) (Z p+1) aq);exact⟨ai.from _,B7.cell.trans i.cell.symm,⟨⟨_,an,by simpa [u32] using aj,aE⟩,d.trans ad⟩,B7⟩
 case done=>
  rintro D ys V T rfl ⟨⟨⟨v,j,r,B1⟩,d⟩,i⟩ f;have X:=j.cell;rw[R.o,U.o] at r;gi_wp2
  refine⟨aE,yp ⟨_,_,rfl,CM f,?_⟩⟩
  obtain⟨g,cap,rfl⟩:∃g cap,v=J (I ⟨g,0,O⟩) (Z (words m)) cap:=by
   rcases r.2 with ⟨e,_⟩ |⟨g,cap,_,e,_⟩
   ·exact absurd e B1
   ·exact⟨g,cap,e⟩
  refine⟨_,CN rfl _ _ _,g,cap,rfl,?_,d.trans (xY (w:=w') (ak _) V D _ _ (by simp at T;omega) f rfl rfl)⟩;exact ownsRow_putObj r _ f rfl
 case stop=>
  rintro D c p V _ _ h _;exact h.elim
end
theorem NS (n:Nat):(madeCells (Value.int yW 0).cells (n*1)).toList=(List.replicate n 0).map u32:=by
 rw[show (Value.int yW 0).cells= #[Value.int yW 0] from rfl,My,rU,QW];rfl
theorem SE {l:Jp} (h:w.heap[g]? =I (yd (l.map u32).toArray 157 (0,0))):bI w g 0 l:=
 ⟨_,h,aE,fun j a=>by simp[ba a]⟩
theorem acG (l:Jp):splice ((List.replicate (Z l+1) 0).map u32) 0 (l.map u32)=(l++[0]).map u32:=by
 rw[acF,splice,QT,iH,bK,List.drop_replicate];simp
theorem aih {l:Jp} (h:bI w g 0 l):∀j v,(l.map u32)[j]? =I v ->AJ w ((⟨g,0,O⟩:Addr).add j)=I v:=by
 intro j v a
 have s:j<Z l:=by
  rcases dR j (Z l) with h |h
  ·exact h
  ·rw[jw (by simpa using h)] at a;cases a
 rw[Lib.add_plain,h.cell j s];rw[mr,ba s] at a;rw[ba s];exact a
theorem aeu (l:Jp):∀v∈l.map u32,v.oneCell'=true:=by
 intro v h;obtain⟨x,_,rfl⟩:=aQ.1 h;rfl
theorem acn {xs s:Jp} (x:Small xs) (y:Small s) (h:Z s<=Z xs):nw xs+nw s<W^(Z xs+1):=by
 have a:=yj xs x;have b:=yj s y;have c:W^Z s<=W^Z xs:=lJ nR h;have d:W^(Z xs+1)=W^Z xs*W:=jK ..;have e:W^Z xs*2<=W^Z xs*W:=mW _ a6;omega
theorem amQ (i S y m:Nat) (xs s:Jp) (w:wA) (D:Small xs) (n:Small s) (av:Z xs<=17592186044416) (B9:Z s<=Z xs) (h:bI w i 0 xs) (j:bI w y 0 s):
  c6 197 #[J (I ⟨i,0,O⟩) (Z xs) S,J (I ⟨y,0,O⟩) (Z s) m] w fun e w'=>∃v l,e=yk v/\Has w' w.heap.size v l/\Small l/\l.length=Z xs+1/\nw l=nw xs+nw s/\da w w':=by
 obtain⟨Q,P,aj,an,aq⟩:=eo Tryz.infoU32;have ar:¬Z xs<Z s:=al
 have ab:=h.lt;have T:=j.lt;go_enter func197,ntmps197
 go_wp2_with (first
  |(at_make;refine oX _ rfl _ _ 221 rfl w.heap.size 157 Q (E yW 0) 1 underlying221 P aj an yR yR _ _ (Z xs+1) rfl rfl al al (by rw[aq];omega) (by unfold maxLen;omega) (ak _) ?_;intro U z A;have b:=sR z;rw[NS] at b;have B1:=aF b;have r:da w U:=(aw _ w).grown A (ak _) (fun k e=>by cases e);have ai:=h.aa r ab;clear z A b)
  |(refine wpList_copy_splice rfl (.tmp 17) (.tmp 18) 221 221 rfl 157 underlying221 ao _ _ _ _ _ _ rfl rfl w.heap.size 0 ((List.replicate (Z xs+1) 0).map u32) 157 (by exact B1.o) (xs.map u32) (by rw[dm];exact(wI (Nat.le_succ _)).symm) (fun _=>⟨rfl,_,rfl,aih ai⟩) aE (aeu xs) w.heap.size w r (ak _) ?_;intro V g d))
 rw[acG] at g;have ad:=SE g.o;have K:=j.aa d T;have M:Z (xs++[0])=Z xs+1:=aE
 have ae:Small (xs++[0]):=Bg D (fun x h=>by simp at h;subst h;exact nR);have H:=Xe w.heap.size 0 (Z xs+1) y 0 m (xs++[0]) s V ae n al al ad K al;rw[M,Fl,mV,ji] at H;refine H.af ?_;rintro e X ⟨c,p,rfl,f,R,F,q,a⟩;have B2:da w X:=dH.aa d a (ak _) d.size;obtain⟨Y,t,u,_⟩:=a.inside _ g.o;have B7:=NA (base:=w.heap.size) (cap:=Z xs+1) Y t (by rw[u];simp) (ak _) (by unfold maxLen;omega) al q
 have B6:we (nw p=nw xs+nw s):=by
  show _=_;cases c with
  |false=>simpa using F
  |true=>
   have hf:=acn D n B9;simp only[if_true] at F;omega
 have L:=aF f;rw[f] at B7;clear F f t u H g q a;go_wp2;go_ret;exact⟨_,p,rfl,by rw[Has,L.o];exact B7,R,L.o,B6.o,B2⟩
theorem amP (i S y m:Nat) (xs s:Jp) (w:wA) (D:Small xs) (n:Small s) (av:Z xs<=17592186044416) (ar:Z s<Z xs) (h:bI w i 0 xs) (j:bI w y 0 s):
  c6 197 #[J (I ⟨y,0,O⟩) (Z s) m,J (I ⟨i,0,O⟩) (Z xs) S] w fun e w'=>∃v l,e=yk v/\Has w' w.heap.size v l/\Small l/\l.length=Z xs+1/\nw l=nw xs+nw s/\da w w':=by
 obtain⟨Q,P,aj,an,aq⟩:=eo Tryz.infoU32;have B9:Z s<=Z xs:=al
 have ab:=h.lt;have T:=j.lt;go_enter func197,ntmps197
 go_wp2_with (first
  |(at_make;refine oX _ rfl _ _ 221 rfl w.heap.size 157 Q (E yW 0) 1 underlying221 P aj an yR yR _ _ (Z xs+1) rfl rfl al al (by rw[aq];omega) (by unfold maxLen;omega) (ak _) ?_;intro U z A;have b:=sR z;rw[NS] at b;have B1:=aF b;have r:da w U:=(aw _ w).grown A (ak _) (fun k e=>by cases e);have ai:=h.aa r ab;clear z A b)
  |(refine wpList_copy_splice rfl (.tmp 17) (.tmp 18) 221 221 rfl 157 underlying221 ao _ _ _ _ _ _ rfl rfl w.heap.size 0 ((List.replicate (Z xs+1) 0).map u32) 157 (by exact B1.o) (xs.map u32) (by rw[dm];exact(wI (Nat.le_succ _)).symm) (fun _=>⟨rfl,_,rfl,aih ai⟩) aE (aeu xs) w.heap.size w r (ak _) ?_;intro V g d))
 rw[acG] at g;have ad:=SE g.o;have K:=j.aa d T;have M:Z (xs++[0])=Z xs+1:=aE
 have ae:Small (xs++[0]):=Bg D (fun x h=>by simp at h;subst h;exact nR);have H:=Xe w.heap.size 0 (Z xs+1) y 0 m (xs++[0]) s V ae n al al ad K al;rw[M,Fl,mV,ji] at H;refine H.af ?_;rintro e X ⟨c,p,rfl,f,R,F,q,a⟩;have B2:da w X:=dH.aa d a (ak _) d.size;obtain⟨Y,t,u,_⟩:=a.inside _ g.o;have B7:=NA (base:=w.heap.size) (cap:=Z xs+1) Y t (by rw[u];simp) (ak _) (by unfold maxLen;omega) al q
 have B6:we (nw p=nw xs+nw s):=by
  show _=_;cases c with
  |false=>simpa using F
  |true=>
   have hf:=acn D n B9;simp only[if_true] at F;omega
 have L:=aF f;rw[f] at B7;clear F f t u H g q a;go_wp2;go_ret;exact⟨_,p,rfl,by rw[Has,L.o];exact B7,R,L.o,B6.o,B2⟩
theorem amR (g m y j:Nat) (xs s:Jp) (w:wA) (D:Small xs) (i:Small s) (n:Z xs<=17592186044416) (o:Z s<=17592186044416) (x:bI w g 0 xs) (f:bI w y 0 s):
  c6 197 #[J (I ⟨g,0,O⟩) (Z xs) m,J (I ⟨y,0,O⟩) (Z s) j] w fun e w'=>∃v l,e=yk v/\Has w' w.heap.size v l/\Small l/\l.length<=17592186044417/\nw l=nw xs+nw s/\da w w':=by
 by_cases h:Z s<=Z xs
 ·refine(amQ g m y j xs s w D i n h x f).af ?_;rintro e w' ⟨v,l,rfl,a,b,k,d,c⟩;exact⟨v,l,rfl,a,b,al,d,c⟩
 ·refine(amP y j g m s xs w i D o al f x).af ?_;rintro e w' ⟨v,l,rfl,a,b,k,d,c⟩;exact⟨v,l,rfl,a,b,al,al,c⟩
theorem z8 {base:Nat} {l:Jp} (h:Has w base (J (I ⟨g,0,O⟩) n cap) l) (b:da w w'):bI w' g 0 l:=by
 rcases h.cases with ⟨e,_⟩ |⟨g',c,e,_,_,a⟩
 ·cases e
 ·cases e;exact a.aa b a.lt
theorem A6 (s:ByteArray) (k:Nat) (h:s.size<=4*k):Z (words (N s))<=k:=by
 rw[Rh, <- nZ];have:=kd s;omega
theorem auV (a b:ByteArray) (w:wA) (z:a.size<=1099511627776) (A:b.size<=1099511627776):
  c6 141 #[zX a,zX b] w (dj w (zX (B (N a+N b)))):=by
 have V:=A6 a 274877906944 al;have T:=A6 b 274877906944 al;go_enter func141,ntmps141;go_wp2_with fail
 refine(Be a _ al).af ?_;rintro e F ⟨k,i,rfl,n,c⟩;go_wp2_with fail
 refine(Be b _ al).af ?_;rintro e r ⟨m,j,rfl,p,f⟩;have B9:=z8 n f;have x:=z8 p (aw _ _);have h:da w r:=c.trans (f.af c.size);go_wp2_with fail
 refine(amR k i m j _ _ _ (pg _) (pg _) al al B9 x).af ?_;rintro e s ⟨v,l,rfl,q,y,D,g,t⟩;have d:da w s:=h.trans (t.af h.size);have H:=aF g;clear g;go_wp2_with fail
 refine(TV _ _ _ _ y al q).af ?_;rintro e B7 ⟨rfl,u⟩;go_wp2;go_ret;exact⟨by rw[H.o,mF,mF];rfl,d.trans (u.af d.size)⟩
theorem toList_data (s:ByteArray):s.toList=s.data.toList:=by
 obtain⟨⟨l⟩⟩:=s;simp
theorem alY {a b:Bool} (h:a=b):Ending.returned (zd a)=yk (zd b):=by rw[h]
def kF (m n:Nat):Int:=if m<n then -1 else if m=n then 0 else 1
theorem afv:∀(l m:List UInt8),Z l=Z m ->Op.bytesLess l m=decide (nb l<nb m)
 |[],[],_=>rfl
 |x::l,y::m,h=>by
  have b:Z l=Z m:=by simpa using h
  have i:=afv l m b;have f:=wW l;have c:=wW m;rw[Ib,Ib, <- b];rw[<- b] at c;rw[Op.bytesLess];rcases VJ x.toNat y.toNat with e |e |e
  ·have j:(decide (x<y))=true:=by simpa [UInt8.lt_iff_toNat_lt] using e
   have:(x.toNat+1)*256^Z l<=y.toNat*256^Z l:=mn _ e;rw[iG] at this;rw[j,Bool.true_or];symm;rw[VF];omega
  ·have j:x=y:=QO.1 e;subst j;(have a:(decide (x<x))=false:=aE);rw[a,Bool.false_or,beq_self_eq_true,Hp,i];congr 1
   apply propext;omega
  ·have a:(decide (x<y))=false:=by simp[UInt8.lt_iff_toNat_lt];omega
   (have d:(x==y)=false:=by rw[Hd];rintro rfl;omega);have:(y.toNat+1)*256^Z l<=x.toNat*256^Z l:=mn _ e;rw[iG] at this;rw[a,d,Bool.false_or,Bool.false_and];symm;rw[QM];omega
theorem aeU:∀(l m:List UInt8),Z l=Z m ->nb l=nb m ->l=m
 |[],[],_,_=>rfl
 |x::l,y::m,h,e=>by
  have a:Z l=Z m:=by simpa using h
  have f:=wW l;have d:=wW m;rw[Ib,Ib, <- a] at e;rw[<- a] at d;have p:0<256^Z l:=wH a6
  have b:x.toNat=y.toNat:=by
   rcases VJ x.toNat y.toNat with c |c |c
   ·have:(x.toNat+1)*256^Z l<=y.toNat*256^Z l:=mn _ c;rw[iG] at this;omega
   ·exact c
   ·have:(y.toNat+1)*256^Z l<=x.toNat*256^Z l:=mn _ c;rw[iG] at this;omega
  rw[b] at e;rw[QO.1 b,aeU l m a al]
theorem auS (a b:ByteArray) (w:wA) (h:a.size=b.size):
  c6 262 #[zX a,zX b] w fun e w'=>e=yk (E yR (kF (N a) (N b)))/\w'=w:=by
 have l:=afv a.data.toList b.data.toList (by rw[Hq,Hq];exact h);rcases VJ (N a) (N b) with c |c |c
 ·have L:Op.bytesLess a.toList b.toList=true:=by rw[toList_data,toList_data,l];simpa [N] using c
  have H:we (kF (N a) (N b)= -1):=by show _=_;rw[kF,aA c]
  clear l c;go_enter func262,ntmps262;go_wp2;go_ret;exact⟨C3 H.o.symm,rfl⟩
 ·have L:Op.bytesLess a.toList b.toList=false:=by rw[toList_data,toList_data,l];simp only[N] at c;rw[QM];omega
  have B9:(a.toList==b.toList)=true:=by
   rw[toList_data,toList_data,aeU a.data.toList b.data.toList (by rw[Hq,Hq];exact h) c];simp
  have H:we (kF (N a) (N b)=0):=by show _=_;rw[kF,aD al,aA c]
  clear l c;go_enter func262,ntmps262;go_wp2;go_ret;exact⟨C3 H.o.symm,rfl⟩
 ·have L:Op.bytesLess a.toList b.toList=false:=by rw[toList_data,toList_data,l];simp only[N] at c;rw[QM];omega
  have B9:(a.toList==b.toList)=false:=by
   rw[toList_data,toList_data,Hd];intro e;rw[N,N,e] at c;omega
  have H:we (kF (N a) (N b)=1):=by show _=_;rw[kF,aD al,aD al]
  clear l c;go_enter func262,ntmps262;go_wp2;go_ret;exact⟨C3 H.o.symm,rfl⟩
theorem abr (a b:ByteArray) (w:wA):
  c6 211 #[zX a,zX b] w fun e w'=>e=yk (E yR (kF (N a) (N b)))/\w'=w:=by
 by_cases h:(B (N a)).size=(B (N b)).size
 ·have f:=fun V=>auS (B (N a)) (B (N b)) V h;simp only[cQ] at f;have H:=aF f;have n:(((B (N a)).size:Int) !=((B (N b)).size:Int))=false:=by rw[h];simp
  clear f h;go_enter func211,ntmps211;go_wp2_with fail
  refine(Gk _ _).af ?_;rintro e g ⟨rfl,d⟩;subst d;go_wp2_with fail
  refine(Gk _ _).af ?_;rintro e i ⟨rfl,d⟩;subst d;go_wp2_with fail
  refine(H.o _).af ?_;rintro e j ⟨rfl,d⟩;subst d;go_wp2;go_ret;exact⟨rfl,rfl⟩
 ·have n:(((B (N a)).size:Int) !=((B (N b)).size:Int))=true:=by rw[bne_iff_ne];omega
  have R:we (Lib.compareInt (((B (N a)).size:Nat):Int) (((B (N b)).size:Nat):Int)=kF (N a) (N b)):=by
   show _=_;rw[nZ,nZ] at h⊢;unfold Lib.compareInt kF;rcases dR (N a) (N b) with c |c
   ·have:=aaD (AV c);rw[aA al,aA c]
   ·have:=aaD c;rw[aD al,aA al,aD al,aD (by intro e;rw[e] at h;exact h rfl)]
  clear h;go_enter func211,ntmps211;go_wp2_with fail
  refine(Gk _ _).af ?_;rintro e g ⟨rfl,d⟩;subst d;go_wp2_with fail
  refine(Gk _ _).af ?_;rintro e i ⟨rfl,d⟩;subst d;go_wp2_with fail
  refine(Tryz.cmp_Compare_int _ _ _).af ?_;rintro e j ⟨rfl,d⟩;subst d;go_wp2;go_ret;exact⟨C3 R.o,rfl⟩
def dM (xs ys:Jp) (f:Nat):Nat ->Jp×Nat×Nat
 |0=>([],0,0)
 |k+1=>((dM xs ys f k).1++[(xs[k]?.getD 0+2*W - ((dM xs ys f k).2.1+ys[k]?.getD 0*f) % W - (dM xs ys f k).2.2) % W],
   ((dM xs ys f k).2.1+ys[k]?.getD 0*f)/W,if xs[k]?.getD 0<((dM xs ys f k).2.1+ys[k]?.getD 0*f) % W+(dM xs ys f k).2.2 then 1 else 0)
theorem acZ (xs s:Jp) (f k:Nat):(dM xs s f k).1.length=k:=by
 induction k with
 |zero=>rfl
 |succ k ih=>simp[dM,ih]
theorem alC (xs s:Jp) (f k:Nat):Small (dM xs s f k).1:=by
 induction k with
 |zero=>intro x h;simp[dM] at h
 |succ k ih=>
  intro x h;rw[dM] at h;rcases bH.1 h with h |h
  ·exact ih x h
  ·simp only[bD] at h;subst h;exact jh _ nR
theorem ac0 (xs s:Jp) (f k:Nat):(dM xs s f k).2.2<=1:=by
 cases k with
 |zero=>exact aX _
 |succ k=>
  rw[dM];show (if _ then 1 else 0)<=1;split<;>omega
theorem alE (xs s:Jp) (f:Nat) (h:Small s) (d:f<W) (k:Nat):(dM xs s f k).2.1<W:=by
 induction k with
 |zero=>exact nR
 |succ k ih=>
  rw[dM];refine JS ?_;have a:=getD_lt h k;have b:s[k]?.getD 0*f<=(W - 1)*(W - 1):=ld al al;have c:(W - 1)*(W - 1)+W<=W*W:=a6
  omega
theorem alB (x c t b:Nat) (d:x<W) (a:b<=1):
  (x+2*W - (c+t) % W - b) % W+t+b+c=x+W*((c+t)/W+if x<(c+t) % W+b then 1 else 0):=by
 have e:=Nat.mod_add_div (c+t) W;have l:=jh (c+t) nR;generalize (c+t) % W=lo at *;generalize (c+t)/W=q at *;rw[oZ];by_cases h:x<lo+b
 ·rw[aA h]
  have:(x+2*W - lo - b) % W=x+W - lo - b:=by
   rw[show x+2*W - lo - b=(x+W - lo - b)+W by omega,Nat.add_mod_right];exact kM al
  omega
 ·rw[aD h]
  have:(x+2*W - lo - b) % W=x - lo - b:=by
   rw[show x+2*W - lo - b=(x - lo - b)+W+W by omega,Nat.add_mod_right,Nat.add_mod_right];exact kM al
  omega
theorem alD (xs s:Jp) (f:Nat) (x:Small xs) (k:Nat):
  nw (dM xs s f k).1+f*nw (s.take k)=nw (xs.take k)+W^k*((dM xs s f k).2.1+(dM xs s f k).2.2):=by
 rw[<- KL xs k, <- KL s k];induction k with
 |zero=>simp[dM,kq,pq]
 |succ k ih=>
  have h:=ac0 xs s f k;have a:=alB (xs[k]?.getD 0) (dM xs s f k).2.1 (s[k]?.getD 0*f) (dM xs s f k).2.2 (getD_lt x k) h
  have e:f*(kq (fun j=>s[j]?.getD 0) k+W^k*s[k]?.getD 0)=f*kq (fun j=>s[j]?.getD 0) k+W^k*(s[k]?.getD 0*f):=by
   rw[oZ,CQ,eN f (s[k]?.getD 0)]
  rw[dM,kq,kq,Fl,acZ,e];show _=_+W^(k+1)*(_+if _ then 1 else 0);rw[jK,ju];generalize (xs[k]?.getD 0+2*W - ((dM xs s f k).2.1+s[k]?.getD 0*f) % W - (dM xs s f k).2.2) % W=d at *;generalize (((dM xs s f k).2.1+s[k]?.getD 0*f)/W+if xs[k]?.getD 0<((dM xs s f k).2.1+s[k]?.getD 0*f) % W+(dM xs s f k).2.2 then 1 else 0)=z at *;generalize (dM xs s f k).2.1=c at *;generalize (dM xs s f k).2.2=b at *;generalize s[k]?.getD 0*f=t at *;have:=eG (W^k*·) a;simp only[oZ] at this ih⊢;omega
theorem aaN (t:Nat) (h:t<18446744073709551616):bits .and .u64 (t:Int) 4294967295=((t % 4294967296:Nat):Int):=by
 have e:(4294967295:Int)=((4294967295:Nat):Int):=rfl;rw[e,u64_and_nat t 4294967295 h al];congr 1
 exact Nat.and_two_pow_sub_one_eq_mod t 32
theorem WD (x lo b:Nat) (c:x<4294967296) (l:lo<4294967296) (a:b<=1):
  IntKind.u64.wrap (IntKind.u64.wrap ((x:Int) - (lo:Int)) - (b:Int))/9223372036854775808=((if x<lo+b then 1 else 0:Nat):Int)/\
  IntKind.u64.wrap (IntKind.u64.wrap ((x:Int) - (lo:Int)) - (b:Int)) % 4294967296=(((x+2*W - lo - b) % W:Nat):Int):=by
 rw[Q6,Q6,ja];by_cases h:x<lo+b
 ·rw[aA h];have e:(((x:Int) - (lo:Int)) % 18446744073709551616 - (b:Int)) % 18446744073709551616=(x:Int) - (lo:Int) - (b:Int)+18446744073709551616:=al
  rw[e];omega
 ·rw[aD h];have e:(((x:Int) - (lo:Int)) % 18446744073709551616 - (b:Int)) % 18446744073709551616=(x:Int) - (lo:Int) - (b:Int):=al
  rw[e];omega
theorem acb (g l cap b R j7:Nat) (xs a:Jp) (f:Nat) (w:wA) (B6:Small xs) (T:Small a) (B7:f<W) (ax:Z xs<=35184372088832) (Dg:Z a<=Z xs) (hx:bI w g l xs) (hy:bI w b R a) (aj:b≠g):
  c6 260 #[J (I ⟨g,l,O⟩) (Z xs) cap,J (I ⟨b,R,O⟩) (Z a) j7,E yW (f:Nat)] w fun e w'=>∃(s:Nat) (l':Jp),e=yk (zd (decide (s≠0)))/\l'.length=Z xs/\Small l'/\nw l'+f*nw a=nw xs+W^Z xs*s/\bI w' g l l'/\dH g l (Z xs) w w':=by
 have av:f<4294967296:=B7;go_enter func260,ntmps260;go_wp2
 go_loopw [7,8,13] (fun c bo i wr=>∃k:Nat,k<=Z xs/\i=E yR k/\c=E .u64 ((dM xs a f k).2.1:Nat)/\bo=E .u64 ((dM xs a f k).2.2:Nat)/\bI wr g l ((dM xs a f k).1++xs.drop k)/\dH g l (Z xs) w wr)
  (fun _ _ i _=>Z xs - (intOf i).toNat)
 case atStart=>exact⟨0,aX _,rfl,rfl,rfl,by simpa [dM] using hx,dH.refl _ _ _ _⟩
 case round=>
  obtain⟨k,hk,rfl,rfl,rfl,d,j⟩:=hrel;have U:=alE xs a f T B7 k;have V:=ac0 xs a f k;have h:=acZ xs a f k;have Y:=alC xs a f k;have H:=aF (alD xs a f B6 k);rw[ja] at U;by_cases an:k<Z xs
  ·have r:k<Z ((dM xs a f k).1++xs.drop k):=by rw[cD,h,qi];omega
   have ab:=d.cell k r;have ai:=d.frozen (l+k);have m:=fun y=>d.set k r y;simp only[Ug _ xs k _ h an] at m
   have A:((dM xs a f k).1++xs.drop k)[k]?.getD 0=xs[k]?.getD 0:=by
    rw[JX al,h,rT,MP,ji]
   rw[A] at ab
   have u:we (dM xs a f (k+1)=((dM xs a f k).1++[(xs[k]?.getD 0+2*W - ((dM xs a f k).2.1+a[k]?.getD 0*f) % W - (dM xs a f k).2.2) % W],
    ((dM xs a f k).2.1+a[k]?.getD 0*f)/W,if xs[k]?.getD 0<((dM xs a f k).2.1+a[k]?.getD 0*f) % W+(dM xs a f k).2.2 then 1 else 0)):=rfl
   have D:=getD_lt B6 k;have P:=getD_lt T k;have F:a[k]?.getD 0*f<=4294967295*4294967295:=ld (by rw[ja] at P;omega) (by rw[ja] at B7;omega);rw[ja] at D P;by_cases Le:k<Z a
   ·have ar:=(hy.apart j aj).cell k Le;generalize (dM xs a f k).2.1=c at *;generalize (dM xs a f k).2.2=bo at *;generalize (dM xs a f k).1=q at *;generalize xs[k]?.getD 0=x at *;generalize a[k]?.getD 0=y at *;(have vD:(y:Int)*(f:Int)<=18446744065119617025:=by rw[<- ng];omega);(have uC:0<=(y:Int)*(f:Int):=by rw[<- ng];omega);obtain⟨lo,L⟩:∃lo,lo=(c+y*f) % 4294967296:=⟨_,rfl⟩
    have aq:bits .and .u64 ((c:Int)+(y:Int)*(f:Int)) 4294967295=(lo:Int):=by
     have:=aaN (c+y*f) al;rw[<- L] at this;rw[<- this,E0,ng]
    (have ad:lo<4294967296:=al);have Qp:=aF L;have z:=aF m;clear m A r d H L F;go_wp2;obtain⟨v,t⟩:=WD x lo bo D ad V;rw[v,t];have M:Value.int .u64 (((c:Int)+(y:Int)*(f:Int))/4294967296)=E .u64 (((c+y*f)/W:Nat):Int):=int_eq (by rw[ja,A3,E0,ng];rfl);rw[M];have p:=z.o ((x+2*W - lo - bo) % W);have nW:we ((c+y*f) % W=lo):=Qp.o.symm;have S:=u.o;rw[nW.o] at S;go_roundw
    case rel=>exact⟨k+1,al,bd,by rw[S],by rw[S],by rw[S];exact p,j.trans (dH.setCell (MJ _ _) al _)⟩
    case measure=>simp[intOf];omega
   ·have Q:a[k]?.getD 0=0:=by rw[jw al];rfl
    by_cases K:(dM xs a f k).2.1=0/\(dM xs a f k).2.2=0
    ·obtain⟨X,B1⟩:=K
     have B9:we (nw ((dM xs a f k).1++xs.drop k)+f*nw a=nw xs):=by
      show _=_;have e:=H.o;rw[X,B1,mV,ji,lg (show Z a<=k by omega)] at e;have e2:=vk xs k hk;rw[Da,h];omega
     have ao:=Bg Y (Nh B6 k);(have dK:Z ((dM xs a f k).1++xs.drop k)=Z xs:=by rw[cD,h,qi];omega);rw[X,B1];generalize (dM xs a f k).1++xs.drop k=q at *;clear m ab ai u A r H F;go_wp2;go_ret;exact⟨0,q,rfl,dK,ao,by rw[B9.o,mV,ji],d,j⟩
    ·have S:=u.o;simp only[Q,oY,ji] at S;generalize (dM xs a f k).2.1=c at *;generalize (dM xs a f k).2.2=bo at *;generalize (dM xs a f k).1=q at *;generalize xs[k]?.getD 0=x at *;have aa:c % W=c:=kM U;simp only[aa] at S
     have aq:bits .and .u64 (c:Int) 4294967295=(c:Int):=by
      have:=aaN c al;rwa [kM U] at this
     have n:=aF S;have z:=aF m;clear m A r d H Q F u S aa;by_cases B2:c=0
     ·subst B2;(have ae:bo=1:=al);subst ae;clear K;go_wp2;obtain⟨v,t⟩:=WD x 0 1 D al al;have hz:bits .and .u64 0 4294967295=((0:Nat):Int):=aaN 0 al;rw[hz,show IntKind.u64.wrap (IntKind.u64.wrap ((x:Int) - ((0:Nat):Int)) - 1)=IntKind.u64.wrap (IntKind.u64.wrap ((x:Int) - ((0:Nat):Int)) - ((1:Nat):Int)) from rfl,v,t];have p:=z.o ((x+2*W - 0 - 1) % W);go_roundw
      case rel=>exact⟨k+1,al,bd,by rw[n.o];rfl,by rw[n.o],by rw[n.o];exact p,j.trans (dH.setCell (MJ _ _) al _)⟩
      case measure=>simp[intOf];omega
     ·have af:((c:Int)==0)=false:=by rw[Hd];omega
      clear K;go_wp2;obtain⟨v,t⟩:=WD x c bo D U V;rw[v,t];have M:Value.int .u64 ((c:Int)/4294967296)=E .u64 ((c/W:Nat):Int):=int_eq (by rw[ja];omega);have p:=z.o ((x+2*W - c - bo) % W);rw[M];go_roundw
      case rel=>exact⟨k+1,al,bd,by rw[n.o],by rw[n.o],by rw[n.o];exact p,j.trans (dH.setCell (MJ _ _) al _)⟩
      case measure=>simp[intOf];omega
  ·obtain rfl:k=Z xs:=al
   rw[List.drop_length,lh] at d
   have B9:we (nw (dM xs a f (Z xs)).1+f*nw a=nw xs+W^Z xs*((dM xs a f (Z xs)).2.1+(dM xs a f (Z xs)).2.2)):=by
    show _=_;have e:=H.o;rwa [iP,lg Dg] at e
   generalize (dM xs a f (Z xs)).1=q at *;generalize (dM xs a f (Z xs)).2.1=c at *;generalize (dM xs a f (Z xs)).2.2=bo at *;clear H;by_cases B2:c=0
   ·subst B2;rcases (show bo=0∨bo=1 by omega) with rfl |rfl
    ·go_wp2;go_ret;exact⟨0,q,rfl,h,Y,B9.o,d,j⟩
    ·go_wp2;go_ret;exact⟨1,q,rfl,h,Y,B9.o,d,j⟩
   ·have af:((c:Int) !=0)=true:=by rw[bne_iff_ne];omega
    go_wp2;go_ret;exact⟨c+bo,q,alY (by symm;rw[VF];omega),h,Y,B9.o,d,j⟩
theorem ajM (h:m<=n):Z (words m)<=Z (words n):=by
 rw[Rh,Rh];have:=aaD h;omega
theorem at7 (a b:ByteArray) (w:wA) (h:N a<N b):
  c6 210 #[zX a,zX b] w (dj w (zz #[zX ⟨#[]⟩,zd x3])):=by
 have d:kF (N a) (N b)= -1:=by rw[kF,aA h]
 have c:=fun V=>abr a b V;simp only[d] at c;have H:=aF c;clear c d;go_enter func210,ntmps210;go_wp2_with fail
 refine(H.o _).af ?_;rintro e g ⟨rfl,f⟩;subst f;go_wp2;go_ret2;exact⟨rfl,aw _ _⟩
theorem at5 (a b:ByteArray) (w:wA) (U:a.size<=1099511627776) (X:b.size<=1099511627776) (h:N b<=N a):
  c6 210 #[zX a,zX b] w (dj w (zz #[zX (B (N a - N b)),zd xq])):=by
 have Y:0<=kF (N a) (N b):=by
  rw[kF,aD al];split<;>omega
 have p:=fun V=>abr a b V;generalize kF (N a) (N b)=T at *;have H:=aF p;clear p;have lV:=A6 a 274877906944 al;have B1:=A6 b 274877906944 al;go_enter func210,ntmps210;go_wp2_with fail
 refine(H.o _).af ?_;rintro e w0 ⟨rfl,K⟩;subst K;go_wp2_with fail
 refine(Be a _ al).af ?_;rintro e q ⟨g,F,rfl,c,x⟩;go_wp2_with fail
 refine(Be b _ al).af ?_;rintro e M ⟨m,B7,rfl,f,i⟩;have B9:=z8 c i;have y:=z8 f (aw _ _);have v:=c.aa i (ak _);have ab:g<q.heap.size:=(z8 c (aw _ _)).lt
 have ad:q.heap.size<=m:=by
  rcases f.cases with ⟨e,_⟩ |⟨g',S,e,_,j,_⟩
  ·cases e
  ·cases e;exact j
 have Q:w0.heap.size<=g:=by
  rcases c.cases with ⟨e,_⟩ |⟨g',S,e,_,j,_⟩
  ·cases e
  ·cases e;exact j
 have r:da w0 M:=x.trans (i.af x.size);go_wp2_with fail
 refine(acb g 0 F m 0 B7 _ _ 1 _ (pg _) (pg _) a6 al (ajM h) B9 y al).af ?_;rintro e B2 ⟨s,l,rfl,d,A,n,t,u⟩
 have z:s=0:=by
  have R:=yj l A;rw[d] at R;rw[mF,mF] at n;rcases zj s with e |e
  ·exact e
  ·have:W^Z (words (N a))*1<=W^Z (words (N a))*s:=mW _ e;omega
 have D:we (nw l=N a - N b):=by
  show _=_;rw[mF,mF,z] at n;omega
 have B6:=v.upd u t d;have k:da w0 B2:=dH.aa r u Q r.size;have L:=aF d;clear n d B9 y v t u c f z;go_wp2_with fail
 refine(TV _ _ _ _ A (by rw[L.o];omega) B6).af ?_;rintro e w4 ⟨rfl,P⟩;go_wp2;go_ret2;exact⟨by rw[D.o];rfl,k.trans (P.af k.size)⟩
def jz (x:Nat) (ys p:Jp) (i j:Nat):Nat:=x*ys[j]?.getD 0+p[i+j]?.getD 0
theorem ac5 (x:Nat) (s p:Jp) (i:Nat) (f:x<W) (y:Small s) (a:Small p) (k:Nat):(acc (jz x s p i) k).2<W:=by
 have h:=aaU (jz x s p i) (W - 1) k fun j _=>by
  have b:=getD_lt y j;have c:=getD_lt a (i+j);have d:x*s[j]?.getD 0<=(W - 1)*(W - 1):=ld al al;have e:(W - 1)*(W - 1)+W+W<=W*W+1:=a6
  unfold jz;rw[VH nR];omega
 have:=nR;omega
theorem alQ (x:Nat) (s p:Jp) (i:Nat):kq (jz x s p i) (Z s)=x*nw s+nw ((p.drop i).take (Z s)):=by
 rw[show jz x s p i=fun j=>(fun j=>x*(fun j=>s[j]?.getD 0) j) j+(fun j=>p[i+j]?.getD 0) j from rfl,aeD,aeB,aeC s _ (ak _)];congr 1
 rw[<- KL];exact anW fun j _=>by rw[MP]
def BA (x:Nat) (ys p:Jp) (i:Nat):Jp:=p.take i++((acc (jz x ys p i) (Z ys)).1++[(acc (jz x ys p i) (Z ys)).2])++p.drop (i+(Z ys+1))
theorem aeA (p:Jp) (k:Nat) (h:∀j,k<=j ->p[j]?.getD 0=0):nw (p.drop k)=0:=by
 have:p.drop k=List.replicate (Z (p.drop k)) 0:=by
  apply mZ
  ·simp
  ·intro j a b;have:=h (k+j) al;rw[qi] at a;rw[ba al] at this;simpa using this
 rw[this,XD]
theorem aoy (x:Nat) (s p:Jp) (i:Nat) (m:x<W) (y:Small s) (h:Small p) (n:i+Z s<Z p) (a:∀j,i+Z s<=j ->p[j]?.getD 0=0):
  (BA x s p i).length=Z p/\Small (BA x s p i)/\nw (BA x s p i)=nw p+W^i*(x*nw s)/\∀j,i+1+Z s<=j ->(BA x s p i)[j]?.getD 0=0:=by
 have l:=PG (jz x s p i) (Z s);have B7:Z (p.take i)=i:=by rw[eZ];omega
 have g:Z (p.take i++((acc (jz x s p i) (Z s)).1++[(acc (jz x s p i) (Z s)).2]))=i+(Z s+1):=by
  rw[cD,cD,B7,l];rfl
 refine⟨?_,?_,?_,?_⟩
 ·rw[BA,cD,g,qi];omega
 ·refine Bg (Bg (Ko h i) (Bg (aaS _ _) ?_)) (Nh h _);intro z c;simp only[bD] at c;subst c;exact ac5 x s p i m y h _
 ·have e:=aaT (jz x s p i) (Z s);rw[alQ] at e;have d:=vk p i al;have b:=vk (p.drop i) (Z s) (by rw[qi];omega);rw[List.drop_drop,aeA p (i+Z s) a,mV,ji] at b;have f:=aeA p (i+(Z s+1)) (fun j k=>a j al);rw[BA,Da,f,mV,ji,Da,B7,Fl,l,e,d,b,oZ];omega
 ·intro j k;rw[BA,JX al,g,MP];exact a _ al
theorem dH.drewN {f:Nat} {a b:wA} (h:dH g f n a b) (k:Nat):dH g f n a (b.drewN k):=⟨⟨h.grown.os,h.grown.tape,h.grown.output,h.grown.size,h.grown.block⟩,h.inside⟩
theorem bI.drewN {f:Nat} {l:Jp} (h:bI w g f l) (k:Nat):bI (w.drewN k) g f l:=h
theorem akn (R mL T j7:Nat) (xs a:Jp) (w:wA) (jD:Small xs) (B9:Small a) (bs:Z xs<=8796093022208) (bt:Z a<=8796093022208) (U:bI w R 0 xs) (Y:bI w T 0 a):
  c6 212 #[J (I ⟨R,0,O⟩) (Z xs) mL,J (I ⟨T,0,O⟩) (Z a) j7] w fun e w'=>∃v l,e=yk v/\Has w' w.heap.size v l/\Small l/\l.length=Z xs+Z a/\nw l=nw xs*nw a/\da w w':=by
 obtain⟨i0,hi,a6,bb,bf⟩:=eo Tryz.infoU32;have az:=U.lt;have sK:=Y.lt;go_enter func212,ntmps212
 go_wp2_with (first
  |(at_make;refine oX _ rfl _ _ 221 rfl w.heap.size 157 i0 (E yW 0) 1 underlying221 hi a6 bb yR yR _ _ (Z xs+Z a) rfl rfl al al (by rw[bf];omega) (by unfold maxLen;omega) (ak _) ?_;intro r aj an;have B6:=sR aj;rw[NS] at B6;have B1:=aF B6;have A:da w r:=(aw _ w).grown an (ak _) (fun k e=>by cases e);have aW:=U.aa A az;have a1:=Y.aa A sK;clear aj an B6))
 have aJ:=SE B1.o
 go_loopw [17] (fun i wr=>∃(k:Nat) (p:Jp),k<=Z xs/\i=E yR k/\p.length=Z xs+Z a/\Small p/\we (nw p=nw (xs.take k)*nw a)/\we (∀j,k+Z a<=j ->p[j]?.getD 0=0)/\bI wr w.heap.size 0 p/\dH w.heap.size 0 (Z xs+Z a) r wr)
  (fun i _=>Z xs - (intOf i).toNat)
 case atStart=>exact⟨0,_,aX _,rfl,aE,acI _,by show _=_;rw[XD];simp[pq],fun j _=>by rw[JW];split<;>rfl,aJ,dH.refl _ _ _ _⟩
 case round=>
  obtain⟨k,p,hk,rfl,D,g,Q,aM,d,h⟩:=hrel;obtain⟨t,rfl⟩:∃t:wA,t=wr:=⟨_,rfl⟩;by_cases K:k<Z xs
  ·have vH:=fun V (hV:dH w.heap.size 0 (Z xs+Z a) r V)=>(aW.apart hV al).cell k K;have u:=getD_lt jD k;have ad:=aoy (xs[k]?.getD 0) a p k u B9 g al aM.o
   have X:we (nw (xs.take (k+1))=nw (xs.take k)+W^k*xs[k]?.getD 0):=by
    show _=_;rw[XE xs k K,ba K];rfl
   generalize xs[k]?.getD 0=x at *;have aq:=aF vH;have ab:=aF ad;(have ai:bI t w.heap.size 0 (p.take k++(acc (jz x a p k) 0).1++p.drop (k+0)):=by simpa [acc] using d);clear vH ad;go_wp2
   go_loopw [7,22] (fun c j wr=>∃m:Nat,m<=Z a/\j=E yR m/\c=E .u64 ((acc (jz x a p k) m).2:Nat)/\bI wr w.heap.size 0 (p.take k++(acc (jz x a p k) m).1++p.drop (k+m))/\dH w.heap.size 0 (Z xs+Z a) r wr)
    (fun _ j _=>Z a - (intOf j).toNat)
   case atStart=>exact⟨0,aX _,rfl,rfl,ai,h⟩
   case round=>
    obtain⟨m,hm,rfl,rfl,F,S⟩:=hrel;have zU:=ac5 x a p k u B9 g m;have f:=PG (jz x a p k) m;(have H:Z (p.take k)=k:=by rw[eZ];omega);rw[ja] at zU;by_cases YZ:m<Z a
    ·have q:k+m<Z (p.take k++(acc (jz x a p k) m).1++p.drop (k+m)):=by rw[cD,cD,H,f,qi];omega
     have L:=F.cell (k+m) q;have ay:=F.frozen (k+m);rw[alx _ _ _ k m H f,bK] at L;have b:=fun z n=>(F.drewN n).set (k+m) q z;simp only[acY _ _ p k m _ H f al,bK] at b;have av:=aq.o wr S;rw[bK] at av;have ar:=(a1.apart S al).cell m YZ;rw[bK] at ar;have P:=getD_lt B9 m;have lu:=getD_lt g (k+m);have B2:we (acc (jz x a p k) (m+1)=((acc (jz x a p k) m).1++[((acc (jz x a p k) m).2+jz x a p k m) % W],((acc (jz x a p k) m).2+jz x a p k m)/W)):=rfl;have M:we (jz x a p k m=x*a[m]?.getD 0+p[k+m]?.getD 0):=rfl;have Oh:x*a[m]?.getD 0<=4294967295*4294967295:=ld (by rw[ja] at u;omega) (by rw[ja] at P;omega);rw[ja] at P lu;have bk:x<4294967296:=u;generalize (acc (jz x a p k) m).2=c at *;generalize (acc (jz x a p k) m).1=bg at *;generalize jz x a p k m=s at *;generalize a[m]?.getD 0=y at *;generalize p[k+m]?.getD 0=z at *;(have vD:(x:Int)*(y:Int)<=18446744065119617025:=by rw[<- ng];omega);(have uC:0<=(x:Int)*(y:Int):=by rw[<- ng];omega);(have bp:(k:Int)<(Z xs:Int):=al);(have bu:(m:Int)<(Z a:Int):=al);(have bo:(k:Int)+(m:Int)<(Z xs:Int)+(Z a:Int):=al);(have bm:((k:Int)+(m:Int)).toNat=k+m:=al);have B7:=aF b;clear b q F Oh;go_wp2_with fail
     go_quiet (fail)
     go_wp2;have hv:Value.int yW (((c:Int)+((x:Int)*(y:Int)+(z:Int))) % 4294967296)=E yW (((c+s) % W:Nat):Int):=int_eq (by rw[ja,M.o,wK,E0,E0,ng];rfl);have aR:Value.int .u64 (((c:Int)+((x:Int)*(y:Int)+(z:Int)))/4294967296)=E .u64 (((c+s)/W:Nat):Int):=int_eq (by rw[ja,M.o,A3,E0,E0,ng];rfl);rw[hv,aR];have hq:=B7.o ((c+s) % W) nq;go_roundw
     case rel=>exact⟨m+1,al,bd,by rw[B2.o],by rw[B2.o];exact hq,(S.drewN nq).trans (dH.setCell (aX _) al _)⟩
     case measure=>simp[intOf];omega
    ·obtain rfl:m=Z a:=al
     (have q:k+Z a<Z (p.take k++(acc (jz x a p k) (Z a)).1++p.drop (k+Z a)):=by rw[cD,cD,H,f,qi];omega);have L:=F.cell (k+Z a) q;have ay:=F.frozen (k+Z a);rw[bK] at L;have b:=F.set (k+Z a) q (acc (jz x a p k) (Z a)).2;rw[acY _ _ p k (Z a) _ H f al,bK] at b;change bI _ _ _ (BA x a p k) at b
     have B7:=aF b;(have br:((k:Int)+(Z a:Int)).toNat=k+Z a:=al);generalize (p.take k++(acc (jz x a p k) (Z a)).1++p.drop (k+Z a))[k+Z a]?.getD 0=bw at *;generalize (acc (jz x a p k) (Z a)).2=c at *;obtain⟨s1,s2,s3,s4⟩:=ab.o
     have Cp:we (nw (BA x a p k)=nw (xs.take (k+1))*nw a):=by
      show _=_;rw[s3,Q.o,X.o,iG,ju]
     have iw:=aF s1;have tU:=aF s2;have ao:=aF s4;generalize BA x a p k=p2 at *;clear b q F ab s1 s2 s3 s4 X ai d;go_wp2;go_roundw
     case rel=>exact⟨k+1,p2,al,bd,by rw[iw.o,D],tU.o,Cp,fun j hj=>ao.o j al,B7.o,S.trans (dH.setCell (aX _) al _)⟩
     case measure=>simp[intOf];omega
  ·obtain rfl:k=Z xs:=al
   obtain⟨ax,ae,af,_⟩:=h.inside _ B1.o;have sI:=NA (base:=w.heap.size) (cap:=Z xs+Z a) ax ae (by rw[af];simp) (ak _) (by unfold maxLen;omega) al d;have fN:da w t:=dH.aa A h (ak _) A.size;have jW:=aF D;rw[D] at sI;clear D ae af d h;go_wp2;go_ret;exact⟨_,p,rfl,by rw[Has,jW.o];exact sI,g,jW.o,by have:=Q.o;rwa [iP] at this,fN⟩
theorem PT (a b:ByteArray) (w:wA) (A:a.size<=1099511627776) (D:b.size<=1099511627776):
  c6 158 #[zX a,zX b] w (dj w (zX (B (N a*N b)))):=by
 have F:=A6 a 274877906944 al;have T:=A6 b 274877906944 al;go_enter func158,ntmps158;go_wp2_with fail
 refine(Be a _ al).af ?_;rintro e B7 ⟨k,i,rfl,n,c⟩;go_wp2_with fail
 refine(Be b _ al).af ?_;rintro e s ⟨m,j,rfl,p,f⟩;have r:=z8 n f;have y:=z8 p (aw _ _);have h:da w s:=c.trans (f.af c.size);go_wp2_with fail
 refine(akn k i m j _ _ _ (pg _) (pg _) al al r y).af ?_;rintro e t ⟨v,l,rfl,q,z,B9,g,u⟩;have d:da w t:=h.trans (u.af h.size);have V:=aF g;have H:=aF B9;clear g B9;go_wp2_with fail
 refine(TV _ _ _ _ z (by rw[H.o];omega) q).af ?_;rintro e B6 ⟨rfl,x⟩;go_wp2;go_ret;exact⟨by rw[V.o,mF,mF];rfl,d.trans (x.af d.size)⟩
theorem aiU (n:Int) (w:wA) (h0: -9223372036854775808<=n) (h1:n<=9223372036854775807):
  c6 140 #[E yR n] w (dj w (zX (B n.toNat))):=by
 have h:=fun V=>aez n.toNat V al;by_cases c:0<=n
 ·obtain⟨m,rfl⟩:=Int.eq_ofNat_of_zero_le c;rw[oC] at h⊢;have H:=aF h;have x:max (m:Int) 0=(m:Int):=al
  clear h;go_enter func140,ntmps140;go_wp2_with fail
  refine(H.o _).af ?_;rintro e d ⟨rfl,b⟩;go_wp2;go_ret;exact⟨rfl,b⟩
 ·have a:n.toNat=0:=al
  rw[a] at h⊢;have H:=aF h;have x:max n 0=0:=al
  clear h a;go_enter func140,ntmps140;go_wp2_with fail
  refine(H.o _).af ?_;rintro e d ⟨rfl,b⟩;go_wp2;go_ret;exact⟨rfl,b⟩
theorem ara (a b:Nat) (w:wA) (d:a<18446744073709551616) (e:b<18446744073709551616):
  c6 241 #[E .u64 (a:Nat),E .u64 (b:Nat)] w (dj w (E .u64 (Nat.gcd a b:Nat))):=by
 go_enter func241,ntmps241;go_wp2;go_loopw [0,1] (fun x y wr=>∃m n:Nat,x=E .u64 m/\y=E .u64 n/\m<18446744073709551616/\n<18446744073709551616/\we (Nat.gcd m n=Nat.gcd a b)/\da w wr) (fun _ y _=>(intOf y).toNat)
 case atStart=>exact⟨a,b,rfl,rfl,d,e,rfl,aw _ _⟩
 case round=>
  obtain⟨m,n,rfl,rfl,i,f,g,h⟩:=hrel;by_cases c:n=0
  ·subst c;go_wp2;go_ret;exact⟨C3 (by rw[<- g.o,Nat.gcd_zero_right]),h⟩
  ·have B9:((n:Int) !=0)=true:=by rw[bne_iff_ne];omega
   (have j:((n:Int)==0)=false:=by rw[Hd];omega);(have M:¬(n:Int)=0:=al);(have l:0<n:=al);have r:m % n<n:=jh _ l;(have H:we (Nat.gcd n (m % n)=Nat.gcd a b):=by show _=_;rw[<- g.o, <- MK (m % n) n, <- Nat.gcd_rec,MK]);go_wp2_with fail
   go_region
   all_goals go_wp2
   rw[show ((m:Int) % (n:Int))=((m % n:Nat):Int) from (wK m n).symm];go_roundw
   case rel=>exact⟨n,m % n,rfl,rfl,f,al,H,h.drew⟩
   case measure=>simp[intOf];omega
theorem anE (a b:Nat) (h:a<4294967296) (d:b<4294967296):bits .or .u64 (a:Int) ((b:Int)*4294967296)=((a+b*4294967296:Nat):Int):=by
 have e:(b:Int)*4294967296=((b*4294967296:Nat):Int):=al
 rw[e,u64_or_nat _ _ al al];congr 1
 have:=nat_join 32 (b*4294967296) a al al;have c:a |||b*4294967296=b*4294967296 |||a:=Nat.or_comm _ _;omega
theorem or_zero (a:Nat) (h:a<4294967296):bits .or .u64 0 (a:Int)=(a:Int):=by
 have:=u64_or_nat 0 a al al;rw[show ((0:Nat):Int)=0 from rfl] at this;rw[this,Nat.zero_or]
theorem abN (g cap:Nat) (l:Jp) (w:wA) (hs:Small l) (n:Z l<=2) (d:bI w g 0 l):
  c6 242 #[J (I ⟨g,0,O⟩) (Z l) cap] w fun e w'=>e=yk (E .u64 (nw l:Nat))/\w'=w:=by
 match l,n with
 |[],_=>
  go_enter func242,ntmps242;go_wp2;refine Mx 1 ?_;rw[tr];go_wp2;go_ret;exact⟨rfl,rfl⟩
 |[a],_=>
  have c:=d.cell 0 aE;have h:a<4294967296:=hs a aE;have o:=or_zero a h;simp only[bK,List.getElem?_cons_zero,CP] at c;go_enter func242,ntmps242;go_wp2;refine Mx 2 ?_;rw[tr];go_wp2;rw[tr];go_wp2;go_ret;exact⟨C3 (by simp[mG,pq]),rfl⟩
 |[a,b],_=>
  have c:=d.cell 0 aE;have f:=d.cell 1 aE;have h:a<4294967296:=hs a aE;have i:b<4294967296:=hs b aE;have o:=or_zero a h;have j:=anE a b h i;simp only[bK,List.getElem?_cons_zero,List.getElem?_cons_succ,CP] at c f;go_enter func242,ntmps242;go_wp2;refine Mx 3 ?_;rw[tr];go_wp2;rw[tr];go_wp2;rw[tr];go_wp2;go_ret;exact⟨C3 (by simp only[mG,pq,ja];omega),rfl⟩
def ko (xs:Jp) (s j:Nat):Nat:=2^s*xs[j]?.getD 0
theorem alp (xs:Jp) (s:Nat):kq (ko xs s) (Z xs)=2^s*nw xs:=by
 rw[show ko xs s=fun j=>2^s*(fun j=>xs[j]?.getD 0) j from rfl,aeB,aeC xs _ (ak _)]
theorem acP (xs:Jp) (x:Small xs) (s k:Nat):(acc (ko xs s) k).2<2^s:=by
 have p:0<2^s:=wH a6
 have h:=aaU (ko xs s) (2^s - 1) k fun j _=>by
  have a:=getD_lt x j;have b:2^s*(xs[j]?.getD 0+1)<=2^s*W:=mW _ a;rw[oZ] at b;unfold ko;rw[VH p];omega
 omega
theorem RR {s:Nat} (hs:s<32):2^s<=2147483648:=by
 have:2^s<=2^31:=lJ a6 al;simpa using this
theorem alj (c x s:Nat) (hs:s<32) (h:c<2^s) (a:x<4294967296):bits .or .u64 (c:Int) (IntKind.u64.wrap ((x:Int)*2^s))=((c+2^s*x:Nat):Int):=by
 have p:=RR hs;have m:x*2^s<=4294967295*2147483648:=ld al p
 have e:IntKind.u64.wrap ((x:Int)*2^s)=((x*2^s:Nat):Int):=by
  rw[Q6,show ((x:Int)*2^s)=((x*2^s:Nat):Int) by simp];omega
 rw[e,u64_or_nat _ _ al al,Nat.or_comm,nat_join s _ _ (Nat.mul_mod_left _ _) h];congr 1
 rw[eN];omega
theorem acN (B6 mL:Nat) (xs:Jp) (s:Nat) (w:wA) (D:Small xs) (hs:s<32) (aJ:Z xs<=8796093022208) (L:bI w B6 0 xs):
  c6 274 #[J (I ⟨B6,0,O⟩) (Z xs) mL,E yR (s:Nat)] w fun e w'=>∃v l,e=yk v/\Has w' w.heap.size v l/\Small l/\l.length=Z xs+1/\nw l=2^s*nw xs/\da w w':=by
 obtain⟨i0,hi,ar,av,ax⟩:=eo Tryz.infoU32;have ai:=L.lt;go_enter func274,ntmps274
 go_wp2_with (first
  |(at_make;refine oX _ rfl _ _ 221 rfl w.heap.size 157 i0 (E yW 0) 1 underlying221 hi ar av yR yR _ _ (Z xs+1) rfl rfl al al (by rw[ax];omega) (by unfold maxLen;omega) (ak _) ?_;intro m X Y;have A:=sR X;rw[NS] at A;have B1:=aF A;have r:da w m:=(aw _ w).grown Y (ak _) (fun k e=>by cases e);have aq:=L.aa r ai;clear X Y A))
 have aj:=SE B1.o
 go_loopw [6,15] (fun c i wr=>∃k:Nat,k<=Z xs/\i=E yR k/\c=E .u64 ((acc (ko xs s) k).2:Nat)/\bI wr w.heap.size 0 ((acc (ko xs s) k).1++(List.replicate (Z xs+1) 0).drop k)/\dH w.heap.size 0 (Z xs+1) m wr)
  (fun _ i _=>Z xs - (intOf i).toNat)
 case atStart=>exact⟨0,aX _,rfl,rfl,by simpa [acc] using aj,dH.refl _ _ _ _⟩
 case round=>
  obtain⟨k,hk,rfl,rfl,d,n⟩:=hrel;have g:=PG (ko xs s) k;by_cases an:k<Z xs
  ·have vH:=(aq.apart n al).cell k an;rw[bK] at vH;(have j:k<Z ((acc (ko xs s) k).1++(List.replicate (Z xs+1) 0).drop k):=by rw[cD,g,qi,ui];omega);have B9:=d.cell k j;have af:=d.frozen k;have a:=fun y=>d.set k j y;rw[bK] at B9;simp only[Ug _ (List.replicate (Z xs+1) 0) k _ g (by simp;omega),bK] at a;have V:=getD_lt D k;have h:=acP xs D s k;have B7:we (acc (ko xs s) (k+1)=((acc (ko xs s) k).1++[((acc (ko xs s) k).2+ko xs s k) % W],((acc (ko xs s) k).2+ko xs s k)/W)):=rfl;have F:we (ko xs s k=2^s*xs[k]?.getD 0):=rfl;rw[ja] at V;have P:=alj (acc (ko xs s) k).2 (xs[k]?.getD 0) s hs h V;have K:2^s*xs[k]?.getD 0<=2147483648*4294967295:=ld (RR hs) al;have p:=RR hs;rw[<- F.o] at P K;generalize ko xs s k=f at *;generalize (acc (ko xs s) k).2=c at *;generalize (acc (ko xs s) k).1=q at *;generalize xs[k]?.getD 0=x at *;generalize (q++(List.replicate (Z xs+1) 0).drop k)[k]?.getD 0=ay at *;obtain⟨t,b⟩:∃t,t=c+f:=⟨_,rfl⟩;rw[<- b] at P;(have Dk:t<18446744073709551615:=al);have T:=aF b;have mN:=aF a;(have S:c<4294967296:=al);clear a j d b K p h F;go_wp2;have hv:Value.int yW ((t:Int) % 4294967296)=E yW (((c+f) % W:Nat):Int):=int_eq (by rw[ja, <- T.o];omega);have ao:Value.int .u64 ((t:Int)/4294967296)=E .u64 (((c+f)/W:Nat):Int):=int_eq (by rw[ja, <- T.o];omega);rw[hv,ao];have hq:=mN.o ((c+f) % W);go_roundw
   case rel=>exact⟨k+1,al,bd,by rw[B7.o],by rw[B7.o];exact hq,n.trans (dH.setCell (aX _) al _)⟩
   case measure=>simp[intOf];omega
  ·obtain rfl:k=Z xs:=al
   (have j:Z xs<Z ((acc (ko xs s) (Z xs)).1++(List.replicate (Z xs+1) 0).drop (Z xs)):=by rw[cD,g,qi,ui];omega);have B9:=d.cell (Z xs) j;have af:=d.frozen (Z xs);have a:=d.set (Z xs) j (acc (ko xs s) (Z xs)).2;rw[Ug _ (List.replicate (Z xs+1) 0) (Z xs) _ g aE,JZ aE,lh,bK] at a;rw[bK] at B9;have h:=acP xs D s (Z xs);have p:=RR hs;have HE:=aF (aaT (ko xs s) (Z xs));have wY:=aaS (ko xs s) (Z xs);have F:=aF (alp xs s);obtain⟨az,ae,OV,_⟩:=n.inside _ B1.o;generalize ((acc (ko xs s) (Z xs)).1++(List.replicate (Z xs+1) 0).drop (Z xs))[Z xs]?.getD 0=ay at *;generalize (acc (ko xs s) (Z xs)).2=c at *;generalize (acc (ko xs s) (Z xs)).1=q at *;(have S:c<4294967296:=al);have u:dH w.heap.size 0 (Z xs+1) m (AF wr ⟨w.heap.size,Z xs,O⟩ (E yW (c:Nat))):=n.trans (dH.setCell (aX _) al _);obtain⟨ad,U,R,_⟩:=u.inside _ B1.o;(have Q:Z (q++[c])=Z xs+1:=by rw[cD,g];rfl);have B2:=NA (base:=w.heap.size) (cap:=Z xs+1) ad U (by rw[R];simp) (ak _) (by unfold maxLen;omega) al a;have fN:=dH.aa r u (ak _) r.size;have HO:=aF B2;have H:=aF Q;have ab:=aF g;clear a j d ae OV U R B2 u Q g p h;go_wp2;go_ret;refine⟨_,q++[c],rfl,?_,?_,H.o,?_,fN⟩
   ·rw[Has,H.o];have:=HO.o;rwa [H.o] at this
   ·exact Bg wY (fun z M=>by simp at M;subst M;exact S)
   ·rw[Fl,ab.o,HE.o,F.o]
def qu (s:Nat):Jp ->Jp
 |[]=>[]
 |x::r=>(x+W*r[0]?.getD 0)/2^s % W::qu s r
theorem alo (s:Nat) (l:Jp):Z (qu s l)=Z l:=by
 induction l with
 |nil=>rfl
 |cons x r ih=>rw[qu,dX,ih,dX]
theorem acO (s:Nat) (l:Jp):Small (qu s l):=by
 induction l with
 |nil=>intro x a;simp[qu] at a
 |cons x r ih=>
  intro y h;rw[qu] at h;rcases bU.1 h with rfl |h
  ·exact jh _ nR
  ·exact ih y h
theorem anU (l:Jp) (h:Small l):nw l % W=l[0]?.getD 0:=by
 cases l with
 |nil=>rfl
 |cons x r=>rw[mG,abu];exact kM (h x dA)
theorem at3 {s:Nat} (hs:s<=32):W=2^s*2^(32 - s):=by rw[<- EP,show s+(32 - s)=32 by omega];rfl
theorem aln (s:Nat) (hs:s<=32) (l:Jp) (d:Small l):nw (qu s l)=nw l/2^s:=by
 induction l with
 |nil=>simp[qu,pq]
 |cons x r ih=>
  have f:Small r:=fun y o=>d y (dL _ o);have t:=d x dA;have h:0<2^s:=wH a6;rw[qu,mG,mG,ih f, <- anU r f];generalize nw r=n;have g:=QR n (2^s);have m:=jh n h;generalize hq:n/2^s=a at *;generalize iK:n % 2^s=b at *
  have q:(x+W*b)/2^s<W:=by
   refine JS ?_;have:W*(b+1)<=W*2^s:=mW _ m;rw[oZ,eN W (2^s)] at this;omega
  have i:(x+W*n)/2^s=(x+W*b)/2^s+W*a:=by
   rw[<- g,oZ, <- zl,Nat.add_right_comm,show W*(2^s*a)=2^s*(W*a) by rw[CQ],Nat.add_mul_div_left _ _ h]
  have j:(x+W*(n % W))/2^s % W=(x+W*b)/2^s:=by
   have k:=at3 hs;(have p:n % W % 2^s=b:=by rw[<- iK,k,Nat.mod_mul_right_mod]);have e:=QR (n % W) (2^s);rw[p] at e;generalize n % W/2^s=c at *;rw[<- e,oZ, <- zl,Nat.add_right_comm,show W*(2^s*c)=2^s*(W*c) by rw[CQ],Nat.add_mul_div_left _ _ h,abu];exact kM q
  rw[i,j]
theorem alk (a x:Nat) (h:x<4294967296):bits .or .u64 (IntKind.u64.wrap ((a:Int)*4294967296)) (x:Int)=((a % 4294967296*4294967296+x:Nat):Int):=by
 have e:IntKind.u64.wrap ((a:Int)*4294967296)=((a % 4294967296:Nat):Int)*4294967296:=by rw[Q6];omega
 rw[e];exact aen (a % 4294967296) x al h
theorem alm (g cap:Nat) (l:Jp) (s:Nat) (w:wA) (F:Small l) (hs:s<32) (X:Z l<=35184372088832) (B7:bI w g 0 l):
  c6 276 #[J (I ⟨g,0,O⟩) (Z l) cap,E yR (s:Nat)] w fun e w'=>e=yk (zz #[])/\bI w' g 0 (qu s l)/\dH g 0 (Z l) w w':=by
 go_enter func276,ntmps276;go_wp2
 go_loopw [4,9] (fun a i wr=>∃k b:Nat,k<=Z l/\i=E yR k/\a=E .u64 (b:Nat)/\b<18446744073709551616/\we (b % 4294967296=(l.drop (Z l - k))[0]?.getD 0)/\bI wr g 0 (l.take (Z l - k)++qu s (l.drop (Z l - k)))/\dH g 0 (Z l) w wr)
  (fun _ i _=>Z l - (intOf i).toNat)
 case atStart=>exact⟨0,0,aX _,rfl,rfl,al,by show _=_;simp,by simpa [qu] using B7,dH.refl _ _ _ _⟩
 case round=>
  obtain⟨k,b,Q,rfl,rfl,S,B1,d,u⟩:=hrel;by_cases U:k<Z l
  ·obtain⟨m,B6⟩:∃m,m+1=Z l - k:=⟨Z l - k - 1,al⟩;(have v:m<Z l:=al);(have n:Z l - (k+1)=m:=al);have h:l.drop m=l[m]::l.drop (m+1):=ri v;have r:=F _ (bQ v);rw[<- B6] at d B1;(have j:m<Z (l.take (m+1)++qu s (l.drop (m+1))):=by simp;omega);have A:=d.cell m j;have B2:=d.frozen (0+m);have c:=fun y=>d.set m j y;simp only[ako l _ m _ v] at c
   have z:(l.take (m+1)++qu s (l.drop (m+1)))[m]?.getD 0=l[m]:=by
    rw[Q1 (by simp;omega),tu,aA al,ba v];rfl
   rw[z] at A;rw[bK] at A B2;(have H:we (qu s (l.drop m)=(l[m]+W*(l.drop (m+1))[0]?.getD 0)/2^s % W::qu s (l.drop (m+1))):=by show _=_;rw[h];rfl);(have B9:we ((l.drop m)[0]?.getD 0=l[m]):=by show _=_;rw[h];rfl);rw[ja] at r;rw[<- B1.o] at H;generalize qu s (l.drop (m+1))=q at *;generalize l[m]=x at *;obtain⟨t,f⟩:∃t,t=b % 4294967296*4294967296+x:=⟨_,rfl⟩;(have R:bits .or .u64 (IntKind.u64.wrap ((b:Int)*4294967296)) (x:Int)=(t:Int):=by rw[f];exact alk b x r);(have D:t<18446744073709551616:=al);(have K:t % 4294967296=x:=al);have P:=aF K;have T:=aF f;(have V:(Z l:Int) - 1 - (k:Int)=(m:Int):=al);have M:=aF c;clear f z c h j d B1 K;go_wp2
   have L:Value.int yW ((t:Int)/2^s % 4294967296)=E yW (((x+W*(b % 4294967296))/2^s % W:Nat):Int):=int_eq (by
    (have e:x+W*(b % 4294967296)=t:=by rw[T.o,ja,eN];omega);rw[e,ja,wK,A3,Int.natCast_pow];rfl)
   rw[L];have p:=M.o ((x+W*(b % 4294967296))/2^s % W);rw[bK] at p;go_roundw
   case rel=>exact⟨k+1,t,al,bd,rfl,D,by show _=_;rw[n,B9.o];exact P.o,by rw[n,H.o];exact p,u.trans (dH.setCell (aX _) al _)⟩
   case measure=>simp[intOf];omega
  ·obtain rfl:k=Z l:=al
   go_wp2;go_end0
   refine⟨rfl,?_,u⟩;simpa using d
theorem aq1 (xs s:Jp) (m:Z xs=Z s+1) (i:Small xs) (r:0<Z s) (e:s[Z s - 1]?.getD 0≠0) (l:nw xs<W*nw s):
  nw xs/nw s<=min ((xs[Z s]?.getD 0*W+xs[Z s - 1]?.getD 0)/s[Z s - 1]?.getD 0) (W - 1):=by
 obtain⟨d,g⟩:∃d,Z s=d+1:=⟨Z s - 1,al⟩;rw[g,QS] at e⊢
 have t:0<nw s:=by
  have:=vk s d al
  have h:s.drop d=[s[d]?.getD 0]:=by
   rw[ri al,JZ al,ba al];rfl
  rw[h,mG,pq,mV,ji] at this;have:0<W^d*s[d]?.getD 0:=MH (wH nR) (mj e);omega
 have n:nw xs/nw s<W:=JS (by rw[eN];exact l);have o:=Nat.div_mul_le_self (nw xs) (nw s);generalize nw xs/nw s=q at *;refine Nat.le_min.2 ⟨?_,al⟩;rw[Nat.le_div_iff_mul_le (mj e)];have c:=vk s d al
 have k:s.drop d=[s[d]?.getD 0]:=by
  rw[ri al,JZ al,ba al];rfl
 rw[k,mG,pq,mV,ji] at c;have b:=vk xs d al
 have j:xs.drop d=[xs[d]?.getD 0,xs[d+1]?.getD 0]:=by
  rw[ri al,ri al,JZ al,ba al,ba al];rfl
 have p:=yj (xs.take d) (Ko i d);rw[eZ,wI al] at p;rw[j,mG,mG,pq,mV,ji] at b;generalize s[d]?.getD 0=y at *;generalize xs[d]?.getD 0=a at *;generalize xs[d+1]?.getD 0=x at *;have f:q*(W^d*y)<=q*nw s:=mW _ al
 have h:W^d*(q*y)<W^d*(x*W+a+1):=by
  rw[CQ] at f;rw[oZ,rU,ET (x*W) a,eN x W];omega
 have:=Nat.lt_of_mul_lt_mul_left h;omega
theorem akr (g f cap b H:Nat) (xs y:Jp) (w:wA) (x:Z xs=Z y+1) (D:Small xs) (k:Small y) (az:Z xs<=35184372088832) (lr:0<Z y) (xe:y[Z y - 1]?.getD 0≠0) (P:nw xs<W*nw y) (B9:bI w g f xs) (F:bI w b 0 y) (B2:b≠g):
  c6 275 #[J (I ⟨g,f,O⟩) (Z xs) cap,J (I ⟨b,0,O⟩) (Z y) H] w fun e w'=>∃l',e=yk (E yW (nw xs/nw y:Nat))/\l'.length=Z xs/\Small l'/\nw l'=nw xs % nw y/\bI w' g f l'/\dH g f (Z xs) w w':=by
 have Tj:=aq1 xs y x D lr xe P;have u:=B9.cell (Z y) al;have j:=B9.cell (Z y - 1) al;have aq:=F.cell (Z y - 1) al;rw[bK] at aq;have an:=getD_lt D (Z y);have ao:=getD_lt D (Z y - 1);have aR:=getD_lt k (Z y - 1);have q:=aF Tj;have HL:=aF x;have Va:=aF P;rw[ja] at an ao aR;have pz:Z y<Z xs:=al
 have yD:=aen (xs[Z y]?.getD 0) (xs[Z y - 1]?.getD 0) an ao;rw[ja] at q;generalize xs[Z y]?.getD 0=x1 at *;generalize xs[Z y - 1]?.getD 0=x0 at *;generalize y[Z y - 1]?.getD 0=p at *;obtain⟨t,ht⟩:∃t,t=x1*4294967296+x0:=⟨_,rfl⟩;rw[<- ht] at yD q;have Dk:t<18446744073709551616:=al
 have Ds:(Z y:Int) - 1<(Z xs:Int):=al
 have nL:(Z y:Int)<(Z xs:Int):=al
 have zS:0<=(Z y:Int) - 1:=al
 have BS:((Z y:Int) - 1).toNat=Z y - 1:=al
 have Th:IntKind.i64.wrap ((Z y:Int) - 1+1)=(Z y:Int):=by rw[jx];omega
 clear ht x P Tj;go_enter func275,ntmps275;go_wp2_with fail
 go_quiet (fail)
 go_wp2_with fail
 obtain⟨gs,B6⟩:∃gs,gs=min (t/p) 4294967295:=⟨_,rfl⟩;have a6:t/p<=t:=AW _ _
 have T:min (IntKind.u64.wrap ((t:Int)/(p:Int))) 4294967295 % 4294967296=(gs:Int):=by
  rw[Q6, <- A3,B6];generalize t/p=z at *;omega
 rw[T];have aj:gs<4294967296:=al
 have U:we (nw xs/nw y<=gs):=by show _<=_;rw[B6];exact q.o
 clear T B6 q yD u j aq;refine(acb g f cap b 0 H xs y gs _ D k aj az al (B9.drewN nq) (F.drewN nq) B2).af ?_;rintro e w2 ⟨s,l,rfl,dK,av,A,V,hu⟩;have ax:dH g f (Z xs) w w2:=((dH.refl g f (Z xs) w).drewN nq).trans hu;have ae:=yj l av;rw[dK] at ae
 have aJ:gs*nw y<W^Z xs:=by
  have a:=yj y k;have h2:gs*nw y<=(W - 1)*nw y:=mn _ (by rw[ja];omega);have h3:W*nw y<=W*W^Z y:=mW _ (AV a);have h4:(W - 1)*nw y<=W*nw y:=mn _ al;have h5:W^Z xs=W*W^Z y:=by rw[HL.o,jK,eN]
  have h6:0<W^Z y:=wH nR;have h7:(W - 1)*nw y<=(W - 1)*W^Z y:=mW _ (AV a)
  have h8:(W - 1)*W^Z y+W^Z y=W*W^Z y:=by
   (have:(W - 1+1)*W^Z y=W*W^Z y:=by rw[VH nR]);rwa [iG,lK] at this
  omega
 have ar:s=0∨s=1:=by
  rcases dR s 2 with h |h
  ·omega
  ·have:W^Z xs*2<=W^Z xs*s:=mW _ h;omega
 have aa:we ((decide (s≠0)=x3/\nw l+gs*nw y=nw xs)∨(decide (s≠0)=xq/\nw l+gs*nw y=nw xs+W^Z xs/\nw xs<gs*nw y)):=by
  rcases ar with rfl |rfl
  ·exact yp ⟨rfl,by rw[A];omega⟩
  ·refine xS ⟨rfl,by rw[A];omega,?_⟩;omega
 generalize decide (s≠0)=be at *;clear A ae aJ ar hu;go_wp2;go_loopg [7,8] gs (fun r gu be wr=>∃(l:Jp) (d:Bool),gu=E yW (r:Nat)/\be=zd d/\l.length=Z xs/\Small l/\bI wr g f l/\dH g f (Z xs) w wr/\we (nw xs/nw y<=r)/\r<4294967296/\we ((d=x3/\nw l+r*nw y=nw xs)∨(d=xq/\nw l+r*nw y=nw xs+W^Z xs/\nw xs<r*nw y)))
 case atStart=>exact⟨l,be,rfl,rfl,dK,av,V,ax,U,aj,aa⟩
 case round=>
  obtain⟨i,d,rfl,rfl,ai,B1,S,B7,nI,a1,L⟩:=hrel;clear aa V ax U;have n:=aF ai;clear ai;cases d with
  |false=>
   have hc:nw i+gk*nw y=nw xs:=by
    rcases L.o with ⟨_,h⟩ |⟨h,_⟩
    ·exact h
    ·cases h
   have Q:0<nw y:=by
    rcases zj (nw y) with e |e
    ·have:=Va.o;rw[e,mV] at this;omega
    ·exact e
   have v:gk=nw xs/nw y:=by
    have a:gk<=nw xs/nw y:=(Nat.le_div_iff_mul_le Q).2 al;have:=nI.o;omega
   have HR:we (nw i=nw xs % nw y):=by
    show _=_;have a:=Nat.div_add_mod' (nw xs) (nw y);rw[<- v] at a;omega
   have HG:=aF v;clear hc v L;go_wp2;go_ret;exact⟨i,by rw[<- HG.o];rfl,n.o,B1,HR.o,S,B7⟩
  |true=>
   obtain⟨u,j⟩:nw i+gk*nw y=nw xs+W^Z xs/\nw xs<gk*nw y:=by
    rcases L.o with ⟨h,_⟩ |⟨_,h⟩
    ·cases h
    ·exact h
   have aW:1<=gk:=by
    rcases zj gk with e |e
    ·rw[e,oY] at j;omega
    ·exact e
   have X:=aF u;have R:=aF j;have ay:=(F.apart B7 B2);clear u j L;go_wp2_with fail
   have K:=Xe g f cap b 0 H i y wr B1 k (by rw[n.o];exact az) (by rw[n.o];omega) S ay B2;rw[n.o] at K;refine K.af ?_;rintro e w3 ⟨c,m,rfl,Y,ab,M,aM,nE⟩;have ad:=yj m ab;rw[Y] at ad
   have aZ:gk*nw y=(gk - 1)*nw y+nw y:=by
    (have:(gk - 1+1)*nw y=gk*nw y:=by rw[VH aW]);rw[<- this,iG,lK]
   have wu:we (((!c)=x3/\nw m+(gk - 1)*nw y=nw xs)∨((!c)=xq/\nw m+(gk - 1)*nw y=nw xs+W^Z xs/\nw xs<(gk - 1)*nw y)):=by
    have a:=X.o;cases c with
    |true=>simp only[if_true] at M;exact yp ⟨rfl,al⟩
    |false=>simp only[Bool.false_eq_true,if_false,ji] at M;exact xS ⟨rfl,al,al⟩
   have aE:we (nw xs/nw y<=gk - 1):=by
    show _<=_
    have Q:0<nw y:=by
     rcases zj (nw y) with e |e
     ·have:=Va.o;rw[e,mV] at this;omega
     ·exact e
    have:=(Nat.div_lt_iff_lt_mul Q).2 R.o;omega
   have Qt:=aF Y;clear M ad aZ K Y S ay X R;go_wp2;go_roundg (gk - 1)
   case measure=>omega
   case rel=>exact⟨m,!c,int_eq al,rfl,Qt.o,ab,aM,B7.trans nE,aE,al,wu⟩
variable {lf ql:Jp}
theorem anT (l:Jp) (i y:Nat) (h:i<Z l):nw (l.set i y)+W^i*l[i]?.getD 0=nw l+W^i*y:=by
 have e:=vk l i al;have a:=vk (l.set i y) i (by rw[gA];omega);have b:(l.set i y).take i=l.take i:=List.take_set_of_le (ak _)
 have c:(l.set i y).drop i=y::l.drop (i+1):=by
  rw[List.drop_set,aD al,rT,ri h,CR]
 have d:l.drop i=l[i]?.getD 0::l.drop (i+1):=by rw[ri h,ba h];rfl
 rw[b,c,mG,oZ] at a;rw[d,mG,oZ] at e;omega
structure wE (X Y L:Nat) (lf ql:Jp) (j:Nat):Prop where
 qlen:Z ql=L
 qs:Small ql
 ls:Small lf
 zero:∀t,t< j ->ql[t]?.getD 0=0
 eq:nw ql*Y+nw lf=X
 lt:nw (lf.drop j)<Y
theorem wE.seg {X Y L:Nat} (h:wE X Y L lf ql (i+1)) (f:Y<=W^m) (n:i+m+1<=Z lf):
  nw ((lf.drop i).take (m+1))<W*Y/\nw (lf.drop i)=nw ((lf.drop i).take (m+1))/\nw (lf.drop (i+(m+1)))=0:=by
 have a:lf.drop i=lf[i]?.getD 0::lf.drop (i+1):=by rw[ri al,ba al];rfl
 have l:nw (lf.drop i)<W*Y:=by
  have b:=h.lt;have g:=getD_lt h.ls i;have d:W*(nw (lf.drop (i+1))+1)<=W*Y:=mW _ b;rw[oZ] at d;rw[a,mG];omega
 have c:=vk (lf.drop i) (m+1) (by rw[qi];omega);rw[List.drop_drop] at c
 have z:nw (lf.drop (i+(m+1)))=0:=by
  rcases zj (nw (lf.drop (i+(m+1)))) with e |e
  ·exact e
  ·have j:W^(m+1)*1<=W^(m+1)*nw (lf.drop (i+(m+1))):=mW _ e;(have k:W*Y<=W^(m+1):=by rw[jK,eN];exact mn _ f);omega
 rw[z,mV,ji] at c;exact⟨al,c,z⟩
theorem wE.step {X Y L:Nat} {e:Jp} (h:wE X Y L lf ql (i+1)) (b:Y<=W^m) (l:i+m+1<=Z lf) (c:i<L) (g:0<Y)
  (P:Z e=m+1) (o:Small e) (B2:nw e=nw ((lf.drop i).take (m+1)) % Y):
  wE X Y L (lf.take i++e++lf.drop (i+(m+1))) (ql.set i (nw ((lf.drop i).take (m+1))/Y)) i:=by
 obtain⟨d,f,s⟩:=h.seg b l;have z:Z (lf.take i)=i:=by rw[eZ];omega
 generalize hS:nw ((lf.drop i).take (m+1))=S at *;have q:S/Y<W:=JS (by rw[eN];exact d);have k:=anT ql i (S/Y) (by rw[h.qlen];exact c);rw[h.zero i al,mV,ji] at k;have j:=Nat.div_add_mod' S Y;have hcut:=vk lf i al
 have n:nw (lf.take i++e++lf.drop (i+(m+1)))=nw (lf.take i)+W^i*(S % Y):=by
  rw[Da,s,mV,ji,Da,z,B2]
 refine⟨by rw[gA];exact h.qlen,?_,?_,?_,?_,?_⟩
 ·intro x a;rcases abw a with a |rfl
  ·exact h.qs x a
  ·exact q
 ·exact Bg (Bg (Ko h.ls i) o) (Nh h.ls _)
 ·intro t p;rw[wJ al];exact h.zero t al
 ·rw[k,n,iG, <- h.eq,hcut,f];have:W^i*S=W^i*(S/Y)*Y+W^i*(S % Y):=by rw[ju, <- oZ,j]
  omega
 ·rw[qj,List.drop_append,z,rT,JZ al,iH,EZ,Da,s,mV,ji,B2];exact jh _ g
theorem wE.start {X Y s:Nat} {xs:Jp} (i:0<m) (j:m<=n) (hs:Small lf) (a:Z xs=n) (x:Small xs) (f:X=2^s*nw xs) (u:nw lf=X) (d:Z lf=n+1) (c:2^s*W^(m - 1)<=Y):
  wE X Y (n - m+1) lf (List.replicate (n - m+1) 0) (n - m+1):=by
 refine⟨aE,acI _,hs,fun t _=>by rw[JW];split<;>rfl,by rw[XD,oY,bK,u],?_⟩;have g:=vk lf (n - m+1) al;have l:nw xs<W^n:=by rw[<- a];exact yj xs x
 have p:0<2^s:=wH a6;have e:2^s*nw xs<2^s*W^n:=Nat.mul_lt_mul_of_pos_left l p;have h:W^n=W^(n - m+1)*W^(m - 1):=by rw[<- EP];congr 1;omega
 have b:W^(n - m+1)*nw (lf.drop (n - m+1))<W^(n - m+1)*(2^s*W^(m - 1)):=by
  rw[CQ, <- h];omega
 exact aT (Nat.lt_of_mul_lt_mul_left b) c
theorem wE.stop {X Y L:Nat} (h:wE X Y L lf ql 0):nw ql=X/Y/\nw lf=X % Y:=by
 have a:=h.lt;rw[EZ] at a;have b:=h.eq;have c:0<Y:=al
 constructor
 ·rw[<- b,ET,VO _ _ c,zk a,bK]
 ·rw[<- b,ET,VN,kM a]
theorem atp (k:Nat):∀x,x<2^k ->k<=32 ->Lib.bitLen x<=k/\x<2^Lib.bitLen x:=by
 induction k with
 |zero=>
  intro x h _;have:x=0:=by simpa using h
  subst this;exact⟨ak _,a6⟩
 |succ k ih=>
  intro x h b;by_cases a:x=0
  ·subst a;exact⟨aX _,a6⟩
  ·have n:x<2^64:=aT h (lJ a6 al);have e:=Lib.bitLen_half x a n;obtain⟨i,c⟩:=ih (x/2) (JS (by rw[jK] at h;omega)) al;rw[e];refine⟨al,?_⟩;rw[ET,jK];omega
theorem ato (x:Nat) (h0:x≠0) (h:x<4294967296):1<=Lib.bitLen x:=by
 have:=Lib.bitLen_half x h0 al;omega
theorem aip (a:Jp) (s:Nat) (hs:Small a) (L:0<Z a) (x:a[Z a - 1]?.getD 0≠0) (i:2^s*(a[Z a - 1]?.getD 0+1)<=W):
  (words (2^s*nw a)).length=Z a/\2^s*W^(Z a - 1)<=2^s*nw a/\2^s*nw a<=W^Z a:=by
 obtain⟨d,g⟩:∃d,Z a=d+1:=⟨Z a - 1,al⟩;rw[g,QS] at x i⊢;have f:=vk a d al
 have o:a.drop d=[a[d]?.getD 0]:=by
  rw[ri al,JZ al,ba al];rfl
 rw[o,mG,pq,mV,ji] at f;have t:=yj (a.take d) (Ko hs d);rw[eZ,wI al] at t;generalize a[d]?.getD 0=y at *;have p:0<2^s:=wH a6;have r:W^d*1<=W^d*y:=mW _ (mj x);have B9:W^d<=nw a:=al
 have F:nw a<W^d*(y+1):=by rw[oZ];omega
 have v:2^s*nw a<2^s*(W^d*(y+1)):=Nat.mul_lt_mul_of_pos_left F p;have A:2^s*(W^d*(y+1))<=W^d*W:=by rw[CQ];exact mW _ i
 have D:2^s*nw a<W^(d+1):=by rw[jK];omega
 have H:W^d<=2^s*nw a:=aO B9 (ES _ p);refine⟨?_,mW _ B9,al⟩;have w:=mF (2^s*nw a);have m:=pg (2^s*nw a);have u:=yj _ m;rw[w] at u
 have T:Z (words (2^s*nw a))<=d+1:=by
  obtain⟨k,K,e⟩:=Rf (words (2^s*nw a)++List.replicate 0 0) (by simpa using m);have n:words (2^s*nw a)≠[]:=fun e=>by rw[Rg] at e;have:0<W^d:=wH nR;omega
  have h:=abM _ n;rcases dR (d+1) (Z (words (2^s*nw a))) with c |c
  ·exfalso
   generalize words (2^s*nw a)=l at *;obtain⟨z,j⟩:∃z,Z l=z+1:=⟨Z l - 1,al⟩;have b:=vk l z al;rw[List.getLast_eq_getElem] at h;(have q:l.drop z=[l[z]'al]:=by rw[ri al,JZ al]);simp only[j,QS] at h;rw[q,mG,pq,mV,ji] at b;have B7:W^z*1<=W^z*l[z]'al:=mW _ (mj h);have B6:W^(d+1)<=W^z:=lJ nR al;omega
  ·exact c
 rcases dR (Z (words (2^s*nw a))) (d+1) with c |c
 ·have:W^Z (words (2^s*nw a))<=W^d:=lJ nR al;omega
 ·omega
theorem asi (vx:Kd) (n L:Nat) (v:Kd) (m j:Nat) (w:wA) (h:n<m):
  c6 240 #[J vx n L,J v m j] w fun e w'=>e=yk (zz #[J O 0 0,J vx n L])/\w'=w:=by
 go_enter func240,ntmps240;go_wp2;go_ret2;exact⟨rfl,rfl⟩
theorem Has.slice {base:Nat} {v:wQ} {l:Jp} (h:Has w base v l) (a:0<Z l):∃g cap,v=J (I ⟨g,0,O⟩) (Z l) cap/\l.length<=cap/\base<=g/\bI w g 0 l:=by
 rcases h.cases with ⟨_,rfl⟩ |h
 ·simp at a
 ·exact h
theorem Wa (n:Nat) (h:0<Z (words n)):(words n)[Z (words n) - 1]?.getD 0≠0:=by
 have e:words n≠[]:=List.length_pos_iff.1 h;have:=abM n e;rw[List.getLast_eq_getElem] at this;rwa [ba al]
def qW (w:wA) (base g n cap:Nat) (l:Jp):Prop:=w.ownsRow base 157 1 (J (I ⟨g,0,O⟩) n cap) n (l.map u32)
theorem qW.lies {base:Nat} {l:Jp} (h:qW w base g n cap l):bI w g 0 l:=(Fi h).2.2.2
theorem qW.len {base:Nat} {l:Jp} (h:qW w base g n cap l):n=Z l:=(Fi h).1
theorem qW.upd {base f:Nat} {l:Jp} (h:qW w base g n cap l) (u:dH g f m w w') (a:bI w' g 0 l') (e:Z l'=n):qW w' base g n cap l':=
 ad1 h (u.af (off':=0) (n':=f+m) (aX _) al) a e
theorem qW.apart {base o:Nat} {l:Jp} (h:qW w base g n cap l) (u:dH g' o m w w') (d:g≠g'):qW w' base g n cap l:=by
 refine⟨h.1,?_⟩;rcases h.2 with ⟨a,_⟩ |⟨i,v,f,b,c,r,e⟩
 ·cases a
 ·cases b;exact xS ⟨g,cap,f,rfl,c,(u.grown.block g (c5.1 r).1 (by simp[d])).trans r,e⟩
theorem qW.lies_le {base:Nat} {l:Jp} (h:qW w base g n cap l):Z l<=cap:=(Fi h).2.1
theorem qW.words {base:Nat} {l:Jp} (h:qW w base g n cap l) (hs:Small l):Has w base (J (I ⟨g,0,O⟩) (Z (words (nw l))) cap) (words (nw l)):=by
 obtain⟨k,b,a⟩:=Rf l hs;have d:Z (Proofs.YtkflnpjapgiajaaGreatDoor.words (nw l))=k:=by rw[a];simp;omega
 have:=asw k b h;rw[<- a] at this;rw[Has,d];exact this
theorem bI.patch {a:Nat} {e:Jp} (h:bI w g 0 lf) (u:dH g a n w w') (hs:bI w' g a e) (d:Z e=n) (l:a+n<=Z lf):bI w' g 0 (lf.take a++e++lf.drop (a+n)):=by
 have c:bI w g 0 (lf.take a):=by have:=h.piece 0 a al;rwa [EZ] at this
 have b:=h.piece (a+n) (Z lf - (a+n)) al;rw[lg aE] at b;have z:Z (lf.take a)=a:=by rw[eZ];omega
 refine((c.beside u (by rw[z];omega)).append (by rw[z,bK];exact hs)).append ?_;rw[cD,z,d];exact b.beside u al
theorem asj (gx mL gy j7:Nat) (xs y:Jp) (w:wA) (jD:Small xs) (jC:Small y) (b6:Z xs<=4398046511104) (M:0<Z y) (R:y[Z y - 1]?.getD 0≠0) (Dg:Z y<=Z xs) (hx:bI w gx 0 xs) (hy:bI w gy 0 y):
  c6 240 #[J (I ⟨gx,0,O⟩) (Z xs) mL,J (I ⟨gy,0,O⟩) (Z y) j7] w fun e w'=>
   ∃gq cq gr cr,e=yk (zz #[J (I ⟨gq,0,O⟩) (Z (words (nw xs/nw y))) cq,J (I ⟨gr,0,O⟩) (Z (words (nw xs % nw y))) cr])/\
    Has w' w.heap.size (J (I ⟨gq,0,O⟩) (Z (words (nw xs/nw y))) cq) (words (nw xs/nw y))/\Has w' w.heap.size (J (I ⟨gr,0,O⟩) (Z (words (nw xs % nw y))) cr) (words (nw xs % nw y))/\da w w':=by
 obtain⟨i0,hi,bu,bw,bx⟩:=eo Tryz.infoU32;have b4:=hx.lt;have sK:=hy.lt;have zU:=hy.cell (Z y - 1) al;rw[bK] at zU;have ai:=getD_lt jC (Z y - 1);rw[ja] at ai;obtain⟨bk,aJ⟩:=atp 32 (y[Z y - 1]?.getD 0) (by simpa using ai) al;have bg:=ato _ R ai;obtain⟨s,hs⟩:∃s,s=32 - Lib.bitLen (y[Z y - 1]?.getD 0):=⟨_,rfl⟩;have YF:s<32:=al
 have iU:2^s*(y[Z y - 1]?.getD 0+1)<=W:=by
  have m:2^s*(y[Z y - 1]?.getD 0+1)<=2^s*2^Lib.bitLen (y[Z y - 1]?.getD 0):=mW _ aJ;rw[<- EP,show s+Lib.bitLen (y[Z y - 1]?.getD 0)=32 by omega] at m;exact m
 have av:=aip y s jC M R iU;have b:=aF av;have S:=fun V=>Tryz.bits_LeadingZeros32 ((y[Z y - 1]?.getD 0:Nat):Int) V al al;simp only[oC] at S;have zK:(32:Int) - (Lib.bitLen (y[Z y - 1]?.getD 0):Int)=(s:Int):=al
 simp only[zK] at S;have a1:=aF S;have bF:=aF R;generalize y[Z y - 1]?.getD 0=y1 at *;have b7:¬Z xs<Z y:=al
 clear bk aJ bg hs iU av S zK R;go_enter func240,ntmps240;go_wp2_with fail
 refine(a1.o _).af ?_;rintro e w0 ⟨rfl,br⟩;subst br;go_wp2_with fail
 refine(acN gx mL xs s _ jD YF al hx).af ?_;rintro e w1 ⟨v1,d,rfl,m,A,jE,fW,ad⟩;obtain⟨g,c,rfl,b2,ax,ay⟩:=m.slice al;have X:=aF jE;have GR:=aF fW;have bN:Z d<=4398046511105:=al
 have b0:Z xs+1<=c:=al
 clear jE fW;have aZ:=hy.aa ad sK;go_wp2_with fail
 refine(acN gy j7 y s _ jC YF al aZ).af ?_;rintro e w2 ⟨v2,n,rfl,h2,t,bo,iX,ae⟩;obtain⟨f,c2,rfl,bm,b1,T⟩:=h2.slice al;have pV:=aF iX;have bJ:Z n<=4398046511105:=al
 clear bo iX;go_wp2_with fail
 have uA:=Rz f 0 c2 n w2 t bm al (fun j h=>T.cell j h);rw[pV.o,b.o.1] at uA;refine uA.af ?_;rintro e a ⟨rfl,bs⟩;subst bs;have aW:∃k,k<=Z n/\words (nw n)=n.take k:=Rf n t
 have kT:bI a f 0 (words (2^s*nw y)):=by
  obtain⟨k,hk,e⟩:=aW;have:=T.piece 0 k al;rwa [EZ, <- e,pV.o] at this
 have vQ:=m.aa ae (ak _);have ab:da w0 a:=ad.trans (ae.af ad.size);have bT:g<w1.heap.size:=ay.lt;have bO:f<a.heap.size:=T.lt;have SY:=ab.size;have bC:=ae.size;have aj:=aF vQ;have GY:=aF kT;clear uA aW kT vQ ay T m h2 aZ;go_wp2_with (at_make;refine oX _ rfl _ _ 221 rfl w0.heap.size 157 i0 (E yW 0) 1 underlying221 hi bu bw yR yR _ _ (Z xs - Z y+1) rfl rfl al al (by rw[bx];omega) (by unfold maxLen;omega) al ?_;intro B2 sI B7)
 have z:=sR sI;rw[NS] at z;have gj:=aF z;have fN:da w0 B2:=ab.grown B7 al (fun k e=>by cases e);have rM:we (qW B2 w0.heap.size g (Z d) c d):=Has.aa aj.o (B:=a.heap.size) ((aw _ a).grown B7 (ak _) (fun k e=>by cases e)) (ak _)
 have an:we (qW B2 w0.heap.size a.heap.size (Z xs - Z y+1) (Z xs - Z y+1) (List.replicate (Z xs - Z y+1) 0)):=by
  have:=NA (base:=w0.heap.size) (cap:=Z xs - Z y+1) (l:=List.replicate (Z xs - Z y+1) 0) _ z aE al (by unfold maxLen;omega) aE ⟨_,z,aE,fun j h=>by simp at h;simp[h]⟩;rw[ui] at this;exact this
 have nW:we (bI B2 f 0 (words (2^s*nw y))):=(GY.o).grown B7 aE;have HI:we (wE (2^s*nw xs) (2^s*nw y) (Z xs - Z y+1) d (List.replicate (Z xs - Z y+1) 0) (Z xs - Z y+1)):=wE.start M Dg A rfl jD rfl GR.o X.o b.o.2.1;have CD:=aF fN;clear z sI B7 aj GY ab fN
 go_loopw [40] (fun i wr=>∃(k:Nat) (lf ql:Jp),k<=Z xs - Z y+1/\i=E yR k/\we (wE (2^s*nw xs) (2^s*nw y) (Z xs - Z y+1) lf ql (Z xs - Z y+1 - k))/\we (qW wr w0.heap.size g (Z d) c lf)/\we (qW wr w0.heap.size a.heap.size (Z xs - Z y+1) (Z xs - Z y+1) ql)/\we (bI wr f 0 (words (2^s*nw y)))/\we (da w0 wr))
  (fun i _=>Z xs - Z y+1 - (intOf i).toNat)
 case atStart=>exact⟨0,d,_,aX _,rfl,HI,rM,an,nW,CD⟩
 case round=>
  obtain⟨k,lf,ql,hk,rfl,B6,r,Q,Y,B9⟩:=hrel;clear HI rM an nW CD;by_cases b5:k<Z xs - Z y+1
  ·go_wp2_with fail
   obtain⟨p,hp⟩:∃p,p=Z xs - Z y - k:=⟨_,rfl⟩;(have hn:Z xs - Z y - k+Z y+1 - (Z xs - Z y - k)=Z y+1:=al);rw[hn, <- hp];(have az:Z lf=Z xs+1:=by have:=r.o.len;have:=X.o;omega);(have P:Z ((lf.drop p).take (Z y+1))=Z y+1:=by rw[eZ,qi];omega)
   have H:we (wE (2^s*nw xs) (2^s*nw y) (Z xs - Z y+1) lf ql (p+1)):=by
    have:=B6.o;rwa [show Z xs - Z y+1 - k=p+1 by omega] at this
   have YC:=H.o.seg b.o.2.2 al;have U:=akr g p (c - p) f c2 ((lf.drop p).take (Z y+1)) (words (2^s*nw y)) wr (by rw[P,b.o.1]) (Ko (Nh H.o.ls _) _) (pg _) (by rw[P];omega) (by rw[b.o.1];exact M) (Wa _ (by rw[b.o.1];exact M)) (by rw[mF];exact YC.1) (by have:=r.o.lies.piece p (Z y+1) al;rwa [bK] at this) Y.o al;rw[P,b.o.1,mF] at U;refine U.af ?_;clear U;rintro e q ⟨bz,rfl,B1,bf,ar,v,K⟩;(have bp:p<Z xs - Z y+1:=al);have bb:=aF (H.o.step b.o.2.2 al bp (by have:=YC.1;rcases zj (2^s*nw y) with e |e;(rw[e,mV] at this;omega);exact e) B1 bf ar);have IG:=r.o.lies.patch K v B1 al;have x:we (qW q w0.heap.size g (Z d) c (lf.take p++bz++lf.drop (p+(Z y+1)))):=r.o.upd K IG (by have:=X.o;simp;omega);have u:=aF (Q.o.apart K al);have Mb:=aF (Y.o.apart K al);have L:=aF (dH.aa B9.o K ax B9.o.size);(have aq:p<Z ql:=by have:=Q.o.len;omega);have bA:=u.o.lies.cell p aq;have b3:=u.o.lies.frozen p;rw[bK] at bA;have ek:=u.o.lies.set p aq (nw ((lf.drop p).take (Z y+1))/(2^s*nw y));rw[bK] at ek;have mN:=aF ek;have Qr:=aF az;generalize hqv:nw ((lf.drop p).take (Z y+1))/(2^s*nw y)=qv at *;generalize ql[p]?.getD 0=b8 at *;clear ek IG YC P B1 ar v az B6 r Q Y B9 H hn hqv;subst hp;go_wp2;go_roundw
   case rel=>
    have F:dH a.heap.size (Z xs - Z y - k) 1 q (AF q ⟨a.heap.size,Z xs - Z y - k,O⟩ (E yW (qv:Nat))):=dH.setCell (ak _) al _;refine⟨k+1,_,_,al,bd,?_,aF (x.o.apart F al),aF (u.o.upd F mN.o (by have:=u.o.len;rw[gA];omega)),aF (Mb.o.apart F al),aF (dH.aa L.o F SY L.o.size)⟩;have e:=bb.o;show wE _ _ _ _ _ _;rwa [show Z xs - Z y+1 - (k+1)=Z xs - Z y - k by omega]
   case measure=>simp[intOf];omega
  ·obtain rfl:k=Z xs - Z y+1:=al
   have D:=B6.o;rw[rT] at D;have yC:0<2^s:=wH a6;obtain⟨hq,hr⟩:=D.stop;rw[Nat.mul_div_mul_left _ _ yC] at hq;rw[Nat.mul_mod_mul_left] at hr;(have aR:nw (qu s lf)=nw xs % nw y:=by rw[aln s al lf D.ls,hr,Nat.mul_div_cancel_left _ yC]);have IE:=D.ls;have wY:=D.qs;have ao:=aF hq;have UW:=aF aR;have YD:=alm g c lf s wr IE YF (by have:=r.o.len;omega) r.o.lies;rw[<- r.o.len] at YD;have uQ:=aF YD;clear hq hr aR D B6 YD;go_wp2_with fail
   refine uQ.o.af ?_;rintro e q ⟨rfl,v,K⟩;have x:=aF (r.o.upd K v (by rw[alo];exact r.o.len.symm));have u:=aF (Q.o.apart K al);have L:=aF (dH.aa B9.o K ax B9.o.size);have A:=Rz a.heap.size 0 (Z xs - Z y+1) ql q wY (by rw[<- u.o.len];omega) (by rw[<- u.o.len];omega) (fun j h=>u.o.lies.cell j h);rw[<- u.o.len,ao.o] at A;have t:=Rz g 0 c (qu s lf) q (acO s lf) x.o.lies_le (by rw[<- x.o.len];omega) (fun j h=>x.o.lies.cell j h);rw[<- x.o.len,UW.o] at t;have iw:=aF A;have tU:=aF t;clear A t v K uQ r Q B9;go_wp2_with fail
   refine iw.o.af ?_;rintro e w6 ⟨rfl,bt⟩;subst bt;go_wp2_with fail
   refine tU.o.af ?_;rintro e w7 ⟨rfl,SN⟩;subst SN;go_wp2;go_ret2;have BV:=u.o.words wY;have aM:=x.o.words (acO s lf);rw[ao.o] at BV;rw[UW.o] at aM;exact⟨_,_,_,_,rfl,BV,aM,L.o⟩
theorem V8 (h:n≠0):0<Z (words n):=by
 rcases zj (Z (words n)) with e |e
 ·exact absurd ((Rg n).1 (Q4 e)) h
 ·exact e
theorem aff {x y:Nat} (h:Z (words x)<Z (words y)):x<y:=by
 have l:0<Z (words y):=al
 have c:=getD_lt (pg y) (Z (words y) - 1);have a:=(aip (words y) 0 (pg y) l (Wa y l) (by rw[MG,lK];exact c)).2.1;rw[MG,lK,lK,mF] at a;have b:=yj (words x) (pg x);rw[mF] at b;have d:W^Z (words x)<=W^(Z (words y) - 1):=lJ nR al;omega
theorem V9 {x y:Nat} (h:x<=y):Z (words x)<=Z (words y):=by
 rcases dR (Z (words y)) (Z (words x)) with c |c
 ·have:=aff c;omega
 ·exact c
theorem afg {x:Nat} (h:Z (words x)<=2):x<18446744073709551616:=by
 have a:=yj (words x) (pg x);rw[mF] at a;have b:W^Z (words x)<=W^2:=lJ nR h;have c:W^2=18446744073709551616:=by rw[ja]
 omega
theorem ahR (g m a j x y:Nat) (w:wA) (o:y≠0) (s:Z (words x)<=4398046511104) (v:Z (words x)<=m) (b:bI w g 0 (words x)) (n:bI w a 0 (words y)):
  c6 240 #[J (I ⟨g,0,O⟩) (Z (words x)) m,J (I ⟨a,0,O⟩) (Z (words y)) j] w fun e w'=>
   ∃q gr r,e=yk (zz #[q,J (I ⟨gr,0,O⟩) (Z (words (x % y))) r])/\Has w' w.heap.size q (words (x/y))/\(words (x % y)).length<=r/\bI w' gr 0 (words (x % y))/\da w w':=by
 rcases dR (Z (words x)) (Z (words y)) with c |c
 ·have h:=aff c;refine(asi _ _ m _ _ j w c).af ?_;rintro e w' ⟨rfl,rfl⟩;refine⟨_,g,m,by rw[kM h],?_,by rw[kM h];exact v,by rw[kM h];exact b,aw _ _⟩;rw[zk h,zr];exact⟨rfl,yp ⟨rfl,rfl⟩⟩
 ·have p:=V8 o;have:=asj g m a j (words x) (words y) w (pg _) (pg _) s p (Wa y p) c b n;rw[mF,mF] at this;refine this.af ?_;rintro e w' ⟨u,t,gr,r,rfl,d,f,i⟩;obtain⟨_,k,_,l⟩:=Fi f;exact⟨_,gr,r,rfl,d,k,l,i⟩
theorem auR (a b:ByteArray) (w:wA) (B7:a.size<=1099511627776) (B6:b.size<=1099511627776) (h0:N b≠0):
  c6 192 #[zX a,zX b] w (dj w (zz #[zX (B (N a/N b)),zX (B (N a % N b)),zd xq])):=by
 have l:=A6 a 274877906944 al;have T:=A6 b 274877906944 al;have K:=V8 h0;have Q:¬((Z (words (N b)):Int)=0):=al
 have P:Z (words (N a/N b))<=274877906944:=aO (V9 (AW _ _)) l;have S:Z (words (N a % N b))<=274877906944:=aO (V9 (Nat.mod_le _ _)) l;go_enter func192,ntmps192;go_wp2_with fail
 refine(Be b _ al).af ?_;rintro e M ⟨q,n,rfl,t,g⟩;go_wp2_with fail
 refine(Be a _ al).af ?_;rintro e x ⟨s,o,rfl,h,i⟩;have B9:=z8 t i;have H:=z8 h (aw _ _);have c:da w x:=g.trans (i.af g.size);go_wp2_with fail
 refine(ahR s o q n (N a) (N b) _ h0 al (Fi h).2.1 H B9).af ?_;rintro e y ⟨L,gr,p,rfl,v,F,r,A⟩;have d:da w y:=c.trans (A.af c.size);go_wp2_with fail
 refine(TV _ _ _ _ (pg _) al v).af ?_;rintro e z ⟨rfl,k⟩;have m:=r.aa k r.lt;have f:da w z:=d.trans (k.af d.size);rw[mF];go_wp2_with fail
 refine(aac gr p _ _ (pg _) F al m.lt (fun j u=>m.cell j u)).af ?_;rintro e B2 ⟨rfl,D⟩;rw[mF];go_wp2;go_ret3
 exact⟨rfl,f.trans (D.af f.size)⟩
theorem auQ (a b:ByteArray) (w:wA) (ha:a.size<=1099511627776) (hb:b.size<=1099511627776):
  c6 191 #[zX a,zX b] w (dj w (zX (B (Nat.gcd (N a) (N b))))):=by
 have X:=A6 a 274877906944 al;have V:=A6 b 274877906944 al;go_enter func191,ntmps191;go_wp2_with fail
 refine(Be a _ al).af ?_;rintro e w1 ⟨g1,c1,rfl,k,p⟩;go_wp2_with fail
 refine(Be b _ al).af ?_;rintro e w2 ⟨g2,c2,rfl,m,q⟩;have B9:=z8 k q;have F:=z8 m (aw _ _);have t:da w w2:=p.trans (q.af p.size);have z:=(Fi k).2.1;have D:=(Fi m).2.1;go_wp2_with fail
 go_loopg [5,6] (N b) (fun r vx vy wr=>∃(x g cx y c:Nat),vx=J (I ⟨g,0,O⟩) (Z (words x)) cx/\vy=J (I ⟨y,0,O⟩) (Z (words r)) c/\(words x).length<=cx/\(words r).length<=c/\(words x).length<=274877906944/\(words r).length<=274877906944/\we (bI wr g 0 (words x))/\we (bI wr y 0 (words r))/\we (Nat.gcd x r=Nat.gcd (N a) (N b))/\we (da w wr))
 case atStart=>exact⟨_,_,_,_,_,rfl,rfl,z,D,X,V,B9,F,rfl,t⟩
 case round=>
  obtain⟨x,g,cx,y,c,rfl,rfl,v,zU,B1,B7,i,u,d,h⟩:=hrel;clear B9 F t z D k m p q;by_cases l:gk=0
  ·subst l;rw[zr] at *;go_wp2_with fail
   refine(aac g cx _ _ (pg _) v al i.o.lt (fun j Q=>i.o.cell j Q)).af ?_;rintro e s ⟨rfl,f⟩;rw[mF];go_wp2;go_ret;exact⟨by rw[<- d.o,Nat.gcd_zero_right];rfl,h.o.trans (f.af h.o.size)⟩
  ·have lr:=V8 l;(have ae:¬((Z (words gk):Int)=0):=al);by_cases H:2<Z (words x)
   focus
    go_wp2_with fail
   rotate_left
   focus
    by_cases K:2<Z (words gk)
    focus
     go_wp2_with fail
    rotate_left
    ·have Y:=afg (Nat.le_of_not_lt H);have B6:=afg (Nat.le_of_not_lt K);go_wp2_with fail
     refine(abN g cx _ _ (pg _) (Nat.le_of_not_lt H) i.o).af ?_;rintro e s ⟨rfl,n⟩;subst n;rw[mF];go_wp2_with fail
     refine(abN y c _ _ (pg _) (Nat.le_of_not_lt K) u.o).af ?_;rintro e w6 ⟨rfl,n⟩;subst n;rw[mF];go_wp2_with fail
     refine(ara x gk _ Y B6).af ?_;rintro e w7 ⟨rfl,B2⟩;have A:=h.o.trans (B2.af h.o.size);rw[d.o];(have ab:Nat.gcd (N a) (N b)<18446744073709551616:=by rw[<- d.o];exact VL (Nat.gcd_le_right _ (mj l)) B6);go_wp2_with fail
     refine(aez _ _ ab).af ?_;rintro e w8 ⟨rfl,U⟩;go_wp2;go_ret;exact⟨rfl,A.trans (U.af A.size)⟩
   all_goals
    refine(ahR g cx y c x gk _ l al v i.o u.o).af ?_;rintro e s ⟨vq,gr,L,rfl,_,ad,T,f⟩;have S:Z (words (x % gk))<=274877906944:=aO (V9 (Nat.mod_le _ _)) B1;have R:=aF T;have M:=aF (u.o.aa f u.o.lt);have P:=aF (h.o.trans (f.af h.o.size));(have q7:we (Nat.gcd gk (x % gk)=Nat.gcd (N a) (N b)):=by show _=_;rw[<- d.o,MK x gk,Nat.gcd_rec gk x,MK]);go_wp2;go_roundg (x % gk)
    case measure=>exact jh _ (mj l)
    case rel=>exact⟨gk,y,c,gr,L,rfl,rfl,zU,ad,B7,S,M,R,q7,P⟩
variable {w0:wA}
theorem sQ (k:Nat):∀n,n<256^k ->Z (bn n)<=k:=by
 induction k with
 |zero=>
  intro n h;have:n=0:=by simpa using h
  subst this;simp[sO]
 |succ k ih=>
  intro n h;by_cases e:n=0
  ·subst e;simp[sO]
  ·rw[sP n e,cD,Hl];have:=ih (n/256) (JS (by rw[jK] at h;omega));omega
theorem Hc (n:Nat):n<256^(B n).size:=by
 have:=wW (bn n);rwa [XO, <- nZ] at this
theorem kO (h:m<=n):(B m).size<=(B n).size:=by
 rw[nZ m];exact sQ _ _ (VL h (Hc n))
theorem uo (m n:Nat):(B (m*n)).size<=(B m).size+(B n).size:=by
 rw[nZ (m*n)];refine sQ _ _ ?_;rw[EP];exact MI (Hc m) (Hc n)
theorem ach (m n:Nat):(B (m+n)).size<=(B m).size+(B n).size+1:=by
 rw[nZ (m+n)];refine sQ _ _ ?_;have h:=Hc m;have a:=Hc n;have b:256^(B m).size<=256^((B m).size+(B n).size):=lJ a6 al;have c:256^(B n).size<=256^((B m).size+(B n).size):=lJ a6 al;rw[jK];omega
theorem CL:B 0=⟨#[]⟩:=by rw[B,sO]
theorem aiV:N ⟨#[]⟩=0:=rfl
theorem aju (h:B m=B n):m=n:=by rw[<- cQ m,h,cQ]
theorem EM (h:n≠0):(B n).toList.isEmpty=false:=by
 cases e:(B n).toList with
 |cons=>rfl
 |nil=>
  rw[Lib.toList_data] at e;have a:(B n).size=0:=by rw[ByteArray.size, <- Hq,e];rfl
  have b:=Hc n;rw[a] at b;omega
theorem B8 (s:ByteArray):Z s.data.toList=s.size:=by rw[Hq];rfl
theorem VE:(B 1).size<=1:=by rw[nZ];exact sQ 1 1 a6
theorem under {P:Program} {f:FuncId} {args:Array wQ} {X:Ending} (a:da w0 w) (h:Calls P f args w fun e w'=>e=X/\da w w'):Calls P f args w fun e w'=>e=X/\da w0 w':=
 h.af fun _ _ ⟨b,c⟩=>⟨b,a.trans (c.af a.size)⟩
theorem auP {a b:ByteArray} (n:Nat) (c:da w0 w) (h:Nat.gcd (N a) (N b)=n) (d:a.size<=1099511627776) (e:b.size<=1099511627776):
  c6 191 #[zX a,zX b] w (dj w0 (zX (B n))):=by
 subst h;exact under c (auQ a b w d e)
theorem aiT {x:Int} (n:Nat) (a:da w0 w) (h:x=(n:Int)) (b:x<=9223372036854775807):
  c6 140 #[E yR x] w (dj w0 (zX (B n))):=by
 have:=under a (aiU x w al b);rwa [show x.toNat=n by omega] at this
theorem aiR {a b:ByteArray} (n:Nat) (c:da w0 w) (h:N a=N b+n) (d:a.size<=1099511627776) (e:b.size<=1099511627776):
  c6 210 #[zX a,zX b] w (dj w0 (zz #[zX (B n),zd xq])):=by
 have:=under c (at5 a b w d e al);rwa [show N a - N b=n by omega] at this
theorem at6 {a b:ByteArray} (c:da w0 w) (h:N a<N b):
  c6 210 #[zX a,zX b] w fun e w'=>e=yk (zz #[zX ⟨#[]⟩,zd x3])/\da w0 w':=under c (at7 a b w h)
theorem ajs {a b:ByteArray} (q r:Nat) (h:da w0 w) (e:N a/N b=q) (f:N a % N b=r) (h0:N b≠0) (c:a.size<=1099511627776) (d:b.size<=1099511627776):
  c6 192 #[zX a,zX b] w (dj w0 (zz #[zX (B q),zX (B r),zd xq])):=by
 subst e f;exact under h (auR a b w c d h0)
def nd:Jp ->Nat
 |[]=>0
 |x::r=>x+256*nd r
theorem H9 (x:Nat) (r:Jp):nd (x::r)=x+256*nd r:=rfl
theorem XN (n:Nat):nd (List.replicate n 0)=0:=by
 induction n with
 |zero=>rfl
 |succ n ih=>rw[MM,H9,ih]
theorem Sq (l:Jp):∀(j y:Nat) (h:j<Z l),nd (l.set j y)+l[j]*256^j=nd l+y*256^j:=by
 induction l with
 |nil=>intro j y h;exact absurd h (ER _)
 |cons x r ih=>
  intro j y h;cases j with
  |zero=>simp only[CR,H9,List.getElem_cons_zero,MG,rU];omega
  |succ j=>
   (have b:j<Z r:=by simpa using h);have:=ih j y b;simp only[VQ,H9,VX,jK];(have e:r[j]*(256^j*256)=256*(r[j]*256^j):=by rw[<- ju,eN]);(have a:y*(256^j*256)=256*(y*256^j):=by rw[<- ju,eN]);rw[e,a];omega
def uf (l:Jp):Prop:=∀x∈l,x<256
theorem aao (n:Nat):uf (List.replicate n 0):=fun x h=>by rw[(List.mem_replicate.1 h).2];decide
theorem Pv {l:Jp} (h:uf l) (j y:Nat) (c:y<256):uf (l.set j y):=fun x b=>by
 rcases abw b with a |a
 ·exact h x a
 ·rw[a];exact c
theorem an7 (l:Jp) (h:uf l):nd l<256^Z l:=by
 induction l with
 |nil=>decide
 |cons x r ih=>
  have b:=ih fun y a=>h y (dL _ a);have c:=h x dA;rw[H9,dX,jK];omega
def rb (l:Jp):List UInt8:=l.reverse.map UInt8.ofNat
theorem aoa (l:Jp) (h:uf l):nb (rb l)=nd l:=by
 induction l with
 |nil=>rfl
 |cons x r ih=>
  have a:=ih fun y b=>h y (dL _ b);have c:=h x dA;have:rb (x::r)=rb r++[UInt8.ofNat x]:=by simp[rb]
  rw[this,Bu,a,H9];have:(UInt8.ofNat x).toNat=x:=by simp;omega
  omega
theorem aoe (l:List UInt8) (i:Nat) (h:i<Z l):nb l/256^i % 256=(l[Z l - 1 - i]'al).toNat:=by
 have e:l=l.take (Z l - 1 - i)++(l[Z l - 1 - i]'al::l.drop (Z l - i)):=by
  have a:=AX (Z l - 1 - i) l;have d:l.drop (Z l - 1 - i)=l[Z l - 1 - i]'al::l.drop (Z l - 1 - i+1):=ri al;rw[d,show Z l - 1 - i+1=Z l - i by omega] at a;exact a.symm
 have b:Z (l.drop (Z l - i))=i:=by rw[qi];omega
 have t:=wW (l.drop (Z l - i));rw[b] at t
 have n:nb l=(nb (l.take (Z l - 1 - i))*256+(l[Z l - 1 - i]'al).toNat)*256^i+nb (l.drop (Z l - i)):=by
  conv=>lhs;rw[e]
  rw[Fo,Ib,dX,b,jK,iG,ju,eN 256 (256^i),zl]
 generalize (l[Z l - 1 - i]'al)=c at *;generalize nb (l.take (Z l - 1 - i))=p at *;have f:=c.toNat_lt;rw[n,eN,Nat.mul_add_div (wH a6),zk t,ji];omega
theorem aod (l:List UInt8) (i:Nat) (h:Z l<=i):nb l/256^i % 256=0:=by
 rw[zk (aT (wW l) (lJ a6 h))]
theorem ar7 (l:List UInt8):∀k,k<=Z l ->(l.take k).all (·==0)=xq ->(∀h:k<Z l,l[k]≠0) ->l.dropWhile (·==0)=l.drop k:=by
 induction l with
 |nil=>intro k _ _ _;simp
 |cons x r ih=>
  intro k c a b;cases k with
  |zero=>
   have:x≠0:=b aE;rw[List.dropWhile_cons,aD (by simpa using this),EZ]
  |succ k=>
   simp only[List.take_succ_cons,List.all_cons,iI] at a;rw[List.dropWhile_cons,aA a.1,List.drop_succ_cons];exact ih k (by simpa using c) a.2 (fun h=>by have:=b (by simpa using h);simpa using this)
theorem KT (n k:Nat):n % 256^(k+1)=n % 256^k+256^k*(n/256^k % 256):=by
 rw[jK,Nat.mod_mul]
theorem ab5 (s:ByteArray) (k:Nat) (a:k<=s.size) (h0:(s.data.toList.take k).all (·==0)=xq) (h1:∀h:k<s.size,s[k].toNat≠0):s.extract k s.size=B (N s):=by
 have e:s.data.toList.dropWhile (·==0)=s.data.toList.drop k:=ar7 _ k (by simpa using a) h0 (fun h z=>h1 (by simpa using h) (by
  have:s[k]'(by simpa using h)=s.data.toList[k]:=rfl;rw[this,z];rfl))
 apply Q9;apply Ra.1;rw[B,N,aaC,e];show (s.extract k s.size).data.toList=_;rw[ByteArray.data_extract,Array.toList_extract];simp[lg]
theorem po (s:ByteArray) (w:wA) (hs:s.size<=140737488355328):
  c6 119 #[zX s] w fun e w'=>e=yk (zX (B (N s)))/\w'=w:=by
 go_enter func119,ntmps119;go_wp2;go_loop [3] (fun i=>∃k:Nat,k<=s.size/\i=E yR k/\(s.data.toList.take k).all (·==0)=xq) (fun i=>s.size - (intOf i).toNat)
 case atStart=>exact⟨0,aX _,rfl,rfl⟩
 case round=>
  obtain⟨k,a,rfl,b⟩:=hrel;have A:we ((s.data.toList.take k).all (·==0)=xq):=b;clear b;by_cases l:k<s.size
  ·by_cases c:s[k].toNat=0
   ·have H:we ((s.data.toList.take (k+1)).all (·==0)=xq):=by
     show _=_;rw[Nf s k l,List.all_append,A.o];have:s[k]=0:=QO.1 c;simp[this]
    go_wp2;go_round
    case rel=>exact⟨k+1,al,bd,H.o⟩
    case measure=>simp[intOf];omega
   ·have B9:=aF (ab5 s k a A.o fun _=>c);go_wp2;go_ret;exact⟨by rw[<- B9.o];rfl,rfl⟩
  ·have B9:=aF (ab5 s k a A.o fun h=>absurd h l);go_wp2;go_ret;exact⟨by rw[<- B9.o];rfl,rfl⟩
theorem abD (n:Nat) (h:n<256):wrap64 (n:Int)=(n:Int):=by
 rw[wrap64];omega
theorem I5 (s:ByteArray) (i:Nat) (w:wA) (hs:s.size<=140737488355328) (a:i<=9223372036854775807):
  c6 121 #[zX s,E yR (i:Int)] w fun e w'=>e=yk (E yR ((N s/256^i % 256:Nat):Int))/\w'=w:=by
 go_enter func121,ntmps121;by_cases l:i<s.size
 ·have D:we (N s/256^i % 256=(s[s.size - 1 - i]'al).toNat):=by
   show _=_;rw[N,aoe _ i (by simpa using l)];simp;rfl
  have x:0<=(s.size:Int) - 1 - i:=al
  have h:=abD _ (s[s.size - 1 - i]'al).toNat_lt;have H:=aF h;clear h;go_wp2;go_ret;exact⟨by rw[D.o];exact eG (fun z=>Ending.returned (Value.int yR z)) H.o,rfl⟩
 ·have D:we (N s/256^i % 256=0):=aod _ i (by simp;omega);go_wp2;go_ret;exact⟨by rw[D.o];rfl,rfl⟩
def iv (x:Nat):Value:=E yR (x:Int)
def cZ (w:wA) (g:Nat) (l:Jp):Prop:=w.heap[g]? =I (yd (l.map iv).toArray 3 (0,0))
theorem cZ.cell {l:Jp} (h:cZ w g l) (j:Nat) (a:j<Z l):AJ w ⟨g,j,O⟩=I (E yR (l[j]:Nat)):=by
 rw[a8 w g j _ _ (0,0) h];simp[iv,a]
theorem cZ.fz {l:Jp} (h:cZ w g l) (j:Nat):w.frozen? ⟨g,j,O⟩=false:=eA w g j _ _ h
theorem cZ.lt {l:Jp} (h:cZ w g l):g<w.heap.size:=(c5.1 h).1
theorem cZ.aa {b:Nat} {l:Jp} (h:cZ w g l) (a:Below b w w') (c:g<b):cZ w' g l:=(a.block g c).trans h
theorem cZ.set {l:Jp} (h:cZ w g l) (j y:Nat):cZ (AF w ⟨g,j,O⟩ (E yR (y:Int))) g (l.set j y):=by
 have:=ke w g j _ _ (E yR (y:Int)) h;rw[cZ,Hk];simpa [iv] using this
def ur (l:Jp) (k:Nat):Kx:=List.replicate (Z l - k) 0++((l.take k).reverse.map Int.ofNat)
theorem ana (l:Jp):ur l 0=List.replicate (Z l) 0:=by simp[ur]
theorem ane (l:Jp) (k:Nat) (h:k<=Z l):Z (ur l k)=Z l:=by simp[ur];omega
theorem anb (l:Jp) (k:Nat) (c:k<Z l):(ur l k).set (Z l - 1 - k) (l[k]:Int)=ur l (k+1):=by
 have h:Z l - k=(Z l - 1 - k)+1:=al
 have a:List.replicate (Z l - k) (0:Int)=List.replicate (Z l - 1 - k) 0++[0]:=by rw[h,List.replicate_succ']
 have b:Z l - (k+1)=Z l - 1 - k:=al
 rw[ur,ur,a,qj,Hj _ _ aE,b];rw[ui,rT,gC,iH,CR,ig c,List.reverse_append,List.reverse_singleton,gK];rfl
theorem anf (l:Jp):ur l (Z l)=l.reverse.map Int.ofNat:=by simp[ur]
theorem aub (l:Jp) (h:uf l):N (strOfNums (l.reverse.map Int.ofNat))=nd l:=by
 rw[N,JN, <- aoa l h,rb];congr 1
 simp[Function.comp_def]
theorem KV (n:Nat):(madeCells (Value.int yR 0).cells (n*1)).toList=(List.replicate n (0:Nat)).map iv:=by
 rw[show (Value.int yR 0).cells= #[Value.int yR 0] from rfl,My,rU,QW];rfl
theorem Tryz.infoInt:(prog.info? 3).map (fun i=>(i.zero,i.size,i.bytes))=I (I (E yR 0),1,8):=ao
theorem Xi (g:Nat) (l:Jp) (w:wA) (d:uf l) (ae:Z l<=140737488355328) (h:cZ w g l):
  c6 123 #[J (I ⟨g,0,O⟩) (Z l) (Z l)] w (dj w (zX (B (nd l)))):=by
 obtain⟨B6,n,R,S,T⟩:=eo Tryz.infoByte;have M:=h.lt;have V:we (cZ w g l):=h;have a:we (N (strOfNums (l.reverse.map Int.ofNat))=nd l):=aub l d;have D:we (uf l):=d;clear h d;go_enter func123,ntmps123
 go_wp2_with (first
  |(at_make;refine oX _ rfl _ _ 148 rfl w.heap.size 5 B6 (E .u8 0) 1 underlying148 n R S yR yR _ _ (Z l) rfl rfl al al (by rw[T];omega) (by unfold maxLen;omega) (ak _) ?_;intro p s v))
 have b:=sR s;rw[afe, <- ana] at b;have q:da w p:=(aw _ w).grown v (ak _) (fun k e=>by cases e);have B7:we (p.heap[w.heap.size]? =I (yd ((ur l 0).map u8).toArray 5 (0,0))):=b;clear s v b
 go_loopw [4] (fun i wr=>∃k:Nat,k<=Z l/\i=E yR k/\we (wr.heap[w.heap.size]? =I (yd ((ur l k).map u8).toArray 5 (0,0)))/\da w wr)
  (fun i _=>Z l - (intOf i).toNat)
 case atStart=>exact⟨0,aX _,rfl,B7,q⟩
 case round=>
  obtain⟨k,A,rfl,H,c⟩:=hrel;clear B7 q;by_cases t:k<Z l
  ·have ab:AJ wr ⟨g,k,O⟩=I (E yR (l[k]:Nat)):=(V.o.aa c M).cell k t;have hx:=D.o l[k] (bQ t);have f:=aF (anb l k t);obtain⟨B9,j⟩:∃B9,B9=Z l - 1 - k:=⟨_,rfl⟩;rw[<- j] at f;(have B1:(Z l:Int) - 1 - (k:Int)=(B9:Int):=al);(have y:B9<Z l:=al)
   have zV:AJ wr ⟨w.heap.size,B9,O⟩=I (E .u8 ((ur l k)[B9]?.getD 0)):=by
    rw[a8 wr _ B9 _ _ (0,0) H.o];(have:B9<Z (ur l k):=by rw[ane l k A];exact y);simp[Go.Proofs.YtkflnpjapgiajaaGreatDoor.u8,ba this]
   have ad:=eA wr w.heap.size B9 _ _ H.o;have U:=aF (fun u=>ke wr w.heap.size B9 _ _ u H.o);generalize l[k]=x at *;generalize (ur l k)[B9]?.getD 0=z at *;clear j;go_wp2;have X:=U.o (E .u8 (x:Int));go_roundw
   case rel=>
    refine⟨k+1,al,bd,?_,c.setCell (ak _) _⟩;show _=_;rw[X, <- f.o,Hk];simp[Go.Proofs.YtkflnpjapgiajaaGreatDoor.u8]
   case measure=>simp[intOf];omega
  ·obtain rfl:k=Z l:=al
   have F:=anf l;(have L:Z (l.reverse.map Int.ofNat)=Z l:=aE);have r:=a.o;clear a V D;generalize l.reverse.map Int.ofNat=m at *;have a:=aF r;clear r
   have Y:=JO (P:=prog) wr 148 5 underlying148 underlying5 w.heap.size 0 (Z l) (Z l) m L (fun i n=>by
    have e:=a8 wr w.heap.size (0+i) _ _ _ H.o;rw[e,F];(have K:i<Z m:=al);simp[Go.Proofs.YtkflnpjapgiajaaGreatDoor.u8,ba K,cK]) 61 underlying61
   clear H F
   have B2:(strOfNums m).size<=140737488355328:=by
    rw[<- B8,JN,dm];omega
   go_wp2_with (go_at_call 119;refine(po _ _ B2).af ?_;rintro e w3 ⟨rfl,Q⟩;subst Q)
   go_ret;exact⟨by rw[a.o];rfl,c⟩
variable {A D c:Nat}
theorem aik (v P:Nat):v % 256*P+v/256*(P*256)=v*P:=by
 have h:v=v/256*256+v % 256:=al
 conv=>rhs;rw[h,iG,ju,eN 256 P]
 omega
theorem atL {p:Jp} (a:k<Z p) (h0:p[k]?.getD 0=0) (h:nd p+c*256^k=A % 256^k+D % 256^k):
  nd (p.set k ((c+A/256^k % 256+D/256^k % 256) % 256))+(c+A/256^k % 256+D/256^k % 256)/256*256^(k+1)=A % 256^(k+1)+D % 256^(k+1):=by
 have s:=Sq p k ((c+A/256^k % 256+D/256^k % 256) % 256) a;have z:p[k]=0:=by rwa [ba a] at h0
 rw[z,oY,ji] at s;rw[s,KT,KT D,jK];have:=aik (c+A/256^k % 256+D/256^k % 256) (256^k)
 have e:(c+A/256^k % 256+D/256^k % 256)*256^k=c*256^k+256^k*(A/256^k % 256)+256^k*(D/256^k % 256):=by
  rw[iG,iG,eN (A/256^k % 256),eN (D/256^k % 256)]
 omega
theorem WQ {p:Jp} {y:Nat} (h:∀j,k<=j ->p[j]?.getD 0=0):∀j,k+1<=j ->(p.set k y)[j]?.getD 0=0:=fun j a=>by
 rw[wJ al];exact h j al
theorem atM {p:Jp} (d:A<256^n) (e:D<256^n) (h:nd p+c*256^(n+1)=A % 256^(n+1)+D % 256^(n+1)):nd p=A+D:=by
 have f:256^(n+1)=256*256^n:=by rw[jK,eN]
 rw[kM al,kM al] at h
 have b:c=0:=by
  rcases zj c with a |a
  ·exact a
  ·have:1*256^(n+1)<=c*256^(n+1):=mn _ a;omega
 rw[b] at h;omega
theorem Gr (s:ByteArray):N s<256^s.size:=by
 have:=wW s.data.toList;rwa [B8] at this
theorem ado (a b:ByteArray) (w:wA) (ha:a.size<=1000000) (hb:b.size<=1000000):
  c6 72 #[zX a,zX b] w (dj w (zX (B (N a+N b)))):=by
 obtain⟨i0,T,ai,aj,an⟩:=eo Tryz.infoInt;obtain⟨n,U⟩:∃n,n=max a.size b.size:=⟨_,rfl⟩;have ab:a.size<=n:=al
 have yE:b.size<=n:=al
 have fW:n<=1000000:=al
 have Q:(b.size<=a.size/\a.size=n)∨(a.size<b.size/\b.size=n):=al
 clear U;have P:we (N a<256^n):=aT (Gr a) (lJ a6 ab);have Y:we (N b<256^n):=aT (Gr b) (lJ a6 yE);have L:=aF (fun (k:Nat) (V:wA) (h:k<=9223372036854775807)=>I5 a k V al h);have R:=aF (fun (k:Nat) (V:wA) (h:k<=9223372036854775807)=>I5 b k V al h);generalize hA:N a=A at *;generalize hD:N b=D at *;clear hA hD;go_enter func72,ntmps72;rcases Q with ⟨s,u⟩ |⟨s,u⟩
 all_goals
  go_wp2_with (first
   |(at_make;refine oX _ rfl _ _ 27 rfl w.heap.size 3 i0 (E yR 0) 1 underlying27 T ai aj yR yR _ _ (n+1) rfl rfl bd bd (by rw[an];omega) (by unfold maxLen;omega) (ak _) ?_;intro m F B6))
  have f:=sR F;rw[KV] at f;have r:da w m:=(aw _ w).grown B6 (ak _) (fun k e=>by cases e);have B7:we (cZ m w.heap.size (List.replicate (n+1) 0)):=f;clear F B6 f s u
  go_loopw [7,8] (fun cv iv wr=>∃(k c:Nat) (p:Jp),k<=n+1/\iv=E yR k/\cv=E yR c/\c<=1/\p.length=n+1/\we (uf p)/\we (∀j,k<=j ->p[j]?.getD 0=0)/\we (nd p+c*256^k=A % 256^k+D % 256^k)/\we (cZ wr w.heap.size p)/\da w wr)
   (fun _ i _=>n+1 - (intOf i).toNat)
  case atStart=>exact⟨0,0,List.replicate (n+1) 0,aX _,rfl,rfl,aX _,aE,aao _,(fun j _=>by rw[JW];split<;>rfl),(show _=_ by rw[XN];simp[Nat.mod_one]),B7,r⟩
  case round=>
   obtain⟨k,c,p,hk,rfl,rfl,hc,v,t,B1,B9,H,d⟩:=hrel;clear B7 r;by_cases ar:k<n+1
   ·have B2:k<Z p:=al
    have ao:=aF (atL B2 (B1.o k (ak _)) B9.o);have X:=aF (fun V=>L.o k V al);have M:=aF (fun V=>R.o k V al);have hx:A/256^k % 256<256:=jh _ a6;have hy:D/256^k % 256<256:=jh _ a6;generalize A/256^k % 256=x at *;generalize D/256^k % 256=y at *;have av:=H.o.cell k B2;have aq:=H.o.fz k;have S:=aF (fun z=>H.o.set k z);generalize p[k]=pk at *;clear B9
    go_wp2_with (first
     |(have ax:=ae;go_at_call 121;refine(M.o _).af ?_;rintro e q ⟨rfl,g⟩;subst g)
     |(go_at_call 121;refine(X.o _).af ?_;rintro e q ⟨rfl,g⟩;subst g;have ae:True:=trivial))
    have hv:Value.int yR (((c:Int)+(x:Int)+(y:Int)) % 256)=E yR (((c+x+y) % 256:Nat):Int):=int_eq al;have ad:Value.int yR (((c:Int)+(x:Int)+(y:Int))/256)=E yR (((c+x+y)/256:Nat):Int):=int_eq al;rw[hv,ad];go_roundw
    case rel=>exact⟨k+1,(c+x+y)/256,p.set k ((c+x+y) % 256),al,bd,rfl,al,by rw[gA];exact v,Pv t.o _ _ (jh _ a6),WQ B1.o,ao.o,S.o _,d.setCell (ak _) _⟩
    case measure=>simp[intOf];omega
   ·obtain rfl:k=n+1:=al
    have l:=Xi w.heap.size p wr t.o al H.o;rw[v,atM P.o Y.o B9.o] at l;have K:=aF l;clear l;go_wp2_with (go_at_call 123;refine(K.o).af ?_;rintro e q ⟨rfl,aa⟩)
    go_ret;exact⟨rfl,d.trans (aa.af d.size)⟩
theorem Ut {b:Nat} {v u:wA} (h:Below b v u) (k:Nat):Below b v (u.drewN k):=⟨h.os,h.tape,h.output,h.size,h.block⟩
theorem afi (a b:ByteArray) (k:Nat) (j:k<a.size) (m:k<b.size) (n:a.size=b.size) (p:a.data.toList.take k=b.data.toList.take k) (h:a[k].toNat<b[k].toNat):N a<N b:=by
 have f:a.data.toList=a.data.toList.take k++(a[k]::a.data.toList.drop (k+1)):=by
  have d:a.data.toList.drop k=a[k]::a.data.toList.drop (k+1):=ri (l:=a.data.toList) (i:=k) (by simpa using j);rw[<- d,AX]
 have g:b.data.toList=b.data.toList.take k++(b[k]::b.data.toList.drop (k+1)):=by
  have d:b.data.toList.drop k=b[k]::b.data.toList.drop (k+1):=ri (l:=b.data.toList) (i:=k) (by simpa using m);rw[<- d,AX]
 rw[N,N,f,g,p,Fo,Fo,Ib,Ib];have c:Z (a.data.toList.drop (k+1))=a.size - (k+1):=by rw[qi,B8]
 have q:Z (b.data.toList.drop (k+1))=a.size - (k+1):=by rw[qi,B8,n]
 have e:=wW (a.data.toList.drop (k+1));rw[c] at e;rw[dX,dX,c,q];have o:(a[k].toNat+1)*256^(a.size - (k+1))<=b[k].toNat*256^(a.size - (k+1)):=mn _ h;rw[iG,lK] at o;omega
theorem afh (h:(B m).size<(B n).size):m<n:=by
 rcases dR m n with a |a
 ·exact a
 ·have:=kO a;omega
theorem aax (h:m<n):kF m n= -1:=aA h
theorem aic (h:n<m):kF m n=1:=by rw[kF,aD al,aD al]
theorem asP (h:m=n):kF m n=0:=by rw[kF,aD al,aA h]
theorem arZ (l:(B m).size=(B n).size) (h:(B m).data.toList.take (B m).size=(B n).data.toList.take (B m).size):m=n:=by
 rw[lg (by rw[B8];exact ak _),lg (by rw[B8,l];exact ak _)] at h;exact aju (Q9 (Ra.1 h))
theorem adn (a b:ByteArray) (w:wA) (u:a.size<=1000000) (v:b.size<=1000000):
  c6 176 #[zX a,zX b] w (dj w (E yR (kF (N a) (N b)))):=by
 have R:=aF (po a w al);have L:=aF (po b w al);have B7:=aO (kd a) u;have B6:=aO (kd b) v;have M:=aF (fun h=>aax (afh (m:=N a) (n:=N b) h));have q:=aF (fun h=>aic (afh (m:=N b) (n:=N a) h));have Q:=aF (fun l p=>asP (arZ (m:=N a) (n:=N b) l p));have A:=aF (fun k d f l p h=>aax (m:=N a) (n:=N b) (by have:=afi (B (N a)) (B (N b)) k d f l p h;rwa [cQ,cQ] at this));have D:=aF (fun k d f l p h=>aic (m:=N a) (n:=N b) (by have:=afi (B (N b)) (B (N a)) k d f l p h;rwa [cQ,cQ] at this));generalize kF (N a) (N b)=r at *;generalize B (N a)=x at *;generalize B (N b)=y at *;go_enter func176,ntmps176;go_wp2_with fail
 refine(R.o).af ?_;rintro e s ⟨rfl,g⟩;subst g;go_wp2_with fail
 refine(L.o).af ?_;rintro e s ⟨rfl,g⟩;subst g;clear R L;rcases (show x.size<y.size∨y.size<x.size∨x.size=y.size by omega) with hs |hs |hs
 ·go_wp2;go_ret;exact⟨by rw[M.o hs];rfl,aw _ _⟩
 ·go_wp2;go_ret;exact⟨by rw[q.o hs];rfl,aw _ _⟩
 ·clear M q;go_wp2;go_loopw [5] (fun i wr=>∃k:Nat,k<=x.size/\i=E yR k/\we (x.data.toList.take k=y.data.toList.take k)/\da s wr) (fun i _=>x.size - (intOf i).toNat)
  case atStart=>exact⟨0,aX _,rfl,rfl,aw _ _⟩
  case round=>
   obtain⟨k,B9,rfl,H,j⟩:=hrel;by_cases t:k<x.size
   ·have z:k<y.size:=al
    rcases (show x[k].toNat<y[k].toNat∨y[k].toNat<x[k].toNat∨x[k].toNat=y[k].toNat by omega) with c |c |c
    ·have F:=aF (A.o k t z hs H.o c);go_wp2_with fail
     go_quiet (fail)
     go_wp2;go_ret;exact⟨by rw[F.o];rfl,Ut j _⟩
    ·have F:=aF (D.o k z t hs.symm H.o.symm c);go_wp2_with fail
     go_quiet (fail)
     go_wp2_with fail
     go_quiet (fail)
     go_wp2;go_ret;exact⟨by rw[F.o];rfl,Ut (Ut j _) _⟩
    ·have S:we (x.data.toList.take (k+1)=y.data.toList.take (k+1)):=by
      show _=_;rw[Nf x k t,Nf y k z,H.o,QO.1 c]
     go_wp2_with fail
     go_quiet (fail)
     go_wp2_with fail
     go_quiet (fail)
     go_wp2;go_roundw
     case rel=>exact⟨k+1,al,bd,S.o,Ut j _⟩
     case measure=>simp[intOf];omega
   ·obtain rfl:k=x.size:=al
    have F:=aF (Q.o hs H.o);go_wp2;go_ret;exact⟨by rw[F.o];rfl,j⟩
theorem akR {y:Nat} {p:Jp} (b:k<Z p) (h0:p[k]?.getD 0=0) (h:nd p+D % 256^k=A % 256^k+c*256^k) (a:Nat) (f:A/256^k % 256+a*256=y+D/256^k % 256+c):
  nd (p.set k y)+D % 256^(k+1)=A % 256^(k+1)+a*256^(k+1):=by
 have s:=Sq p k y b;have L:p[k]=0:=by rwa [ba b] at h0
 rw[L,oY,ji] at s;rw[s,KT,KT A,jK];have e:=eG (fun z=>z*256^k) f;simp only[iG] at e;have d:a*256*256^k=a*(256^k*256):=by rw[ju,eN 256]
 rw[d] at e;rw[eN (256^k) (D/256^k % 256),eN (256^k) (A/256^k % 256)];omega
theorem asO (h:n<=m):0<=kF m n:=by
 rw[kF,aD al];split<;>decide
theorem akS {p:Jp} (b:A<256^n) (e:D<=A) (f:nd p<256^n) (h:nd p+D % 256^n=A % 256^n+c*256^n):nd p=A - D:=by
 rw[kM b,kM al] at h
 have d:c=0:=by
  rcases zj c with a |a
  ·exact a
  ·have:1*256^n<=c*256^n:=mn _ a;omega
 rw[d] at h;omega
theorem adh (a b:ByteArray) (w:wA) (d:a.size<=1000000) (f:b.size<=1000000) (h:N a<N b):
  c6 122 #[zX a,zX b] w (dj w (zz #[zX ⟨#[]⟩,zd x3])):=by
 have c:=adn a b w d f;rw[aax h] at c;have H:=aF c;clear c h;go_enter func122,ntmps122;go_wp2_with fail
 refine(H.o).af ?_;rintro e i ⟨rfl,g⟩;go_wp2;go_ret2;exact⟨rfl,g⟩
theorem WW (a b:ByteArray) (w:wA) (ha:a.size<=1000000) (Q:b.size<=1000000) (h:N b<=N a):
  c6 122 #[zX a,zX b] w (dj w (zz #[zX (B (N a - N b)),zd xq])):=by
 obtain⟨i0,hi,ai,aj,an⟩:=eo Tryz.infoInt;have g:=adn a b w ha Q;have q:∃r:Int,kF (N a) (N b)=r/\0<=r:=⟨_,rfl,asO h⟩;obtain⟨r,q,hr⟩:=q;rw[q] at g;have B6:=aF g;have T:=aF (fun V=>po b V al);have sb:=aO (kd b) Q;have Jv:=aF (Gr a);have qZ:=aF h;have ED:=aF (fun (k:Nat) (V:wA) (h:k<=9223372036854775807)=>I5 a k V al h);have B2:=fun (k:Nat) (V:wA) (h:k<=9223372036854775807)=>I5 (B (N b)) k V al h;rw[cQ] at B2;have Mu:=aF B2;clear g q B2 h;generalize B (N b)=y' at *;generalize hA:N a=A at *;generalize hD:N b=D at *;clear hA hD;generalize hn:a.size=n at *;go_enter func122,ntmps122;go_wp2_with fail
 refine(B6.o).af ?_;rintro e w1 ⟨rfl,m⟩;clear B6;go_wp2_with fail
 refine(T.o _).af ?_;rintro e w9 ⟨rfl,ae⟩;subst ae;clear T
 go_wp2_with (first
  |(at_make;refine oX _ rfl _ _ 27 rfl w9.heap.size 3 i0 (E yR 0) 1 underlying27 hi ai aj yR yR _ _ n rfl rfl bd bd (by rw[an];omega) (by unfold maxLen;omega) (ak _) ?_;intro R U ab))
 have F:=sR U;rw[KV] at F;have S:da w9 R:=(aw _ w9).grown ab (ak _) (fun k e=>by cases e);have K:we (cZ R w9.heap.size (List.replicate n 0)):=F;clear U ab F
 go_loopw [8,9] (fun cv iv wr=>∃(k c:Nat) (p:Jp),k<=n/\iv=E yR k/\cv=E yR c/\c<=1/\p.length=n/\we (uf p)/\we (∀j,k<=j ->p[j]?.getD 0=0)/\we (nd p+D % 256^k=A % 256^k+c*256^k)/\we (cZ wr w9.heap.size p)/\da w9 wr)
  (fun _ i _=>n - (intOf i).toNat)
 case atStart=>exact⟨0,0,List.replicate n 0,aX _,rfl,rfl,aX _,aE,aao _,(fun j _=>by rw[JW];split<;>rfl),(show _=_ by rw[XN];simp[Nat.mod_one]),K,S⟩
 case round=>
  obtain⟨k,c,p,hk,rfl,rfl,g,s,t,B1,B9,H,f⟩:=hrel;clear K S;by_cases ar:k<n
  ·have M:k<Z p:=al
   have aa:=aF (fun y c'=>akR (y:=y) M (B1.o k (ak _)) B9.o c');have X:=aF (fun V=>ED.o k V al);have Y:=aF (fun V=>Mu.o k V al);have hx:A/256^k % 256<256:=jh _ a6;have hy:D/256^k % 256<256:=jh _ a6;generalize A/256^k % 256=x at *;generalize D/256^k % 256=y at *;have av:=H.o.cell k M;have aq:=H.o.fz k;have P:=aF (fun z=>H.o.set k z);generalize p[k]=pk at *;clear B9;by_cases pE:(x:Int) - y - c<0
   ·go_wp2_with (first
     |(have ao:=B7;go_at_call 121;refine(Y.o _).af ?_;rintro e l ⟨rfl,d⟩;subst d)
     |(go_at_call 121;refine(X.o _).af ?_;rintro e l ⟨rfl,d⟩;subst d;have B7:True:=trivial))
    have v:Value.int yR ((x:Int) - (y:Int) - (c:Int)+256)=E yR ((x+256 - y - c:Nat):Int):=int_eq al;rw[v];go_roundw
    case rel=>exact⟨k+1,1,p.set k (x+256 - y - c),al,bd,rfl,al,by rw[gA];exact s,Pv t.o _ _ al,WQ B1.o,aa.o _ 1 al,P.o _,f.setCell (ak _) _⟩
    case measure=>simp[intOf];omega
   ·go_wp2_with (first
     |(have ao:=B7;go_at_call 121;refine(Y.o _).af ?_;rintro e l ⟨rfl,d⟩;subst d)
     |(go_at_call 121;refine(X.o _).af ?_;rintro e l ⟨rfl,d⟩;subst d;have B7:True:=trivial))
    have v:Value.int yR ((x:Int) - (y:Int) - (c:Int))=E yR ((x - y - c:Nat):Int):=int_eq al;rw[v];go_roundw
    case rel=>exact⟨k+1,0,p.set k (x - y - c),al,bd,rfl,al,by rw[gA];exact s,Pv t.o _ _ al,WQ B1.o,aa.o _ 0 al,P.o _,f.setCell (ak _) _⟩
    case measure=>simp[intOf];omega
  ·obtain rfl:k=n:=al
   have u:=Xi w9.heap.size p wr t.o al H.o;have L:=an7 p t.o;rw[s] at L;rw[s,akS Jv.o qZ.o L B9.o] at u;have AD:=aF u;clear u L;go_wp2_with (go_at_call 123;refine(AD.o).af ?_;rintro e l ⟨rfl,ad⟩)
   go_ret2;exact⟨rfl,(m.trans (f.af m.size)).trans (ad.af (m.trans (f.af m.size)).size)⟩
theorem Kv (n:Int) (w:wA) (h0: -9223372036854775808<=n) (h1:n<=9223372036854775807):
  c6 68 #[E yR n] w (dj w (zX (B n.toNat))):=by
 go_enter func68,ntmps68;go_wp2;go_loopw [0,3] (fun v a wr=>∃(z:Int) (s:ByteArray),v=E yR z/\a=zX s/\ -9223372036854775808<=z/\z<=9223372036854775807/\we (bn z.toNat++s.data.toList=bn n.toNat)/\da w wr) (fun v _ _=>(intOf v).toNat)
 case atStart=>exact⟨n,⟨#[]⟩,rfl,rfl,h0,h1,(show _=_ by simp),aw _ _⟩
 case round=>
  obtain⟨z,s,rfl,rfl,g,j,H,c⟩:=hrel;by_cases d:0<z
  ·have b:=JO (P:=prog) (AC wr (yd #[E .u8 (z % 256)] 5)) 148 5 underlying148 underlying5 wr.heap.size 0 1 1 [z % 256] rfl (fun i h=>by
    (obtain rfl:i=0:=al);rw[a8 _ wr.heap.size (0+0) _ _ (0,0) (dU _ _)];rfl) 61 underlying61
   have t:we (bn (z/256).toNat++(strOfNums [z % 256]++s).data.toList=bn n.toNat):=by
    show _=_;rw[<- H.o,sP z.toNat al,ByteArray.data_append,Array.toList_append,JN,show (z/256).toNat=z.toNat/256 by omega,qj];(have:UInt8.ofNat (z % 256).toNat=UInt8.ofNat (z.toNat % 256):=by congr 1;omega);simp[this]
   have K:s.size<=8:=by
    have e:=eG List.length H.o;rw[cD,B8] at e;have:=sQ 8 n.toNat (by show n.toNat<18446744073709551616;omega);omega
   have f:(strOfNums [z % 256]).size=1:=strOfNums_size _;go_wp2;go_roundw
   case rel=>exact⟨z/256,strOfNums [z % 256]++s,rfl,rfl,al,al,t.o,c.alloc c.size _⟩
   case measure=>simp[intOf];omega
  ·have B9:we (s=B n.toNat):=by
    show s=_;have:=H.o;rw[show z.toNat=0 by omega,sO,iH] at this;apply Q9;apply Ra.1;rw[this,B]
   go_wp2;go_ret;exact⟨by rw[<- B9.o];rfl,c⟩
theorem an9 (l:List UInt8) (k:Nat):nb (l.take k)<=nb l:=by
 conv=>rhs;rw[<- AX k l,Fo]
 have:nb (l.take k)*1<=nb (l.take k)*256^Z (l.drop k):=mW _ (wH a6);omega
theorem aeS (s:ByteArray) (k:Nat) (h:k<s.size):nb (s.data.toList.take (k+1))=nb (s.data.toList.take k)*256+s[k].toNat:=by
 rw[Nf s k h,Bu]
theorem aeT (s:ByteArray):nb (s.data.toList.take s.size)=N s:=by
 rw[lg (by rw[B8];exact ak _),N]
theorem Kr (s:ByteArray) (w:wA) (hs:s.size<=7):
  c6 175 #[zX s] w fun e w'=>e=yk (zz #[E yR (N s:Nat),zd xq])/\w'=w:=by
 have a:N s<72057594037927936:=aT (Gr s) (lJ a6 hs);have A:=aF (aeT s);go_enter func175,ntmps175;go_wp2;go_loop [4,5] (fun v i=>∃k:Nat,k<=s.size/\i=E yR k/\v=E yR (nb (s.data.toList.take k):Nat)) (fun _ i=>s.size - (intOf i).toNat)
 case atStart=>exact⟨0,aX _,rfl,rfl⟩
 case round=>
  obtain⟨k,b,rfl,rfl⟩:=hrel;by_cases l:k<s.size
  ·have r:=abD _ s[k].toNat_lt;have t:=aeS s k l;have h:=an9 s.data.toList (k+1);rw[t] at h;have c:nb (s.data.toList.take k)*256+s[k].toNat<72057594037927936:=VL h a;have H:=aF t;clear t h a;generalize nb (s.data.toList.take k)=m at *;go_wp2;go_round
   case rel=>exact⟨k+1,al,bd,by rw[H.o];exact int_eq al⟩
   case measure=>simp[intOf];omega
  ·obtain rfl:k=s.size:=al
   rw[A.o];go_wp2;go_ret2;exact⟨rfl,rfl⟩
theorem acM (s:ByteArray) (w:wA) (h1:7<s.size) (hs:s.size<=1000000):
  c6 175 #[zX s] w fun e w'=>e=yk (zz #[E yR 0,zd x3])/\w'=w:=by
 go_enter func175,ntmps175;go_wp2;go_ret2;exact⟨rfl,rfl⟩
theorem acJ (m:Nat) (h:(B m).size<=7):m<72057594037927936:=aT (Hc m) (lJ a6 h)
theorem aov {M x y:Nat} {p:Jp} (a:k+m<Z p) (h:nd p+c*256^(k+m)=M+x*256^k*(D % 256^m)) (b:D/256^m % 256=y):
  nd (p.set (k+m) ((c+p[k+m]+x*y) % 256))+(c+p[k+m]+x*y)/256*256^(k+(m+1))=M+x*256^k*(D % 256^(m+1)):=by
 have s:=Sq p (k+m) ((c+p[k+m]+x*y) % 256) a;have t:=aik (c+p[k+m]+x*y) (256^(k+m));have e:(c+p[k+m]+x*y)*256^(k+m)=c*256^(k+m)+p[k+m]*256^(k+m)+x*y*256^(k+m):=by rw[iG,iG]
 have f:x*256^k*(D % 256^(m+1))=x*256^k*(D % 256^m)+x*y*256^(k+m):=by
  rw[KT,b,oZ,EP];congr 1
  rw[ju,ju,eN y,ju]
 rw[f,show k+(m+1)=k+m+1 by omega,jK];omega
theorem an8 (l:Jp):∀(j:Nat) (h:j<Z l),l[j]*256^j<=nd l:=by
 induction l with
 |nil=>intro j h;exact absurd h (ER _)
 |cons x r ih=>
  intro j h;cases j with
  |zero=>simp only[List.getElem_cons_zero,MG,rU,H9];omega
  |succ j=>
   (have a:j<Z r:=by simpa using h);have:=ih j a;rw[VX,H9,jK, <- ju];omega
theorem aow {lb x:Nat} {p:Jp} (d:k+lb<Z p) (b:D<256^lb) (i:A/256^k % 256=x) (h:nd p+c*256^(k+lb)=A % 256^k*D+x*256^k*(D % 256^lb)):
  nd (p.set (k+lb) (p[k+lb]+c))=A % 256^(k+1)*D/\p[k+lb]+c<256:=by
 have s:=Sq p (k+lb) (p[k+lb]+c) d;rw[kM b] at h;have f:A % 256^(k+1)*D=A % 256^k*D+x*256^k*D:=by rw[KT,i,iG,eN (256^k) x]
 have e:(p[k+lb]+c)*256^(k+lb)=p[k+lb]*256^(k+lb)+c*256^(k+lb):=iG _ _ _;have n:nd (p.set (k+lb) (p[k+lb]+c))=A % 256^(k+1)*D:=by rw[f];omega
 refine⟨n,?_⟩;have g:=an8 (p.set (k+lb) (p[k+lb]+c)) (k+lb) (by rw[gA];exact d);rw[n,Hn] at g;have m:A % 256^(k+1)*D<256^(k+1)*256^lb:=MI (jh _ (wH a6)) b;rcases dR (p[k+lb]+c) 256 with a |a
 ·exact a
 ·have j:256*256^(k+lb)<=(p[k+lb]+c)*256^(k+lb):=mn _ a;have l:256^(k+1)*256^lb=256*256^(k+lb):=by rw[<- EP, <- Nat.pow_succ',show k+1+lb=k+lb+1 by omega]
  omega
theorem amd (a b:ByteArray) (w:wA) (ha:a.size<=1000000) (hb:b.size<=1000000):
  c6 118 #[zX a,zX b] w (dj w (zX (B (N a*N b)))):=by
 obtain⟨i0,hi,aW,aZ,a1⟩:=eo Tryz.infoInt;have tR:=aF (po a w al);have eL:=aF (po b w al);have sa:=aO (kd a) ha;have sb:=aO (kd b) hb;have GM:N (B (N a))=N a:=cQ _;have GL:N (B (N b))=N b:=cQ _;generalize B (N a)=x at *;generalize B (N b)=y at *;have K:=aF (Gr x);have Y:=aF (Gr y);have ED:=aF (fun (k:Nat) (V:wA) (h:k<=9223372036854775807)=>I5 x k V al h);have Mu:=aF (fun (k:Nat) (V:wA) (h:k<=9223372036854775807)=>I5 y k V al h);have F:=aF (fun (h:x.size<=7) (V:wA)=>Kr x V h);have u:=aF (fun (h:y.size<=7) (V:wA)=>Kr y V h);rw[GM] at K ED F;rw[GL] at Y Mu u;clear GM GL;generalize hA:N a=A at *;generalize hD:N b=D at *;clear hA hD ha hb;go_enter func118,ntmps118;go_wp2_with fail
 refine(tR.o).af ?_;rintro e f ⟨rfl,l⟩;subst l;go_wp2_with fail
 refine(eL.o).af ?_;rintro e f ⟨rfl,l⟩;subst l;clear tR eL;by_cases ai:x.size+y.size<=7
 ·have hp:A*D<72057594037927936:=by
   have B9:A*D<256^x.size*256^y.size:=MI K.o Y.o;rw[<- EP] at B9;exact aT B9 (lJ a6 ai)
  have uC:(0:Int)<=(A:Int)*(D:Int):=Int.mul_nonneg al al
  have vD:(A:Int)*(D:Int)<72057594037927936:=by
   (have s:((A*D:Nat):Int)<72057594037927936:=al);rwa [ng] at s
  have HO:=aF (fun V=>Kv ((A:Int)*(D:Int)) V al al);have aj:((A:Int)*(D:Int)).toNat=A*D:=by rw[<- ng,oC]
  rw[aj] at HO;have aJ:=aF (fun V=>F.o al V);have az:=aF (fun V=>u.o al V);have U:=aF uC;have S:=aF vD;have S1:(x.size:Int)+(y.size:Int)<=7:=al
  clear F u aj hp uC vD ai;go_wp2_with fail
  refine(aJ.o _).af ?_;rintro e H ⟨rfl,l⟩;subst l;go_wp2_with fail
  refine(az.o _).af ?_;rintro e H ⟨rfl,l⟩;subst l
  have bo:IntKind.i64.wrap ((A:Int)*(D:Int))=(A:Int)*(D:Int):=by
   have B9:=U.o;have s:=S.o;rw[jx];omega
  have Yo:wrap64 ((A:Int)*(D:Int))=(A:Int)*(D:Int):=by
   have B9:=U.o;have s:=S.o;rw[wrap64];omega
  clear U S;go_wp2_with fail
  refine(HO.o _).af ?_;rintro e Q ⟨rfl,aa⟩;go_wp2;go_ret;exact⟨rfl,aa⟩
 ·clear F u
  go_wp2_with (first
   |(at_make;refine oX _ rfl _ _ 27 rfl f.heap.size 3 i0 (E yR 0) 1 underlying27 hi aW aZ yR yR _ _ (x.size+y.size+1) rfl rfl bd bd (by rw[a1];omega) (by unfold maxLen;omega) (ak _) ?_;intro H an aq))
  have X:=sR an;rw[KV] at X;have ad:da f H:=(aw _ f).grown aq (ak _) (fun k e=>by cases e);have HI:we (cZ H f.heap.size (List.replicate (x.size+y.size+1) 0)):=X;clear an aq X
  go_loopw [10] (fun iv wr=>∃(k:Nat) (p:Jp),k<=x.size/\iv=E yR k/\p.length=x.size+y.size+1/\we (uf p)/\we (nd p=A % 256^k*D)/\we (cZ wr f.heap.size p)/\da f wr)
   (fun i _=>x.size - (intOf i).toNat)
  case atStart=>exact⟨0,List.replicate (x.size+y.size+1) 0,aX _,rfl,aE,aao _,(show _=_ by rw[XN];simp[Nat.mod_one]),HI,ad⟩
  case round=>
   obtain⟨k,p,hk,rfl,ae,B1,B6,R,v⟩:=hrel;clear HI ad;obtain⟨wo,bm⟩:∃wo:wA,wo=wr:=⟨_,rfl⟩;by_cases bg:k<x.size
   ·have HX:=aF (fun V=>ED.o k V al);have hx:A/256^k % 256<256:=jh _ a6;have bb:=aF (fun (c:Nat) (q:Jp) (hq:k+y.size<Z q)=>aow (A:=A) (D:=D) (k:=k) (lb:=y.size) (c:=c) (p:=q) hq Y.o rfl);generalize A/256^k % 256=g at *;go_wp2_with (go_at_call 121;refine(HX.o _).af ?_;rintro e Q ⟨rfl,ab⟩;subst ab)
    go_loopw [12,13] (fun cv jv wr=>∃(m c:Nat) (q:Jp),m<=y.size/\jv=E yR m/\cv=E yR c/\c<=255/\q.length=x.size+y.size+1/\we (uf q)/\we (nd q+c*256^(k+m)=A % 256^k*D+g*256^k*(D % 256^m))/\we (cZ wr f.heap.size q)/\da f wr)
     (fun _ j _=>y.size - (intOf j).toNat)
    case atStart=>
     refine⟨0,0,p,aX _,rfl,rfl,aX _,ae,B1.o,?_,R,v⟩;show _=_;rw[B6.o];simp[Nat.mod_one]
    case round=>
     obtain⟨m,c,q,hm,rfl,rfl,hc,fg,T,B7,M,Ai⟩:=hrel;clear R v B1 B6;by_cases YZ:m<y.size
     ·have r:k+m<Z q:=al
      have HY:=aF (fun V=>Mu.o m V al);have K0:D/256^m % 256<256:=jh _ a6;have ao:=aov (y:=D/256^m % 256) r B7.o rfl;have bf:=M.o.cell (k+m) r;have bk:=T.o q[k+m] (bQ r);have aM:=M.o.fz (k+m);have L:=aF (fun z=>M.o.set (k+m) z);generalize D/256^m % 256=n at *;generalize q[k+m]=d at *;have av:=aF ao;have Oi:g*n<=255*255:=ld al al;have ay:(0:Int)<=(g:Int)*(n:Int):=Int.mul_nonneg al al
      have ax:(g:Int)*(n:Int)<=65025:=by
       (have s:((g*n:Nat):Int)<=65025:=al);rwa [ng] at s
      clear ao B7;go_wp2_with (go_at_call 121;refine(HY.o _).af ?_;rintro e Q ⟨rfl,ab⟩;subst ab)
      have j3:(g:Int)*(n:Int)=((g*n:Nat):Int):=(ng _ _).symm;rw[j3];clear ay ax j3;generalize g*n=t at *;have B2:Value.int yR (((c:Int)+(d:Int)+(t:Int)) % 256)=E yR (((c+d+t) % 256:Nat):Int):=int_eq al;have aR:Value.int yR (((c:Int)+(d:Int)+(t:Int))/256)=E yR (((c+d+t)/256:Nat):Int):=int_eq al;rw[B2,aR];go_roundw
      case rel=>exact⟨m+1,(c+d+t)/256,q.set (k+m) ((c+d+t) % 256),al,bd,rfl,al,by rw[gA];exact fg,Pv T.o _ _ (jh _ a6),av.o,L.o _,Ai.setCell (ak _) _⟩
      case measure=>simp[intOf];omega
     ·obtain rfl:m=y.size:=al
      (have r:k+y.size<Z q:=al);obtain⟨pH,S0⟩:=bb.o c q r B7.o;have bf:=M.o.cell (k+y.size) r;have aM:=M.o.fz (k+y.size);have L:=aF (fun z=>M.o.set (k+y.size) z);generalize q[k+y.size]=d at *;have ar:=aF pH;clear pH B7;go_wp2;have B2:Value.int yR ((d:Int)+(c:Int))=E yR ((d+c:Nat):Int):=int_eq al;rw[B2];go_roundw
      case rel=>exact⟨k+1,q.set (k+y.size) (d+c),al,bd,by rw[gA];exact fg,Pv T.o _ _ S0,ar.o,L.o _,Ai.setCell (ak _) _⟩
      case measure=>simp[intOf];omega
   ·obtain rfl:k=x.size:=al
    have P:=Xi f.heap.size p wr B1.o al R.o;rw[ae,B6.o,kM K.o] at P;have AD:=aF P;clear P;go_wp2_with (go_at_call 123;refine(AD.o).af ?_;rintro e Q ⟨rfl,aa⟩)
    go_ret;exact⟨rfl,v.trans (aa.af v.size)⟩
variable {d:Nat}
def bv (d:Nat):Value:=E .u8 (d:Int)
def Ma (w:wA) (base:Nat) (v:wQ) (l:Jp):Prop:=w.ownsRow base 5 1 v (Z l) (l.map bv)
def qn (l:Jp):Nat:=l.foldl (fun n d=>n*256+d) 0
theorem adr (l:Jp) (d:Nat):qn (l++[d])=qn l*256+d:=by simp[qn]
theorem asp {l:Jp} (h:uf l) (c:d<256):uf (l++[d]):=fun x b=>by
 rcases bH.1 b with a |a
 ·exact h x a
 ·simp at a;omega
theorem aua (l:Jp):uf l ->N (strOfNums (l.map Int.ofNat))=qn l:=by
 induction l using Kn with
 |h0=>intro _;rfl
 |h1 l d ih=>
  intro h;have h1:=ih fun x a=>h x (AY _ a);have b:=h d (JU _ (bD.2 rfl));rw[N,JN] at h1⊢;rw[gK,gK,fR,om,fR,om,Bu,h1,adr];have:(UInt8.ofNat (Int.ofNat d).toNat).toNat=d:=by simp;omega
  rw[this]
theorem asn {P:Nat} (h:0<D):(P*256+c)/D=P/D*256+(P % D*256+c)/D/\(P*256+c) % D=(P % D*256+c) % D:=by
 have e:P*256+c=P % D*256+c+P/D*256*D:=by
  have:=QR P D;have f:P/D*256*D=D*(P/D)*256:=by rw[Nat.mul_right_comm,eN (P/D) D]
  omega
 rw[e,VO _ _ h,VN];exact⟨ET _ _,rfl⟩
theorem auc (s x:ByteArray) (k:Nat) (h:k<x.size):N (s++x.extract k (k+1))=N s*256+x[k].toNat:=by
 have e:(x.extract k (k+1)).data.toList=[x[k]]:=by
  rw[ByteArray.data_extract,Array.toList_extract,List.extract_eq_take_drop,show k+1 - k=1 by omega,ri (by rw[B8];exact h)];rfl
 rw[N,ByteArray.data_append,Array.toList_append,e,Bu];rfl
theorem anO (x:ByteArray) (k:Nat) (h:k<x.size):(x.extract k (k+1)).size=1:=by
 rw[ByteArray.size_extract];omega
theorem aml (a b:ByteArray) (w:wA) (n:a.size<=1000000) (p:b.size<=1000000) (h:N b≠0) (h1:(B (N a)).size<=7) (f:(B (N b)).size<=7):
  c6 120 #[zX a,zX b] w (dj w (zz #[zX (B (N a/N b)),zX (B (N a % N b)),zd xq])):=by
 have t:=aF (po a w al);have m:=aF (po b w al);have M:N (B (N a))=N a:=cQ _;have L:N (B (N b))=N b:=cQ _;have S:=EM h;have z:=acJ _ h1;have B9:=acJ _ f;generalize B (N a)=x at *;generalize B (N b)=y at *;have l:=aF (fun (V:wA)=>Kr x V h1);have i:=aF (fun (V:wA)=>Kr y V f);rw[M] at l;rw[L] at i;clear M L;generalize hA':N a=A at *;generalize Gb:N b=D at *;clear hA' Gb n p h1 f
 have Q:(A:Int)/(D:Int)<=A:=by
  rw[<- A3];have:=AW A D;omega
 have B7:0<=(A:Int)/(D:Int):=Int.ediv_nonneg al al
 have U:(A:Int) % (D:Int)<=A:=by
  rw[<- wK];have:=Nat.mod_le A D;omega
 have B2:0<=(A:Int) % (D:Int):=Int.emod_nonneg _ al;have q:=fun V=>Kv ((A:Int)/(D:Int)) V al al;have r:=fun V=>Kv ((A:Int) % (D:Int)) V al al;rw[<- A3,oC,A3] at q;rw[<- wK,oC,wK] at r;have H:=aF q;have R:=aF r;clear q r;have T:0<D:=mj h;go_enter func120,ntmps120;go_wp2_with fail
 refine(t.o).af ?_;rintro e s ⟨rfl,c⟩;subst c;go_wp2_with fail
 refine(m.o).af ?_;rintro e s ⟨rfl,c⟩;subst c;go_wp2_with fail
 refine(l.o _).af ?_;rintro e d ⟨rfl,c⟩;subst c;go_wp2_with fail
 refine(i.o _).af ?_;rintro e d ⟨rfl,c⟩;subst c;go_upto_region 8 with fail
 have F:¬(D:Int)=0:=al
 have X:IntKind.i64.wrap ((A:Int)/(D:Int))=(A:Int)/(D:Int):=by rw[jx];omega
 have Y:IntKind.i64.wrap ((A:Int) % (D:Int))=(A:Int) % (D:Int):=by rw[jx];omega
 have g:=(aw d.heap.size d).drew
 go_region_held3 (fun V=>we (da d V))
  (first |exact k |exact j |exact g)
  (first
   |(have P:=j;go_at_call 68;refine(R.o _).af ?_;rintro e K ⟨rfl,v⟩;have k:=P.trans (v.af P.size))
   |(go_at_call 68;refine(H.o _).af ?_;rintro e B6 ⟨rfl,u⟩;have j:=g.trans (u.af g.size)))
 go_wp2;go_ret3
 exact⟨rfl,k⟩
theorem Ma.cases {base:Nat} {v:wQ} {l:Jp} (h:Ma w base v l):(v=J O 0 0/\l=[])∨∃g cap,v=J (I ⟨g,0,O⟩) (Z l) cap/\∀j,j<Z l ->AJ w ⟨g,j,O⟩=I (E .u8 (l[j]?.getD 0:Nat)):=by
 rcases h.2 with ⟨a,n⟩ |⟨g,cap,c,a,r⟩
 ·exact yp ⟨a,Q4 n⟩
 ·subst a;refine xS ⟨g,cap,rfl,fun j b=>?_⟩;rw[World.ownsRow.cellAt h j al,mr,ba b];rfl
theorem ahT {R:Nat} {y:ByteArray} (b:N y=D) (a:R<256*D) (hs:y.size<=500000) (d:Nat):(B (R - d*D)).size<=1000000:=by
 have c:=kO (aO (Nat.sub_le R (d*D)) (AV a));have e:=uo 256 D;have h:=kd y;rw[b] at h;have f:(B 256).size<=2:=by rw[nZ];exact sQ 2 256 a6
 omega
theorem aso {R:Nat} (h:0<D) (h1:d*D<=R) (a:¬D<=R - d*D):R/D=d/\R % D=R - d*D:=by
 have e:R=(R - d*D)+d*D:=al
 constructor
 ·rw[e,VO _ _ h,zk al];omega
 ·conv=>lhs;rw[e]
  rw[VN,kM al]
theorem amm (a b:ByteArray) (w:wA) (ha:a.size<=500000) (hb:b.size<=500000) (h:N b≠0) (an:¬((B (N a)).size<=7/\(B (N b)).size<=7)):
  c6 120 #[zX a,zX b] w (dj w (zz #[zX (B (N a/N b)),zX (B (N a % N b)),zd xq])):=by
 obtain⟨i0,F,aW,aZ,a1⟩:=eo Tryz.infoByte;have tR:=aF (po a w al);have eL:=aF (po b w al);have GM:N (B (N a))=N a:=cQ _;have GL:N (B (N b))=N b:=cQ _;have bb:=EM h;have sa:=aO (kd a) ha;have sb:=aO (kd b) hb;generalize B (N a)=x at *;generalize hy:B (N b)=y at *;have M:=aF GL;have HX:=aF (aeT x);rw[GM] at HX;have T:0<N b:=mj h;clear GM GL;have k6:=aF (fun (V:wA)=>if f:x.size<=7 then Exists.intro (p:=fun r:wQ×wQ=>r.2=zd (decide (x.size<=7))/\c6 175 #[zX x] V fun e w'=>e=yk (zz #[r.1,r.2])/\w'=V) (E yR (N x:Nat),zd xq) ⟨by simp[f],Kr x V f⟩ else⟨(E yR 0,zd x3),by simp[f],acM x V al al⟩);have Co:=aF (fun (V:wA)=>if f:y.size<=7 then Exists.intro (p:=fun r:wQ×wQ=>r.2=zd (decide (y.size<=7))/\c6 175 #[zX y] V fun e w'=>e=yk (zz #[r.1,r.2])/\w'=V) (E yR (N y:Nat),zd xq) ⟨by simp[f],Kr y V f⟩ else⟨(E yR 0,zd x3),by simp[f],acM y V al al⟩);generalize hA':N a=A at *;generalize Gb:N b=D at *;clear hA' Gb ha hb hy;go_enter func120,ntmps120;go_wp2_with fail
 refine(tR.o).af ?_;rintro e U ⟨rfl,j⟩;subst j;go_wp2_with fail
 refine(eL.o).af ?_;rintro e U ⟨rfl,j⟩;subst j;clear tR eL;obtain⟨⟨p1,p2⟩,yC,QD⟩:=k6.o U;obtain⟨⟨q1,q2⟩,nI,AR⟩:=Co.o U;simp only at yC nI;subst yC nI;have aq:=aF QD;have ao:=aF AR;clear QD AR k6 Co
 have aM:(decide (x.size<=7)=x3)∨(decide (x.size<=7)=xq/\decide (y.size<=7)=x3):=by
  by_cases f:x.size<=7
  ·exact xS ⟨cJ f,cT fun h8=>an ⟨f,h8⟩⟩
  ·exact yp (cT f)
 clear an;generalize decide (x.size<=7)=t1 at *;generalize decide (y.size<=7)=t2 at *;go_wp2_with fail
 refine(aq.o).af ?_;rintro e m ⟨rfl,j⟩;subst j;go_wp2_with fail
 refine(ao.o).af ?_;rintro e m ⟨rfl,j⟩;subst j;clear aq ao;rcases aM with rfl |⟨rfl,rfl⟩
 all_goals
  go_wp2
  go_loopw [11,12,13] (fun qv rv iv wr=>∃(k:Nat) (ql:Jp),k<=x.size/\iv=E yR k/\rv=zX (B (nb (x.data.toList.take k) % D))/\ql.length=k/\we (uf ql)/\we (qn ql=nb (x.data.toList.take k)/D)/\we (Ma wr m.heap.size qv ql)/\da m wr)
   (fun _ _ i _=>x.size - (intOf i).toNat)
  case atStart=>exact⟨0,[],aX _,rfl,(by rw[QT,Ia,Nat.zero_mod,CL]),rfl,(fun x hx=>by cases hx),(show _=_ by rw[QT,Ia,Nat.zero_div];rfl),World.ownsRow_nil _ _ _ _,aw _ _⟩
  case round=>
   obtain⟨k,ql,hk,rfl,rfl,S,B1,B9,u,l⟩:=hrel;by_cases aa:k<x.size
   ·have ab:=anO x k aa;have Q:=auc (B (nb (x.data.toList.take k) % D)) x k aa;rw[cQ] at Q;have ay:=aeS x k aa;obtain⟨K,B6⟩:=asn (P:=nb (x.data.toList.take k)) (D:=D) (c:=x[k].toNat) T;rw[<- ay] at K B6;have ax:nb (x.data.toList.take k) % D<D:=jh _ T;have aR:=x[k].toNat_lt;have Yz:(B (nb (x.data.toList.take k) % D)).size<=500000:=aO (kO (AV ax)) (by have:=kd y;rw[M.o] at this;omega);(have yU:we (nb (x.data.toList.take (k+1))/D=qn ql*256+(nb (x.data.toList.take k) % D*256+x[k].toNat)/D):=by show _=_;rw[K,B9.o]);have kI:=aF B6;(have hR:nb (x.data.toList.take k) % D*256+x[k].toNat<256*D:=al);clear ay K B6 B9 aR ax;generalize nb (x.data.toList.take k) % D*256+x[k].toNat=R at *;generalize B (nb (x.data.toList.take k) % D)=rs at *;(have aJ:(rs++x.extract k (k+1)).size<=1000001:=by rw[ByteArray.size_append,ab];omega);have H:=aF (fun V=>po (rs++x.extract k (k+1)) V al);rw[Q] at H;clear Q aJ
    have ai:=aF (fun (d:Nat) (V:wA) (v:d*D<=R) (h2:D<=R - d*D)=>by
     have hs:=WW (B (R - d*D)) y V (ahT M.o hR sb d) al (by rw[cQ,M.o];exact h2);rw[cQ,M.o,show R - d*D - D=R - (d+1)*D by rw[iG,lK];omega] at hs;exact hs)
    have Ek:=aF (fun (d:Nat) (V:wA) (h2:¬D<=R - d*D)=>adh (B (R - d*D)) y V (ahT M.o hR sb d) al (by rw[cQ,M.o];omega));go_wp2_with (go_at_call 119;refine(H.o _).af ?_;rintro e X ⟨rfl,s⟩;subst s)
    clear H;go_loopw [12,14] (fun rv dv wi=>∃d:Nat,d*D<=R/\rv=zX (B (R - d*D))/\dv=E yR d/\da X wi) (fun _ dv _=>256 - (intOf dv).toNat)
    case atStart=>exact⟨0,al,by rw[oY,Nat.sub_zero],rfl,aw _ _⟩
    case round=>
     obtain⟨d,z,rfl,rfl,n⟩:=hrel
     have az:d<256:=by
      rcases dR d 256 with v |v
      ·exact v
      ·have:=mn D v;omega
     by_cases q:D<=R - d*D
     ·have sL:(d+1)*D<=R:=by rw[iG,lK];omega
      have t:=aF (fun V=>ai.o d V z q);clear z q;go_wp2_with fail
      refine(t.o _).af ?_;rintro e Y ⟨rfl,B7⟩;go_wp2;go_roundw
      case rel=>exact⟨d+1,sL,rfl,bd,n.trans (B7.af n.size)⟩
      case measure=>simp[intOf];omega
     ·have t:=aF (fun V=>Ek.o d V q);obtain⟨hq,hr⟩:=aso T z q;(have tX:we (qn (ql++[d])=nb (x.data.toList.take (k+1))/D):=by show _=_;rw[adr,yU.o,hq]);(have eD:we (R - d*D=nb (x.data.toList.take (k+1)) % D):=by show _=_;rw[kI.o,hr]);clear hq hr z q ai Ek kI yU;go_wp2_with fail
      refine(t.o _).af ?_;rintro e Y ⟨rfl,B7⟩;have ae:Ma Y m.heap.size _ ql:=Sa (Sa u.o n (ak _)) B7 (ak _);have L:=(l.trans (n.af l.size)).trans (B7.af (l.trans (n.af l.size)).size);have kR:=L.size;rw[eD.o];clear eD t;go_wp2_with (at_builtin;refine AU _ rfl _ _ 148 rfl m.heap.size 5 i0 (E .u8 0) 1 1 underlying148 F aW aZ a1 rfl a6 _ _ _ rfl (He ae _) ⟨Y.heap.size,0,O⟩ 1 1 [E .u8 (d:Nat)] rfl rfl (cell_one_new _ _ _) (by simp[Value.oneCell']) (by unfold maxLen;omega) al (by simp;omega) ?_;intro v' w5 FP F4 _)
      have Ak:da m w5:=(L.alloc L.size _).grown F4 (by simp;omega) (fun k hk=>(World.ownsRow.lt ae k hk).1);go_wp2;go_roundw
      case rel=>
       refine⟨k+1,ql++[d],al,bd,rfl,by rw[cD,S];rfl,asp B1.o az,tX.o,?_,Ak⟩;(have e:Z (ql++[d])=Z ql+1:=aE);show Ma _ _ _ _;rw[Ma,e];simpa [bv] using FP
      case measure=>simp[intOf];omega
   ·obtain rfl:k=x.size:=al
    rw[HX.o] at B9⊢;have B2:=aua ql B1.o;rw[B9.o] at B2;rcases u.o.cases with ⟨rfl,rfl⟩ |⟨g,cap,rfl,av⟩
    ·have H:=aF (fun V=>po ⟨#[]⟩ V (by show 0<=_;omega));have aj:N ⟨#[]⟩=A/D:=B2;rw[aj] at H;have BW:=run_convert_bytes_nil (P:=prog) wr 148 5 underlying148 underlying5 0 0 61 underlying61;rw[show ByteArray.empty=⟨#[]⟩ from rfl] at BW;clear B2 aj u B1 B9 S;go_wp2_with (go_at_call 119;refine(H.o _).af ?_;rintro e X ⟨rfl,s⟩;subst s)
     go_ret3
     exact⟨rfl,l⟩
    ·have ad:Z (ql.map Int.ofNat)=Z ql:=aE
     have ar:∀i,i<Z ql ->AJ wr ⟨g,0+i,O⟩=I (E .u8 ((ql.map Int.ofNat).getD i 0)):=fun i F=>by
      rw[bK,av i F];simp[cK,ba F]
     have BW:=JO (P:=prog) wr 148 5 underlying148 underlying5 g 0 (Z ql) cap (ql.map Int.ofNat) ad ar 61 underlying61
     have ab:(strOfNums (ql.map Int.ofNat)).size<=140737488355328:=by
      rw[strOfNums_size,ad];omega
     clear ad S;have H:=aF (fun V=>po (strOfNums (ql.map Int.ofNat)) V ab);rw[B2] at H;clear B2 u B1 B9 av ar;go_wp2_with (go_at_call 119;refine(H.o _).af ?_;rintro e X ⟨rfl,s⟩;subst s)
     go_ret3
     exact⟨rfl,l⟩
theorem adm (a b:ByteArray) (w:wA) (c:a.size<=500000) (d:b.size<=500000) (h:N b≠0):
  c6 120 #[zX a,zX b] w (dj w (zz #[zX (B (N a/N b)),zX (B (N a % N b)),zd xq])):=by
 by_cases hs:(B (N a)).size<=7/\(B (N b)).size<=7
 ·exact aml a b w al al h hs.1 hs.2
 ·exact amm a b w c d h hs
theorem WY (m n:Nat) (w:wA) (a:(B m).size<=500000) (b:(B n).size<=500000) (h:n≠0):
  c6 120 #[zX (B m),zX (B n)] w (dj w (zz #[zX (B (m/n)),zX (B (m % n)),zd xq])):=by
 have:=adm (B m) (B n) w a b (by rw[cQ];exact h);rwa [cQ,cQ] at this
theorem ami (a b:ByteArray) (w:wA) (g:a.size<=500000) (i:b.size<=500000):
  c6 145 #[zX a,zX b] w (dj w (zX (B (Nat.gcd (N a) (N b))))):=by
 have t:=aF (po a w al);have L:=aF (po b w al);have s:=aO (kd a) g;have p:=aO (kd b) i;generalize hA':N a=A at *;generalize Gb:N b=D at *;clear hA' Gb g i;go_enter func145,ntmps145;go_wp2_with fail
 refine(t.o).af ?_;rintro e j ⟨rfl,f⟩;subst f;go_wp2_with fail
 refine(L.o).af ?_;rintro e j ⟨rfl,f⟩;subst f;clear t L;go_wp2;go_loopg [0,1] D (fun r vx vy wr=>∃m:Nat,vx=zX (B m)/\vy=zX (B r)/\(B m).size<=500000/\(B r).size<=500000/\we (Nat.gcd m r=Nat.gcd A D)/\da j wr)
 case atStart=>exact⟨A,rfl,rfl,s,p,rfl,aw _ _⟩
 case round=>
  obtain⟨m,rfl,rfl,n,d,H,c⟩:=hrel;by_cases h:gk=0
  ·subst h;rw[CL];(have B9:we (m=Nat.gcd A D):=by show _=_;rw[<- H.o,Nat.gcd_zero_right]);go_wp2;go_ret;exact⟨by rw[<- B9.o];rfl,c⟩
  ·have v:=EM h;have l:=aF (fun V=>WY m gk V n d h);have k:=jh m (mj h);have z:=aO (kO (AV k)) d;(have x:we (Nat.gcd gk (m % gk)=Nat.gcd A D):=by show _=_;rw[<- H.o,MK m gk,Nat.gcd_rec gk m,MK]);go_wp2_with fail
   refine(l.o _).af ?_;rintro e u ⟨rfl,q⟩;go_wp2;go_roundg (m % gk)
   case measure=>exact k
   case rel=>exact⟨gk,rfl,rfl,d,z,x.o,c.trans (q.af c.size)⟩
variable {neg:Bool} {den num:ByteArray}
def sg (neg:Bool) (n:Nat):Int:=if neg then -(n:Int) else(n:Int)
theorem RA (neg:Bool) (n:Nat):(sg neg n).natAbs=n:=by cases neg<;>simp[sg]
theorem acQ (neg:Bool):sg neg 0=0:=by cases neg<;>rfl
theorem alq (neg:Bool) (n:Nat):sg (!neg) n= -sg neg n:=by cases neg<;>simp[sg]
theorem alr (a b:Bool) (m n:Nat):sg (a !=b) (m*n)=sg a m*sg b n:=by cases a<;>cases b<;>simp[sg,Int.neg_mul,Int.mul_neg]
theorem acT (a:Bool) (m n:Nat):sg a m*(n:Int)=sg a (m*n):=by cases a<;>simp[sg,Int.neg_mul]
theorem als:sg neg n=0↔n=0:=by cases neg<;>simp[sg]
theorem alu (neg:Bool) (n g:Nat) (h:g∣n):sg neg n/(g:Int)=sg neg (n/g):=by
 cases neg
 ·simp[sg]
 ·simp only[sg,if_true];rw[Int.neg_ediv_of_dvd (Int.natCast_dvd_natCast.2 h)];simp
theorem Sv {n:Int} (h:d≠0):mkRat n d=Rat.normalize n d h:=by rw[mkRat,dif_neg h]
theorem ae4 {n:Int} (h:d≠0):(mkRat n d).num=n/(Nat.gcd n.natAbs d:Int):=by rw[Sv h,Rat.normalize_eq]
theorem aoW {n:Int} (h:d≠0):(mkRat n d).den=d/Nat.gcd n.natAbs d:=by rw[Sv h,Rat.normalize_eq]
theorem aoV (neg:Bool) (a d:Nat) (h:a≠0) (b:d≠0):decide ((mkRat (sg neg a) d).num<0)=neg/\(mkRat (sg neg a) d).num.natAbs=a/Nat.gcd a d/\(mkRat (sg neg a) d).den=d/Nat.gcd a d:=by
 have g:Nat.gcd a d∣a:=Nat.gcd_dvd_left _ _;have i:0<Nat.gcd a d:=Nat.gcd_pos_of_pos_left _ (mj h);rw[ae4 b,aoW b,RA,alu neg a _ g,RA];refine⟨?_,rfl,rfl⟩;have q:0<a/Nat.gcd a d:=Nat.div_pos (Nat.le_of_dvd (mj h) g) i;cases neg
 ·simp only[sg];simp;omega
 ·simp only[sg];simp;omega
def val (neg:Bool) (num den:ByteArray):Rat:=mkRat (sg neg (N num)) (N den)
theorem abY (h:N num=0):val neg num den=0:=by rw[val,h,acQ,MB]
theorem M4 (h:N den=0):val neg num den=0:=by rw[val,h,Rat.mkRat_zero]
theorem M3:val neg num den=0↔N num=0∨N den=0:=by
 constructor
 ·intro h;by_cases d:N den=0
  ·exact xS d
  ·rw[val,Rat.mkRat_eq_zero d,als] at h;exact yp h
 ·rintro(h |h)
  ·exact abY h
  ·exact M4 h
theorem ajZ (neg:Bool) (num den:ByteArray):val (!neg) num den= -val neg num den:=by rw[val,val,alq,Rat.neg_mkRat]
theorem val_mul (a b:Bool) (x y u v:ByteArray):mkRat (sg (a !=b) (N x*N u)) (N y*N v)=val a x y*val b u v:=by rw[val,val,Rat.mkRat_mul_mkRat,alr]
theorem val_add (a b:Bool) (x y u v:ByteArray) (c:N y≠0) (h:N v≠0):mkRat (sg a (N x*N v)+sg b (N u*N y)) (N y*N v)=val a x y+val b u v:=by
 rw[val,val,Rat.mkRat_add_mkRat _ _ c h,acT,acT]
theorem We (neg:Bool) (x y:ByteArray) (a:N x≠0) (b:N y≠0):val neg y x=(val neg x y)⁻¹:=by
 have h:val neg x y*val neg y x=1:=by
  rw[<- val_mul];have:sg (neg !=neg) (N x*N y)=((N x*N y:Nat):Int)*1:=by cases neg<;>simp[sg]
  rw[this,eN (N y) (N x), <- rU (N x*N y),ng (N x*N y) 1,Int.natCast_one,Int.mul_one,Rat.mkRat_mul_left (Hh a b)];rfl
 grind
def C (q:Rat):Value:=zp #[zd (decide (q.num<0)),zX (B q.num.natAbs),zX (B q.den)]
theorem Ha:C 0=zp #[zd x3,zX ⟨#[]⟩,zX (B 1)]:=by
 show Value.agg #[_,zX (B 0),zX (B 1)]=_;rw[CL];rfl
theorem aj0 (q:Rat):val (decide (q.num<0)) (B q.num.natAbs) (B q.den)=q:=by
 rw[val,cQ,cQ]
 have:sg (decide (q.num<0)) q.num.natAbs=q.num:=by
  by_cases h:q.num<0
  ·simp[sg,h];omega
  ·simp[sg,h];omega
 rw[this,Rat.mkRat_self]
theorem VD (neg:Bool) (a d:Nat) (e:a≠0) (f:d≠0):C (mkRat (sg neg a) d)=zp #[zd neg,zX (B (a/Nat.gcd a d)),zX (B (d/Nat.gcd a d))]:=by
 obtain⟨h,b,c⟩:=aoV neg a d e f;rw[C,h,b,c]
def qw (q:Rat):Nat:=(B q.num.natAbs).size+(B q.den).size
theorem Xa {n:Int} (b:d≠0):qw (Rat.normalize n d b)<=(B n.natAbs).size+(B d).size:=by
 rw[Rat.normalize_eq]
 have a:(n/(Nat.gcd n.natAbs d:Int)).natAbs<=n.natAbs:=by
  have g:((Nat.gcd n.natAbs d:Nat):Int)∣n:=by have h:=Int.natCast_dvd_natCast.2 (Nat.gcd_dvd_left n.natAbs d);rwa [Int.dvd_natAbs] at h
  rw[Int.natAbs_ediv_of_dvd g];exact AW _ _
 have s:=kO a;have c:=kO (AW d (Nat.gcd n.natAbs d));simp only[qw];omega
theorem Ky:qw 0<=1:=by
 show (B 0).size+(B 1).size<=1;rw[CL];have:=VE;have:(⟨#[]⟩:ByteArray).size=0:=rfl;omega
theorem Fh (neg:Bool) (num den:ByteArray):qw (val neg num den)<=num.size+den.size+1:=by
 by_cases d:N den=0
 ·rw[M4 d];have:=Ky;omega
 ·rw[val,Sv d];have:=Xa (n:=sg neg (N num)) d;rw[RA] at this;have:=kd num;have:=kd den;omega
theorem amr (p q:Rat):qw (p*q)<=qw p+qw q:=by
 rw[Rat.mul_def];refine aO (Xa _) ?_;rw[Int.natAbs_mul];have:=uo p.num.natAbs q.num.natAbs;have:=uo p.den q.den;simp only[qw];omega
def jS (p q:Rat):Int:=if p<q then -1 else if p=q then 0 else 1
theorem aoU (neg:Bool) (n d:Nat) (a:d≠0) (b:n≠0):(neg=xq ->mkRat (sg neg n) d<0)/\(neg=x3 ->0<mkRat (sg neg n) d):=by
 have p:∀m:Nat,m≠0 ->0<mkRat (m:Int) d:=fun m g=>by
  have c:0<=mkRat (m:Int) d:=by
   rw[<- Rat.num_nonneg,ae4 a];exact Int.ediv_nonneg al al
  have f:mkRat (m:Int) d≠0:=by rw[Ne,Rat.mkRat_eq_zero a];omega
  grind
 constructor
 ·rintro rfl;have h:=p n b;have e:mkRat (sg xq n) d= -mkRat (n:Int) d:=by rw[Rat.neg_mkRat];rfl
  rw[e];grind
 ·rintro rfl;exact p n b
variable {fn:Func}
theorem zE (a:ByteArray) (w:wA):
  c6 157 #[zX a] w fun e w'=>e=yk (zd (decide (N a=0)))/\w'=w:=by
 have c:(kF (N a) (N ⟨#[]⟩)==0)=decide (N a=0):=by
  rw[aiV,kF];by_cases h:N a=0
  ·simp[h]
  ·simp[h]
 have H:=aF c;clear c;go_enter func157,ntmps157;go_wp2_with fail
 refine(abr a ⟨#[]⟩ _).af ?_;rintro e d ⟨rfl,b⟩;subst b;go_wp2;go_ret;exact⟨by rw[<- H.o];rfl,rfl⟩
def aL (w:wA) (g:Nat) (neg:Bool) (num den:ByteArray):Prop:=w.heap[g]? =I (yd #[zd neg,zX num,zX den] 63 (0,0))
theorem aL.c0 (h:aL w g neg num den):AJ w ⟨g,0,O⟩=I (zd neg):=by rw[a8 w g 0 _ _ (0,0) h];rfl
theorem aL.c1 (h:aL w g neg num den):AJ w ⟨g,1,O⟩=I (zX num):=by rw[a8 w g 1 _ _ (0,0) h];rfl
theorem aL.c2 (h:aL w g neg num den):AJ w ⟨g,2,O⟩=I (zX den):=by rw[a8 w g 2 _ _ (0,0) h];rfl
theorem aL.fz (h:aL w g neg num den) (j:Nat):w.frozen? ⟨g,j,O⟩=false:=eA w g j _ _ h
theorem aL.lt (h:aL w g neg num den):g<w.heap.size:=(c5.1 h).1
theorem aL.of_block (h:aL w g neg num den) (e:w'.heap[g]? =w.heap[g]?):aL w' g neg num den:=e.trans h
theorem aL.aa {B:Nat} (h:aL w g neg num den) (b:Below B w w') (a:g<B):aL w' g neg num den:=h.of_block (b.block g a)
theorem aL.new (w:wA) (neg:Bool) (num den:ByteArray):aL (AC w (yd #[zd neg,zX num,zX den] 63)) w.heap.size neg num den:=by
 exact dU _ _
theorem aL.alloc (h:aL w g neg num den) (o:Obj):aL (w.alloc o) g neg num den:=h.of_block (uY w o g h.lt)
theorem aL.drew (h:aL w g neg num den):aL w.drew g neg num den:=h
theorem aL.facts (h:aL w g neg num den):AJ w ⟨g,0,O⟩=I (zd neg)/\w.cell? ⟨g,1,O⟩=I (zX num)/\w.cell? ⟨g,2,O⟩=I (zX den)/\w.frozen? ⟨g,0,O⟩=x3/\w.frozen? ⟨g,1,O⟩=x3/\w.frozen? ⟨g,2,O⟩=false:=
 ⟨h.c0,h.c1,h.c2,h.fz 0,h.fz 1,h.fz 2⟩
theorem aL.put (h:aL w g neg num den) (n:Bool) (x y:ByteArray):aL (AF (AF (AF w ⟨g,0,O⟩ (zd n)) ⟨g,1,O⟩ (zX x)) ⟨g,2,O⟩ (zX y)) g n x y:=by
 have a:=ke w g 0 _ _ (zd n) h;have b:=ke _ g 1 _ _ (zX x) a;have c:=ke _ g 2 _ _ (zX y) b;exact c
theorem aL.far (h:aL w g neg num den) (a:g≠g') (u:wQ):aL (AF w ⟨g',j,O⟩ u) g neg num den:=h.of_block (eO w _ u g a)
theorem eJ {B:Nat} {a:wA} (h:Below B a w) (b:B<=g) (u v x:wQ):Below B a (AF (AF (AF w ⟨g,0,O⟩ u) ⟨g,1,O⟩ v) ⟨g,2,O⟩ x):=
 ((h.setCell b u).setCell b v).setCell b x
theorem aL.result (h:aL w g neg num den) {p:Tmp} (r:fn.results= #[.cell p 63]) (m:Array wQ) (a:m.getD p wd=zZ (I ⟨g,0,O⟩)):
  (results fn m).run prog w=.ok (zp #[zd neg,zX num,zX den]) w:=
 EN r m w g _ _ _ _ a h underlying63 rfl ao
theorem XG (w:wA):
  c6 159 #[] w (dj w (C 0)):=by
 go_enter func159,ntmps159;have b:=aL.new w x3 ⟨#[]⟩ ⟨#[]⟩;have h:da w (AC w (yd #[zd x3,zX ⟨#[]⟩,zX ⟨#[]⟩] 63)):=(aw _ w).alloc (ak _) _;go_wp2_with fail
 refine(aiU 1 _ al al).af ?_;rintro e c ⟨rfl,a⟩;have d:da w c:=h.trans (a.af h.size);have x:=b.aa a b.lt;obtain⟨k,j,l,f,g,i⟩:=x.facts;clear b h;go_wp2;refine cN ((x.put _ _ _).result rfl _ rfl) rfl ?_;exact⟨by rw[Ha],eJ d (ak _) _ _ _⟩
abbrev FC (n:Bool) (x y:ByteArray):Obj:=yd #[zd n,zX x,zX y] 63
theorem aL.at (h:w.heap.size=g) (n:Bool) (x y:ByteArray):aL (w.alloc (FC n x y)) g n x y:=by
 subst h;exact aL.new w n x y
theorem anF (n:Bool) (x y:ByteArray) (w:wA):
  c6 156 #[zp #[zd n,zX x,zX y]] w (dj w (zp #[zd (!n),zX x,zX y])):=by
 go_enter func156,ntmps156;go_wp2;refine cN ((aL.at (w:=w.alloc (FC n x y)) (g:=w.heap.size+1) aE (!n) x y).result rfl _ rfl) rfl ?_;exact⟨rfl,((aw _ w).alloc (ak _) _).alloc aE _⟩
theorem ash (n:Bool) (x y:ByteArray) (w:wA) (h:N y=0):
  c6 209 #[zp #[zd n,zX x,zX y]] w (dj w (C 0)):=by
 have a:=fun V=>zE y V;simp only[h,decide_true] at a;have H:=aF a;clear a;go_enter func209,ntmps209;have b:=aL.at (w:=w.alloc (FC n x y)) (g:=w.heap.size+1) aE x3 ⟨#[]⟩ ⟨#[]⟩;have c:da w ((w.alloc (FC n x y)).alloc (FC x3 ⟨#[]⟩ ⟨#[]⟩)):=((aw _ w).alloc (ak _) _).alloc aE _;go_wp2_with fail
 refine(H.o _).af ?_;rintro e d ⟨rfl,j⟩;subst j;go_wp2_with fail
 refine(XG _).af ?_;rintro e d ⟨rfl,f⟩;have i:=b.aa f b.lt;have k:da w d:=c.trans (f.af c.size);obtain⟨q,r,s,l,m,p⟩:=i.facts;clear b c;rw[Ha];go_wp2;refine cN ((i.put _ _ _).result rfl _ rfl) rfl ?_;exact⟨by rw[Ha],eJ k al _ _ _⟩
theorem asf (n:Bool) (x y:ByteArray) (w:wA) (h:N y≠0):
  c6 209 #[zp #[zd n,zX x,zX y]] w (dj w (zp #[zd n,zX x,zX y])):=by
 have a:=fun V=>zE y V;simp only[h,decide_false] at a;have H:=aF a;clear a;go_enter func209,ntmps209;go_wp2_with fail
 refine(H.o _).af ?_;rintro e c ⟨rfl,b⟩;subst b;go_wp2;refine cN ((aL.at (w:=w.alloc (FC n x y)) (g:=w.heap.size+1) aE n x y).result rfl _ rfl) rfl ?_;exact⟨rfl,((aw _ w).alloc (ak _) _).alloc aE _⟩
theorem aue (n:Bool) (x y:ByteArray) (w:wA) (h:N x=0∨N y=0):
  c6 138 #[zd n,zX x,zX y] w (dj w (C 0)):=by
 have X:=fun V=>zE x V;have Y:=fun V=>zE y V;have H:=aF X;have i:=aF Y;clear X Y;go_enter func138,ntmps138;have t:=aL.at (w:=w) rfl x3 ⟨#[]⟩ ⟨#[]⟩;have d:da w (w.alloc (FC x3 ⟨#[]⟩ ⟨#[]⟩)):=(aw _ w).alloc (ak _) _;by_cases c:N x=0
 focus
  go_wp2_with fail
  refine(H.o _).af ?_;rintro e b ⟨rfl,a⟩;subst a;rw[cJ c]
 rotate_left
 focus
  have j:N y=0:=h.resolve_left c;go_wp2_with fail
  refine(H.o _).af ?_;rintro e b ⟨rfl,a⟩;subst a;rw[cT c];go_wp2_with fail
  refine(i.o _).af ?_;rintro e b ⟨rfl,a⟩;subst a;rw[cJ j]
 all_goals
  go_wp2_with fail
  refine(XG _).af ?_;rintro e b ⟨rfl,f⟩;have g:=t.aa f t.lt;have k:da w b:=d.trans (f.af d.size);obtain⟨q,r,s,l,m,p⟩:=g.facts;clear t d;rw[Ha];go_wp2;refine cN ((g.put _ _ _).result rfl _ rfl) rfl ?_;exact⟨by rw[Ha],eJ k al _ _ _⟩
theorem auf (n:Bool) (x y:ByteArray) (w:wA) (h0:N x≠0) (h1:N y≠0) (f:x.size<=1099511627776) (g:y.size<=1099511627776):
  c6 138 #[zd n,zX x,zX y] w (dj w (C (val n x y))):=by
 have X:=fun V=>zE x V;have Y:=fun V=>zE y V;have H:=aF X;have l:=aF Y;have i:Nat.gcd (N x) (N y)≠0:=fun h=>h0 (Nat.gcd_eq_zero_iff.1 h).1;have B2:=aO (kO (Nat.gcd_le_left (N y) (mj h0))) (kd x);clear X Y;go_enter func138,ntmps138;have t:=aL.at (w:=w) rfl x3 ⟨#[]⟩ ⟨#[]⟩;have d:da w (w.alloc (FC x3 ⟨#[]⟩ ⟨#[]⟩)):=(aw _ w).alloc (ak _) _;go_wp2_with fail
 refine(H.o _).af ?_;rintro e b ⟨rfl,c⟩;subst c;rw[cT h0];go_wp2_with fail
 refine(l.o _).af ?_;rintro e b ⟨rfl,c⟩;subst c;rw[cT h1];have a:=aw (w.alloc (FC x3 ⟨#[]⟩ ⟨#[]⟩)).heap.size (w.alloc (FC x3 ⟨#[]⟩ ⟨#[]⟩));go_wp2_with fail
 refine(auP (Nat.gcd (N x) (N y)) a rfl f g).af ?_;rintro e b ⟨rfl,a⟩;go_wp2_with fail
 refine(ajs (N x/Nat.gcd (N x) (N y)) 0 a (by rw[cQ]) (by rw[cQ];exact Nat.mod_eq_zero_of_dvd (Nat.gcd_dvd_left _ _)) (by rw[cQ];exact i) f al).af ?_;rintro e b ⟨rfl,a⟩;go_wp2_with fail
 refine(ajs (N y/Nat.gcd (N x) (N y)) 0 a (by rw[cQ]) (by rw[cQ];exact Nat.mod_eq_zero_of_dvd (Nat.gcd_dvd_right _ _)) (by rw[cQ];exact i) g al).af ?_;rintro e b ⟨rfl,j⟩;have k:=t.aa j t.lt;have m:da w b:=d.trans (j.af d.size);obtain⟨s,u,v,p,q,r⟩:=k.facts;clear t d;go_wp2;refine cN ((k.put _ _ _).result rfl _ rfl) rfl ?_;exact⟨by rw[val,VD n _ _ h0 h1],eJ m al _ _ _⟩
theorem UF (n:Bool) (x y:ByteArray) (w:wA) (a:x.size<=1099511627776) (b:y.size<=1099511627776):
  c6 138 #[zd n,zX x,zX y] w (dj w (C (val n x y))):=by
 by_cases h:N x=0∨N y=0
 ·have:=aue n x y w h;rwa [<- M3.2 h] at this
 ·exact auf n x y w (fun e=>h (yp e)) (fun e=>h (xS e)) a b
theorem ahQ (n:Bool) (x y:ByteArray) (c:x.size<=1099511627776) (d:y.size<=1099511627776):∃(b:Bool) (x' a:ByteArray),N a≠0/\val b x' a=val n x y/\x'.size<=1099511627776/\a.size<=1099511627776/\x'.size+a.size<=x.size+y.size+1/\∀V:wA,
  c6 209 #[zp #[zd n,zX x,zX y]] V (dj V (zp #[zd b,zX x',zX a])):=by
 have e:=VE;by_cases h:N y=0
 ·refine⟨x3,⟨#[]⟩,B 1,by rw[cQ];decide,?_,?_,?_,?_,fun V=>?_⟩
  ·rw[abY aiV,M4 h]
  ·show 0<=_;omega
  ·omega
  ·show 0+_<=_;omega
  ·have:=ash n x y V h;rwa [Ha] at this
 ·exact⟨n,x,y,h,rfl,c,d,al,fun V=>asf n x y V h⟩
theorem acU (a:Bool) (m n:Nat):sg a (m+n)=sg a m+sg a n:=by cases a<;>simp[sg,Int.neg_add]
theorem acS {a b:Bool} (h:¬a=b) (e:m=n+k):sg a k=sg a m+sg b n:=by
 cases a<;>cases b<;>simp[sg] at h⊢<;>omega
theorem acR {a b:Bool} (h:¬a=b) (e:n=m+k):sg b k=sg a m+sg b n:=by
 cases a<;>cases b<;>simp[sg] at h⊢<;>omega
theorem aew {n:Bool} {x y:ByteArray} (h1:aL w' g n x y) (h:da w w'):AJ w' ⟨g,0,O⟩=I (zd n)/\we (aL w' g n x y/\da w w'):=
 ⟨h1.c0,h1,h⟩
theorem Wm {h:Nat} {n m:Bool} {x y u v:ByteArray} (h1:aL w' g n x y) (a:aL w' h m u v) (b:da w w'):(AJ w' ⟨g,1,O⟩=I (zX x)/\w'.cell? ⟨g,2,O⟩=I (zX y)/\w'.cell? ⟨h,1,O⟩=I (zX u)/\w'.cell? ⟨h,2,O⟩=I (zX v))/\we (aL w' g n x y/\aL w' h m u v/\da w w'):=
 ⟨⟨h1.c1,h1.c2,a.c1,a.c2⟩,h1,a,b⟩
theorem ab6 (R nb:Bool) (L B2 M yb:ByteArray) (w:wA) (Di:L.size<=137438953472) (Dh:B2.size<=137438953472) (ax:M.size<=137438953472) (ay:yb.size<=137438953472):
  c6 155 #[zp #[zd R,zX L,zX B2],zp #[zd nb,zX M,zX yb]] w fun e w'=>
   ∃(n:Bool) (x d:Nat),e=yk (zz #[zd n,zX (B x),zX (B d)])/\d≠0/\mkRat (sg n x) d=val R L B2+val nb M yb/\(B x).size<=1099511627776/\(B d).size<=1099511627776/\da w w':=by
 obtain⟨z,F,j,q,yu,a1,ao,aR,HA⟩:=ahQ R L B2 al al;obtain⟨c,k,i,p,nD,a6,aq,aW,HB⟩:=ahQ nb M yb al al;have q8:=aF HA;have aZ:=aF HB;clear HA HB;go_enter func155,ntmps155;have Y:=((aL.at (w:=w) rfl R L B2).alloc (FC nb M yb)).drew;have K:=(aL.at (w:=w.alloc (FC R L B2)) (g:=w.heap.size+1) aE nb M yb).drew;have aj:da w ((w.alloc (FC R L B2)).alloc (FC nb M yb)).drew:=(((aw _ w).alloc (ak _) _).alloc aE _).drew;go_upto_region 1 with fail
 go_cut [] from 11 to 14 (fun wx=>aL wx w.heap.size z F j/\aL wx (w.heap.size+1) c k i/\da w wx)
 case first=>
  go_region_with (first
   |(have zY:=V;go_at_call 209;refine(aZ.o _).af ?_;rintro e w2 ⟨rfl,Q⟩;have B1:=aL.aa zY Q zY.lt;have X:=aL.aa B9 Q B9.lt;have ab:=T.trans (Q.af T.size);obtain⟨H,B7,B6,f,h,l⟩:=B1.facts;obtain⟨y,A,D,t,u,v⟩:=X.facts)
   |(go_at_call 209;refine(q8.o _).af ?_;rintro e w1 ⟨rfl,P⟩;have V:=aL.aa Y P Y.lt;have B9:=aL.aa K P K.lt;have T:=aj.trans (P.af aj.size);obtain⟨H,B7,B6,f,h,l⟩:=V.facts;obtain⟨y,A,D,t,u,v⟩:=B9.facts))
  all_goals go_wp2_with fail
  all_goals go_meet
  all_goals exact⟨((((B1.put _ _ _).far al _).far al _).far al _),(((X.far al _).far al _).far al _).put _ _ _,eJ (eJ ab (ak _) _ _ _) al _ _ _⟩
 case rest=>
  obtain⟨Y,K,s⟩:=hcut;obtain⟨H,B7,B6,f,h,l⟩:=Y.facts;obtain⟨y,A,D,t,u,v⟩:=K.facts;clear q8 aZ;have az:=uo (N F) (N i);have aJ:=uo (N k) (N j);have aM:=uo (N j) (N i);have b1:=kd F;have b2:=kd j;have b3:=kd k;have b4:=kd i;go_upto_region 2 with fail
  go_cut [7,8] from 15 to 24 (fun s7 s8 wx=>s7=zX (B (N F*N i))/\s8=zX (B (N k*N j))/\aL wx w.heap.size z F j/\aL wx (w.heap.size+1) c k i/\da w wx)
  case first=>
   clear yu nD q p aR aW b1 b2 b3 b4 az aJ aM H B7 B6 f h l y A D t u v Di Dh ax ay
   go_region_held3 (fun w'=>(AJ w' ⟨w.heap.size,1,O⟩=I (zX F)/\w'.cell? ⟨w.heap.size,2,O⟩=I (zX j)/\w'.cell? ⟨w.heap.size+1,1,O⟩=I (zX k)/\w'.cell? ⟨w.heap.size+1,2,O⟩=I (zX i))/\we (aL w' w.heap.size z F j/\aL w' (w.heap.size+1) c k i/\da w w'))
    (first |exact Wm B1 X ab |exact Wm V B9 T |exact Wm Y.drew K.drew s.drew)
    (first
     |(have zY:=V;go_at_call 158;refine(PT k j _ a6 ao).af ?_;rintro e w2 ⟨rfl,Q⟩;have B1:=zY.aa Q zY.lt;have X:=B9.aa Q B9.lt;have ab:=T.trans (Q.af T.size))
     |(go_at_call 158;refine(PT F i _ a1 aq).af ?_;rintro e w1 ⟨rfl,P⟩;have V:=Y.drew.aa P Y.lt;have B9:=K.drew.aa P K.lt;have T:=s.drew.trans (P.af s.size)))
   go_wp2_with fail
   go_meet
   exact⟨rfl,rfl,B1,X,ab⟩
  case rest=>
   obtain⟨rfl,rfl,Y,K,s⟩:=hcut;obtain⟨H,B7,B6,f,h,l⟩:=Y.facts;obtain⟨y,A,D,t,u,v⟩:=K.facts;go_wp2_with fail
   refine(PT j i _ ao aq).af ?_;rintro e w3 ⟨rfl,ad⟩;have S:=Y.aa ad Y.lt;have vJ:=K.aa ad K.lt;have a:=s.trans (ad.af s.size);clear Y K s H B7 B6 f h l y A D t u v ad;obtain⟨H,B7,B6,f,h,l⟩:=S.facts;obtain⟨y,A,D,t,u,v⟩:=vJ.facts;(have sl:(B (N F*N i)).size<=1099511627776:=al);(have sr:(B (N k*N j)).size<=1099511627776:=al);(have sd:(B (N j*N i)).size<=1099511627776:=al);have sa:=ach (N F*N i) (N k*N j);have sm:=kO (Nat.sub_le (N F*N i) (N k*N j));have sn:=kO (Nat.sub_le (N k*N j) (N F*N i));by_cases U:z=c
   ·subst U;go_upto_region 5 with fail
    go_region_held3 (fun w'=>AJ w' ⟨w.heap.size,0,O⟩=I (zd z)/\we (aL w' w.heap.size z F j/\da w w'))
     (first |exact aew Zo r |exact aew S.drew a.drew)
     (first
      |(go_at_call 141;refine(auV _ _ _ sl sr).af ?_;rintro e w4 ⟨rfl,b⟩;have Zo:=S.drew.aa b S.lt;have r:=a.drew.trans (b.af a.size)))
    go_wp2;go_ret3
    refine⟨z,N F*N i+N k*N j,N j*N i,by rw[cQ,cQ];rfl,Hh q p,?_,al,al,r⟩;rw[<- yu, <- nD,acU,val_add _ _ _ _ _ _ q p]
   ·have ai:=aw w3.heap.size w3;(have fW:(z==c)=false:=by simp[U]);have iX:decide (z=c)=false:=cT U;by_cases bb:N k*N j<=N F*N i
    ·go_wp2_with fail
     refine(aiR (N F*N i - N k*N j) ai (by rw[cQ,cQ];omega) sl sr).af ?_;rintro e w4 ⟨rfl,b⟩;have Zo:=S.aa b S.lt;have r:=a.trans (b.af a.size);obtain⟨H,B7,B6,f,h,l⟩:=Zo.facts;go_wp2;go_ret3
     refine⟨z,N F*N i - N k*N j,N j*N i,rfl,Hh q p,?_,al,al,r⟩;rw[<- yu, <- nD,acS U (m:=N F*N i) (n:=N k*N j) al,val_add _ _ _ _ _ _ q p]
    ·go_wp2_with fail
     refine(at6 ai (by rw[cQ,cQ];omega)).af ?_;rintro e w4 ⟨rfl,b⟩;have ae:=vJ.aa b vJ.lt;have r:=a.trans (b.af a.size);have av:=aw w4.heap.size w4;go_wp2_with fail
     refine(aiR (N k*N j - N F*N i) av (by rw[cQ,cQ];omega) sr sl).af ?_;rintro e w5 ⟨rfl,an⟩;have ar:=ae.aa an ae.lt;have Ak:=r.trans (an.af r.size);obtain⟨y,A,D,t,u,v⟩:=ar.facts;go_wp2;go_ret3
     refine⟨c,N k*N j - N F*N i,N j*N i,rfl,Hh q p,?_,al,al,Ak⟩;rw[<- yu, <- nD,acR U (m:=N F*N i) (n:=N k*N j) al,val_add _ _ _ _ _ _ q p]
def aV (q:Rat):Bool:=decide (q.num<0)
def nu (q:Rat):ByteArray:=B q.num.natAbs
def de (q:Rat):ByteArray:=B q.den
theorem qf (q:Rat):C q=zp #[zd (aV q),zX (nu q),zX (de q)]:=rfl
theorem kN (q:Rat):val (aV q) (nu q) (de q)=q:=aj0 q
theorem wS (q:Rat):(nu q).size+(de q).size=qw q:=rfl
theorem auT (n:Bool) (x y:ByteArray) (w:wA) (d:x.size<=1099511627776) (f:y.size<=1099511627776):
  c6 86 #[zp #[zd n,zX x,zX y]] w (dj w (C (val n x y))):=by
 go_enter func86,ntmps86;have b:=aL.at (w:=w.alloc (FC n x y)) (g:=w.heap.size+1) aE x3 ⟨#[]⟩ ⟨#[]⟩;have h:da w ((w.alloc (FC n x y)).alloc (FC x3 ⟨#[]⟩ ⟨#[]⟩)):=((aw _ w).alloc (ak _) _).alloc aE _;go_wp2_with fail
 refine(UF n x y _ d f).af ?_;rintro e i ⟨rfl,a⟩;have c:=b.aa a b.lt;have j:da w i:=h.trans (a.af h.size);obtain⟨o,p,q,k,l,m⟩:=c.facts;clear b h;rw[qf];go_wp2;refine cN ((c.put _ _ _).result rfl _ rfl) rfl ?_;exact⟨rfl,eJ j al _ _ _⟩
theorem ahB (c nb:Bool) (a y b yb:ByteArray) (w:wA) (m:a.size<=137438953472) (D:y.size<=137438953472) (z:b.size<=137438953472) (A:yb.size<=137438953472):
  c6 160 #[zp #[zd c,zX a,zX y],zp #[zd nb,zX b,zX yb]] w (dj w (C (val c a y+val nb b yb))):=by
 go_enter func160,ntmps160;have t:=aL.at (w:=(w.alloc (FC c a y)).alloc (FC nb b yb)) (g:=w.heap.size+2) aE x3 ⟨#[]⟩ ⟨#[]⟩;have h:da w (((w.alloc (FC c a y)).alloc (FC nb b yb)).alloc (FC x3 ⟨#[]⟩ ⟨#[]⟩)):=(((aw _ w).alloc (ak _) _).alloc aE _).alloc (by simp;omega) _;go_wp2_with fail
 refine(ab6 c nb a y b yb _ m D z A).af ?_;rintro e p ⟨n,x,d,rfl,B7,v,o,s,j⟩;have i:=t.aa j t.lt;have f:da w p:=h.trans (j.af h.size);clear t h;go_wp2_with fail
 refine(UF n (B x) (B d) _ o s).af ?_;rintro e r ⟨rfl,k⟩;have l:=i.aa k i.lt;have u:da w r:=f.trans (k.af f.size);have q:val n (B x) (B d)=val c a y+val nb b yb:=by rw[<- v,val,cQ,cQ]
 rw[q];clear i f q v;obtain⟨B6,K,L,B9,F,H⟩:=l.facts;rw[qf];go_wp2;refine cN ((l.put _ _ _).result rfl _ rfl) rfl ?_;exact⟨rfl,eJ u al _ _ _⟩
theorem aL.far3 (h:aL w g neg num den) (a:g≠g') (u v x:wQ):aL (AF (AF (AF w ⟨g',0,O⟩ u) ⟨g',1,O⟩ v) ⟨g',2,O⟩ x) g neg num den:=
 ((h.far a u).far a v).far a x
theorem Ff {h:Nat} {n m:Bool} {x y u v:ByteArray} (h1:aL w' g n x y) (a:aL w' h m u v) (b:da w w'):(AJ w' ⟨g,0,O⟩=I (zd n)/\w'.cell? ⟨g,1,O⟩=I (zX x)/\w'.cell? ⟨g,2,O⟩=I (zX y)/\w'.cell? ⟨h,0,O⟩=I (zd m)/\w'.cell? ⟨h,1,O⟩=I (zX u)/\w'.cell? ⟨h,2,O⟩=I (zX v))/\we (aL w' g n x y/\aL w' h m u v/\da w w'):=
 ⟨⟨h1.c0,h1.c1,h1.c2,a.c0,a.c1,a.c2⟩,h1,a,b⟩
theorem ahy (n nb:Bool) (a y b yb:ByteArray) (w:wA) (x:a.size<=137438953472) (D:y.size<=137438953472) (L:b.size<=137438953472) (M:yb.size<=137438953472):
  c6 104 #[zp #[zd n,zX a,zX y],zp #[zd nb,zX b,zX yb]] w (dj w (C (val n a y*val nb b yb))):=by
 have A:(B (N a*N b)).size<=1099511627776:=by have:=uo (N a) (N b);have:=kd a;have:=kd b;omega
 have B9:(B (N y*N yb)).size<=1099511627776:=by have:=uo (N y) (N yb);have:=kd y;have:=kd yb;omega
 have q:val (n !=nb) (B (N a*N b)) (B (N y*N yb))=val n a y*val nb b yb:=by rw[<- val_mul,val,cQ,cQ]
 have H:=aF q;clear q;have B7:a.size<=1099511627776:=al
 have T:y.size<=1099511627776:=al
 have V:b.size<=1099511627776:=al
 have S:yb.size<=1099511627776:=al
 clear x D L M;go_enter func104,ntmps104;have Y:=(((aL.at (w:=w) rfl n a y).alloc (FC nb b yb)).alloc (FC x3 ⟨#[]⟩ ⟨#[]⟩)).drew;have K:=((aL.at (w:=w.alloc (FC n a y)) (g:=w.heap.size+1) aE nb b yb).alloc (FC x3 ⟨#[]⟩ ⟨#[]⟩)).drew;have u:=(aL.at (w:=(w.alloc (FC n a y)).alloc (FC nb b yb)) (g:=w.heap.size+2) aE x3 ⟨#[]⟩ ⟨#[]⟩).drew;have f:da w (((w.alloc (FC n a y)).alloc (FC nb b yb)).alloc (FC x3 ⟨#[]⟩ ⟨#[]⟩)).drew:=((((aw _ w).alloc (ak _) _).alloc aE _).alloc (by simp;omega) _).drew;go_upto_region 1 with fail
 go_region_held3 (fun w'=>(AJ w' ⟨w.heap.size,0,O⟩=I (zd n)/\w'.cell? ⟨w.heap.size,1,O⟩=I (zX a)/\w'.cell? ⟨w.heap.size,2,O⟩=I (zX y)/\w'.cell? ⟨w.heap.size+1,0,O⟩=I (zd nb)/\w'.cell? ⟨w.heap.size+1,1,O⟩=I (zX b)/\w'.cell? ⟨w.heap.size+1,2,O⟩=I (zX yb))/\we (aL w' w.heap.size n a y/\aL w' (w.heap.size+1) nb b yb/\da w w'))
  (first
   |exact Ff (s.far3 al _ _ _) (v.far3 al _ _ _) (eJ i al _ _ _)
   |exact Ff s v i |exact Ff B6 B2 l |exact Ff m j k |exact Ff Y K f)
  (first
   |(have t:=B6;go_at_call 138;refine(UF _ _ _ _ A B9).af ?_;rintro e w3 ⟨rfl,d⟩;have s:=t.aa d t.lt;have v:=B2.aa d B2.lt;have z:=F.aa d F.lt;have i:=l.trans (d.af l.size);obtain⟨U,X,B1,P,Q,R⟩:=z.facts;rw[qf])
   |(have r:=m;go_at_call 158;refine(PT y yb _ T S).af ?_;rintro e w2 ⟨rfl,c⟩;have B6:=r.aa c r.lt;have B2:=j.aa c j.lt;have F:=p.aa c p.lt;have l:=k.trans (c.af k.size))
   |(go_at_call 158;refine(PT a b _ B7 V).af ?_;rintro e w1 ⟨rfl,h⟩;have m:=Y.aa h Y.lt;have j:=K.aa h K.lt;have p:=u.aa h u.lt;have k:=f.trans (h.af f.size)))
 go_wp2;refine cN ((z.put _ _ _).result rfl _ rfl) rfl ?_;exact⟨by rw[<- H.o];rfl,eJ i al _ _ _⟩
variable {p:Rat}
theorem aL.result2 (h:aL w g neg num den) {p u:Tmp} (r:fn.results= #[.cell p 63,.tmp u]) (m:Array wQ) (a:m.getD p wd=zZ (I ⟨g,0,O⟩)):
  (results fn m).run prog w=.ok (zz #[zp #[zd neg,zX num,zX den],m.getD u wd]) w:=by
 rw[results_cell_tmp r,a];simp only[asAddr,zi,wG];rw[run_loadVar_row w g _ 63 _ _ _ h underlying63 rfl ao];simp only[wG]
theorem asM {q:Rat} {n:Bool} {x:Nat} (e:d≠0) (h:mkRat (sg n x) d=p - q):jS p q=if x=0 then 0 else if n=xq then -1 else 1:=by
 by_cases a:x=0
 ·rw[aA a];rw[a,acQ,MB] at h;have:p=q:=by grind
  subst this;rw[jS,aD (by grind),aA rfl]
 ·rw[aD a];obtain⟨b,c⟩:=aoU n x d e a;cases n
  ·have:=c rfl;rw[h] at this;rw[aD a6,jS,aD (by grind),aD (by grind)]
  ·have:=b rfl;rw[h] at this;rw[aA rfl,jS,aA (by grind)]
theorem arX (c nb:Bool) (a y b yb:ByteArray) (w:wA) (s:a.size<=137438953472) (D:y.size<=137438953472) (B9:b.size<=137438953472) (B7:yb.size<=137438953472):
  c6 102 #[zp #[zd c,zX a,zX y],zp #[zd nb,zX b,zX yb]] w (dj w (E yR (jS (val c a y) (val nb b yb)))):=by
 have r:val c a y+val (!nb) b yb=val c a y - val nb b yb:=by rw[ajZ,Rat.sub_eq_add_neg]
 have Q:=aF r;clear r;go_enter func102,ntmps102;have Y:=((aL.at (w:=w) rfl c a y).alloc (FC nb b yb)).drew;have i:=(aL.at (w:=w.alloc (FC c a y)) (g:=w.heap.size+1) aE nb b yb).drew;have k:da w ((w.alloc (FC c a y)).alloc (FC nb b yb)).drew:=(((aw _ w).alloc (ak _) _).alloc aE _).drew;go_upto_region 1 with fail
 go_region_held3 (fun w'=>(AJ w' ⟨w.heap.size,0,O⟩=I (zd c)/\w'.cell? ⟨w.heap.size,1,O⟩=I (zX a)/\w'.cell? ⟨w.heap.size,2,O⟩=I (zX y)/\w'.cell? ⟨w.heap.size+1,0,O⟩=I (zd nb)/\w'.cell? ⟨w.heap.size+1,1,O⟩=I (zX b)/\w'.cell? ⟨w.heap.size+1,2,O⟩=I (zX yb))/\we (aL w' w.heap.size c a y/\aL w' (w.heap.size+1) nb b yb/\da w w'))
  (first
   |exact Ff A B2 f |exact Ff B6 F l |exact Ff Y i k)
  (first
   |(have z:=B6;go_at_call 155;refine(ab6 c (!nb) a y b yb _ s D B9 B7).af ?_;rintro e P ⟨n,x,d,rfl,t,v,L,K,p⟩;have A:=z.aa p z.lt;have B2:=F.aa p F.lt;have f:=l.trans (p.af l.size);have j:=aF (asM t (v.trans Q.o));clear v)
   |(go_at_call 156;refine(anF nb b yb _).af ?_;rintro e M ⟨rfl,m⟩;have B6:=Y.aa m Y.lt;have F:=i.aa m i.lt;have l:=k.trans (m.af k.size)))
 have q:∀V:wA,c6 157 #[zX (B x)] V fun e w'=>e=yk (zd (decide (x=0)))/\w'=V:=fun V=>by
  have:=zE (B x) V;rwa [cQ] at this
 have H:=aF q;clear q;go_wp2_with fail
 refine(H.o _).af ?_;rintro e R ⟨rfl,u⟩;subst u;by_cases h:x=0
 ·rw[cJ h];go_wp2;go_ret;exact⟨by rw[j.o,aA h];rfl,f⟩
 ·rw[cT h];cases n
  ·go_wp2;go_ret;exact⟨by rw[j.o,aD h];rfl,f⟩
  ·go_wp2;go_ret;exact⟨by rw[j.o,aD h];rfl,f⟩
theorem arW (n nb:Bool) (x y b yb:ByteArray) (w:wA) (h:N b=0∨N yb=0):
  c6 103 #[zp #[zd n,zX x,zX y],zp #[zd nb,zX b,zX yb]] w (dj w (zz #[zp #[zd x3,zX ⟨#[]⟩,zX ⟨#[]⟩],E yR 3])):=by
 have X:=fun V=>zE b V;have Y:=fun V=>zE yb V;have H:=aF X;have i:=aF Y;clear X Y;go_enter func103,ntmps103;have r:=aL.at (w:=(w.alloc (FC n x y)).alloc (FC nb b yb)) (g:=w.heap.size+2) aE x3 ⟨#[]⟩ ⟨#[]⟩;have f:da w (((w.alloc (FC n x y)).alloc (FC nb b yb)).alloc (FC x3 ⟨#[]⟩ ⟨#[]⟩)):=(((aw _ w).alloc (ak _) _).alloc aE _).alloc (by simp;omega) _;by_cases c:N b=0
 ·go_wp2_with fail
  refine(H.o _).af ?_;rintro e d ⟨rfl,a⟩;subst a;rw[cJ c];go_wp2;refine cN (r.result2 rfl _ rfl) rfl ?_;exact⟨rfl,f⟩
 ·have j:N yb=0:=h.resolve_left c;go_wp2_with fail
  refine(H.o _).af ?_;rintro e d ⟨rfl,a⟩;subst a;rw[cT c];go_wp2_with fail
  refine(i.o _).af ?_;rintro e d ⟨rfl,a⟩;subst a;rw[cJ j];go_wp2;refine cN (r.result2 rfl _ rfl) rfl ?_;exact⟨rfl,f⟩
theorem arV (n nb:Bool) (a y b yb:ByteArray) (w:wA) (h0:N b≠0) (h1:N yb≠0) (i:a.size<=137438953472) (D:y.size<=137438953472) (l:b.size<=137438953472) (m:yb.size<=137438953472):
  c6 103 #[zp #[zd n,zX a,zX y],zp #[zd nb,zX b,zX yb]] w (dj w (zz #[C (val n a y/val nb b yb),E yR 0])):=by
 have X:=fun V=>zE b V;have Y:=fun V=>zE yb V;have H:=aF X;have j:=aF Y;clear X Y;have q:val n a y*val nb yb b=val n a y/val nb b yb:=by rw[We nb b yb h0 h1,k9]
 go_enter func103,ntmps103;have r:=aL.at (w:=(w.alloc (FC n a y)).alloc (FC nb b yb)) (g:=w.heap.size+2) aE x3 ⟨#[]⟩ ⟨#[]⟩;have d:da w (((w.alloc (FC n a y)).alloc (FC nb b yb)).alloc (FC x3 ⟨#[]⟩ ⟨#[]⟩)):=(((aw _ w).alloc (ak _) _).alloc aE _).alloc (by simp;omega) _;go_wp2_with fail
 refine(H.o _).af ?_;rintro e c ⟨rfl,h⟩;subst h;rw[cT h0];go_wp2_with fail
 refine(j.o _).af ?_;rintro e c ⟨rfl,h⟩;subst h;rw[cT h1];go_wp2_with fail
 refine(ahy n nb a y yb b _ i D m l).af ?_;rintro e c ⟨rfl,f⟩;rw[q];have x:=r.aa f r.lt;have k:da w c:=d.trans (f.af d.size);obtain⟨u,v,z,p,s,t⟩:=x.facts;clear r d;rw[qf];go_wp2;refine cN ((x.put _ _ _).result2 rfl _ rfl) rfl ?_;exact⟨rfl,eJ k al _ _ _⟩
theorem arU (n:Nat) (w:wA) (h:n<=9223372036854775807):
  c6 88 #[E yR (n:Int)] w (dj w (C (n:Rat))):=by
 have q:val x3 (B n) (B 1)=(n:Rat):=by
  rw[val,cQ,cQ];show mkRat (n:Int) 1=_;rw[Rat.mkRat_one];rfl
 have p:=VE
 have s:(B n).size<=1099511627776:=by
  have:=sQ 8 n (by show n<18446744073709551616;omega);rw[<- nZ n] at this;omega
 go_enter func88,ntmps88;have r:=aL.at (w:=w) rfl x3 ⟨#[]⟩ ⟨#[]⟩;have b:da w (w.alloc (FC x3 ⟨#[]⟩ ⟨#[]⟩)):=(aw _ w).alloc (ak _) _;have a:=aw (w.alloc (FC x3 ⟨#[]⟩ ⟨#[]⟩)).heap.size (w.alloc (FC x3 ⟨#[]⟩ ⟨#[]⟩));go_wp2_with fail
 refine(aiT n a rfl al).af ?_;rintro e d ⟨rfl,a⟩;go_wp2_with fail
 refine(aiT 1 a rfl al).af ?_;rintro e d ⟨rfl,a⟩;go_wp2_with fail
 refine(UF x3 (B n) (B 1) _ s al).af ?_;rintro e f ⟨rfl,c⟩;rw[q];have x:=(r.aa a r.lt).aa c (r.aa a r.lt).lt;have g:da w f:=(b.trans (a.af b.size)).trans (c.af (b.trans (a.af b.size)).size);obtain⟨l,m,o,i,j,k⟩:=x.facts;clear r b a;rw[qf];go_wp2;refine cN ((x.put _ _ _).result rfl _ rfl) rfl ?_;exact⟨rfl,eJ g al _ _ _⟩
theorem below_drewN {B:Nat} {a b:wA} (h:Below B a b) (k:Nat):Below B a (b.drewN k):=⟨h.os,h.tape,h.output,h.size,h.block⟩
theorem arY {n m:Bool} {x y u v:ByteArray} {q:Rat} (r:Rat) (a:val n x y=p) (b:val m u v=q) (h:p+q=r) (s:x.size+y.size<=100000) (c:u.size+v.size<=100000):
  c6 160 #[zp #[zd n,zX x,zX y],zp #[zd m,zX u,zX v]] w (dj w (zp #[zd (aV r),zX (nu r),zX (de r)])):=by
 subst a b h;exact ahB n m x y u v w al al al al
theorem aak {n m:Bool} {x y u v:ByteArray} {q:Rat} (r:Rat) (a:val n x y=p) (b:val m u v=q) (h:p*q=r) (s:x.size+y.size<=100000) (c:u.size+v.size<=100000):
  c6 104 #[zp #[zd n,zX x,zX y],zp #[zd m,zX u,zX v]] w (dj w (zp #[zd (aV r),zX (nu r),zX (de r)])):=by
 subst a b h;exact ahy n m x y u v w al al al al
theorem Uc {n m:Bool} {x y u v:ByteArray} {q:Rat} (k:Int) (a:val n x y=p) (b:val m u v=q) (h:jS p q=k) (s:x.size+y.size<=100000) (c:u.size+v.size<=100000):
  c6 102 #[zp #[zd n,zX x,zX y],zp #[zd m,zX u,zX v]] w (dj w (E yR k)):=by
 subst a b h;exact arX n m x y u v w al al al al
theorem VB {n:Bool} {x y:ByteArray} (r:Rat) (h:val n x y=r) (s:x.size+y.size<=100000):
  c6 86 #[zp #[zd n,zX x,zX y]] w (dj w (zp #[zd (aV r),zX (nu r),zX (de r)])):=by
 subst h;exact auT n x y w al al
theorem Gh {k:Int} (r:Rat) (n:Nat) (a:k=(n:Int)) (b:n<=1) (h:(n:Rat)=r):
  c6 88 #[E yR k] w (dj w (zp #[zd (aV r),zX (nu r),zX (de r)])):=by
 subst h a;exact arU n w al
theorem ahz {n m:Bool} {x y u v:ByteArray} (h:val m u v=0):
  c6 103 #[zp #[zd n,zX x,zX y],zp #[zd m,zX u,zX v]] w fun e w'=>e=yk (zz #[zp #[zd x3,zX ⟨#[]⟩,zX ⟨#[]⟩],E yR 3])/\da w w':=
 arW n m x y u v w (M3.1 h)
theorem ahA {n m:Bool} {x y u v:ByteArray} {q:Rat} (r:Rat) (a:val n x y=p) (b:val m u v=q) (h0:q≠0) (h:p/q=r) (s:x.size+y.size<=100000) (c:u.size+v.size<=100000):
  c6 103 #[zp #[zd n,zX x,zX y],zp #[zd m,zX u,zX v]] w (dj w (zz #[zp #[zd (aV r),zX (nu r),zX (de r)],E yR 0])):=by
 subst a b h;have z:=fun h=>h0 (M3.2 h);exact arV n m x y u v w (fun h=>z (yp h)) (fun h=>z (xS h)) al al al al
theorem QH:B 1=⟨#[1]⟩:=by
 rw[B,sP 1 a6,show 1/256=0 from rfl,sO];rfl
theorem an6 (h:¬n=1):((B n).toList==[1])=false:=Hd.2 fun e=>h (aju (by
 rw[QH];rw[Lib.toList_data] at e;exact Q9 (Ra.1 e)))
theorem amf (n:Bool) (x y:ByteArray) (w:wA) (h:N x=0∨N y=0) (f:x.size<=500000) (g:y.size<=500000):
  c6 90 #[zd n,zX x,zX y] w (dj w (C 0)):=by
 have H:=aF (fun V=>po x V al);have Y:=aF (fun V=>po y V al);go_enter func90,ntmps90;by_cases a:N x=0
 focus
  rw[a,CL] at H
 rotate_left
 focus
  have c:N y=0:=h.resolve_left a;have i:=EM a;rw[c,CL] at Y
 all_goals
  go_wp2_with fail
  refine(H.o _).af ?_;rintro e d ⟨rfl,b⟩;subst b;go_wp2_with fail
  refine(Y.o _).af ?_;rintro e d ⟨rfl,b⟩;subst b;go_wp2;refine cN ((aL.at (w:=w) rfl x3 ⟨#[]⟩ ⟨#[1]⟩).result rfl _ rfl) rfl ?_;exact⟨by rw[Ha,QH],(aw _ w).alloc (ak _) _⟩
theorem amg (n:Bool) (x y:ByteArray) (w:wA) (h0:N x≠0) (h1:N y≠0) (K:x.size<=500000) (L:y.size<=500000):
  c6 90 #[zd n,zX x,zX y] w (dj w (C (val n x y))):=by
 have m:=aF (fun V=>po x V al);have p:=aF (fun V=>po y V al);have H:=aF (VD n _ _ h0 h1);have s:=aO (kd x) K;have r:=aO (kd y) L;have c:=aF (fun V=>ami (B (N x)) (B (N y)) V s r);rw[cQ,cQ] at c;have B2:=aO (kO (Nat.gcd_le_left (N y) (mj h0))) s;have i:Nat.gcd (N x) (N y)≠0:=fun h=>h0 (Nat.gcd_eq_zero_iff.1 h).1;have T:=aF (fun V=>WY (N x) _ V s B2 i);have D:=aF (fun V=>WY (N y) _ V r B2 i);have ab:=EM h0;have U:=EM h1;rw[val];clear h0 h1 i;generalize mkRat (sg n (N x)) (N y)=q at *;generalize N x=X at *;generalize N y=Y at *;generalize Nat.gcd X Y=g at *;go_enter func90,ntmps90;have b:=aL.at (w:=w) rfl x3 ⟨#[]⟩ ⟨#[]⟩;have j:da w (w.alloc (FC x3 ⟨#[]⟩ ⟨#[]⟩)):=(aw _ w).alloc (ak _) _;go_wp2_with fail
 refine(m.o _).af ?_;rintro e f ⟨rfl,d⟩;subst d;go_wp2_with fail
 refine(p.o _).af ?_;rintro e f ⟨rfl,d⟩;subst d;go_wp2_with fail
 refine(c.o _).af ?_;rintro e f ⟨rfl,l⟩;have a:=b.aa l b.lt;have k:da w f:=j.trans (l.af j.size);clear b j l m p c;by_cases h1:g=1
 ·subst h1;rw[Hi,Hi] at H;rw[QH];obtain⟨M,P,Q,F,B7,B6⟩:=a.facts;go_wp2;refine cN ((a.put _ _ _).result rfl _ rfl) rfl ?_;exact⟨by rw[H.o],eJ k al _ _ _⟩
 ·have B1:=an6 h1;go_wp2_with fail
  refine(T.o _).af ?_;rintro e R ⟨rfl,u⟩;have z:=a.aa u a.lt;have t:da w R:=k.trans (u.af k.size);go_wp2_with fail
  refine(D.o _).af ?_;rintro e S ⟨rfl,v⟩;have A:=z.aa v z.lt;have B9:da w S:=t.trans (v.af t.size);obtain⟨M,P,Q,F,B7,B6⟩:=A.facts;go_wp2;refine cN ((A.put _ _ _).result rfl _ rfl) rfl ?_;exact⟨by rw[H.o],eJ B9 al _ _ _⟩
theorem Nn (n:Bool) (x y:ByteArray) (w:wA) (a:x.size<=500000) (b:y.size<=500000):
  c6 90 #[zd n,zX x,zX y] w (dj w (C (val n x y))):=by
 by_cases h:N x=0∨N y=0
 ·have:=amf n x y w h a b;rwa [<- M3.2 h] at this
 ·exact amg n x y w (fun e=>h (yp e)) (fun e=>h (xS e)) a b
theorem Kw (n:Bool) (x y:ByteArray) (w:wA) (d:x.size<=500000) (f:y.size<=500000):
  c6 40 #[zp #[zd n,zX x,zX y]] w (dj w (C (val n x y))):=by
 go_enter func40,ntmps40;have b:=aL.at (w:=w.alloc (FC n x y)) (g:=w.heap.size+1) aE x3 ⟨#[]⟩ ⟨#[]⟩;have h:da w ((w.alloc (FC n x y)).alloc (FC x3 ⟨#[]⟩ ⟨#[]⟩)):=((aw _ w).alloc (ak _) _).alloc aE _;go_wp2_with fail
 refine(Nn n x y _ d f).af ?_;rintro e i ⟨rfl,a⟩;have c:=b.aa a b.lt;have j:da w i:=h.trans (a.af h.size);obtain⟨o,p,q,k,l,m⟩:=c.facts;clear b h;rw[qf];go_wp2;refine cN ((c.put _ _ _).result rfl _ rfl) rfl ?_;exact⟨rfl,eJ j al _ _ _⟩
variable {U:wA}
theorem Nl {a b:ByteArray} (n:Nat) (c:da w0 w) (h:N a*N b=n) (d:a.size<=1000000) (e:b.size<=1000000):
  c6 118 #[zX a,zX b] w (dj w0 (zX (B n))):=by
 subst h;exact under c (amd a b w al al)
theorem xM (q:Rat):N (nu q)=q.num.natAbs:=cQ _
theorem oT (q:Rat):N (de q)=q.den:=cQ _
def PN (w V:wA) (p q:Rat) (n:Bool) (x y:ByteArray):Prop:=aL V w.heap.size (aV p) (nu p) (de p)/\aL V (w.heap.size+1) (aV q) (nu q) (de q)/\aL V (w.heap.size+2) n x y/\da w V
theorem PN.step {V:wA} {q:Rat} {n:Bool} {x y:ByteArray} (h:PN w V p q n x y) (b:da V U):PN w U p q n x y:=by
 obtain⟨a,c,d,e⟩:=h;exact⟨a.aa b a.lt,c.aa b c.lt,d.aa b d.lt,e.trans (b.af e.size)⟩
theorem akL {q:Rat} (h:aV p=aV q):val (aV p) (B (p.num.natAbs*q.den+q.num.natAbs*p.den)) (B (p.den*q.den))=p+q:=by
 have e:=val_add (aV p) (aV q) (nu p) (de p) (nu q) (de q) (by rw[oT];exact p.den_nz) (by rw[oT];exact q.den_nz);rw[kN,kN,xM,xM,oT,oT, <- h, <- acU] at e;rw[val,cQ,cQ,e]
theorem akO {q:Rat} (h:¬aV p=aV q) (l:q.num.natAbs*p.den<=p.num.natAbs*q.den):val (aV p) (B (p.num.natAbs*q.den - q.num.natAbs*p.den)) (B (p.den*q.den))=p+q:=by
 have e:=val_add (aV p) (aV q) (nu p) (de p) (nu q) (de q) (by rw[oT];exact p.den_nz) (by rw[oT];exact q.den_nz);rw[kN,kN,xM,xM,oT,oT, <- acS h (k:=p.num.natAbs*q.den - q.num.natAbs*p.den) al] at e;rw[val,cQ,cQ,e]
theorem akM {q:Rat} (h:¬aV p=aV q) (l:p.num.natAbs*q.den<=q.num.natAbs*p.den):val (aV q) (B (q.num.natAbs*p.den - p.num.natAbs*q.den)) (B (p.den*q.den))=p+q:=by
 have e:=val_add (aV p) (aV q) (nu p) (de p) (nu q) (de q) (by rw[oT];exact p.den_nz) (by rw[oT];exact q.den_nz);rw[kN,kN,xM,xM,oT,oT, <- acR h (k:=q.num.natAbs*p.den - p.num.natAbs*q.den) al] at e;rw[val,cQ,cQ,e]
theorem amq (k nb:Bool) (x y d yb:ByteArray) (w:wA) (ha:x.size+y.size<=50000) (hb:d.size+yb.size<=50000):
  c6 71 #[zp #[zd k,zX x,zX y],zp #[zd nb,zX d,zX yb]] w (dj w (C (val k x y+val nb d yb))):=by
 have HA:=aF (fun V=>Kw k x y V al al);have HB:=aF (fun V=>Kw nb d yb V al al);have q1:=Fh k x y;have q2:=Fh nb d yb;generalize val k x y=p at *;generalize val nb d yb=q at *;have z1:=wS p;have z2:=wS q;have s1:=uo p.num.natAbs q.den;have s2:=uo q.num.natAbs p.den;have s3:=uo p.den q.den;have s4:=ach (p.num.natAbs*q.den) (q.num.natAbs*p.den);have s5:=kO (Nat.sub_le (p.num.natAbs*q.den) (q.num.natAbs*p.den));have s6:=kO (Nat.sub_le (q.num.natAbs*p.den) (p.num.natAbs*q.den));have e1:(B p.num.natAbs).size=(nu p).size:=rfl;have e2:(B p.den).size=(de p).size:=rfl;have e3:(B q.num.natAbs).size=(nu q).size:=rfl;have e4:(B q.den).size=(de q).size:=rfl;have HS:=aF (fun h=>akL (p:=p) (q:=q) h);have HG:=aF (fun h m=>akO (p:=p) (q:=q) h m);have HL:=aF (fun h m=>akM (p:=p) (q:=q) h m);have Cx:=aF (fun (V:wA)=>Nl (w:=V) (p.num.natAbs*q.den) (aw _ V) (by rw[xM,oT]) (show (nu p).size<=_ by omega) (show (de q).size<=_ by omega));have kJ:=aF (fun (V:wA)=>Nl (w:=V) (q.num.natAbs*p.den) (aw _ V) (by rw[xM,oT]) (show (nu q).size<=_ by omega) (show (de p).size<=_ by omega));have GX:=aF (fun (V:wA)=>Nl (w:=V) (p.den*q.den) (aw _ V) (by rw[oT,oT]) (show (de p).size<=_ by omega) (show (de q).size<=_ by omega));generalize p+q=r at *;generalize p.num.natAbs*q.den=X at *;generalize q.num.natAbs*p.den=Y at *;generalize p.den*q.den=D at *;have t1:(B X).size<=200000:=al
 have t2:(B Y).size<=200000:=al
 have t3:(B D).size<=200000:=al
 have t4:(B (X+Y)).size<=500000:=al
 have t5:(B (X - Y)).size<=500000:=al
 have t6:(B (Y - X)).size<=500000:=al
 clear s1 s2 s3 s4 s5 s6 e1 e2 e3 e4 z1 z2 q1 q2 ha hb;go_enter func71,ntmps71;have B2:=((aL.at (w:=w) rfl k x y).alloc (FC nb d yb)).alloc (FC x3 ⟨#[]⟩ ⟨#[]⟩);have M:=(aL.at (w:=w.alloc (FC k x y)) (g:=w.heap.size+1) aE nb d yb).alloc (FC x3 ⟨#[]⟩ ⟨#[]⟩);have ae:=aL.at (w:=(w.alloc (FC k x y)).alloc (FC nb d yb)) (g:=w.heap.size+2) aE x3 ⟨#[]⟩ ⟨#[]⟩;have ab:da w (((w.alloc (FC k x y)).alloc (FC nb d yb)).alloc (FC x3 ⟨#[]⟩ ⟨#[]⟩)):=(((aw _ w).alloc (ak _) _).alloc aE _).alloc (by simp;omega) _;go_wp2_with fail
 refine(HA.o _).af ?_;rintro e w1 ⟨rfl,u⟩;have T:=B2.aa u B2.lt;have F:=(M.aa u M.lt).far3 (g':=w.heap.size) al (zd (aV p)) (zX (nu p)) (zX (de p));have pI:=(ae.aa u ae.lt).far3 (g':=w.heap.size) al (zd (aV p)) (zX (nu p)) (zX (de p));have ad:=eJ (ab.trans (u.af ab.size)) (ak _) (zd (aV p)) (zX (nu p)) (zX (de p));have pJ:=T.put (aV p) (nu p) (de p);obtain⟨P,Q,S,B7,B6,L⟩:=T.facts;obtain⟨c,a,b,_,_,_⟩:=F.facts;rw[qf];clear B2 M ae ab T u;go_wp2_with fail
 clear P Q S B7 B6 L c a b;refine(HB.o _).af ?_;rintro e w2 ⟨rfl,v⟩;have U:=F.aa v F.lt;have sM:=(pJ.aa v pJ.lt).far3 (g':=w.heap.size+1) al (zd (aV q)) (zX (nu q)) (zX (de q));have zW:=(pI.aa v pI.lt).far3 (g':=w.heap.size+1) al (zd (aV q)) (zX (nu q)) (zX (de q));have di:=eJ (ad.trans (v.af ad.size)) (g:=w.heap.size+1) al (zd (aV q)) (zX (nu q)) (zX (de q));have vJ:=U.put (aV q) (nu q) (de q);obtain⟨P,Q,S,B7,B6,L⟩:=U.facts;have ht:PN w _ p q x3 ⟨#[]⟩ ⟨#[]⟩:=⟨sM,vJ,zW,di⟩;obtain⟨c,a,b,_,_,_⟩:=sM.facts;obtain⟨f,i,j,_,_,_⟩:=vJ.facts;rw[qf];clear pJ F pI ad U sM zW di vJ v HA HB;go_wp2_with fail
 refine(Cx.o _).af ?_;rintro e w3 ⟨rfl,aj⟩;clear c a b f i j P Q S B7 B6 L;have A:=ht.step aj;clear ht aj Cx;obtain⟨c,a,b,_,_,_⟩:=A.1.facts;obtain⟨f,i,j,_,_,_⟩:=A.2.1.facts;go_wp2_with fail
 refine(kJ.o _).af ?_;rintro e w4 ⟨rfl,an⟩;clear c a b f i j;have z:=A.step an;clear A an kJ;obtain⟨c,a,b,_,_,_⟩:=z.1.facts;obtain⟨f,i,j,_,_,_⟩:=z.2.1.facts;go_wp2_with fail
 refine(GX.o _).af ?_;rintro e w5 ⟨rfl,ao⟩;clear c a b f i j;have s:=z.step ao;clear z ao GX;obtain⟨c,a,b,_,_,_⟩:=s.1.facts;obtain⟨f,i,j,_,_,_⟩:=s.2.1.facts;by_cases n:aV p=aV q
 focus
  have H:=aF (HS.o n);have fW:(aV p==aV q)=true:=by simp[n]
  have iX:decide (aV p=aV q)=true:=cJ n;have ai:=aF (fun V=>ado (B X) (B Y) V al al);rw[cQ,cQ] at ai;have HN:=aF n;clear n;go_wp2_with fail
  refine(ai.o _).af ?_;rintro e w6 ⟨rfl,B1⟩;clear c a b f i j;have K:=s.step B1;obtain⟨c,a,b,_,_,_⟩:=K.1.facts;go_wp2_with fail
  refine(Nn (aV p) (B (X+Y)) (B D) _ al al).af ?_
 rotate_left
 focus
  have fW:(aV p==aV q)=false:=by simp[n]
  have iX:decide (aV p=aV q)=false:=cT n;by_cases m:Y<=X
  focus
   have H:=aF (HG.o n m);have t:=aF (fun V=>WW (B X) (B Y) V al al (by rw[cQ,cQ];exact m));rw[cQ,cQ] at t;go_wp2_with fail
   refine(t.o _).af ?_;rintro e w6 ⟨rfl,B1⟩;clear c a b f i j;have K:=s.step B1;obtain⟨c,a,b,_,_,_⟩:=K.1.facts;go_wp2_with fail
   refine(Nn (aV p) (B (X - Y)) (B D) _ al al).af ?_
  rotate_left
  ·have H:=aF (HL.o n al);have Ek:=aF (fun V=>adh (B X) (B Y) V al al (by rw[cQ,cQ];omega));have t:=aF (fun V=>WW (B Y) (B X) V al al (by rw[cQ,cQ];omega));rw[cQ,cQ] at t;go_wp2_with fail
   refine(Ek.o _).af ?_;rintro e w6 ⟨rfl,B1⟩;clear c a b f i j;have K:=s.step B1;go_wp2_with fail
   refine(t.o _).af ?_;rintro e w7 ⟨rfl,R⟩;have l:=K.step R;obtain⟨c,a,b,_,_,_⟩:=l.2.1.facts;go_wp2_with fail
   refine(Nn (aV q) (B (Y - X)) (B D) _ al al).af ?_;rintro e w8 ⟨rfl,iB⟩;have B9:=l.step iB;obtain⟨g0,g1,g2,i0,i1,i2⟩:=B9.2.2.1.facts;rw[H.o,qf];go_wp2;refine cN ((B9.2.2.1.put _ _ _).result rfl _ rfl) rfl ?_;exact⟨rfl,eJ B9.2.2.2 al _ _ _⟩
 all_goals
  rintro e w7 ⟨rfl,R⟩;have l:=K.step R;obtain⟨g0,g1,g2,i0,i1,i2⟩:=l.2.2.1.facts;rw[H.o,qf];go_wp2;refine cN ((l.2.2.1.put _ _ _).result rfl _ rfl) rfl ?_;exact⟨rfl,eJ l.2.2.2 al _ _ _⟩
theorem ame (n nb:Bool) (a y b yb:ByteArray) (w:wA) (ha:a.size+y.size<=50000) (hb:b.size+yb.size<=50000):
  c6 66 #[zp #[zd n,zX a,zX y],zp #[zd nb,zX b,zX yb]] w (dj w (C (val n a y*val nb b yb))):=by
 have U:=aF (fun V=>Kw n a y V al al);have B1:=aF (fun V=>Kw nb b yb V al al);have q1:=Fh n a y;have q2:=Fh nb b yb;generalize val n a y=p at *;generalize val nb b yb=q at *;have z1:=wS p;have z2:=wS q;have s1:=uo p.num.natAbs q.num.natAbs;have s3:=uo p.den q.den;have e1:(B p.num.natAbs).size=(nu p).size:=rfl;have e2:(B p.den).size=(de p).size:=rfl;have e3:(B q.num.natAbs).size=(nu q).size:=rfl;have e4:(B q.den).size=(de q).size:=rfl
 have HS:we (val (aV p !=aV q) (B (p.num.natAbs*q.num.natAbs)) (B (p.den*q.den))=p*q):=by
  show _=_;have e:=val_mul (aV p) (aV q) (nu p) (de p) (nu q) (de q);rw[kN,kN,xM,xM,oT,oT] at e;rw[val,cQ,cQ,e]
 have S:=aF (fun (V:wA)=>Nl (w:=V) (p.num.natAbs*q.num.natAbs) (aw _ V) (by rw[xM,xM]) (show (nu p).size<=_ by omega) (show (nu q).size<=_ by omega));have T:=aF (fun (V:wA)=>Nl (w:=V) (p.den*q.den) (aw _ V) (by rw[oT,oT]) (show (de p).size<=_ by omega) (show (de q).size<=_ by omega));generalize p*q=r at *;generalize p.num.natAbs*q.num.natAbs=X at *;generalize p.den*q.den=D at *;have t1:(B X).size<=200000:=al
 have t3:(B D).size<=200000:=al
 clear s1 s3 e1 e2 e3 e4 z1 z2 q1 q2 ha hb;go_enter func66,ntmps66;have Y:=((aL.at (w:=w) rfl n a y).alloc (FC nb b yb)).alloc (FC x3 ⟨#[]⟩ ⟨#[]⟩);have K:=(aL.at (w:=w.alloc (FC n a y)) (g:=w.heap.size+1) aE nb b yb).alloc (FC x3 ⟨#[]⟩ ⟨#[]⟩);have R:=aL.at (w:=(w.alloc (FC n a y)).alloc (FC nb b yb)) (g:=w.heap.size+2) aE x3 ⟨#[]⟩ ⟨#[]⟩;have P:da w (((w.alloc (FC n a y)).alloc (FC nb b yb)).alloc (FC x3 ⟨#[]⟩ ⟨#[]⟩)):=(((aw _ w).alloc (ak _) _).alloc aE _).alloc (by simp;omega) _;go_wp2_with fail
 refine(U.o _).af ?_;rintro e w1 ⟨rfl,h⟩;have B6:=Y.aa h Y.lt;have F:=(K.aa h K.lt).far3 (g':=w.heap.size) al (zd (aV p)) (zX (nu p)) (zX (de p));have B7:=(R.aa h R.lt).far3 (g':=w.heap.size) al (zd (aV p)) (zX (nu p)) (zX (de p));have Q:=eJ (P.trans (h.af P.size)) (ak _) (zd (aV p)) (zX (nu p)) (zX (de p));have z:=B6.put (aV p) (nu p) (de p);obtain⟨u,v,x,m,s,t⟩:=B6.facts;obtain⟨c,d,f,_,_,_⟩:=F.facts;rw[qf];clear Y K R P B6 h;go_wp2_with fail
 clear u v x m s t c d f;refine(B1.o _).af ?_;rintro e w2 ⟨rfl,i⟩;have B2:=F.aa i F.lt;have M:=(z.aa i z.lt).far3 (g':=w.heap.size+1) al (zd (aV q)) (zX (nu q)) (zX (de q));have zW:=(B7.aa i B7.lt).far3 (g':=w.heap.size+1) al (zd (aV q)) (zX (nu q)) (zX (de q));have di:=eJ (Q.trans (i.af Q.size)) (g:=w.heap.size+1) al (zd (aV q)) (zX (nu q)) (zX (de q));have B9:=B2.put (aV q) (nu q) (de q);obtain⟨u,v,x,m,s,t⟩:=B2.facts;have ht:PN w _ p q x3 ⟨#[]⟩ ⟨#[]⟩:=⟨M,B9,zW,di⟩;obtain⟨c,d,f,_,_,_⟩:=M.facts;obtain⟨j,k,l,_,_,_⟩:=B9.facts;rw[qf];clear z F B7 Q B2 M zW di B9 i U B1;go_wp2_with fail
 refine(S.o _).af ?_;rintro e w3 ⟨rfl,ab⟩;clear c d f j k l u v x m s t;have A:=ht.step ab;clear ht ab S;obtain⟨c,d,f,_,_,_⟩:=A.1.facts;obtain⟨j,k,l,_,_,_⟩:=A.2.1.facts;go_wp2_with fail
 refine(T.o _).af ?_;rintro e w4 ⟨rfl,ad⟩;clear c d f j k l;have L:=A.step ad;clear A ad T;obtain⟨c,d,f,_,_,_⟩:=L.1.facts;obtain⟨j,k,l,_,_,_⟩:=L.2.1.facts;go_wp2_with fail
 refine(Nn (aV p !=aV q) (B X) (B D) _ al al).af ?_;rintro e w7 ⟨rfl,eR⟩;have H:=L.step eR;obtain⟨g0,g1,g2,i0,i1,i2⟩:=H.2.2.1.facts;rw[HS.o,qf];go_wp2;refine cN ((H.2.2.1.put _ _ _).result rfl _ rfl) rfl ?_;exact⟨rfl,eJ H.2.2.2 al _ _ _⟩
theorem anX {q:Rat} (h:q=0):nu q=⟨#[]⟩:=by subst h;exact CL
theorem anY {q:Rat} (h:¬q=0):(nu q).toList.isEmpty=false:=EM (by rw[Ne,Int.natAbs_eq_zero,Rat.num_eq_zero];exact h)
theorem al6 (n:Bool) (x y:ByteArray) (w:wA) (m:x.size+y.size<=50000):
  c6 60 #[zp #[zd n,zX x,zX y]] w (dj w (zd (decide (val n x y=0)))):=by
 have g:=aF (fun V=>Kw n x y V al al);generalize val n x y=q at *
 have z:(q=0/\decide (q=0)=xq)∨(¬q=0/\decide (q=0)=x3):=by
  by_cases h:q=0
  ·exact yp ⟨h,cJ h⟩
  ·exact xS ⟨h,cT h⟩
 have H:=aF z;clear z;generalize decide (q=0)=t at *;go_enter func60,ntmps60;have b:=aL.at (w:=w) rfl n x y;have c:da w (w.alloc (FC n x y)):=(aw _ w).alloc (ak _) _;go_wp2_with fail
 refine(g.o _).af ?_;rintro e v ⟨rfl,f⟩;have i:=b.aa f b.lt;have d:=eJ (c.trans (f.af c.size)) (ak _) (zd (aV q)) (zX (nu q)) (zX (de q));obtain⟨p,r,s,j,k,l⟩:=i.facts;rw[qf];rcases H.o with ⟨h,rfl⟩ |⟨h,rfl⟩
 ·have a:=anX h;clear h H;generalize nu q=u at *;subst a;go_wp2;go_ret;exact⟨rfl,d⟩
 ·have a:=anY h;clear h H;go_wp2;go_ret;exact⟨rfl,d⟩
theorem amn (n nb:Bool) (a y b yb:ByteArray) (w:wA) (h:¬val nb b yb=0) (S:a.size+y.size<=40000) (T:b.size+yb.size<=40000):
  c6 65 #[zp #[zd n,zX a,zX y],zp #[zd nb,zX b,zX yb]] w (dj w (zz #[C (val n a y/val nb b yb),E yR 0])):=by
 have B1:=aF (fun V=>al6 nb b yb V al);rw[cT h] at B1;have B6:=aF (fun V=>Kw nb b yb V al al);have q2:=Fh nb b yb;generalize val nb b yb=q at *;have z2:=wS q;have H:=aF (fun V=>ame n (aV q) a y (de q) (nu q) V al al)
 have v:val (aV q) (de q) (nu q)=q⁻¹:=by
  rw[We (aV q) (nu q) (de q) (by rw[xM,Ne,Int.natAbs_eq_zero,Rat.num_eq_zero];exact h) (by rw[oT];exact q.den_nz),kN]
 rw[v, <- k9] at H;generalize val n a y/q=r at *;clear v h z2 q2 S T;go_enter func65,ntmps65;have Y:=((aL.at (w:=w) rfl n a y).alloc (FC nb b yb)).alloc (FC x3 ⟨#[]⟩ ⟨#[]⟩);have i:=(aL.at (w:=w.alloc (FC n a y)) (g:=w.heap.size+1) aE nb b yb).alloc (FC x3 ⟨#[]⟩ ⟨#[]⟩);have l:=aL.at (w:=(w.alloc (FC n a y)).alloc (FC nb b yb)) (g:=w.heap.size+2) aE x3 ⟨#[]⟩ ⟨#[]⟩;have f:da w (((w.alloc (FC n a y)).alloc (FC nb b yb)).alloc (FC x3 ⟨#[]⟩ ⟨#[]⟩)):=(((aw _ w).alloc (ak _) _).alloc aE _).alloc (by simp;omega) _;go_wp2_with fail
 refine(B1.o _).af ?_;rintro e w1 ⟨rfl,c⟩;have m:=Y.aa c Y.lt;have j:=i.aa c i.lt;have p:=l.aa c l.lt;have k:=f.trans (c.af f.size);obtain⟨K,L,M,_,_,_⟩:=j.facts;clear Y i l f c;go_wp2_with fail
 refine(B6.o _).af ?_;rintro e w2 ⟨rfl,d⟩;have X:=(m.aa d m.lt).far3 (g':=w.heap.size+1) al (zd (aV q)) (zX (nu q)) (zX (de q));have U:=j.aa d j.lt;have F:=(p.aa d p.lt).far3 (g':=w.heap.size+1) al (zd (aV q)) (zX (nu q)) (zX (de q));have B9:=eJ (k.trans (d.af k.size)) (g:=w.heap.size+1) al (zd (aV q)) (zX (nu q)) (zX (de q));clear K L M m j p k d;obtain⟨x,z,A,s,t,u⟩:=U.facts;obtain⟨B2,P,Q,_,_,_⟩:=X.facts;rw[qf];go_wp2_with fail
 refine(H.o _).af ?_;rintro e w3 ⟨rfl,B7⟩;have D:=F.aa B7 F.lt;have R:=B9.trans (B7.af B9.size);clear x z A s t u B2 P Q;obtain⟨x,z,A,s,t,u⟩:=D.facts;rw[qf];go_wp2;refine cN ((D.put _ _ _).result2 rfl _ rfl) rfl ?_;exact⟨rfl,eJ R al _ _ _⟩
theorem anS {k:Int} (h:k<0):C (mkRat k 1)=zp #[zd xq,zX (B ((-(k+1)).toNat+1)),zX (B 1)]:=by
 have e:k=sg xq ((-(k+1)).toNat+1):=by simp only[sg,if_true];omega
 have a:=VD xq ((-(k+1)).toNat+1) 1 al a6;rw[<- e,Nat.gcd_one_right,Hi,Hi] at a;exact a
theorem anR (n:Nat):C (mkRat (n:Int) 1)=zp #[zd x3,zX (B n),zX (B 1)]:=by
 by_cases h:n=0
 ·subst h;rw[show ((0:Nat):Int)=0 from rfl,MB,Ha,CL]
 ·have a:=VD x3 n 1 h a6;rw[Nat.gcd_one_right,Hi,Hi] at a;exact a
theorem WX (k:Int) (w:wA) (h0: -9223372036854775808<=k) (h1:k<=9223372036854775807):
  c6 29 #[E yR k] w (dj w (C (mkRat k 1))):=by
 by_cases i:k<0
 ·rw[anS i];have H:=aF (fun V=>Kv (-(k+1)) V al al);have t:(B (-(k+1)).toNat).size<=8:=by rw[nZ];exact sQ 8 _ (by show _<18446744073709551616;omega)
  have A:=aF (fun V=>ado (B (-(k+1)).toNat) ⟨#[1]⟩ V al (by show 1<=_;omega));rw[cQ,show N ⟨#[1]⟩=1 from rfl] at A;rw[QH];generalize (-(k+1)).toNat=n at *;go_enter func29,ntmps29;have r:=aL.at (w:=w) rfl x3 ⟨#[]⟩ ⟨#[]⟩;have h:da w (w.alloc (FC x3 ⟨#[]⟩ ⟨#[]⟩)):=(aw _ w).alloc (ak _) _;go_wp2_with fail
  refine(H.o _).af ?_;rintro e q ⟨rfl,b⟩;have p:=r.aa b r.lt;have a:=h.trans (b.af h.size);go_wp2_with fail
  refine(A.o _).af ?_;rintro e u ⟨rfl,c⟩;have F:=p.aa c p.lt;have s:=a.trans (c.af a.size);obtain⟨j,l,m,f,d,g⟩:=F.facts;go_wp2;refine cN ((F.put _ _ _).result rfl _ rfl) rfl ?_;exact⟨rfl,eJ s al _ _ _⟩
 ·obtain⟨n,rfl⟩:∃n:Nat,k=n:=⟨k.toNat,al⟩;rw[anR n];have H:=aF (fun V=>Kv (n:Int) V al al);rw[oC] at H;rw[QH];go_enter func29,ntmps29;have r:=aL.at (w:=w) rfl x3 ⟨#[]⟩ ⟨#[]⟩;have h:da w (w.alloc (FC x3 ⟨#[]⟩ ⟨#[]⟩)):=(aw _ w).alloc (ak _) _;go_wp2_with fail
  refine(H.o _).af ?_;rintro e q ⟨rfl,b⟩;have p:=r.aa b r.lt;have a:=h.trans (b.af h.size);obtain⟨j,l,m,f,d,g⟩:=p.facts;go_wp2;refine cN ((p.put _ _ _).result rfl _ rfl) rfl ?_;exact⟨rfl,eJ a al _ _ _⟩
end Go.Proofs.YtkflnpjapgiajaaGreatDoor
