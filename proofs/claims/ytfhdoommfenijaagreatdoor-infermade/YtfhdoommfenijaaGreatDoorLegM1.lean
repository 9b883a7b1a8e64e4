/- Part1: part 1. -/
import Derived.Test.YtfhdoommfenijaaGreatDoorTermM
set_option maxRecDepth 100000
set_option maxHeartbeats 400000000
set_option linter.unusedSimpArgs false
set_option linter.unusedVariables false
namespace Go.Proofs.YtfhdoommfenijaaGreatDoor
variable {rs:List Nat} {i:Nat} {oi:Oper}
theorem gE:(∀(α:Type) (xs:List α) (i:Nat) (h:i<xs.toArray.size),xs.toArray[i]=xs[i]'(by simpa using h))/\(∀(α:Type) (a:α) (s:List α) (h:0<(a::s).length),(a::s)[0]=a)/\(∀(α:Type) (a:α) (s:List α) (i:Nat) (h:i+1<(a::s).length),(a::s)[i+1]=s[i]'(by simpa using h)):=⟨fun _ _ _ _=>rfl,fun _ _ _ _=>rfl,fun _ _ _ _ _=>rfl⟩
theorem aP:(∀(a:Act) (k:Nat) (v:Value),a.put k v= {a with tmps:=a.tmps.setIfInBounds k v})/\(∀(α:Type) (xs:List α) (i:Nat) (a:α),xs.toArray.setIfInBounds i a=(xs.set i a).toArray)/\(∀(α:Type) (x a:α) (s:List α),(x::s).set 0 a=a::s)/\(∀(α:Type) (x a:α) (s:List α) (i:Nat),(x::s).set (i+1) a=x::s.set i a):=⟨fun _ _ _=>rfl,fun _ _ _ _=>aE,fun _ _ _ _=>rfl,fun _ _ _ _ _=>rfl⟩
section
variable {P : Program} {ops : Array Oper} {Q : Exit -> Act -> World -> Prop} {md : Region.Mode} {S : World -> Prop} {n : Nat} {l : Array Bool} {a : Act} {w : World}
theorem cM (i:Nat) (v:Value) (h:∀u,S u ->(execOp a.eval oi).run P u=.ok (.value v) u) (k:wpAnyH P md ops Q S n (l.setIfInBounds i true) (a.put oi.dst v) w)
  (e:ops[i]? =some oi:=by rfl) (s:Region.noSelect ops=true:=by kernel_rfl) (f:Region.free md ops l i=true:=by kernel_rfl) (r:(Region.ready md ops l).contains i=true:=by kernel_rfl)
  (b:∀c a w,Q (.panic c) (a.put oi.dst v) w ->Q (.panic c) a w:=by first |exact fun _ _ _ h=>h |exact fun _ _ _ h=>by cases h.1) (g:Region.wanted oi (yielded ops a.tmps)=true:=by rfl) (d:S w:=by assumption):wpAnyH P md ops Q S (n+1) l a w:=
 mV e s f r b (Or.inl ⟨g,h⟩) d k
theorem au (i:Nat) (v:Value) (k:wpAnyH P md ops Q S n (l.setIfInBounds i true) (a.put oi.dst v) w)
  (g:ops[i]? =some oi:=by rfl) (h:∀u,S u ->(execOp a.eval oi).run P u=.ok (.value v) u:=by intro q O;(try simp only[gE]);(first |obtain⟨s,b,o,p⟩:=O |obtain⟨s,b,o⟩:=O |obtain⟨s,b⟩:=O |skip);go_simp) (j:Region.noSelect ops=true:=by kernel_rfl) (f:Region.free md ops l i=true:=by kernel_rfl) (r:(Region.ready md ops l).contains i=true:=by kernel_rfl)
  (d:∀c a w,Q (.panic c) (a.put oi.dst v) w ->Q (.panic c) a w:=by first |exact fun _ _ _ h=>h |exact fun _ _ _ h=>by cases h.1) (m:Region.wanted oi (yielded ops a.tmps)=true:=by rfl) (e:S w:=by assumption):wpAnyH P md ops Q S (n+1) l a w:=
 mV g j f r d (Or.inl ⟨m,h⟩) e k
theorem cA {o:Oper} (h:∀K:Act ->World ->Prop,Shut (∀a w,S w ->(S w ->wpAnyH P md ops Q S n (l.setIfInBounds i true) a w) ->K a w) ->if Region.wanted o (yielded ops a.tmps)=true then Oper.wp P o a w K Q else K (a.put o.dst undef) w) (s:AllReadyH P md ops Q S n l a w rs) (b:ops[i]? =some o:=by rfl):AllReadyH P md ops Q S n l a w (i::rs):=AllReadyH.cons b h s
theorem nA:AllReadyH P md ops Q S n l a w []:=aH
theorem aI (rs:List Nat) (h:AllReadyH P md ops Q S n l a w rs) (r:Region.ready md ops l=rs:=by kernel_rfl) (e:rs≠[]:=by simp):wpAnyH P md ops Q S (n+1) l a w:=wpAnyH_ready r e h
end
open Go.RowKit
variable {l:List Int} {a:Option Addr} {w w':World}
theorem hid {p:Prop} (h:p):Hid p:=h
def az (w:World) (a:Option Addr) (l:List Int):Prop:=∀k (h:k<l.length),∃g o,a=some ⟨g,o,none⟩/\g<w.heap.size/\w.cell? ⟨g,o+k,none⟩=some (.int .i64 l[k])
theorem az.aa (h:az w a l) (c:c8 w w'):az w' a l:=fun k f=>by
 obtain⟨g,o,d,b,e⟩:=h k f;exact⟨g,o,d,aU b c.size,(c.cell (p:=⟨g,_,none⟩) b).trans e⟩
theorem Hn {B:Nat} {a b:World} (h:Below B a b) (k:Nat):Below B a (b.drewN k):=⟨h.os,h.tape,h.output,h.size,h.block⟩
def gJ (k:Int) (l:List Int):Bool:=l.any (·==k)
theorem al4 {k:Int} (h:i<l.length):gJ k (l.take (i+1))=(gJ k (l.take i) ||l[i]==k):=by
 rw[fL h,gJ,gJ,List.any_append];simp
theorem al7 {k:Int} (h:i<l.length) (e:l[i]=k):gJ k l=true:=by
 rw[gJ,tX];exact⟨l[i],bB h,by simp[e]⟩
theorem PQ (k:Int) (a:Option Addr) (cap:Nat) (l:List Int) (w:World) (h:az w a l) (n:l.length<=140737488355328):
  c6 26 #[.int .i64 k,.slice a l.length cap] w fun e w'=>e=.returned (.bool (gJ k l))/\w'=w:=by
 have F:=hid h;clear h;go_enter Tryz.func26,Tryz.ntmps26;go_wp2_with fail
 go_loop [5] (fun iv=>∃i:Nat,i<=l.length/\iv=.int .i64 i/\Hid (gJ k (l.take i)=false)) (fun iv=>l.length - (intOf iv).toNat)
 case atStart=>exact⟨0,aS _,rfl,rfl⟩
 case round=>
  obtain⟨i,f,rfl,H⟩:=hrel;by_cases t:i<l.length
  ·obtain⟨g,o,rfl,d,c⟩:=F.o i t;by_cases e:l[i]=k
   ·have E:=hid (al7 t e);go_wp2;go_ret;exact⟨by rw[E.o];rfl,rfl⟩
   ·have S:Hid (gJ k (l.take (i+1))=false):=by show _=_;rw[al4 t,H.o];simp[e]
    (have b:(l[i]==k)=false:=by simp[e]);generalize l[i]=x at *;go_wp2;go_round
    case rel=>exact⟨i+1,al,bd,S.o⟩
    case measure=>simp[intOf];omega
  ·have E:Hid (gJ k l=false):=by
    show _=_;have:=H.o;rwa [jA al] at this
   go_wp2;go_ret;exact⟨by rw[E.o];rfl,rfl⟩
def Cx (x:Int):Bool:=decide (1<=x/\x<=4)
def oY (l:List Int):Bool:=decide (1<=l.length/\l.length<=8)&&l.all Cx
theorem afX {p:Int ->Bool} (h:i<l.length) (e:p l[i]=false):l.all p=false:=by
 rw[IV];exact⟨l[i],bB h,by rw[e];decide⟩
theorem afW {p:Int ->Bool} (h:i<l.length) (h0:(l.take i).all p=true) (e:p l[i]=true):(l.take (i+1)).all p=true:=by
 rw[fL h,Pb,h0];simp[e]
theorem ajd (a:Option Addr) (cap:Nat) (l:List Int) (w:World) (h:az w a l) (s:l.length<=140737488355328):
  c6 30 #[.slice a l.length cap] w (da w (.bool (oY l))):=by
 have F:=hid h;clear h;by_cases d:1<=l.length/\l.length<=8
 ·have H:Hid (oY l=l.all Cx):=by show _=_;rw[oY,cY d];rfl
  obtain⟨u,v⟩:=d;generalize oY l=f at *;go_enter Tryz.func30,Tryz.ntmps30;go_wp2_with fail
  go_loopw [3] (fun iv wr=>∃i:Nat,i<=l.length/\iv=.int .i64 i/\Hid ((l.take i).all Cx=true)/\c8 w wr) (fun iv _=>l.length - (intOf iv).toNat)
  case atStart=>exact⟨0,aS _,rfl,rfl,aw _ _⟩
  case round=>
   obtain⟨i,r,rfl,I,b⟩:=hrel;by_cases t:i<l.length
   ·obtain⟨g,o,rfl,q,k⟩:=(F.o.aa b) i t;by_cases e:1<=l[i]/\l[i]<=4
    ·have S:=hid (afW t I.o (p:=Cx) (cY e));obtain⟨m,n⟩:=e;generalize l[i]=x at *;go_wp2;go_roundw
     case rel=>exact⟨i+1,al,bd,S.o,b⟩
     case measure=>simp[intOf];omega
    ·have E:Hid (f=false):=by show _=_;rw[H.o];exact afX t (cK e)
     rcases (show l[i]<1∨(1<=l[i]/\4<l[i]) by omega) with c |⟨c,j⟩
     all_goals
      clear e;generalize l[i]=x at *;go_wp2;go_ret;exact⟨by rw[E.o];rfl,b⟩
   ·have E:Hid (f=true):=by
     show _=_;rw[H.o];have:=I.o;rwa [jA al] at this
    go_wp2;go_ret;exact⟨by rw[E.o];rfl,b⟩
 ·have E:Hid (oY l=false):=by show _=_;rw[oY,cK d];rfl
  generalize oY l=f at *;go_enter Tryz.func30,Tryz.ntmps30;rcases (show l.length<1∨(1<=l.length/\8<l.length) by omega) with c |⟨c,j⟩
  all_goals
   go_wp2;go_ret;exact⟨by rw[E.o];rfl,aw _ _⟩
def mo (l:List Int) (n:Int) (i:Nat):Bool:=decide (0<=l.getD i 0/\l.getD i 0<n/\(0< i ->l.getD (i - 1) 0<l.getD i 0))
def dY (l:List Int) (n:Int):Bool:=(List.range l.length).all (mo l n)
theorem T3 {n:Int} (h:i<l.length) (e:mo l n i=false):dY l n=false:=by
 rw[dY,IV];exact⟨i,bJ.2 h,by rw[e];decide⟩
theorem PM {n:Int} (h0:(List.range i).all (mo l n)=true) (e:mo l n i=true):(List.range (i+1)).all (mo l n)=true:=by
 rw[sV,Pb,h0];simp[e]
theorem getD_eq (h:i<l.length):l.getD i 0=l[i]:=by simp[List.getD,h]
theorem abD (a:Option Addr) (cap:Nat) (l:List Int) (n:Int) (w:World) (h:az w a l) (L:l.length<=140737488355328):
  c6 31 #[.slice a l.length cap,.int .i64 n] w (da w (.bool (dY l n))):=by
 have F:=hid h;clear h;have j:=hid (fun i h e=>T3 (l:=l) (n:=n) (i:=i) h e);have T:Hid ((List.range l.length).all (mo l n)=true ->dY l n=true):=id;generalize dY l n=rb at *;go_enter Tryz.func31,Tryz.ntmps31;go_wp2_with fail
 go_loopw [5] (fun iv wr=>∃i:Nat,i<=l.length/\iv=.int .i64 i/\Hid ((List.range i).all (mo l n)=true)/\c8 w wr) (fun iv _=>l.length - (intOf iv).toNat)
 case atStart=>exact⟨0,aS _,rfl,rfl,aw _ _⟩
 case round=>
  obtain⟨i,K,rfl,I,b⟩:=hrel;by_cases t:i<l.length
  ·obtain⟨g,o,rfl,J,A⟩:=(F.o.aa b) i t;(have H:Hid (mo l n i=decide (0<=l[i]/\l[i]<n/\(0< i ->l.getD (i - 1) 0<l[i]))):=by show _=_;rw[mo,getD_eq t]);by_cases c:l[i]<0
   ·have E:Hid (rb=false):=j.o i t (by rw[H.o];exact cK al);generalize l[i]=x at *;have d:decide (x<0)=true:=cY c;go_wp2_with fail
    go_quiet (fail)
    go_wp2;go_ret;exact⟨by rw[E.o];rfl,Hn b _⟩
   ·by_cases f:n<=l[i]
    ·have E:Hid (rb=false):=j.o i t (by rw[H.o];exact cK al);generalize l[i]=x at *;have d:decide (x<0)=false:=cK c;have k:decide (n<=x)=true:=cY f;go_wp2_with fail
     go_quiet (fail)
     go_wp2;go_ret;exact⟨by rw[E.o];rfl,Hn b _⟩
    ·by_cases q:i=0
     ·have S:=hid (PM I.o (i:=i) (by rw[H.o];exact cY ⟨al,al,fun h=>absurd h al⟩));clear H;generalize l[i]=x at *;have d:decide (x<0)=false:=cK c;have k:decide (n<=x)=false:=cK f;have p:decide (0<i)=false:=cK al;(have O:¬0<(i:Int):=al);have z:=hid q;clear q;go_wp2_with fail
      go_quiet (fail)
      go_wp2;go_roundw
      case rel=>exact⟨i+1,al,bd,S.o,Hn b _⟩
      case measure=>simp[intOf];omega
     ·have v:0<i:=al
      obtain⟨g',o',s,M,D⟩:=(F.o.aa b) (i - 1) al;simp only[Option.some.injEq,Addr.mk.injEq] at s;obtain⟨rfl,rfl, -⟩:=s;have m:l.getD (i - 1) 0=l[i - 1]:=getD_eq al;rw[m] at H;(have P:((i:Int) - 1).toNat=i - 1:=al);by_cases r:l[i]<=l[i - 1]
      ·have E:Hid (rb=false):=j.o i t (by rw[H.o];exact cK (fun h=>absurd (h.2.2 v) al));clear m H;generalize l[i]=x at *;generalize l[i - 1]=y at *;have d:decide (x<0)=false:=cK c;have k:decide (n<=x)=false:=cK f;have p:decide (0<(i:Int))=true:=cY al;have u:decide (x<=y)=true:=cY r;go_wp2_with fail
       go_quiet (fail)
       go_wp2;go_ret;exact⟨by rw[E.o];rfl,Hn b _⟩
      ·have S:=hid (PM I.o (i:=i) (by rw[H.o];exact cY ⟨al,al,fun _=>al⟩));clear m H;generalize l[i]=x at *;generalize l[i - 1]=y at *;have d:decide (x<0)=false:=cK c;have k:decide (n<=x)=false:=cK f;have p:decide (0<(i:Int))=true:=cY al;have u:decide (x<=y)=false:=cK r;go_wp2_with fail
       go_quiet (fail)
       go_wp2;go_roundw
       case rel=>exact⟨i+1,al,bd,S.o,Hn b _⟩
       case measure=>simp[intOf];omega
  ·obtain rfl:i=l.length:=al
   have E:=hid (T.o I.o);go_wp2;go_ret;exact⟨by rw[E.o];rfl,b⟩
variable {S vs:List Nat} {h:Nat ->Nat}
def sz (S:List Nat) (v:Nat):Nat:=S[v]?.getD 1
def cnt (S:List Nat):List Nat ->Nat
 |[]=>1
 |v::vs=>sz S v*cnt S vs
theorem XX (S a b:List Nat):cnt S (a++b)=cnt S a*cnt S b:=by
 induction a with
 |nil=>simp[cnt]
 |cons v a ih=>simp only[fM,cnt,ih,iU]
theorem ao9 (S a:List Nat) (v:Nat):cnt S (a++[v])=cnt S a*sz S v:=by rw[XX];simp[cnt]
def Pos (S:List Nat):Prop:=∀x∈S,1<=x
theorem iM (h:Pos S) (v:Nat):1<=sz S v:=by
 rw[sz];cases e:S[v]? with
 |none=>simp
 |some x=>exact h x (Td e)
theorem A3 (h:Pos S) (vs:List Nat):1<=cnt S vs:=by
 induction vs with
 |nil=>exact ar _
 |cons v vs ih=>exact iH (iM h v) ih
def bX (S:List Nat):List Nat ->Nat ->List Nat
 |[],_=>[]
 |_::vs,k=>(k/cnt S vs)::bX S vs (k % cnt S vs)
theorem vT (S vs:List Nat):∀k,(bX S vs k).length=vs.length:=by
 induction vs with
 |nil=>intro _;rfl
 |cons v vs ih=>intro k;simp[bX,ih]
theorem ada (k c s:Nat):k % (s*c)/c=k/c % s:=by
 rw[dJ s c,Nat.mod_mul_right_div_self]
theorem U4 (k c s:Nat):k % (s*c) % c=k % c:=by
 rw[dJ s c,Nat.mod_mul_right_mod]
def aT (S:List Nat):List Nat ->Nat ->Nat ->Nat
 |[],_,_=>0
 |u::vs,k,v=>if v=u then k/cnt S vs else aT S vs (k % cnt S vs) v
theorem Dd:∀ {vs:List Nat} {k v:Nat},¬v∈vs ->aT S vs k v=0
 |[],_,_,_=>rfl
 |u::vs,k,v,h=>by
  rw[aT,aB (fun e=>h (by rw[e];exact dQ))];exact Dd fun e=>h (eH _ e)
def cQ (S:List Nat):List Nat ->Nat ->Nat
 |[],_=>0
 |u::vs,v=>if v=u then cnt S vs else cQ S vs v
theorem TQ:∀ {vs:List Nat} {v:Nat},¬v∈vs ->cQ S vs v=0
 |[],_,_=>rfl
 |u::vs,v,h=>by
  rw[cQ,aB (fun e=>h (by rw[e];exact dQ))];exact TQ fun e=>h (eH _ e)
def pos (S:List Nat) (f:Nat ->Nat) (vs:List Nat):Nat:=vs.foldl (fun k v=>k*sz S v+f v) 0
theorem ajw (S:List Nat) (f:Nat ->Nat) (vs:List Nat) (v:Nat):pos S f (vs++[v])=pos S f vs*sz S v+f v:=by simp[pos]
def gh (g:Nat ->Nat):List Nat ->Nat
 |[]=>0
 |v::vs=>g v+gh g vs
theorem aaM (g:Nat ->Nat) (a b:List Nat):gh g (a++b)=gh g a+gh g b:=by
 induction a with
 |nil=>simp[gh]
 |cons v a ih=>simp only[fM,gh,ih];omega
theorem I5 {g:Nat ->Nat}:∀ {l:List Nat},(∀v∈l,g v=h v) ->gh g l=gh h l
 |[],_=>rfl
 |v::l,e=>by rw[gh,gh,e v dQ,I5 fun u a=>e u (eH _ a)]
theorem Rz (S:List Nat) (f:Nat ->Nat):∀(vs:List Nat) (k:Nat),vs.foldl (fun k v=>k*sz S v+f v) k=k*cnt S vs+pos S f vs
 |[],k=>by simp[pos,cnt]
 |v::vs,k=>by
  have e:pos S f (v::vs)=f v*cnt S vs+pos S f vs:=by
   show vs.foldl (fun k v=>k*sz S v+f v) (0*sz S v+f v)=_;rw[Rz S f vs,mX,bM]
  rw[Ea,Rz S f vs,e,cnt,gC,iU];omega
theorem P5 (S:List Nat) (f:Nat ->Nat):∀ {vs:List Nat},vs.Nodup ->pos S f vs=gh (fun v=>f v*cQ S vs v) vs
 |[],_=>rfl
 |u::vs,h=>by
  rw[q7] at h;rw[pos,Ea,Rz,gh,P5 S f h.2,mX,bM];congr 1
  ·rw[cQ,aA rfl]
  ·exact I5 fun v a=>by rw[cQ,aB (fun e=>h.1 (by rw[<- e];exact a))]
theorem aaN (g:Nat ->Nat) (n:Nat):∀ {vs:List Nat},vs.Nodup ->(∀v∈vs,v<n) ->(∀v,¬v∈vs ->g v=0) ->gh g vs=gh g (List.range n):=by
 intro vs a t c
 have k:∀ {vs:List Nat},vs.Nodup ->(∀v∈vs,v<n) ->gh g vs=gh (fun v=>if v∈vs then g v else 0) (List.range n):=by
  intro vs;induction vs with
  |nil=>
   intro _ _
   have:∀l:List Nat,gh (fun v=>if v∈([]:List Nat) then g v else 0) l=0:=by
    intro l;induction l with
    |nil=>rfl
    |cons x l ih=>rw[gh,ih];simp
   rw[this];rfl
  |cons u vs ih=>
   intro a t;rw[q7] at a;rw[gh,ih a.2 fun v b=>t v (eH _ b)];have d:=t u dQ
   have o:∀m,u< m ->gh (fun v=>if v∈u::vs then g v else 0) (List.range m)=g u+gh (fun v=>if v∈vs then g v else 0) (List.range m):=by
    intro m;induction m with
    |zero=>intro h;omega
    |succ m Vl=>
     intro h;rw[sV,aaM,aaM];by_cases e:u=m
     ·subst e
      have:gh (fun v=>if v∈u::vs then g v else 0) (List.range u)=gh (fun v=>if v∈vs then g v else 0) (List.range u):=I5 fun v b=>by
       (have:¬v=u:=by have:=bJ.1 b;omega);simp[this]
      rw[this];simp[gh,a.1];omega
     ·rw[Vl al];have:¬m=u:=fun h=>e h.symm;simp[gh,this];omega
   rw[o n d]
 rw[k a t]
 exact I5 fun v _=>by
  by_cases h:v∈vs
  ·rw[aA h]
  ·rw[aB h,c v h]
theorem stand {other:List Nat} (n k:Nat) (a:vs.Nodup) (o:other.Nodup) (i:∀v∈vs,v<n) (M:∀v∈other,v<n):gh (fun v=>aT S vs k v*cQ S other v) vs=pos S (aT S vs k) other:=by
 rw[P5 S _ o,aaN _ n a i,aaN _ n o M]
 ·intro v h;rw[TQ h,l5]
 ·intro v h;rw[Dd h,mX]
theorem ap7 (u:Nat) (l:List Nat) (k v:Nat):aT S (u::l) (k % cnt S (u::l)) v=if v=u then k/cnt S l % sz S u else aT S l (k % cnt S l) v:=by
 rw[aT,cnt,ada k _ _,U4]
variable {n v:Nat}
def ag (l:List Int):List Nat:=l.map Int.toNat
theorem cV (l:List Int):(ag l).length=l.length:=by simp[ag]
theorem qj (h:i<l.length):(ag l)[i]'(by rw[cV];exact h)=l[i].toNat:=by simp[ag]
structure eW (l:List Int):Prop where
 one:1<=l.length
 eight:l.length<=8
 each:∀i (h:i<l.length),1<=l[i]/\l[i]<=4
theorem XJ (h:oY l=true):eW l:=by
 rw[oY,gX,eR] at h
 exact⟨h.1.1,h.1.2,fun i a=>by
  have:=gW.1 h.2 l[i] (bB a);simpa [Cx] using this⟩
theorem eW.pos (h:eW l):Pos (ag l):=by
 intro x b;obtain⟨i,a,rfl⟩:=List.mem_iff_getElem.1 b;rw[cV] at a;rw[qj a];have:=h.each i a;omega
theorem eW.sz_le (h:eW l) (v:Nat):sz (ag l) v<=4:=by
 rw[sz];by_cases a:v<l.length
 ·rw[List.getElem?_eq_getElem (by rw[cV];exact a),zY,qj a];have:=h.each v a;omega
 ·rw[iV (by rw[cV];omega)];simp
theorem eW.sz_eq (h:eW l) (a:v<l.length):(sz (ag l) v:Int)=l[v]:=by
 rw[sz,List.getElem?_eq_getElem (by rw[cV];exact a),zY,qj a];have:=h.each v a;omega
structure Up (l:List Int) (n:Nat):Prop where
 each:∀i (h:i<l.length),0<=l[i]/\l[i]<n
 lt:∀i j (hj:j<l.length) (hi:i<j),l[i]<l[j]
theorem Cm (h:dY l n=true):Up l n:=by
 have Q:∀i (a:i<l.length),0<=l[i]/\l[i]<(n:Int)/\(0< i ->l.getD (i - 1) 0<l[i]):=fun i a=>by
  have:=gW.1 h i (bJ.2 a);rw[mo,eR,getD_eq a] at this;exact this
 refine⟨fun i a=>⟨(Q i a).1,(Q i a).2.1⟩,?_⟩;intro i j;induction j with
 |zero=>intro _ h;omega
 |succ j ih=>
  intro d a;have b:=(Q (j+1) d).2.2 al;rw[O1,getD_eq al] at b;rcases cF i j with c |c
  ·have:=ih al c;omega
  ·obtain rfl:i=j:=al
   exact b
theorem Up.nat (h:Up l n) (a:i<l.length):((l[i].toNat:Nat):Int)=l[i]/\l[i].toNat<n:=by
 have:=h.each i a;constructor<;>omega
theorem Up.aa (h:Up l n):∀v∈ag l,v<n:=by
 intro v b;obtain⟨i,a,rfl⟩:=List.mem_iff_getElem.1 b;rw[cV] at a;rw[qj a];exact(h.nat a).2
theorem Up.nodup (h:Up l n):(ag l).Nodup:=by
 rw[List.Nodup,DZ];intro i j a b S;rw[cV] at a b;rw[qj a,qj b];have c:=h.lt i j b S;have d:=h.each i a;omega
theorem Up.ge (h:Up l n):∀i (a:i<l.length),(i:Int)<=l[i]:=by
 intro i;induction i with
 |zero=>intro a;exact(h.each 0 a).1
 |succ i ih=>
  intro a;have:=ih al;have:=h.lt i (i+1) a al;omega
theorem Up.length (h:Up l n):l.length<=n:=by
 rcases Ca l.length with a |a
 ·omega
 ·have b:=h.ge (l.length - 1) al;have c:=(h.each (l.length - 1) al).2;omega
theorem afw (h:∀v,sz S v<=4):∀vs:List Nat,cnt S vs<=4^vs.length
 |[]=>ar _
 |v::vs=>by
  rw[cnt,eA,ji,dJ (4^_)];exact iH (h v) (afw h vs)
theorem qL (h:∀v,sz S v<=4) (a:vs.length<=8):cnt S vs<=65536:=by
 have b:=afw h vs;have c:4^vs.length<=4^8:=kN a6 a;have d:(4:Nat)^8=65536:=a6
 omega
theorem afu (S vs:List Nat) (h:i<vs.length):cnt S (vs.take (i+1))=cnt S (vs.take i)*sz S vs[i]:=by
 rw[fL h,ao9]
def countB (sizes vars:List Int):Bool:=oY sizes&&dY vars sizes.length
def gM (sizes vars:List Int):Int×Int:=if countB sizes vars=true then(((cnt (ag sizes) (ag vars):Nat):Int),0) else(0,11)
theorem Hj {sizes vars:List Int} (h:countB sizes vars=true):gM sizes vars=(((cnt (ag sizes) (ag vars):Nat):Int),0):=aA h
theorem Hk {sizes vars:List Int} (h:countB sizes vars=false):gM sizes vars=(0,11):=aB (by rw[h];decide)
theorem Uf (a b:Option Addr) (ca cb:Nat) (sizes vars:List Int) (w:World) (p:az w a sizes) (q:az w b vars) (L:sizes.length<=140737488355328) (K:vars.length<=140737488355328):
  c6 14 #[.slice a sizes.length ca,.slice b vars.length cb] w (da w (.tuple #[.int .i64 (gM sizes vars).1,.int .i64 (gM sizes vars).2])):=by
 have H:=hid p;have j:=hid q;clear p q;have z:=hid (fun V h=>ajd a ca sizes V h L);have x:=hid (fun V h=>abD b cb vars sizes.length V h K);cases hf:oY sizes with
 |false=>
  have A:=hid (Hk (sizes:=sizes) (vars:=vars) (by rw[countB,hf];rfl));rw[hf] at z;generalize gM sizes vars=r at *;generalize dY vars sizes.length=rb at *;go_enter Tryz.func14,Tryz.ntmps14;go_wp2_with fail
  refine(z.o _ H.o).af ?_;rintro e D ⟨rfl,c⟩;go_wp2_with fail
  refine(x.o _ (j.o.aa c)).af ?_;rintro e E ⟨rfl,d⟩;have f:=c.trans (d.af c.size);go_wp2;go_ret2;exact⟨by rw[A.o];rfl,f⟩
 |true=>
  rw[hf] at z;cases hr:dY vars sizes.length with
  |false=>
   have A:=hid (Hk (sizes:=sizes) (vars:=vars) (by rw[countB,hr,Pg]));rw[hr] at x;generalize gM sizes vars=r at *;go_enter Tryz.func14,Tryz.ntmps14;go_wp2_with fail
   refine(z.o _ H.o).af ?_;rintro e D ⟨rfl,c⟩;go_wp2_with fail
   refine(x.o _ (j.o.aa c)).af ?_;rintro e E ⟨rfl,d⟩;have f:=c.trans (d.af c.size);go_wp2;go_ret2;exact⟨by rw[A.o];rfl,f⟩
  |true=>
   have A:=hid (Hj (sizes:=sizes) (vars:=vars) (by rw[countB,hf,hr];rfl));rw[hr] at x;have m:=XJ hf;have n:=Cm hr;have oO:=m.eight;have U:=n.length;have I:=hid m;have P:=hid n;clear hf hr m n;generalize gM sizes vars=r at *;go_enter Tryz.func14,Tryz.ntmps14;go_wp2_with fail
   refine(z.o _ H.o).af ?_;rintro e D ⟨rfl,c⟩;go_wp2_with fail
   refine(x.o _ (j.o.aa c)).af ?_;rintro e E ⟨rfl,d⟩;have f:=c.trans (d.af c.size);clear c d;go_wp2_with fail
   go_loopw [8,9] (fun nv iv wr=>∃i:Nat,i<=vars.length/\iv=.int .i64 i/\nv=.int .i64 (cnt (ag sizes) ((ag vars).take i):Nat)/\c8 w wr) (fun _ iv _=>vars.length - (intOf iv).toNat)
   case atStart=>exact⟨0,aS _,rfl,rfl,f⟩
   case round=>
    obtain⟨i,T,rfl,rfl,l⟩:=hrel;by_cases t:i<vars.length
    ·obtain⟨g,o,rfl,R,F⟩:=(j.o.aa l) i t;obtain⟨y,u⟩:=P.o.nat t
     have s:cnt (ag sizes) ((ag vars).take (i+1))=cnt (ag sizes) ((ag vars).take i)*sz (ag sizes) vars[i].toNat:=by
      rw[afu _ _ (by rw[cV];exact t),qj t]
     have O:cnt (ag sizes) ((ag vars).take (i+1))<=65536:=qL I.o.sz_le (by rw[eX,cV];omega);generalize hV:vars[i].toNat=v at *;rw[<- y] at F;obtain⟨g',o',rfl,Z,J⟩:=(H.o.aa l) v u;rw[<- I.o.sz_eq u] at J;rw[s] at O;have k:((cnt (ag sizes) ((ag vars).take i):Nat):Int)*((sz (ag sizes) v:Nat):Int)=((cnt (ag sizes) ((ag vars).take i)*sz (ag sizes) v:Nat):Int):=(jl _ _).symm;have S:=hid s;clear s y hV;generalize cnt (ag sizes) ((ag vars).take i)=X at *;generalize sz (ag sizes) v=Y at *;(have xr:0<=(X:Int)*(Y:Int):=by rw[k];omega);(have Q:(X:Int)*(Y:Int)<=65536:=by rw[k];omega);have M:=hid k;clear k;go_wp2;go_roundw
     case rel=>exact⟨i+1,al,bd,by rw[S.o, <- M.o],l⟩
     case measure=>simp[intOf];omega
    ·obtain rfl:i=vars.length:=al
     rw[jA (by rw[cV];exact ar _)];go_wp2;go_ret2;exact⟨by rw[A.o];rfl,l⟩
theorem C9 {l:List Nat} (h:i<l.length):l.getD i 0=l[i]:=by simp[List.getD,h]
theorem RJ {sizes vars:List Int} (h:countB sizes vars=true):eW sizes/\Up vars sizes.length:=by
 rw[countB,gX] at h;exact⟨XJ h.1,Cm h.2⟩
theorem alC (a:Option Addr) (cap:Nat) (l:List Int) (w:World) (h:az w a l) (s:l.length<=140737488355328):
  c6 75 #[.slice a l.length cap] w (da w (.bool (oY l))):=by
 have F:=hid h;clear h;by_cases d:1<=l.length/\l.length<=8
 ·have H:Hid (oY l=l.all Cx):=by show _=_;rw[oY,cY d];rfl
  obtain⟨u,v⟩:=d;generalize oY l=f at *;go_enter Tryz.func75,Tryz.ntmps75;go_wp2_with fail
  go_loopw [15] (fun iv wr=>∃i:Nat,i<=l.length/\iv=.int .i64 i/\Hid ((l.take i).all Cx=true)/\c8 w wr) (fun iv _=>l.length - (intOf iv).toNat)
  case atStart=>exact⟨0,aS _,rfl,rfl,aw _ _⟩
  case round=>
   obtain⟨i,r,rfl,I,b⟩:=hrel;by_cases t:i<l.length
   ·obtain⟨g,o,rfl,q,k⟩:=(F.o.aa b) i t;by_cases e:1<=l[i]/\l[i]<=4
    ·have S:=hid (afW t I.o (p:=Cx) (cY e));obtain⟨m,n⟩:=e;generalize l[i]=x at *;go_wp2;go_roundw
     case rel=>exact⟨i+1,al,bd,S.o,b⟩
     case measure=>simp[intOf];omega
    ·have E:Hid (f=false):=by show _=_;rw[H.o];exact afX t (cK e)
     rcases (show l[i]<1∨(1<=l[i]/\4<l[i]) by omega) with c |⟨c,j⟩
     all_goals
      clear e;generalize l[i]=x at *;go_wp2;go_ret;exact⟨by rw[E.o];rfl,b⟩
   ·have E:Hid (f=true):=by
     show _=_;rw[H.o];have:=I.o;rwa [jA al] at this
    go_wp2;go_ret;exact⟨by rw[E.o];rfl,b⟩
 ·have E:Hid (oY l=false):=by show _=_;rw[oY,cK d];rfl
  generalize oY l=f at *;go_enter Tryz.func75,Tryz.ntmps75;rcases (show l.length<1∨(1<=l.length/\8<l.length) by omega) with c |⟨c,j⟩
  all_goals
   go_wp2;go_ret;exact⟨by rw[E.o];rfl,aw _ _⟩
def least (l:List Int) (i:Nat):Int:=if i=0 then 0 else l.getD (i - 1) 0+1
theorem ads (h:i<l.length):least l (i+1)=l[i]+1:=by
 rw[least,aB al,O1,getD_eq h]
theorem acJ {n:Int} (d:i<l.length) (h:(List.range i).all (mo l n)=true):mo l n i=decide (least l i<=l[i]/\l[i]<n)/\0<=least l i:=by
 rw[mo,getD_eq d,least];by_cases b:i=0
 ·subst b;refine⟨?_,aE⟩;simp
 ·have p:=gW.1 h (i - 1) (bJ.2 al);rw[mo,eR,getD_eq al] at p;rw[aB b,getD_eq al];refine⟨?_,al⟩;rw[BS];constructor
  ·intro ⟨_,a,c⟩;have:=c al;exact⟨al,a⟩
  ·intro ⟨e,a⟩;exact⟨al,a,fun _=>al⟩
theorem aiD (a:Option Addr) (cap:Nat) (l:List Int) (n:Int) (w:World) (h:az w a l) (u:l.length<=140737488355328) (M:n<=140737488355328):
  c6 76 #[.slice a l.length cap,.int .i64 n] w (da w (.bool (dY l n))):=by
 have F:=hid h;clear h;have d:=hid (fun i h e=>T3 (l:=l) (n:=n) (i:=i) h e);have T:Hid ((List.range l.length).all (mo l n)=true ->dY l n=true):=id;generalize dY l n=rb at *;go_enter Tryz.func76,Tryz.ntmps76;go_wp2_with fail
 go_loopw [5,10] (fun lv iv wr=>∃i:Nat,i<=l.length/\iv=.int .i64 i/\lv=.int .i64 (least l i)/\Hid ((List.range i).all (mo l n)=true)/\c8 w wr) (fun _ iv _=>l.length - (intOf iv).toNat)
 case atStart=>exact⟨0,aS _,rfl,rfl,rfl,aw _ _⟩
 case round=>
  obtain⟨i,s,rfl,rfl,H,b⟩:=hrel;by_cases t:i<l.length
  ·obtain⟨g,o,rfl,r,j⟩:=(F.o.aa b) i t;obtain⟨Q,v⟩:=acJ t H.o;have X:=hid (ads t);have c:=hid Q;clear Q;generalize least l i=m at *;generalize l[i]=x at *;by_cases e:m<=x/\x<n
   ·have S:=hid (PM H.o (by rw[c.o];exact cY e));obtain⟨k,p⟩:=e;go_wp2;go_roundw
    case rel=>exact⟨i+1,al,bd,by rw[X.o],S.o,b⟩
    case measure=>simp[intOf];omega
   ·have E:=hid (d.o i t (by rw[c.o];exact cK e));rcases (show x<m∨(m<=x/\n<=x) by omega) with f |⟨f,q⟩
    all_goals
     clear e;go_wp2;go_ret;exact⟨by rw[E.o];rfl,b⟩
  ·obtain rfl:i=l.length:=al
   have E:=hid (T.o H.o);go_wp2;go_ret;exact⟨by rw[E.o];rfl,b⟩
theorem afs (a b:Option Addr) (ca cb:Nat) (sizes vars:List Int) (w:World) (d:az w a sizes) (e:az w b vars) (M:eW sizes) (c:Up vars sizes.length):
  c6 77 #[.slice a sizes.length ca,.slice b vars.length cb] w (da w (.int .i64 (cnt (ag sizes) (ag vars):Nat))):=by
 have H:=hid d;have V:=hid e;have O:=M.eight;have x:=c.length;have I:=hid M;have P:=hid c;clear d e M c;have u:Hid (cnt (ag sizes) ((ag vars).take vars.length)=cnt (ag sizes) (ag vars)):=by show _=_;rw[jA (by rw[cV];exact ar _)]
 go_enter Tryz.func77,Tryz.ntmps77;go_wp2_with fail
 go_loopw [5,10] (fun nv iv wr=>∃i:Nat,i<=vars.length/\iv=.int .i64 i/\nv=.int .i64 (cnt (ag sizes) ((ag vars).take i):Nat)/\c8 w wr) (fun _ iv _=>vars.length - (intOf iv).toNat)
 case atStart=>exact⟨0,aS _,rfl,rfl,aw _ _⟩
 case round=>
  obtain⟨i,t,rfl,rfl,h⟩:=hrel;by_cases l:i<vars.length
  ·obtain⟨g,o,rfl,r,k⟩:=(V.o.aa h) i l;obtain⟨q,j⟩:=P.o.nat l
   have s:cnt (ag sizes) ((ag vars).take (i+1))=cnt (ag sizes) ((ag vars).take i)*sz (ag sizes) vars[i].toNat:=by
    rw[afu _ _ (by rw[cV];exact l),qj l]
   have p:cnt (ag sizes) ((ag vars).take (i+1))<=65536:=qL I.o.sz_le (by rw[eX,cV];omega);generalize hV:vars[i].toNat=v at *;rw[<- q] at k;obtain⟨g',o',rfl,y,m⟩:=(H.o.aa h) v j;rw[<- I.o.sz_eq j] at m;rw[s] at p;have f:((cnt (ag sizes) ((ag vars).take i):Nat):Int)*((sz (ag sizes) v:Nat):Int)=((cnt (ag sizes) ((ag vars).take i)*sz (ag sizes) v:Nat):Int):=(jl _ _).symm;have S:=hid s;clear s q hV;generalize cnt (ag sizes) ((ag vars).take i)=X at *;generalize sz (ag sizes) v=Y at *;(have z:0<=(X:Int)*(Y:Int):=by rw[f];omega);(have A:(X:Int)*(Y:Int)<=65536:=by rw[f];omega);have n:=hid f;clear f;go_wp2;go_roundw
   case rel=>exact⟨i+1,al,bd,by rw[S.o, <- n.o],h⟩
   case measure=>simp[intOf];omega
  ·obtain rfl:i=vars.length:=al
   rw[u.o];go_wp2;go_ret;exact⟨rfl,h⟩
theorem Px (a b:Option Addr) (ca cb:Nat) (sizes vars:List Int) (w:World) (s:az w a sizes) (v:az w b vars) (n:sizes.length<=140737488355328) (m:vars.length<=140737488355328):
  c6 41 #[.slice a sizes.length ca,.slice b vars.length cb] w (da w (.tuple #[.int .i64 (gM sizes vars).1,.int .i64 (gM sizes vars).2])):=by
 have H:=hid s;have f:=hid v;clear s v;have z:=hid (fun V h=>alC a ca sizes V h n);have x:=hid (fun V h=>aiD b cb vars sizes.length V h m al);cases hf:oY sizes with
 |false=>
  have A:=hid (Hk (sizes:=sizes) (vars:=vars) (by rw[countB,hf];rfl));rw[hf] at z;generalize gM sizes vars=r at *;go_enter Tryz.func41,Tryz.ntmps41;go_wp2_with fail
  refine(z.o _ H.o).af ?_;rintro e i ⟨rfl,c⟩;go_wp2;go_ret2;exact⟨by rw[A.o];rfl,c⟩
 |true=>
  rw[hf] at z;cases hr:dY vars sizes.length with
  |false=>
   have A:=hid (Hk (sizes:=sizes) (vars:=vars) (by rw[countB,hr,Pg]));rw[hr] at x;generalize gM sizes vars=r at *;go_enter Tryz.func41,Tryz.ntmps41;go_wp2_with fail
   refine(z.o _ H.o).af ?_;rintro e i ⟨rfl,c⟩;go_wp2_with fail
   refine(x.o _ (f.o.aa c)).af ?_;rintro e l ⟨rfl,g⟩;have d:=c.trans (g.af c.size);go_wp2;go_ret2;exact⟨by rw[A.o];rfl,d⟩
  |true=>
   have A:=hid (Hj (sizes:=sizes) (vars:=vars) (by rw[countB,hf,hr];rfl));rw[hr] at x;have S:=hid (fun V j k=>afs a b ca cb sizes vars V j k (XJ hf) (Cm hr));generalize gM sizes vars=r at *;go_enter Tryz.func41,Tryz.ntmps41;go_wp2_with fail
   refine(z.o _ H.o).af ?_;rintro e i ⟨rfl,c⟩;go_wp2_with fail
   refine(x.o _ (f.o.aa c)).af ?_;rintro e l ⟨rfl,g⟩;have d:=c.trans (g.af c.size);go_wp2_with fail
   refine(S.o _ (H.o.aa d) (f.o.aa d)).af ?_;rintro e q ⟨rfl,p⟩;go_wp2;go_ret2;exact⟨by rw[A.o];rfl,d.trans (p.af d.size)⟩
theorem alY (a:Option Addr) (ca:Nat) (sizes:List Int) (v:Nat) (x:Int) (w:World) (s:az w a sizes) (M:eW sizes) (h:v<sizes.length):
  c6 140 #[.slice a sizes.length ca,.int .i64 (v:Nat),.int .i64 x] w (da w (.bool (decide (0<=x/\x<(sz (ag sizes) v:Int))))):=by
 obtain⟨g,o,rfl,k,c⟩:=s v h;rw[<- M.sz_eq h] at c;have O:=M.eight;generalize sz (ag sizes) v=Y at *;by_cases e:0<=x/\x<(Y:Int)
 ·rw[cY e];obtain⟨f,i⟩:=e;go_enter Tryz.func140,Tryz.ntmps140;go_wp2;go_ret;exact⟨rfl,aw _ _⟩
 ·rw[cK e];rcases (show x<0∨(0<=x/\(Y:Int)<=x) by omega) with d |⟨d,j⟩
  all_goals
   clear e;go_enter Tryz.func140,Tryz.ntmps140;go_wp2;go_ret
   first
    |exact⟨rfl,aw _ _⟩
    |exact⟨bU (fun b=>Ending.returned (Value.bool b)) (cK al),aw _ _⟩
def aC:List Nat ->Nat
 |[]=>0
 |v::l=>aC l |||2^v
theorem tu (l:List Nat) (v:Nat):(aC l).testBit v=decide (v∈l):=by
 induction l with
 |nil=>simp[aC]
 |cons u l ih=>
  rw[aC,Nat.testBit_or,ih,Nat.testBit_two_pow];by_cases h:u=v
  ·subst h;simp
  ·have a:¬v=u:=fun e=>h e.symm;simp[h,a]
theorem UY {a b:List Nat} (h:∀x,x∈a↔x∈b):aC a=aC b:=by
 apply O0;intro i;rw[tu,tu];exact BS.2 (h i)
theorem wT:∀ {l:List Nat},(∀v∈l,v<8) ->aC l<256
 |[],_=>a6
 |v::l,h=>by
  have a:=wT (l:=l) fun u c=>h u (eH _ c);have b:2^v<2^8:=S5 a6 (h v dQ);exact Nat.or_lt_two_pow (n:=8) a b
theorem apR (s v:Nat):(s/2^v&&&1=1)↔s.testBit v=true:=by
 rw[Nat.testBit_eq_decide_div_mod_eq,eR,Nat.and_one_is_mod]
theorem amE {s p:Nat} (g:s<256) (f:p<256):(p&&&(4294967295 - s)=0)↔∀v,p.testBit v=true ->s.testBit v=true:=by
 have e:4294967295 - s=2^32 - (s+1):=al
 have d:s<2^32:=al
 rw[e];constructor
 ·intro h v b;have c:(p&&&(2^32 - (s+1))).testBit v=false:=by rw[h];simp
  rw[Nat.testBit_and,b,S3 d,K0] at c
  have l:v<32:=by
   rcases cF v 32 with a |a
   ·exact a
   ·have:=Nat.testBit_lt_two_pow (x:=p) (i:=v) (aU (show p<2^32 by omega) (kN a6 a));rw[this] at b;cases b
  simpa [l] using c
 ·intro h;apply O0;intro i;rw[Nat.testBit_and,S3 d,Nat.zero_testBit];cases hp':p.testBit i
  ·rfl
  ·rw[h i hp'];simp
theorem Jb (l:List Nat) (v:Nat) (w:World) (h:∀u∈l,u<8) (b:v<8):
  c6 129 #[.int .u32 (aC l:Nat),.int .i64 (v:Nat)] w fun e w'=>e=.returned (.int .u32 (aC (v::l):Nat))/\w'=w:=by
 have d:=wT h;have c:2^v<256:=show 2^v<2^8 from S5 a6 b
 have E:Hid (bits BinOp.or IntKind.u32 (aC l:Nat) (2^v % 4294967296)=((aC (v::l):Nat):Int)):=by
  show _=_
  have e:((2:Int)^v % 4294967296)=((2^v:Nat):Int):=by
   (have a:((2:Int)^v)=((2^v:Nat):Int):=by rw[Int.natCast_pow];rfl);rw[a];generalize (2^v:Nat)=q at *;omega
  rw[e,u32_or_nat _ _ al al];rfl
 generalize aC (v::l)=r at *;generalize aC l=s at *;go_enter Tryz.func129,Tryz.ntmps129;go_wp2;go_ret;exact⟨by rw[E.o];rfl,rfl⟩
theorem T1 (l:List Nat) (v:Nat) (w:World) (h:∀u∈l,u<8) (b:v<8):
  c6 180 #[.int .u32 (aC l:Nat),.int .i64 (v:Nat)] w fun e w'=>e=.returned (.bool (decide (v∈l)))/\w'=w:=by
 have a:=wT h
 have E:Hid ((bits BinOp.and IntKind.u32 ((aC l:Nat)/2^v) 1==1)=decide (v∈l)):=by
  show _=_;have e:(((aC l:Nat):Int)/2^v)=((aC l/2^v:Nat):Int):=by rw[vp,Int.natCast_pow];rfl
  have c:aC l/2^v<=aC l:=wF _ _;rw[e,show (1:Int)=((1:Nat):Int) from rfl,u32_and_nat _ _ al al, <- tu,td, <- apR,sU];omega
 generalize decide (v∈l)=r at *;generalize aC l=s at *;go_enter Tryz.func180,Tryz.ntmps180;go_wp2;go_ret;exact⟨by rw[E.o];rfl,rfl⟩
theorem aiw (l p:List Nat) (w:World) (a:∀u∈l,u<8) (b:∀u∈p,u<8):
  c6 220 #[.int .u32 (aC l:Nat),.int .u32 (aC p:Nat)] w fun e w'=>e=.returned (.bool (decide (∀v∈p,v∈l)))/\w'=w:=by
 have c:=wT a;have q:=wT b
 have E:Hid ((bits BinOp.andNot IntKind.u32 (aC p:Nat) (aC l:Nat)==0)=decide (∀v∈p,v∈l)):=by
  show _=_;have h:=amE c q;simp only[tu,S1] at h;rw[u32_andNot_nat _ _ al al,td,sU,eR, <- h];omega
 generalize decide (∀v∈p,v∈l)=r at *;generalize aC l=s at *;generalize aC p=t at *;go_enter Tryz.func220,Tryz.ntmps220;go_wp2;go_ret;exact⟨by rw[E.o];rfl,rfl⟩
theorem abu (f:n<=8) (h:(List.range i).all (mo l n)=true) (e:i<=l.length):∀u∈ag (l.take i),u<8:=by
 intro u c;obtain⟨x,d,rfl⟩:=bc.1 c;obtain⟨j,b,rfl⟩:=ij d;rw[eX] at b;have a:=gW.1 h j (bJ.2 al);rw[mo,eR,getD_eq al] at a;rw[Ce];omega
def setA (l:List Int) (n:Nat):Nat:=if dY l n=true then aC (ag l) else 0
theorem abc (a:Option Addr) (cap:Nat) (l:List Int) (n:Nat) (w:World) (h:az w a l) (O:l.length<=140737488355328) (M:n<=8):
  c6 119 #[.slice a l.length cap,.int .i64 (n:Nat)] w fun e w'=>e=.returned (.tuple #[.int .u32 (setA l n:Nat),.bool (dY l n)])/\w'=w:=by
 have F:=hid h;clear h;have c:=hid (fun i h e=>T3 (l:=l) (n:=n) (i:=i) h e);have T:Hid ((List.range l.length).all (mo l n)=true ->dY l n=true):=id;have r:Hid (dY l n=true ->setA l n=aC (ag l)):=fun h=>aA h;have D:Hid (dY l n=false ->setA l n=0):=fun h=>aB (by rw[h];decide);generalize dY l n=rb at *;generalize setA l n=P at *;go_enter Tryz.func119,Tryz.ntmps119;go_wp2_with fail
 go_loopw [6,7,12] (fun sv lv iv wr=>∃i:Nat,i<=l.length/\iv=.int .i64 i/\lv=.int .i64 (least l i)/\sv=.int .u32 (aC (ag (l.take i)):Nat)/\Hid ((List.range i).all (mo l n)=true)/\wr=w) (fun _ _ iv _=>l.length - (intOf iv).toNat)
 case atStart=>exact⟨0,aS _,rfl,rfl,rfl,rfl,rfl⟩
 case round=>
  obtain⟨i,f,rfl,rfl,rfl,H,rfl⟩:=hrel;by_cases t:i<l.length
  ·obtain⟨g,o,rfl,L,y⟩:=F.o i t;obtain⟨Q,V⟩:=acJ t H.o;have q:=hid (ads t);have b:=hid Q;have k:=hid (abu M H.o f)
   have s:Hid (∀x:Nat,(x:Int)=l[i] ->aC (x::ag (l.take i))=aC (ag (l.take (i+1)))):=fun x j=>UY fun z=>by
    rw[fL t, <- j,ag,ag,fg];simp only[dR,dh,gV,lx,l8,ye,nh];exact or_comm
   clear Q;generalize hs1:aC (ag (l.take (i+1)))=R at *;have p:=hid hs1;clear hs1;generalize ag (l.take i)=v at *;generalize least l i=m at *;generalize l[i]=x at *;by_cases e:m<=x/\x<n
   ·have S:=hid (PM H.o (by rw[b.o];exact cY e));obtain⟨I,J⟩:=e;obtain⟨X,rfl⟩:∃X:Nat,x=X:=⟨x.toNat,al⟩;have u:=s.o X rfl;go_wp2_with fail
    refine(Jb v X _ k.o al).af ?_;rintro e U ⟨rfl,rfl⟩;rw[u];go_wp2;go_roundw
    case rel=>exact⟨i+1,al,bd,by rw[q.o],by rw[p.o],S.o,trivial⟩
    case measure=>simp[intOf];omega
   ·have E:=hid (c.o i t (by rw[b.o];exact cK e));rcases (show x<m∨(m<=x/\(n:Int)<=x) by omega) with d |⟨d,K⟩
    all_goals
     clear e;go_wp2;go_ret2;exact⟨by rw[D.o E.o,E.o];rfl,rfl⟩
  ·obtain rfl:i=l.length:=al
   have E:=hid (T.o H.o);have A:=hid (r.o E.o);rw[fD];go_wp2;go_ret2;exact⟨by rw[A.o,E.o];rfl,rfl⟩
theorem I6 {α:Type} {P:List α ->Prop} (h0:P []) (h1:∀l a,P l ->P (l++[a])) (l:List α):P l:=by
 have h:∀m:List α,P m.reverse:=by
  intro m;induction m with
  |nil=>exact h0
  |cons a m ih=>rw[List.reverse_cons];exact h1 _ _ ih
 have:=h l.reverse;rwa [List.reverse_reverse] at this
def nb (l:List UInt8):Nat:=l.foldl (fun n c=>n*256+c.toNat) 0
theorem Gn:nb []=0:=rfl
theorem Ap (l:List UInt8) (c:UInt8):nb (l++[c])=nb l*256+c.toNat:=by simp[nb]
theorem Ep (a b:List UInt8):nb (a++b)=nb a*256^b.length+nb b:=by
 induction b using I6 with
 |h0=>simp[Gn]
 |h1 l c ih=>
  rw[<- sX,Ap,ih,Ap,dm,O5,ji,gC,iU,DY]
theorem akR (c:UInt8):nb [c]=c.toNat:=by simp[nb]
theorem Gp (c:UInt8) (l:List UInt8):nb (c::l)=c.toNat*256^l.length+nb l:=by
 have:=Ep [c] l;rwa [List.singleton_append,akR] at this
theorem vA (l:List UInt8):nb l<256^l.length:=by
 induction l using I6 with
 |h0=>simp[Gn]
 |h1 l c ih=>
  rw[Ap,dm,O5,ji];have:=c.toNat_lt;omega
def bn (n:Nat):List UInt8:=if _h:n=0 then[] else bn (n/256)++[UInt8.ofNat (n % 256)]
theorem rN:bn 0=[]:=by rw[bn];simp
theorem rO (n:Nat) (h:n≠0):bn n=bn (n/256)++[UInt8.ofNat (n % 256)]:=by rw[bn];simp[h]
theorem ofNat_toNat (n:Nat):(UInt8.ofNat (n % 256)).toNat=n % 256:=aE
theorem UW (n:Nat):nb (bn n)=n:=by
 induction n using Nat.strongRecOn with
 |ind n ih=>
  by_cases h:n=0
  ·subst h;simp[rN,Gn]
  ·rw[rO n h,Ap,ih (n/256) al,ofNat_toNat];omega
theorem apP (n:Nat) (c:UInt8) (h:n≠0∨c.toNat≠0):bn (n*256+c.toNat)=bn n++[c]:=by
 have a:=c.toNat_lt;rw[rO _ al,show (n*256+c.toNat)/256=n by omega,show (n*256+c.toNat) % 256=c.toNat by omega];simp
theorem X8 (l:List UInt8):bn (nb l)=l.dropWhile (·==0):=by
 induction l using I6 with
 |h0=>simp[Gn,rN]
 |h1 l c ih=>
  rw[Ap];by_cases h:nb l≠0∨c.toNat≠0
  ·rw[apP _ _ h,ih];by_cases a:l.dropWhile (·==0)=[]
   ·have z:nb l=0:=by rw[<- UW (nb l),ih,a,Gn]
    (have b:c≠0:=by intro e;subst e;simp[z] at h);rw[a,List.dropWhile_append,a];simp[b]
   ·rw[List.dropWhile_append];simp[a]
  ·have h1:nb l=0:=al
   (have d:c.toNat=0:=al);(have b:c=0:=by simpa [<- OX] using d);rw[h1,d];rw[h1,rN] at ih;rw[List.dropWhile_append, <- ih];simp[b,rN]
theorem X9 {a b:Nat} (h:a<=b):(bn a).length<=(bn b).length:=by
 induction a using Nat.strongRecOn generalizing b with
 |ind a ih=>
  by_cases c:a=0
  ·subst c;simp[rN]
  ·rw[rO a c,rO b al];have:= @ih (a/256) al (b/256) al;simp;omega
def W:Nat:=4294967296
theorem iD:W=4294967296:=rfl
theorem mK:0<W:=a6
def nw:List Nat ->Nat
 |[]=>0
 |x::r=>x+W*nw r
theorem oH:nw []=0:=rfl
theorem lG (x:Nat) (r:List Nat):nw (x::r)=x+W*nw r:=rfl
theorem Cy (a b:List Nat):nw (a++b)=nw a+W^a.length*nw b:=by
 induction a with
 |nil=>simp[oH]
 |cons x a ih=>rw[fM,lG,lG,ih,eA,ji,nZ];rw[dJ (W^a.length) W,iU];omega
theorem Eo (a:List Nat) (x:Nat):nw (a++[x])=nw a+W^a.length*x:=by rw[Cy,lG,oH];simp
def Small (l:List Nat):Prop:=∀x∈l,x<W
theorem wQ (l:List Nat) (h:Small l):nw l<W^l.length:=by
 induction l with
 |nil=>simp[oH]
 |cons x r ih=>
  have a:=ih (fun y b=>h y (eH _ b));have c:=h x (dQ);rw[lG,eA,ji];have:W*(nw r+1)<=W*W^r.length:=l6 _ a;rw[dJ (W^r.length) W];rw[nZ] at this;omega
def words (n:Nat):List Nat:=if _h:n=0 then[] else(n % 4294967296)::words (n/4294967296)
theorem yh:words 0=[]:=by rw[words,dif_pos rfl]
theorem Ci (n:Nat) (h:n≠0):words n=(n % W)::words (n/W):=by rw[words,dif_neg h,iD]
theorem RI (h:n≠0):n/W<n:=Nat.div_lt_self (lZ h) a6
theorem lF (n:Nat):nw (words n)=n:=by
 induction n using Nat.strongRecOn with
 |ind n ih=>
  by_cases h:n=0
  ·subst h;simp[yh,oH]
  ·rw[Ci n h,lG,ih _ (RI h)];exact Nat.mod_add_div n W
theorem oB (n:Nat):Small (words n):=by
 induction n using Nat.strongRecOn with
 |ind n ih=>
  by_cases h:n=0
  ·subst h;simp[yh,Small]
  ·rw[Ci n h];intro x a;rcases dR.1 a with rfl |a
   ·exact iw _ mK
   ·exact ih _ (RI h) x a
theorem Pn (n:Nat):words n=[]↔n=0:=by
 constructor
 ·intro h;rw[<- lF n,h,oH]
 ·rintro rfl;exact yh
theorem Z6 (n:Nat) (h:words n≠[]):(words n).getLast h≠0:=by
 induction n using Nat.strongRecOn with
 |ind n ih=>
  have b:n≠0:=fun e=>h ((Pn n).2 e);by_cases a:words (n/W)=[]
  ·have z:=(Pn _).1 a
   have:(words n).getLast h=n % W:=by
    have w:=Ci n b;rw[a] at w;simp[w]
   rw[this];intro m;have:=Nat.mod_add_div n W;rw[m,z] at this;simp at this;exact b this.symm
  ·have:(words n).getLast h=(words (n/W)).getLast a:=by
    have w:=Ci n b;simp only[w];rw[List.getLast_cons a]
   rw[this];exact ih _ (RI b) a
theorem agR (l:List Nat) (s:Small l) (b:∀h:l≠[],l.getLast h≠0):words (nw l)=l:=by
 induction l with
 |nil=>simp[oH,yh]
 |cons x r ih=>
  have c:=s x (dQ);have a:words (nw r)=r:=ih (fun y d=>s y (eH _ d)) (fun h=>by have:=b aE;rwa [List.getLast_cons h] at this)
  have e:nw (x::r)≠0:=by
   intro h;rw[lG] at h;(have f:x=0:=al)
   have L:nw r=0:=by
    (have:W*nw r=0:=al);rcases Nat.mul_eq_zero.1 this with h |h
    ·simp[W] at h
    ·exact h
   rw[L,yh] at a;subst a;exact b aE (by simpa using f)
  rw[Ci _ e,lG,ZN,jM c,Nat.add_mul_div_left _ _ mK,zZ c,bM,a]
theorem Po (n:Nat):(words n).length=((bn n).length+3)/4:=by
 induction n using Nat.strongRecOn with
 |ind n ih=>
  by_cases h:n=0
  ·subst h;simp[yh,rN]
  ·rw[Ci n h,eA,ih _ (RI h)];by_cases a:n/256=0
   ·rw[rO n h,a,rN,show n/W=0 by simp only[W];omega,rN];simp
   ·by_cases b:n/256/256=0
    ·rw[rO n h,rO _ a,b,rN,show n/W=0 by simp only[W];omega,rN];simp
    ·by_cases c:n/256/256/256=0
     ·rw[rO n h,rO _ a,rO _ b,c,rN,show n/W=0 by simp only[W];omega,rN];simp
     ·rw[rO n h,rO _ a,rO _ b,rO _ c,show n/256/256/256/256=n/W by simp only[W];omega];simp;omega
def part (n i:Nat):Nat:=n/W^i % W
theorem ajR (n:Nat):part n 0=n % W:=by rw[part,KP,Cb]
theorem ajS (n i:Nat):part n (Nat.succ i)=part (n/W) i:=by rw[part,part,Nat.succ_eq_add_one,ji,dJ,S8]
theorem agT (i:Nat):∀n,i<(words n).length ->(words n)[i]? =some (part n i):=by
 induction i with
 |zero=>
  intro n h;have a:n≠0:=by rintro rfl;rw[yh] at h;simp at h
  rw[Ci n a,ajR];rfl
 |succ i ih=>
  intro n h;have a:n≠0:=by rintro rfl;rw[yh] at h;simp at h
  rw[Ci n a,eA] at h;rw[Ci n a,List.getElem?_cons_succ,ih _ (Nat.lt_of_succ_lt_succ h), <- ajS]
theorem agU (n:Nat):words n=(List.range (words n).length).map (part n):=by
 apply IQ;intro i;rw[pL];by_cases h:i<(words n).length
 ·rw[agT i n h,Ti h];rfl
 ·rw[iV al,iV (by simpa using h)];rfl
theorem aqp (i:Nat):W^i=256^(4*i):=by rw[Nat.pow_mul];rfl
theorem ajT (l:List UInt8) (i:Nat) (h:4*i<=l.length):nb ((l.take (l.length - 4*i)).drop (l.length - 4*i - 4))=part (nb l) i:=by
 have a:nb (l.take (l.length - 4*i))=nb l/W^i:=by
  have u:=Cc (l.length - 4*i) l;have n:=Ep (l.take (l.length - 4*i)) (l.drop (l.length - 4*i));rw[u] at n;have e:(l.drop (l.length - 4*i)).length=4*i:=by simp;omega
  rw[e] at n;have t:=vA (l.drop (l.length - 4*i));rw[e] at t;have p:0<256^(4*i):=vh a6;rw[aqp,n,DX,Ta _ _ p,zZ t,bM]
 rw[part, <- a];generalize hm:l.take (l.length - 4*i)=m;have r:m.length=l.length - 4*i:=by rw[<- hm];simp
 rw[<- r];have n:=Ep (m.take (m.length - 4)) (m.drop (m.length - 4));rw[Cc] at n;by_cases b:4<=m.length
 ·have e:(m.drop (m.length - 4)).length=4:=by simp;omega
  have t:=vA (m.drop (m.length - 4));rw[e] at n t;rw[n,show (256:Nat)^4=W from rfl,DX,S9];exact(jM t).symm
 ·have z:m.length - 4=0:=al
  rw[z,Aa];have t:=vA m;have:256^m.length<=256^4:=kN a6 al;exact(jM (by show nb m<256^4;omega)).symm
theorem UK (l:List Nat) (k:Nat) (h:k<l.length):nw (l.take (k+1))=nw (l.take k)+W^k*l[k]:=by
 rw[fL h,Eo,eX,wE (vk h)]
theorem I7 {l:List Nat} (h:Small l) (k:Nat):Small (l.take k):=fun x a=>h x (O3 a)
theorem Tq (l:List Nat) (s:Small l) (k:Nat) (b:k<=l.length) (n:nw (l.take k)=nw l) (a:k=0∨l[k - 1]?.getD 0≠0):words (nw l)=l.take k:=by
 rw[<- n];refine agR _ (I7 s k) fun h=>?_;rcases a with rfl |a
 ·simp at h
 ·have c:k≠0:=by rintro rfl;simp at h
  rw[List.getLast_eq_getElem];simp only[eX,wE b,Ce];rwa [List.getElem?_eq_getElem al] at a
theorem Pm (l:List Nat) (s:Small l):∃k,k<=l.length/\words (nw l)=l.take k:=by
 induction l using I6 with
 |h0=>exact⟨0,ar _,by rw[oH,yh];rfl⟩
 |h1 l a ih=>
  by_cases h:a=0
  ·subst h;obtain⟨k,b,e⟩:=ih (fun x c=>s x (Te _ c));refine⟨k,by simp;omega,?_⟩;rw[Eo,l5,fZ,e,ZO b]
  ·refine⟨(l++[a]).length,ar _,?_⟩;exact Tq _ s _ (ar _) (by rw[fD]) (Or.inr (by simpa using h))
theorem ahq (l q:List Nat) (m y:Nat) (h:m<l.length):(l.take (m+1)++q).set m y=l.take m++y::q:=by
 rw[fL h,sX];have e:(l.take m).length=m:=by simp;omega
 rw[F7 _ _ al,e,rZ];rfl
section
open Go.Shelf
attribute [local go_sem] Oper.semAt_some
variable {Bn:Nat}
def N (s:ByteArray):Nat:=nb s.data.toList
def B (n:Nat):ByteArray:=⟨(bn n).toArray⟩
theorem bS (n:Nat):N (B n)=n:=UW n
theorem lq (n:Nat):(B n).size=(bn n).length:=by simp[B,ByteArray.size]
theorem ag9 (s:ByteArray):(⟨(Lib.trimLeftB s.data.toList 0).toArray⟩:ByteArray)=B (N s):=by
 rw[B,N,X8];rfl
theorem Co {k:IntKind} {a b:Int} (h:a=b):Ending.returned (.int k a)=.returned (.int k b):=by rw[h]
theorem int_eq {k:IntKind} {a b:Int} (h:a=b):Value.int k a=.int k b:=by rw[h]
theorem Fg (s:ByteArray) (w:World):
  c6 198 #[.string s] w fun e w'=>e=.returned (.string (B (N s)))/\w'=w:=by
 rw[<- ag9];go_enter Tryz.func198,Tryz.ntmps198;go_wp2_with (go_at_call 229;refine(Tryz.strings_TrimLeft_one _ 0 a6 _).af ?_;rintro e w' ⟨rfl,rfl⟩)
 go_ret;exact⟨rfl,rfl⟩
theorem afr (s:ByteArray) (w:World) (h:s.size<=140737488355328):
  c6 207 #[.string s] w fun e w'=>e=.returned (.int .i64 ((s.size+3)/4:Nat))/\w'=w:=by
 go_enter Tryz.func207,Tryz.ntmps207;go_wp2;go_ret;exact⟨Co al,rfl⟩
theorem ako (p c:Nat) (a:p<16777216) (h:c<256):bits .or .u32 ((p:Int)*256) (c:Int)=((p*256+c:Nat):Int):=by
 have e:(p:Int)*256=((p*256:Nat):Int):=al
 rw[e,u32_or_nat _ _ al al,nat_join 8 _ _ al h]
theorem Li (s:ByteArray) (k:Nat) (h:k<s.size):s.data.toList.take (k+1)=s.data.toList.take k++[s[k]]:=by
 rw[fL (by simpa using h)];rfl
theorem akS (l:List UInt8) (k:Nat) (h:l.length<=k):nb l<256^k:=
 aU (vA l) (kN a6 h)
theorem aiH (s:ByteArray) (w:World) (d:s.size<=4):
  c6 236 #[.string s] w fun e w'=>e=.returned (.int .u32 (N s))/\w'=w:=by
 go_enter Tryz.func236,Tryz.ntmps236;go_wp2;go_loop [3,7] (fun n i=>∃k:Nat,k<=s.size/\i=.int .i64 k/\n=.int .u32 (nb (s.data.toList.take k))) (fun _ i=>s.size - (intOf i).toNat)
 case atStart=>exact⟨0,aS _,rfl,rfl⟩
 case round=>
  obtain⟨k,a,rfl,rfl⟩:=hrel;by_cases h:k<s.size
  ·have b:nb (s.data.toList.take k)<16777216:=akS _ 3 (by simp;omega);have c:=s[k].toNat_lt;(have S:Hid (nb (s.data.toList.take (k+1))=nb (s.data.toList.take k)*256+s[k].toNat):=by rw[Li s k h,Ap];rfl);have H:Hid (bits .or .u32 ((nb (s.data.toList.take k):Int)*256) (s[k].toNat:Int)=((nb (s.data.toList.take k)*256+s[k].toNat:Nat):Int)):=ako _ _ b c;generalize nb (s.data.toList.take k)=p at *;go_wp2;go_round
   case rel=>exact⟨k+1,al,bd,by rw[S.o];exact int_eq H.o⟩
   case measure=>simp[intOf];omega
  ·go_wp2;go_ret;exact⟨Co (by rw[N,jA (by simp;omega)]),rfl⟩
def pg (Bn:Nat) (V V':World):Prop:=V'.cell? ⟨Bn,0,none⟩=V.cell? ⟨Bn,0,none⟩
theorem pg.t {A B C:World} (h:pg Bn A B) (k:pg Bn B C):pg Bn A C:=Eq.trans k h
theorem pg.b (n:Bn<w.heap.size) (V:World) (l:Nat) (o o':Obj) (h:w.heap.size<=l) (_:V.heap[l]? =some o) (_:o.isCells=false) (_:o.isWalk=false):pg Bn V (V.putObj l o'):=
 lu (zW (show Bn≠l by omega))
def upto (n k:Nat):List Nat:=(List.range k).map (part n)
theorem aam (n k:Nat):upto n (k+1)=upto n k++[part n k]:=by simp[upto,sV]
theorem ag6 (n k:Nat):(upto n k).length=k:=by simp[upto]
theorem ajQ (s:ByteArray) (k:Nat) (h:4*k<=s.size):N (s.extract (s.size - 4*k - 4) (s.size - 4*k))=part (N s) k:=by
 rw[N,N, <- ajT _ _ (by simpa using h)];congr 1
 rw[ByteArray.data_extract];simp[List.drop_take]
theorem aiG (s:ByteArray) (k:Nat) (w:World) (h:4*k<=s.size):
  c6 236 #[.string (s.extract (max 0 ((s.size:Int) - (k:Int)*4 - 4)).toNat (s.size - k*4))] w fun e w'=>e=.returned (.int .u32 (part (N s) k:Nat))/\w'=w:=by
 have a:(max 0 ((s.size:Int) - (k:Int)*4 - 4)).toNat=s.size - 4*k - 4:=al
 have b:s.size - k*4=s.size - 4*k:=al
 rw[a,b, <- ajQ s k h];exact aiH _ w (by rw[ByteArray.size_extract];omega)
theorem aoa (n:Nat) (q:1<=n) (l Bn:Nat) (s:ByteArray) (f:s.size<=140737488355328) (J a:List Nat ->World ->Prop)
  (Y:∀p x V,J p V ->p.length<(s.size+3)/4 ->YieldAt Fence.wide (n - 1) Tryz.prog l #[.int .u32 (x:Nat)] V fun e V'=>
   (e=.returned (.bool true)/\J (p++[x]) V'/\pg Bn V V')∨(e=.returned (.bool false)/\a (p++[x]) V'))
  (V:World) (b:V.cell? ⟨Bn,0,none⟩=some (.string s)) (h0:J [] V):
  CallsIn Fence.wide n Tryz.prog 235 #[.func (.yield l) #[] #[],.pointer (some ⟨Bn,0,none⟩)] V fun e V'=>(∃v,e=.returned v)/\
   ((∃y,y=upto (N s) ((s.size+3)/4)/\J y V')∨(∃p,(∃k,k<=(s.size+3)/4/\p=upto (N s) k)/\a p V')):=by
 refine IG Tryz.func235 rfl trivial ?_ rfl;simp only[Tryz.ntmps235,od,eA,mg,Nat.reduceAdd,Nat.reduceSub,oz,ow,oh,ng,iI,fM];gi_wp2_with (refine⟨trivial,?_⟩;gi_at_call 207;refine(iG.2 (afr _ _ f)).af ?_;rintro e w' ⟨rfl,rfl⟩)
 gi_loopw [7] (fun i wr=>∃k:Nat,k<=(s.size+3)/4/\i=.int .i64 k/\J (upto (N s) k) wr/\wr.cell? ⟨Bn,0,none⟩=some (.string s))
  (fun i _=>(s.size+3)/4 - (intOf i).toNat)
 case atStart=>exact⟨0,aS _,rfl,h0,b⟩
 case round=>
  obtain⟨k,o,rfl,h,P⟩:=hrel;by_cases t:k<(s.size+3)/4
  ·obtain⟨fn,w,z,u,r,R⟩:=Y _ (part (N s) k) wr h (by rw[ag6];exact t);gi_wp2_with (refine⟨trivial,?_⟩;gi_at_call 236;refine(iG.2 (aiG s k _ al)).af ?_;rintro e w' ⟨rfl,rfl⟩)
   refine R.af ?_;rintro e c (⟨rfl,g,j⟩ |⟨rfl,m⟩)
   ·have d:c.cell? ⟨Bn,0,none⟩=some (.string s):=Eq.trans j P;gi_wp2
    go_roundw
    case rel=>exact⟨k+1,al,aE,by rw[aam];exact g,d⟩
    case measure=>simp[intOf];omega
   ·gi_wp2
    refine bD (results_none rfl _ _ _) rfl ?_;exact⟨⟨_,rfl⟩,.inr ⟨_,⟨k+1,al,(aam _ _).symm⟩,m⟩⟩
  ·obtain rfl:k=(s.size+3)/4:=al
   gi_wp2
   go_end0
   exact⟨⟨_,rfl⟩,.inl ⟨_,rfl,h⟩⟩
theorem an9 (n:Nat) (s:ByteArray) (w:World):
  CallsIn Fence.wide n Tryz.prog 208 #[.string s] w fun e w'=>e=.returned (.func (.func 235) #[] #[.pointer (some ⟨w.heap.size,0,none⟩)])/\w'=w.alloc (.cells #[.string s] 39):=by
 refine IG Tryz.func208 rfl trivial ?_ rfl;simp only[Tryz.ntmps208,od,eA,mg,Nat.reduceAdd,Nat.reduceSub,oz,ow,oh,ng,iI,fM];gi_wp2
 go_ret;exact⟨rfl,rfl⟩
theorem an8 (n:Nat) (e:1<=n) (Bn:Nat) (s:ByteArray) (f:s.size<=140737488355328) (w:World) (b:Bn<w.heap.size) (d:w.cell? ⟨Bn,0,none⟩=some (.string s)):
  SeqStopsK Fence.wide n Tryz.prog 235 #[.pointer (some ⟨Bn,0,none⟩)] (fun x:Nat=> #[Value.int .u32 (x:Nat)]) (pg Bn) (fun y=>y=upto (N s) ((s.size+3)/4)) (fun r=>∃k,k<=(s.size+3)/4/\r=upto (N s) k) ((s.size+3)/4) w:=fun l J a V c _ _ Y h=>
 aoa n e l Bn s f J a Y V ((c.cell (p:=⟨Bn,0,none⟩) b).trans d) h
theorem Tryz.infoU32:(Tryz.prog.info? 152).map (fun i=>(i.zero,i.size,i.bytes))=some (some (.int .u32 0),1,4):=ao
def u32 (x:Nat):Value:=.int .u32 (x:Nat)
theorem ag5 (n:Nat):upto n (((B n).size+3)/4)=words n:=by
 rw[lq, <- Po,upto, <- agU]
end
section
open Go.Shelf
attribute [local go_sem] Oper.semAt_some
theorem jL (s:ByteArray):(B (N s)).size<=s.size:=by
 rw[lq,N,X8];have:(s.data.toList.dropWhile (·==0)).length<=s.data.toList.length:=(List.dropWhile_sublist _).length_le;simpa using this
end
def lenOf:Value ->Nat |.slice _ n _=>n |_=>0
theorem PE (b f cap:Nat) (l:List Nat) (w:World) (s:Small l) (i:l.length<=cap) (m:l.length<=140737488355328)
  (d:∀j,j<l.length ->w.cell? ⟨b,f+j,none⟩=some (.int .u32 (l[j]?.getD 0:Nat))):
  c6 205 #[.slice (some ⟨b,f,none⟩) l.length cap] w fun e w'=>e=.returned (.slice (some ⟨b,f,none⟩) (words (nw l)).length cap)/\w'=w:=by
 go_enter Tryz.func205,Tryz.ntmps205;go_wp2;go_loop [0] (fun v=>∃k:Nat,k<=l.length/\v=.slice (some ⟨b,f,none⟩) k cap/\nw (l.take k)=nw l) (fun v=>lenOf v)
 case atStart=>exact⟨l.length,ar _,rfl,by rw[fD]⟩
 case round=>
  obtain⟨k,a,rfl,n⟩:=hrel;have H:Hid (nw (l.take k)=nw l):=n;clear n;by_cases c:k=0
  ·subst c;have e:=Tq l s 0 (aS _) H.o (Or.inl rfl);(have E:Hid ((words (nw l)).length=0):=by rw[e];rfl);clear e;go_wp2;go_ret;exact⟨by rw[E.o];rfl,rfl⟩
  ·have g:=d (k - 1) al;by_cases h:l[k - 1]?.getD 0=0
   ·have Q:Hid (nw (l.take (k - 1))=nw l):=by
     have e:=UK l (k - 1) al;rw[show k - 1+1=k by omega,H.o] at e;rw[List.getElem?_eq_getElem al] at h;simp only[zY] at h;rw[h,l5,fZ] at e;exact e.symm
    rw[h] at g;go_wp2;go_round
    case rel=>exact⟨k - 1,al,rfl,Q.o⟩
    case measure=>simp[lenOf];omega
   ·have e:=Tq l s k a H.o (Or.inr h);(have E:Hid ((words (nw l)).length=k):=by rw[e,eX];exact wE a);clear e;go_wp2;go_ret;exact⟨by rw[E.o];rfl,rfl⟩
theorem ah9 (w:World):
  c6 205 #[.slice none 0 0] w fun e w'=>e=.returned (.slice none 0 0)/\w'=w:=by
 go_enter Tryz.func205,Tryz.ntmps205;go_wp2;refine KI 1 ?_;rw[rY];go_wp2;go_ret;exact⟨rfl,rfl⟩
def b9 (x k:Nat):Int:=((x/256^k % 256:Nat):Int)
theorem apN (x:Nat) (h:x<18446744073709551616):b9 x 7=(x:Int)/72057594037927936/\b9 x 6=(x:Int)/281474976710656 % 256/\b9 x 5=(x:Int)/1099511627776 % 256/\b9 x 4=(x:Int)/4294967296 % 256/\
  b9 x 3=(x:Int)/16777216 % 256/\b9 x 2=(x:Int)/65536 % 256/\b9 x 1=(x:Int)/256 % 256/\b9 x 0=(x:Int) % 256:=by
 unfold b9;simp only[Nat.reducePow];omega
theorem afG (x:Nat) (w:World) (i:x<18446744073709551616):
  c6 204 #[.int .u64 (x:Nat)] w (da w (.agg #[.int .u8 (b9 x 7),.int .u8 (b9 x 6),.int .u8 (b9 x 5),.int .u8 (b9 x 4),.int .u8 (b9 x 3),.int .u8 (b9 x 2),.int .u8 (b9 x 1),.int .u8 (b9 x 0)])):=by
 obtain⟨h,g,f,d,c,b,a,e⟩:=apN x i;rw[h,g,f,d,c,b,a,e];clear h g f d c b a e;go_enter Tryz.func204,Tryz.ntmps204;go_wp2;refine KI 9 ?_;rw[rY];go_wp2;rw[rY];go_wp2;rw[rY];go_wp2;rw[rY];go_wp2;rw[rY];go_wp2;rw[rY];go_wp2;rw[rY];go_wp2;rw[rY];go_wp2;rw[rY];go_wp2;refine bD (v:=.agg #[.int .u8 ((x:Int)/72057594037927936),.int .u8 ((x:Int)/281474976710656 % 256),.int .u8 ((x:Int)/1099511627776 % 256),.int .u8 ((x:Int)/4294967296 % 256),.int .u8 ((x:Int)/16777216 % 256),.int .u8 ((x:Int)/65536 % 256),.int .u8 ((x:Int)/256 % 256),.int .u8 ((x:Int) % 256)]) (by simp[results,Tryz.results204,go_sem]) rfl ⟨rfl,?_⟩;exact(((aw _ _).alloc (ar _) _).alloc aE _)
theorem E9 (x c:Nat):x/(c*256)*256+x/c % 256=x/c:=by rw[<- S8];exact Nat.div_add_mod' _ _
theorem aoT (x:Nat) (h:x<18446744073709551616):0*256+x/72057594037927936 % 256=x/72057594037927936:=al
theorem afn (x:Nat):x/256*256+x/1 % 256=x:=al
theorem akV (x:Nat) (f:x<18446744073709551616):N (strOfNums [b9 x 7,b9 x 6,b9 x 5,b9 x 4,b9 x 3,b9 x 2,b9 x 1,b9 x 0])=x:=by
 have e:=E9 x 281474976710656;have d:=E9 x 1099511627776;have c:=E9 x 4294967296;have b:=E9 x 16777216;have a:=E9 x 65536;have h:=E9 x 256;simp only[Nat.reduceMul] at e d c b a h;simp only[N,ID,gV,lx,b9,nh,nb,Ea,List.foldl_nil,UInt8.toNat_ofNat',Nat.reducePow,Nat.mod_mod];rw[aoT x f,e,d,c,b,a,h,afn]
theorem agX (x:Nat) (t:TypeId) (w:World):∀i,i< 8 ->(w.alloc (.cells #[.int .u8 (b9 x 7),.int .u8 (b9 x 6),.int .u8 (b9 x 5),.int .u8 (b9 x 4),.int .u8 (b9 x 3),.int .u8 (b9 x 2),.int .u8 (b9 x 1),.int .u8 (b9 x 0)] t)).cell? ⟨w.heap.size,0+i,none⟩=
  some (.int .u8 (([b9 x 7,b9 x 6,b9 x 5,b9 x 4,b9 x 3,b9 x 2,b9 x 1,b9 x 0]:List Int).getD i 0)):=by
 intro i h;rcases (show i=0∨i=1∨i=2∨i=3∨i=4∨i=5∨i=6∨i=7 by omega) with rfl |rfl |rfl |rfl |rfl |rfl |rfl |rfl<;>simp
theorem acK (x:Nat) (w:World) (h:x<18446744073709551616):
  c6 153 #[.int .u64 (x:Nat)] w (da w (.string (B x))):=by
 have A:=fun (a:World)=>IE (P:=Tryz.prog) (a.alloc (.cells #[.int .u8 (b9 x 7),.int .u8 (b9 x 6),.int .u8 (b9 x 5),.int .u8 (b9 x 4),.int .u8 (b9 x 3),.int .u8 (b9 x 2),.int .u8 (b9 x 1),.int .u8 (b9 x 0)] 215)) 72 5 Tryz.underlying72 Tryz.underlying5 a.heap.size 0 8 8 _ rfl (agX x _ a) 39 Tryz.underlying39;have H:Hid (N (strOfNums [b9 x 7,b9 x 6,b9 x 5,b9 x 4,b9 x 3,b9 x 2,b9 x 1,b9 x 0])=x):=akV x h;go_enter Tryz.func153,Tryz.ntmps153
 go_wp2_with (first
  |(go_at_call 204;refine(afG x _ h).af ?_;rintro e a ⟨rfl,b⟩)
  |(go_at_call 198;refine(Fg _ _).af ?_;rintro e c ⟨rfl,rfl⟩;rw[H.o]))
 go_ret;exact⟨rfl,b.alloc b.size _⟩
variable {xs:List Value} {base g:Nat}
def uE (x:Nat):List Int:=[b9 x 3,b9 x 2,b9 x 1,b9 x 0]
def pP:List Nat ->List Int
 |[]=>[]
 |x::r=>pP r++uE x
theorem alL (a:List Nat) (y:Nat):pP (a++[y])=uE y++pP a:=by
 induction a with
 |nil=>simp[pP]
 |cons x a ih=>rw[fM,pP,ih,pP,sX]
theorem Vb (a:List Nat):(pP a).length=4*a.length:=by
 induction a with
 |nil=>rfl
 |cons x a ih=>rw[pP,dm,ih];simp[uE];omega
theorem aoS (x:Nat) (h:x<4294967296):0*256+x/16777216 % 256=x/16777216:=al
theorem akW (x:Nat) (b:x<W):nb ((uE x).map fun n=>UInt8.ofNat n.toNat)=x:=by
 rw[iD] at b;have c:=aoS x b;have a:=E9 x 65536;have h:=E9 x 256;simp only[Nat.reduceMul] at a h;simp only[uE,gV,lx,b9,nh,nb,Ea,List.foldl_nil,UInt8.toNat_ofNat',Nat.reducePow,Nat.mod_mod];rw[c,a,h,afn]
theorem aqw (l:List Nat) (h:Small l):N (strOfNums (pP l))=nw l:=by
 rw[N,ID];induction l with
 |nil=>rfl
 |cons x r ih=>
  rw[pP,fg,Ep,ih (fun y a=>h y (eH _ a)),akW x (h x dQ),lG,dD];show nw r*256^4+x=x+W*nw r;rw[dJ,DX];rfl
def rz (l:List Nat) (k:Nat):List Int:=List.replicate (4*(l.length - k)) 0++pP (l.take k)
theorem akh (l:List Nat):rz l 0=List.replicate (4*l.length) 0:=by simp[rz,pP]
theorem akk (l:List Nat):rz l l.length=pP l:=by simp[rz]
theorem akj (l:List Nat) (k:Nat) (h:k<=l.length):(rz l k).length=4*l.length:=by
 rw[rz,dm,IM,Vb,eX,wE h];omega
theorem aki (l:List Nat) (k:Nat) (h:k<l.length):splice (rz l k) (4*l.length - 4*k - 4) (uE (l[k]?.getD 0))=rz l (k+1):=by
 rw[List.getElem?_eq_getElem h,zY];have e:4*(l.length - k)=(4*l.length - 4*k - 4)+4:=al
 have a:4*(l.length - (k+1))=4*l.length - 4*k - 4:=al
 rw[rz,rz,fL h,alL,e,a, <- List.replicate_append_replicate,splice];generalize 4*l.length - 4*k - 4=m;have d:(uE l[k]).length=4:=rfl;rw[d]
 have b:(List.replicate m (0:Int)++List.replicate 4 0++pP (l.take k)).take m=List.replicate m 0:=by
  rw[sX,ZO aE];simp
 have c:(List.replicate m (0:Int)++List.replicate 4 0++pP (l.take k)).drop (m+4)=pP (l.take k):=by
  rw[List.drop_append_of_le_length aE];simp
 rw[b,c]
theorem aaW {α β:Type} (f:α ->β) (L:List α) (o:Nat) (c:List α):splice (L.map f) o (c.map f)=(splice L o c).map f:=by
 simp[splice,List.map_take,List.map_drop]
def u8 (x:Int):Value:=.int .u8 x
theorem Tryz.infoByte:(Tryz.prog.info? 5).map (fun i=>(i.zero,i.size,i.bytes))=some (some (.int .u8 0),1,1):=ao
theorem agV (l:List Nat) (s:Small l):(words (nw l)).length<=l.length/\∀j,j<(words (nw l)).length ->(words (nw l))[j]?.getD 0=l[j]?.getD 0:=by
 obtain⟨k,a,e⟩:=Pm l s;rw[e];refine⟨by simp;omega,fun j h=>?_⟩;rw[r7,aA (by simp at h;omega)]
theorem qP {t:TypeId} (h:w.ownsRow base t 1 (.slice (some ⟨g,0,none⟩) n n) n xs):w.heap[g]? =some (.cells xs.toArray t (0,0)):=by
 rcases h.2 with ⟨a,_⟩ |⟨g',p,c,a,_,b,E,_,s,m⟩
 ·cases a
 ·cases a;rw[b, <- m,jA (by simp;omega)]
theorem adi (n:Nat):(madeCells (Value.int .u8 0).cells (n*1)).toList=(List.replicate n (0:Int)).map u8:=by
 rw[show (Value.int .u8 0).cells= #[Value.int .u8 0] from rfl,KL,pI,O4];rfl
theorem apY (x:Nat) (t:TypeId) (w:World):∀j v,((uE x).map u8)[j]? =some v ->(w.alloc (.cells #[.int .u8 (b9 x 7),.int .u8 (b9 x 6),.int .u8 (b9 x 5),.int .u8 (b9 x 4),.int .u8 (b9 x 3),.int .u8 (b9 x 2),.int .u8 (b9 x 1),.int .u8 (b9 x 0)] t)).cell? ((⟨w.heap.size,4,none⟩:Addr).add j)=some v:=by
 intro j v a
 have b:j<4:=by
  rcases cF j 4 with h |h
  ·exact h
  ·rw[iV (by simpa [uE] using h)] at a;cases a
 have d:(⟨w.heap.size,4,none⟩:Addr).add j=⟨w.heap.size,4+j,none⟩:=by unfold Addr.add;split<;>simp_all
 rw[d];rcases (show j=0∨j=1∨j=2∨j=3 by omega) with rfl |rfl |rfl |rfl<;>simp[uE,u8] at a<;>subst a<;>simp
theorem XA (g cap:Nat) (l:List Nat) (w:World) (t:Small l) (sG:l.length<=cap) (an:l.length<=35184372088832) (hg:g<w.heap.size)
  (c:∀j,j<l.length ->w.cell? ⟨g,0+j,none⟩=some (.int .u32 (l[j]?.getD 0:Nat))):
  c6 154 #[.slice (some ⟨g,0,none⟩) l.length cap] w (da w (.string (B (nw l)))):=by
 obtain⟨i0,d,ad,ae,ai⟩:=dW Tryz.infoByte;have y:=PE g 0 cap l w t sG al c;obtain⟨ak,F⟩:=agV l t;have D:=oB (nw l);have O:Hid (N (strOfNums (pP (words (nw l))))=nw l):=by show _=_;rw[aqw _ D,lF]
 have z:∀j,j<(words (nw l)).length ->w.cell? ⟨g,j,none⟩=some (.int .u32 ((words (nw l))[j]?.getD 0:Nat)):=fun j hj=>by
  have:=c j al;rw[bM] at this;rw[this,F j hj]
 generalize words (nw l)=ws at *;have R:Hid (∀j,j<ws.length ->w.cell? ⟨g,j,none⟩=some (.int .u32 (ws[j]?.getD 0:Nat))):=z;have S:Hid (c6 205 #[.slice (some ⟨g,0,none⟩) l.length cap] w fun e w'=>e=.returned (.slice (some ⟨g,0,none⟩) ws.length cap)/\w'=w):=y;clear c F z y;go_enter Tryz.func154,Tryz.ntmps154
 go_wp2_with (first
  |(go_at_call 205;refine(S.o).af ?_;rintro e a ⟨rfl,n⟩;subst n)
  |(at_make;refine nY _ rfl _ _ 72 rfl a.heap.size 5 i0 (.int .u8 0) 1 Tryz.underlying72 d ad ae .i64 .i64 _ _ (4*ws.length) rfl rfl al al (by rw[ai];omega) (by unfold maxLen;omega) (ar _) ?_;intro u L M))
 have f:=qP L;rw[adi, <- akh] at f;have v:c8 a u:=(aw _ a).grown M (ar _) (fun k e=>by cases e);have I:Hid (u.heap[a.heap.size]? =some (.cells ((rz ws 0).map u8).toArray 5 (0,0))):=f;clear L M f S
 go_loopw [16] (fun i wr=>∃k:Nat,k<=ws.length/\i=.int .i64 k/\Hid (wr.heap[a.heap.size]? =some (.cells ((rz ws k).map u8).toArray 5 (0,0)))/\c8 a wr)
  (fun i _=>ws.length - (intOf i).toNat)
 case atStart=>exact⟨0,aS _,rfl,I,v⟩
 case round=>
  obtain⟨k,hk,rfl,H,K⟩:=hrel;clear I v;by_cases h:k<ws.length
  ·have ab:wr.cell? ⟨g,k,none⟩=some (.int .u32 (ws[k]?.getD 0:Nat)):=(K.cell (p:=⟨g,k,none⟩) hg).trans (R.o k h)
   have wX:ws[k]?.getD 0<4294967296:=by
    rw[List.getElem?_eq_getElem h];exact D _ (bB h)
   have q:Hid (splice (rz ws k) (4*ws.length - 4*k - 4) (uE (ws[k]?.getD 0))=rz ws (k+1)):=aki ws k h;have GM:=akj ws k hk;generalize ws[k]?.getD 0=x at *;go_wp2_with (go_at_call 204;refine(afG x _ al).af ?_;rintro e b ⟨rfl,m⟩)
   have r:c8 a b:=K.trans (m.af K.size)
   have J:∀o,(b.alloc o).heap[a.heap.size]? =some (.cells ((rz ws k).map u8).toArray 5 (0,0)):=fun o=>by
    have Q:a.heap.size<wr.heap.size:=(dS.1 H.o).1;rw[r8 _ _ _ (aU Q m.size),m.block _ Q];exact H.o
   have X:Hid (∀o,(b.alloc o).heap[a.heap.size]? =some (.cells ((rz ws k).map u8).toArray 5 (0,0))):=J;clear J ab;obtain⟨E,s⟩:∃E,E=4*ws.length - 4*k - 4:=⟨_,rfl⟩;(have T:IntKind.i64.wrap (4*(ws.length:Int) - (k:Int)*4 - 4)=(E:Int):=by rw[dE];omega);(have U:(k:Int)*4<=4*(ws.length:Int):=al);(have V:4*(ws.length:Int) - (k:Int)*4<=4*(ws.length:Int):=al);(have Y:(E:Int)<=4*(ws.length:Int) - (k:Int)*4:=al);(have Z:¬4*ws.length=E:=al);(have f7:(4*(ws.length:Int) - (k:Int)*4).toNat - E=4:=al);(have aj:E+4<=4*ws.length:=al);rw[<- s] at q;clear s;go_region_law (refine step_copy_splice rfl (.tmp 33) (.tmp 34) 72 72 rfl 5 Tryz.underlying72 ao _ _ _ _ _ _ rfl rfl a.heap.size E ((rz ws k).map u8) 5 (by exact X.o _) ((uE x).map u8) rfl (fun _=>⟨rfl,_,rfl,by exact apY x _ b⟩) (by simp[uE];omega) (by simp[uE,u8,Value.oneCell']) a.heap.size a (by exact(r.alloc r.size _).drew) (ar _) ?_;intro w4 A aa)
   clear T U V Y Z f7 X;go_wp2;go_roundw
   case rel=>exact⟨k+1,al,bd,by rw[aaW,q.o] at A;exact A,aa⟩
   case measure=>simp[intOf];omega
  ·obtain rfl:k=ws.length:=al
   have AR:=IE (P:=Tryz.prog) wr 72 5 Tryz.underlying72 Tryz.underlying5 a.heap.size 0 (4*ws.length) (4*ws.length) (pP ws) (Vb ws) (fun i d=>by
    have e:=bZ wr a.heap.size (0+i) _ _ _ H.o;rw[e,akk];(have jG:i<(pP ws).length:=by rw[Vb];exact d);simp[u8,List.getElem?_eq_getElem jG,List.getD_eq_getElem?_getD]) 39 Tryz.underlying39
   clear H;go_wp2_with (go_at_call 198;refine(Fg _ _).af ?_;rintro e b ⟨rfl,n⟩;subst n)
   go_ret;exact⟨by rw[O.o];rfl,K⟩
variable {l':List Nat} {cap g' j m off':Nat}
def bz (w:World) (g off:Nat) (l:List Nat):Prop:=
 ∃cur,w.heap[g]? =some (.cells cur 152 (0,0))/\off+l.length<=cur.size/\∀j,j<l.length ->cur[off+j]? =some (u32 (l[j]?.getD 0))
theorem bz.cell {f:Nat} {l:List Nat} (h:bz w g f l) (j:Nat) (b:j<l.length):w.cell? ⟨g,f+j,none⟩=some (.int .u32 (l[j]?.getD 0:Nat)):=by
 obtain⟨r,a,_,c⟩:=h;rw[bZ w g (f+j) r _ (0,0) a];exact c j b
theorem bz.frozen {f:Nat} {l:List Nat} (h:bz w g f l) (j:Nat):w.frozen? ⟨g,j,none⟩=false:=by
 obtain⟨c,a,_,_⟩:=h;exact lr w g j c _ a
theorem bz.lt {f:Nat} {l:List Nat} (h:bz w g f l):g<w.heap.size:=by
 obtain⟨c,a,_,_⟩:=h;exact(dS.1 a).1
theorem bz.of_block {f:Nat} {l:List Nat} (h:bz w g f l) (e:w'.heap[g]? =w.heap[g]?):bz w' g f l:=by
 obtain⟨r,c,a,b⟩:=h;exact⟨r,e.trans c,a,b⟩
theorem bz.aa {f B:Nat} {l:List Nat} (h:bz w g f l) (b:Below B w w') (a:g<B):bz w' g f l:=h.of_block (b.block g a)
theorem bz.grown {f:Nat} {row:Option Nat} {l:List Nat} (h:bz w g f l) (b:w.grownBy w' row) (e:some g≠row):bz w' g f l:=h.of_block (b.block g h.lt e)
theorem bz.piece {f:Nat} {l:List Nat} (h:bz w g f l) (a n:Nat) (e:a+n<=l.length):bz w g (f+a) ((l.drop a).take n):=by
 obtain⟨r,c,d,b⟩:=h;have k:((l.drop a).take n).length=n:=by simp;omega
 refine⟨r,c,al,fun j i=>?_⟩;rw[DY,b (a+j) al,r7,aA al,KY]
structure cO (g off n:Nat) (w w':World):Prop where
 grown:w.grownBy w' (some g)
 inside:∀cur,w.heap[g]? =some (.cells cur 152 (0,0)) ->∃cur',w'.heap[g]? =some (.cells cur' 152 (0,0))/\cur'.size=cur.size/\∀i,(i<off∨off+n<=i) ->cur'[i]? =cur[i]?
theorem cO.refl (g f n:Nat) (w:World):cO g f n w w:=⟨World.grownBy.refl _ _,fun c h=>⟨c,h,rfl,fun _ _=>rfl⟩⟩
theorem cO.trans {f:Nat} {a b c:World} (h:cO g f n a b) (k:cO g f n b c):cO g f n a c:=
 ⟨h.grown.trans k.grown,fun u q=>by
  obtain⟨e,o,s,l⟩:=h.inside u q;obtain⟨j,p,r,m⟩:=k.inside e o;exact⟨j,p,r.trans s,fun i d=>(m i d).trans (l i d)⟩⟩
theorem cO.af {f n':Nat} (h:cO g f n w w') (h1:off'<=f) (d:f+n<=off'+n'):cO g off' n' w w':=
 ⟨h.grown,fun r b=>by
  obtain⟨c,a,s,e⟩:=h.inside r b;exact⟨c,a,s,fun i j=>e i al⟩⟩
theorem cO.aa {f B:Nat} {a:World} (c:Below B a w) (h:cO g f n w w') (b:B<=g) (s:B<=w.heap.size):Below B a w':=
 c.grown h.grown s (fun k e=>by cases e;exact b)
theorem Ms (w:World) (g j:Nat) (c:Array Value) (t:TypeId) (u:Value) (h:w.heap[g]? =some (.cells c t (0,0))):(w.setCell ⟨g,j,none⟩ u).heap[g]? =some (.cells (c.setIfInBounds j u) t (0,0)):=
 kM w g j c t u h
theorem cO.setCell {f:Nat} (h1:f<=j) (a:j<f+n) (u:Value):cO g f n w (w.setCell ⟨g,j,none⟩ u):=by
 refine⟨⟨rfl,rfl,rfl,by simp[World.setCell],fun k _ h=>iJ _ _ _ _ (by rintro rfl;exact h rfl)⟩,fun r c=>?_⟩;refine⟨_,Ms w g j r _ u c,aE,fun i b=>?_⟩;rw[Array.getElem?_setIfInBounds_ne al]
theorem bz.set {f:Nat} {l:List Nat} (h:bz w g f l) (j:Nat) (k:j<l.length) (x:Nat):bz (w.setCell ⟨g,f+j,none⟩ (.int .u32 (x:Nat))) g f (l.set j x):=by
 obtain⟨r,d,b,c⟩:=h;refine⟨_,Ms w g (f+j) r _ _ d,by simpa using b,fun i a=>?_⟩;rw[sW] at a;by_cases e:i=j
 ·subst e;rw[Array.getElem?_setIfInBounds_self_of_lt al];simp[k,u32]
 ·rw[Array.getElem?_setIfInBounds_ne al,c i a,Tg al]
theorem bz.beside {f:Nat} {l:List Nat} (h:bz w g f l) (u:cO g off' n w w') (m:f+l.length<=off'∨off'+n<=f):bz w' g f l:=by
 obtain⟨r,d,k,b⟩:=h;obtain⟨c,a,s,e⟩:=u.inside r d;exact⟨c,a,al,fun j i=>(e (f+j) al).trans (b j i)⟩
theorem bz.apart {f:Nat} {l:List Nat} (h:bz w g f l) (u:cO g' off' n w w') (d:g≠g'):bz w' g f l:=
 h.grown u.grown (by simp[d])
theorem bz.append {f:Nat} {a b:List Nat} (k:bz w g f a) (l:bz w g (f+a.length) b):bz w g f (a++b):=by
 obtain⟨r,h,n,c⟩:=k;obtain⟨u,i,o,d⟩:=l;rw[h] at i;cases i;refine⟨r,h,by simp;omega,fun j m=>?_⟩;rw[dm] at m;by_cases e:j<a.length
 ·rw[List.getElem?_append_left e,c j e]
 ·rw[O8 al];have:=d (j - a.length) al;rwa [show f+a.length+(j - a.length)=f+j by omega] at this
theorem El {l:List Nat} (h:w.ownsRow base 152 1 (.slice (some ⟨g,0,none⟩) n cap) n (l.map u32)):n=l.length/\l.length<=cap/\base<=g/\bz w g 0 l:=by
 have i:n=l.length:=by have:=h.1;simp at this;exact this.symm
 rcases h.2 with ⟨a,_⟩ |⟨g',p,c,a,d,f,E,_,s,m⟩
 ·cases a
 ·cases a;refine⟨i,al,d,c,f,al,fun j b=>?_⟩;have e:(c.toList.take (n*1))[j]? =(l.map u32)[j]?:=by rw[m]
  rw[r7,aA al,pL,List.getElem?_eq_getElem b] at e;rw[bM,List.getElem?_eq_getElem b];simpa using e
theorem aci {l:List Nat} (h:w.ownsRow base 152 1 (.slice (some ⟨g,0,none⟩) n cap) n (l.map u32)) (u:cO g 0 m w w') (o:bz w' g 0 l') (q:l'.length=n):w'.ownsRow base 152 1 (.slice (some ⟨g,0,none⟩) n cap) n (l'.map u32):=by
 refine⟨by simp[q],?_⟩;rcases h.2 with ⟨a,_⟩ |⟨g',x,r,a,j,k,E,p,z,y⟩
 ·cases a
 ·cases a;obtain⟨e,c,v,_⟩:=u.inside r k;obtain⟨s,d,t,f⟩:=o;rw[c] at d;cases d;refine .inr ⟨g,cap,e,rfl,j,c,E,p,al,?_⟩;apply IQ;intro i;rw[r7,pL];by_cases b:i<l'.length
  ·have:=f i b;rw[bM,List.getElem?_eq_getElem b] at this;rw[aA al,List.getElem?_eq_getElem b,vr,this];rfl
  ·rw[aB al,iV al];rfl
theorem aj7 {v:Value} {l:List Nat} (h:w.ownsRow base 152 1 v n (l.map u32)):n=l.length:=by have:=h.1;simp at this;exact this.symm
theorem Qh {B:Nat} {e:TypeId} {i:Nat} {v:Value} (h:w.ownsRow base e i v n xs) (c:Below B w w') (b:w.heap.size<=B):w'.ownsRow base e i v n xs:=by
 refine⟨h.1,?_⟩;rcases h.2 with a |⟨g,cap,u,d,f,r,j⟩
 ·exact .inl a
 ·exact .inr ⟨g,cap,u,d,f,(c.block g (aU (dS.1 r).1 b)).trans r,j⟩
theorem LH {l:List Nat} (c:Array Value) (b:w.heap[g]? =some (.cells c 152 (0,0))) (s:c.size=cap) (e:base<=g) (m:cap<=maxLen) (f:l.length<=cap) (j:bz w g 0 l):w.ownsRow base 152 1 (.slice (some ⟨g,0,none⟩) l.length cap) l.length (l.map u32):=by
 refine⟨aE,.inr ⟨g,cap,c,rfl,e,b,f,m,al,?_⟩⟩;obtain⟨k,a,n,d⟩:=j;rw[b] at a;cases a;apply IQ;intro i;rw[r7,pL];by_cases h:i<l.length
 ·have:=d i h;rw[bM,List.getElem?_eq_getElem h] at this;rw[aA al,List.getElem?_eq_getElem h,vr,this];rfl
 ·rw[aB al,iV al];rfl
def Has (w:World) (base:Nat) (v:Value) (l:List Nat):Prop:=w.ownsRow base 152 1 v l.length (l.map u32)
theorem Has.cases {v:Value} {l:List Nat} (h:Has w base v l):(v=.slice none 0 0/\l=[])∨∃g cap,v=.slice (some ⟨g,0,none⟩) l.length cap/\l.length<=cap/\base<=g/\bz w g 0 l:=by
 rcases h.2 with ⟨a,n⟩ |⟨g,cap,u,a,r⟩
 ·exact .inl ⟨a,ZU n⟩
 ·subst a;obtain⟨_,b,c,d⟩:=El h;exact .inr ⟨g,cap,rfl,b,c,d⟩
theorem Has.aa {B:Nat} {v:Value} {l:List Nat} (h:Has w base v l) (b:Below B w w') (a:w.heap.size<=B):Has w' base v l:=Qh h b a
theorem ao5 {l:List Nat} (k:Nat) (d:k<=l.length) (h:w.ownsRow base 152 1 (.slice (some ⟨g,0,none⟩) n cap) n (l.map u32)):w.ownsRow base 152 1 (.slice (some ⟨g,0,none⟩) k cap) k ((l.take k).map u32):=by
 have e:=aj7 h;refine⟨by simp;omega,?_⟩;rcases h.2 with ⟨a,_⟩ |⟨g',p,r,a,b,c,E,m,s,y⟩
 ·cases a
 ·cases a;refine .inr ⟨g,cap,r,rfl,b,c,al,m,s,?_⟩;rw[List.map_take, <- y,List.take_take,wE al,pI]
theorem anL (w:World):c6 154 #[.slice none 0 0] w (da w (.string (B 0))):=by
 obtain⟨d,h,z,f,l⟩:=dW Tryz.infoByte;have A:=fun (c:World)=>IE (P:=Tryz.prog) c 72 5 Tryz.underlying72 Tryz.underlying5 w.heap.size 0 0 0 [] rfl (fun i h=>absurd h (DW _)) 39 Tryz.underlying39;have H:Hid (N (strOfNums [])=0):=rfl;go_enter Tryz.func154,Tryz.ntmps154
 go_wp2_with (first
  |(go_at_call 205;refine(ah9 _).af ?_;rintro e b ⟨rfl,a⟩;subst a)
  |(at_make;refine nY _ rfl _ _ 72 rfl b.heap.size 5 d (.int .u8 0) 1 Tryz.underlying72 h z f .i64 .i64 _ _ 0 rfl rfl rfl rfl al (by unfold maxLen;omega) (ar _) ?_;intro c n g))
 refine KI 1 ?_;rw[rY];go_wp2_with (go_at_call 198;refine(Fg _ _).af ?_;rintro e j ⟨rfl,a⟩;subst a)
 go_ret;exact⟨by rw[H.o];rfl,(aw _ b).grown g (ar _) (fun k e=>by cases e)⟩
theorem Rv (base:Nat) (v:Value) (l:List Nat) (w:World) (s:Small l) (e:l.length<=35184372088832) (h:Has w base v l):
  c6 154 #[v] w (da w (.string (B (nw l)))):=by
 rcases h.cases with ⟨rfl,rfl⟩ |⟨g,cap,rfl,c,d,a⟩
 ·rw[oH];exact anL w
 ·exact XA g cap l w s c e a.lt (fun j b=>a.cell j b)
theorem acB (r x:Nat) (h:r<4294967296) (a:x<4294967296):bits .or .u64 ((r:Int)*4294967296) (x:Int)=((r*4294967296+x:Nat):Int):=by
 have e:(r:Int)*4294967296=((r*4294967296:Nat):Int):=al
 rw[e,u64_or_nat _ _ al al,nat_join 32 _ _ al al]
def G:Nat:=1000000000
theorem aD {p:Prop} (h:p):Hid p:=h
theorem Has.upd {l:List Nat} (h:Has w base (.slice (some ⟨g,0,none⟩) n cap) l) (u:cO g 0 m w w') (b:bz w' g 0 l') (e:l'.length=l.length):Has w' base (.slice (some ⟨g,0,none⟩) n cap) l':=by
 have c:n=l.length:=by
  rcases h.2 with ⟨a,_⟩ |⟨g',p,r,a,_⟩
  ·cases a
  ·cases a;rfl
 subst c;have:=aci h u b e;rw[Has,e];exact this
theorem RH (q l:List Nat) (k y:Nat) (a:q.length=k) (h:k<l.length):(q++l.drop k).set k y=q++[y]++l.drop (k+1):=by
 rw[F7 _ _ al,a,rZ,ou h,F6,sX];rfl
variable {k:Nat} {f:Nat ->Nat}
def jS (f:Nat ->Nat):Nat ->Nat
 |0=>0
 |k+1=>jS f k+W^k*f k
theorem acO (f g:Nat ->Nat) (k:Nat):jS (fun j=>f j+g j) k=jS f k+jS g k:=by
 induction k with
 |zero=>rfl
 |succ k ih=>simp only[jS,ih,nZ];omega
theorem acM (c:Nat) (f:Nat ->Nat) (k:Nat):jS (fun j=>c*f j) k=c*jS f k:=by
 induction k with
 |zero=>rfl
 |succ k ih=>simp only[jS,ih,nZ];congr 1;rw[<- iU,dJ (W^k) c,iU]
theorem Jn (l:List Nat) (k:Nat):jS (fun j=>l[j]?.getD 0) k=nw (l.take k):=by
 induction k with
 |zero=>simp[jS,oH]
 |succ k ih=>
  rw[jS,ih];by_cases h:k<l.length
  ·rw[UK l k h,List.getElem?_eq_getElem h];rfl
  ·rw[iV al,jA (by omega:l.length<=k),jA (by omega:l.length<=k+1)];simp
theorem acN (l:List Nat) (k:Nat) (h:l.length<=k):jS (fun j=>l[j]?.getD 0) k=nw l:=by rw[Jn,jA h]
theorem akD {g:Nat ->Nat} (h:∀j,j< k ->f j=g j):jS f k=jS g k:=by
 induction k with
 |zero=>rfl
 |succ k ih=>rw[jS,jS,ih (fun j a=>h j al),h k al]
def acc (f:Nat ->Nat):Nat ->List Nat×Nat
 |0=>([],0)
 |k+1=>((acc f k).1++[((acc f k).2+f k) % W],((acc f k).2+f k)/W)
theorem Nu (f:Nat ->Nat) (k:Nat):(acc f k).1.length=k:=by
 induction k with
 |zero=>rfl
 |succ k ih=>simp[acc,ih]
theorem Yl (f:Nat ->Nat) (k:Nat):Small (acc f k).1:=by
 induction k with
 |zero=>intro x h;simp[acc] at h
 |succ k ih=>
  intro x h;rw[acc] at h;rcases dh.1 h with h |h
  ·exact ih x h
  ·simp at h;subst h;exact iw _ mK
theorem Ym (f:Nat ->Nat) (k:Nat):nw (acc f k).1+W^k*(acc f k).2=jS f k:=by
 induction k with
 |zero=>simp[acc,jS,oH]
 |succ k ih=>
  rw[acc,jS,Eo,Nu, <- ih,ji,iU];have e:=Nat.mod_add_div ((acc f k).2+f k) W
  have:W^k*(((acc f k).2+f k) % W)+W^k*(W*(((acc f k).2+f k)/W))=W^k*(acc f k).2+W^k*f k:=by
   rw[<- nZ,e,nZ]
  show nw (acc f k).1+W^k*(((acc f k).2+f k) % W)+W^k*(W*(((acc f k).2+f k)/W))=_;omega
theorem Yn (f:Nat ->Nat) (b:Nat) (k:Nat) (h:∀j,j< k ->f j+b<(b+1)*W):(acc f k).2<=b:=by
 induction k with
 |zero=>exact aS _
 |succ k ih=>
  have a:=ih (fun j d=>h j al);have c:=h k al;rw[acc];have:((acc f k).2+f k)/W<b+1:=IJ (by rw[dJ];omega);omega
theorem abe (a q l:List Nat) (i k y:Nat) (h:a.length=i) (c:q.length=k) (b:i+k<l.length):(a++q++l.drop (i+k)).set (i+k) y=a++(q++[y])++l.drop (i+(k+1)):=by
 rw[F7 _ _ (by rw[dm];omega),dm,h,c,rZ,ou b,F6];simp[sX,DY]
theorem ain (a q l:List Nat) (i k:Nat) (h:a.length=i) (b:q.length=k):(a++q++l.drop (i+k))[i+k]?.getD 0=l[i+k]?.getD 0:=by
 rw[O8 (by rw[dm];omega),dm,h,b,rZ,KY,fZ]
theorem getD_lt {l:List Nat} (h:Small l) (j:Nat):l[j]?.getD 0<W:=by
 by_cases a:j<l.length
 ·rw[List.getElem?_eq_getElem a];exact h _ (bB a)
 ·rw[iV al];exact mK
theorem Aj {a b:List Nat} (h:Small a) (c:Small b):Small (a++b):=fun x d=>(dh.1 d).elim (h x) (c x)
theorem Lm {l:List Nat} (h:Small l) (k:Nat):Small (l.drop k):=fun x a=>h x (List.mem_of_mem_drop a)
theorem akC (l:List Nat) (k:Nat):nw l=nw (l.take k)+W^(min k l.length)*nw (l.drop k):=by
 have:=Cy (l.take k) (l.drop k);rwa [Cc,eX] at this
theorem ue (l:List Nat) (k:Nat) (h:k<=l.length):nw l=nw (l.take k)+W^k*nw (l.drop k):=by
 have:=akC l k;rwa [wE h] at this
theorem UJ (n:Nat):nw (List.replicate n 0)=0:=by
 induction n with
 |zero=>rfl
 |succ n ih=>rw[KT,lG,ih];simp
theorem aaZ (n:Nat):Small (List.replicate n 0):=fun x h=>by rw[(List.mem_replicate.1 h).2];exact mK
def gI (xs ys:List Nat) (j:Nat):Nat:=xs[j]?.getD 0+ys[j]?.getD 0
theorem aaO (xs s:List Nat) (k:Nat):jS (gI xs s) k=nw (xs.take k)+nw (s.take k):=by
 rw[show gI xs s=fun j=>(fun j=>xs[j]?.getD 0) j+(fun j=>s[j]?.getD 0) j from rfl,acO,Jn,Jn]
theorem ahN (xs s:List Nat) (h:Small xs) (y:Small s) (k:Nat):(acc (gI xs s) k).2<=1:=by
 refine Yn _ 1 k fun j _=>?_;have a:=getD_lt h j;have b:=getD_lt y j;unfold gI;omega
theorem Um (g h cap b J P:Nat) (xs a:List Nat) (w:World) (l:Small xs) (U:Small a) (ae:xs.length<=35184372088832) (r:a.length<=xs.length) (K:bz w g h xs) (M:bz w b J a) (T:b≠g):
  c6 206 #[.slice (some ⟨g,h,none⟩) xs.length cap,.slice (some ⟨b,J,none⟩) a.length P] w fun e w'=>∃(c:Bool) (l':List Nat),e=.returned (.bool c)/\l'.length=xs.length/\Small l'/\nw l'+(if c then W^xs.length else 0)=nw xs+nw a/\bz w' g h l'/\cO g h xs.length w w':=by
 go_enter Tryz.func206,Tryz.ntmps206;go_wp2
 go_loopw [5,9] (fun c i wr=>∃k:Nat,k<=xs.length/\i=.int .i64 k/\c=.int .u64 ((acc (gI xs a) k).2:Nat)/\bz wr g h ((acc (gI xs a) k).1++xs.drop k)/\cO g h xs.length w wr)
  (fun _ i _=>xs.length - (intOf i).toNat)
 case atStart=>exact⟨0,aS _,rfl,rfl,by simpa [acc] using K,cO.refl _ _ _ _⟩
 case round=>
  obtain⟨k,D,rfl,rfl,d,O⟩:=hrel;have yM:=ahN xs a l U k;have f:=Nu (gI xs a) k;have A:=Yl (gI xs a) k;have H:=aD (Ym (gI xs a) k);by_cases Y:k<xs.length
  ·have Q:k<((acc (gI xs a) k).1++xs.drop k).length:=by rw[dm,f,mY];omega
   have p:=d.cell k Q;have S:=d.frozen (h+k);have Z:=fun y=>d.set k Q y;simp only[RH _ xs k _ f Y] at Z
   have u:((acc (gI xs a) k).1++xs.drop k)[k]?.getD 0=xs[k]?.getD 0:=by
    rw[O8 al,f,rZ,KY,fZ]
   rw[u] at p;have j:Hid (acc (gI xs a) (k+1)=((acc (gI xs a) k).1++[((acc (gI xs a) k).2+gI xs a k) % W],((acc (gI xs a) k).2+gI xs a k)/W)):=rfl;have X:=getD_lt l k;have t:=getD_lt U k;rw[iD] at X t;by_cases V:k<a.length
   focus
    have ab:=(M.apart O T).cell k V;have F:Hid (gI xs a k=xs[k]?.getD 0+a[k]?.getD 0):=rfl;generalize (acc (gI xs a) k).2=c at *;generalize (acc (gI xs a) k).1=q at *;generalize gI xs a k=s at *;generalize xs[k]?.getD 0=x at *;generalize a[k]?.getD 0=y at *;have R:=aD Z;clear Z u Q d H;go_wp2;have v:Value.int .u32 (((c:Int)+(x:Int)+(y:Int)) % 4294967296)=.int .u32 (((c+s) % W:Nat):Int):=int_eq (by rw[iD,F.o];omega);have n:Value.int .u64 (((c:Int)+(x:Int)+(y:Int))/4294967296)=.int .u64 (((c+s)/W:Nat):Int):=int_eq (by rw[iD,F.o];omega)
   rotate_left
   focus
    (have L:a[k]?.getD 0=0:=by rw[iV al];rfl);by_cases m:(acc (gI xs a) k).2=0
    ·have E:Hid (nw ((acc (gI xs a) k).1++xs.drop k)=nw xs+nw a):=by
      show _=_;have e:=H.o;rw[m,l5,fZ,aaO,jA (show a.length<=k by omega)] at e;rw[Cy,f,e,ue xs k D];omega
     have aa:=Aj A (Lm l k);(have z:((acc (gI xs a) k).1++xs.drop k).length=xs.length:=by rw[dm,f,mY];omega);rw[m];generalize (acc (gI xs a) k).1++xs.drop k=q at *;clear Z p S j u Q H;go_wp2;go_ret;exact⟨false,q,rfl,z,aa,by rw[E.o];rfl,d,O⟩
    focus
     (have F:Hid (gI xs a k=xs[k]?.getD 0):=by show _=_;rw[gI,L,fZ]);(have ad:(((acc (gI xs a) k).2:Int)==0)=false:=by rw[BU];omega);generalize (acc (gI xs a) k).2=c at *;generalize (acc (gI xs a) k).1=q at *;generalize gI xs a k=s at *;generalize xs[k]?.getD 0=x at *;have R:=aD Z;clear Z u Q d H L m;go_wp2;have v:Value.int .u32 (((c:Int)+(x:Int)) % 4294967296)=.int .u32 (((c+s) % W:Nat):Int):=int_eq (by rw[iD,F.o];omega);have n:Value.int .u64 (((c:Int)+(x:Int))/4294967296)=.int .u64 (((c+s)/W:Nat):Int):=int_eq (by rw[iD,F.o];omega)
   all_goals
    rw[v,n];have I:=R.o ((c+s) % W);go_roundw
    case rel=>exact⟨k+1,al,bd,by rw[j.o],by rw[j.o];exact I,O.trans (cO.setCell (OZ _ _) al _)⟩
    case measure=>simp[intOf];omega
  ·obtain rfl:k=xs.length:=al
   rw[List.drop_length,F9] at d
   have E:Hid (nw (acc (gI xs a) xs.length).1+W^xs.length*(acc (gI xs a) xs.length).2=nw xs+nw a):=by
    show _=_;rw[H.o,aaO,fD,jA r]
   generalize (acc (gI xs a) xs.length).1=q at *;generalize (acc (gI xs a) xs.length).2=c at *;clear H;rcases (show c=0∨c=1 by omega) with rfl |rfl
   ·go_wp2;go_ret;exact⟨false,q,rfl,f,A,by have:=E.o;simpa using this,d,O⟩
   ·go_wp2;go_ret;exact⟨true,q,rfl,f,A,by have:=E.o;simpa using this,d,O⟩
section
open Go.Shelf
attribute [local go_sem] Oper.semAt_some
theorem Ai (s:ByteArray) (w:World) (u:s.size<=140737488355328):
  c6 156 #[.string s] w fun e w'=>∃g cap,e=.returned (.slice (some ⟨g,0,none⟩) (words (N s)).length cap)/\Has w' w.heap.size (.slice (some ⟨g,0,none⟩) (words (N s)).length cap) (words (N s))/\c8 w w':=by
 refine(iG (n:=6)).1 ?_;have R:(B (N s)).size<=140737488355328:=aR (jL s) u;have y:=ag5 (N s);have A:=bS (N s);generalize hm:N s=m at *;obtain⟨F,E,J,L,O⟩:=dW Tryz.infoU32;refine uY Tryz.func156 rfl trivial ?_ rfl;simp only[Tryz.ntmps156,od,eA,mg,Nat.reduceAdd,Nat.reduceSub,oz,ow,oh,ng,iI,fM];have S:Hid (N s=m):=hm;have T:Hid (N (B m)=m):=A;have U:Hid (upto m (((B m).size+3)/4)=words m):=y;clear hm A y
 gi_wp2_with (first
  |(refine⟨trivial,?_⟩;gi_at_call 198;refine(iG.2 (Fg _ _)).af ?_;rintro e w' ⟨rfl,rfl⟩;rw[S.o])
  |(refine⟨trivial,?_⟩;gi_at_call 207;refine(iG.2 (afr _ _ R)).af ?_;rintro e w' ⟨rfl,rfl⟩)
  |(gi_at_make;refine wpListIn_make_own _ rfl _ _ 180 rfl w'.heap.size 152 F (.int .u32 0) 1 Tryz.underlying180 E J L .i64 .i64 _ (((B m).size+3)/4) rfl rfl al (by rw[O];omega) (by unfold maxLen;omega) (ar _) ?_;intro a aq M)
  |(refine⟨trivial,?_⟩;gi_at_call 208;refine(an9 _ _ _).af ?_;rintro e w2 ⟨rfl,rfl⟩))
 have z:=M.size;have ab:c8 w' a:=(aw _ w').grown M (ar _) (fun k e=>by cases e);have X:=bh a 180 (.slice (some ⟨w'.heap.size,0,none⟩) 0 (((B m).size+3)/4));have q:=bh (a.alloc (.cells #[.slice (some ⟨w'.heap.size,0,none⟩) 0 (((B m).size+3)/4)] 180)) 39 (.string (B m));rw[cU] at q;have aa:c8 w' ((a.alloc (.cells #[.slice (some ⟨w'.heap.size,0,none⟩) 0 (((B m).size+3)/4)] 180)).alloc (.cells #[.string (B m)] 39)):=(ab.alloc z _).alloc (by simp;omega) _
 refine KJ (α:=Nat) rfl al (gf:=235) (lb:= #[.pointer (some ⟨a.heap.size+1,0,none⟩)]) rfl trivial (enters_of Tryz.func235 ao rfl)
  (an8 5 al (a.heap.size+1) (B m) R _ aE q.cell) pg.t (pg.b aE) (aw _ _) (fun _=>rfl)
  (fun (p:List Nat) V=>((∃v,Boxed V a.heap.size 180 v/\V.ownsRow w'.heap.size 152 1 v p.length (p.map u32)/\v≠.slice none 0 0)/\c8 w' V)/\Boxed V (a.heap.size+1) 39 (.string (B m)))
  (fun _ _ _=>False)
  (eZ (eZ (fY (holdsRow_own w'.heap.size a.heap.size 180 152 1 (fun p:List Nat=>p.length) (fun p=>p.map u32) (fun _ v=>v≠.slice none 0 0)) _) (zV (ar _) (by simp;omega))) (fY (jh _ _ (fun _=>.string (B m))) _))
  (fun _ _ _ _ _ u _ _=>u)
  ⟨⟨⟨_,X.alloc _,(aq.alloc _).alloc _,aE⟩,aa⟩,q⟩
  (fun x=> {tmps:= #[.string (B m),undef,.slice none 0 0,.pointer (some ⟨a.heap.size,0,none⟩),.int .u32 (x:Nat),.string s,.string (B m),.string (B m),.int .i64 (((B m).size+3)/4),.slice (some ⟨w'.heap.size,0,none⟩) 0 (((B m).size+3)/4),.string (B m),.func (.func 235) #[] #[.pointer (some ⟨a.heap.size+1,0,none⟩)],.int .u32 (x:Nat),undef,undef,undef,undef,undef],defers:=[]}) ?assign ?body ?done ?stop
 case assign=>
  intro l x V K f;gi_wp2
  exact f
 case body=>
  rintro l p x V ⟨⟨⟨v,j,r,_⟩,d⟩,i⟩ ax;have Z:=j.cell;gi_wp2_with (gi_at_builtin;refine wpListIn_append_own _ rfl _ _ 180 rfl w'.heap.size 152 F (.int .u32 0) 1 4 Tryz.underlying180 E J L O rfl a6 _ _ _ rfl (r.alloc _) ⟨V.heap.size,0,none⟩ 1 1 [.int .u32 (x:Nat)] rfl rfl (cell_one_new _ _ _) (by simp[Value.oneCell']) (by unfold maxLen;omega) al (by have:=d.size;simp;omega) ?_;intro v' w3 Q P _;obtain⟨g',an,rfl⟩:=ownsRow_succ Q;obtain⟨H,ak,aj,ai,ad⟩:=j.appended a6 r d.size z Q P;have ae:=(i.alloc _).kept P (i.not_row a6 r);have av:=H.cell;have CW:=H.frozen)
  have I:=ae.other (B':=a.heap.size) al (.slice (some ⟨g',0,none⟩) (p.length+1) an);exact⟨ai.from _,I.cell.trans i.cell.symm,⟨⟨_,ak,by simpa [u32] using aj,aE⟩,d.trans ad⟩,I⟩
 case done=>
  rintro D ys V Y rfl ⟨⟨⟨v,j,r,oM⟩,d⟩,i⟩ f;have Z:=j.cell;rw[T.o,U.o] at r;gi_wp2
  refine⟨aE,.inl ⟨_,_,rfl,BQ f,?_⟩⟩
  obtain⟨g,cap,rfl⟩:∃g cap,v=.slice (some ⟨g,0,none⟩) (words m).length cap:=by
   rcases r.2 with ⟨e,_⟩ |⟨g,cap,_,e,_⟩
   ·exact absurd e oM
   ·exact⟨g,cap,e⟩
  refine⟨_,BR rfl _ _ _,g,cap,rfl,?_,d.trans (uZ (w:=w') (ar _) V D _ _ (by simp at Y;omega) f rfl rfl)⟩;exact ownsRow_putObj r _ f rfl
 case stop=>
  rintro D c p V _ _ h _;exact h.elim
end
theorem LP (n:Nat):(madeCells (Value.int .u32 0).cells (n*1)).toList=(List.replicate n 0).map u32:=by
 rw[show (Value.int .u32 0).cells= #[Value.int .u32 0] from rfl,KL,pI,O4];rfl
theorem Qz {l:List Nat} (h:w.heap[g]? =some (.cells (l.map u32).toArray 152 (0,0))):bz w g 0 l:=
 ⟨_,h,aE,fun j a=>by simp[List.getElem?_eq_getElem a]⟩
theorem aaX (l:List Nat):splice ((List.replicate (l.length+1) 0).map u32) 0 (l.map u32)=(l++[0]).map u32:=by
 rw[aaW,splice,List.take_zero,iI,bM,List.drop_replicate];simp
theorem afC {l:List Nat} (h:bz w g 0 l):∀j v,(l.map u32)[j]? =some v ->w.cell? ((⟨g,0,none⟩:Addr).add j)=some v:=by
 intro j v a
 have b:j<l.length:=by
  rcases cF j l.length with h |h
  ·exact h
  ·rw[iV (by simpa using h)] at a;cases a
 rw[Lib.add_plain,h.cell j b];rw[pL,List.getElem?_eq_getElem b] at a;rw[List.getElem?_eq_getElem b];exact a
theorem acE (l:List Nat):∀v∈l.map u32,v.oneCell'=true:=by
 intro v h;obtain⟨x,_,rfl⟩:=bc.1 h;rfl
theorem aaE {xs s:List Nat} (x:Small xs) (y:Small s) (h:s.length<=xs.length):nw xs+nw s<W^(xs.length+1):=by
 have a:=wQ xs x;have b:=wQ s y;have c:W^s.length<=W^xs.length:=kN mK h;have d:W^(xs.length+1)=W^xs.length*W:=ji ..;have e:W^xs.length*2<=W^xs.length*W:=l6 _ a6;omega
theorem ajH (f T y I:Nat) (xs s:List Nat) (w:World) (m:Small xs) (U:Small s) (av:xs.length<=17592186044416) (E:s.length<=xs.length) (h:bz w f 0 xs) (i:bz w y 0 s):
  c6 155 #[.slice (some ⟨f,0,none⟩) xs.length T,.slice (some ⟨y,0,none⟩) s.length I] w fun e w'=>∃v l,e=.returned v/\Has w' w.heap.size v l/\Small l/\l.length=xs.length+1/\nw l=nw xs+nw s/\c8 w w':=by
 obtain⟨R,Q,aj,ak,an⟩:=dW Tryz.infoU32;have aq:¬xs.length<s.length:=al
 have ab:=h.lt;have S:=i.lt;go_enter Tryz.func155,Tryz.ntmps155
 go_wp2_with (first
  |(at_make;refine nY _ rfl _ _ 180 rfl w.heap.size 152 R (.int .u32 0) 1 Tryz.underlying180 Q aj ak .i64 .i64 _ _ (xs.length+1) rfl rfl al al (by rw[an];omega) (by unfold maxLen;omega) (ar _) ?_;intro V z A;have b:=qP z;rw[LP] at b;have K:=aD b;have p:c8 w V:=(aw _ w).grown A (ar _) (fun k e=>by cases e);have ai:=h.aa p ab;clear z A b)
  |(refine wpList_copy_splice rfl (.tmp 17) (.tmp 18) 180 180 rfl 152 Tryz.underlying180 ao _ _ _ _ _ _ rfl rfl w.heap.size 0 ((List.replicate (xs.length+1) 0).map u32) 152 (by exact K.o) (xs.map u32) (by rw[dD];exact(wE (Nat.le_succ _)).symm) (fun _=>⟨rfl,_,rfl,afC ai⟩) aE (acE xs) w.heap.size w p (ar _) ?_;intro X g j))
 rw[aaX] at g;have ad:=Qz g.o;have J:=i.aa j S;have O:(xs++[0]).length=xs.length+1:=aE
 have ae:Small (xs++[0]):=Aj m (fun x h=>by simp at h;subst h;exact mK);have t:=Um w.heap.size 0 (xs.length+1) y 0 I (xs++[0]) s X ae U al al ad J al;rw[O,Eo,l5,fZ] at t;refine t.af ?_;rintro e Y ⟨c,n,rfl,d,P,D,M,a⟩;have L:c8 w Y:=cO.aa j a (ar _) j.size;obtain⟨Z,q,u,_⟩:=a.inside _ g.o;have r:=LH (base:=w.heap.size) (cap:=xs.length+1) Z q (by rw[u];simp) (ar _) (by unfold maxLen;omega) al M
 have F:Hid (nw n=nw xs+nw s):=by
  show _=_;cases c with
  |false=>simpa using D
  |true=>
   have hf:=aaE m U E;simp only[if_true] at D;omega
 have H:=aD d;rw[d] at r;clear D d q u t g M a;go_wp2;go_ret;exact⟨_,n,rfl,by rw[Has,H.o];exact r,P,H.o,F.o,L⟩
theorem ajG (f T y I:Nat) (xs s:List Nat) (w:World) (m:Small xs) (U:Small s) (av:xs.length<=17592186044416) (aq:s.length<xs.length) (h:bz w f 0 xs) (i:bz w y 0 s):
  c6 155 #[.slice (some ⟨y,0,none⟩) s.length I,.slice (some ⟨f,0,none⟩) xs.length T] w fun e w'=>∃v l,e=.returned v/\Has w' w.heap.size v l/\Small l/\l.length=xs.length+1/\nw l=nw xs+nw s/\c8 w w':=by
 obtain⟨R,Q,aj,ak,an⟩:=dW Tryz.infoU32;have E:s.length<=xs.length:=al
 have ab:=h.lt;have S:=i.lt;go_enter Tryz.func155,Tryz.ntmps155
 go_wp2_with (first
  |(at_make;refine nY _ rfl _ _ 180 rfl w.heap.size 152 R (.int .u32 0) 1 Tryz.underlying180 Q aj ak .i64 .i64 _ _ (xs.length+1) rfl rfl al al (by rw[an];omega) (by unfold maxLen;omega) (ar _) ?_;intro V z A;have b:=qP z;rw[LP] at b;have K:=aD b;have p:c8 w V:=(aw _ w).grown A (ar _) (fun k e=>by cases e);have ai:=h.aa p ab;clear z A b)
  |(refine wpList_copy_splice rfl (.tmp 17) (.tmp 18) 180 180 rfl 152 Tryz.underlying180 ao _ _ _ _ _ _ rfl rfl w.heap.size 0 ((List.replicate (xs.length+1) 0).map u32) 152 (by exact K.o) (xs.map u32) (by rw[dD];exact(wE (Nat.le_succ _)).symm) (fun _=>⟨rfl,_,rfl,afC ai⟩) aE (acE xs) w.heap.size w p (ar _) ?_;intro X g j))
 rw[aaX] at g;have ad:=Qz g.o;have J:=i.aa j S;have O:(xs++[0]).length=xs.length+1:=aE
 have ae:Small (xs++[0]):=Aj m (fun x h=>by simp at h;subst h;exact mK);have t:=Um w.heap.size 0 (xs.length+1) y 0 I (xs++[0]) s X ae U al al ad J al;rw[O,Eo,l5,fZ] at t;refine t.af ?_;rintro e Y ⟨c,n,rfl,d,P,D,M,a⟩;have L:c8 w Y:=cO.aa j a (ar _) j.size;obtain⟨Z,q,u,_⟩:=a.inside _ g.o;have r:=LH (base:=w.heap.size) (cap:=xs.length+1) Z q (by rw[u];simp) (ar _) (by unfold maxLen;omega) al M
 have F:Hid (nw n=nw xs+nw s):=by
  show _=_;cases c with
  |false=>simpa using D
  |true=>
   have hf:=aaE m U E;simp only[if_true] at D;omega
 have H:=aD d;rw[d] at r;clear D d q u t g M a;go_wp2;go_ret;exact⟨_,n,rfl,by rw[Has,H.o];exact r,P,H.o,F.o,L⟩
theorem ajI (g M y j:Nat) (xs s:List Nat) (w:World) (i:Small xs) (U:Small s) (m:xs.length<=17592186044416) (n:s.length<=17592186044416) (x:bz w g 0 xs) (f:bz w y 0 s):
  c6 155 #[.slice (some ⟨g,0,none⟩) xs.length M,.slice (some ⟨y,0,none⟩) s.length j] w fun e w'=>∃v l,e=.returned v/\Has w' w.heap.size v l/\Small l/\l.length<=17592186044417/\nw l=nw xs+nw s/\c8 w w':=by
 by_cases h:s.length<=xs.length
 ·refine(ajH g M y j xs s w i U m h x f).af ?_;rintro e w' ⟨v,l,rfl,a,b,k,d,c⟩;exact⟨v,l,rfl,a,b,al,d,c⟩
 ·refine(ajG y j g M s xs w U i n al f x).af ?_;rintro e w' ⟨v,l,rfl,a,b,k,d,c⟩;exact⟨v,l,rfl,a,b,al,al,c⟩
theorem yR {l:List Nat} (h:Has w base (.slice (some ⟨g,0,none⟩) n cap) l) (b:c8 w w'):bz w' g 0 l:=by
 rcases h.cases with ⟨e,_⟩ |⟨g',c,e,_,_,a⟩
 ·cases e
 ·cases e;exact a.aa b a.lt
theorem Ag (s:ByteArray) (k:Nat) (h:s.size<=4*k):(words (N s)).length<=k:=by
 rw[Po, <- lq];have:=jL s;omega
theorem agF (a b:ByteArray) (w:World) (A:a.size<=1099511627776) (D:b.size<=1099511627776):
  c6 106 #[.string a,.string b] w (da w (.string (B (N a+N b)))):=by
 have E:=Ag a 274877906944 al;have F:=Ag b 274877906944 al;go_enter Tryz.func106,Tryz.ntmps106;go_wp2_with fail
 refine(Ai a _ al).af ?_;rintro e I ⟨k,i,rfl,n,d⟩;go_wp2_with fail
 refine(Ai b _ al).af ?_;rintro e s ⟨m,j,rfl,p,f⟩;have r:=yR n f;have y:=yR p (aw _ _);have h:c8 w s:=d.trans (f.af d.size);go_wp2_with fail
 refine(ajI k i m j _ _ _ (oB _) (oB _) al al r y).af ?_;rintro e t ⟨v,l,rfl,q,z,K,g,u⟩;have c:c8 w t:=h.trans (u.af h.size);have H:=aD g;clear g;go_wp2_with fail
 refine(Rv _ _ _ _ z al q).af ?_;rintro e J ⟨rfl,x⟩;go_wp2;go_ret;exact⟨by rw[H.o,lF,lF];rfl,c.trans (x.af c.size)⟩
theorem toList_data (s:ByteArray):s.toList=s.data.toList:=by
 obtain⟨⟨l⟩⟩:=s;simp
theorem aiF {a b:Bool} (h:a=b):Ending.returned (.bool a)=.returned (.bool b):=by rw[h]
def jY (m n:Nat):Int:=if m<n then -1 else if m=n then 0 else 1
theorem adq:∀(l m:List UInt8),l.length=m.length ->Op.bytesLess l m=decide (nb l<nb m)
 |[],[],_=>rfl
 |x::l,y::m,h=>by
  have b:l.length=m.length:=by simpa using h
  have i:=adq l m b;have f:=vA l;have c:=vA m;rw[Gp,Gp, <- b];rw[<- b] at c;rw[Op.bytesLess];rcases S6 x.toNat y.toNat with e |e |e
  ·have v:(decide (x<y))=true:=by simpa [UInt8.lt_iff_toNat_lt] using e
   have:(x.toNat+1)*256^l.length<=y.toNat*256^l.length:=j6 _ e;rw[gC] at this;rw[v,Bool.true_or];symm;rw[S1];omega
  ·have v:x=y:=OX.1 e;subst v;(have a:(decide (x<x))=false:=aE);rw[a,Bool.false_or,beq_self_eq_true,K0,i];congr 1
   apply propext;omega
  ·have a:(decide (x<y))=false:=by simp[UInt8.lt_iff_toNat_lt];omega
   (have d:(x==y)=false:=by rw[BU];rintro rfl;omega);have:(y.toNat+1)*256^l.length<=x.toNat*256^l.length:=j6 _ e;rw[gC] at this;rw[a,d,Bool.false_or,Bool.false_and];symm;rw[OW];omega
theorem ac2:∀(l m:List UInt8),l.length=m.length ->nb l=nb m ->l=m
 |[],[],_,_=>rfl
 |x::l,y::m,h,e=>by
  have a:l.length=m.length:=by simpa using h
  have f:=vA l;have d:=vA m;rw[Gp,Gp, <- a] at e;rw[<- a] at d;have p:0<256^l.length:=vh a6
  have b:x.toNat=y.toNat:=by
   rcases S6 x.toNat y.toNat with c |c |c
   ·have:(x.toNat+1)*256^l.length<=y.toNat*256^l.length:=j6 _ c;rw[gC] at this;omega
   ·exact c
   ·have:(y.toNat+1)*256^l.length<=x.toNat*256^l.length:=j6 _ c;rw[gC] at this;omega
  rw[b] at e;rw[OX.1 b,ac2 l m a al]
theorem ari (a b:ByteArray) (w:World) (h:a.size=b.size):
  c6 200 #[.string a,.string b] w fun e w'=>e=.returned (.int .i64 (jY (N a) (N b)))/\w'=w:=by
 have l:=adq a.data.toList b.data.toList (by rw[Ae,Ae];exact h);rcases S6 (N a) (N b) with c |c |c
 ·have L:Op.bytesLess a.toList b.toList=true:=by rw[toList_data,toList_data,l];simpa [N] using c
  have H:Hid (jY (N a) (N b)= -1):=by show _=_;rw[jY,aA c]
  clear l c;go_enter Tryz.func200,Tryz.ntmps200;go_wp2;go_ret;exact⟨Co H.o.symm,rfl⟩
 ·have L:Op.bytesLess a.toList b.toList=false:=by rw[toList_data,toList_data,l];simp only[N] at c;rw[OW];omega
  have E:(a.toList==b.toList)=true:=by
   rw[toList_data,toList_data,ac2 a.data.toList b.data.toList (by rw[Ae,Ae];exact h) c];simp
  have H:Hid (jY (N a) (N b)=0):=by show _=_;rw[jY,aB al,aA c]
  clear l c;go_enter Tryz.func200,Tryz.ntmps200;go_wp2;go_ret;exact⟨Co H.o.symm,rfl⟩
 ·have L:Op.bytesLess a.toList b.toList=false:=by rw[toList_data,toList_data,l];simp only[N] at c;rw[OW];omega
  have E:(a.toList==b.toList)=false:=by
   rw[toList_data,toList_data,BU];intro e;rw[N,N,e] at c;omega
  have H:Hid (jY (N a) (N b)=1):=by show _=_;rw[jY,aB al,aB al]
  clear l c;go_enter Tryz.func200,Tryz.ntmps200;go_wp2;go_ret;exact⟨Co H.o.symm,rfl⟩
theorem ZK (a b:ByteArray) (w:World):
  c6 150 #[.string a,.string b] w fun e w'=>e=.returned (.int .i64 (jY (N a) (N b)))/\w'=w:=by
 by_cases h:(B (N a)).size=(B (N b)).size
 ·have f:=fun V=>ari (B (N a)) (B (N b)) V h;simp only[bS] at f;have H:=aD f;have n:(((B (N a)).size:Int) !=((B (N b)).size:Int))=false:=by rw[h];simp
  clear f h;go_enter Tryz.func150,Tryz.ntmps150;go_wp2_with fail
  refine(Fg _ _).af ?_;rintro e g ⟨rfl,d⟩;subst d;go_wp2_with fail
  refine(Fg _ _).af ?_;rintro e i ⟨rfl,d⟩;subst d;go_wp2_with fail
  refine(H.o _).af ?_;rintro e j ⟨rfl,d⟩;subst d;go_wp2;go_ret;exact⟨rfl,rfl⟩
 ·have n:(((B (N a)).size:Int) !=((B (N b)).size:Int))=true:=by rw[bne_iff_ne];omega
  have R:Hid (Lib.compareInt (((B (N a)).size:Nat):Int) (((B (N b)).size:Nat):Int)=jY (N a) (N b)):=by
   show _=_;rw[lq,lq] at h⊢;unfold Lib.compareInt jY;rcases cF (N a) (N b) with c |c
   ·have:=X9 (vk c);rw[aA al,aA c]
   ·have:=X9 c;rw[aB al,aA al,aB al,aB (by intro e;rw[e] at h;exact h rfl)]
  clear h;go_enter Tryz.func150,Tryz.ntmps150;go_wp2_with fail
  refine(Fg _ _).af ?_;rintro e g ⟨rfl,d⟩;subst d;go_wp2_with fail
  refine(Fg _ _).af ?_;rintro e i ⟨rfl,d⟩;subst d;go_wp2_with fail
  refine(Tryz.cmp_Compare_int _ _ _).af ?_;rintro e j ⟨rfl,d⟩;subst d;go_wp2;go_ret;exact⟨Co R.o,rfl⟩
def cX (xs ys:List Nat) (f:Nat):Nat ->List Nat×Nat×Nat
 |0=>([],0,0)
 |k+1=>((cX xs ys f k).1++[(xs[k]?.getD 0+2*W - ((cX xs ys f k).2.1+ys[k]?.getD 0*f) % W - (cX xs ys f k).2.2) % W],
   ((cX xs ys f k).2.1+ys[k]?.getD 0*f)/W,if xs[k]?.getD 0<((cX xs ys f k).2.1+ys[k]?.getD 0*f) % W+(cX xs ys f k).2.2 then 1 else 0)
theorem abj (xs s:List Nat) (f k:Nat):(cX xs s f k).1.length=k:=by
 induction k with
 |zero=>rfl
 |succ k ih=>simp[cX,ih]
theorem air (xs s:List Nat) (f k:Nat):Small (cX xs s f k).1:=by
 induction k with
 |zero=>intro x h;simp[cX] at h
 |succ k ih=>
  intro x h;rw[cX] at h;rcases dh.1 h with h |h
  ·exact ih x h
  ·simp only[dX] at h;subst h;exact iw _ mK
theorem abk (xs s:List Nat) (f k:Nat):(cX xs s f k).2.2<=1:=by
 cases k with
 |zero=>exact aS _
 |succ k=>
  rw[cX];show (if _ then 1 else 0)<=1;split<;>omega
theorem ait (xs s:List Nat) (f:Nat) (h:Small s) (d:f<W) (k:Nat):(cX xs s f k).2.1<W:=by
 induction k with
 |zero=>exact mK
 |succ k ih=>
  rw[cX];refine IJ ?_;have a:=getD_lt h k;have b:s[k]?.getD 0*f<=(W - 1)*(W - 1):=iH al al;have c:(W - 1)*(W - 1)+W<=W*W:=a6
  omega
theorem aiq (x c t b:Nat) (d:x<W) (a:b<=1):
  (x+2*W - (c+t) % W - b) % W+t+b+c=x+W*((c+t)/W+if x<(c+t) % W+b then 1 else 0):=by
 have e:=Nat.mod_add_div (c+t) W;have l:=iw (c+t) mK;generalize (c+t) % W=lo at *;generalize (c+t)/W=q at *;rw[nZ];by_cases h:x<lo+b
 ·rw[aA h]
  have:(x+2*W - lo - b) % W=x+W - lo - b:=by
   rw[show x+2*W - lo - b=(x+W - lo - b)+W by omega,Nat.add_mod_right];exact jM al
  omega
 ·rw[aB h]
  have:(x+2*W - lo - b) % W=x - lo - b:=by
   rw[show x+2*W - lo - b=(x - lo - b)+W+W by omega,Nat.add_mod_right,Nat.add_mod_right];exact jM al
  omega
theorem ais (xs s:List Nat) (f:Nat) (x:Small xs) (k:Nat):
  nw (cX xs s f k).1+f*nw (s.take k)=nw (xs.take k)+W^k*((cX xs s f k).2.1+(cX xs s f k).2.2):=by
 rw[<- Jn xs k, <- Jn s k];induction k with
 |zero=>simp[cX,jS,oH]
 |succ k ih=>
  have h:=abk xs s f k;have a:=aiq (xs[k]?.getD 0) (cX xs s f k).2.1 (s[k]?.getD 0*f) (cX xs s f k).2.2 (getD_lt x k) h
  have e:f*(jS (fun j=>s[j]?.getD 0) k+W^k*s[k]?.getD 0)=f*jS (fun j=>s[j]?.getD 0) k+W^k*(s[k]?.getD 0*f):=by
   rw[nZ,B3,dJ f (s[k]?.getD 0)]
  rw[cX,jS,jS,Eo,abj,e];show _=_+W^(k+1)*(_+if _ then 1 else 0);rw[ji,iU];generalize (xs[k]?.getD 0+2*W - ((cX xs s f k).2.1+s[k]?.getD 0*f) % W - (cX xs s f k).2.2) % W=d at *;generalize (((cX xs s f k).2.1+s[k]?.getD 0*f)/W+if xs[k]?.getD 0<((cX xs s f k).2.1+s[k]?.getD 0*f) % W+(cX xs s f k).2.2 then 1 else 0)=z at *;generalize (cX xs s f k).2.1=c at *;generalize (cX xs s f k).2.2=b at *;generalize s[k]?.getD 0*f=t at *;have:=bU (W^k*·) a;simp only[nZ] at this ih⊢;omega
theorem Yh (t:Nat) (h:t<18446744073709551616):bits .and .u64 (t:Int) 4294967295=((t % 4294967296:Nat):Int):=by
 have e:(4294967295:Int)=((4294967295:Nat):Int):=rfl;rw[e,u64_and_nat t 4294967295 h al];congr 1
 exact Nat.and_two_pow_sub_one_eq_mod t 32
theorem TP (x lo b:Nat) (c:x<4294967296) (l:lo<4294967296) (a:b<=1):
  IntKind.u64.wrap (IntKind.u64.wrap ((x:Int) - (lo:Int)) - (b:Int))/9223372036854775808=((if x<lo+b then 1 else 0:Nat):Int)/\
  IntKind.u64.wrap (IntKind.u64.wrap ((x:Int) - (lo:Int)) - (b:Int)) % 4294967296=(((x+2*W - lo - b) % W:Nat):Int):=by
 rw[Pc,Pc,iD];by_cases h:x<lo+b
 ·rw[aA h];have e:(((x:Int) - (lo:Int)) % 18446744073709551616 - (b:Int)) % 18446744073709551616=(x:Int) - (lo:Int) - (b:Int)+18446744073709551616:=al
  rw[e];omega
 ·rw[aB h];have e:(((x:Int) - (lo:Int)) % 18446744073709551616 - (b:Int)) % 18446744073709551616=(x:Int) - (lo:Int) - (b:Int):=al
  rw[e];omega
theorem aaw (g j cap b P jI:Nat) (xs a:List Nat) (f:Nat) (w:World) (z:Small xs) (S:Small a) (t:f<W) (ax:xs.length<=35184372088832) (CE:a.length<=xs.length) (hx:bz w g j xs) (hy:bz w b P a) (aj:b≠g):
  c6 197 #[.slice (some ⟨g,j,none⟩) xs.length cap,.slice (some ⟨b,P,none⟩) a.length jI,.int .u32 (f:Nat)] w fun e w'=>∃(s:Nat) (l':List Nat),e=.returned (.bool (decide (s≠0)))/\l'.length=xs.length/\Small l'/\nw l'+f*nw a=nw xs+W^xs.length*s/\bz w' g j l'/\cO g j xs.length w w':=by
 have av:f<4294967296:=t;go_enter Tryz.func197,Tryz.ntmps197;go_wp2
 go_loopw [7,8,13] (fun c bo i wr=>∃k:Nat,k<=xs.length/\i=.int .i64 k/\c=.int .u64 ((cX xs a f k).2.1:Nat)/\bo=.int .u64 ((cX xs a f k).2.2:Nat)/\bz wr g j ((cX xs a f k).1++xs.drop k)/\cO g j xs.length w wr)
  (fun _ _ i _=>xs.length - (intOf i).toNat)
 case atStart=>exact⟨0,aS _,rfl,rfl,rfl,by simpa [cX] using hx,cO.refl _ _ _ _⟩
 case round=>
  obtain⟨k,hk,rfl,rfl,rfl,d,O⟩:=hrel;have M:=ait xs a f S t k;have T:=abk xs a f k;have h:=abj xs a f k;have A:=air xs a f k;have H:=aD (ais xs a f z k);rw[iD] at M;by_cases ak:k<xs.length
  ·have m:k<((cX xs a f k).1++xs.drop k).length:=by rw[dm,h,mY];omega
   have ab:=d.cell k m;have ai:=d.frozen (j+k);have Z:=fun y=>d.set k m y;simp only[RH _ xs k _ h ak] at Z
   have u:((cX xs a f k).1++xs.drop k)[k]?.getD 0=xs[k]?.getD 0:=by
    rw[O8 al,h,rZ,KY,fZ]
   rw[u] at ab
   have p:Hid (cX xs a f (k+1)=((cX xs a f k).1++[(xs[k]?.getD 0+2*W - ((cX xs a f k).2.1+a[k]?.getD 0*f) % W - (cX xs a f k).2.2) % W],
    ((cX xs a f k).2.1+a[k]?.getD 0*f)/W,if xs[k]?.getD 0<((cX xs a f k).2.1+a[k]?.getD 0*f) % W+(cX xs a f k).2.2 then 1 else 0)):=rfl
   have X:=getD_lt z k;have K:=getD_lt S k;have L:a[k]?.getD 0*f<=4294967295*4294967295:=iH (by rw[iD] at K;omega) (by rw[iD] at t;omega);rw[iD] at X K;by_cases V9:k<a.length
   ·have aq:=(hy.apart O aj).cell k V9;generalize (cX xs a f k).2.1=c at *;generalize (cX xs a f k).2.2=bo at *;generalize (cX xs a f k).1=q at *;generalize xs[k]?.getD 0=x at *;generalize a[k]?.getD 0=y at *;(have EA:(y:Int)*(f:Int)<=18446744065119617025:=by rw[<- jl];omega);(have xr:0<=(y:Int)*(f:Int):=by rw[<- jl];omega);obtain⟨lo,F⟩:∃lo,lo=(c+y*f) % 4294967296:=⟨_,rfl⟩
    have ao:bits .and .u64 ((c:Int)+(y:Int)*(f:Int)) 4294967295=(lo:Int):=by
     have:=Yh (c+y*f) al;rw[<- F] at this;rw[<- this,sZ,jl]
    (have ad:lo<4294967296:=al);have Y9:=aD F;have R:=aD Z;clear Z u m d H F L;go_wp2;obtain⟨v,n⟩:=TP x lo bo X ad T;rw[v,n];have J:Value.int .u64 (((c:Int)+(y:Int)*(f:Int))/4294967296)=.int .u64 (((c+y*f)/W:Nat):Int):=int_eq (by rw[iD,vp,sZ,jl];rfl);rw[J];have l:=R.o ((x+2*W - lo - bo) % W);have sP:Hid ((c+y*f) % W=lo):=Y9.o.symm;have I:=p.o;rw[sP.o] at I;go_roundw
    case rel=>exact⟨k+1,al,bd,by rw[I],by rw[I],by rw[I];exact l,O.trans (cO.setCell (OZ _ _) al _)⟩
    case measure=>simp[intOf];omega
   ·have U:a[k]?.getD 0=0:=by rw[iV al];rfl
    by_cases D:(cX xs a f k).2.1=0/\(cX xs a f k).2.2=0
    ·obtain⟨V,Y⟩:=D
     have E:Hid (nw ((cX xs a f k).1++xs.drop k)+f*nw a=nw xs):=by
      show _=_;have e:=H.o;rw[V,Y,l5,fZ,jA (show a.length<=k by omega)] at e;have e2:=ue xs k hk;rw[Cy,h];omega
     have an:=Aj A (Lm z k);(have cN:((cX xs a f k).1++xs.drop k).length=xs.length:=by rw[dm,h,mY];omega);rw[V,Y];generalize (cX xs a f k).1++xs.drop k=q at *;clear Z ab ai p u m H L;go_wp2;go_ret;exact⟨0,q,rfl,cN,an,by rw[E.o,l5,fZ],d,O⟩
    ·have I:=p.o;simp only[U,mX,fZ] at I;generalize (cX xs a f k).2.1=c at *;generalize (cX xs a f k).2.2=bo at *;generalize (cX xs a f k).1=q at *;generalize xs[k]?.getD 0=x at *;have aa:c % W=c:=jM M;simp only[aa] at I
     have ao:bits .and .u64 (c:Int) 4294967295=(c:Int):=by
      have:=Yh c al;rwa [jM M] at this
     have Q:=aD I;have R:=aD Z;clear Z u m d H U L p I aa;by_cases r:c=0
     ·subst r;(have ae:bo=1:=al);subst ae;clear D;go_wp2;obtain⟨v,n⟩:=TP x 0 1 X al al;have hz:bits .and .u64 0 4294967295=((0:Nat):Int):=Yh 0 al;rw[hz,show IntKind.u64.wrap (IntKind.u64.wrap ((x:Int) - ((0:Nat):Int)) - 1)=IntKind.u64.wrap (IntKind.u64.wrap ((x:Int) - ((0:Nat):Int)) - ((1:Nat):Int)) from rfl,v,n];have l:=R.o ((x+2*W - 0 - 1) % W);go_roundw
      case rel=>exact⟨k+1,al,bd,by rw[Q.o];rfl,by rw[Q.o],by rw[Q.o];exact l,O.trans (cO.setCell (OZ _ _) al _)⟩
      case measure=>simp[intOf];omega
     ·have af:((c:Int)==0)=false:=by rw[BU];omega
      clear D;go_wp2;obtain⟨v,n⟩:=TP x c bo X M T;rw[v,n];have J:Value.int .u64 ((c:Int)/4294967296)=.int .u64 ((c/W:Nat):Int):=int_eq (by rw[iD];omega);have l:=R.o ((x+2*W - c - bo) % W);rw[J];go_roundw
      case rel=>exact⟨k+1,al,bd,by rw[Q.o],by rw[Q.o],by rw[Q.o];exact l,O.trans (cO.setCell (OZ _ _) al _)⟩
      case measure=>simp[intOf];omega
  ·obtain rfl:k=xs.length:=al
   rw[List.drop_length,F9] at d
   have E:Hid (nw (cX xs a f xs.length).1+f*nw a=nw xs+W^xs.length*((cX xs a f xs.length).2.1+(cX xs a f xs.length).2.2)):=by
    show _=_;have e:=H.o;rwa [fD,jA CE] at e
   generalize (cX xs a f xs.length).1=q at *;generalize (cX xs a f xs.length).2.1=c at *;generalize (cX xs a f xs.length).2.2=bo at *;clear H;by_cases r:c=0
   ·subst r;rcases (show bo=0∨bo=1 by omega) with rfl |rfl
    ·go_wp2;go_ret;exact⟨0,q,rfl,h,A,E.o,d,O⟩
    ·go_wp2;go_ret;exact⟨1,q,rfl,h,A,E.o,d,O⟩
   ·have af:((c:Int) !=0)=true:=by rw[bne_iff_ne];omega
    go_wp2;go_ret;exact⟨c+bo,q,aiF (by symm;rw[S1];omega),h,A,E.o,d,O⟩
theorem agS (h:m<=n):(words m).length<=(words n).length:=by
 rw[Po,Po];have:=X9 h;omega
theorem aqs (a b:ByteArray) (w:World) (h:N a<N b):
  c6 149 #[.string a,.string b] w (da w (.tuple #[.string ⟨#[]⟩,.bool false])):=by
 have d:jY (N a) (N b)= -1:=by rw[jY,aA h]
 have c:=fun V=>ZK a b V;simp only[d] at c;have H:=aD c;clear c d;go_enter Tryz.func149,Tryz.ntmps149;go_wp2_with fail
 refine(H.o _).af ?_;rintro e g ⟨rfl,f⟩;subst f;go_wp2;go_ret2;exact⟨rfl,aw _ _⟩
theorem aqq (a b:ByteArray) (w:World) (T:a.size<=1099511627776) (U:b.size<=1099511627776) (h:N b<=N a):
  c6 149 #[.string a,.string b] w (da w (.tuple #[.string (B (N a - N b)),.bool true])):=by
 have Y:0<=jY (N a) (N b):=by
  rw[jY,aB al];split<;>omega
 have p:=fun V=>ZK a b V;generalize jY (N a) (N b)=S at *;have H:=aD p;clear p;have mD:=Ag a 274877906944 al;have Z:=Ag b 274877906944 al;go_enter Tryz.func149,Tryz.ntmps149;go_wp2_with fail
 refine(H.o _).af ?_;rintro e w0 ⟨rfl,J⟩;subst J;go_wp2_with fail
 refine(Ai a _ al).af ?_;rintro e r ⟨g,E,rfl,c,v⟩;go_wp2_with fail
 refine(Ai b _ al).af ?_;rintro e K ⟨m,F,rfl,f,i⟩;have q:=yR c i;have y:=yR f (aw _ _);have x:=c.aa i (ar _);have ab:g<r.heap.size:=(yR c (aw _ _)).lt
 have ad:r.heap.size<=m:=by
  rcases f.cases with ⟨e,_⟩ |⟨g',R,e,_,j,_⟩
  ·cases e
  ·cases e;exact j
 have P:w0.heap.size<=g:=by
  rcases c.cases with ⟨e,_⟩ |⟨g',R,e,_,j,_⟩
  ·cases e
  ·cases e;exact j
 have t:c8 w0 K:=v.trans (i.af v.size);go_wp2_with fail
 refine(aaw g 0 E m 0 F _ _ 1 _ (oB _) (oB _) a6 al (agS h) q y al).af ?_;rintro e L ⟨s,l,rfl,d,A,n,M,u⟩
 have z:s=0:=by
  have Q:=wQ l A;rw[d] at Q;rw[lF,lF] at n;rcases Ca s with e |e
  ·exact e
  ·have:W^(words (N a)).length*1<=W^(words (N a)).length*s:=l6 _ e;omega
 have D:Hid (nw l=N a - N b):=by
  show _=_;rw[lF,lF,z] at n;omega
 have I:=x.upd u M d;have k:c8 w0 L:=cO.aa t u P t.size;have X:=aD d;clear n d q y x M u c f z;go_wp2_with fail
 refine(Rv _ _ _ _ A (by rw[X.o];omega) I).af ?_;rintro e w4 ⟨rfl,O⟩;go_wp2;go_ret2;exact⟨by rw[D.o];rfl,k.trans (O.af k.size)⟩
def iW (x:Nat) (ys p:List Nat) (i j:Nat):Nat:=x*ys[j]?.getD 0+p[i+j]?.getD 0
theorem abp (x:Nat) (s p:List Nat) (i:Nat) (f:x<W) (y:Small s) (a:Small p) (k:Nat):(acc (iW x s p i) k).2<W:=by
 have h:=Yn (iW x s p i) (W - 1) k fun j _=>by
  have b:=getD_lt y j;have c:=getD_lt a (i+j);have d:x*s[j]?.getD 0<=(W - 1)*(W - 1):=iH al al;have e:(W - 1)*(W - 1)+W+W<=W*W+1:=a6
  unfold iW;rw[S4 mK];omega
 have:=mK;omega
theorem aiz (x:Nat) (s p:List Nat) (i:Nat):jS (iW x s p i) s.length=x*nw s+nw ((p.drop i).take s.length):=by
 rw[show iW x s p i=fun j=>(fun j=>x*(fun j=>s[j]?.getD 0) j) j+(fun j=>p[i+j]?.getD 0) j from rfl,acO,acM,acN s _ (ar _)];congr 1
 rw[<- Jn];exact akD fun j _=>by rw[KY]
def Au (x:Nat) (ys p:List Nat) (i:Nat):List Nat:=p.take i++((acc (iW x ys p i) ys.length).1++[(acc (iW x ys p i) ys.length).2])++p.drop (i+(ys.length+1))
theorem acL (p:List Nat) (k:Nat) (h:∀j,k<=j ->p[j]?.getD 0=0):nw (p.drop k)=0:=by
 have:p.drop k=List.replicate (p.drop k).length 0:=by
  apply qh
  ·simp
  ·intro j a b;have:=h (k+j) al;rw[mY] at a;rw[List.getElem?_eq_getElem al] at this;simpa using this
 rw[this,UJ]
theorem alc (x:Nat) (s p:List Nat) (i:Nat) (m:x<W) (y:Small s) (h:Small p) (n:i+s.length<p.length) (a:∀j,i+s.length<=j ->p[j]?.getD 0=0):
  (Au x s p i).length=p.length/\Small (Au x s p i)/\nw (Au x s p i)=nw p+W^i*(x*nw s)/\∀j,i+1+s.length<=j ->(Au x s p i)[j]?.getD 0=0:=by
 have l:=Nu (iW x s p i) s.length;have L:(p.take i).length=i:=by rw[eX];omega
 have d:(p.take i++((acc (iW x s p i) s.length).1++[(acc (iW x s p i) s.length).2])).length=i+(s.length+1):=by
  rw[dm,dm,L,l];rfl
 refine⟨?_,?_,?_,?_⟩
 ·rw[Au,dm,d,mY];omega
 ·refine Aj (Aj (I7 h i) (Aj (Yl _ _) ?_)) (Lm h _);intro z c;simp only[dX] at c;subst c;exact abp x s p i m y h _
 ·have e:=Ym (iW x s p i) s.length;rw[aiz] at e;have f:=ue p i al;have b:=ue (p.drop i) s.length (by rw[mY];omega);rw[List.drop_drop,acL p (i+s.length) a,l5,fZ] at b;have g:=acL p (i+(s.length+1)) (fun j k=>a j al);rw[Au,Cy,g,l5,fZ,Cy,L,Eo,l,e,f,b,nZ];omega
 ·intro j k;rw[Au,O8 al,d,KY];exact a _ al
theorem cO.drewN {f:Nat} {a b:World} (h:cO g f n a b) (k:Nat):cO g f n a (b.drewN k):=⟨⟨h.grown.os,h.grown.tape,h.grown.output,h.grown.size,h.grown.block⟩,h.inside⟩
theorem bz.drewN {f:Nat} {l:List Nat} (h:bz w g f l) (k:Nat):bz (w.drewN k) g f l:=h
theorem ahj (T lM Y jI:Nat) (xs a:List Nat) (w:World) (i7:Small xs) (U:Small a) (bm:xs.length<=8796093022208) (bo:a.length<=8796093022208) (hx:bz w T 0 xs) (hy:bz w Y 0 a):
  c6 179 #[.slice (some ⟨T,0,none⟩) xs.length lM,.slice (some ⟨Y,0,none⟩) a.length jI] w fun e w'=>∃v l,e=.returned v/\Has w' w.heap.size v l/\Small l/\l.length=xs.length+a.length/\nw l=nw xs*nw a/\c8 w w':=by
 obtain⟨i0,hi,a1,a6,a8⟩:=dW Tryz.infoU32;have aG:=hx.lt;have GS:=hy.lt;go_enter Tryz.func179,Tryz.ntmps179
 go_wp2_with (first
  |(at_make;refine nY _ rfl _ _ 180 rfl w.heap.size 152 i0 (.int .u32 0) 1 Tryz.underlying180 hi a1 a6 .i64 .i64 _ _ (xs.length+a.length) rfl rfl al al (by rw[a8];omega) (by unfold maxLen;omega) (ar _) ?_;intro g aj ak;have u:=qP aj;rw[LP] at u;have P:=aD u;have r:c8 w g:=(aw _ w).grown ak (ar _) (fun k e=>by cases e);have aO:=hx.aa r aG;have aQ:=hy.aa r GS;clear aj ak u))
 have aM:=Qz P.o
 go_loopw [17] (fun i wr=>∃(k:Nat) (p:List Nat),k<=xs.length/\i=.int .i64 k/\p.length=xs.length+a.length/\Small p/\Hid (nw p=nw (xs.take k)*nw a)/\Hid (∀j,k+a.length<=j ->p[j]?.getD 0=0)/\bz wr w.heap.size 0 p/\cO w.heap.size 0 (xs.length+a.length) g wr)
  (fun i _=>xs.length - (intOf i).toNat)
 case atStart=>exact⟨0,_,aS _,rfl,aE,aaZ _,by show _=_;rw[UJ];simp[oH],fun j _=>by rw[Th];split<;>rfl,aM,cO.refl _ _ _ _⟩
 case round=>
  obtain⟨k,p,hk,rfl,t,f,M,QO,A,O⟩:=hrel;obtain⟨h,rfl⟩:∃h:World,h=wr:=⟨_,rfl⟩;by_cases D:k<xs.length
  ·have uo:=fun V (hV:cO w.heap.size 0 (xs.length+a.length) g V)=>(aO.apart hV al).cell k D;have X:=getD_lt i7 k;have ad:=alc (xs[k]?.getD 0) a p k X U f al QO.o
   have L:Hid (nw (xs.take (k+1))=nw (xs.take k)+W^k*xs[k]?.getD 0):=by
    show _=_;rw[UK xs k D,List.getElem?_eq_getElem D];rfl
   generalize xs[k]?.getD 0=x at *;have ao:=aD uo;have ab:=aD ad;(have ai:bz h w.heap.size 0 (p.take k++(acc (iW x a p k) 0).1++p.drop (k+0)):=by simpa [acc] using A);clear uo ad;go_wp2
   go_loopw [7,22] (fun c j wr=>∃m:Nat,m<=a.length/\j=.int .i64 m/\c=.int .u64 ((acc (iW x a p k) m).2:Nat)/\bz wr w.heap.size 0 (p.take k++(acc (iW x a p k) m).1++p.drop (k+m))/\cO w.heap.size 0 (xs.length+a.length) g wr)
    (fun _ j _=>a.length - (intOf j).toNat)
   case atStart=>exact⟨0,aS _,rfl,rfl,ai,O⟩
   case round=>
    obtain⟨m,hm,rfl,rfl,E,H⟩:=hrel;have yM:=abp x a p k X U f m;have b:=Nu (iW x a p k) m;(have d:(p.take k).length=k:=by rw[eX];omega);rw[iD] at yM;by_cases V1:m<a.length
    ·have Q:k+m<(p.take k++(acc (iW x a p k) m).1++p.drop (k+m)).length:=by rw[dm,dm,d,b,mY];omega
     have F:=E.cell (k+m) Q;have ay:=E.frozen (k+m);rw[ain _ _ _ k m d b,bM] at F;have Z:=fun z n=>(E.drewN n).set (k+m) Q z;simp only[abe _ _ p k m _ d b al,bM] at Z;have av:=ao.o wr H;rw[bM] at av;have aq:=(aQ.apart H al).cell m V1;rw[bM] at aq;have I:=getD_lt U m;have jV:=getD_lt f (k+m);have K:Hid (acc (iW x a p k) (m+1)=((acc (iW x a p k) m).1++[((acc (iW x a p k) m).2+iW x a p k m) % W],((acc (iW x a p k) m).2+iW x a p k m)/W)):=rfl;have J:Hid (iW x a p k m=x*a[m]?.getD 0+p[k+m]?.getD 0):=rfl;have L8:x*a[m]?.getD 0<=4294967295*4294967295:=iH (by rw[iD] at X;omega) (by rw[iD] at I;omega);rw[iD] at I jV;have bg:x<4294967296:=X;generalize (acc (iW x a p k) m).2=c at *;generalize (acc (iW x a p k) m).1=q at *;generalize iW x a p k m=s at *;generalize a[m]?.getD 0=y at *;generalize p[k+m]?.getD 0=z at *;(have EA:(x:Int)*(y:Int)<=18446744065119617025:=by rw[<- jl];omega);(have xr:0<=(x:Int)*(y:Int):=by rw[<- jl];omega);(have bk:(k:Int)<(xs.length:Int):=al);(have bp:(m:Int)<(a.length:Int):=al);(have bf:(k:Int)+(m:Int)<(xs.length:Int)+(a.length:Int):=al);(have bb:((k:Int)+(m:Int)).toNat=k+m:=al);have R:=aD Z;clear Z Q E L8;go_wp2_with fail
     go_quiet (fail)
     go_wp2;have hv:Value.int .u32 (((c:Int)+((x:Int)*(y:Int)+(z:Int))) % 4294967296)=.int .u32 (((c+s) % W:Nat):Int):=int_eq (by rw[iD,J.o,sY,sZ,sZ,jl];rfl);have aN:Value.int .u64 (((c:Int)+((x:Int)*(y:Int)+(z:Int)))/4294967296)=.int .u64 (((c+s)/W:Nat):Int):=int_eq (by rw[iD,J.o,vp,sZ,sZ,jl];rfl);rw[hv,aN];have hq:=R.o ((c+s) % W) nq;go_roundw
     case rel=>exact⟨m+1,al,bd,by rw[K.o],by rw[K.o];exact hq,(H.drewN nq).trans (cO.setCell (aS _) al _)⟩
     case measure=>simp[intOf];omega
    ·obtain rfl:m=a.length:=al
     (have Q:k+a.length<(p.take k++(acc (iW x a p k) a.length).1++p.drop (k+a.length)).length:=by rw[dm,dm,d,b,mY];omega);have F:=E.cell (k+a.length) Q;have ay:=E.frozen (k+a.length);rw[bM] at F;have Z:=E.set (k+a.length) Q (acc (iW x a p k) a.length).2;rw[abe _ _ p k a.length _ d b al,bM] at Z;change bz _ _ _ (Au x a p k) at Z
     have R:=aD Z;(have bl:((k:Int)+(a.length:Int)).toNat=k+a.length:=al);generalize (p.take k++(acc (iW x a p k) a.length).1++p.drop (k+a.length))[k+a.length]?.getD 0=br at *;generalize (acc (iW x a p k) a.length).2=c at *;obtain⟨s1,s2,s3,s4⟩:=ab.o
     have zu:Hid (nw (Au x a p k)=nw (xs.take (k+1))*nw a):=by
      show _=_;rw[s3,M.o,L.o,gC,iU]
     have kE:=aD s1;have gQ:=aD s2;have an:=aD s4;generalize Au x a p k=p2 at *;clear Z Q E ab s1 s2 s3 s4 L ai A;go_wp2;go_roundw
     case rel=>exact⟨k+1,p2,al,bd,by rw[kE.o,t],gQ.o,zu,fun j hj=>an.o j al,R.o,H.trans (cO.setCell (aS _) al _)⟩
     case measure=>simp[intOf];omega
  ·obtain rfl:k=xs.length:=al
   obtain⟨ax,ae,af,_⟩:=O.inside _ P.o;have rE:=LH (base:=w.heap.size) (cap:=xs.length+a.length) ax ae (by rw[af];simp) (ar _) (by unfold maxLen;omega) al A;have dU:c8 w h:=cO.aa r O (ar _) r.size;have S:=aD t;rw[t] at rE;clear t ae af A O;go_wp2;go_ret;exact⟨_,p,rfl,by rw[Has,S.o];exact rE,f,S.o,by have:=M.o;rwa [fD] at this,dU⟩
theorem NB (a b:ByteArray) (w:World) (D:a.size<=1099511627776) (E:b.size<=1099511627776):
  c6 128 #[.string a,.string b] w (da w (.string (B (N a*N b)))):=by
 have I:=Ag a 274877906944 al;have F:=Ag b 274877906944 al;go_enter Tryz.func128,Tryz.ntmps128;go_wp2_with fail
 refine(Ai a _ al).af ?_;rintro e J ⟨k,i,rfl,n,d⟩;go_wp2_with fail
 refine(Ai b _ al).af ?_;rintro e s ⟨m,j,rfl,p,f⟩;have r:=yR n f;have z:=yR p (aw _ _);have h:c8 w s:=d.trans (f.af d.size);go_wp2_with fail
 refine(ahj k i m j _ _ _ (oB _) (oB _) al al r z).af ?_;rintro e t ⟨v,l,rfl,q,A,y,g,u⟩;have c:c8 w t:=h.trans (u.af h.size);have V:=aD g;have H:=aD y;clear g y;go_wp2_with fail
 refine(Rv _ _ _ _ A (by rw[H.o];omega) q).af ?_;rintro e K ⟨rfl,x⟩;go_wp2;go_ret;exact⟨by rw[V.o,lF,lF];rfl,c.trans (x.af c.size)⟩
theorem af6 (n:Int) (w:World) (h0: -9223372036854775808<=n) (h1:n<=9223372036854775807):
  c6 105 #[.int .i64 n] w (da w (.string (B n.toNat))):=by
 have h:=fun V=>acK n.toNat V al;by_cases c:0<=n
 ·obtain⟨m,rfl⟩:=Int.eq_ofNat_of_zero_le c;rw[nh] at h⊢;have H:=aD h;have x:max (m:Int) 0=(m:Int):=al
  clear h;go_enter Tryz.func105,Tryz.ntmps105;go_wp2_with fail
  refine(H.o _).af ?_;rintro e d ⟨rfl,b⟩;go_wp2;go_ret;exact⟨rfl,b⟩
 ·have a:n.toNat=0:=al
  rw[a] at h⊢;have H:=aD h;have x:max n 0=0:=al
  clear h a;go_enter Tryz.func105,Tryz.ntmps105;go_wp2_with fail
  refine(H.o _).af ?_;rintro e d ⟨rfl,b⟩;go_wp2;go_ret;exact⟨rfl,b⟩
theorem anK (a b:Nat) (w:World) (d:a<18446744073709551616) (e:b<18446744073709551616):
  c6 202 #[.int .u64 (a:Nat),.int .u64 (b:Nat)] w (da w (.int .u64 (Nat.gcd a b:Nat))):=by
 go_enter Tryz.func202,Tryz.ntmps202;go_wp2;go_loopw [0,1] (fun x y wr=>∃m n:Nat,x=.int .u64 m/\y=.int .u64 n/\m<18446744073709551616/\n<18446744073709551616/\Hid (Nat.gcd m n=Nat.gcd a b)/\c8 w wr) (fun _ y _=>(intOf y).toNat)
 case atStart=>exact⟨a,b,rfl,rfl,d,e,rfl,aw _ _⟩
 case round=>
  obtain⟨m,n,rfl,rfl,i,f,g,h⟩:=hrel;by_cases c:n=0
  ·subst c;go_wp2;go_ret;exact⟨Co (by rw[<- g.o,Nat.gcd_zero_right]),h⟩
  ·have j:((n:Int) !=0)=true:=by rw[bne_iff_ne];omega
   (have l:((n:Int)==0)=false:=by rw[BU];omega);(have P:¬(n:Int)=0:=al);(have k:0<n:=al);have r:m % n<n:=iw _ k;(have H:Hid (Nat.gcd n (m % n)=Nat.gcd a b):=by show _=_;rw[<- g.o, <- KS (m % n) n, <- Nat.gcd_rec,KS]);go_wp2_with fail
   go_region
   all_goals go_wp2
   rw[show ((m:Int) % (n:Int))=((m % n:Nat):Int) from (sY m n).symm];go_roundw
   case rel=>exact⟨n,m % n,rfl,rfl,f,al,H,h.drew⟩
   case measure=>simp[intOf];omega
theorem akp (a b:Nat) (h:a<4294967296) (d:b<4294967296):bits .or .u64 (a:Int) ((b:Int)*4294967296)=((a+b*4294967296:Nat):Int):=by
 have e:(b:Int)*4294967296=((b*4294967296:Nat):Int):=al
 rw[e,u64_or_nat _ _ al al];congr 1
 have:=nat_join 32 (b*4294967296) a al al;have c:a |||b*4294967296=b*4294967296 |||a:=Nat.or_comm _ _;omega
theorem or_zero (a:Nat) (h:a<4294967296):bits .or .u64 0 (a:Int)=(a:Int):=by
 have:=u64_or_nat 0 a al al;rw[show ((0:Nat):Int)=0 from rfl] at this;rw[this,Nat.zero_or]
theorem Z9 (g cap:Nat) (l:List Nat) (w:World) (s:Small l) (n:l.length<=2) (d:bz w g 0 l):
  c6 203 #[.slice (some ⟨g,0,none⟩) l.length cap] w fun e w'=>e=.returned (.int .u64 (nw l:Nat))/\w'=w:=by
 match l,n with
 |[],_=>
  go_enter Tryz.func203,Tryz.ntmps203;go_wp2;refine KI 1 ?_;rw[rY];go_wp2;go_ret;exact⟨rfl,rfl⟩
 |[a],_=>
  have c:=d.cell 0 aE;have h:a<4294967296:=s a aE;have o:=or_zero a h;simp only[bM,List.getElem?_cons_zero,zY] at c;go_enter Tryz.func203,Tryz.ntmps203;go_wp2;refine KI 2 ?_;rw[rY];go_wp2;rw[rY];go_wp2;go_ret;exact⟨Co (by simp[lG,oH]),rfl⟩
 |[a,b],_=>
  have c:=d.cell 0 aE;have f:=d.cell 1 aE;have h:a<4294967296:=s a aE;have i:b<4294967296:=s b aE;have o:=or_zero a h;have j:=akp a b h i;simp only[bM,List.getElem?_cons_zero,List.getElem?_cons_succ,zY] at c f;go_enter Tryz.func203,Tryz.ntmps203;go_wp2;refine KI 3 ?_;rw[rY];go_wp2;rw[rY];go_wp2;rw[rY];go_wp2;go_ret;exact⟨Co (by simp only[lG,oH,iD];omega),rfl⟩
def jP (xs:List Nat) (s j:Nat):Nat:=2^s*xs[j]?.getD 0
theorem aif (xs:List Nat) (s:Nat):jS (jP xs s) xs.length=2^s*nw xs:=by
 rw[show jP xs s=fun j=>2^s*(fun j=>xs[j]?.getD 0) j from rfl,acM,acN xs _ (ar _)]
theorem aa6 (xs:List Nat) (x:Small xs) (s k:Nat):(acc (jP xs s) k).2<2^s:=by
 have p:0<2^s:=vh a6
 have h:=Yn (jP xs s) (2^s - 1) k fun j _=>by
  have a:=getD_lt x j;have b:2^s*(xs[j]?.getD 0+1)<=2^s*W:=l6 _ a;rw[nZ] at b;unfold jP;rw[S4 p];omega
 omega
theorem PZ {s:Nat} (h:s<32):2^s<=2147483648:=by
 have:2^s<=2^31:=kN a6 al;simpa using this
theorem aia (c x s:Nat) (a:s<32) (h:c<2^s) (b:x<4294967296):bits .or .u64 (c:Int) (IntKind.u64.wrap ((x:Int)*2^s))=((c+2^s*x:Nat):Int):=by
 have p:=PZ a;have m:x*2^s<=4294967295*2147483648:=iH al p
 have e:IntKind.u64.wrap ((x:Int)*2^s)=((x*2^s:Nat):Int):=by
  rw[Pc,show ((x:Int)*2^s)=((x*2^s:Nat):Int) by simp];omega
 rw[e,u64_or_nat _ _ al al,Nat.or_comm,nat_join s _ _ (Nat.mul_mod_left _ _) h];congr 1
 rw[dJ];omega
theorem aa4 (D lM:Nat) (xs:List Nat) (s:Nat) (w:World) (m:Small xs) (h:s<32) (aM:xs.length<=8796093022208) (J:bz w D 0 xs):
  c6 232 #[.slice (some ⟨D,0,none⟩) xs.length lM,.int .i64 (s:Nat)] w fun e w'=>∃v l,e=.returned v/\Has w' w.heap.size v l/\Small l/\l.length=xs.length+1/\nw l=2^s*nw xs/\c8 w w':=by
 obtain⟨i0,hi,aq,av,ax⟩:=dW Tryz.infoU32;have ai:=J.lt;go_enter Tryz.func232,Tryz.ntmps232
 go_wp2_with (first
  |(at_make;refine nY _ rfl _ _ 180 rfl w.heap.size 152 i0 (.int .u32 0) 1 Tryz.underlying180 hi aq av .i64 .i64 _ _ (xs.length+1) rfl rfl al al (by rw[ax];omega) (by unfold maxLen;omega) (ar _) ?_;intro n X ab;have u:=qP X;rw[LP] at u;have g:=aD u;have r:c8 w n:=(aw _ w).grown ab (ar _) (fun k e=>by cases e);have ao:=J.aa r ai;clear X ab u))
 have aj:=Qz g.o
 go_loopw [6,15] (fun c i wr=>∃k:Nat,k<=xs.length/\i=.int .i64 k/\c=.int .u64 ((acc (jP xs s) k).2:Nat)/\bz wr w.heap.size 0 ((acc (jP xs s) k).1++(List.replicate (xs.length+1) 0).drop k)/\cO w.heap.size 0 (xs.length+1) n wr)
  (fun _ i _=>xs.length - (intOf i).toNat)
 case atStart=>exact⟨0,aS _,rfl,rfl,by simpa [acc] using aj,cO.refl _ _ _ _⟩
 case round=>
  obtain⟨k,hk,rfl,rfl,d,O⟩:=hrel;have a:=Nu (jP xs s) k;by_cases ak:k<xs.length
  ·have uo:=(ao.apart O al).cell k ak;rw[bM] at uo;(have Q:k<((acc (jP xs s) k).1++(List.replicate (xs.length+1) 0).drop k).length:=by rw[dm,a,mY,IM];omega);have A:=d.cell k Q;have af:=d.frozen k;have Z:=fun y=>d.set k Q y;rw[bM] at A;simp only[RH _ (List.replicate (xs.length+1) 0) k _ a (by simp;omega),bM] at Z;have U:=getD_lt m k;have b:=aa6 xs m s k;have H:Hid (acc (jP xs s) (k+1)=((acc (jP xs s) k).1++[((acc (jP xs s) k).2+jP xs s k) % W],((acc (jP xs s) k).2+jP xs s k)/W)):=rfl;have F:Hid (jP xs s k=2^s*xs[k]?.getD 0):=rfl;rw[iD] at U;have E:=aia (acc (jP xs s) k).2 (xs[k]?.getD 0) s h b U;have I:2^s*xs[k]?.getD 0<=2147483648*4294967295:=iH (PZ h) al;have p:=PZ h;rw[<- F.o] at E I;generalize jP xs s k=f at *;generalize (acc (jP xs s) k).2=c at *;generalize (acc (jP xs s) k).1=q at *;generalize xs[k]?.getD 0=x at *;generalize (q++(List.replicate (xs.length+1) 0).drop k)[k]?.getD 0=ay at *;obtain⟨t,j⟩:∃t,t=c+f:=⟨_,rfl⟩;rw[<- j] at E;(have Eu:t<18446744073709551615:=al);have T:=aD j;have lR:=aD Z;(have R:c<4294967296:=al);clear Z Q d j I p b F;go_wp2;have hv:Value.int .u32 ((t:Int) % 4294967296)=.int .u32 (((c+f) % W:Nat):Int):=int_eq (by rw[iD, <- T.o];omega);have an:Value.int .u64 ((t:Int)/4294967296)=.int .u64 (((c+f)/W:Nat):Int):=int_eq (by rw[iD, <- T.o];omega);rw[hv,an];have hq:=lR.o ((c+f) % W);go_roundw
   case rel=>exact⟨k+1,al,bd,by rw[H.o],by rw[H.o];exact hq,O.trans (cO.setCell (aS _) al _)⟩
   case measure=>simp[intOf];omega
  ·obtain rfl:k=xs.length:=al
   (have Q:xs.length<((acc (jP xs s) xs.length).1++(List.replicate (xs.length+1) 0).drop xs.length).length:=by rw[dm,a,mY,IM];omega);have A:=d.cell xs.length Q;have af:=d.frozen xs.length;have Z:=d.set xs.length Q (acc (jP xs s) xs.length).2;rw[RH _ (List.replicate (xs.length+1) 0) xs.length _ a aE,IU aE,F9,bM] at Z;rw[bM] at A;have b:=aa6 xs m s xs.length;have p:=PZ h;have HE:=aD (Ym (jP xs s) xs.length);have qA:=Yl (jP xs s) xs.length;have F:=aD (aif xs s);obtain⟨aG,ae,Mw,_⟩:=O.inside _ g.o;generalize ((acc (jP xs s) xs.length).1++(List.replicate (xs.length+1) 0).drop xs.length)[xs.length]?.getD 0=ay at *;generalize (acc (jP xs s) xs.length).2=c at *;generalize (acc (jP xs s) xs.length).1=q at *;(have R:c<4294967296:=al);have V:cO w.heap.size 0 (xs.length+1) n (wr.setCell ⟨w.heap.size,xs.length,none⟩ (.int .u32 (c:Nat))):=O.trans (cO.setCell (aS _) al _);obtain⟨ad,S,P,_⟩:=V.inside _ g.o;(have M:(q++[c]).length=xs.length+1:=by rw[dm,a];rfl);have L:=LH (base:=w.heap.size) (cap:=xs.length+1) ad S (by rw[P];simp) (ar _) (by unfold maxLen;omega) al Z;have dU:=cO.aa r V (ar _) r.size;have HO:=aD L;have Y:=aD M;have Kp:=aD a;clear Z Q d ae Mw S P L V M a p b;go_wp2;go_ret;refine⟨_,q++[c],rfl,?_,?_,Y.o,?_,dU⟩
   ·rw[Has,Y.o];have:=HO.o;rwa [Y.o] at this
   ·exact Aj qA (fun z K=>by simp at K;subst K;exact R)
   ·rw[Eo,Kp.o,HE.o,F.o]
def pN (s:Nat):List Nat ->List Nat
 |[]=>[]
 |x::r=>(x+W*r[0]?.getD 0)/2^s % W::pN s r
theorem aie (s:Nat) (l:List Nat):(pN s l).length=l.length:=by
 induction l with
 |nil=>rfl
 |cons x r ih=>rw[pN,eA,ih,eA]
theorem aa5 (s:Nat) (l:List Nat):Small (pN s l):=by
 induction l with
 |nil=>intro x a;simp[pN] at a
 |cons x r ih=>
  intro y h;rw[pN] at h;rcases dR.1 h with rfl |h
  ·exact iw _ mK
  ·exact ih y h
theorem akB (l:List Nat) (h:Small l):nw l % W=l[0]?.getD 0:=by
 cases l with
 |nil=>rfl
 |cons x r=>rw[lG,ZN];exact jM (h x dQ)
theorem aqo {s:Nat} (h:s<=32):W=2^s*2^(32 - s):=by rw[<- DU,show s+(32 - s)=32 by omega];rfl
theorem aid (s:Nat) (o:s<=32) (l:List Nat) (d:Small l):nw (pN s l)=nw l/2^s:=by
 induction l with
 |nil=>simp[pN,oH]
 |cons x r ih=>
  have f:Small r:=fun y p=>d y (eH _ p);have u:=d x dQ;have h:0<2^s:=vh a6;rw[pN,lG,lG,ih f, <- akB r f];generalize nw r=n;have g:=Nat.div_add_mod n (2^s);have m:=iw n h;generalize hq:n/2^s=a at *;generalize ic:n % 2^s=b at *
  have q:(x+W*b)/2^s<W:=by
   refine IJ ?_;have:W*(b+1)<=W*2^s:=l6 _ m;rw[nZ,dJ W (2^s)] at this;omega
  have i:(x+W*n)/2^s=(x+W*b)/2^s+W*a:=by
   rw[<- g,nZ, <- DY,Nat.add_right_comm,show W*(2^s*a)=2^s*(W*a) by rw[B3],Nat.add_mul_div_left _ _ h]
  have j:(x+W*(n % W))/2^s % W=(x+W*b)/2^s:=by
   have k:=aqo o;(have t:n % W % 2^s=b:=by rw[<- ic,k,Nat.mod_mul_right_mod]);have e:=Nat.div_add_mod (n % W) (2^s);rw[t] at e;generalize n % W/2^s=c at *;rw[<- e,nZ, <- DY,Nat.add_right_comm,show W*(2^s*c)=2^s*(W*c) by rw[B3],Nat.add_mul_div_left _ _ h,ZN];exact jM q
  rw[i,j]
theorem aib (a x:Nat) (h:x<4294967296):bits .or .u64 (IntKind.u64.wrap ((a:Int)*4294967296)) (x:Int)=((a % 4294967296*4294967296+x:Nat):Int):=by
 have e:IntKind.u64.wrap ((a:Int)*4294967296)=((a % 4294967296:Nat):Int)*4294967296:=by rw[Pc];omega
 rw[e];exact acB (a % 4294967296) x al h
theorem aic (g cap:Nat) (l:List Nat) (s:Nat) (w:World) (R:Small l) (U:s<32) (Z:l.length<=35184372088832) (D:bz w g 0 l):
  c6 234 #[.slice (some ⟨g,0,none⟩) l.length cap,.int .i64 (s:Nat)] w fun e w'=>e=.returned (.tuple #[])/\bz w' g 0 (pN s l)/\cO g 0 l.length w w':=by
 go_enter Tryz.func234,Tryz.ntmps234;go_wp2
 go_loopw [4,9] (fun a i wr=>∃k b:Nat,k<=l.length/\i=.int .i64 k/\a=.int .u64 (b:Nat)/\b<18446744073709551616/\Hid (b % 4294967296=(l.drop (l.length - k))[0]?.getD 0)/\bz wr g 0 (l.take (l.length - k)++pN s (l.drop (l.length - k)))/\cO g 0 l.length w wr)
  (fun _ i _=>l.length - (intOf i).toNat)
 case atStart=>exact⟨0,0,aS _,rfl,rfl,al,by show _=_;simp,by simpa [pN] using D,cO.refl _ _ _ _⟩
 case round=>
  obtain⟨k,b,S,rfl,rfl,V,I,d,O⟩:=hrel;by_cases X:k<l.length
  ·obtain⟨m,F⟩:∃m,m+1=l.length - k:=⟨l.length - k - 1,al⟩;(have r:m<l.length:=al);(have j:l.length - (k+1)=m:=al);have h:l.drop m=l[m]::l.drop (m+1):=ou r;have p:=R _ (bB r);rw[<- F] at d I;(have Q:m<(l.take (m+1)++pN s (l.drop (m+1))).length:=by simp;omega);have v:=d.cell m Q;have M:=d.frozen (0+m);have c:=fun y=>d.set m Q y;simp only[ahq l _ m _ r] at c
   have u:(l.take (m+1)++pN s (l.drop (m+1)))[m]?.getD 0=l[m]:=by
    rw[List.getElem?_append_left (by simp;omega),r7,aA al,List.getElem?_eq_getElem r];rfl
   rw[u] at v;rw[bM] at v M;(have H:Hid (pN s (l.drop m)=(l[m]+W*(l.drop (m+1))[0]?.getD 0)/2^s % W::pN s (l.drop (m+1))):=by show _=_;rw[h];rfl);(have z:Hid ((l.drop m)[0]?.getD 0=l[m]):=by show _=_;rw[h];rfl);rw[iD] at p;rw[<- I.o] at H;generalize pN s (l.drop (m+1))=q at *;generalize l[m]=x at *;obtain⟨t,f⟩:∃t,t=b % 4294967296*4294967296+x:=⟨_,rfl⟩;(have P:bits .or .u64 (IntKind.u64.wrap ((b:Int)*4294967296)) (x:Int)=(t:Int):=by rw[f];exact aib b x p);(have E:t<18446744073709551616:=al);(have J:t % 4294967296=x:=al);have A:=aD J;have T:=aD f;(have Y:(l.length:Int) - 1 - (k:Int)=(m:Int):=al);have L:=aD c;clear f u c h Q d I J;go_wp2
   have K:Value.int .u32 ((t:Int)/2^s % 4294967296)=.int .u32 (((x+W*(b % 4294967296))/2^s % W:Nat):Int):=int_eq (by
    (have e:x+W*(b % 4294967296)=t:=by rw[T.o,iD,dJ];omega);rw[e,iD,sY,vp,Int.natCast_pow];rfl)
   rw[K];have n:=L.o ((x+W*(b % 4294967296))/2^s % W);rw[bM] at n;go_roundw
   case rel=>exact⟨k+1,t,al,bd,rfl,E,by show _=_;rw[j,z.o];exact A.o,by rw[j,H.o];exact n,O.trans (cO.setCell (aS _) al _)⟩
   case measure=>simp[intOf];omega
  ·obtain rfl:k=l.length:=al
   go_wp2;go_end0
   refine⟨rfl,?_,O⟩;simpa using d
theorem anB (xs s:List Nat) (m:xs.length=s.length+1) (g:Small xs) (p:0<s.length) (v:s[s.length - 1]?.getD 0≠0) (l:nw xs<W*nw s):
  nw xs/nw s<=min ((xs[s.length]?.getD 0*W+xs[s.length - 1]?.getD 0)/s[s.length - 1]?.getD 0) (W - 1):=by
 obtain⟨d,f⟩:∃d,s.length=d+1:=⟨s.length - 1,al⟩;rw[f,O1] at v⊢
 have r:0<nw s:=by
  have:=ue s d al
  have h:s.drop d=[s[d]?.getD 0]:=by
   rw[ou al,IU al,List.getElem?_eq_getElem al];rfl
  rw[h,lG,oH,l5,fZ] at this;have:0<W^d*s[d]?.getD 0:=Nat.mul_pos (vh mK) (lZ v);omega
 have n:nw xs/nw s<W:=IJ (by rw[dJ];exact l);have o:=Nat.div_mul_le_self (nw xs) (nw s);generalize nw xs/nw s=q at *;refine Nat.le_min.2 ⟨?_,al⟩;rw[Nat.le_div_iff_mul_le (lZ v)];have b:=ue s d al
 have j:s.drop d=[s[d]?.getD 0]:=by
  rw[ou al,IU al,List.getElem?_eq_getElem al];rfl
 rw[j,lG,oH,l5,fZ] at b;have e:=ue xs d al
 have i:xs.drop d=[xs[d]?.getD 0,xs[d+1]?.getD 0]:=by
  rw[ou al,ou al,IU al,List.getElem?_eq_getElem al,List.getElem?_eq_getElem al];rfl
 have k:=wQ (xs.take d) (I7 g d);rw[eX,wE al] at k;rw[i,lG,lG,oH,l5,fZ] at e;generalize s[d]?.getD 0=y at *;generalize xs[d]?.getD 0=a at *;generalize xs[d+1]?.getD 0=x at *;have c:q*(W^d*y)<=q*nw s:=l6 _ al
 have h:W^d*(q*y)<W^d*(x*W+a+1):=by
  rw[B3] at c;rw[nZ,pI,DX (x*W) a,dJ x W];omega
 have:=Nat.lt_of_mul_lt_mul_left h;omega
theorem ahs (g f cap b I:Nat) (xs y:List Nat) (w:World) (x:xs.length=y.length+1) (m:Small xs) (U:Small y) (aG:xs.length<=35184372088832) (kp:0<y.length) (vJ:y[y.length - 1]?.getD 0≠0) (M:nw xs<W*nw y) (F:bz w g f xs) (H:bz w b 0 y) (L:b≠g):
  c6 233 #[.slice (some ⟨g,f,none⟩) xs.length cap,.slice (some ⟨b,0,none⟩) y.length I] w fun e w'=>∃l',e=.returned (.int .u32 (nw xs/nw y:Nat))/\l'.length=xs.length/\Small l'/\nw l'=nw xs % nw y/\bz w' g f l'/\cO g f xs.length w w':=by
 have aq:=anB xs y x m kp vJ M;have u:=F.cell y.length al;have k:=F.cell (y.length - 1) al;have ao:=H.cell (y.length - 1) al;rw[bM] at ao;have ak:=getD_lt m y.length;have an:=getD_lt m (y.length - 1);have aO:=getD_lt U (y.length - 1);have q:=aD aq;have HL:=aD x;have Sy:=aD M;rw[iD] at ak an aO;have LV:y.length<xs.length:=al
 have R:=acB (xs[y.length]?.getD 0) (xs[y.length - 1]?.getD 0) ak an;rw[iD] at q;generalize xs[y.length]?.getD 0=x1 at *;generalize xs[y.length - 1]?.getD 0=x0 at *;generalize y[y.length - 1]?.getD 0=p at *;obtain⟨t,ht⟩:∃t,t=x1*4294967296+x0:=⟨_,rfl⟩;rw[<- ht] at R q;have Eu:t<18446744073709551616:=al
 have kr:(y.length:Int) - 1<(xs.length:Int):=al
 have kq:(y.length:Int)<(xs.length:Int):=al
 have uj:0<=(y.length:Int) - 1:=al
 have Q1:((y.length:Int) - 1).toNat=y.length - 1:=al
 have Mm:IntKind.i64.wrap ((y.length:Int) - 1+1)=(y.length:Int):=by rw[dE];omega
 clear ht x M aq;go_enter Tryz.func233,Tryz.ntmps233;go_wp2_with fail
 go_quiet (fail)
 go_wp2_with fail
 obtain⟨a,Q⟩:∃a,a=min (t/p) 4294967295:=⟨_,rfl⟩;have a7:t/p<=t:=wF _ _
 have S:min (IntKind.u64.wrap ((t:Int)/(p:Int))) 4294967295 % 4294967296=(a:Int):=by
  rw[Pc, <- vp,Q];generalize t/p=z at *;omega
 rw[S];have aj:a<4294967296:=al
 have T:Hid (nw xs/nw y<=a):=by show _<=_;rw[Q];exact q.o
 clear S Q q R u k ao;refine(aaw g f cap b 0 I xs y a _ m U aj aG al (F.drewN nq) (H.drewN nq) L).af ?_;rintro e w2 ⟨s,l,rfl,cN,ax,D,Y,hu⟩;have ay:cO g f xs.length w w2:=((cO.refl g f xs.length w).drewN nq).trans hu;have ab:=wQ l ax;rw[cN] at ab
 have aM:a*nw y<W^xs.length:=by
  have d:=wQ y U;have h2:a*nw y<=(W - 1)*nw y:=j6 _ (by rw[iD];omega);have h3:W*nw y<=W*W^y.length:=l6 _ (vk d);have h4:(W - 1)*nw y<=W*nw y:=j6 _ al;have h5:W^xs.length=W*W^y.length:=by rw[HL.o,ji,dJ]
  have h6:0<W^y.length:=vh mK;have h7:(W - 1)*nw y<=(W - 1)*W^y.length:=l6 _ (vk d)
  have h8:(W - 1)*W^y.length+W^y.length=W*W^y.length:=by
   (have:(W - 1+1)*W^y.length=W*W^y.length:=by rw[S4 mK]);rwa [gC,kO] at this
  omega
 have av:s=0∨s=1:=by
  rcases cF s 2 with h |h
  ·omega
  ·have:W^xs.length*2<=W^xs.length*s:=l6 _ h;omega
 have ae:Hid ((decide (s≠0)=false/\nw l+a*nw y=nw xs)∨(decide (s≠0)=true/\nw l+a*nw y=nw xs+W^xs.length/\nw xs<a*nw y)):=by
  rcases av with rfl |rfl
  ·exact .inl ⟨rfl,by rw[D];omega⟩
  ·refine .inr ⟨rfl,by rw[D];omega,?_⟩;omega
 generalize decide (s≠0)=be at *;clear D ab aM av hu;go_wp2;go_loopg [7,8] a (fun r gu be wr=>∃(l:List Nat) (i:Bool),gu=.int .u32 (r:Nat)/\be=.bool i/\l.length=xs.length/\Small l/\bz wr g f l/\cO g f xs.length w wr/\Hid (nw xs/nw y<=r)/\r<4294967296/\Hid ((i=false/\nw l+r*nw y=nw xs)∨(i=true/\nw l+r*nw y=nw xs+W^xs.length/\nw xs<r*nw y)))
 case atStart=>exact⟨l,be,rfl,rfl,cN,ax,Y,ay,T,aj,ae⟩
 case round=>
  obtain⟨j,i,rfl,rfl,ad,QL,A,O,mz,a6,E⟩:=hrel;clear ae Y ay T;have X:=aD ad;clear ad;cases i with
  |false=>
   have hc:nw j+gk*nw y=nw xs:=by
    rcases E.o with ⟨_,h⟩ |⟨h,_⟩
    ·exact h
    ·cases h
   have P:0<nw y:=by
    rcases Ca (nw y) with e |e
    ·have:=Sy.o;rw[e,l5] at this;omega
    ·exact e
   have v:gk=nw xs/nw y:=by
    have d:gk<=nw xs/nw y:=(Nat.le_div_iff_mul_le P).2 al;have:=mz.o;omega
   have HR:Hid (nw j=nw xs % nw y):=by
    show _=_;have d:=Nat.div_add_mod' (nw xs) (nw y);rw[<- v] at d;omega
   have HG:=aD v;clear hc v E;go_wp2;go_ret;exact⟨j,by rw[<- HG.o];rfl,X.o,QL,HR.o,A,O⟩
  |true=>
   obtain⟨u,k⟩:nw j+gk*nw y=nw xs+W^xs.length/\nw xs<gk*nw y:=by
    rcases E.o with ⟨h,_⟩ |⟨_,h⟩
    ·cases h
    ·exact h
   have aQ:1<=gk:=by
    rcases Ca gk with e |e
    ·rw[e,mX] at k;omega
    ·exact e
   have Z:=aD u;have zT:=aD k;have aE:=(H.apart O L);clear u k E;go_wp2_with fail
   have J:=Um g f cap b 0 I j y wr QL U (by rw[X.o];exact aG) (by rw[X.o];omega) A aE L;rw[X.o] at J;refine J.af ?_;rintro e w3 ⟨c,n,rfl,V,ai,K,aN,eY⟩;have aa:=wQ n ai;rw[V] at aa
   have a1:gk*nw y=(gk - 1)*nw y+nw y:=by
    (have:(gk - 1+1)*nw y=gk*nw y:=by rw[S4 aQ]);rw[<- this,gC,kO]
   have nT:Hid (((!c)=false/\nw n+(gk - 1)*nw y=nw xs)∨((!c)=true/\nw n+(gk - 1)*nw y=nw xs+W^xs.length/\nw xs<(gk - 1)*nw y)):=by
    have d:=Z.o;cases c with
    |true=>simp only[if_true] at K;exact .inl ⟨rfl,al⟩
    |false=>simp only[Bool.false_eq_true,if_false,fZ] at K;exact .inr ⟨rfl,al,al⟩
   have wk:Hid (nw xs/nw y<=gk - 1):=by
    show _<=_
    have P:0<nw y:=by
     rcases Ca (nw y) with e |e
     ·have:=Sy.o;rw[e,l5] at this;omega
     ·exact e
    have:=(Nat.div_lt_iff_lt_mul P).2 zT.o;omega
   have Oi:=aD V;clear K aa a1 J V A aE Z zT;go_wp2;go_roundg (gk - 1)
   case measure=>omega
   case rel=>exact⟨n,!c,int_eq al,rfl,Oi.o,ai,aN,O.trans eY,wk,al,nT⟩
variable {lf ql:List Nat} {X Y:Nat}
theorem akA (l:List Nat) (i y:Nat) (h:i<l.length):nw (l.set i y)+W^i*l[i]?.getD 0=nw l+W^i*y:=by
 have e:=ue l i al;have a:=ue (l.set i y) i (by rw[sW];omega);have b:(l.set i y).take i=l.take i:=List.take_set_of_le (ar _)
 have c:(l.set i y).drop i=y::l.drop (i+1):=by
  rw[List.drop_set,aB al,rZ,ou h,F6]
 have d:l.drop i=l[i]?.getD 0::l.drop (i+1):=by rw[ou h,List.getElem?_eq_getElem h];rfl
 rw[b,c,lG,nZ] at a;rw[d,lG,nZ] at e;omega
structure uW (X Y L:Nat) (lf ql:List Nat) (j:Nat):Prop where
 qlen:ql.length=L
 qs:Small ql
 ls:Small lf
 zero:∀t,t< j ->ql[t]?.getD 0=0
 eq:nw ql*Y+nw lf=X
 lt:nw (lf.drop j)<Y
theorem uW.seg {L:Nat} (h:uW X Y L lf ql (i+1)) (f:Y<=W^m) (n:i+m+1<=lf.length):
  nw ((lf.drop i).take (m+1))<W*Y/\nw (lf.drop i)=nw ((lf.drop i).take (m+1))/\nw (lf.drop (i+(m+1)))=0:=by
 have a:lf.drop i=lf[i]?.getD 0::lf.drop (i+1):=by rw[ou al,List.getElem?_eq_getElem al];rfl
 have l:nw (lf.drop i)<W*Y:=by
  have b:=h.lt;have g:=getD_lt h.ls i;have d:W*(nw (lf.drop (i+1))+1)<=W*Y:=l6 _ b;rw[nZ] at d;rw[a,lG];omega
 have c:=ue (lf.drop i) (m+1) (by rw[mY];omega);rw[List.drop_drop] at c
 have z:nw (lf.drop (i+(m+1)))=0:=by
  rcases Ca (nw (lf.drop (i+(m+1)))) with e |e
  ·exact e
  ·have j:W^(m+1)*1<=W^(m+1)*nw (lf.drop (i+(m+1))):=l6 _ e;(have k:W*Y<=W^(m+1):=by rw[ji,dJ];exact j6 _ f);omega
 rw[z,l5,fZ] at c;exact⟨al,c,z⟩
theorem uW.step {L:Nat} {e:List Nat} (h:uW X Y L lf ql (i+1)) (d:Y<=W^m) (l:i+m+1<=lf.length) (f:i<L) (k:0<Y)
  (R:e.length=m+1) (E:Small e) (n:nw e=nw ((lf.drop i).take (m+1)) % Y):
  uW X Y L (lf.take i++e++lf.drop (i+(m+1))) (ql.set i (nw ((lf.drop i).take (m+1))/Y)) i:=by
 obtain⟨g,j,s⟩:=h.seg d l;have b:(lf.take i).length=i:=by rw[eX];omega
 generalize hS:nw ((lf.drop i).take (m+1))=S at *;have q:S/Y<W:=IJ (by rw[dJ];exact g);have c:=akA ql i (S/Y) (by rw[h.qlen];exact f);rw[h.zero i al,l5,fZ] at c;have o:=Nat.div_add_mod' S Y;have hcut:=ue lf i al
 have p:nw (lf.take i++e++lf.drop (i+(m+1)))=nw (lf.take i)+W^i*(S % Y):=by
  rw[Cy,s,l5,fZ,Cy,b,n]
 refine⟨by rw[sW];exact h.qlen,?_,?_,?_,?_,?_⟩
 ·intro x a;rcases ZP a with a |rfl
  ·exact h.qs x a
  ·exact q
 ·exact Aj (Aj (I7 h.ls i) E) (Lm h.ls _)
 ·intro t r;rw[Tg al];exact h.zero t al
 ·rw[c,p,gC, <- h.eq,hcut,j];have:W^i*S=W^i*(S/Y)*Y+W^i*(S % Y):=by rw[iU, <- nZ,o]
  omega
 ·rw[sX,List.drop_append,b,rZ,IU al,iI,Aa,Cy,s,l5,fZ,n];exact iw _ k
theorem uW.start {s:Nat} {xs:List Nat} (i:0<m) (j:m<=n) (c:Small lf) (x:xs.length=n) (q:Small xs) (f:X=2^s*nw xs) (y:nw lf=X) (d:lf.length=n+1) (b:2^s*W^(m - 1)<=Y):
  uW X Y (n - m+1) lf (List.replicate (n - m+1) 0) (n - m+1):=by
 refine⟨aE,aaZ _,c,fun t _=>by rw[Th];split<;>rfl,by rw[UJ,mX,bM,y],?_⟩;have g:=ue lf (n - m+1) al;have l:nw xs<W^n:=by rw[<- x];exact wQ xs q
 have p:0<2^s:=vh a6;have e:2^s*nw xs<2^s*W^n:=Nat.mul_lt_mul_of_pos_left l p;have h:W^n=W^(n - m+1)*W^(m - 1):=by rw[<- DU];congr 1;omega
 have a:W^(n - m+1)*nw (lf.drop (n - m+1))<W^(n - m+1)*(2^s*W^(m - 1)):=by
  rw[B3, <- h];omega
 exact aU (Nat.lt_of_mul_lt_mul_left a) b
theorem uW.stop {L:Nat} (h:uW X Y L lf ql 0):nw ql=X/Y/\nw lf=X % Y:=by
 have a:=h.lt;rw[Aa] at a;have b:=h.eq;have c:0<Y:=al
 constructor
 ·rw[<- b,DX,Ta _ _ c,zZ a,bM]
 ·rw[<- b,DX,S9,jM a]
theorem apT (k:Nat):∀x,x<2^k ->k<=32 ->Lib.bitLen x<=k/\x<2^Lib.bitLen x:=by
 induction k with
 |zero=>
  intro x h _;have:x=0:=by simpa using h
  subst this;exact⟨ar _,a6⟩
 |succ k ih=>
  intro x h b;by_cases a:x=0
  ·subst a;exact⟨aS _,a6⟩
  ·have t:x<2^64:=aU h (kN a6 al);have e:=Lib.bitLen_half x a t;obtain⟨i,c⟩:=ih (x/2) (IJ (by rw[ji] at h;omega)) al;rw[e];refine⟨al,?_⟩;rw[DX,ji];omega
theorem apS (x:Nat) (h0:x≠0) (h:x<4294967296):1<=Lib.bitLen x:=by
 have:=Lib.bitLen_half x h0 al;omega
theorem afH (a:List Nat) (s:Nat) (j:Small a) (L:0<a.length) (v:a[a.length - 1]?.getD 0≠0) (I:2^s*(a[a.length - 1]?.getD 0+1)<=W):
  (words (2^s*nw a)).length=a.length/\2^s*W^(a.length - 1)<=2^s*nw a/\2^s*nw a<=W^a.length:=by
 obtain⟨d,i⟩:∃d,a.length=d+1:=⟨a.length - 1,al⟩;rw[i,O1] at v I⊢;have g:=ue a d al
 have q:a.drop d=[a[d]?.getD 0]:=by
  rw[ou al,IU al,List.getElem?_eq_getElem al];rfl
 rw[q,lG,oH,l5,fZ] at g;have t:=wQ (a.take d) (I7 j d);rw[eX,wE al] at t;generalize a[d]?.getD 0=y at *;have p:0<2^s:=vh a6;have u:W^d*1<=W^d*y:=l6 _ (lZ v);have V:W^d<=nw a:=al
 have T:nw a<W^d*(y+1):=by rw[nZ];omega
 have x:2^s*nw a<2^s*(W^d*(y+1)):=Nat.mul_lt_mul_of_pos_left T p;have A:2^s*(W^d*(y+1))<=W^d*W:=by rw[B3];exact l6 _ I
 have D:2^s*nw a<W^(d+1):=by rw[ji];omega
 have E:W^d<=2^s*nw a:=aR V (B6 _ p);refine⟨?_,l6 _ V,al⟩;have w:=lF (2^s*nw a);have m:=oB (2^s*nw a);have b:=wQ _ m;rw[w] at b
 have K:(words (2^s*nw a)).length<=d+1:=by
  obtain⟨k,J,e⟩:=Pm (words (2^s*nw a)++List.replicate 0 0) (by simpa using m);have o:words (2^s*nw a)≠[]:=fun e=>by rw[Pn] at e;have:0<W^d:=vh mK;omega
  have h:=Z6 _ o;rcases cF (d+1) (words (2^s*nw a)).length with c |c
  ·exfalso
   generalize words (2^s*nw a)=l at *;obtain⟨z,n⟩:∃z,l.length=z+1:=⟨l.length - 1,al⟩;have f:=ue l z al;rw[List.getLast_eq_getElem] at h;(have r:l.drop z=[l[z]'al]:=by rw[ou al,IU al]);simp only[n,O1] at h;rw[r,lG,oH,l5,fZ] at f;have F:W^z*1<=W^z*l[z]'al:=l6 _ (lZ h);have H:W^(d+1)<=W^z:=kN mK al;omega
  ·exact c
 rcases cF (words (2^s*nw a)).length (d+1) with c |c
 ·have:W^(words (2^s*nw a)).length<=W^d:=kN mK al;omega
 ·omega
theorem aoQ (v:Option Addr) (n l:Nat) (y:Option Addr) (m j:Nat) (w:World) (h:n<m):
  c6 201 #[.slice v n l,.slice y m j] w fun e w'=>e=.returned (.tuple #[.slice none 0 0,.slice v n l])/\w'=w:=by
 go_enter Tryz.func201,Tryz.ntmps201;go_wp2;go_ret2;exact⟨rfl,rfl⟩
theorem Has.slice {v:Value} {l:List Nat} (h:Has w base v l) (a:0<l.length):∃g cap,v=.slice (some ⟨g,0,none⟩) l.length cap/\l.length<=cap/\base<=g/\bz w g 0 l:=by
 rcases h.cases with ⟨_,rfl⟩ |h
 ·simp at a
 ·exact h
theorem Tt (n:Nat) (h:0<(words n).length):(words n)[(words n).length - 1]?.getD 0≠0:=by
 have e:words n≠[]:=List.length_pos_iff.1 h;have:=Z6 n e;rw[List.getLast_eq_getElem] at this;rwa [List.getElem?_eq_getElem al]
def p8 (w:World) (base g n cap:Nat) (l:List Nat):Prop:=w.ownsRow base 152 1 (.slice (some ⟨g,0,none⟩) n cap) n (l.map u32)
theorem p8.lies {l:List Nat} (h:p8 w base g n cap l):bz w g 0 l:=(El h).2.2.2
theorem p8.len {l:List Nat} (h:p8 w base g n cap l):n=l.length:=(El h).1
theorem p8.upd {f:Nat} {l:List Nat} (h:p8 w base g n cap l) (u:cO g f m w w') (a:bz w' g 0 l') (e:l'.length=n):p8 w' base g n cap l':=
 aci h (u.af (off':=0) (n':=f+m) (aS _) al) a e
theorem p8.apart {o:Nat} {l:List Nat} (h:p8 w base g n cap l) (u:cO g' o m w w') (d:g≠g'):p8 w' base g n cap l:=by
 refine⟨h.1,?_⟩;rcases h.2 with ⟨a,_⟩ |⟨i,j,f,b,c,r,e⟩
 ·cases a
 ·cases b;exact .inr ⟨g,cap,f,rfl,c,(u.grown.block g (dS.1 r).1 (by simp[d])).trans r,e⟩
theorem p8.lies_le {l:List Nat} (h:p8 w base g n cap l):l.length<=cap:=(El h).2.1
theorem p8.words {l:List Nat} (h:p8 w base g n cap l) (s:Small l):Has w base (.slice (some ⟨g,0,none⟩) (words (nw l)).length cap) (words (nw l)):=by
 obtain⟨k,b,a⟩:=Pm l s;have e:(Proofs.YtfhdoommfenijaaGreatDoor.words (nw l)).length=k:=by rw[a];simp;omega
 have:=ao5 k b h;rw[<- a] at this;rw[Has,e];exact this
theorem bz.patch {a:Nat} {e:List Nat} (h:bz w g 0 lf) (u:cO g a n w w') (s:bz w' g a e) (d:e.length=n) (l:a+n<=lf.length):bz w' g 0 (lf.take a++e++lf.drop (a+n)):=by
 have c:bz w g 0 (lf.take a):=by have:=h.piece 0 a al;rwa [Aa] at this
 have b:=h.piece (a+n) (lf.length - (a+n)) al;rw[jA aE] at b;have L:(lf.take a).length=a:=by rw[eX];omega
 refine((c.beside u (by rw[L];omega)).append (by rw[L,bM];exact s)).append ?_;rw[dm,L,d];exact b.beside u al
theorem aoR (gx lM gy jI:Nat) (xs y:List Nat) (w:World) (i7:Small xs) (jU:Small y) (b5:xs.length<=4398046511104) (O:0<y.length) (P:y[y.length - 1]?.getD 0≠0) (CE:y.length<=xs.length) (hx:bz w gx 0 xs) (hy:bz w gy 0 y):
  c6 201 #[.slice (some ⟨gx,0,none⟩) xs.length lM,.slice (some ⟨gy,0,none⟩) y.length jI] w fun e w'=>
   ∃gq cq gr cr,e=.returned (.tuple #[.slice (some ⟨gq,0,none⟩) (words (nw xs/nw y)).length cq,.slice (some ⟨gr,0,none⟩) (words (nw xs % nw y)).length cr])/\
    Has w' w.heap.size (.slice (some ⟨gq,0,none⟩) (words (nw xs/nw y)).length cq) (words (nw xs/nw y))/\Has w' w.heap.size (.slice (some ⟨gr,0,none⟩) (words (nw xs % nw y)).length cr) (words (nw xs % nw y))/\c8 w w':=by
 obtain⟨i0,hi,bw,bx,bE⟩:=dW Tryz.infoU32;have b3:=hx.lt;have GS:=hy.lt;have yM:=hy.cell (y.length - 1) al;rw[bM] at yM;have ai:=getD_lt jU (y.length - 1);rw[iD] at ai;obtain⟨bg,aM⟩:=apT 32 (y[y.length - 1]?.getD 0) (by simpa using ai) al;have bf:=apS _ P ai;obtain⟨s,hs⟩:∃s,s=32 - Lib.bitLen (y[y.length - 1]?.getD 0):=⟨_,rfl⟩;have VN:s<32:=al
 have lI:2^s*(y[y.length - 1]?.getD 0+1)<=W:=by
  have f:2^s*(y[y.length - 1]?.getD 0+1)<=2^s*2^Lib.bitLen (y[y.length - 1]?.getD 0):=l6 _ aM;rw[<- DU,show s+Lib.bitLen (y[y.length - 1]?.getD 0)=32 by omega] at f;exact f
 have ay:=afH y s jU O P lI;have F:=aD ay;have Q:=fun V=>Tryz.bits_LeadingZeros32 ((y[y.length - 1]?.getD 0:Nat):Int) V al al;simp only[nh] at Q;have uf:(32:Int) - (Lib.bitLen (y[y.length - 1]?.getD 0):Int)=(s:Int):=al
 simp only[uf] at Q;have a7:=aD Q;have bN:=aD P;generalize y[y.length - 1]?.getD 0=y1 at *;have b6:¬xs.length<y.length:=al
 clear bg aM bf hs lI ay Q uf P;go_enter Tryz.func201,Tryz.ntmps201;go_wp2_with fail
 refine(a7.o _).af ?_;rintro e w0 ⟨rfl,bo⟩;subst bo;go_wp2_with fail
 refine(aa4 gx lM xs s _ i7 VN al hx).af ?_;rintro e w1 ⟨v1,b,rfl,f,E,jm,eN,ad⟩;obtain⟨g,c,rfl,b1,aG,ao⟩:=f.slice al;have T:=aD jm;have uP:=aD eN;have bP:b.length<=4398046511105:=al
 have bV:xs.length+1<=c:=al
 clear jm eN;have a1:=hy.aa ad GS;go_wp2_with fail
 refine(aa4 gy jI y s _ jU VN al a1).af ?_;rintro e w2 ⟨v2,n,rfl,h2,u,bl,dK,ae⟩;obtain⟨d,c2,rfl,bk,bW,K⟩:=h2.slice al;have fQ:=aD dK;have bO:n.length<=4398046511105:=al
 clear bl dK;go_wp2_with fail
 have yC:=PE d 0 c2 n w2 u bk al (fun j h=>K.cell j h);rw[fQ.o,F.o.1] at yC;refine yC.af ?_;rintro e a ⟨rfl,bp⟩;subst bp;have aQ:∃k,k<=n.length/\words (nw n)=n.take k:=Pm n u
 have jF:bz a d 0 (words (2^s*nw y)):=by
  obtain⟨k,hk,e⟩:=aQ;have:=K.piece 0 k al;rwa [Aa, <- e,fQ.o] at this
 have xF:=f.aa ae (ar _);have ab:c8 w0 a:=ad.trans (ae.af ad.size);have bT:g<w1.heap.size:=ao.lt;have bQ:d<a.heap.size:=K.lt;have GD:=ab.size;have b0:=ae.size;have aj:=aD xF;have FD:=aD jF;clear yC aQ jF xF ao K f h2 a1;go_wp2_with (at_make;refine nY _ rfl _ _ 180 rfl w0.heap.size 152 i0 (.int .u32 0) 1 Tryz.underlying180 hi bw bx .i64 .i64 _ _ (xs.length - y.length+1) rfl rfl al al (by rw[bE];omega) (by unfold maxLen;omega) al ?_;intro S rE U)
 have x:=qP rE;rw[LP] at x;have eL:=aD x;have dU:c8 w0 S:=ab.grown U al (fun k e=>by cases e);have rT:Hid (p8 S w0.heap.size g b.length c b):=Has.aa aj.o (B:=a.heap.size) ((aw _ a).grown U (ar _) (fun k e=>by cases e)) (ar _)
 have ak:Hid (p8 S w0.heap.size a.heap.size (xs.length - y.length+1) (xs.length - y.length+1) (List.replicate (xs.length - y.length+1) 0)):=by
  have:=LH (base:=w0.heap.size) (cap:=xs.length - y.length+1) (l:=List.replicate (xs.length - y.length+1) 0) _ x aE al (by unfold maxLen;omega) aE ⟨_,x,aE,fun j h=>by simp at h;simp[h]⟩;rw[IM] at this;exact this
 have sP:Hid (bz S d 0 (words (2^s*nw y))):=(FD.o).grown U aE;have HI:Hid (uW (2^s*nw xs) (2^s*nw y) (xs.length - y.length+1) b (List.replicate (xs.length - y.length+1) 0) (xs.length - y.length+1)):=uW.start O CE E rfl i7 rfl uP.o T.o F.o.2.1;have lU:=aD dU;clear x rE U aj FD ab dU
 go_loopw [40] (fun i wr=>∃(k:Nat) (lf ql:List Nat),k<=xs.length - y.length+1/\i=.int .i64 k/\Hid (uW (2^s*nw xs) (2^s*nw y) (xs.length - y.length+1) lf ql (xs.length - y.length+1 - k))/\Hid (p8 wr w0.heap.size g b.length c lf)/\Hid (p8 wr w0.heap.size a.heap.size (xs.length - y.length+1) (xs.length - y.length+1) ql)/\Hid (bz wr d 0 (words (2^s*nw y)))/\Hid (c8 w0 wr))
  (fun i _=>xs.length - y.length+1 - (intOf i).toNat)
 case atStart=>exact⟨0,b,_,aS _,rfl,HI,rT,ak,sP,lU⟩
 case round=>
  obtain⟨k,lf,ql,hk,rfl,H,r,v,Y,D⟩:=hrel;clear HI rT ak sP lU;by_cases b4:k<xs.length - y.length+1
  ·go_wp2_with fail
   obtain⟨p,hp⟩:∃p,p=xs.length - y.length - k:=⟨_,rfl⟩;(have hn:xs.length - y.length - k+y.length+1 - (xs.length - y.length - k)=y.length+1:=al);rw[hn, <- hp];(have ax:lf.length=xs.length+1:=by have:=r.o.len;have:=T.o;omega);(have R:((lf.drop p).take (y.length+1)).length=y.length+1:=by rw[eX,mY];omega)
   have I:Hid (uW (2^s*nw xs) (2^s*nw y) (xs.length - y.length+1) lf ql (p+1)):=by
    have:=H.o;rwa [show xs.length - y.length+1 - k=p+1 by omega] at this
   have VG:=I.o.seg F.o.2.2 al;have X:=ahs g p (c - p) d c2 ((lf.drop p).take (y.length+1)) (words (2^s*nw y)) wr (by rw[R,F.o.1]) (I7 (Lm I.o.ls _) _) (oB _) (by rw[R];omega) (by rw[F.o.1];exact O) (Tt _ (by rw[F.o.1];exact O)) (by rw[lF];exact VG.1) (by have:=r.o.lies.piece p (y.length+1) al;rwa [bM] at this) Y.o al;rw[R,F.o.1,lF] at X;refine X.af ?_;clear X;rintro e t ⟨bI,rfl,Z,bb,aq,M,A⟩;(have bm:p<xs.length - y.length+1:=al);have a8:=aD (I.o.step F.o.2.2 al bm (by have:=VG.1;rcases Ca (2^s*nw y) with e |e;(rw[e,l5] at this;omega);exact e) Z bb aq);have GR:=r.o.lies.patch A M Z al;have q:Hid (p8 t w0.heap.size g b.length c (lf.take p++bI++lf.drop (p+(y.length+1)))):=r.o.upd A GR (by have:=T.o;simp;omega);have z:=aD (v.o.apart A al);have Ka:=aD (Y.o.apart A al);have L:=aD (cO.aa D.o A aG D.o.size);(have av:p<ql.length:=by have:=v.o.len;omega);have bK:=z.o.lies.cell p av;have b2:=z.o.lies.frozen p;rw[bM] at bK;have cZ:=z.o.lies.set p av (nw ((lf.drop p).take (y.length+1))/(2^s*nw y));rw[bM] at cZ;have lR:=aD cZ;have Sz:=aD ax;generalize hqv:nw ((lf.drop p).take (y.length+1))/(2^s*nw y)=qv at *;generalize ql[p]?.getD 0=b7 at *;clear cZ GR VG R Z aq M ax H r v Y D I hn hqv;subst hp;go_wp2;go_roundw
   case rel=>
    have J:cO a.heap.size (xs.length - y.length - k) 1 t (t.setCell ⟨a.heap.size,xs.length - y.length - k,none⟩ (.int .u32 (qv:Nat))):=cO.setCell (ar _) al _;refine⟨k+1,_,_,al,bd,?_,aD (q.o.apart J al),aD (z.o.upd J lR.o (by have:=z.o.len;rw[sW];omega)),aD (Ka.o.apart J al),aD (cO.aa L.o J GD L.o.size)⟩;have e:=a8.o;show uW _ _ _ _ _ _;rwa [show xs.length - y.length+1 - (k+1)=xs.length - y.length - k by omega]
   case measure=>simp[intOf];omega
  ·obtain rfl:k=xs.length - y.length+1:=al
   have m:=H.o;rw[rZ] at m;have vG:0<2^s:=vh a6;obtain⟨hq,hr⟩:=m.stop;rw[Nat.mul_div_mul_left _ _ vG] at hq;rw[Nat.mul_mod_mul_left] at hr;(have aO:nw (pN s lf)=nw xs % nw y:=by rw[aid s al lf m.ls,hr,Nat.mul_div_cancel_left _ vG]);have tE:=m.ls;have qA:=m.qs;have an:=aD hq;have Ss:=aD aO;have VJ:=aic g c lf s wr tE VN (by have:=r.o.len;omega) r.o.lies;rw[<- r.o.len] at VJ;have dI:=aD VJ;clear hq hr aO m H VJ;go_wp2_with fail
   refine dI.o.af ?_;rintro e t ⟨rfl,M,A⟩;have q:=aD (r.o.upd A M (by rw[aie];exact r.o.len.symm));have z:=aD (v.o.apart A al);have L:=aD (cO.aa D.o A aG D.o.size);have E:=PE a.heap.size 0 (xs.length - y.length+1) ql t qA (by rw[<- z.o.len];omega) (by rw[<- z.o.len];omega) (fun j h=>z.o.lies.cell j h);rw[<- z.o.len,an.o] at E;have u:=PE g 0 c (pN s lf) t (aa5 s lf) q.o.lies_le (by rw[<- q.o.len];omega) (fun j h=>q.o.lies.cell j h);rw[<- q.o.len,Ss.o] at u;have kE:=aD E;have gQ:=aD u;clear E u M A dI r v D;go_wp2_with fail
   refine kE.o.af ?_;rintro e w6 ⟨rfl,br⟩;subst br;go_wp2_with fail
   refine gQ.o.af ?_;rintro e w7 ⟨rfl,bu⟩;subst bu;go_wp2;go_ret2;have CW:=z.o.words qA;have aN:=q.o.words (aa5 s lf);rw[an.o] at CW;rw[Ss.o] at aN;exact⟨_,_,_,_,rfl,CW,aN,L.o⟩
theorem Tr (h:n≠0):0<(words n).length:=by
 rcases Ca (words n).length with e |e
 ·exact absurd ((Pn n).1 (ZU e)) h
 ·exact e
theorem adj {x y:Nat} (h:(words x).length<(words y).length):x<y:=by
 have k:0<(words y).length:=al
 have c:=getD_lt (oB y) ((words y).length - 1);have a:=(afH (words y) 0 (oB y) k (Tt y k) (by rw[KP,kO];exact c)).2.1;rw[KP,kO,kO,lF] at a;have b:=wQ (words x) (oB x);rw[lF] at b;have d:W^(words x).length<=W^((words y).length - 1):=kN mK al;omega
theorem Ts {x y:Nat} (h:x<=y):(words x).length<=(words y).length:=by
 rcases cF (words y).length (words x).length with c |c
 ·have:=adj c;omega
 ·exact c
theorem adk {x:Nat} (h:(words x).length<=2):x<18446744073709551616:=by
 have a:=wQ (words x) (oB x);rw[lF] at a;have b:W^(words x).length<=W^2:=kN mK h;have c:W^2=18446744073709551616:=by rw[iD]
 omega
theorem afm (a l b j x y:Nat) (w:World) (s:y≠0) (t:(words x).length<=4398046511104) (u:(words x).length<=l) (d:bz w a 0 (words x)) (o:bz w b 0 (words y)):
  c6 201 #[.slice (some ⟨a,0,none⟩) (words x).length l,.slice (some ⟨b,0,none⟩) (words y).length j] w fun e w'=>
   ∃q g r,e=.returned (.tuple #[q,.slice (some ⟨g,0,none⟩) (words (x % y)).length r])/\Has w' w.heap.size q (words (x/y))/\(words (x % y)).length<=r/\bz w' g 0 (words (x % y))/\c8 w w':=by
 rcases cF (words x).length (words y).length with c |c
 ·have h:=adj c;refine(aoQ _ _ l _ _ j w c).af ?_;rintro e w' ⟨rfl,rfl⟩;refine⟨_,a,l,by rw[jM h],?_,by rw[jM h];exact u,by rw[jM h];exact d,aw _ _⟩;rw[zZ h,yh];exact⟨rfl,.inl ⟨rfl,rfl⟩⟩
 ·have p:=Tr s;have:=aoR a l b j (words x) (words y) w (oB _) (oB _) t p (Tt y p) c d o;rw[lF,lF] at this;refine this.af ?_;rintro e w' ⟨z,v,g,r,rfl,f,i,k⟩;obtain⟨_,m,_,n⟩:=El i;exact⟨_,g,r,rfl,f,m,n,k⟩
theorem arh (a b:ByteArray) (w:World) (K:a.size<=1099511627776) (L:b.size<=1099511627776) (h0:N b≠0):
  c6 152 #[.string a,.string b] w (da w (.tuple #[.string (B (N a/N b)),.string (B (N a % N b)),.bool true])):=by
 have m:=Ag a 274877906944 al;have M:=Ag b 274877906944 al;have O:=Tr h0;have T:¬(((words (N b)).length:Int)=0):=al
 have S:(words (N a/N b)).length<=274877906944:=aR (Ts (wF _ _)) m;have J:(words (N a % N b)).length<=274877906944:=aR (Ts (II _ _)) m;go_enter Tryz.func152,Tryz.ntmps152;go_wp2_with fail
 refine(Ai b _ al).af ?_;rintro e Q ⟨q,n,rfl,u,g⟩;go_wp2_with fail
 refine(Ai a _ al).af ?_;rintro e z ⟨s,o,rfl,h,i⟩;have y:=yR u i;have I:=yR h (aw _ _);have f:c8 w z:=g.trans (i.af g.size);go_wp2_with fail
 refine(afm s o q n (N a) (N b) _ h0 al (El h).2.1 I y).af ?_;rintro e A ⟨P,t,p,rfl,x,H,r,E⟩;have c:c8 w A:=f.trans (E.af f.size);go_wp2_with fail
 refine(Rv _ _ _ _ (oB _) al x).af ?_;rintro e D ⟨rfl,k⟩;have l:=r.aa k r.lt;have d:c8 w D:=c.trans (k.af c.size);rw[lF];go_wp2_with fail
 refine(XA t p _ _ (oB _) H al l.lt (fun j v=>l.cell j v)).af ?_;rintro e R ⟨rfl,F⟩;rw[lF];go_wp2;go_ret3
 exact⟨rfl,d.trans (F.af d.size)⟩
theorem arf (a b:ByteArray) (w:World) (ha:a.size<=1099511627776) (hb:b.size<=1099511627776):
  c6 151 #[.string a,.string b] w (da w (.string (B (Nat.gcd (N a) (N b))))):=by
 have mD:=Ag a 274877906944 al;have Y:=Ag b 274877906944 al;go_enter Tryz.func151,Tryz.ntmps151;go_wp2_with fail
 refine(Ai a _ al).af ?_;rintro e w1 ⟨g1,c1,rfl,m,q⟩;go_wp2_with fail
 refine(Ai b _ al).af ?_;rintro e w2 ⟨g2,c2,rfl,n,s⟩;have t:=yR m s;have I:=yR n (aw _ _);have A:c8 w w2:=q.trans (s.af q.size);have F:=(El m).2.1;have H:=(El n).2.1;go_wp2_with fail
 go_loopg [5,6] (N b) (fun r vx vy wr=>∃(x g c d y:Nat),vx=.slice (some ⟨g,0,none⟩) (words x).length c/\vy=.slice (some ⟨d,0,none⟩) (words r).length y/\(words x).length<=c/\(words r).length<=y/\(words x).length<=274877906944/\(words r).length<=274877906944/\Hid (bz wr g 0 (words x))/\Hid (bz wr d 0 (words r))/\Hid (Nat.gcd x r=Nat.gcd (N a) (N b))/\Hid (c8 w wr))
 case atStart=>exact⟨_,_,_,_,_,rfl,rfl,F,H,mD,Y,t,I,rfl,A⟩
 case round=>
  obtain⟨x,g,c,d,y,rfl,rfl,u,yM,V,ae,l,E,i,h⟩:=hrel;clear t I A F H m n q s;by_cases f:gk=0
  ·subst f;rw[yh] at *;go_wp2_with fail
   refine(XA g c _ _ (oB _) u al l.o.lt (fun j U=>l.o.cell j U)).af ?_;rintro e v ⟨rfl,k⟩;rw[lF];go_wp2;go_ret;exact⟨by rw[<- i.o,Nat.gcd_zero_right];rfl,h.o.trans (k.af h.o.size)⟩
  ·have kp:=Tr f;(have ai:¬(((words gk).length:Int)=0):=al);by_cases J:2<(words x).length
   focus
    go_wp2_with fail
   rotate_left
   focus
    by_cases z:2<(words gk).length
    focus
     go_wp2_with fail
    rotate_left
    ·have M:=adk (Nat.le_of_not_lt J);have D:=adk (Nat.le_of_not_lt z);go_wp2_with fail
     refine(Z9 g c _ _ (oB _) (Nat.le_of_not_lt J) l.o).af ?_;rintro e v ⟨rfl,p⟩;subst p;rw[lF];go_wp2_with fail
     refine(Z9 d y _ _ (oB _) (Nat.le_of_not_lt z) E.o).af ?_;rintro e w6 ⟨rfl,p⟩;subst p;rw[lF];go_wp2_with fail
     refine(anK x gk _ M D).af ?_;rintro e w7 ⟨rfl,O⟩;have L:=h.o.trans (O.af h.o.size);rw[i.o];(have ab:Nat.gcd (N a) (N b)<18446744073709551616:=by rw[<- i.o];exact S7 (Nat.gcd_le_right _ (lZ f)) D);go_wp2_with fail
     refine(acK _ _ ab).af ?_;rintro e w8 ⟨rfl,Z⟩;go_wp2;go_ret;exact⟨rfl,L.trans (Z.af L.size)⟩
   all_goals
    refine(afm g c d y x gk _ f al u l.o E.o).af ?_;rintro e v ⟨vq,T,P,rfl,_,ad,X,k⟩;have Q:(words (x % gk)).length<=274877906944:=aR (Ts (II _ _)) V;have R:=aD X;have K:=aD (E.o.aa k E.o.lt);have S:=aD (h.o.trans (k.af h.o.size));(have zL:Hid (Nat.gcd gk (x % gk)=Nat.gcd (N a) (N b)):=by show _=_;rw[<- i.o,KS x gk,Nat.gcd_rec gk x,KS]);go_wp2;go_roundg (x % gk)
    case measure=>exact iw _ (lZ f)
    case rel=>exact⟨gk,d,y,T,P,rfl,rfl,yM,ad,ae,Q,K,R,zL,S⟩
variable {w0:World}
theorem pY (k:Nat):∀n,n<256^k ->(bn n).length<=k:=by
 induction k with
 |zero=>
  intro n h;have:n=0:=by simpa using h
  subst this;simp[rN]
 |succ k ih=>
  intro n h;by_cases e:n=0
  ·subst e;simp[rN]
  ·rw[rO n e,dm,O5];have:=ih (n/256) (IJ (by rw[ji] at h;omega));omega
theorem FV (n:Nat):n<256^(B n).size:=by
 have:=vA (bn n);rwa [UW, <- lq] at this
theorem j8 (h:m<=n):(B m).size<=(B n).size:=by
 rw[lq m];exact pY _ _ (S7 h (FV n))
theorem tj (m n:Nat):(B (m*n)).size<=(B m).size+(B n).size:=by
 rw[lq (m*n)];refine pY _ _ ?_;rw[DU];exact KQ (FV m) (FV n)
theorem aaA (m n:Nat):(B (m+n)).size<=(B m).size+(B n).size+1:=by
 rw[lq (m+n)];refine pY _ _ ?_;have h:=FV m;have a:=FV n;have b:256^(B m).size<=256^((B m).size+(B n).size):=kN a6 al;have c:256^(B n).size<=256^((B m).size+(B n).size):=kN a6 al;rw[ji];omega
theorem BP:B 0=⟨#[]⟩:=by rw[B,rN]
theorem af7:N ⟨#[]⟩=0:=rfl
theorem agE (h:B m=B n):m=n:=by rw[<- bS m,h,bS]
theorem DR (h:n≠0):(B n).toList.isEmpty=false:=by
 cases e:(B n).toList with
 |cons=>rfl
 |nil=>
  rw[Lib.toList_data] at e;have a:(B n).size=0:=by rw[ByteArray.size, <- Ae,e];rfl
  have b:=FV n;rw[a] at b;omega
theorem A5 (s:ByteArray):s.data.toList.length=s.size:=by rw[Ae];rfl
theorem OM:(B 1).size<=1:=by rw[lq];exact pY 1 1 a6
theorem under {P:Program} {f:FuncId} {args:Array Value} {X:Ending} (a:c8 w0 w) (h:Calls P f args w fun e w'=>e=X/\c8 w w'):Calls P f args w fun e w'=>e=X/\c8 w0 w':=
 h.af fun _ _ ⟨b,c⟩=>⟨b,a.trans (c.af a.size)⟩
theorem arn {a b:ByteArray} (n:Nat) (c:c8 w0 w) (h:N a+N b=n) (d:a.size<=1099511627776) (e:b.size<=1099511627776):
  c6 106 #[.string a,.string b] w (da w0 (.string (B n))):=by
 subst h;exact under c (agF a b w d e)
theorem ard {a b:ByteArray} (n:Nat) (c:c8 w0 w) (h:Nat.gcd (N a) (N b)=n) (d:a.size<=1099511627776) (e:b.size<=1099511627776):
  c6 151 #[.string a,.string b] w (da w0 (.string (B n))):=by
 subst h;exact under c (arf a b w d e)
theorem NA {x:Int} (n:Nat) (a:c8 w0 w) (h:x=(n:Int)) (b:x<=9223372036854775807):
  c6 105 #[.int .i64 x] w (da w0 (.string (B n))):=by
 have:=under a (af6 x w al b);rwa [show x.toNat=n by omega] at this
theorem af4 {a b:ByteArray} (n:Nat) (c:c8 w0 w) (h:N a=N b+n) (d:a.size<=1099511627776) (e:b.size<=1099511627776):
  c6 149 #[.string a,.string b] w (da w0 (.tuple #[.string (B n),.bool true])):=by
 have:=under c (aqq a b w d e al);rwa [show N a - N b=n by omega] at this
theorem aqr {a b:ByteArray} (c:c8 w0 w) (h:N a<N b):
  c6 149 #[.string a,.string b] w fun e w'=>e=.returned (.tuple #[.string ⟨#[]⟩,.bool false])/\c8 w0 w':=under c (aqs a b w h)
theorem agD {a b:ByteArray} (q r:Nat) (h:c8 w0 w) (e:N a/N b=q) (f:N a % N b=r) (h0:N b≠0) (c:a.size<=1099511627776) (d:b.size<=1099511627776):
  c6 152 #[.string a,.string b] w (da w0 (.tuple #[.string (B q),.string (B r),.bool true])):=by
 subst e f;exact under h (arh a b w c d h0)
def nd:List Nat ->Nat
 |[]=>0
 |x::r=>x+256*nd r
theorem Gm (x:Nat) (r:List Nat):nd (x::r)=x+256*nd r:=rfl
theorem UU (n:Nat):nd (List.replicate n 0)=0:=by
 induction n with
 |zero=>rfl
 |succ n ih=>rw[KT,Gm,ih]
theorem Qp (l:List Nat):∀(j y:Nat) (h:j<l.length),nd (l.set j y)+l[j]*256^j=nd l+y*256^j:=by
 induction l with
 |nil=>intro j y h;exact absurd h (DW _)
 |cons x r ih=>
  intro j y h;cases j with
  |zero=>simp only[F6,Gm,List.getElem_cons_zero,KP,pI];omega
  |succ j=>
   (have b:j<r.length:=by simpa using h);have:=ih j y b;simp only[List.set_cons_succ,Gm,List.getElem_cons_succ,ji];(have e:r[j]*(256^j*256)=256*(r[j]*256^j):=by rw[<- iU,dJ]);(have a:y*(256^j*256)=256*(y*256^j):=by rw[<- iU,dJ]);rw[e,a];omega
def sT (l:List Nat):Prop:=∀x∈l,x<256
theorem XR (n:Nat):sT (List.replicate n 0):=fun x h=>by rw[(List.mem_replicate.1 h).2];decide
theorem Ng {l:List Nat} (h:sT l) (j y:Nat) (c:y<256):sT (l.set j y):=fun x b=>by
 rcases ZP b with a |a
 ·exact h x a
 ·rw[a];exact c
theorem akN (l:List Nat) (h:sT l):nd l<256^l.length:=by
 induction l with
 |nil=>decide
 |cons x r ih=>
  have b:=ih fun y a=>h y (eH _ a);have c:=h x dQ;rw[Gm,eA,ji];omega
def rb (l:List Nat):List UInt8:=l.reverse.map UInt8.ofNat
theorem akQ (l:List Nat) (h:sT l):nb (rb l)=nd l:=by
 induction l with
 |nil=>rfl
 |cons x r ih=>
  have a:=ih fun y b=>h y (eH _ b);have c:=h x dQ;have:rb (x::r)=rb r++[UInt8.ofNat x]:=by simp[rb]
  rw[this,Ap,a,Gm];have:(UInt8.ofNat x).toNat=x:=by simp;omega
  omega
theorem akU (l:List UInt8) (i:Nat) (h:i<l.length):nb l/256^i % 256=(l[l.length - 1 - i]'al).toNat:=by
 have e:l=l.take (l.length - 1 - i)++(l[l.length - 1 - i]'al::l.drop (l.length - i)):=by
  have a:=Cc (l.length - 1 - i) l;have d:l.drop (l.length - 1 - i)=l[l.length - 1 - i]'al::l.drop (l.length - 1 - i+1):=ou al;rw[d,show l.length - 1 - i+1=l.length - i by omega] at a;exact a.symm
 have b:(l.drop (l.length - i)).length=i:=by rw[mY];omega
 have t:=vA (l.drop (l.length - i));rw[b] at t
 have n:nb l=(nb (l.take (l.length - 1 - i))*256+(l[l.length - 1 - i]'al).toNat)*256^i+nb (l.drop (l.length - i)):=by
  conv=>lhs;rw[e]
  rw[Ep,Gp,eA,b,ji,gC,iU,dJ 256 (256^i),DY]
 generalize (l[l.length - 1 - i]'al)=c at *;generalize nb (l.take (l.length - 1 - i))=p at *;have f:=c.toNat_lt;rw[n,dJ,Nat.mul_add_div (vh a6),zZ t,fZ];omega
theorem akT (l:List UInt8) (i:Nat) (h:l.length<=i):nb l/256^i % 256=0:=by
 rw[zZ (aU (vA l) (kN a6 h))]
theorem aoK (l:List UInt8):∀k,k<=l.length ->(l.take k).all (·==0)=true ->(∀h:k<l.length,l[k]≠0) ->l.dropWhile (·==0)=l.drop k:=by
 induction l with
 |nil=>intro k _ _ _;simp
 |cons x r ih=>
  intro k c a b;cases k with
  |zero=>
   have:x≠0:=b aE;rw[List.dropWhile_cons,aB (by simpa using this),Aa]
  |succ k=>
   simp only[List.take_succ_cons,List.all_cons,gX] at a;rw[List.dropWhile_cons,aA a.1,List.drop_succ_cons];exact ih k (by simpa using c) a.2 (fun h=>by have:=b (by simpa using h);simpa using this)
theorem Jq (n k:Nat):n % 256^(k+1)=n % 256^k+256^k*(n/256^k % 256):=by
 rw[ji,Nat.mod_mul]
theorem aas (s:ByteArray) (k:Nat) (a:k<=s.size) (h0:(s.data.toList.take k).all (·==0)=true) (h1:∀h:k<s.size,s[k].toNat≠0):s.extract k s.size=B (N s):=by
 have e:s.data.toList.dropWhile (·==0)=s.data.toList.drop k:=aoK _ k (by simpa using a) h0 (fun h z=>h1 (by simpa using h) (by
  have:s[k]'(by simpa using h)=s.data.toList[k]:=rfl;rw[this,z];rfl))
 apply Pe;apply Ph.1;rw[B,N,X8,e];show (s.extract k s.size).data.toList=_;rw[ByteArray.data_extract,Array.toList_extract];simp[jA]
theorem oF (s:ByteArray) (w:World) (d:s.size<=140737488355328):
  c6 27 #[.string s] w fun e w'=>e=.returned (.string (B (N s)))/\w'=w:=by
 go_enter Tryz.func27,Tryz.ntmps27;go_wp2;go_loop [3] (fun i=>∃k:Nat,k<=s.size/\i=.int .i64 k/\(s.data.toList.take k).all (·==0)=true) (fun i=>s.size - (intOf i).toNat)
 case atStart=>exact⟨0,aS _,rfl,rfl⟩
 case round=>
  obtain⟨k,a,rfl,b⟩:=hrel;have A:Hid ((s.data.toList.take k).all (·==0)=true):=b;clear b;by_cases l:k<s.size
  ·by_cases c:s[k].toNat=0
   ·have H:Hid ((s.data.toList.take (k+1)).all (·==0)=true):=by
     show _=_;rw[Li s k l,Pb,A.o];have:s[k]=0:=OX.1 c;simp[this]
    go_wp2;go_round
    case rel=>exact⟨k+1,al,bd,H.o⟩
    case measure=>simp[intOf];omega
   ·have E:=aD (aas s k a A.o fun _=>c);go_wp2;go_ret;exact⟨by rw[<- E.o];rfl,rfl⟩
  ·have E:=aD (aas s k a A.o fun h=>absurd h l);go_wp2;go_ret;exact⟨by rw[<- E.o];rfl,rfl⟩
theorem Z1 (n:Nat) (h:n<256):wrap64 (n:Int)=(n:Int):=by
 rw[wrap64];omega
theorem Hh (s:ByteArray) (i:Nat) (w:World) (b:s.size<=140737488355328) (a:i<=9223372036854775807):
  c6 29 #[.string s,.int .i64 (i:Int)] w fun e w'=>e=.returned (.int .i64 ((N s/256^i % 256:Nat):Int))/\w'=w:=by
 go_enter Tryz.func29,Tryz.ntmps29;by_cases l:i<s.size
 ·have D:Hid (N s/256^i % 256=(s[s.size - 1 - i]'al).toNat):=by
   show _=_;rw[N,akU _ i (by simpa using l)];simp;rfl
  have x:0<=(s.size:Int) - 1 - i:=al
  have h:=Z1 _ (s[s.size - 1 - i]'al).toNat_lt;have H:=aD h;clear h;go_wp2;go_ret;exact⟨by rw[D.o];exact bU (fun z=>Ending.returned (Value.int .i64 z)) H.o,rfl⟩
 ·have D:Hid (N s/256^i % 256=0):=akT _ i (by simp;omega);go_wp2;go_ret;exact⟨by rw[D.o];rfl,rfl⟩
def iv (x:Nat):Value:=.int .i64 (x:Int)
def cC (w:World) (g:Nat) (l:List Nat):Prop:=w.heap[g]? =some (.cells (l.map iv).toArray 3 (0,0))
theorem cC.cell {l:List Nat} (h:cC w g l) (j:Nat) (a:j<l.length):w.cell? ⟨g,j,none⟩=some (.int .i64 (l[j]:Nat)):=by
 rw[bZ w g j _ _ (0,0) h];simp[iv,a]
theorem cC.fz {l:List Nat} (h:cC w g l) (j:Nat):w.frozen? ⟨g,j,none⟩=false:=lr w g j _ _ h
theorem cC.lt {l:List Nat} (h:cC w g l):g<w.heap.size:=(dS.1 h).1
theorem cC.aa {b:Nat} {l:List Nat} (h:cC w g l) (a:Below b w w') (c:g<b):cC w' g l:=(a.block g c).trans h
theorem cC.set {l:List Nat} (h:cC w g l) (j y:Nat):cC (w.setCell ⟨g,j,none⟩ (.int .i64 (y:Int))) g (l.set j y):=by
 have:=kM w g j _ _ (.int .i64 (y:Int)) h;rw[cC,F8];simpa [iv] using this
def tq (l:List Nat) (k:Nat):List Int:=List.replicate (l.length - k) 0++((l.take k).reverse.map Int.ofNat)
theorem ajZ (l:List Nat):tq l 0=List.replicate l.length 0:=by simp[tq]
theorem aj1 (l:List Nat) (k:Nat) (h:k<=l.length):(tq l k).length=l.length:=by simp[tq];omega
theorem aj0 (l:List Nat) (k:Nat) (c:k<l.length):(tq l k).set (l.length - 1 - k) (l[k]:Int)=tq l (k+1):=by
 have h:l.length - k=(l.length - 1 - k)+1:=al
 have a:List.replicate (l.length - k) (0:Int)=List.replicate (l.length - 1 - k) 0++[0]:=by rw[h,List.replicate_succ']
 have b:l.length - (k+1)=l.length - 1 - k:=al
 rw[tq,tq,a,sX,F7 _ _ aE,b];rw[IM,rZ,fM,iI,F6,fL c,List.reverse_append,List.reverse_singleton,fg];rfl
theorem aj2 (l:List Nat):tq l l.length=l.reverse.map Int.ofNat:=by simp[tq]
theorem aqu (l:List Nat) (h:sT l):N (strOfNums (l.reverse.map Int.ofNat))=nd l:=by
 rw[N,ID, <- akQ l h,rb];congr 1
 simp[Function.comp_def]
theorem CA (n:Nat):(madeCells (Value.int .i64 0).cells (n*1)).toList=(List.replicate n (0:Nat)).map iv:=by
 rw[show (Value.int .i64 0).cells= #[Value.int .i64 0] from rfl,KL,pI,O4];rfl
theorem Tryz.infoInt:(Tryz.prog.info? 3).map (fun i=>(i.zero,i.size,i.bytes))=some (some (.int .i64 0),1,8):=ao
theorem Uw (g:Nat) (l:List Nat) (w:World) (d:sT l) (ai:l.length<=140737488355328) (h:cC w g l):
  c6 110 #[.slice (some ⟨g,0,none⟩) l.length l.length] w (da w (.string (B (nd l)))):=by
 obtain⟨J,n,Q,R,S⟩:=dW Tryz.infoByte;have Y:=h.lt;have p:Hid (cC w g l):=h;have a:Hid (N (strOfNums (l.reverse.map Int.ofNat))=nd l):=aqu l d;have D:Hid (sT l):=d;clear h d;go_enter Tryz.func110,Tryz.ntmps110
 go_wp2_with (first
  |(at_make;refine nY _ rfl _ _ 72 rfl w.heap.size 5 J (.int .u8 0) 1 Tryz.underlying72 n Q R .i64 .i64 _ _ l.length rfl rfl al al (by rw[S];omega) (by unfold maxLen;omega) (ar _) ?_;intro q v y))
 have c:=qP v;rw[adi, <- ajZ] at c;have r:c8 w q:=(aw _ w).grown y (ar _) (fun k e=>by cases e);have I:Hid (q.heap[w.heap.size]? =some (.cells ((tq l 0).map u8).toArray 5 (0,0))):=c;clear v y c
 go_loopw [4] (fun i wr=>∃k:Nat,k<=l.length/\i=.int .i64 k/\Hid (wr.heap[w.heap.size]? =some (.cells ((tq l k).map u8).toArray 5 (0,0)))/\c8 w wr)
  (fun i _=>l.length - (intOf i).toNat)
 case atStart=>exact⟨0,aS _,rfl,I,r⟩
 case round=>
  obtain⟨k,F,rfl,H,b⟩:=hrel;clear I r;by_cases t:k<l.length
  ·have ad:wr.cell? ⟨g,k,none⟩=some (.int .i64 (l[k]:Nat)):=(p.o.aa b Y).cell k t;have hx:=D.o l[k] (bB t);have Z:=aD (aj0 l k t);obtain⟨E,j⟩:∃E,E=l.length - 1 - k:=⟨_,rfl⟩;rw[<- j] at Z;(have X:(l.length:Int) - 1 - (k:Int)=(E:Int):=al);(have A:E<l.length:=al)
   have ab:wr.cell? ⟨w.heap.size,E,none⟩=some (.int .u8 ((tq l k)[E]?.getD 0)):=by
    rw[bZ wr _ E _ _ (0,0) H.o];(have:E<(tq l k).length:=by rw[aj1 l k F];exact A);simp[Go.Proofs.YtfhdoommfenijaaGreatDoor.u8,List.getElem?_eq_getElem this]
   have ae:=lr wr w.heap.size E _ _ H.o;have T:=aD (fun u=>kM wr w.heap.size E _ _ u H.o);generalize l[k]=x at *;generalize (tq l k)[E]?.getD 0=z at *;clear j;go_wp2;have U:=T.o (.int .u8 (x:Int));go_roundw
   case rel=>
    refine⟨k+1,al,bd,?_,b.setCell (ar _) _⟩;show _=_;rw[U, <- Z.o,F8];simp[Go.Proofs.YtfhdoommfenijaaGreatDoor.u8]
   case measure=>simp[intOf];omega
  ·obtain rfl:k=l.length:=al
   have f:=aj2 l;(have L:(l.reverse.map Int.ofNat).length=l.length:=aE);have s:=a.o;clear a p D;generalize l.reverse.map Int.ofNat=m at *;have a:=aD s;clear s
   have V:=IE (P:=Tryz.prog) wr 72 5 Tryz.underlying72 Tryz.underlying5 w.heap.size 0 l.length l.length m L (fun i n=>by
    have e:=bZ wr w.heap.size (0+i) _ _ _ H.o;rw[e,f];(have K:i<m.length:=al);simp[Go.Proofs.YtfhdoommfenijaaGreatDoor.u8,List.getElem?_eq_getElem K,List.getD_eq_getElem?_getD]) 39 Tryz.underlying39
   clear H f
   have M:(strOfNums m).size<=140737488355328:=by
    rw[<- A5,ID,dD];omega
   go_wp2_with (go_at_call 27;refine(oF _ _ M).af ?_;rintro e w3 ⟨rfl,O⟩;subst O)
   go_ret;exact⟨by rw[a.o];rfl,b⟩
variable {D c:Nat}
theorem afF (v P:Nat):v % 256*P+v/256*(P*256)=v*P:=by
 have h:v=v/256*256+v % 256:=al
 conv=>rhs;rw[h,gC,iU,dJ 256 P]
 omega
theorem aqd {A:Nat} {p:List Nat} (a:k<p.length) (h0:p[k]?.getD 0=0) (h:nd p+c*256^k=A % 256^k+D % 256^k):
  nd (p.set k ((c+A/256^k % 256+D/256^k % 256) % 256))+(c+A/256^k % 256+D/256^k % 256)/256*256^(k+1)=A % 256^(k+1)+D % 256^(k+1):=by
 have s:=Qp p k ((c+A/256^k % 256+D/256^k % 256) % 256) a;have J:p[k]=0:=by rwa [List.getElem?_eq_getElem a] at h0
 rw[J,mX,fZ] at s;rw[s,Jq,Jq D,ji];have:=afF (c+A/256^k % 256+D/256^k % 256) (256^k)
 have e:(c+A/256^k % 256+D/256^k % 256)*256^k=c*256^k+256^k*(A/256^k % 256)+256^k*(D/256^k % 256):=by
  rw[gC,gC,dJ (A/256^k % 256),dJ (D/256^k % 256)]
 omega
theorem TZ {p:List Nat} {y:Nat} (h:∀j,k<=j ->p[j]?.getD 0=0):∀j,k+1<=j ->(p.set k y)[j]?.getD 0=0:=fun j a=>by
 rw[Tg al];exact h j al
theorem aqe {A:Nat} {p:List Nat} (d:A<256^n) (e:D<256^n) (h:nd p+c*256^(n+1)=A % 256^(n+1)+D % 256^(n+1)):nd p=A+D:=by
 have f:256^(n+1)=256*256^n:=by rw[ji,dJ]
 rw[jM al,jM al] at h
 have b:c=0:=by
  rcases Ca c with a |a
  ·exact a
  ·have:1*256^(n+1)<=c*256^(n+1):=j6 _ a;omega
 rw[b] at h;omega
theorem Fi (s:ByteArray):N s<256^s.size:=by
 have:=vA s.data.toList;rwa [A5] at this
theorem abP (a b:ByteArray) (w:World) (ha:a.size<=1000000) (hb:b.size<=1000000):
  c6 68 #[.string a,.string b] w (da w (.string (B (N a+N b)))):=by
 obtain⟨i0,S,ai,aj,ak⟩:=dW Tryz.infoInt;obtain⟨n,T⟩:∃n,n=max a.size b.size:=⟨_,rfl⟩;have ab:a.size<=n:=al
 have kd:b.size<=n:=al
 have eN:n<=1000000:=al
 have L:(b.size<=a.size/\a.size=n)∨(a.size<b.size/\b.size=n):=al
 clear T;have P:Hid (N a<256^n):=aU (Fi a) (kN a6 ab);have O:Hid (N b<256^n):=aU (Fi b) (kN a6 kd);have J:=aD (fun (k:Nat) (V:World) (h:k<=9223372036854775807)=>Hh a k V al h);have Q:=aD (fun (k:Nat) (V:World) (h:k<=9223372036854775807)=>Hh b k V al h);generalize hA:N a=A at *;generalize hD:N b=D at *;clear hA hD;go_enter Tryz.func68,Tryz.ntmps68;rcases L with ⟨r,t⟩ |⟨r,t⟩
 all_goals
  go_wp2_with (first
   |(at_make;refine nY _ rfl _ _ 22 rfl w.heap.size 3 i0 (.int .i64 0) 1 Tryz.underlying22 S ai aj .i64 .i64 _ _ (n+1) rfl rfl bd bd (by rw[ak];omega) (by unfold maxLen;omega) (ar _) ?_;intro l v F))
  have f:=qP v;rw[CA] at f;have q:c8 w l:=(aw _ w).grown F (ar _) (fun k e=>by cases e);have I:Hid (cC l w.heap.size (List.replicate (n+1) 0)):=f;clear v F f r t
  go_loopw [7,8] (fun cv iv wr=>∃(k c:Nat) (p:List Nat),k<=n+1/\iv=.int .i64 k/\cv=.int .i64 c/\c<=1/\p.length=n+1/\Hid (sT p)/\Hid (∀j,k<=j ->p[j]?.getD 0=0)/\Hid (nd p+c*256^k=A % 256^k+D % 256^k)/\Hid (cC wr w.heap.size p)/\c8 w wr)
   (fun _ i _=>n+1 - (intOf i).toNat)
  case atStart=>exact⟨0,0,List.replicate (n+1) 0,aS _,rfl,rfl,aS _,aE,XR _,(fun j _=>by rw[Th];split<;>rfl),(show _=_ by rw[UU];simp[Nat.mod_one]),I,q⟩
  case round=>
   obtain⟨k,c,p,hk,rfl,rfl,hc,u,s,Z,E,H,K⟩:=hrel;clear I q;by_cases aq:k<n+1
   ·have M:k<p.length:=al
    have an:=aD (aqd M (Z.o k (ar _)) E.o);have X:=aD (fun V=>J.o k V al);have Y:=aD (fun V=>Q.o k V al);have hx:A/256^k % 256<256:=iw _ a6;have hy:D/256^k % 256<256:=iw _ a6;generalize A/256^k % 256=x at *;generalize D/256^k % 256=y at *;have av:=H.o.cell k M;have ao:=H.o.fz k;have R:=aD (fun z=>H.o.set k z);generalize p[k]=pk at *;clear E
    go_wp2_with (first
     |(have ax:=ae;go_at_call 29;refine(Y.o _).af ?_;rintro e m ⟨rfl,g⟩;subst g)
     |(go_at_call 29;refine(X.o _).af ?_;rintro e m ⟨rfl,g⟩;subst g;have ae:True:=trivial))
    have U:Value.int .i64 (((c:Int)+(x:Int)+(y:Int)) % 256)=.int .i64 (((c+x+y) % 256:Nat):Int):=int_eq al;have ad:Value.int .i64 (((c:Int)+(x:Int)+(y:Int))/256)=.int .i64 (((c+x+y)/256:Nat):Int):=int_eq al;rw[U,ad];go_roundw
    case rel=>exact⟨k+1,(c+x+y)/256,p.set k ((c+x+y) % 256),al,bd,rfl,al,by rw[sW];exact u,Ng s.o _ _ (iw _ a6),TZ Z.o,an.o,R.o _,K.setCell (ar _) _⟩
    case measure=>simp[intOf];omega
   ·obtain rfl:k=n+1:=al
    have d:=Uw w.heap.size p wr s.o al H.o;rw[u,aqe P.o O.o E.o] at d;have zB:=aD d;clear d;go_wp2_with (go_at_call 110;refine(zB.o).af ?_;rintro e m ⟨rfl,aa⟩)
    go_ret;exact⟨rfl,K.trans (aa.af K.size)⟩
theorem RX {b:Nat} {v u:World} (h:Below b v u) (k:Nat):Below b v (u.drewN k):=⟨h.os,h.tape,h.output,h.size,h.block⟩
theorem adm (a b:ByteArray) (k:Nat) (j:k<a.size) (m:k<b.size) (n:a.size=b.size) (p:a.data.toList.take k=b.data.toList.take k) (h:a[k].toNat<b[k].toNat):N a<N b:=by
 have f:a.data.toList=a.data.toList.take k++(a[k]::a.data.toList.drop (k+1)):=by
  have d:a.data.toList.drop k=a[k]::a.data.toList.drop (k+1):=ou (l:=a.data.toList) (i:=k) (by simpa using j);rw[<- d,Cc]
 have g:b.data.toList=b.data.toList.take k++(b[k]::b.data.toList.drop (k+1)):=by
  have d:b.data.toList.drop k=b[k]::b.data.toList.drop (k+1):=ou (l:=b.data.toList) (i:=k) (by simpa using m);rw[<- d,Cc]
 rw[N,N,f,g,p,Ep,Ep,Gp,Gp];have c:(a.data.toList.drop (k+1)).length=a.size - (k+1):=by rw[mY,A5]
 have q:(b.data.toList.drop (k+1)).length=a.size - (k+1):=by rw[mY,A5,n]
 have e:=vA (a.data.toList.drop (k+1));rw[c] at e;rw[eA,eA,c,q];have o:(a[k].toNat+1)*256^(a.size - (k+1))<=b[k].toNat*256^(a.size - (k+1)):=j6 _ h;rw[gC,kO] at o;omega
theorem adl (h:(B m).size<(B n).size):m<n:=by
 rcases cF m n with a |a
 ·exact a
 ·have:=j8 a;omega
theorem XY (h:m<n):jY m n= -1:=aA h
theorem afz (h:n<m):jY m n=1:=by rw[jY,aB al,aB al]
theorem apn (h:m=n):jY m n=0:=by rw[jY,aB al,aA h]
theorem aoF (l:(B m).size=(B n).size) (h:(B m).data.toList.take (B m).size=(B n).data.toList.take (B m).size):m=n:=by
 rw[jA (by rw[A5];exact ar _),jA (by rw[A5,l];exact ar _)] at h;exact agE (Pe (Ph.1 h))
theorem abM (a b:ByteArray) (w:World) (v:a.size<=1000000) (z:b.size<=1000000):
  c6 109 #[.string a,.string b] w (da w (.int .i64 (jY (N a) (N b)))):=by
 have M:=aD (oF a w al);have V:=aD (oF b w al);have D:=aR (jL a) v;have E:=aR (jL b) z;have u:=aD (fun h=>XY (adl (m:=N a) (n:=N b) h));have P:=aD (fun h=>afz (adl (m:=N b) (n:=N a) h));have O:=aD (fun l p=>apn (aoF (m:=N a) (n:=N b) l p));have Z:=aD (fun k d f l p h=>XY (m:=N a) (n:=N b) (by have:=adm (B (N a)) (B (N b)) k d f l p h;rwa [bS,bS] at this));have L:=aD (fun k d f l p h=>afz (m:=N a) (n:=N b) (by have:=adm (B (N b)) (B (N a)) k d f l p h;rwa [bS,bS] at this));generalize jY (N a) (N b)=r at *;generalize B (N a)=x at *;generalize B (N b)=y at *;go_enter Tryz.func109,Tryz.ntmps109;go_wp2_with fail
 refine(M.o).af ?_;rintro e q ⟨rfl,g⟩;subst g;go_wp2_with fail
 refine(V.o).af ?_;rintro e q ⟨rfl,g⟩;subst g;clear M V;rcases (show x.size<y.size∨y.size<x.size∨x.size=y.size by omega) with s |s |s
 ·go_wp2;go_ret;exact⟨by rw[u.o s];rfl,aw _ _⟩
 ·go_wp2;go_ret;exact⟨by rw[P.o s];rfl,aw _ _⟩
 ·clear u P;go_wp2;go_loopw [5] (fun i wr=>∃k:Nat,k<=x.size/\i=.int .i64 k/\Hid (x.data.toList.take k=y.data.toList.take k)/\c8 q wr) (fun i _=>x.size - (intOf i).toNat)
  case atStart=>exact⟨0,aS _,rfl,rfl,aw _ _⟩
  case round=>
   obtain⟨k,A,rfl,H,K⟩:=hrel;by_cases t:k<x.size
   ·have j:k<y.size:=al
    rcases (show x[k].toNat<y[k].toNat∨y[k].toNat<x[k].toNat∨x[k].toNat=y[k].toNat by omega) with c |c |c
    ·have F:=aD (Z.o k t j s H.o c);go_wp2_with fail
     go_quiet (fail)
     go_wp2;go_ret;exact⟨by rw[F.o];rfl,RX K _⟩
    ·have F:=aD (L.o k j t s.symm H.o.symm c);go_wp2_with fail
     go_quiet (fail)
     go_wp2_with fail
     go_quiet (fail)
     go_wp2;go_ret;exact⟨by rw[F.o];rfl,RX (RX K _) _⟩
    ·have S:Hid (x.data.toList.take (k+1)=y.data.toList.take (k+1)):=by
      show _=_;rw[Li x k t,Li y k j,H.o,OX.1 c]
     go_wp2_with fail
     go_quiet (fail)
     go_wp2_with fail
     go_quiet (fail)
     go_wp2;go_roundw
     case rel=>exact⟨k+1,al,bd,S.o,RX K _⟩
     case measure=>simp[intOf];omega
   ·obtain rfl:k=x.size:=al
    have F:=aD (O.o s H.o);go_wp2;go_ret;exact⟨by rw[F.o];rfl,K⟩
theorem ahO {A y:Nat} {p:List Nat} (b:k<p.length) (h0:p[k]?.getD 0=0) (h:nd p+D % 256^k=A % 256^k+c*256^k) (a:Nat) (f:A/256^k % 256+a*256=y+D/256^k % 256+c):
  nd (p.set k y)+D % 256^(k+1)=A % 256^(k+1)+a*256^(k+1):=by
 have s:=Qp p k y b;have J:p[k]=0:=by rwa [List.getElem?_eq_getElem b] at h0
 rw[J,mX,fZ] at s;rw[s,Jq,Jq A,ji];have e:=bU (fun z=>z*256^k) f;simp only[gC] at e;have d:a*256*256^k=a*(256^k*256):=by rw[iU,dJ 256]
 rw[d] at e;rw[dJ (256^k) (D/256^k % 256),dJ (256^k) (A/256^k % 256)];omega
theorem apm (h:n<=m):0<=jY m n:=by
 rw[jY,aB al];split<;>decide
theorem ahP {A:Nat} {p:List Nat} (b:A<256^n) (e:D<=A) (f:nd p<256^n) (h:nd p+D % 256^n=A % 256^n+c*256^n):nd p=A - D:=by
 rw[jM b,jM al] at h
 have d:c=0:=by
  rcases Ca c with a |a
  ·exact a
  ·have:1*256^n<=c*256^n:=j6 _ a;omega
 rw[d] at h;omega
theorem abC (a b:ByteArray) (w:World) (d:a.size<=1000000) (f:b.size<=1000000) (h:N a<N b):
  c6 64 #[.string a,.string b] w (da w (.tuple #[.string ⟨#[]⟩,.bool false])):=by
 have c:=abM a b w d f;rw[XY h] at c;have H:=aD c;clear c h;go_enter Tryz.func64,Tryz.ntmps64;go_wp2_with fail
 refine(H.o).af ?_;rintro e i ⟨rfl,g⟩;go_wp2;go_ret2;exact⟨rfl,g⟩
theorem Ua (a b:ByteArray) (w:World) (ha:a.size<=1000000) (Q:b.size<=1000000) (h:N b<=N a):
  c6 64 #[.string a,.string b] w (da w (.tuple #[.string (B (N a - N b)),.bool true])):=by
 obtain⟨i0,hi,ai,aj,ak⟩:=dW Tryz.infoInt;have f:=abM a b w ha Q;have m:∃r:Int,jY (N a) (N b)=r/\0<=r:=⟨_,rfl,apm h⟩;obtain⟨r,m,hr⟩:=m;rw[m] at f;have L:=aD f;have T:=aD (fun V=>oF b V al);have sb:=aR (jL b) Q;have Ik:=aD (Fi a);have tR:=aD h;have DD:=aD (fun (k:Nat) (V:World) (h:k<=9223372036854775807)=>Hh a k V al h);have v:=fun (k:Nat) (V:World) (h:k<=9223372036854775807)=>Hh (B (N b)) k V al h;rw[bS] at v;have KD:=aD v;clear f m v h;generalize B (N b)=y' at *;generalize hA:N a=A at *;generalize hD:N b=D at *;clear hA hD;generalize hn:a.size=n at *;go_enter Tryz.func64,Tryz.ntmps64;go_wp2_with fail
 refine(L.o).af ?_;rintro e w1 ⟨rfl,l⟩;clear L;go_wp2_with fail
 refine(T.o _).af ?_;rintro e w9 ⟨rfl,ae⟩;subst ae;clear T
 go_wp2_with (first
  |(at_make;refine nY _ rfl _ _ 22 rfl w9.heap.size 3 i0 (.int .i64 0) 1 Tryz.underlying22 hi ai aj .i64 .i64 _ _ n rfl rfl bd bd (by rw[ak];omega) (by unfold maxLen;omega) (ar _) ?_;intro R U ab))
 have F:=qP U;rw[CA] at F;have S:c8 w9 R:=(aw _ w9).grown ab (ar _) (fun k e=>by cases e);have M:Hid (cC R w9.heap.size (List.replicate n 0)):=F;clear U ab F
 go_loopw [8,9] (fun cv iv wr=>∃(k c:Nat) (p:List Nat),k<=n/\iv=.int .i64 k/\cv=.int .i64 c/\c<=1/\p.length=n/\Hid (sT p)/\Hid (∀j,k<=j ->p[j]?.getD 0=0)/\Hid (nd p+D % 256^k=A % 256^k+c*256^k)/\Hid (cC wr w9.heap.size p)/\c8 w9 wr)
  (fun _ i _=>n - (intOf i).toNat)
 case atStart=>exact⟨0,0,List.replicate n 0,aS _,rfl,rfl,aS _,aE,XR _,(fun j _=>by rw[Th];split<;>rfl),(show _=_ by rw[UU];simp[Nat.mod_one]),M,S⟩
 case round=>
  obtain⟨k,c,p,hk,rfl,rfl,f,q,s,Z,E,H,K⟩:=hrel;clear M S;by_cases aq:k<n
  ·have O:k<p.length:=al
   have aa:=aD (fun y c'=>ahO (y:=y) O (Z.o k (ar _)) E.o c');have X:=aD (fun V=>DD.o k V al);have Y:=aD (fun V=>KD.o k V al);have hx:A/256^k % 256<256:=iw _ a6;have hy:D/256^k % 256<256:=iw _ a6;generalize A/256^k % 256=x at *;generalize D/256^k % 256=y at *;have av:=H.o.cell k O;have ao:=H.o.fz k;have P:=aD (fun z=>H.o.set k z);generalize p[k]=pk at *;clear E;by_cases V4:(x:Int) - y - c<0
   ·go_wp2_with (first
     |(have an:=I;go_at_call 29;refine(Y.o _).af ?_;rintro e g ⟨rfl,d⟩;subst d)
     |(go_at_call 29;refine(X.o _).af ?_;rintro e g ⟨rfl,d⟩;subst d;have I:True:=trivial))
    have t:Value.int .i64 ((x:Int) - (y:Int) - (c:Int)+256)=.int .i64 ((x+256 - y - c:Nat):Int):=int_eq al;rw[t];go_roundw
    case rel=>exact⟨k+1,1,p.set k (x+256 - y - c),al,bd,rfl,al,by rw[sW];exact q,Ng s.o _ _ al,TZ Z.o,aa.o _ 1 al,P.o _,K.setCell (ar _) _⟩
    case measure=>simp[intOf];omega
   ·go_wp2_with (first
     |(have an:=I;go_at_call 29;refine(Y.o _).af ?_;rintro e g ⟨rfl,d⟩;subst d)
     |(go_at_call 29;refine(X.o _).af ?_;rintro e g ⟨rfl,d⟩;subst d;have I:True:=trivial))
    have t:Value.int .i64 ((x:Int) - (y:Int) - (c:Int))=.int .i64 ((x - y - c:Nat):Int):=int_eq al;rw[t];go_roundw
    case rel=>exact⟨k+1,0,p.set k (x - y - c),al,bd,rfl,al,by rw[sW];exact q,Ng s.o _ _ al,TZ Z.o,aa.o _ 0 al,P.o _,K.setCell (ar _) _⟩
    case measure=>simp[intOf];omega
  ·obtain rfl:k=n:=al
   have u:=Uw w9.heap.size p wr s.o al H.o;have J:=akN p s.o;rw[q] at J;rw[q,ahP Ik.o tR.o J E.o] at u;have zB:=aD u;clear u J;go_wp2_with (go_at_call 110;refine(zB.o).af ?_;rintro e g ⟨rfl,ad⟩)
   go_ret2;exact⟨rfl,(l.trans (K.af l.size)).trans (ad.af (l.trans (K.af l.size)).size)⟩
theorem Jd (n:Int) (w:World) (h0: -9223372036854775808<=n) (h1:n<=9223372036854775807):
  c6 11 #[.int .i64 n] w (da w (.string (B n.toNat))):=by
 go_enter Tryz.func11,Tryz.ntmps11;go_wp2;go_loopw [0,3] (fun v a wr=>∃(z:Int) (s:ByteArray),v=.int .i64 z/\a=.string s/\ -9223372036854775808<=z/\z<=9223372036854775807/\Hid (bn z.toNat++s.data.toList=bn n.toNat)/\c8 w wr) (fun v _ _=>(intOf v).toNat)
 case atStart=>exact⟨n,⟨#[]⟩,rfl,rfl,h0,h1,(show _=_ by simp),aw _ _⟩
 case round=>
  obtain⟨z,s,rfl,rfl,f,j,H,b⟩:=hrel;by_cases c:0<z
  ·have A:=IE (P:=Tryz.prog) (wr.alloc (.cells #[.int .u8 (z % 256)] 5)) 72 5 Tryz.underlying72 Tryz.underlying5 wr.heap.size 0 1 1 [z % 256] rfl (fun i h=>by
    (obtain rfl:i=0:=al);rw[bZ _ wr.heap.size (0+0) _ _ (0,0) (jg _ _)];rfl) 39 Tryz.underlying39
   have g:Hid (bn (z/256).toNat++(strOfNums [z % 256]++s).data.toList=bn n.toNat):=by
    show _=_;rw[<- H.o,rO z.toNat al,ByteArray.data_append,Array.toList_append,ID,show (z/256).toNat=z.toNat/256 by omega,sX];(have:UInt8.ofNat (z % 256).toNat=UInt8.ofNat (z.toNat % 256):=by congr 1;omega);simp[this]
   have x:s.size<=8:=by
    have e:=bU List.length H.o;rw[dm,A5] at e;have:=pY 8 n.toNat (by show n.toNat<18446744073709551616;omega);omega
   have d:(strOfNums [z % 256]).size=1:=strOfNums_size _;go_wp2;go_roundw
   case rel=>exact⟨z/256,strOfNums [z % 256]++s,rfl,rfl,al,al,g.o,b.alloc b.size _⟩
   case measure=>simp[intOf];omega
  ·have E:Hid (s=B n.toNat):=by
    show s=_;have:=H.o;rw[show z.toNat=0 by omega,rN,iI] at this;apply Pe;apply Ph.1;rw[this,B]
   go_wp2;go_ret;exact⟨by rw[<- E.o];rfl,b⟩
theorem akP (l:List UInt8) (k:Nat):nb (l.take k)<=nb l:=by
 conv=>rhs;rw[<- Cc k l,Ep]
 have:nb (l.take k)*1<=nb (l.take k)*256^(l.drop k).length:=l6 _ (vh a6);omega
theorem ac0 (s:ByteArray) (k:Nat) (h:k<s.size):nb (s.data.toList.take (k+1))=nb (s.data.toList.take k)*256+s[k].toNat:=by
 rw[Li s k h,Ap]
theorem ac1 (s:ByteArray):nb (s.data.toList.take s.size)=N s:=by
 rw[jA (by rw[A5];exact ar _),N]
theorem Ja (s:ByteArray) (w:World) (b:s.size<=7):
  c6 63 #[.string s] w fun e w'=>e=.returned (.tuple #[.int .i64 (N s:Nat),.bool true])/\w'=w:=by
 have a:N s<72057594037927936:=aU (Fi s) (kN a6 b);have A:=aD (ac1 s);go_enter Tryz.func63,Tryz.ntmps63;go_wp2;go_loop [4,5] (fun v i=>∃k:Nat,k<=s.size/\i=.int .i64 k/\v=.int .i64 (nb (s.data.toList.take k):Nat)) (fun _ i=>s.size - (intOf i).toNat)
 case atStart=>exact⟨0,aS _,rfl,rfl⟩
 case round=>
  obtain⟨k,c,rfl,rfl⟩:=hrel;by_cases l:k<s.size
  ·have d:=Z1 _ s[k].toNat_lt;have t:=ac0 s k l;have h:=akP s.data.toList (k+1);rw[t] at h;have r:nb (s.data.toList.take k)*256+s[k].toNat<72057594037927936:=S7 h a;have H:=aD t;clear t h a;generalize nb (s.data.toList.take k)=m at *;go_wp2;go_round
   case rel=>exact⟨k+1,al,bd,by rw[H.o];exact int_eq al⟩
   case measure=>simp[intOf];omega
  ·obtain rfl:k=s.size:=al
   rw[A.o];go_wp2;go_ret2;exact⟨rfl,rfl⟩
theorem aa3 (s:ByteArray) (w:World) (h1:7<s.size) (h:s.size<=1000000):
  c6 63 #[.string s] w fun e w'=>e=.returned (.tuple #[.int .i64 0,.bool false])/\w'=w:=by
 go_enter Tryz.func63,Tryz.ntmps63;go_wp2;go_ret2;exact⟨rfl,rfl⟩
theorem aa0 (m:Nat) (h:(B m).size<=7):m<72057594037927936:=aU (FV m) (kN a6 h)
theorem ak8 {M x y:Nat} {p:List Nat} (a:k+m<p.length) (h:nd p+c*256^(k+m)=M+x*256^k*(D % 256^m)) (b:D/256^m % 256=y):
  nd (p.set (k+m) ((c+p[k+m]+x*y) % 256))+(c+p[k+m]+x*y)/256*256^(k+(m+1))=M+x*256^k*(D % 256^(m+1)):=by
 have s:=Qp p (k+m) ((c+p[k+m]+x*y) % 256) a;have t:=afF (c+p[k+m]+x*y) (256^(k+m));have e:(c+p[k+m]+x*y)*256^(k+m)=c*256^(k+m)+p[k+m]*256^(k+m)+x*y*256^(k+m):=by rw[gC,gC]
 have f:x*256^k*(D % 256^(m+1))=x*256^k*(D % 256^m)+x*y*256^(k+m):=by
  rw[Jq,b,nZ,DU];congr 1
  rw[iU,iU,dJ y,iU]
 rw[f,show k+(m+1)=k+m+1 by omega,ji];omega
theorem akO (l:List Nat):∀(j:Nat) (h:j<l.length),l[j]*256^j<=nd l:=by
 induction l with
 |nil=>intro j h;exact absurd h (DW _)
 |cons x r ih=>
  intro j h;cases j with
  |zero=>simp only[List.getElem_cons_zero,KP,pI,Gm];omega
  |succ j=>
   (have a:j<r.length:=by simpa using h);have:=ih j a;rw[List.getElem_cons_succ,Gm,ji, <- iU];omega
theorem ak9 {A lb x:Nat} {p:List Nat} (d:k+lb<p.length) (b:D<256^lb) (i:A/256^k % 256=x) (h:nd p+c*256^(k+lb)=A % 256^k*D+x*256^k*(D % 256^lb)):
  nd (p.set (k+lb) (p[k+lb]+c))=A % 256^(k+1)*D/\p[k+lb]+c<256:=by
 have s:=Qp p (k+lb) (p[k+lb]+c) d;rw[jM b] at h;have f:A % 256^(k+1)*D=A % 256^k*D+x*256^k*D:=by rw[Jq,i,gC,dJ (256^k) x]
 have e:(p[k+lb]+c)*256^(k+lb)=p[k+lb]*256^(k+lb)+c*256^(k+lb):=gC _ _ _;have n:nd (p.set (k+lb) (p[k+lb]+c))=A % 256^(k+1)*D:=by rw[f];omega
 refine⟨n,?_⟩;have g:=akO (p.set (k+lb) (p[k+lb]+c)) (k+lb) (by rw[sW];exact d);rw[n,List.getElem_set_self] at g;have m:A % 256^(k+1)*D<256^(k+1)*256^lb:=KQ (iw _ (vh a6)) b;rcases cF (p[k+lb]+c) 256 with a |a
 ·exact a
 ·have j:256*256^(k+lb)<=(p[k+lb]+c)*256^(k+lb):=j6 _ a;have l:256^(k+1)*256^lb=256*256^(k+lb):=by rw[<- DU, <- Nat.pow_succ',show k+1+lb=k+lb+1 by omega]
  omega
theorem ai3 (a b:ByteArray) (w:World) (ha:a.size<=1000000) (hb:b.size<=1000000):
  c6 112 #[.string a,.string b] w (da w (.string (B (N a*N b)))):=by
 obtain⟨i0,hi,aQ,a1,a7⟩:=dW Tryz.infoInt;have sM:=aD (oF a w al);have dV:=aD (oF b w al);have sa:=aR (jL a) ha;have sb:=aR (jL b) hb;have Fy:N (B (N a))=N a:=bS _;have Fx:N (B (N b))=N b:=bS _;generalize B (N a)=x at *;generalize B (N b)=y at *;have O:=aD (Fi x);have L:=aD (Fi y);have DD:=aD (fun (k:Nat) (V:World) (h:k<=9223372036854775807)=>Hh x k V al h);have KD:=aD (fun (k:Nat) (V:World) (h:k<=9223372036854775807)=>Hh y k V al h);have F:=aD (fun (h:x.size<=7) (V:World)=>Ja x V h);have u:=aD (fun (h:y.size<=7) (V:World)=>Ja y V h);rw[Fy] at O DD F;rw[Fx] at L KD u;clear Fy Fx;generalize hA:N a=A at *;generalize hD:N b=D at *;clear hA hD ha hb;go_enter Tryz.func112,Tryz.ntmps112;go_wp2_with fail
 refine(sM.o).af ?_;rintro e f ⟨rfl,l⟩;subst l;go_wp2_with fail
 refine(dV.o).af ?_;rintro e f ⟨rfl,l⟩;subst l;clear sM dV;by_cases ai:x.size+y.size<=7
 ·have hp:A*D<72057594037927936:=by
   have E:A*D<256^x.size*256^y.size:=KQ O.o L.o;rw[<- DU] at E;exact aU E (kN a6 ai)
  have xr:(0:Int)<=(A:Int)*(D:Int):=Int.mul_nonneg al al
  have EA:(A:Int)*(D:Int)<72057594037927936:=by
   (have s:((A*D:Nat):Int)<72057594037927936:=al);rwa [jl] at s
  have HO:=aD (fun V=>Jd ((A:Int)*(D:Int)) V al al);have aj:((A:Int)*(D:Int)).toNat=A*D:=by rw[<- jl,nh]
  rw[aj] at HO;have aM:=aD (fun V=>F.o al V);have aG:=aD (fun V=>u.o al V);have J:=aD xr;have T:=aD EA;have bl:(x.size:Int)+(y.size:Int)<=7:=al
  clear F u aj hp xr EA ai;go_wp2_with fail
  refine(aM.o _).af ?_;rintro e H ⟨rfl,l⟩;subst l;go_wp2_with fail
  refine(aG.o _).af ?_;rintro e H ⟨rfl,l⟩;subst l
  have bo:IntKind.i64.wrap ((A:Int)*(D:Int))=(A:Int)*(D:Int):=by
   have E:=J.o;have s:=T.o;rw[dE];omega
  have Vu:wrap64 ((A:Int)*(D:Int))=(A:Int)*(D:Int):=by
   have E:=J.o;have s:=T.o;rw[wrap64];omega
  clear J T;go_wp2_with fail
  refine(HO.o _).af ?_;rintro e X ⟨rfl,aa⟩;go_wp2;go_ret;exact⟨rfl,aa⟩
 ·clear F u
  go_wp2_with (first
   |(at_make;refine nY _ rfl _ _ 22 rfl f.heap.size 3 i0 (.int .i64 0) 1 Tryz.underlying22 hi aQ a1 .i64 .i64 _ _ (x.size+y.size+1) rfl rfl bd bd (by rw[a7];omega) (by unfold maxLen;omega) (ar _) ?_;intro H ak ao))
  have Y:=qP ak;rw[CA] at Y;have ad:c8 f H:=(aw _ f).grown ao (ar _) (fun k e=>by cases e);have HI:Hid (cC H f.heap.size (List.replicate (x.size+y.size+1) 0)):=Y;clear ak ao Y
  go_loopw [10] (fun iv wr=>∃(k:Nat) (p:List Nat),k<=x.size/\iv=.int .i64 k/\p.length=x.size+y.size+1/\Hid (sT p)/\Hid (nd p=A % 256^k*D)/\Hid (cC wr f.heap.size p)/\c8 f wr)
   (fun i _=>x.size - (intOf i).toNat)
  case atStart=>exact⟨0,List.replicate (x.size+y.size+1) 0,aS _,rfl,aE,XR _,(show _=_ by rw[UU];simp[Nat.mod_one]),HI,ad⟩
  case round=>
   obtain⟨k,p,hk,rfl,ae,U,M,R,v⟩:=hrel;clear HI ad;obtain⟨wo,bm⟩:∃wo:World,wo=wr:=⟨_,rfl⟩;by_cases bf:k<x.size
   ·have HX:=aD (fun V=>DD.o k V al);have hx:A/256^k % 256<256:=iw _ a6;have a8:=aD (fun (c:Nat) (q:List Nat) (hq:k+y.size<q.length)=>ak9 (A:=A) (D:=D) (k:=k) (lb:=y.size) (c:=c) (p:=q) hq L.o rfl);generalize A/256^k % 256=g at *;go_wp2_with (go_at_call 29;refine(HX.o _).af ?_;rintro e X ⟨rfl,ab⟩;subst ab)
    go_loopw [12,13] (fun cv jv wr=>∃(m c:Nat) (q:List Nat),m<=y.size/\jv=.int .i64 m/\cv=.int .i64 c/\c<=255/\q.length=x.size+y.size+1/\Hid (sT q)/\Hid (nd q+c*256^(k+m)=A % 256^k*D+g*256^k*(D % 256^m))/\Hid (cC wr f.heap.size q)/\c8 f wr)
     (fun _ j _=>y.size - (intOf j).toNat)
    case atStart=>
     refine⟨0,0,p,aS _,rfl,rfl,aS _,ae,U.o,?_,R,v⟩;show _=_;rw[M.o];simp[Nat.mod_one]
    case round=>
     obtain⟨m,c,q,hm,rfl,rfl,hc,eB,Z,I,K,jr⟩:=hrel;clear R v U M;by_cases V1:m<y.size
     ·have r:k+m<q.length:=al
      have HY:=aD (fun V=>KD.o m V al);have bp:D/256^m % 256<256:=iw _ a6;have an:=ak8 (y:=D/256^m % 256) r I.o rfl;have bb:=K.o.cell (k+m) r;have bk:=Z.o q[k+m] (bB r);have aN:=K.o.fz (k+m);have P:=aD (fun z=>K.o.set (k+m) z);generalize D/256^m % 256=n at *;generalize q[k+m]=d at *;have av:=aD an;have bg:g*n<=255*255:=iH al al;have ay:(0:Int)<=(g:Int)*(n:Int):=Int.mul_nonneg al al
      have ax:(g:Int)*(n:Int)<=65025:=by
       (have s:((g*n:Nat):Int)<=65025:=al);rwa [jl] at s
      clear an I;go_wp2_with (go_at_call 29;refine(HY.o _).af ?_;rintro e X ⟨rfl,ab⟩;subst ab)
      have yv:(g:Int)*(n:Int)=((g*n:Nat):Int):=(jl _ _).symm;rw[yv];clear ay ax yv;generalize g*n=t at *;have Q:Value.int .i64 (((c:Int)+(d:Int)+(t:Int)) % 256)=.int .i64 (((c+d+t) % 256:Nat):Int):=int_eq al;have aO:Value.int .i64 (((c:Int)+(d:Int)+(t:Int))/256)=.int .i64 (((c+d+t)/256:Nat):Int):=int_eq al;rw[Q,aO];go_roundw
      case rel=>exact⟨m+1,(c+d+t)/256,q.set (k+m) ((c+d+t) % 256),al,bd,rfl,al,by rw[sW];exact eB,Ng Z.o _ _ (iw _ a6),av.o,P.o _,jr.setCell (ar _) _⟩
      case measure=>simp[intOf];omega
     ·obtain rfl:m=y.size:=al
      (have r:k+y.size<q.length:=al);obtain⟨eT,QL⟩:=a8.o c q r I.o;have bb:=K.o.cell (k+y.size) r;have aN:=K.o.fz (k+y.size);have P:=aD (fun z=>K.o.set (k+y.size) z);generalize q[k+y.size]=d at *;have aq:=aD eT;clear eT I;go_wp2;have Q:Value.int .i64 ((d:Int)+(c:Int))=.int .i64 ((d+c:Nat):Int):=int_eq al;rw[Q];go_roundw
      case rel=>exact⟨k+1,q.set (k+y.size) (d+c),al,bd,by rw[sW];exact eB,Ng Z.o _ _ QL,aq.o,P.o _,jr.setCell (ar _) _⟩
      case measure=>simp[intOf];omega
   ·obtain rfl:k=x.size:=al
    have S:=Uw f.heap.size p wr U.o al R.o;rw[ae,M.o,jM O.o] at S;have zB:=aD S;clear S;go_wp2_with (go_at_call 110;refine(zB.o).af ?_;rintro e X ⟨rfl,aa⟩)
    go_ret;exact⟨rfl,v.trans (aa.af v.size)⟩
variable {d:Nat}
def bv (d:Nat):Value:=.int .u8 (d:Int)
def J8 (w:World) (base:Nat) (v:Value) (l:List Nat):Prop:=w.ownsRow base 5 1 v l.length (l.map bv)
def qn (l:List Nat):Nat:=l.foldl (fun n d=>n*256+d) 0
theorem abT (l:List Nat) (d:Nat):qn (l++[d])=qn l*256+d:=by simp[qn]
theorem aoY {l:List Nat} (h:sT l) (c:d<256):sT (l++[d]):=fun x b=>by
 rcases dh.1 b with a |a
 ·exact h x a
 ·simp at a;omega
theorem aqt (l:List Nat):sT l ->N (strOfNums (l.map Int.ofNat))=qn l:=by
 induction l using I6 with
 |h0=>intro _;rfl
 |h1 l d ih=>
  intro h;have h1:=ih fun x a=>h x (Te _ a);have b:=h d (List.mem_append_right _ (dX.2 rfl));rw[N,ID] at h1⊢;rw[fg,fg,gV,lx,gV,lx,Ap,h1,abT];have:(UInt8.ofNat (Int.ofNat d).toNat).toNat=d:=by simp;omega
  rw[this]
theorem aoU {P:Nat} (h:0<D):(P*256+c)/D=P/D*256+(P % D*256+c)/D/\(P*256+c) % D=(P % D*256+c) % D:=by
 have e:P*256+c=P % D*256+c+P/D*256*D:=by
  have:=Nat.div_add_mod P D;have f:P/D*256*D=D*(P/D)*256:=by rw[Nat.mul_right_comm,dJ (P/D) D]
  omega
 rw[e,Ta _ _ h,S9];exact⟨DX _ _,rfl⟩
theorem aqv (s x:ByteArray) (k:Nat) (h:k<x.size):N (s++x.extract k (k+1))=N s*256+x[k].toNat:=by
 have e:(x.extract k (k+1)).data.toList=[x[k]]:=by
  rw[ByteArray.data_extract,Array.toList_extract,List.extract_eq_take_drop,show k+1 - k=1 by omega,ou (by rw[A5];exact h)];rfl
 rw[N,ByteArray.data_append,Array.toList_append,e,Ap];rfl
theorem akw (x:ByteArray) (k:Nat) (h:k<x.size):(x.extract k (k+1)).size=1:=by
 rw[ByteArray.size_extract];omega
theorem ajg (a b:ByteArray) (w:World) (p:a.size<=1000000) (s:b.size<=1000000) (h:N b≠0) (h1:(B (N a)).size<=7) (f:(B (N b)).size<=7):
  c6 28 #[.string a,.string b] w (da w (.tuple #[.string (B (N a/N b)),.string (B (N a % N b)),.bool true])):=by
 have M:=aD (oF a w al);have n:=aD (oF b w al);have j:N (B (N a))=N a:=bS _;have F:N (B (N b))=N b:=bS _;have S:=DR h;have E:=aa0 _ h1;have I:=aa0 _ f;generalize B (N a)=x at *;generalize B (N b)=y at *;have l:=aD (fun (V:World)=>Ja x V h1);have i:=aD (fun (V:World)=>Ja y V f);rw[j] at l;rw[F] at i;clear j F;generalize hA':N a=A at *;generalize E0:N b=D at *;clear hA' E0 p s h1 f
 have O:(A:Int)/(D:Int)<=A:=by
  rw[<- vp];have:=wF A D;omega
 have K:0<=(A:Int)/(D:Int):=Int.ediv_nonneg al al
 have T:(A:Int) % (D:Int)<=A:=by
  rw[<- sY];have:=II A D;omega
 have L:0<=(A:Int) % (D:Int):=Int.emod_nonneg _ al;have q:=fun V=>Jd ((A:Int)/(D:Int)) V al al;have r:=fun V=>Jd ((A:Int) % (D:Int)) V al al;rw[<- vp,nh,vp] at q;rw[<- sY,nh,sY] at r;have H:=aD q;have R:=aD r;clear q r;have z:0<D:=lZ h;go_enter Tryz.func28,Tryz.ntmps28;go_wp2_with fail
 refine(M.o).af ?_;rintro e t ⟨rfl,c⟩;subst c;go_wp2_with fail
 refine(n.o).af ?_;rintro e t ⟨rfl,c⟩;subst c;go_wp2_with fail
 refine(l.o _).af ?_;rintro e d ⟨rfl,c⟩;subst c;go_wp2_with fail
 refine(i.o _).af ?_;rintro e d ⟨rfl,c⟩;subst c;go_upto_region 8 with fail
 have J:¬(D:Int)=0:=al
 have X:IntKind.i64.wrap ((A:Int)/(D:Int))=(A:Int)/(D:Int):=by rw[dE];omega
 have Y:IntKind.i64.wrap ((A:Int) % (D:Int))=(A:Int) % (D:Int):=by rw[dE];omega
 have g:=(aw d.heap.size d).drew
 go_region_held3 (fun V=>Hid (c8 d V))
  (first |exact U |exact k |exact g)
  (first
   |(have m:=k;go_at_call 11;refine(R.o _).af ?_;rintro e Q ⟨rfl,v⟩;have U:=m.trans (v.af m.size))
   |(go_at_call 11;refine(H.o _).af ?_;rintro e P ⟨rfl,u⟩;have k:=g.trans (u.af g.size)))
 go_wp2;go_ret3
 exact⟨rfl,U⟩
theorem J8.cases {v:Value} {l:List Nat} (h:J8 w base v l):(v=.slice none 0 0/\l=[])∨∃g cap,v=.slice (some ⟨g,0,none⟩) l.length cap/\∀j,j<l.length ->w.cell? ⟨g,j,none⟩=some (.int .u8 (l[j]?.getD 0:Nat)):=by
 rcases h.2 with ⟨a,n⟩ |⟨g,cap,c,a,r⟩
 ·exact .inl ⟨a,ZU n⟩
 ·subst a;refine .inr ⟨g,cap,rfl,fun j b=>?_⟩;rw[World.ownsRow.cellAt h j al,pL,List.getElem?_eq_getElem b];rfl
theorem afo {R:Nat} {y:ByteArray} (b:N y=D) (a:R<256*D) (s:y.size<=500000) (d:Nat):(B (R - d*D)).size<=1000000:=by
 have c:=j8 (aR (Nat.sub_le R (d*D)) (vk a));have e:=tj 256 D;have h:=jL y;rw[b] at h;have f:(B 256).size<=2:=by rw[lq];exact pY 2 256 a6
 omega
theorem aoV {R:Nat} (h:0<D) (h1:d*D<=R) (a:¬D<=R - d*D):R/D=d/\R % D=R - d*D:=by
 have e:R=(R - d*D)+d*D:=al
 constructor
 ·rw[e,Ta _ _ h,zZ al];omega
 ·conv=>lhs;rw[e]
  rw[S9,jM al]
theorem ajh (a b:ByteArray) (w:World) (ha:a.size<=500000) (hb:b.size<=500000) (h:N b≠0) (ak:¬((B (N a)).size<=7/\(B (N b)).size<=7)):
  c6 28 #[.string a,.string b] w (da w (.tuple #[.string (B (N a/N b)),.string (B (N a % N b)),.bool true])):=by
 obtain⟨i0,F,aQ,a1,a7⟩:=dW Tryz.infoByte;have sM:=aD (oF a w al);have dV:=aD (oF b w al);have Fy:N (B (N a))=N a:=bS _;have Fx:N (B (N b))=N b:=bS _;have a8:=DR h;have sa:=aR (jL a) ha;have sb:=aR (jL b) hb;generalize B (N a)=x at *;generalize hy:B (N b)=y at *;have K:=aD Fx;have HX:=aD (ac1 x);rw[Fy] at HX;have L:0<N b:=lZ h;clear Fy Fx;have lp:=aD (fun (V:World)=>if f:x.size<=7 then Exists.intro (p:=fun r:Value×Value=>r.2=.bool (decide (x.size<=7))/\c6 63 #[.string x] V fun e w'=>e=.returned (.tuple #[r.1,r.2])/\w'=V) (.int .i64 (N x:Nat),.bool true) ⟨by simp[f],Ja x V f⟩ else⟨(.int .i64 0,.bool false),by simp[f],aa3 x V al al⟩);have Bq:=aD (fun (V:World)=>if f:y.size<=7 then Exists.intro (p:=fun r:Value×Value=>r.2=.bool (decide (y.size<=7))/\c6 63 #[.string y] V fun e w'=>e=.returned (.tuple #[r.1,r.2])/\w'=V) (.int .i64 (N y:Nat),.bool true) ⟨by simp[f],Ja y V f⟩ else⟨(.int .i64 0,.bool false),by simp[f],aa3 y V al al⟩);generalize hA':N a=A at *;generalize E0:N b=D at *;clear hA' E0 ha hb hy;go_enter Tryz.func28,Tryz.ntmps28;go_wp2_with fail
 refine(sM.o).af ?_;rintro e X ⟨rfl,j⟩;subst j;go_wp2_with fail
 refine(dV.o).af ?_;rintro e X ⟨rfl,j⟩;subst j;clear sM dV;obtain⟨⟨p1,p2⟩,vG,OJ⟩:=lp.o X;obtain⟨⟨q1,q2⟩,mz,zT⟩:=Bq.o X;simp only at vG mz;subst vG mz;have ao:=aD OJ;have an:=aD zT;clear OJ zT lp Bq
 have aN:(decide (x.size<=7)=false)∨(decide (x.size<=7)=true/\decide (y.size<=7)=false):=by
  by_cases f:x.size<=7
  ·exact .inr ⟨cY f,cK fun h8=>ak ⟨f,h8⟩⟩
  ·exact .inl (cK f)
 clear ak;generalize decide (x.size<=7)=t1 at *;generalize decide (y.size<=7)=t2 at *;go_wp2_with fail
 refine(ao.o).af ?_;rintro e m ⟨rfl,j⟩;subst j;go_wp2_with fail
 refine(an.o).af ?_;rintro e m ⟨rfl,j⟩;subst j;clear ao an;rcases aN with rfl |⟨rfl,rfl⟩
 all_goals
  go_wp2
  go_loopw [11,12,13] (fun qv rv iv wr=>∃(k:Nat) (ql:List Nat),k<=x.size/\iv=.int .i64 k/\rv=.string (B (nb (x.data.toList.take k) % D))/\ql.length=k/\Hid (sT ql)/\Hid (qn ql=nb (x.data.toList.take k)/D)/\Hid (J8 wr m.heap.size qv ql)/\c8 m wr)
   (fun _ _ i _=>x.size - (intOf i).toNat)
  case atStart=>exact⟨0,[],aS _,rfl,(by rw[List.take_zero,Gn,Nat.zero_mod,BP]),rfl,(fun x hx=>by cases hx),(show _=_ by rw[List.take_zero,Gn,Nat.zero_div];rfl),World.ownsRow_nil _ _ _ _,aw _ _⟩
  case round=>
   obtain⟨k,ql,hk,rfl,rfl,S,I,E,u,l⟩:=hrel;by_cases aa:k<x.size
   ·have ab:=akw x k aa;have T:=aqv (B (nb (x.data.toList.take k) % D)) x k aa;rw[bS] at T;have ay:=ac0 x k aa;obtain⟨Q,O⟩:=aoU (P:=nb (x.data.toList.take k)) (D:=D) (c:=x[k].toNat) L;rw[<- ay] at Q O;have ax:nb (x.data.toList.take k) % D<D:=iw _ L;have aO:=x[k].toNat_lt;have bb:(B (nb (x.data.toList.take k) % D)).size<=500000:=aR (j8 (vk ax)) (by have:=jL y;rw[K.o] at this;omega);(have gR:Hid (nb (x.data.toList.take (k+1))/D=qn ql*256+(nb (x.data.toList.take k) % D*256+x[k].toNat)/D):=by show _=_;rw[Q,E.o]);have rS:=aD O;(have hR:nb (x.data.toList.take k) % D*256+x[k].toNat<256*D:=al);clear ay Q O E aO ax;generalize nb (x.data.toList.take k) % D*256+x[k].toNat=R at *;generalize B (nb (x.data.toList.take k) % D)=rs at *;(have aM:(rs++x.extract k (k+1)).size<=1000001:=by rw[ByteArray.size_append,ab];omega);have H:=aD (fun V=>oF (rs++x.extract k (k+1)) V al);rw[T] at H;clear T aM
    have ai:=aD (fun (d:Nat) (V:World) (v:d*D<=R) (h2:D<=R - d*D)=>by
     have hs:=Ua (B (R - d*D)) y V (afo K.o hR sb d) al (by rw[bS,K.o];exact h2);rw[bS,K.o,show R - d*D - D=R - (d+1)*D by rw[gC,kO];omega] at hs;exact hs)
    have Dm:=aD (fun (d:Nat) (V:World) (h2:¬D<=R - d*D)=>abC (B (R - d*D)) y V (afo K.o hR sb d) al (by rw[bS,K.o];omega));go_wp2_with (go_at_call 27;refine(H.o _).af ?_;rintro e Y ⟨rfl,s⟩;subst s)
    clear H;go_loopw [12,14] (fun rv dv wi=>∃d:Nat,d*D<=R/\rv=.string (B (R - d*D))/\dv=.int .i64 d/\c8 Y wi) (fun _ dv _=>256 - (intOf dv).toNat)
    case atStart=>exact⟨0,al,by rw[mX,Nat.sub_zero],rfl,aw _ _⟩
    case round=>
     obtain⟨d,z,rfl,rfl,M⟩:=hrel
     have aG:d<256:=by
      rcases cF d 256 with v |v
      ·exact v
      ·have:=j6 D v;omega
     by_cases q:D<=R - d*D
     ·have jH:(d+1)*D<=R:=by rw[gC,kO];omega
      have t:=aD (fun V=>ai.o d V z q);clear z q;go_wp2_with fail
      refine(t.o _).af ?_;rintro e Z ⟨rfl,J⟩;go_wp2;go_roundw
      case rel=>exact⟨d+1,jH,rfl,bd,M.trans (J.af M.size)⟩
      case measure=>simp[intOf];omega
     ·have t:=aD (fun V=>Dm.o d V q);obtain⟨hq,hr⟩:=aoV L z q;(have fP:Hid (qn (ql++[d])=nb (x.data.toList.take (k+1))/D):=by show _=_;rw[abT,gR.o,hq]);(have fK:Hid (R - d*D=nb (x.data.toList.take (k+1)) % D):=by show _=_;rw[rS.o,hr]);clear hq hr z q ai Dm rS gR;go_wp2_with fail
      refine(t.o _).af ?_;rintro e Z ⟨rfl,J⟩;have ae:J8 Z m.heap.size _ ql:=Qh (Qh u.o M (ar _)) J (ar _);have U:=(l.trans (M.af l.size)).trans (J.af (l.trans (M.af l.size)).size);have fh:=U.size;rw[fK.o];clear fK t;go_wp2_with (at_builtin;refine FX _ rfl _ _ 72 rfl m.heap.size 5 i0 (.int .u8 0) 1 1 Tryz.underlying72 F aQ a1 a7 rfl a6 _ _ _ rfl (F0 ae _) ⟨Z.heap.size,0,none⟩ 1 1 [.int .u8 (d:Nat)] rfl rfl (cell_one_new _ _ _) (by simp[Value.oneCell']) (by unfold maxLen;omega) al (by simp;omega) ?_;intro v' w5 QP Q4 _)
      have qI:c8 m w5:=(U.alloc U.size _).grown Q4 (by simp;omega) (fun k hk=>(World.ownsRow.lt ae k hk).1);go_wp2;go_roundw
      case rel=>
       refine⟨k+1,ql++[d],al,bd,rfl,by rw[dm,S];rfl,aoY I.o aG,fP.o,?_,qI⟩;(have e:(ql++[d]).length=ql.length+1:=aE);show J8 _ _ _ _;rw[J8,e];simpa [bv] using QP
      case measure=>simp[intOf];omega
   ·obtain rfl:k=x.size:=al
    rw[HX.o] at E⊢;have n:=aqt ql I.o;rw[E.o] at n;rcases u.o.cases with ⟨rfl,rfl⟩ |⟨g,cap,rfl,av⟩
    ·have H:=aD (fun V=>oF ⟨#[]⟩ V (by show 0<=_;omega));have aj:N ⟨#[]⟩=A/D:=n;rw[aj] at H;have AR:=run_convert_bytes_nil (P:=Tryz.prog) wr 72 5 Tryz.underlying72 Tryz.underlying5 0 0 39 Tryz.underlying39;rw[show ByteArray.empty=⟨#[]⟩ from rfl] at AR;clear n aj u I E S;go_wp2_with (go_at_call 27;refine(H.o _).af ?_;rintro e Y ⟨rfl,s⟩;subst s)
     go_ret3
     exact⟨rfl,l⟩
    ·have ad:(ql.map Int.ofNat).length=ql.length:=aE
     have aq:∀i,i<ql.length ->wr.cell? ⟨g,0+i,none⟩=some (.int .u8 ((ql.map Int.ofNat).getD i 0)):=fun i F=>by
      rw[bM,av i F];simp[List.getD_eq_getElem?_getD,List.getElem?_eq_getElem F]
     have AR:=IE (P:=Tryz.prog) wr 72 5 Tryz.underlying72 Tryz.underlying5 g 0 ql.length cap (ql.map Int.ofNat) ad aq 39 Tryz.underlying39
     have ab:(strOfNums (ql.map Int.ofNat)).size<=140737488355328:=by
      rw[strOfNums_size,ad];omega
     clear ad S;have H:=aD (fun V=>oF (strOfNums (ql.map Int.ofNat)) V ab);rw[n] at H;clear n u I E av aq;go_wp2_with (go_at_call 27;refine(H.o _).af ?_;rintro e Y ⟨rfl,s⟩;subst s)
     go_ret3
     exact⟨rfl,l⟩
theorem abJ (a b:ByteArray) (w:World) (c:a.size<=500000) (d:b.size<=500000) (h:N b≠0):
  c6 28 #[.string a,.string b] w (da w (.tuple #[.string (B (N a/N b)),.string (B (N a % N b)),.bool true])):=by
 by_cases s:(B (N a)).size<=7/\(B (N b)).size<=7
 ·exact ajg a b w al al h s.1 s.2
 ·exact ajh a b w c d h s
theorem Ue (m n:Nat) (w:World) (a:(B m).size<=500000) (b:(B n).size<=500000) (h:n≠0):
  c6 28 #[.string (B m),.string (B n)] w (da w (.tuple #[.string (B (m/n)),.string (B (m % n)),.bool true])):=by
 have:=abJ (B m) (B n) w a b (by rw[bS];exact h);rwa [bS,bS] at this
theorem ajc (a b:ByteArray) (w:World) (g:a.size<=500000) (i:b.size<=500000):
  c6 157 #[.string a,.string b] w (da w (.string (B (Nat.gcd (N a) (N b))))):=by
 have s:=aD (oF a w al);have f:=aD (oF b w al);have p:=aR (jL a) g;have q:=aR (jL b) i;generalize hA':N a=A at *;generalize E0:N b=D at *;clear hA' E0 g i;go_enter Tryz.func157,Tryz.ntmps157;go_wp2_with fail
 refine(s.o).af ?_;rintro e j ⟨rfl,d⟩;subst d;go_wp2_with fail
 refine(f.o).af ?_;rintro e j ⟨rfl,d⟩;subst d;clear s f;go_wp2;go_loopg [0,1] D (fun r vx vy wr=>∃m:Nat,vx=.string (B m)/\vy=.string (B r)/\(B m).size<=500000/\(B r).size<=500000/\Hid (Nat.gcd m r=Nat.gcd A D)/\c8 j wr)
 case atStart=>exact⟨A,rfl,rfl,p,q,rfl,aw _ _⟩
 case round=>
  obtain⟨m,rfl,rfl,n,c,H,K⟩:=hrel;by_cases h:gk=0
  ·subst h;rw[BP];(have E:Hid (m=Nat.gcd A D):=by show _=_;rw[<- H.o,Nat.gcd_zero_right]);go_wp2;go_ret;exact⟨by rw[<- E.o];rfl,K⟩
  ·have v:=DR h;have l:=aD (fun V=>Ue m gk V n c h);have k:=iw m (lZ h);have z:=aR (j8 (vk k)) c;(have I:Hid (Nat.gcd gk (m % gk)=Nat.gcd A D):=by show _=_;rw[<- H.o,KS m gk,Nat.gcd_rec gk m,KS]);go_wp2_with fail
   refine(l.o _).af ?_;rintro e u ⟨rfl,t⟩;go_wp2;go_roundg (m % gk)
   case measure=>exact k
   case rel=>exact⟨gk,rfl,rfl,c,z,I.o,K.trans (t.af K.size)⟩
variable {neg:Bool} {den num:ByteArray}
def sg (neg:Bool) (n:Nat):Int:=if neg then -(n:Int) else(n:Int)
theorem PG (neg:Bool) (n:Nat):(sg neg n).natAbs=n:=by cases neg<;>simp[sg]
theorem aa7 (neg:Bool):sg neg 0=0:=by cases neg<;>rfl
theorem aih (neg:Bool) (n:Nat):sg (!neg) n= -sg neg n:=by cases neg<;>simp[sg]
theorem aii (a b:Bool) (m n:Nat):sg (a !=b) (m*n)=sg a m*sg b n:=by cases a<;>cases b<;>simp[sg,Int.neg_mul,Int.mul_neg]
theorem aba (a:Bool) (m n:Nat):sg a m*(n:Int)=sg a (m*n):=by cases a<;>simp[sg,Int.neg_mul]
theorem aij:sg neg n=0↔n=0:=by cases neg<;>simp[sg]
theorem aik (neg:Bool) (n g:Nat) (h:g∣n):sg neg n/(g:Int)=sg neg (n/g):=by
 cases neg
 ·simp[sg]
 ·simp only[sg,if_true];rw[Int.neg_ediv_of_dvd (Int.natCast_dvd_natCast.2 h)];simp
theorem Qv {n:Int} (h:d≠0):mkRat n d=Rat.normalize n d h:=by rw[mkRat,dif_neg h]
theorem adb {n:Int} (h:d≠0):(mkRat n d).num=n/(Nat.gcd n.natAbs d:Int):=by rw[Qv h,Rat.normalize_eq]
theorem alv {n:Int} (h:d≠0):(mkRat n d).den=d/Nat.gcd n.natAbs d:=by rw[Qv h,Rat.normalize_eq]
theorem alu (neg:Bool) (a d:Nat) (h:a≠0) (b:d≠0):decide ((mkRat (sg neg a) d).num<0)=neg/\(mkRat (sg neg a) d).num.natAbs=a/Nat.gcd a d/\(mkRat (sg neg a) d).den=d/Nat.gcd a d:=by
 have g:Nat.gcd a d∣a:=Nat.gcd_dvd_left _ _;have K:0<Nat.gcd a d:=Nat.gcd_pos_of_pos_left _ (lZ h);rw[adb b,alv b,PG,aik neg a _ g,PG];refine⟨?_,rfl,rfl⟩;have q:0<a/Nat.gcd a d:=Nat.div_pos (Nat.le_of_dvd (lZ h) g) K;cases neg
 ·simp only[sg];simp;omega
 ·simp only[sg];simp;omega
def val (neg:Bool) (num den:ByteArray):Rat:=mkRat (sg neg (N num)) (N den)
theorem aai (h:N num=0):val neg num den=0:=by rw[val,h,aa7,F3]
theorem K7 (h:N den=0):val neg num den=0:=by rw[val,h,Rat.mkRat_zero]
theorem K6:val neg num den=0↔N num=0∨N den=0:=by
 constructor
 ·intro h;by_cases d:N den=0
  ·exact .inr d
  ·rw[val,Rat.mkRat_eq_zero d,aij] at h;exact .inl h
 ·rintro(h |h)
  ·exact aai h
  ·exact K7 h
theorem aaj (neg:Bool) (num den:ByteArray):val (!neg) num den= -val neg num den:=by rw[val,val,aih,Rat.neg_mkRat]
theorem val_mul (a b:Bool) (x y u v:ByteArray):mkRat (sg (a !=b) (N x*N u)) (N y*N v)=val a x y*val b u v:=by rw[val,val,Rat.mkRat_mul_mkRat,aii]
theorem val_add (a b:Bool) (x y u v:ByteArray) (c:N y≠0) (h:N v≠0):mkRat (sg a (N x*N v)+sg b (N u*N y)) (N y*N v)=val a x y+val b u v:=by
 rw[val,val,Rat.mkRat_add_mkRat _ _ c h,aba,aba]
theorem Tw (neg:Bool) (x y:ByteArray) (a:N x≠0) (b:N y≠0):val neg y x=(val neg x y)⁻¹:=by
 have h:val neg x y*val neg y x=1:=by
  rw[<- val_mul];have:sg (neg !=neg) (N x*N y)=((N x*N y:Nat):Int)*1:=by cases neg<;>simp[sg]
  rw[this,dJ (N y) (N x), <- pI (N x*N y),jl (N x*N y) 1,Int.natCast_one,Int.mul_one,Rat.mkRat_mul_left (F5 a b)];rfl
 grind
def C (q:Rat):Value:=.agg #[.bool (decide (q.num<0)),.string (B q.num.natAbs),.string (B q.den)]
theorem FU:C 0=.agg #[.bool false,.string ⟨#[]⟩,.string (B 1)]:=by
 show Value.agg #[_,.string (B 0),.string (B 1)]=_;rw[BP];rfl
theorem ag4 (q:Rat):val (decide (q.num<0)) (B q.num.natAbs) (B q.den)=q:=by
 rw[val,bS,bS]
 have:sg (decide (q.num<0)) q.num.natAbs=q.num:=by
  by_cases h:q.num<0
  ·simp[sg,h];omega
  ·simp[sg,h];omega
 rw[this,Rat.mkRat_self]
theorem SZ (neg:Bool) (a d:Nat) (e:a≠0) (f:d≠0):C (mkRat (sg neg a) d)=.agg #[.bool neg,.string (B (a/Nat.gcd a d)),.string (B (d/Nat.gcd a d))]:=by
 obtain⟨h,b,c⟩:=alu neg a d e f;rw[C,h,b,c]
def qw (q:Rat):Nat:=(B q.num.natAbs).size+(B q.den).size
theorem Uj {n:Int} (b:d≠0):qw (Rat.normalize n d b)<=(B n.natAbs).size+(B d).size:=by
 rw[Rat.normalize_eq]
 have a:(n/(Nat.gcd n.natAbs d:Int)).natAbs<=n.natAbs:=by
  have g:((Nat.gcd n.natAbs d:Nat):Int)∣n:=by have h:=Int.natCast_dvd_natCast.2 (Nat.gcd_dvd_left n.natAbs d);rwa [Int.dvd_natAbs] at h
  rw[Int.natAbs_ediv_of_dvd g];exact wF _ _
 have s:=j8 a;have c:=j8 (wF d (Nat.gcd n.natAbs d));simp only[qw];omega
theorem Jf:qw 0<=1:=by
 show (B 0).size+(B 1).size<=1;rw[BP];have:=OM;have:(⟨#[]⟩:ByteArray).size=0:=rfl;omega
theorem Ej (neg:Bool) (num den:ByteArray):qw (val neg num den)<=num.size+den.size+1:=by
 by_cases d:N den=0
 ·rw[K7 d];have:=Jf;omega
 ·rw[val,Qv d];have:=Uj (n:=sg neg (N num)) d;rw[PG] at this;have:=jL num;have:=jL den;omega
theorem ajn (p q:Rat):qw (p*q)<=qw p+qw q:=by
 rw[Rat.mul_def];refine aR (Uj _) ?_;rw[Int.natAbs_mul];have:=tj p.num.natAbs q.num.natAbs;have:=tj p.den q.den;simp only[qw];omega
def c5 (p q:Rat):Int:=if p<q then -1 else if p=q then 0 else 1
theorem als (neg:Bool) (n d:Nat) (a:d≠0) (b:n≠0):(neg=true ->mkRat (sg neg n) d<0)/\(neg=false ->0<mkRat (sg neg n) d):=by
 have p:∀m:Nat,m≠0 ->0<mkRat (m:Int) d:=fun m g=>by
  have c:0<=mkRat (m:Int) d:=by
   rw[<- Rat.num_nonneg,adb a];exact Int.ediv_nonneg al al
  have f:mkRat (m:Int) d≠0:=by rw[Ne,Rat.mkRat_eq_zero a];omega
  grind
 constructor
 ·rintro rfl;have h:=p n b;have e:mkRat (sg true n) d= -mkRat (n:Int) d:=by rw[Rat.neg_mkRat];rfl
  rw[e];grind
 ·rintro rfl;exact p n b
variable {fn:Func}
theorem yr (a:ByteArray) (w:World):
  c6 103 #[.string a] w fun e w'=>e=.returned (.bool (decide (N a=0)))/\w'=w:=by
 have c:(jY (N a) (N ⟨#[]⟩)==0)=decide (N a=0):=by
  rw[af7,jY];by_cases h:N a=0
  ·simp[h]
  ·simp[h]
 have H:=aD c;clear c;go_enter Tryz.func103,Tryz.ntmps103;go_wp2_with fail
 refine(ZK a ⟨#[]⟩ _).af ?_;rintro e d ⟨rfl,b⟩;subst b;go_wp2;go_ret;exact⟨by rw[<- H.o];rfl,rfl⟩
def aF (w:World) (g:Nat) (neg:Bool) (num den:ByteArray):Prop:=w.heap[g]? =some (.cells #[.bool neg,.string num,.string den] 53 (0,0))
theorem aF.c0 (h:aF w g neg num den):w.cell? ⟨g,0,none⟩=some (.bool neg):=by rw[bZ w g 0 _ _ (0,0) h];rfl
theorem aF.c1 (h:aF w g neg num den):w.cell? ⟨g,1,none⟩=some (.string num):=by rw[bZ w g 1 _ _ (0,0) h];rfl
theorem aF.c2 (h:aF w g neg num den):w.cell? ⟨g,2,none⟩=some (.string den):=by rw[bZ w g 2 _ _ (0,0) h];rfl
theorem aF.fz (h:aF w g neg num den) (j:Nat):w.frozen? ⟨g,j,none⟩=false:=lr w g j _ _ h
theorem aF.lt (h:aF w g neg num den):g<w.heap.size:=(dS.1 h).1
theorem aF.of_block (h:aF w g neg num den) (e:w'.heap[g]? =w.heap[g]?):aF w' g neg num den:=e.trans h
theorem aF.aa {B:Nat} (h:aF w g neg num den) (b:Below B w w') (a:g<B):aF w' g neg num den:=h.of_block (b.block g a)
theorem aF.new (w:World) (neg:Bool) (num den:ByteArray):aF (w.alloc (.cells #[.bool neg,.string num,.string den] 53)) w.heap.size neg num den:=by
 exact jg _ _
theorem aF.alloc (h:aF w g neg num den) (o:Obj):aF (w.alloc o) g neg num den:=h.of_block (r8 w o g h.lt)
theorem aF.drew (h:aF w g neg num den):aF w.drew g neg num den:=h
theorem aF.facts (h:aF w g neg num den):w.cell? ⟨g,0,none⟩=some (.bool neg)/\w.cell? ⟨g,1,none⟩=some (.string num)/\w.cell? ⟨g,2,none⟩=some (.string den)/\w.frozen? ⟨g,0,none⟩=false/\w.frozen? ⟨g,1,none⟩=false/\w.frozen? ⟨g,2,none⟩=false:=
 ⟨h.c0,h.c1,h.c2,h.fz 0,h.fz 1,h.fz 2⟩
theorem aF.put (h:aF w g neg num den) (n:Bool) (x y:ByteArray):aF (((w.setCell ⟨g,0,none⟩ (.bool n)).setCell ⟨g,1,none⟩ (.string x)).setCell ⟨g,2,none⟩ (.string y)) g n x y:=by
 have a:=kM w g 0 _ _ (.bool n) h;have b:=kM _ g 1 _ _ (.string x) a;have c:=kM _ g 2 _ _ (.string y) b;exact c
theorem aF.far (h:aF w g neg num den) (a:g≠g') (u:Value):aF (w.setCell ⟨g',j,none⟩ u) g neg num den:=h.of_block (iJ w _ u g a)
theorem bL {B:Nat} {a:World} (h:Below B a w) (b:B<=g) (u v x:Value):Below B a (((w.setCell ⟨g,0,none⟩ u).setCell ⟨g,1,none⟩ v).setCell ⟨g,2,none⟩ x):=
 ((h.setCell b u).setCell b v).setCell b x
theorem aF.result (h:aF w g neg num den) {p:Tmp} (r:fn.results= #[.cell p 53]) (m:Array Value) (a:m.getD p undef=.pointer (some ⟨g,0,none⟩)):
  (results fn m).run Tryz.prog w=.ok (.agg #[.bool neg,.string num,.string den]) w:=
 FY r m w g _ _ _ _ a h Tryz.underlying53 rfl ao
theorem UM (w:World):
  c6 126 #[] w (da w (C 0)):=by
 go_enter Tryz.func126,Tryz.ntmps126;have b:=aF.new w false ⟨#[]⟩ ⟨#[]⟩;have h:c8 w (w.alloc (.cells #[.bool false,.string ⟨#[]⟩,.string ⟨#[]⟩] 53)):=(aw _ w).alloc (ar _) _;go_wp2_with fail
 refine(af6 1 _ al al).af ?_;rintro e c ⟨rfl,a⟩;have d:c8 w c:=h.trans (a.af h.size);have x:=b.aa a b.lt;obtain⟨k,j,l,f,g,i⟩:=x.facts;clear b h;go_wp2;refine bD ((x.put _ _ _).result rfl _ rfl) rfl ?_;exact⟨by rw[FU],bL d (ar _) _ _ _⟩
abbrev FC (n:Bool) (x y:ByteArray):Obj:=.cells #[.bool n,.string x,.string y] 53
theorem aF.at (h:w.heap.size=g) (n:Bool) (x y:ByteArray):aF (w.alloc (FC n x y)) g n x y:=by
 subst h;exact aF.new w n x y
theorem akq (n:Bool) (x y:ByteArray) (w:World):
  c6 102 #[.agg #[.bool n,.string x,.string y]] w (da w (.agg #[.bool (!n),.string x,.string y])):=by
 go_enter Tryz.func102,Tryz.ntmps102;go_wp2;refine bD ((aF.at (w:=w.alloc (FC n x y)) (g:=w.heap.size+1) aE (!n) x y).result rfl _ rfl) rfl ?_;exact⟨rfl,((aw _ w).alloc (ar _) _).alloc aE _⟩
theorem aoP (n:Bool) (x y:ByteArray) (w:World) (h:N y=0):
  c6 148 #[.agg #[.bool n,.string x,.string y]] w (da w (C 0)):=by
 have a:=fun V=>yr y V;simp only[h,decide_true] at a;have H:=aD a;clear a;go_enter Tryz.func148,Tryz.ntmps148;have b:=aF.at (w:=w.alloc (FC n x y)) (g:=w.heap.size+1) aE false ⟨#[]⟩ ⟨#[]⟩;have c:c8 w ((w.alloc (FC n x y)).alloc (FC false ⟨#[]⟩ ⟨#[]⟩)):=((aw _ w).alloc (ar _) _).alloc aE _;go_wp2_with fail
 refine(H.o _).af ?_;rintro e d ⟨rfl,j⟩;subst j;go_wp2_with fail
 refine(UM _).af ?_;rintro e d ⟨rfl,f⟩;have i:=b.aa f b.lt;have k:c8 w d:=c.trans (f.af c.size);obtain⟨q,r,s,l,m,p⟩:=i.facts;clear b c;rw[FU];go_wp2;refine bD ((i.put _ _ _).result rfl _ rfl) rfl ?_;exact⟨by rw[FU],bL k al _ _ _⟩
theorem aoO (n:Bool) (x y:ByteArray) (w:World) (h:N y≠0):
  c6 148 #[.agg #[.bool n,.string x,.string y]] w (da w (.agg #[.bool n,.string x,.string y])):=by
 have a:=fun V=>yr y V;simp only[h,decide_false] at a;have H:=aD a;clear a;go_enter Tryz.func148,Tryz.ntmps148;go_wp2_with fail
 refine(H.o _).af ?_;rintro e c ⟨rfl,b⟩;subst b;go_wp2;refine bD ((aF.at (w:=w.alloc (FC n x y)) (g:=w.heap.size+1) aE n x y).result rfl _ rfl) rfl ?_;exact⟨rfl,((aw _ w).alloc (ar _) _).alloc aE _⟩
theorem aqx (n:Bool) (x y:ByteArray) (w:World) (h:N x=0∨N y=0):
  c6 104 #[.bool n,.string x,.string y] w (da w (C 0)):=by
 have X:=fun V=>yr x V;have Y:=fun V=>yr y V;have H:=aD X;have i:=aD Y;clear X Y;go_enter Tryz.func104,Tryz.ntmps104;have P:=aF.at (w:=w) rfl false ⟨#[]⟩ ⟨#[]⟩;have d:c8 w (w.alloc (FC false ⟨#[]⟩ ⟨#[]⟩)):=(aw _ w).alloc (ar _) _;by_cases c:N x=0
 focus
  go_wp2_with fail
  refine(H.o _).af ?_;rintro e b ⟨rfl,a⟩;subst a;rw[cY c]
 rotate_left
 focus
  have j:N y=0:=h.resolve_left c;go_wp2_with fail
  refine(H.o _).af ?_;rintro e b ⟨rfl,a⟩;subst a;rw[cK c];go_wp2_with fail
  refine(i.o _).af ?_;rintro e b ⟨rfl,a⟩;subst a;rw[cY j]
 all_goals
  go_wp2_with fail
  refine(UM _).af ?_;rintro e b ⟨rfl,f⟩;have g:=P.aa f P.lt;have k:c8 w b:=d.trans (f.af d.size);obtain⟨q,r,s,l,m,p⟩:=g.facts;clear P d;rw[FU];go_wp2;refine bD ((g.put _ _ _).result rfl _ rfl) rfl ?_;exact⟨by rw[FU],bL k al _ _ _⟩
theorem aqy (n:Bool) (x y:ByteArray) (w:World) (h0:N x≠0) (h1:N y≠0) (f:x.size<=1099511627776) (i:y.size<=1099511627776):
  c6 104 #[.bool n,.string x,.string y] w (da w (C (val n x y))):=by
 have X:=fun V=>yr x V;have Y:=fun V=>yr y V;have H:=aD X;have l:=aD Y;have g:Nat.gcd (N x) (N y)≠0:=fun h=>h0 (Nat.gcd_eq_zero_iff.1 h).1;have T:=aR (j8 (Nat.gcd_le_left (N y) (lZ h0))) (jL x);clear X Y;go_enter Tryz.func104,Tryz.ntmps104;have P:=aF.at (w:=w) rfl false ⟨#[]⟩ ⟨#[]⟩;have d:c8 w (w.alloc (FC false ⟨#[]⟩ ⟨#[]⟩)):=(aw _ w).alloc (ar _) _;go_wp2_with fail
 refine(H.o _).af ?_;rintro e b ⟨rfl,c⟩;subst c;rw[cK h0];go_wp2_with fail
 refine(l.o _).af ?_;rintro e b ⟨rfl,c⟩;subst c;rw[cK h1];have a:=aw (w.alloc (FC false ⟨#[]⟩ ⟨#[]⟩)).heap.size (w.alloc (FC false ⟨#[]⟩ ⟨#[]⟩));go_wp2_with fail
 refine(ard (Nat.gcd (N x) (N y)) a rfl f i).af ?_;rintro e b ⟨rfl,a⟩;go_wp2_with fail
 refine(agD (N x/Nat.gcd (N x) (N y)) 0 a (by rw[bS]) (by rw[bS];exact Nat.mod_eq_zero_of_dvd (Nat.gcd_dvd_left _ _)) (by rw[bS];exact g) f al).af ?_;rintro e b ⟨rfl,a⟩;go_wp2_with fail
 refine(agD (N y/Nat.gcd (N x) (N y)) 0 a (by rw[bS]) (by rw[bS];exact Nat.mod_eq_zero_of_dvd (Nat.gcd_dvd_right _ _)) (by rw[bS];exact g) i al).af ?_;rintro e b ⟨rfl,j⟩;have k:=P.aa j P.lt;have m:c8 w b:=d.trans (j.af d.size);obtain⟨s,t,u,p,q,r⟩:=k.facts;clear P d;go_wp2;refine bD ((k.put _ _ _).result rfl _ rfl) rfl ?_;exact⟨by rw[val,SZ n _ _ h0 h1],bL m al _ _ _⟩
theorem ND (n:Bool) (x y:ByteArray) (w:World) (a:x.size<=1099511627776) (b:y.size<=1099511627776):
  c6 104 #[.bool n,.string x,.string y] w (da w (C (val n x y))):=by
 by_cases h:N x=0∨N y=0
 ·have:=aqx n x y w h;rwa [<- K6.2 h] at this
 ·exact aqy n x y w (fun e=>h (.inl e)) (fun e=>h (.inr e)) a b
theorem afl (n:Bool) (x y:ByteArray) (c:x.size<=1099511627776) (d:y.size<=1099511627776):∃(b:Bool) (x' a:ByteArray),N a≠0/\val b x' a=val n x y/\x'.size<=1099511627776/\a.size<=1099511627776/\x'.size+a.size<=x.size+y.size+1/\∀V:World,
  c6 148 #[.agg #[.bool n,.string x,.string y]] V (da V (.agg #[.bool b,.string x',.string a])):=by
 have e:=OM;by_cases h:N y=0
 ·refine⟨false,⟨#[]⟩,B 1,by rw[bS];decide,?_,?_,?_,?_,fun V=>?_⟩
  ·rw[aai af7,K7 h]
  ·show 0<=_;omega
  ·omega
  ·show 0+_<=_;omega
  ·have:=aoP n x y V h;rwa [FU] at this
 ·exact⟨n,x,y,h,rfl,c,d,al,fun V=>aoO n x y V h⟩
theorem abb (a:Bool) (m n:Nat):sg a (m+n)=sg a m+sg a n:=by cases a<;>simp[sg,Int.neg_add]
theorem aa9 {a b:Bool} (h:¬a=b) (e:m=n+k):sg a k=sg a m+sg b n:=by
 cases a<;>cases b<;>simp[sg] at h⊢<;>omega
theorem aa8 {a b:Bool} (h:¬a=b) (e:n=m+k):sg b k=sg a m+sg b n:=by
 cases a<;>cases b<;>simp[sg] at h⊢<;>omega
theorem acG {n:Bool} {x y:ByteArray} (h1:aF w' g n x y) (h:c8 w w'):w'.cell? ⟨g,0,none⟩=some (.bool n)/\Hid (aF w' g n x y/\c8 w w'):=
 ⟨h1.c0,h1,h⟩
theorem Tz {h:Nat} {n m:Bool} {x y u v:ByteArray} (h1:aF w' g n x y) (a:aF w' h m u v) (b:c8 w w'):(w'.cell? ⟨g,1,none⟩=some (.string x)/\w'.cell? ⟨g,2,none⟩=some (.string y)/\w'.cell? ⟨h,1,none⟩=some (.string u)/\w'.cell? ⟨h,2,none⟩=some (.string v))/\Hid (aF w' g n x y/\aF w' h m u v/\c8 w w'):=
 ⟨⟨h1.c1,h1.c2,a.c1,a.c2⟩,h1,a,b⟩
theorem aat (S nb:Bool) (L O M P:ByteArray) (w:World) (CH:L.size<=137438953472) (CG:O.size<=137438953472) (ax:M.size<=137438953472) (ay:P.size<=137438953472):
  c6 101 #[.agg #[.bool S,.string L,.string O],.agg #[.bool nb,.string M,.string P]] w fun e w'=>
   ∃(n:Bool) (x d:Nat),e=.returned (.tuple #[.bool n,.string (B x),.string (B d)])/\d≠0/\mkRat (sg n x) d=val S L O+val nb M P/\(B x).size<=1099511627776/\(B d).size<=1099511627776/\c8 w w':=by
 obtain⟨q,b,j,k,wY,a1,an,aO,HA⟩:=afl S L O al al;obtain⟨f,A,a,v,vE,a6,ao,aQ,HB⟩:=afl nb M P al al;have DN:=aD HA;have a7:=aD HB;clear HA HB;go_enter Tryz.func101,Tryz.ntmps101;have i:=((aF.at (w:=w) rfl S L O).alloc (FC nb M P)).drew;have c:=(aF.at (w:=w.alloc (FC S L O)) (g:=w.heap.size+1) aE nb M P).drew;have aj:c8 w ((w.alloc (FC S L O)).alloc (FC nb M P)).drew:=(((aw _ w).alloc (ar _) _).alloc aE _).drew;go_upto_region 1 with fail
 go_cut [] from 11 to 14 (fun wx=>aF wx w.heap.size q b j/\aF wx (w.heap.size+1) f A a/\c8 w wx)
 case first=>
  go_region_with (first
   |(have yQ:=Y;go_at_call 148;refine(a7.o _).af ?_;rintro e w2 ⟨rfl,R⟩;have oW:=aF.aa yQ R yQ.lt;have Z:=aF.aa H R H.lt;have ab:=V.trans (R.af V.size);obtain⟨I,J,K,p,r,s⟩:=oW.facts;obtain⟨D,E,F,u,y,z⟩:=Z.facts)
   |(go_at_call 148;refine(DN.o _).af ?_;rintro e w1 ⟨rfl,Q⟩;have Y:=aF.aa i Q i.lt;have H:=aF.aa c Q c.lt;have V:=aj.trans (Q.af aj.size);obtain⟨I,J,K,p,r,s⟩:=Y.facts;obtain⟨D,E,F,u,y,z⟩:=H.facts))
  all_goals go_wp2_with fail
  all_goals go_meet
  all_goals exact⟨((((oW.put _ _ _).far al _).far al _).far al _),(((Z.far al _).far al _).far al _).put _ _ _,bL (bL ab (ar _) _ _ _) al _ _ _⟩
 case rest=>
  obtain⟨i,c,t⟩:=hcut;obtain⟨I,J,K,p,r,s⟩:=i.facts;obtain⟨D,E,F,u,y,z⟩:=c.facts;clear DN a7;have aG:=tj (N b) (N a);have aM:=tj (N A) (N j);have aN:=tj (N j) (N a);have b1:=jL b;have b2:=jL j;have b3:=jL A;have b4:=jL a;go_upto_region 2 with fail
  go_cut [7,8] from 15 to 24 (fun s7 s8 wx=>s7=.string (B (N b*N a))/\s8=.string (B (N A*N j))/\aF wx w.heap.size q b j/\aF wx (w.heap.size+1) f A a/\c8 w wx)
  case first=>
   clear wY vE k v aO aQ b1 b2 b3 b4 aG aM aN I J K p r s D E F u y z CH CG ax ay
   go_region_held3 (fun w'=>(w'.cell? ⟨w.heap.size,1,none⟩=some (.string b)/\w'.cell? ⟨w.heap.size,2,none⟩=some (.string j)/\w'.cell? ⟨w.heap.size+1,1,none⟩=some (.string A)/\w'.cell? ⟨w.heap.size+1,2,none⟩=some (.string a))/\Hid (aF w' w.heap.size q b j/\aF w' (w.heap.size+1) f A a/\c8 w w'))
    (first |exact Tz oW Z ab |exact Tz Y H V |exact Tz i.drew c.drew t.drew)
    (first
     |(have yQ:=Y;go_at_call 128;refine(NB A j _ a6 an).af ?_;rintro e w2 ⟨rfl,R⟩;have oW:=yQ.aa R yQ.lt;have Z:=H.aa R H.lt;have ab:=V.trans (R.af V.size))
     |(go_at_call 128;refine(NB b a _ a1 ao).af ?_;rintro e w1 ⟨rfl,Q⟩;have Y:=i.drew.aa Q i.lt;have H:=c.drew.aa Q c.lt;have V:=t.drew.trans (Q.af t.size)))
   go_wp2_with fail
   go_meet
   exact⟨rfl,rfl,oW,Z,ab⟩
  case rest=>
   obtain⟨rfl,rfl,i,c,t⟩:=hcut;obtain⟨I,J,K,p,r,s⟩:=i.facts;obtain⟨D,E,F,u,y,z⟩:=c.facts;go_wp2_with fail
   refine(NB j a _ an ao).af ?_;rintro e w3 ⟨rfl,ad⟩;have T:=i.aa ad i.lt;have ur:=c.aa ad c.lt;have l:=t.trans (ad.af t.size);clear i c t I J K p r s D E F u y z ad;obtain⟨I,J,K,p,r,s⟩:=T.facts;obtain⟨D,E,F,u,y,z⟩:=ur.facts;(have sl:(B (N b*N a)).size<=1099511627776:=al);(have sr:(B (N A*N j)).size<=1099511627776:=al);(have sd:(B (N j*N a)).size<=1099511627776:=al);have sa:=aaA (N b*N a) (N A*N j);have sm:=j8 (Nat.sub_le (N b*N a) (N A*N j));have sn:=j8 (Nat.sub_le (N A*N j) (N b*N a));by_cases X:q=f
   ·subst X;go_upto_region 5 with fail
    go_region_held3 (fun w'=>w'.cell? ⟨w.heap.size,0,none⟩=some (.bool q)/\Hid (aF w' w.heap.size q b j/\c8 w w'))
     (first |exact acG WB U |exact acG T.drew l.drew)
     (first
      |(go_at_call 106;refine(agF _ _ _ sl sr).af ?_;rintro e w4 ⟨rfl,h⟩;have WB:=T.drew.aa h T.lt;have U:=l.drew.trans (h.af l.size)))
    go_wp2;go_ret3
    refine⟨q,N b*N a+N A*N j,N j*N a,by rw[bS,bS];rfl,F5 k v,?_,al,al,U⟩;rw[<- wY, <- vE,abb,val_add _ _ _ _ _ _ k v]
   ·have ai:=aw w3.heap.size w3;(have eN:(q==f)=false:=by simp[X]);have dK:decide (q=f)=false:=cK X;by_cases a8:N A*N j<=N b*N a
    ·go_wp2_with fail
     refine(af4 (N b*N a - N A*N j) ai (by rw[bS,bS];omega) sl sr).af ?_;rintro e w4 ⟨rfl,h⟩;have WB:=T.aa h T.lt;have U:=l.trans (h.af l.size);obtain⟨I,J,K,p,r,s⟩:=WB.facts;go_wp2;go_ret3
     refine⟨q,N b*N a - N A*N j,N j*N a,rfl,F5 k v,?_,al,al,U⟩;rw[<- wY, <- vE,aa9 X (m:=N b*N a) (n:=N A*N j) al,val_add _ _ _ _ _ _ k v]
    ·go_wp2_with fail
     refine(aqr ai (by rw[bS,bS];omega)).af ?_;rintro e w4 ⟨rfl,h⟩;have ae:=ur.aa h ur.lt;have U:=l.trans (h.af l.size);have av:=aw w4.heap.size w4;go_wp2_with fail
     refine(af4 (N A*N j - N b*N a) av (by rw[bS,bS];omega) sr sl).af ?_;rintro e w5 ⟨rfl,ak⟩;have aq:=ae.aa ak ae.lt;have qI:=U.trans (ak.af U.size);obtain⟨D,E,F,u,y,z⟩:=aq.facts;go_wp2;go_ret3
     refine⟨f,N A*N j - N b*N a,N j*N a,rfl,F5 k v,?_,al,al,qI⟩;rw[<- wY, <- vE,aa8 X (m:=N b*N a) (n:=N A*N j) al,val_add _ _ _ _ _ _ k v]
def aJ (q:Rat):Bool:=decide (q.num<0)
def nu (q:Rat):ByteArray:=B q.num.natAbs
def de (q:Rat):ByteArray:=B q.den
theorem kL (q:Rat):C q=.agg #[.bool (aJ q),.string (nu q),.string (de q)]:=rfl
theorem gg (q:Rat):val (aJ q) (nu q) (de q)=q:=ag4 q
theorem lC (q:Rat):(nu q).size+(de q).size=qw q:=rfl
theorem arj (n:Bool) (x y:ByteArray) (w:World) (d:x.size<=1099511627776) (f:y.size<=1099511627776):
  c6 98 #[.agg #[.bool n,.string x,.string y]] w (da w (C (val n x y))):=by
 go_enter Tryz.func98,Tryz.ntmps98;have b:=aF.at (w:=w.alloc (FC n x y)) (g:=w.heap.size+1) aE false ⟨#[]⟩ ⟨#[]⟩;have h:c8 w ((w.alloc (FC n x y)).alloc (FC false ⟨#[]⟩ ⟨#[]⟩)):=((aw _ w).alloc (ar _) _).alloc aE _;go_wp2_with fail
 refine(ND n x y _ d f).af ?_;rintro e i ⟨rfl,a⟩;have c:=b.aa a b.lt;have j:c8 w i:=h.trans (a.af h.size);obtain⟨o,p,q,k,l,m⟩:=c.facts;clear b h;rw[kL];go_wp2;refine bD ((c.put _ _ _).result rfl _ rfl) rfl ?_;exact⟨rfl,bL j al _ _ _⟩
theorem afd (f nb:Bool) (a y b c:ByteArray) (w:World) (H:a.size<=137438953472) (o:y.size<=137438953472) (z:b.size<=137438953472) (A:c.size<=137438953472):
  c6 127 #[.agg #[.bool f,.string a,.string y],.agg #[.bool nb,.string b,.string c]] w (da w (C (val f a y+val nb b c))):=by
 go_enter Tryz.func127,Tryz.ntmps127;have P:=aF.at (w:=(w.alloc (FC f a y)).alloc (FC nb b c)) (g:=w.heap.size+2) aE false ⟨#[]⟩ ⟨#[]⟩;have h:c8 w (((w.alloc (FC f a y)).alloc (FC nb b c)).alloc (FC false ⟨#[]⟩ ⟨#[]⟩)):=(((aw _ w).alloc (ar _) _).alloc aE _).alloc (by simp;omega) _;go_wp2_with fail
 refine(aat f nb a y b c _ H o z A).af ?_;rintro e r ⟨n,x,d,rfl,I,v,p,s,k⟩;have j:=P.aa k P.lt;have i:c8 w r:=h.trans (k.af h.size);clear P h;go_wp2_with fail
 refine(ND n (B x) (B d) _ p s).af ?_;rintro e t ⟨rfl,l⟩;have m:=j.aa l j.lt;have u:c8 w t:=i.trans (l.af i.size);have q:val n (B x) (B d)=val f a y+val nb b c:=by rw[<- v,val,bS,bS]
 rw[q];clear j i q v;obtain⟨J,K,L,D,E,F⟩:=m.facts;rw[kL];go_wp2;refine bD ((m.put _ _ _).result rfl _ rfl) rfl ?_;exact⟨rfl,bL u al _ _ _⟩
theorem aF.far3 (h:aF w g neg num den) (a:g≠g') (u v x:Value):aF (((w.setCell ⟨g',0,none⟩ u).setCell ⟨g',1,none⟩ v).setCell ⟨g',2,none⟩ x) g neg num den:=
 ((h.far a u).far a v).far a x
theorem Ei {h:Nat} {n m:Bool} {x y u v:ByteArray} (h1:aF w' g n x y) (a:aF w' h m u v) (b:c8 w w'):(w'.cell? ⟨g,0,none⟩=some (.bool n)/\w'.cell? ⟨g,1,none⟩=some (.string x)/\w'.cell? ⟨g,2,none⟩=some (.string y)/\w'.cell? ⟨h,0,none⟩=some (.bool m)/\w'.cell? ⟨h,1,none⟩=some (.string u)/\w'.cell? ⟨h,2,none⟩=some (.string v))/\Hid (aF w' g n x y/\aF w' h m u v/\c8 w w'):=
 ⟨⟨h1.c0,h1.c1,h1.c2,a.c0,a.c1,a.c2⟩,h1,a,b⟩
theorem afb (n nb:Bool) (a y b c:ByteArray) (w:World) (A:a.size<=137438953472) (z:y.size<=137438953472) (S:b.size<=137438953472) (T:c.size<=137438953472):
  c6 86 #[.agg #[.bool n,.string a,.string y],.agg #[.bool nb,.string b,.string c]] w (da w (C (val n a y*val nb b c))):=by
 have F:(B (N a*N b)).size<=1099511627776:=by have:=tj (N a) (N b);have:=jL a;have:=jL b;omega
 have J:(B (N y*N c)).size<=1099511627776:=by have:=tj (N y) (N c);have:=jL y;have:=jL c;omega
 have r:val (n !=nb) (B (N a*N b)) (B (N y*N c))=val n a y*val nb b c:=by rw[<- val_mul,val,bS,bS]
 have D:=aD r;clear r;have R:a.size<=1099511627776:=al
 have M:y.size<=1099511627776:=al
 have P:b.size<=1099511627776:=al
 have K:c.size<=1099511627776:=al
 clear A z S T;go_enter Tryz.func86,Tryz.ntmps86;have i:=(((aF.at (w:=w) rfl n a y).alloc (FC nb b c)).alloc (FC false ⟨#[]⟩ ⟨#[]⟩)).drew;have k:=((aF.at (w:=w.alloc (FC n a y)) (g:=w.heap.size+1) aE nb b c).alloc (FC false ⟨#[]⟩ ⟨#[]⟩)).drew;have v:=(aF.at (w:=(w.alloc (FC n a y)).alloc (FC nb b c)) (g:=w.heap.size+2) aE false ⟨#[]⟩ ⟨#[]⟩).drew;have m:c8 w (((w.alloc (FC n a y)).alloc (FC nb b c)).alloc (FC false ⟨#[]⟩ ⟨#[]⟩)).drew:=((((aw _ w).alloc (ar _) _).alloc aE _).alloc (by simp;omega) _).drew;go_upto_region 1 with fail
 go_region_held3 (fun w'=>(w'.cell? ⟨w.heap.size,0,none⟩=some (.bool n)/\w'.cell? ⟨w.heap.size,1,none⟩=some (.string a)/\w'.cell? ⟨w.heap.size,2,none⟩=some (.string y)/\w'.cell? ⟨w.heap.size+1,0,none⟩=some (.bool nb)/\w'.cell? ⟨w.heap.size+1,1,none⟩=some (.string b)/\w'.cell? ⟨w.heap.size+1,2,none⟩=some (.string c))/\Hid (aF w' w.heap.size n a y/\aF w' (w.heap.size+1) nb b c/\c8 w w'))
  (first
   |exact Ei (H.far3 al _ _ _) (u.far3 al _ _ _) (bL j al _ _ _)
   |exact Ei H u j |exact Ei t I q |exact Ei L l p |exact Ei i k m)
  (first
   |(have x:=t;go_at_call 104;refine(ND _ _ _ _ F J).af ?_;rintro e w3 ⟨rfl,f⟩;have H:=x.aa f x.lt;have u:=I.aa f I.lt;have O:=E.aa f E.lt;have j:=q.trans (f.af q.size);obtain⟨Y,Z,k2,U,V,X⟩:=O.facts;rw[kL])
   |(have Q:=L;go_at_call 128;refine(NB y c _ M K).af ?_;rintro e w2 ⟨rfl,d⟩;have t:=Q.aa d Q.lt;have I:=l.aa d l.lt;have E:=s.aa d s.lt;have q:=p.trans (d.af p.size))
   |(go_at_call 128;refine(NB a b _ R P).af ?_;rintro e w1 ⟨rfl,h⟩;have L:=i.aa h i.lt;have l:=k.aa h k.lt;have s:=v.aa h v.lt;have p:=m.trans (h.af m.size)))
 go_wp2;refine bD ((O.put _ _ _).result rfl _ rfl) rfl ?_;exact⟨by rw[<- D.o];rfl,bL j al _ _ _⟩
variable {p q:Rat}
theorem aF.result2 (h:aF w g neg num den) {p u:Tmp} (r:fn.results= #[.cell p 53,.tmp u]) (m:Array Value) (a:m.getD p undef=.pointer (some ⟨g,0,none⟩)):
  (results fn m).run Tryz.prog w=.ok (.tuple #[.agg #[.bool neg,.string num,.string den],m.getD u undef]) w:=by
 rw[results_cell_tmp r,a];simp only[asAddr,F2,BV];rw[run_loadVar_row w g _ 53 _ _ _ h Tryz.underlying53 rfl ao];simp only[BV]
theorem api {n:Bool} {x:Nat} (e:d≠0) (h:mkRat (sg n x) d=p - q):c5 p q=if x=0 then 0 else if n=true then -1 else 1:=by
 by_cases a:x=0
 ·rw[aA a];rw[a,aa7,F3] at h;have:p=q:=by grind
  subst this;rw[c5,aB (by grind),aA rfl]
 ·rw[aB a];obtain⟨b,c⟩:=als n x d e a;cases n
  ·have:=c rfl;rw[h] at this;rw[aB a6,c5,aB (by grind),aB (by grind)]
  ·have:=b rfl;rw[h] at this;rw[aA rfl,c5,aA (by grind)]
theorem afc (f nb:Bool) (a c b y:ByteArray) (w:World) (H:a.size<=137438953472) (z:c.size<=137438953472) (K:b.size<=137438953472) (M:y.size<=137438953472):
  c6 56 #[.agg #[.bool f,.string a,.string c],.agg #[.bool nb,.string b,.string y]] w (da w (.int .i64 (c5 (val f a c) (val nb b y)))):=by
 have t:val f a c+val (!nb) b y=val f a c - val nb b y:=by rw[aaj,Rat.sub_eq_add_neg]
 have D:=aD t;clear t;go_enter Tryz.func56,Tryz.ntmps56;have j:=((aF.at (w:=w) rfl f a c).alloc (FC nb b y)).drew;have k:=(aF.at (w:=w.alloc (FC f a c)) (g:=w.heap.size+1) aE nb b y).drew;have m:c8 w ((w.alloc (FC f a c)).alloc (FC nb b y)).drew:=(((aw _ w).alloc (ar _) _).alloc aE _).drew;go_upto_region 1 with fail
 go_region_held3 (fun w'=>(w'.cell? ⟨w.heap.size,0,none⟩=some (.bool f)/\w'.cell? ⟨w.heap.size,1,none⟩=some (.string a)/\w'.cell? ⟨w.heap.size,2,none⟩=some (.string c)/\w'.cell? ⟨w.heap.size+1,0,none⟩=some (.bool nb)/\w'.cell? ⟨w.heap.size+1,1,none⟩=some (.string b)/\w'.cell? ⟨w.heap.size+1,2,none⟩=some (.string y))/\Hid (aF w' w.heap.size f a c/\aF w' (w.heap.size+1) nb b y/\c8 w w'))
  (first
   |exact Ei J I i |exact Ei L l p |exact Ei j k m)
  (first
   |(have Q:=L;go_at_call 101;refine(aat f (!nb) a c b y _ H z K M).af ?_;rintro e S ⟨n,x,d,rfl,E,u,P,O,r⟩;have J:=Q.aa r Q.lt;have I:=l.aa r l.lt;have i:=p.trans (r.af p.size);have v:=aD (api E (u.trans D.o));clear u)
   |(go_at_call 102;refine(akq nb b y _).af ?_;rintro e R ⟨rfl,q⟩;have L:=j.aa q j.lt;have l:=k.aa q k.lt;have p:=m.trans (q.af m.size)))
 have s:∀V:World,c6 103 #[.string (B x)] V fun e w'=>e=.returned (.bool (decide (x=0)))/\w'=V:=fun V=>by
  have:=yr (B x) V;rwa [bS] at this
 have A:=aD s;clear s;go_wp2_with fail
 refine(A.o _).af ?_;rintro e T ⟨rfl,F⟩;subst F;by_cases h:x=0
 ·rw[cY h];go_wp2;go_ret;exact⟨by rw[v.o,aA h];rfl,i⟩
 ·rw[cK h];cases n
  ·go_wp2;go_ret;exact⟨by rw[v.o,aB h];rfl,i⟩
  ·go_wp2;go_ret;exact⟨by rw[v.o,aB h];rfl,i⟩
theorem aoD (n nb:Bool) (x d b y:ByteArray) (w:World) (h:N b=0∨N y=0):
  c6 82 #[.agg #[.bool n,.string x,.string d],.agg #[.bool nb,.string b,.string y]] w (da w (.tuple #[.agg #[.bool false,.string ⟨#[]⟩,.string ⟨#[]⟩],.int .i64 3])):=by
 have X:=fun V=>yr b V;have Y:=fun V=>yr y V;have H:=aD X;have j:=aD Y;clear X Y;go_enter Tryz.func82,Tryz.ntmps82;have r:=aF.at (w:=(w.alloc (FC n x d)).alloc (FC nb b y)) (g:=w.heap.size+2) aE false ⟨#[]⟩ ⟨#[]⟩;have i:c8 w (((w.alloc (FC n x d)).alloc (FC nb b y)).alloc (FC false ⟨#[]⟩ ⟨#[]⟩)):=(((aw _ w).alloc (ar _) _).alloc aE _).alloc (by simp;omega) _;by_cases c:N b=0
 ·go_wp2_with fail
  refine(H.o _).af ?_;rintro e f ⟨rfl,a⟩;subst a;rw[cY c];go_wp2;refine bD (r.result2 rfl _ rfl) rfl ?_;exact⟨rfl,i⟩
 ·have k:N y=0:=h.resolve_left c;go_wp2_with fail
  refine(H.o _).af ?_;rintro e f ⟨rfl,a⟩;subst a;rw[cK c];go_wp2_with fail
  refine(j.o _).af ?_;rintro e f ⟨rfl,a⟩;subst a;rw[cY k];go_wp2;refine bD (r.result2 rfl _ rfl) rfl ?_;exact⟨rfl,i⟩
theorem aoB (n nb:Bool) (a c b y:ByteArray) (w:World) (h0:N b≠0) (h1:N y≠0) (H:a.size<=137438953472) (j:c.size<=137438953472) (p:b.size<=137438953472) (s:y.size<=137438953472):
  c6 82 #[.agg #[.bool n,.string a,.string c],.agg #[.bool nb,.string b,.string y]] w (da w (.tuple #[C (val n a c/val nb b y),.int .i64 0])):=by
 have X:=fun V=>yr b V;have Y:=fun V=>yr y V;have k:=aD X;have l:=aD Y;clear X Y;have q:val n a c*val nb y b=val n a c/val nb b y:=by rw[Tw nb b y h0 h1,vg]
 go_enter Tryz.func82,Tryz.ntmps82;have r:=aF.at (w:=(w.alloc (FC n a c)).alloc (FC nb b y)) (g:=w.heap.size+2) aE false ⟨#[]⟩ ⟨#[]⟩;have f:c8 w (((w.alloc (FC n a c)).alloc (FC nb b y)).alloc (FC false ⟨#[]⟩ ⟨#[]⟩)):=(((aw _ w).alloc (ar _) _).alloc aE _).alloc (by simp;omega) _;go_wp2_with fail
 refine(k.o _).af ?_;rintro e d ⟨rfl,h⟩;subst h;rw[cK h0];go_wp2_with fail
 refine(l.o _).af ?_;rintro e d ⟨rfl,h⟩;subst h;rw[cK h1];go_wp2_with fail
 refine(afb n nb a c y b _ H j s p).af ?_;rintro e d ⟨rfl,i⟩;rw[q];have x:=r.aa i r.lt;have m:c8 w d:=f.trans (i.af f.size);obtain⟨z,A,D,t,u,v⟩:=x.facts;clear r f;rw[kL];go_wp2;refine bD ((x.put _ _ _).result2 rfl _ rfl) rfl ?_;exact⟨rfl,bL m al _ _ _⟩
theorem ae9 (n:Nat) (w:World) (h:n<=9223372036854775807):
  c6 57 #[.int .i64 (n:Int)] w (da w (C (n:Rat))):=by
 have q:val false (B n) (B 1)=(n:Rat):=by
  rw[val,bS,bS];show mkRat (n:Int) 1=_;rw[Rat.mkRat_one];rfl
 have p:=OM
 have s:(B n).size<=1099511627776:=by
  have:=pY 8 n (by show n<18446744073709551616;omega);rw[<- lq n] at this;omega
 go_enter Tryz.func57,Tryz.ntmps57;have r:=aF.at (w:=w) rfl false ⟨#[]⟩ ⟨#[]⟩;have b:c8 w (w.alloc (FC false ⟨#[]⟩ ⟨#[]⟩)):=(aw _ w).alloc (ar _) _;have a:=aw (w.alloc (FC false ⟨#[]⟩ ⟨#[]⟩)).heap.size (w.alloc (FC false ⟨#[]⟩ ⟨#[]⟩));go_wp2_with fail
 refine(NA n a rfl al).af ?_;rintro e d ⟨rfl,a⟩;go_wp2_with fail
 refine(NA 1 a rfl al).af ?_;rintro e d ⟨rfl,a⟩;go_wp2_with fail
 refine(ND false (B n) (B 1) _ s al).af ?_;rintro e f ⟨rfl,c⟩;rw[q];have x:=(r.aa a r.lt).aa c (r.aa a r.lt).lt;have g:c8 w f:=(b.trans (a.af b.size)).trans (c.af (b.trans (a.af b.size)).size);obtain⟨l,m,o,i,j,k⟩:=x.facts;clear r b a;rw[kL];go_wp2;refine bD ((x.put _ _ _).result rfl _ rfl) rfl ?_;exact⟨rfl,bL g al _ _ _⟩
theorem below_drewN {B:Nat} {a b:World} (h:Below B a b) (k:Nat):Below B a (b.drewN k):=⟨h.os,h.tape,h.output,h.size,h.block⟩
theorem aoE {n m:Bool} {x y u v:ByteArray} (r:Rat) (a:val n x y=p) (b:val m u v=q) (h:p+q=r) (s:x.size+y.size<=100000) (c:u.size+v.size<=100000):
  c6 127 #[.agg #[.bool n,.string x,.string y],.agg #[.bool m,.string u,.string v]] w (da w (.agg #[.bool (aJ r),.string (nu r),.string (de r)])):=by
 subst a b h;exact afd n m x y u v w al al al al
theorem afa {n m:Bool} {x y u v:ByteArray} (r:Rat) (a:val n x y=p) (b:val m u v=q) (h:p*q=r) (s:x.size+y.size<=100000) (c:u.size+v.size<=100000):
  c6 86 #[.agg #[.bool n,.string x,.string y],.agg #[.bool m,.string u,.string v]] w (da w (.agg #[.bool (aJ r),.string (nu r),.string (de r)])):=by
 subst a b h;exact afb n m x y u v w al al al al
theorem RD {n m:Bool} {x y u v:ByteArray} (k:Int) (a:val n x y=p) (b:val m u v=q) (h:c5 p q=k) (s:x.size+y.size<=100000) (c:u.size+v.size<=100000):
  c6 56 #[.agg #[.bool n,.string x,.string y],.agg #[.bool m,.string u,.string v]] w (da w (.int .i64 k)):=by
 subst a b h;exact afc n m x y u v w al al al al
theorem SY {n:Bool} {x y:ByteArray} (r:Rat) (h:val n x y=r) (s:x.size+y.size<=100000):
  c6 98 #[.agg #[.bool n,.string x,.string y]] w (da w (.agg #[.bool (aJ r),.string (nu r),.string (de r)])):=by
 subst h;exact arj n x y w al al
theorem Nc {k:Int} (r:Rat) (n:Nat) (a:k=(n:Int)) (b:n<=1) (h:(n:Rat)=r):
  c6 57 #[.int .i64 k] w (da w (.agg #[.bool (aJ r),.string (nu r),.string (de r)])):=by
 subst h a;exact ae9 n w al
theorem aoA {n m:Bool} {x y u v:ByteArray} (h:val m u v=0):
  c6 82 #[.agg #[.bool n,.string x,.string y],.agg #[.bool m,.string u,.string v]] w fun e w'=>e=.returned (.tuple #[.agg #[.bool false,.string ⟨#[]⟩,.string ⟨#[]⟩],.int .i64 3])/\c8 w w':=
 aoD n m x y u v w (K6.1 h)
theorem aoC {n m:Bool} {x y u v:ByteArray} (r:Rat) (a:val n x y=p) (b:val m u v=q) (h0:q≠0) (h:p/q=r) (s:x.size+y.size<=100000) (c:u.size+v.size<=100000):
  c6 82 #[.agg #[.bool n,.string x,.string y],.agg #[.bool m,.string u,.string v]] w (da w (.tuple #[.agg #[.bool (aJ r),.string (nu r),.string (de r)],.int .i64 0])):=by
 subst a b h;have J:=fun h=>h0 (K6.2 h);exact aoB n m x y u v w (fun h=>J (.inl h)) (fun h=>J (.inr h)) al al al al
theorem OO:B 1=⟨#[1]⟩:=by
 rw[B,rO 1 a6,show 1/256=0 from rfl,rN];rfl
theorem akM (h:¬n=1):((B n).toList==[1])=false:=BU.2 fun e=>h (agE (by
 rw[OO];rw[Lib.toList_data] at e;exact Pe (Ph.1 e)))
theorem ai4 (n:Bool) (x y:ByteArray) (w:World) (h:N x=0∨N y=0) (f:x.size<=500000) (g:y.size<=500000):
  c6 111 #[.bool n,.string x,.string y] w (da w (C 0)):=by
 have H:=aD (fun V=>oF x V al);have Y:=aD (fun V=>oF y V al);go_enter Tryz.func111,Tryz.ntmps111;by_cases a:N x=0
 focus
  rw[a,BP] at H
 rotate_left
 focus
  have c:N y=0:=h.resolve_left a;have i:=DR a;rw[c,BP] at Y
 all_goals
  go_wp2_with fail
  refine(H.o _).af ?_;rintro e d ⟨rfl,b⟩;subst b;go_wp2_with fail
  refine(Y.o _).af ?_;rintro e d ⟨rfl,b⟩;subst b;go_wp2;refine bD ((aF.at (w:=w) rfl false ⟨#[]⟩ ⟨#[1]⟩).result rfl _ rfl) rfl ?_;exact⟨by rw[FU,OO],(aw _ w).alloc (ar _) _⟩
theorem ai5 (n:Bool) (x y:ByteArray) (w:World) (h0:N x≠0) (h1:N y≠0) (I:x.size<=500000) (J:y.size<=500000):
  c6 111 #[.bool n,.string x,.string y] w (da w (C (val n x y))):=by
 have l:=aD (fun V=>oF x V al);have m:=aD (fun V=>oF y V al);have H:=aD (SZ n _ _ h0 h1);have s:=aR (jL x) I;have p:=aR (jL y) J;have c:=aD (fun V=>ajc (B (N x)) (B (N y)) V s p);rw[bS,bS] at c;have T:=aR (j8 (Nat.gcd_le_left (N y) (lZ h0))) s;have K:Nat.gcd (N x) (N y)≠0:=fun h=>h0 (Nat.gcd_eq_zero_iff.1 h).1;have S:=aD (fun V=>Ue (N x) _ V s T K);have R:=aD (fun V=>Ue (N y) _ V p T K);have ab:=DR h0;have Z:=DR h1;rw[val];clear h0 h1 K;generalize mkRat (sg n (N x)) (N y)=q at *;generalize N x=X at *;generalize N y=Y at *;generalize Nat.gcd X Y=g at *;go_enter Tryz.func111,Tryz.ntmps111;have b:=aF.at (w:=w) rfl false ⟨#[]⟩ ⟨#[]⟩;have i:c8 w (w.alloc (FC false ⟨#[]⟩ ⟨#[]⟩)):=(aw _ w).alloc (ar _) _;go_wp2_with fail
 refine(l.o _).af ?_;rintro e f ⟨rfl,d⟩;subst d;go_wp2_with fail
 refine(m.o _).af ?_;rintro e f ⟨rfl,d⟩;subst d;go_wp2_with fail
 refine(c.o _).af ?_;rintro e f ⟨rfl,k⟩;have a:=b.aa k b.lt;have j:c8 w f:=i.trans (k.af i.size);clear b i k l m c;by_cases h1:g=1
 ·subst h1;rw[Cb,Cb] at H;rw[OO];obtain⟨L,M,O,D,E,F⟩:=a.facts;go_wp2;refine bD ((a.put _ _ _).result rfl _ rfl) rfl ?_;exact⟨by rw[H.o],bL j al _ _ _⟩
 ·have U:=akM h1;go_wp2_with fail
  refine(S.o _).af ?_;rintro e P ⟨rfl,t⟩;have v:=a.aa t a.lt;have r:c8 w P:=j.trans (t.af j.size);go_wp2_with fail
  refine(R.o _).af ?_;rintro e Q ⟨rfl,u⟩;have z:=v.aa u v.lt;have A:c8 w Q:=r.trans (u.af r.size);obtain⟨L,M,O,D,E,F⟩:=z.facts;go_wp2;refine bD ((z.put _ _ _).result rfl _ rfl) rfl ?_;exact⟨by rw[H.o],bL A al _ _ _⟩
theorem Lx (n:Bool) (x y:ByteArray) (w:World) (a:x.size<=500000) (b:y.size<=500000):
  c6 111 #[.bool n,.string x,.string y] w (da w (C (val n x y))):=by
 by_cases h:N x=0∨N y=0
 ·have:=ai4 n x y w h a b;rwa [<- K6.2 h] at this
 ·exact ai5 n x y w (fun e=>h (.inl e)) (fun e=>h (.inr e)) a b
theorem Je (n:Bool) (x y:ByteArray) (w:World) (d:x.size<=500000) (f:y.size<=500000):
  c6 66 #[.agg #[.bool n,.string x,.string y]] w (da w (C (val n x y))):=by
 go_enter Tryz.func66,Tryz.ntmps66;have b:=aF.at (w:=w.alloc (FC n x y)) (g:=w.heap.size+1) aE false ⟨#[]⟩ ⟨#[]⟩;have h:c8 w ((w.alloc (FC n x y)).alloc (FC false ⟨#[]⟩ ⟨#[]⟩)):=((aw _ w).alloc (ar _) _).alloc aE _;go_wp2_with fail
 refine(Lx n x y _ d f).af ?_;rintro e i ⟨rfl,a⟩;have c:=b.aa a b.lt;have j:c8 w i:=h.trans (a.af h.size);obtain⟨o,p,q,k,l,m⟩:=c.facts;clear b h;rw[kL];go_wp2;refine bD ((c.put _ _ _).result rfl _ rfl) rfl ?_;exact⟨rfl,bL j al _ _ _⟩
variable {U:World}
theorem Lv {a b:ByteArray} (n:Nat) (c:c8 w0 w) (h:N a*N b=n) (d:a.size<=1000000) (e:b.size<=1000000):
  c6 112 #[.string a,.string b] w (da w0 (.string (B n))):=by
 subst h;exact under c (ai3 a b w al al)
theorem vY (q:Rat):N (nu q)=q.num.natAbs:=bS _
theorem nP (q:Rat):N (de q)=q.den:=bS _
def Nx (w V:World) (p q:Rat) (n:Bool) (x y:ByteArray):Prop:=aF V w.heap.size (aJ p) (nu p) (de p)/\aF V (w.heap.size+1) (aJ q) (nu q) (de q)/\aF V (w.heap.size+2) n x y/\c8 w V
theorem Nx.step {V:World} {n:Bool} {x y:ByteArray} (h:Nx w V p q n x y) (b:c8 V U):Nx w U p q n x y:=by
 obtain⟨a,c,d,e⟩:=h;exact⟨a.aa b a.lt,c.aa b c.lt,d.aa b d.lt,e.trans (b.af e.size)⟩
theorem ahI (h:aJ p=aJ q):val (aJ p) (B (p.num.natAbs*q.den+q.num.natAbs*p.den)) (B (p.den*q.den))=p+q:=by
 have e:=val_add (aJ p) (aJ q) (nu p) (de p) (nu q) (de q) (by rw[nP];exact p.den_nz) (by rw[nP];exact q.den_nz);rw[gg,gg,vY,vY,nP,nP, <- h, <- abb] at e;rw[val,bS,bS,e]
theorem ahL (h:¬aJ p=aJ q) (l:q.num.natAbs*p.den<=p.num.natAbs*q.den):val (aJ p) (B (p.num.natAbs*q.den - q.num.natAbs*p.den)) (B (p.den*q.den))=p+q:=by
 have e:=val_add (aJ p) (aJ q) (nu p) (de p) (nu q) (de q) (by rw[nP];exact p.den_nz) (by rw[nP];exact q.den_nz);rw[gg,gg,vY,vY,nP,nP, <- aa9 h (k:=p.num.natAbs*q.den - q.num.natAbs*p.den) al] at e;rw[val,bS,bS,e]
theorem ahJ (h:¬aJ p=aJ q) (l:p.num.natAbs*q.den<=q.num.natAbs*p.den):val (aJ q) (B (q.num.natAbs*p.den - p.num.natAbs*q.den)) (B (p.den*q.den))=p+q:=by
 have e:=val_add (aJ p) (aJ q) (nu p) (de p) (nu q) (de q) (by rw[nP];exact p.den_nz) (by rw[nP];exact q.den_nz);rw[gg,gg,vY,vY,nP,nP, <- aa8 h (k:=q.num.natAbs*p.den - p.num.natAbs*q.den) al] at e;rw[val,bS,bS,e]
theorem PU (l nb:Bool) (x y d f:ByteArray) (w:World) (ha:x.size+y.size<=50000) (hb:d.size+f.size<=50000):
  c6 74 #[.agg #[.bool l,.string x,.string y],.agg #[.bool nb,.string d,.string f]] w (da w (C (val l x y+val nb d f))):=by
 have HA:=aD (fun V=>Je l x y V al al);have HB:=aD (fun V=>Je nb d f V al al);have q1:=Ej l x y;have q2:=Ej nb d f;generalize val l x y=p at *;generalize val nb d f=q at *;have z1:=lC p;have z2:=lC q;have s1:=tj p.num.natAbs q.den;have s2:=tj q.num.natAbs p.den;have s3:=tj p.den q.den;have s4:=aaA (p.num.natAbs*q.den) (q.num.natAbs*p.den);have s5:=j8 (Nat.sub_le (p.num.natAbs*q.den) (q.num.natAbs*p.den));have s6:=j8 (Nat.sub_le (q.num.natAbs*p.den) (p.num.natAbs*q.den));have e1:(B p.num.natAbs).size=(nu p).size:=rfl;have e2:(B p.den).size=(de p).size:=rfl;have e3:(B q.num.natAbs).size=(nu q).size:=rfl;have e4:(B q.den).size=(de q).size:=rfl;have HS:=aD (fun h=>ahI (p:=p) (q:=q) h);have HG:=aD (fun h m=>ahL (p:=p) (q:=q) h m);have HL:=aD (fun h m=>ahJ (p:=p) (q:=q) h m);have BD:=aD (fun (V:World)=>Lv (w:=V) (p.num.natAbs*q.den) (aw _ V) (by rw[vY,nP]) (show (nu p).size<=_ by omega) (show (de q).size<=_ by omega));have Ii:=aD (fun (V:World)=>Lv (w:=V) (q.num.natAbs*p.den) (aw _ V) (by rw[vY,nP]) (show (nu q).size<=_ by omega) (show (de p).size<=_ by omega));have Oh:=aD (fun (V:World)=>Lv (w:=V) (p.den*q.den) (aw _ V) (by rw[nP,nP]) (show (de p).size<=_ by omega) (show (de q).size<=_ by omega));generalize p+q=r at *;generalize p.num.natAbs*q.den=X at *;generalize q.num.natAbs*p.den=Y at *;generalize p.den*q.den=D at *;have t1:(B X).size<=200000:=al
 have t2:(B Y).size<=200000:=al
 have t3:(B D).size<=200000:=al
 have t4:(B (X+Y)).size<=500000:=al
 have t5:(B (X - Y)).size<=500000:=al
 have t6:(B (Y - X)).size<=500000:=al
 clear s1 s2 s3 s4 s5 s6 e1 e2 e3 e4 z1 z2 q1 q2 ha hb;go_enter Tryz.func74,Tryz.ntmps74;have Q:=((aF.at (w:=w) rfl l x y).alloc (FC nb d f)).alloc (FC false ⟨#[]⟩ ⟨#[]⟩);have R:=(aF.at (w:=w.alloc (FC l x y)) (g:=w.heap.size+1) aE nb d f).alloc (FC false ⟨#[]⟩ ⟨#[]⟩);have ae:=aF.at (w:=(w.alloc (FC l x y)).alloc (FC nb d f)) (g:=w.heap.size+2) aE false ⟨#[]⟩ ⟨#[]⟩;have ab:c8 w (((w.alloc (FC l x y)).alloc (FC nb d f)).alloc (FC false ⟨#[]⟩ ⟨#[]⟩)):=(((aw _ w).alloc (ar _) _).alloc aE _).alloc (by simp;omega) _;go_wp2_with fail
 refine(HA.o _).af ?_;rintro e w1 ⟨rfl,t⟩;have lL:=Q.aa t Q.lt;have z:=(R.aa t R.lt).far3 (g':=w.heap.size) al (.bool (aJ p)) (.string (nu p)) (.string (de p));have Z:=(ae.aa t ae.lt).far3 (g':=w.heap.size) al (.bool (aJ p)) (.string (nu p)) (.string (de p));have ad:=bL (ab.trans (t.af ab.size)) (ar _) (.bool (aJ p)) (.string (nu p)) (.string (de p));have oW:=lL.put (aJ p) (nu p) (de p);obtain⟨S,T,U,M,O,P⟩:=lL.facts;obtain⟨c,a,b,_,_,_⟩:=z.facts;rw[kL];clear Q R ae ab lL t;go_wp2_with fail
 clear S T U M O P c a b;refine(HB.o _).af ?_;rintro e w2 ⟨rfl,u⟩;have nI:=z.aa u z.lt;have rH:=(oW.aa u oW.lt).far3 (g':=w.heap.size+1) al (.bool (aJ q)) (.string (nu q)) (.string (de q));have yO:=(Z.aa u Z.lt).far3 (g':=w.heap.size+1) al (.bool (aJ q)) (.string (nu q)) (.string (de q));have cj:=bL (ad.trans (u.af ad.size)) (g:=w.heap.size+1) al (.bool (aJ q)) (.string (nu q)) (.string (de q));have ur:=nI.put (aJ q) (nu q) (de q);obtain⟨S,T,U,M,O,P⟩:=nI.facts;have ht:Nx w _ p q false ⟨#[]⟩ ⟨#[]⟩:=⟨rH,ur,yO,cj⟩;obtain⟨c,a,b,_,_,_⟩:=rH.facts;obtain⟨i,j,k,_,_,_⟩:=ur.facts;rw[kL];clear oW z Z ad nI rH yO cj ur u HA HB;go_wp2_with fail
 refine(BD.o _).af ?_;rintro e w3 ⟨rfl,aj⟩;clear c a b i j k S T U M O P;have A:=ht.step aj;clear ht aj BD;obtain⟨c,a,b,_,_,_⟩:=A.1.facts;obtain⟨i,j,k,_,_,_⟩:=A.2.1.facts;go_wp2_with fail
 refine(Ii.o _).af ?_;rintro e w4 ⟨rfl,ak⟩;clear c a b i j k;have F:=A.step ak;clear A ak Ii;obtain⟨c,a,b,_,_,_⟩:=F.1.facts;obtain⟨i,j,k,_,_,_⟩:=F.2.1.facts;go_wp2_with fail
 refine(Oh.o _).af ?_;rintro e w5 ⟨rfl,an⟩;clear c a b i j k;have L:=F.step an;clear F an Oh;obtain⟨c,a,b,_,_,_⟩:=L.1.facts;obtain⟨i,j,k,_,_,_⟩:=L.2.1.facts;by_cases n:aJ p=aJ q
 focus
  have H:=aD (HS.o n);have eN:(aJ p==aJ q)=true:=by simp[n]
  have dK:decide (aJ p=aJ q)=true:=cY n;have ai:=aD (fun V=>abP (B X) (B Y) V al al);rw[bS,bS] at ai;have HN:=aD n;clear n;go_wp2_with fail
  refine(ai.o _).af ?_;rintro e w6 ⟨rfl,E⟩;clear c a b i j k;have J:=L.step E;obtain⟨c,a,b,_,_,_⟩:=J.1.facts;go_wp2_with fail
  refine(Lx (aJ p) (B (X+Y)) (B D) _ al al).af ?_
 rotate_left
 focus
  have eN:(aJ p==aJ q)=false:=by simp[n]
  have dK:decide (aJ p=aJ q)=false:=cK n;by_cases m:Y<=X
  focus
   have H:=aD (HG.o n m);have s:=aD (fun V=>Ua (B X) (B Y) V al al (by rw[bS,bS];exact m));rw[bS,bS] at s;go_wp2_with fail
   refine(s.o _).af ?_;rintro e w6 ⟨rfl,E⟩;clear c a b i j k;have J:=L.step E;obtain⟨c,a,b,_,_,_⟩:=J.1.facts;go_wp2_with fail
   refine(Lx (aJ p) (B (X - Y)) (B D) _ al al).af ?_
  rotate_left
  ·have H:=aD (HL.o n al);have Dm:=aD (fun V=>abC (B X) (B Y) V al al (by rw[bS,bS];omega));have s:=aD (fun V=>Ua (B Y) (B X) V al al (by rw[bS,bS];omega));rw[bS,bS] at s;go_wp2_with fail
   refine(Dm.o _).af ?_;rintro e w6 ⟨rfl,E⟩;clear c a b i j k;have J:=L.step E;go_wp2_with fail
   refine(s.o _).af ?_;rintro e w7 ⟨rfl,K⟩;have v:=J.step K;obtain⟨c,a,b,_,_,_⟩:=v.2.1.facts;go_wp2_with fail
   refine(Lx (aJ q) (B (Y - X)) (B D) _ al al).af ?_;rintro e w8 ⟨rfl,jo⟩;have I:=v.step jo;obtain⟨g0,g1,g2,i0,i1,i2⟩:=I.2.2.1.facts;rw[H.o,kL];go_wp2;refine bD ((I.2.2.1.put _ _ _).result rfl _ rfl) rfl ?_;exact⟨rfl,bL I.2.2.2 al _ _ _⟩
 all_goals
  rintro e w7 ⟨rfl,K⟩;have v:=J.step K;obtain⟨g0,g1,g2,i0,i1,i2⟩:=v.2.2.1.facts;rw[H.o,kL];go_wp2;refine bD ((v.2.2.1.put _ _ _).result rfl _ rfl) rfl ?_;exact⟨rfl,bL v.2.2.2 al _ _ _⟩
end Go.Proofs.YtfhdoommfenijaaGreatDoor
