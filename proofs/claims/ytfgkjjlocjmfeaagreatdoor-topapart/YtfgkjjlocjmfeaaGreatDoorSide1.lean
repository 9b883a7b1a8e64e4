/- Part1: part 1. -/
import Derived.Test.YtfgkjjlocjmfeaaGreatDoorTerms
set_option maxRecDepth 100000
set_option maxHeartbeats 400000000
set_option linter.unusedSimpArgs false
set_option linter.unusedVariables false
namespace Go.Proofs.YtfgkjjlocjmfeaaGreatDoor
variable {rs:List Nat} {i:Nat} {oi:Oper}
theorem gE:(∀(α:Type) (xs:List α) (i:Nat) (h:i<xs.toArray.size),xs.toArray[i]=xs[i]'(by simpa using h))/\(∀(α:Type) (a:α) (ys:List α) (h:0<(a::ys).length),(a::ys)[0]=a)/\(∀(α:Type) (a:α) (ys:List α) (i:Nat) (h:i+1<(a::ys).length),(a::ys)[i+1]=ys[i]'(by simpa using h)):=⟨fun _ _ _ _=>rfl,fun _ _ _ _=>rfl,fun _ _ _ _ _=>rfl⟩
theorem aP:(∀(a:Act) (k:Nat) (v:Value),a.put k v= {a with tmps:=a.tmps.setIfInBounds k v})/\(∀(α:Type) (xs:List α) (i:Nat) (a:α),xs.toArray.setIfInBounds i a=(xs.set i a).toArray)/\(∀(α:Type) (x a:α) (ys:List α),(x::ys).set 0 a=a::ys)/\(∀(α:Type) (x a:α) (ys:List α) (i:Nat),(x::ys).set (i+1) a=x::ys.set i a):=⟨fun _ _ _=>rfl,fun _ _ _ _=>by simp,fun _ _ _ _=>rfl,fun _ _ _ _ _=>rfl⟩
section
variable {P : Program} {ops : Array Oper} {Q : Exit -> Act -> World -> Prop} {md : Region.Mode} {S : World -> Prop} {n : Nat} {l : Array Bool} {a : Act} {w : World}
theorem dm (i:Nat) (v:Value) (h:∀u,S u ->(execOp a.eval oi).run P u=.ok (.value v) u) (k:wpAnyH P md ops Q S n (l.setIfInBounds i true) (a.put oi.dst v) w)
  (hi:ops[i]? =some oi:=by rfl) (hs:Region.noSelect ops=true:=by kernel_rfl) (hf:Region.free md ops l i=true:=by kernel_rfl) (hr:(Region.ready md ops l).contains i=true:=by kernel_rfl)
  (hQ:∀c a w,Q (.panic c) (a.put oi.dst v) w ->Q (.panic c) a w:=by first |exact fun _ _ _ h=>h |exact fun _ _ _ h=>by cases h.1) (hw:Region.wanted oi (yielded ops a.tmps)=true:=by rfl) (hS:S w:=by assumption):wpAnyH P md ops Q S (n+1) l a w:=
 kD hi hs hf hr hQ (Or.inl ⟨hw,h⟩) hS k
theorem ar (i:Nat) (v:Value) (k:wpAnyH P md ops Q S n (l.setIfInBounds i true) (a.put oi.dst v) w)
  (hi:ops[i]? =some oi:=by rfl) (h:∀u,S u ->(execOp a.eval oi).run P u=.ok (.value v) u:=by intro u' aS;(try simp only[gE]);(first |obtain⟨s0,s1,s2,s3⟩:=aS |obtain⟨s0,s1,s2⟩:=aS |obtain⟨s0,s1⟩:=aS |skip);go_simp) (hs:Region.noSelect ops=true:=by kernel_rfl) (hf:Region.free md ops l i=true:=by kernel_rfl) (hr:(Region.ready md ops l).contains i=true:=by kernel_rfl)
  (hQ:∀c a w,Q (.panic c) (a.put oi.dst v) w ->Q (.panic c) a w:=by first |exact fun _ _ _ h=>h |exact fun _ _ _ h=>by cases h.1) (hw:Region.wanted oi (yielded ops a.tmps)=true:=by rfl) (hS:S w:=by assumption):wpAnyH P md ops Q S (n+1) l a w:=
 kD hi hs hf hr hQ (Or.inl ⟨hw,h⟩) hS k
theorem cA {o:Oper} (h:∀K':Act ->World ->Prop,Shut (∀a w,S w ->(S w ->wpAnyH P md ops Q S n (l.setIfInBounds i true) a w) ->K' a w) ->if Region.wanted o (yielded ops a.tmps)=true then Oper.wp P o a w K' Q else K' (a.put o.dst undef) w) (hs:AllReadyH P md ops Q S n l a w rs) (ho:ops[i]? =some o:=by rfl):AllReadyH P md ops Q S n l a w (i::rs):=AllReadyH.cons ho h hs
theorem nA:AllReadyH P md ops Q S n l a w []:=aH
theorem aI (rs:List Nat) (h:AllReadyH P md ops Q S n l a w rs) (hr:Region.ready md ops l=rs:=by kernel_rfl) (hne:rs≠[]:=by simp):wpAnyH P md ops Q S (n+1) l a w:=wpAnyH_ready hr hne h
end
open Go.RowKit
variable {l:List Int} {a:Option Addr} {w w':World}
theorem hid {p:Prop} (h:p):Hid p:=h
def aC (w:World) (a:Option Addr) (l:List Int):Prop:=∀k (h:k<l.length),∃g o,a=some ⟨g,o,none⟩/\g<w.heap.size/\w.cell? ⟨g,o+k,none⟩=some (.int .i64 l[k])
theorem aC.aa (h:aC w a l) (hb:Below w.heap.size w w'):aC w' a l:=fun k hk=>by
 obtain⟨g,o,h1,h2,h3⟩:=h k hk;exact⟨g,o,h1,aR h2 hb.size,(hb.cell (p:=⟨g,_,none⟩) h2).trans h3⟩
theorem JN {B:Nat} {a b:World} (h:Below B a b) (k:Nat):Below B a (b.drewN k):=⟨h.os,h.tape,h.output,h.size,h.block⟩
def oO (k:Int) (l:List Int):Bool:=l.any (·==k)
theorem aiq {k:Int} (h:i<l.length):oO k (l.take (i+1))=(oO k (l.take i) ||l[i]==k):=by
 rw[gh h,oO,oO,List.any_append];simp
theorem ais {k:Int} (h:i<l.length) (e:l[i]=k):oO k l=true:=by
 rw[oO,Ai];exact⟨l[i],bY h,by simp[e]⟩
theorem afn (k:Int) (a:Option Addr) (cap:Nat) (l:List Int) (w:World) (h:aC w a l) (hn:l.length<=140737488355328):
  Calls Tryz.prog 65 #[.int .i64 k,.slice a l.length cap] w fun e w'=>e=.returned (.bool (oO k l))/\w'=w:=by
 have HF:=hid h;clear h;go_enter Tryz.func65,Tryz.ntmps65;go_wp2_with fail
 go_loop [5] (fun iv=>∃i:Nat,i<=l.length/\iv=.int .i64 i/\Hid (oO k (l.take i)=false)) (fun iv=>l.length - (intOf iv).toNat)
 case atStart=>exact⟨0,aX _,rfl,rfl⟩
 case round=>
  obtain⟨i,hi,rfl,HI⟩:=hrel;by_cases hlt:i<l.length
  ·obtain⟨g,o,rfl,hg,c0⟩:=HF.o i hlt;by_cases e:l[i]=k
   ·have HE:=hid (ais hlt e);go_wp2;go_ret;exact⟨by rw[HE.o];rfl,rfl⟩
   ·have HS:Hid (oO k (l.take (i+1))=false):=by show _=_;rw[aiq hlt,HI.o];simp[e]
    (have eb:(l[i]==k)=false:=by simp[e]);generalize l[i]=x at *;go_wp2;go_round
    case rel=>exact⟨i+1,by omega,by go_num,HS.o⟩
    case measure=>simp[intOf];omega
  ·have HE:Hid (oO k l=false):=by
    show _=_;have:=HI.o;rwa [jF (by omega)] at this
   go_wp2;go_ret;exact⟨by rw[HE.o];rfl,rfl⟩
def yH (x:Int):Bool:=decide (1<=x/\x<=4)
def lK (l:List Int):Bool:=decide (1<=l.length/\l.length<=8)&&l.all yH
theorem acp {p:Int ->Bool} (h:i<l.length) (e:p l[i]=false):l.all p=false:=by
 rw[Hg];exact⟨l[i],bY h,by rw[e];decide⟩
theorem aco {p:Int ->Bool} (h:i<l.length) (h0:(l.take i).all p=true) (e:p l[i]=true):(l.take (i+1)).all p=true:=by
 rw[gh h,List.all_append,h0];simp[e]
theorem afp (a:Option Addr) (cap:Nat) (l:List Int) (w:World) (h:aC w a l) (hn:l.length<=140737488355328):
  Calls Tryz.prog 112 #[.slice a l.length cap] w fun e w'=>e=.returned (.bool (lK l))/\Below w.heap.size w w':=by
 have HF:=hid h;clear h;by_cases hl:1<=l.length/\l.length<=8
 ·have HB:Hid (lK l=l.all yH):=by show _=_;rw[lK,bT hl];rfl
  obtain⟨iJ,hl2⟩:=hl;generalize lK l=fb at *;go_enter Tryz.func112,Tryz.ntmps112;go_wp2_with fail
  go_loopw [3] (fun iv wr=>∃i:Nat,i<=l.length/\iv=.int .i64 i/\Hid ((l.take i).all yH=true)/\Below w.heap.size w wr) (fun iv _=>l.length - (intOf iv).toNat)
  case atStart=>exact⟨0,aX _,rfl,rfl,aw _ _⟩
  case round=>
   obtain⟨i,hi,rfl,HI,hB⟩:=hrel;by_cases hlt:i<l.length
   ·obtain⟨g,o,rfl,hg,c0⟩:=(HF.o.aa hB) i hlt;by_cases e:1<=l[i]/\l[i]<=4
    ·have HS:=hid (aco hlt HI.o (p:=yH) (bT e));obtain⟨e1,e2⟩:=e;generalize l[i]=x at *;go_wp2;go_roundw
     case rel=>exact⟨i+1,by omega,by go_num,HS.o,hB⟩
     case measure=>simp[intOf];omega
    ·have HE:Hid (fb=false):=by show _=_;rw[HB.o];exact acp hlt (cj e)
     rcases (show l[i]<1∨(1<=l[i]/\4<l[i]) by omega) with h3 |⟨h3,h4⟩
     all_goals
      clear e;generalize l[i]=x at *;go_wp2;go_ret;exact⟨by rw[HE.o];rfl,hB⟩
   ·have HE:Hid (fb=true):=by
     show _=_;rw[HB.o];have:=HI.o;rwa [jF (by omega)] at this
    go_wp2;go_ret;exact⟨by rw[HE.o];rfl,hB⟩
 ·have HE:Hid (lK l=false):=by show _=_;rw[lK,cj hl];rfl
  generalize lK l=fb at *;go_enter Tryz.func112,Tryz.ntmps112;rcases (show l.length<1∨(1<=l.length/\8<l.length) by omega) with h3 |⟨h3,h4⟩
  all_goals
   go_wp2;go_ret;exact⟨by rw[HE.o];rfl,aw _ _⟩
def kd (l:List Int) (n:Int) (i:Nat):Bool:=decide (0<=l.getD i 0/\l.getD i 0<n/\(0< i ->l.getD (i - 1) 0<l.getD i 0))
def dZ (l:List Int) (n:Int):Bool:=(List.range l.length).all (kd l n)
theorem PK {n:Int} (h:i<l.length) (e:kd l n i=false):dZ l n=false:=by
 rw[dZ,Hg];exact⟨i,ck.2 h,by rw[e];decide⟩
theorem Lj {n:Int} (h0:(List.range i).all (kd l n)=true) (e:kd l n i=true):(List.range (i+1)).all (kd l n)=true:=by
 rw[ud,List.all_append,h0];simp[e]
theorem getD_eq (h:i<l.length):l.getD i 0=l[i]:=by simp[List.getD,h]
theorem afh (a:Option Addr) (cap:Nat) (l:List Int) (n:Int) (w:World) (h:aC w a l) (hn:l.length<=140737488355328):
  Calls Tryz.prog 113 #[.slice a l.length cap,.int .i64 n] w fun e w'=>e=.returned (.bool (dZ l n))/\Below w.heap.size w w':=by
 have HF:=hid h;clear h;have HB:=hid (fun i h e=>PK (l:=l) (n:=n) (i:=i) h e);have HT:Hid ((List.range l.length).all (kd l n)=true ->dZ l n=true):=id;generalize dZ l n=rb at *;go_enter Tryz.func113,Tryz.ntmps113;go_wp2_with fail
 go_loopw [5] (fun iv wr=>∃i:Nat,i<=l.length/\iv=.int .i64 i/\Hid ((List.range i).all (kd l n)=true)/\Below w.heap.size w wr) (fun iv _=>l.length - (intOf iv).toNat)
 case atStart=>exact⟨0,aX _,rfl,rfl,aw _ _⟩
 case round=>
  obtain⟨i,hi,rfl,HI,hB⟩:=hrel;by_cases hlt:i<l.length
  ·obtain⟨g,o,rfl,hg,c0⟩:=(HF.o.aa hB) i hlt;(have HO:Hid (kd l n i=decide (0<=l[i]/\l[i]<n/\(0< i ->l.getD (i - 1) 0<l[i]))):=by show _=_;rw[kd,getD_eq hlt]);by_cases e0:l[i]<0
   ·have HE:Hid (rb=false):=HB.o i hlt (by rw[HO.o];exact cj (by omega));generalize l[i]=x at *;have d0:decide (x<0)=true:=bT e0;go_wp2_with fail
    go_quiet (fail)
    go_wp2;go_ret;exact⟨by rw[HE.o];rfl,JN hB _⟩
   ·by_cases e1:n<=l[i]
    ·have HE:Hid (rb=false):=HB.o i hlt (by rw[HO.o];exact cj (by omega));generalize l[i]=x at *;have d0:decide (x<0)=false:=cj e0;have d1:decide (n<=x)=true:=bT e1;go_wp2_with fail
     go_quiet (fail)
     go_wp2;go_ret;exact⟨by rw[HE.o];rfl,JN hB _⟩
    ·by_cases e2:i=0
     ·have HS:=hid (Lj HI.o (i:=i) (by rw[HO.o];exact bT ⟨by omega,by omega,fun h=>absurd h (by omega)⟩));clear HO;generalize l[i]=x at *;have d0:decide (x<0)=false:=cj e0;have d1:decide (n<=x)=false:=cj e1;have d2:decide (0<i)=false:=cj (by omega);(have e2':¬0<(i:Int):=by omega);have E2:=hid e2;clear e2;go_wp2_with fail
      go_quiet (fail)
      go_wp2;go_roundw
      case rel=>exact⟨i+1,by omega,by go_num,HS.o,JN hB _⟩
      case measure=>simp[intOf];omega
     ·have hip:0<i:=by omega
      obtain⟨g',o',he',gD,c1⟩:=(HF.o.aa hB) (i - 1) (by omega);simp only[Option.some.injEq,Addr.mk.injEq] at he';obtain⟨rfl,rfl, -⟩:=he';have hgd:l.getD (i - 1) 0=l[i - 1]:=getD_eq (by omega);rw[hgd] at HO;(have hix:((i:Int) - 1).toNat=i - 1:=by omega);by_cases e3:l[i]<=l[i - 1]
      ·have HE:Hid (rb=false):=HB.o i hlt (by rw[HO.o];exact cj (fun h=>absurd (h.2.2 hip) (by omega)));clear hgd HO;generalize l[i]=x at *;generalize l[i - 1]=y at *;have d0:decide (x<0)=false:=cj e0;have d1:decide (n<=x)=false:=cj e1;have d2:decide (0<(i:Int))=true:=bT (by omega);have d3:decide (x<=y)=true:=bT e3;go_wp2_with fail
       go_quiet (fail)
       go_wp2;go_ret;exact⟨by rw[HE.o];rfl,JN hB _⟩
      ·have HS:=hid (Lj HI.o (i:=i) (by rw[HO.o];exact bT ⟨by omega,by omega,fun _=>by omega⟩));clear hgd HO;generalize l[i]=x at *;generalize l[i - 1]=y at *;have d0:decide (x<0)=false:=cj e0;have d1:decide (n<=x)=false:=cj e1;have d2:decide (0<(i:Int))=true:=bT (by omega);have d3:decide (x<=y)=false:=cj e3;go_wp2_with fail
       go_quiet (fail)
       go_wp2;go_roundw
       case rel=>exact⟨i+1,by omega,by go_num,HS.o,JN hB _⟩
       case measure=>simp[intOf];omega
  ·obtain rfl:i=l.length:=by omega
   have HE:=hid (HT.o HI.o);go_wp2;go_ret;exact⟨by rw[HE.o];rfl,hB⟩
variable {S vs:List Nat}
def sz (S:List Nat) (v:Nat):Nat:=S[v]?.getD 1
def cnt (S:List Nat):List Nat ->Nat
 |[]=>1
 |v::vs=>sz S v*cnt S vs
theorem alc (S a b:List Nat):cnt S (a++b)=cnt S a*cnt S b:=by
 induction a with
 |nil=>simp[cnt]
 |cons v a ih=>simp only[eC,cnt,ih,ie]
theorem ak9 (S a:List Nat) (v:Nat):cnt S (a++[v])=cnt S a*sz S v:=by rw[alc];simp[cnt]
def Pos (S:List Nat):Prop:=∀x∈S,1<=x
theorem mh (h:Pos S) (v:Nat):1<=sz S v:=by
 rw[sz];cases e:S[v]? with
 |none=>simp
 |some x=>exact h x (OX e)
theorem Nn (h:Pos S) (vs:List Nat):1<=cnt S vs:=by
 induction vs with
 |nil=>exact ak _
 |cons v vs ih=>exact jE (mh h v) ih
def kR (S:List Nat):List Nat ->Nat ->List Nat
 |[],_=>[]
 |_::vs,k=>(k/cnt S vs)::kR S vs (k % cnt S vs)
theorem abG (S vs:List Nat):∀k,(kR S vs k).length=vs.length:=by
 induction vs with
 |nil=>intro _;rfl
 |cons v vs ih=>intro k;simp[kR,ih]
theorem YV (k c s:Nat):k % (s*c)/c=k/c % s:=by
 rw[dC s c,Nat.mod_mul_right_div_self]
theorem YU (k c s:Nat):k % (s*c) % c=k % c:=by
 rw[dC s c,Nat.mod_mul_right_mod]
def a8 (S:List Nat):List Nat ->Nat ->Nat ->Nat
 |[],_,_=>0
 |u::vs,k,v=>if v=u then k/cnt S vs else a8 S vs (k % cnt S vs) v
theorem Gf:∀ {vs:List Nat} {k v:Nat},¬v∈vs ->a8 S vs k v=0
 |[],_,_,_=>rfl
 |u::vs,k,v,h=>by
  rw[a8,aD (fun e=>h (by rw[e];exact c5))];exact Gf fun e=>h (dD _ e)
def cC (S:List Nat):List Nat ->Nat ->Nat
 |[],_=>0
 |u::vs,v=>if v=u then cnt S vs else cC S vs v
theorem Pv:∀ {vs:List Nat} {v:Nat},¬v∈vs ->cC S vs v=0
 |[],_,_=>rfl
 |u::vs,v,h=>by
  rw[cC,aD (fun e=>h (by rw[e];exact c5))];exact Pv fun e=>h (dD _ e)
def pos (S:List Nat) (f:Nat ->Nat) (vs:List Nat):Nat:=vs.foldl (fun k v=>k*sz S v+f v) 0
theorem afJ (S:List Nat) (f:Nat ->Nat) (vs:List Nat) (v:Nat):pos S f (vs++[v])=pos S f vs*sz S v+f v:=by simp[pos]
def eM (g:Nat ->Nat):List Nat ->Nat
 |[]=>0
 |v::vs=>g v+eM g vs
theorem Wl (g:Nat ->Nat) (a b:List Nat):eM g (a++b)=eM g a+eM g b:=by
 induction a with
 |nil=>simp[eM]
 |cons v a ih=>simp only[eC,eM,ih];omega
theorem E6 {g h:Nat ->Nat}:∀ {l:List Nat},(∀v∈l,g v=h v) ->eM g l=eM h l
 |[],_=>rfl
 |v::l,e=>by rw[eM,eM,e v c5,E6 fun u hu=>e u (dD _ hu)]
theorem M8 (S:List Nat) (f:Nat ->Nat):∀(vs:List Nat) (k:Nat),vs.foldl (fun k v=>k*sz S v+f v) k=k*cnt S vs+pos S f vs
 |[],k=>by simp[pos,cnt]
 |v::vs,k=>by
  have e:pos S f (v::vs)=f v*cnt S vs+pos S f vs:=by
   show vs.foldl (fun k v=>k*sz S v+f v) (0*sz S v+f v)=_;rw[M8 S f vs,mQ,bI]
  rw[Ag,M8 S f vs,e,cnt,fC,ie];omega
theorem Lt (S:List Nat) (f:Nat ->Nat):∀ {vs:List Nat},vs.Nodup ->pos S f vs=eM (fun v=>f v*cC S vs v) vs
 |[],_=>rfl
 |u::vs,h=>by
  rw[mR] at h;rw[pos,Ag,M8,eM,Lt S f h.2,mQ,bI];congr 1
  ·rw[cC,aB rfl]
  ·exact E6 fun v hv=>by rw[cC,aD (fun e=>h.1 (by rw[<- e];exact hv))]
theorem Wm (g:Nat ->Nat) (n:Nat):∀ {vs:List Nat},vs.Nodup ->(∀v∈vs,v<n) ->(∀v,¬v∈vs ->g v=0) ->eM g vs=eM g (List.range n):=by
 intro vs hn hlt h0
 have key:∀ {vs:List Nat},vs.Nodup ->(∀v∈vs,v<n) ->eM g vs=eM (fun v=>if v∈vs then g v else 0) (List.range n):=by
  intro vs;induction vs with
  |nil=>
   intro _ _
   have:∀l:List Nat,eM (fun v=>if v∈([]:List Nat) then g v else 0) l=0:=by
    intro l;induction l with
    |nil=>rfl
    |cons x l ih=>rw[eM,ih];simp
   rw[this];rfl
  |cons u vs ih=>
   intro hn hlt;rw[mR] at hn;rw[eM,ih hn.2 fun v hv=>hlt v (dD _ hv)];have hu:=hlt u c5
   have one:∀m,u< m ->eM (fun v=>if v∈u::vs then g v else 0) (List.range m)=g u+eM (fun v=>if v∈vs then g v else 0) (List.range m):=by
    intro m;induction m with
    |zero=>intro h;omega
    |succ m QI=>
     intro h;rw[ud,Wl,Wl];by_cases e:u=m
     ·subst e
      have:eM (fun v=>if v∈u::vs then g v else 0) (List.range u)=eM (fun v=>if v∈vs then g v else 0) (List.range u):=E6 fun v hv=>by
       (have:¬v=u:=by have:=ck.1 hv;omega);simp[this]
      rw[this];simp[eM,hn.1];omega
     ·rw[QI (by omega)];have:¬m=u:=fun h=>e h.symm;simp[eM,this];omega
   rw[one n hu]
 rw[key hn hlt]
 exact E6 fun v _=>by
  by_cases h:v∈vs
  ·rw[aB h]
  ·rw[aD h,h0 v h]
theorem stand {other:List Nat} (n k:Nat) (hv:vs.Nodup) (ho:other.Nodup) (iA:∀v∈vs,v<n) (Db:∀v∈other,v<n):eM (fun v=>a8 S vs k v*cC S other v) vs=pos S (a8 S vs k) other:=by
 rw[Lt S _ ho,Wm _ n hv iA,Wm _ n ho Db]
 ·intro v h;rw[Pv h,j3]
 ·intro v h;rw[Gf h,mQ]
theorem alS (u:Nat) (Hx:List Nat) (k v:Nat):a8 S (u::Hx) (k % cnt S (u::Hx)) v=if v=u then k/cnt S Hx % sz S u else a8 S Hx (k % cnt S Hx) v:=by
 rw[a8,cnt,YV k _ _,YU]
variable {n v:Nat}
def af (l:List Int):List Nat:=l.map Int.toNat
theorem dR (l:List Int):(af l).length=l.length:=by simp[af]
theorem rG (h:i<l.length):(af l)[i]'(by rw[dR];exact h)=l[i].toNat:=by simp[af]
structure eK (l:List Int):Prop where
 one:1<=l.length
 eight:l.length<=8
 each:∀i (h:i<l.length),1<=l[i]/\l[i]<=4
theorem S8 (h:lK l=true):eK l:=by
 rw[lK,fD,dQ] at h
 exact⟨h.1.1,h.1.2,fun i hi=>by
  have:=dN.1 h.2 l[i] (bY hi);simpa [yH] using this⟩
theorem eK.pos (h:eK l):Pos (af l):=by
 intro x hx;obtain⟨i,hi,rfl⟩:=List.mem_iff_getElem.1 hx;rw[dR] at hi;rw[rG hi];have:=h.each i hi;omega
theorem eK.sz_le (h:eK l) (v:Nat):sz (af l) v<=4:=by
 rw[sz];by_cases hv:v<l.length
 ·rw[ba (by rw[dR];exact hv),yf,rG hv];have:=h.each v hv;omega
 ·rw[ig (by rw[dR];omega)];simp
theorem eK.sz_eq (h:eK l) (hv:v<l.length):(sz (af l) v:Int)=l[v]:=by
 rw[sz,ba (by rw[dR];exact hv),yf,rG hv];have:=h.each v hv;omega
structure Up (l:List Int) (n:Nat):Prop where
 each:∀i (h:i<l.length),0<=l[i]/\l[i]<n
 lt:∀i j (hj:j<l.length) (hi:i<j),l[i]<l[j]
theorem kK (h:dZ l n=true):Up l n:=by
 have aV:∀i (hi:i<l.length),0<=l[i]/\l[i]<(n:Int)/\(0< i ->l.getD (i - 1) 0<l[i]):=fun i hi=>by
  have:=dN.1 h i (ck.2 hi);rw[kd,dQ,getD_eq hi] at this;exact this
 refine⟨fun i hi=>⟨(aV i hi).1,(aV i hi).2.1⟩,?_⟩;intro i j;induction j with
 |zero=>intro _ h;omega
 |succ j ih=>
  intro hj hi;have h1:=(aV (j+1) hj).2.2 (by omega);rw[KR,getD_eq (by omega)] at h1;rcases cM i j with h2 |h2
  ·have:=ih (by omega) h2;omega
  ·obtain rfl:i=j:=by omega
   exact h1
theorem Up.nat (h:Up l n) (hi:i<l.length):((l[i].toNat:Nat):Int)=l[i]/\l[i].toNat<n:=by
 have:=h.each i hi;constructor<;>omega
theorem Up.aa (h:Up l n):∀v∈af l,v<n:=by
 intro v hv;obtain⟨i,hi,rfl⟩:=List.mem_iff_getElem.1 hv;rw[dR] at hi;rw[rG hi];exact(h.nat hi).2
theorem Up.nodup (h:Up l n):(af l).Nodup:=by
 rw[List.Nodup,vS];intro i j hi hj oT;rw[dR] at hi hj;rw[rG hi,rG hj];have h1:=h.lt i j hj oT;have h2:=h.each i hi;omega
theorem Up.ge (h:Up l n):∀i (hi:i<l.length),(i:Int)<=l[i]:=by
 intro i;induction i with
 |zero=>intro hi;exact(h.each 0 hi).1
 |succ i ih=>
  intro hi;have:=ih (by omega);have:=h.lt i (i+1) hi (by omega);omega
theorem Up.length (h:Up l n):l.length<=n:=by
 rcases ub l.length with h0 |h0
 ·omega
 ·have h1:=h.ge (l.length - 1) (by omega);have h2:=(h.each (l.length - 1) (by omega)).2;omega
theorem abN (h:∀v,sz S v<=4):∀vs:List Nat,cnt S vs<=4^vs.length
 |[]=>ak _
 |v::vs=>by
  rw[cnt,di,gS,dC (4^_)];exact jE (h v) (abN h vs)
theorem rY (h:∀v,sz S v<=4) (hv:vs.length<=8):cnt S vs<=65536:=by
 have h1:=abN h vs;have h2:4^vs.length<=4^8:=jf (by decide) hv;have h3:(4:Nat)^8=65536:=by decide
 omega
theorem abM (S vs:List Nat) (h:i<vs.length):cnt S (vs.take (i+1))=cnt S (vs.take i)*sz S vs[i]:=by
 rw[gh h,ak9]
def countB (sizes vars:List Int):Bool:=lK sizes&&dZ vars sizes.length
def tH (sizes vars:List Int):Int×Int:=if countB sizes vars=true then(((cnt (af sizes) (af vars):Nat):Int),0) else(0,11)
theorem Gc {sizes vars:List Int} (h:countB sizes vars=true):tH sizes vars=(((cnt (af sizes) (af vars):Nat):Int),0):=aB h
theorem JJ {sizes vars:List Int} (h:countB sizes vars=false):tH sizes vars=(0,11):=aD (by rw[h];decide)
theorem afv (a b:Option Addr) (ca cb:Nat) (sizes vars:List Int) (w:World) (hs:aC w a sizes) (hv:aC w b vars) (hn:sizes.length<=140737488355328) (hm:vars.length<=140737488355328):
  Calls Tryz.prog 55 #[.slice a sizes.length ca,.slice b vars.length cb] w fun e w'=>e=.returned (.tuple #[.int .i64 (tH sizes vars).1,.int .i64 (tH sizes vars).2])/\Below w.heap.size w w':=by
 have HS:=hid hs;have HV:=hid hv;clear hs hv;have vI:=hid (fun V h=>afp a ca sizes V h hn);have xH:=hid (fun V h=>afh b cb vars sizes.length V h hm);cases hf:lK sizes with
 |false=>
  have HA:=hid (JJ (sizes:=sizes) (vars:=vars) (by rw[countB,hf];rfl));rw[hf] at vI;generalize tH sizes vars=r at *;generalize dZ vars sizes.length=rb at *;go_enter Tryz.func55,Tryz.ntmps55;go_wp2_with fail
  refine(vI.o _ HS.o).ae ?_;rintro e w1 ⟨rfl,hb1⟩;go_wp2_with fail
  refine(xH.o _ (HV.o.aa hb1)).ae ?_;rintro e w2 ⟨rfl,hb2⟩;have hB2:=hb1.trans (hb2.ae hb1.size);go_wp2;go_ret2;exact⟨by rw[HA.o];rfl,hB2⟩
 |true=>
  rw[hf] at vI;cases hr:dZ vars sizes.length with
  |false=>
   have HA:=hid (JJ (sizes:=sizes) (vars:=vars) (by rw[countB,hr,Bool.and_false]));rw[hr] at xH;generalize tH sizes vars=r at *;go_enter Tryz.func55,Tryz.ntmps55;go_wp2_with fail
   refine(vI.o _ HS.o).ae ?_;rintro e w1 ⟨rfl,hb1⟩;go_wp2_with fail
   refine(xH.o _ (HV.o.aa hb1)).ae ?_;rintro e w2 ⟨rfl,hb2⟩;have hB2:=hb1.trans (hb2.ae hb1.size);go_wp2;go_ret2;exact⟨by rw[HA.o];rfl,hB2⟩
  |true=>
   have HA:=hid (Gc (sizes:=sizes) (vars:=vars) (by rw[countB,hf,hr];rfl));rw[hr] at xH;have RG:=S8 hf;have aT:=kK hr;have pI:=RG.eight;have iA:=aT.length;have cU:=hid RG;have kz:=hid aT;clear hf hr RG aT;generalize tH sizes vars=r at *;go_enter Tryz.func55,Tryz.ntmps55;go_wp2_with fail
   refine(vI.o _ HS.o).ae ?_;rintro e w1 ⟨rfl,hb1⟩;go_wp2_with fail
   refine(xH.o _ (HV.o.aa hb1)).ae ?_;rintro e w2 ⟨rfl,hb2⟩;have hB2:=hb1.trans (hb2.ae hb1.size);clear hb1 hb2;go_wp2_with fail
   go_loopw [8,9] (fun nv iv wr=>∃i:Nat,i<=vars.length/\iv=.int .i64 i/\nv=.int .i64 (cnt (af sizes) ((af vars).take i):Nat)/\Below w.heap.size w wr) (fun _ iv _=>vars.length - (intOf iv).toNat)
   case atStart=>exact⟨0,aX _,rfl,rfl,hB2⟩
   case round=>
    obtain⟨i,hi,rfl,rfl,hB⟩:=hrel;by_cases hlt:i<vars.length
    ·obtain⟨g,o,rfl,hg,c0⟩:=(HV.o.aa hB) i hlt;obtain⟨jq,jN⟩:=kz.o.nat hlt
     have hst:cnt (af sizes) ((af vars).take (i+1))=cnt (af sizes) ((af vars).take i)*sz (af sizes) vars[i].toNat:=by
      rw[abM _ _ (by rw[dR];exact hlt),rG hlt]
     have hsm:cnt (af sizes) ((af vars).take (i+1))<=65536:=rY cU.o.sz_le (by rw[eB,dR];omega);generalize hV:vars[i].toNat=v at *;rw[<- jq] at c0;obtain⟨g',o',rfl,gD,c1⟩:=(HS.o.aa hB) v jN;rw[<- cU.o.sz_eq jN] at c1;rw[hst] at hsm;have jr:((cnt (af sizes) ((af vars).take i):Nat):Int)*((sz (af sizes) v:Nat):Int)=((cnt (af sizes) ((af vars).take i)*sz (af sizes) v:Nat):Int):=(j6 _ _).symm;have HST:=hid hst;clear hst jq hV;generalize cnt (af sizes) ((af vars).take i)=X at *;generalize sz (af sizes) v=Y at *;(have AW:0<=(X:Int)*(Y:Int):=by rw[jr];omega);(have FP:(X:Int)*(Y:Int)<=65536:=by rw[jr];omega);have xK:=hid jr;clear jr;go_wp2;go_roundw
     case rel=>exact⟨i+1,by omega,by go_num,by rw[HST.o, <- xK.o],hB⟩
     case measure=>simp[intOf];omega
    ·obtain rfl:i=vars.length:=by omega
     rw[jF (by rw[dR];exact ak _)];go_wp2;go_ret2;exact⟨by rw[HA.o];rfl,hB⟩
theorem Bz {l:List Nat} (h:i<l.length):l.getD i 0=l[i]:=by simp[List.getD,h]
theorem Tg {sizes vars:List Int} (h:countB sizes vars=true):eK sizes/\Up vars sizes.length:=by
 rw[countB,fD] at h;exact⟨S8 h.1,kK h.2⟩
theorem ahR (a:Option Addr) (cap:Nat) (l:List Int) (w:World) (h:aC w a l) (hn:l.length<=140737488355328):
  Calls Tryz.prog 80 #[.slice a l.length cap] w fun e w'=>e=.returned (.bool (lK l))/\Below w.heap.size w w':=by
 have HF:=hid h;clear h;by_cases hl:1<=l.length/\l.length<=8
 ·have HB:Hid (lK l=l.all yH):=by show _=_;rw[lK,bT hl];rfl
  obtain⟨iJ,hl2⟩:=hl;generalize lK l=fb at *;go_enter Tryz.func80,Tryz.ntmps80;go_wp2_with fail
  go_loopw [15] (fun iv wr=>∃i:Nat,i<=l.length/\iv=.int .i64 i/\Hid ((l.take i).all yH=true)/\Below w.heap.size w wr) (fun iv _=>l.length - (intOf iv).toNat)
  case atStart=>exact⟨0,aX _,rfl,rfl,aw _ _⟩
  case round=>
   obtain⟨i,hi,rfl,HI,hB⟩:=hrel;by_cases hlt:i<l.length
   ·obtain⟨g,o,rfl,hg,c0⟩:=(HF.o.aa hB) i hlt;by_cases e:1<=l[i]/\l[i]<=4
    ·have HS:=hid (aco hlt HI.o (p:=yH) (bT e));obtain⟨e1,e2⟩:=e;generalize l[i]=x at *;go_wp2;go_roundw
     case rel=>exact⟨i+1,by omega,by go_num,HS.o,hB⟩
     case measure=>simp[intOf];omega
    ·have HE:Hid (fb=false):=by show _=_;rw[HB.o];exact acp hlt (cj e)
     rcases (show l[i]<1∨(1<=l[i]/\4<l[i]) by omega) with h3 |⟨h3,h4⟩
     all_goals
      clear e;generalize l[i]=x at *;go_wp2;go_ret;exact⟨by rw[HE.o];rfl,hB⟩
   ·have HE:Hid (fb=true):=by
     show _=_;rw[HB.o];have:=HI.o;rwa [jF (by omega)] at this
    go_wp2;go_ret;exact⟨by rw[HE.o];rfl,hB⟩
 ·have HE:Hid (lK l=false):=by show _=_;rw[lK,cj hl];rfl
  generalize lK l=fb at *;go_enter Tryz.func80,Tryz.ntmps80;rcases (show l.length<1∨(1<=l.length/\8<l.length) by omega) with h3 |⟨h3,h4⟩
  all_goals
   go_wp2;go_ret;exact⟨by rw[HE.o];rfl,aw _ _⟩
def least (l:List Int) (i:Nat):Int:=if i=0 then 0 else l.getD (i - 1) 0+1
theorem Zo (h:i<l.length):least l (i+1)=l[i]+1:=by
 rw[least,aD (by omega),KR,getD_eq h]
theorem Yl {n:Int} (hi:i<l.length) (h:(List.range i).all (kd l n)=true):kd l n i=decide (least l i<=l[i]/\l[i]<n)/\0<=least l i:=by
 rw[kd,getD_eq hi,least];by_cases h0:i=0
 ·subst h0;refine⟨?_,by simp⟩;simp
 ·have hp:=dN.1 h (i - 1) (ck.2 (by omega));rw[kd,dQ,getD_eq (by omega)] at hp;rw[aD h0,getD_eq (by omega)];refine⟨?_,by omega⟩;rw[zX];constructor
  ·intro ⟨_,h2,h3⟩;have:=h3 (by omega);exact⟨by omega,h2⟩
  ·intro ⟨h1,h2⟩;exact⟨by omega,h2,fun _=>by omega⟩
theorem ae2 (a:Option Addr) (cap:Nat) (l:List Int) (n:Int) (w:World) (h:aC w a l) (hn:l.length<=140737488355328) (uz:n<=140737488355328):
  Calls Tryz.prog 81 #[.slice a l.length cap,.int .i64 n] w fun e w'=>e=.returned (.bool (dZ l n))/\Below w.heap.size w w':=by
 have HF:=hid h;clear h;have HB:=hid (fun i h e=>PK (l:=l) (n:=n) (i:=i) h e);have HT:Hid ((List.range l.length).all (kd l n)=true ->dZ l n=true):=id;generalize dZ l n=rb at *;go_enter Tryz.func81,Tryz.ntmps81;go_wp2_with fail
 go_loopw [5,10] (fun lv iv wr=>∃i:Nat,i<=l.length/\iv=.int .i64 i/\lv=.int .i64 (least l i)/\Hid ((List.range i).all (kd l n)=true)/\Below w.heap.size w wr) (fun _ iv _=>l.length - (intOf iv).toNat)
 case atStart=>exact⟨0,aX _,rfl,rfl,rfl,aw _ _⟩
 case round=>
  obtain⟨i,hi,rfl,rfl,HI,hB⟩:=hrel;by_cases hlt:i<l.length
  ·obtain⟨g,o,rfl,hg,c0⟩:=(HF.o.aa hB) i hlt;obtain⟨aV,hl0⟩:=Yl hlt HI.o;have ow:=hid (Zo hlt);have xL:=hid aV;clear aV;generalize least l i=m at *;generalize l[i]=x at *;by_cases e:m<=x/\x<n
   ·have HS:=hid (Lj HI.o (by rw[xL.o];exact bT e));obtain⟨e1,e2⟩:=e;go_wp2;go_roundw
    case rel=>exact⟨i+1,by omega,by go_num,by rw[ow.o],HS.o,hB⟩
    case measure=>simp[intOf];omega
   ·have HE:=hid (HB.o i hlt (by rw[xL.o];exact cj e));rcases (show x<m∨(m<=x/\n<=x) by omega) with h3 |⟨h3,h4⟩
    all_goals
     clear e;go_wp2;go_ret;exact⟨by rw[HE.o];rfl,hB⟩
  ·obtain rfl:i=l.length:=by omega
   have HE:=hid (HT.o HI.o);go_wp2;go_ret;exact⟨by rw[HE.o];rfl,hB⟩
theorem abJ (a b:Option Addr) (ca cb:Nat) (sizes vars:List Int) (w:World) (hs:aC w a sizes) (hv:aC w b vars) (aN:eK sizes) (aT:Up vars sizes.length):
  Calls Tryz.prog 82 #[.slice a sizes.length ca,.slice b vars.length cb] w fun e w'=>e=.returned (.int .i64 (cnt (af sizes) (af vars):Nat))/\Below w.heap.size w w':=by
 have HS:=hid hs;have HV:=hid hv;have pI:=aN.eight;have iA:=aT.length;have cU:=hid aN;have kz:=hid aT;clear hs hv aN aT;have Kw:Hid (cnt (af sizes) ((af vars).take vars.length)=cnt (af sizes) (af vars)):=by show _=_;rw[jF (by rw[dR];exact ak _)]
 go_enter Tryz.func82,Tryz.ntmps82;go_wp2_with fail
 go_loopw [5,10] (fun nv iv wr=>∃i:Nat,i<=vars.length/\iv=.int .i64 i/\nv=.int .i64 (cnt (af sizes) ((af vars).take i):Nat)/\Below w.heap.size w wr) (fun _ iv _=>vars.length - (intOf iv).toNat)
 case atStart=>exact⟨0,aX _,rfl,rfl,aw _ _⟩
 case round=>
  obtain⟨i,hi,rfl,rfl,hB⟩:=hrel;by_cases hlt:i<vars.length
  ·obtain⟨g,o,rfl,hg,c0⟩:=(HV.o.aa hB) i hlt;obtain⟨jq,jN⟩:=kz.o.nat hlt
   have hst:cnt (af sizes) ((af vars).take (i+1))=cnt (af sizes) ((af vars).take i)*sz (af sizes) vars[i].toNat:=by
    rw[abM _ _ (by rw[dR];exact hlt),rG hlt]
   have hsm:cnt (af sizes) ((af vars).take (i+1))<=65536:=rY cU.o.sz_le (by rw[eB,dR];omega);generalize hV:vars[i].toNat=v at *;rw[<- jq] at c0;obtain⟨g',o',rfl,gD,c1⟩:=(HS.o.aa hB) v jN;rw[<- cU.o.sz_eq jN] at c1;rw[hst] at hsm;have jr:((cnt (af sizes) ((af vars).take i):Nat):Int)*((sz (af sizes) v:Nat):Int)=((cnt (af sizes) ((af vars).take i)*sz (af sizes) v:Nat):Int):=(j6 _ _).symm;have HST:=hid hst;clear hst jq hV;generalize cnt (af sizes) ((af vars).take i)=X at *;generalize sz (af sizes) v=Y at *;(have AW:0<=(X:Int)*(Y:Int):=by rw[jr];omega);(have FP:(X:Int)*(Y:Int)<=65536:=by rw[jr];omega);have xK:=hid jr;clear jr;go_wp2;go_roundw
   case rel=>exact⟨i+1,by omega,by go_num,by rw[HST.o, <- xK.o],hB⟩
   case measure=>simp[intOf];omega
  ·obtain rfl:i=vars.length:=by omega
   rw[Kw.o];go_wp2;go_ret;exact⟨rfl,hB⟩
theorem Po (a b:Option Addr) (ca cb:Nat) (sizes vars:List Int) (w:World) (hs:aC w a sizes) (hv:aC w b vars) (hn:sizes.length<=140737488355328) (hm:vars.length<=140737488355328):
  Calls Tryz.prog 37 #[.slice a sizes.length ca,.slice b vars.length cb] w fun e w'=>e=.returned (.tuple #[.int .i64 (tH sizes vars).1,.int .i64 (tH sizes vars).2])/\Below w.heap.size w w':=by
 have HS:=hid hs;have HV:=hid hv;clear hs hv;have vI:=hid (fun V h=>ahR a ca sizes V h hn);have xH:=hid (fun V h=>ae2 b cb vars sizes.length V h hm (by omega));cases hf:lK sizes with
 |false=>
  have HA:=hid (JJ (sizes:=sizes) (vars:=vars) (by rw[countB,hf];rfl));rw[hf] at vI;generalize tH sizes vars=r at *;go_enter Tryz.func37,Tryz.ntmps37;go_wp2_with fail
  refine(vI.o _ HS.o).ae ?_;rintro e w1 ⟨rfl,hb1⟩;go_wp2;go_ret2;exact⟨by rw[HA.o];rfl,hb1⟩
 |true=>
  rw[hf] at vI;cases hr:dZ vars sizes.length with
  |false=>
   have HA:=hid (JJ (sizes:=sizes) (vars:=vars) (by rw[countB,hr,Bool.and_false]));rw[hr] at xH;generalize tH sizes vars=r at *;go_enter Tryz.func37,Tryz.ntmps37;go_wp2_with fail
   refine(vI.o _ HS.o).ae ?_;rintro e w1 ⟨rfl,hb1⟩;go_wp2_with fail
   refine(xH.o _ (HV.o.aa hb1)).ae ?_;rintro e w2 ⟨rfl,hb2⟩;have hB2:=hb1.trans (hb2.ae hb1.size);go_wp2;go_ret2;exact⟨by rw[HA.o];rfl,hB2⟩
  |true=>
   have HA:=hid (Gc (sizes:=sizes) (vars:=vars) (by rw[countB,hf,hr];rfl));rw[hr] at xH;have vK:=hid (fun V h1 h2=>abJ a b ca cb sizes vars V h1 h2 (S8 hf) (kK hr));generalize tH sizes vars=r at *;go_enter Tryz.func37,Tryz.ntmps37;go_wp2_with fail
   refine(vI.o _ HS.o).ae ?_;rintro e w1 ⟨rfl,hb1⟩;go_wp2_with fail
   refine(xH.o _ (HV.o.aa hb1)).ae ?_;rintro e w2 ⟨rfl,hb2⟩;have hB2:=hb1.trans (hb2.ae hb1.size);go_wp2_with fail
   refine(vK.o _ (HS.o.aa hB2) (HV.o.aa hB2)).ae ?_;rintro e w3 ⟨rfl,hb3⟩;go_wp2;go_ret2;exact⟨by rw[HA.o];rfl,hB2.trans (hb3.ae hB2.size)⟩
theorem aik (a:Option Addr) (ca:Nat) (sizes:List Int) (v:Nat) (x:Int) (w:World) (hs:aC w a sizes) (aN:eK sizes) (hv:v<sizes.length):
  Calls Tryz.prog 154 #[.slice a sizes.length ca,.int .i64 (v:Nat),.int .i64 x] w fun e w'=>e=.returned (.bool (decide (0<=x/\x<(sz (af sizes) v:Int))))/\Below w.heap.size w w':=by
 obtain⟨g,o,rfl,hg,c0⟩:=hs v hv;rw[<- aN.sz_eq hv] at c0;have pI:=aN.eight;generalize sz (af sizes) v=Y at *;by_cases e:0<=x/\x<(Y:Int)
 ·rw[bT e];obtain⟨e1,e2⟩:=e;go_enter Tryz.func154,Tryz.ntmps154;go_wp2;go_ret;exact⟨rfl,aw _ _⟩
 ·rw[cj e];rcases (show x<0∨(0<=x/\(Y:Int)<=x) by omega) with h3 |⟨h3,h4⟩
  all_goals
   clear e;go_enter Tryz.func154,Tryz.ntmps154;go_wp2;go_ret
   first
    |exact⟨rfl,aw _ _⟩
    |exact⟨dt (fun b=>Ending.returned (Value.bool b)) (cj (by omega)),aw _ _⟩
def aA:List Nat ->Nat
 |[]=>0
 |v::l=>aA l |||2^v
theorem mo (l:List Nat) (v:Nat):(aA l).testBit v=decide (v∈l):=by
 induction l with
 |nil=>simp[aA]
 |cons u l ih=>
  rw[aA,Nat.testBit_or,ih,Nat.testBit_two_pow];by_cases h:u=v
  ·subst h;simp
  ·have h':¬v=u:=fun e=>h e.symm;simp[h,h']
theorem LV {a b:List Nat} (h:∀x,x∈a↔x∈b):aA a=aA b:=by
 apply G9;intro i;rw[mo,mo];exact zX.2 (h i)
theorem qp:∀ {l:List Nat},(∀v∈l,v<8) ->aA l<256
 |[],_=>by decide
 |v::l,h=>by
  have h1:=qp (l:=l) fun u hu=>h u (dD _ hu);have h2:2^v<2^8:=OM (by decide) (h v c5);exact Nat.or_lt_two_pow (n:=8) h1 h2
theorem alJ (s v:Nat):(s/2^v&&&1=1)↔s.testBit v=true:=by
 rw[Nat.testBit_eq_decide_div_mod_eq,dQ,Nat.and_one_is_mod]
theorem aiU {s p:Nat} (hs:s<256) (hp:p<256):(p&&&(4294967295 - s)=0)↔∀v,p.testBit v=true ->s.testBit v=true:=by
 have e:4294967295 - s=2^32 - (s+1):=by omega
 have hs':s<2^32:=by omega
 rw[e];constructor
 ·intro h v hv;have h1:(p&&&(2^32 - (s+1))).testBit v=false:=by rw[h];simp
  rw[KP,hv,OJ hs',Ak] at h1
  have hlt:v<32:=by
   rcases cM v 32 with h2 |h2
   ·exact h2
   ·have:=Nat.testBit_lt_two_pow (x:=p) (i:=v) (aR (show p<2^32 by omega) (jf (by decide) h2));rw[this] at hv;cases hv
  simpa [hlt] using h1
 ·intro h;apply G9;intro i;rw[KP,OJ hs',Nat.zero_testBit];cases hp':p.testBit i
  ·rfl
  ·rw[h i hp'];simp
theorem Fc (l:List Nat) (v:Nat) (w:World) (hl:∀u∈l,u<8) (hv:v<8):
  Calls Tryz.prog 143 #[.int .u32 (aA l:Nat),.int .i64 (v:Nat)] w fun e w'=>e=.returned (.int .u32 (aA (v::l):Nat))/\w'=w:=by
 have hs:=qp hl;have h2:2^v<256:=show 2^v<2^8 from OM (by decide) hv
 have HE:Hid (bits BinOp.or IntKind.u32 (aA l:Nat) (2^v % 4294967296)=((aA (v::l):Nat):Int)):=by
  show _=_
  have e:((2:Int)^v % 4294967296)=((2^v:Nat):Int):=by
   (have e2:((2:Int)^v)=((2^v:Nat):Int):=by rw[Int.natCast_pow];rfl);rw[e2];generalize (2^v:Nat)=q at *;omega
  rw[e,u32_or_nat _ _ (by omega) (by omega)];rfl
 generalize aA (v::l)=r at *;generalize aA l=s at *;go_enter Tryz.func143,Tryz.ntmps143;go_wp2;go_ret;exact⟨by rw[HE.o];rfl,rfl⟩
theorem Fe (l:List Nat) (v:Nat) (w:World) (hl:∀u∈l,u<8) (hv:v<8):
  Calls Tryz.prog 129 #[.int .u32 (aA l:Nat),.int .i64 (v:Nat)] w fun e w'=>e=.returned (.bool (decide (v∈l)))/\w'=w:=by
 have hs:=qp hl
 have HE:Hid ((bits BinOp.and IntKind.u32 ((aA l:Nat)/2^v) 1==1)=decide (v∈l)):=by
  show _=_;have e:(((aA l:Nat):Int)/2^v)=((aA l/2^v:Nat):Int):=by rw[vX,Int.natCast_pow];rfl
  have hle:aA l/2^v<=aA l:=vQ _ _;rw[e,show (1:Int)=((1:Nat):Int) from rfl,u32_and_nat _ _ (by omega) (by omega), <- mo,ug, <- alJ,zY];omega
 generalize decide (v∈l)=r at *;generalize aA l=s at *;go_enter Tryz.func129,Tryz.ntmps129;go_wp2;go_ret;exact⟨by rw[HE.o];rfl,rfl⟩
theorem aeV (l p:List Nat) (w:World) (hl:∀u∈l,u<8) (hp:∀u∈p,u<8):
  Calls Tryz.prog 173 #[.int .u32 (aA l:Nat),.int .u32 (aA p:Nat)] w fun e w'=>e=.returned (.bool (decide (∀v∈p,v∈l)))/\w'=w:=by
 have hs:=qp hl;have hq:=qp hp
 have HE:Hid ((bits BinOp.andNot IntKind.u32 (aA p:Nat) (aA l:Nat)==0)=decide (∀v∈p,v∈l)):=by
  show _=_;have hi:=aiU hs hq;simp only[mo,OI] at hi;rw[u32_andNot_nat _ _ (by omega) (by omega),ug,zY,dQ, <- hi];omega
 generalize decide (∀v∈p,v∈l)=r at *;generalize aA l=s at *;generalize aA p=t at *;go_enter Tryz.func173,Tryz.ntmps173;go_wp2;go_ret;exact⟨by rw[HE.o];rfl,rfl⟩
theorem WX (hn:n<=8) (h:(List.range i).all (kd l n)=true) (hi:i<=l.length):∀u∈af (l.take i),u<8:=by
 intro u hu;obtain⟨x,hx,rfl⟩:=aU.1 hu;obtain⟨j,hj,rfl⟩:=jg hx;rw[eB] at hj;have h1:=dN.1 h j (ck.2 (by omega));rw[kd,dQ,getD_eq (by omega)] at h1;rw[Af];omega
def setA (l:List Int) (n:Nat):Nat:=if dZ l n=true then aA (af l) else 0
theorem WN (a:Option Addr) (cap:Nat) (l:List Int) (n:Nat) (w:World) (h:aC w a l) (hn:l.length<=140737488355328) (uz:n<=8):
  Calls Tryz.prog 125 #[.slice a l.length cap,.int .i64 (n:Nat)] w fun e w'=>e=.returned (.tuple #[.int .u32 (setA l n:Nat),.bool (dZ l n)])/\w'=w:=by
 have HF:=hid h;clear h;have HB:=hid (fun i h e=>PK (l:=l) (n:=n) (i:=i) h e);have HT:Hid ((List.range l.length).all (kd l n)=true ->dZ l n=true):=id;have HA1:Hid (dZ l n=true ->setA l n=aA (af l)):=fun h=>aB h;have OC:Hid (dZ l n=false ->setA l n=0):=fun h=>aD (by rw[h];decide);generalize dZ l n=rb at *;generalize setA l n=ra at *;go_enter Tryz.func125,Tryz.ntmps125;go_wp2_with fail
 go_loopw [6,7,12] (fun sv lv iv wr=>∃i:Nat,i<=l.length/\iv=.int .i64 i/\lv=.int .i64 (least l i)/\sv=.int .u32 (aA (af (l.take i)):Nat)/\Hid ((List.range i).all (kd l n)=true)/\wr=w) (fun _ _ iv _=>l.length - (intOf iv).toNat)
 case atStart=>exact⟨0,aX _,rfl,rfl,rfl,rfl,rfl⟩
 case round=>
  obtain⟨i,hi,rfl,rfl,rfl,HI,rfl⟩:=hrel;by_cases hlt:i<l.length
  ·obtain⟨g,o,rfl,hg,c0⟩:=HF.o i hlt;obtain⟨aV,hl0⟩:=Yl hlt HI.o;have ow:=hid (Zo hlt);have xL:=hid aV;have Ud:=hid (WX uz HI.o hi)
   have HST:Hid (∀x:Nat,(x:Int)=l[i] ->aA (x::af (l.take i))=aA (af (l.take (i+1)))):=fun x hx=>LV fun z=>by
    rw[gh hlt, <- hx,af,af,dY];simp only[cT,bL,fH,j5,iT,oC,nH];exact or_comm
   clear aV;generalize hs1:aA (af (l.take (i+1)))=s1 at *;have jA:=hid hs1;clear hs1;generalize af (l.take i)=pre at *;generalize least l i=m at *;generalize l[i]=x at *;by_cases e:m<=x/\x<n
   ·have HS:=hid (Lj HI.o (by rw[xL.o];exact bT e));obtain⟨e1,e2⟩:=e;obtain⟨X,rfl⟩:∃X:Nat,x=X:=⟨x.toNat,by omega⟩;have hst:=HST.o X rfl;go_wp2_with fail
    refine(Fc pre X _ Ud.o (by omega)).ae ?_;rintro e w1 ⟨rfl,rfl⟩;rw[hst];go_wp2;go_roundw
    case rel=>exact⟨i+1,by omega,by go_num,by rw[ow.o],by rw[jA.o],HS.o,trivial⟩
    case measure=>simp[intOf];omega
   ·have HE:=hid (HB.o i hlt (by rw[xL.o];exact cj e));rcases (show x<m∨(m<=x/\(n:Int)<=x) by omega) with h3 |⟨h3,h4⟩
    all_goals
     clear e;go_wp2;go_ret2;exact⟨by rw[OC.o HE.o,HE.o];rfl,rfl⟩
  ·obtain rfl:i=l.length:=by omega
   have HE:=hid (HT.o HI.o);have HA:=hid (HA1.o HE.o);rw[iR];go_wp2;go_ret2;exact⟨by rw[HA.o,HE.o];rfl,rfl⟩
theorem E7 {α:Type} {P:List α ->Prop} (h0:P []) (h1:∀l a,P l ->P (l++[a])) (l:List α):P l:=by
 have h:∀m:List α,P m.reverse:=by
  intro m;induction m with
  |nil=>exact h0
  |cons a m ih=>rw[List.reverse_cons];exact h1 _ _ ih
 have:=h l.reverse;rwa [List.reverse_reverse] at this
def nb (l:List UInt8):Nat:=l.foldl (fun n c=>n*256+c.toNat) 0
theorem CN:nb []=0:=rfl
theorem wH (l:List UInt8) (c:UInt8):nb (l++[c])=nb l*256+c.toNat:=by simp[nb]
theorem AA (a b:List UInt8):nb (a++b)=nb a*256^b.length+nb b:=by
 induction b using E7 with
 |h0=>simp[CN]
 |h1 l c ih=>
  rw[<- jh,wH,ih,wH,bM,EO,gS,fC,ie,Aa]
theorem ag6 (c:UInt8):nb [c]=c.toNat:=by simp[nb]
theorem CO (c:UInt8) (l:List UInt8):nb (c::l)=c.toNat*256^l.length+nb l:=by
 have:=AA [c] l;rwa [List.singleton_append,ag6] at this
theorem rL (l:List UInt8):nb l<256^l.length:=by
 induction l using E7 with
 |h0=>simp[CN]
 |h1 l c ih=>
  rw[wH,bM,EO,gS];have:=c.toNat_lt;omega
def bn (n:Nat):List UInt8:=if _h:n=0 then[] else bn (n/256)++[UInt8.ofNat (n % 256)]
theorem oh:bn 0=[]:=by rw[bn];simp
theorem om (n:Nat) (h:n≠0):bn n=bn (n/256)++[UInt8.ofNat (n % 256)]:=by rw[bn];simp[h]
theorem ofNat_toNat (n:Nat):(UInt8.ofNat (n % 256)).toNat=n % 256:=by simp
theorem Qt (n:Nat):nb (bn n)=n:=by
 induction n using Nat.strongRecOn with
 |ind n ih=>
  by_cases h:n=0
  ·subst h;simp[oh,CN]
  ·rw[om n h,wH,ih (n/256) (by omega),ofNat_toNat];omega
theorem alH (n:Nat) (c:UInt8) (h:n≠0∨c.toNat≠0):bn (n*256+c.toNat)=bn n++[c]:=by
 have hc:=c.toNat_lt;rw[om _ (by omega),show (n*256+c.toNat)/256=n by omega,show (n*256+c.toNat) % 256=c.toNat by omega];simp
theorem Tq (l:List UInt8):bn (nb l)=l.dropWhile (·==0):=by
 induction l using E7 with
 |h0=>simp[CN,oh]
 |h1 l c ih=>
  rw[wH];by_cases h:nb l≠0∨c.toNat≠0
  ·rw[alH _ _ h,ih];by_cases hl:l.dropWhile (·==0)=[]
   ·have hz:nb l=0:=by rw[<- Qt (nb l),ih,hl,CN]
    (have hc:c≠0:=by intro e;subst e;simp[hz] at h);rw[hl,List.dropWhile_append,hl];simp[hc]
   ·rw[List.dropWhile_append];simp[hl]
  ·have h1:nb l=0:=by omega
   (have h2:c.toNat=0:=by omega);(have hc:c=0:=by simpa [<- KN] using h2);rw[h1,h2];rw[h1,oh] at ih;rw[List.dropWhile_append, <- ih];simp[hc,oh]
theorem Tr {a b:Nat} (h:a<=b):(bn a).length<=(bn b).length:=by
 induction a using Nat.strongRecOn generalizing b with
 |ind a ih=>
  by_cases ha:a=0
  ·subst ha;simp[oh]
  ·rw[om a ha,om b (by omega)];have:= @ih (a/256) (by omega) (b/256) (by omega);simp;omega
def W:Nat:=4294967296
theorem fT:W=4294967296:=rfl
theorem kr:0<W:=by decide
def nw:List Nat ->Nat
 |[]=>0
 |x::r=>x+W*nw r
theorem lA:nw []=0:=rfl
theorem jK (x:Nat) (r:List Nat):nw (x::r)=x+W*nw r:=rfl
theorem yI (a b:List Nat):nw (a++b)=nw a+W^a.length*nw b:=by
 induction a with
 |nil=>simp[lA]
 |cons x a ih=>rw[eC,jK,jK,ih,di,gS,k8];rw[dC (W^a.length) W,ie];omega
theorem Az (a:List Nat) (x:Nat):nw (a++[x])=nw a+W^a.length*x:=by rw[yI,jK,lA];simp
def Small (l:List Nat):Prop:=∀x∈l,x<W
theorem sV (l:List Nat) (h:Small l):nw l<W^l.length:=by
 induction l with
 |nil=>simp[lA]
 |cons x r ih=>
  have h1:=ih (fun y hy=>h y (dD _ hy));have h2:=h x (c5);rw[jK,di,gS];have:W*(nw r+1)<=W*W^r.length:=kE _ h1;rw[dC (W^r.length) W];rw[k8] at this;omega
def words (n:Nat):List Nat:=if _h:n=0 then[] else(n % 4294967296)::words (n/4294967296)
theorem uh:words 0=[]:=by rw[words,dif_pos rfl]
theorem yq (n:Nat) (h:n≠0):words n=(n % W)::words (n/W):=by rw[words,dif_neg h,fT]
theorem Nj (h:n≠0):n/W<n:=Nat.div_lt_self (jY h) (by decide)
theorem jJ (n:Nat):nw (words n)=n:=by
 induction n using Nat.strongRecOn with
 |ind n ih=>
  by_cases h:n=0
  ·subst h;simp[uh,lA]
  ·rw[yq n h,jK,ih _ (Nj h)];exact Nat.mod_add_div n W
theorem ll (n:Nat):Small (words n):=by
 induction n using Nat.strongRecOn with
 |ind n ih=>
  by_cases h:n=0
  ·subst h;simp[uh,Small]
  ·rw[yq n h];intro x hx;rcases cT.1 hx with rfl |hx
   ·exact gJ _ kr
   ·exact ih _ (Nj h) x hx
theorem K7 (n:Nat):words n=[]↔n=0:=by
 constructor
 ·intro h;rw[<- jJ n,h,lA]
 ·rintro rfl;exact uh
theorem Vp (n:Nat) (h:words n≠[]):(words n).getLast h≠0:=by
 induction n using Nat.strongRecOn with
 |ind n ih=>
  have hn:n≠0:=fun e=>h ((K7 n).2 e);by_cases h2:words (n/W)=[]
  ·have hz:=(K7 _).1 h2
   have:(words n).getLast h=n % W:=by
    have hw:=yq n hn;rw[h2] at hw;simp[hw]
   rw[this];intro hm;have:=Nat.mod_add_div n W;rw[hm,hz] at this;simp at this;exact hn this.symm
  ·have:(words n).getLast h=(words (n/W)).getLast h2:=by
    have hw:=yq n hn;simp only[hw];rw[List.getLast_cons h2]
   rw[this];exact ih _ (Nj hn) h2
theorem ado (l:List Nat) (hs:Small l) (hl:∀h:l≠[],l.getLast h≠0):words (nw l)=l:=by
 induction l with
 |nil=>simp[lA,uh]
 |cons x r ih=>
  have hx:=hs x (c5);have hr:words (nw r)=r:=ih (fun y hy=>hs y (dD _ hy)) (fun h=>by have:=hl (by simp);rwa [List.getLast_cons h] at this)
  have hne:nw (x::r)≠0:=by
   intro h;rw[jK] at h;(have hx0:x=0:=by omega)
   have Iy:nw r=0:=by
    (have:W*nw r=0:=by omega);rcases Nat.mul_eq_zero.1 this with h |h
    ·simp[W] at h
    ·exact h
   rw[Iy,uh] at hr;subst hr;exact hl (by simp) (by simpa using hx0)
  rw[yq _ hne,jK,Vc,iQ hx,Nat.add_mul_div_left _ _ kr,vR hx,bI,hr]
theorem K8 (n:Nat):(words n).length=((bn n).length+3)/4:=by
 induction n using Nat.strongRecOn with
 |ind n ih=>
  by_cases h:n=0
  ·subst h;simp[uh,oh]
  ·rw[yq n h,di,ih _ (Nj h)];by_cases h1:n/256=0
   ·rw[om n h,h1,oh,show n/W=0 by simp only[W];omega,oh];simp
   ·by_cases h2:n/256/256=0
    ·rw[om n h,om _ h1,h2,oh,show n/W=0 by simp only[W];omega,oh];simp
    ·by_cases h3:n/256/256/256=0
     ·rw[om n h,om _ h1,om _ h2,h3,oh,show n/W=0 by simp only[W];omega,oh];simp
     ·rw[om n h,om _ h1,om _ h2,om _ h3,show n/256/256/256/256=n/W by simp only[W];omega];simp;omega
def part (n i:Nat):Nat:=n/W^i % W
theorem af5 (n:Nat):part n 0=n % W:=by rw[part,G6,Cs]
theorem af6 (n i:Nat):part n (Nat.succ i)=part (n/W) i:=by rw[part,part,Nat.succ_eq_add_one,gS,dC,OS]
theorem adq (i:Nat):∀n,i<(words n).length ->(words n)[i]? =some (part n i):=by
 induction i with
 |zero=>
  intro n h;have hn:n≠0:=by rintro rfl;rw[uh] at h;simp at h
  rw[yq n hn,af5];rfl
 |succ i ih=>
  intro n h;have hn:n≠0:=by rintro rfl;rw[uh] at h;simp at h
  rw[yq n hn,di] at h;rw[yq n hn,List.getElem?_cons_succ,ih _ (Nat.lt_of_succ_lt_succ h), <- af6]
theorem adr (n:Nat):words n=(List.range (words n).length).map (part n):=by
 apply Hf;intro i;rw[mS];by_cases h:i<(words n).length
 ·rw[adq i n h,List.getElem?_range h];rfl
 ·rw[ig (by omega),ig (by simpa using h)];rfl
theorem amf (i:Nat):W^i=256^(4*i):=by rw[Nat.pow_mul];rfl
theorem af7 (l:List UInt8) (i:Nat) (h:4*i<=l.length):nb ((l.take (l.length - 4*i)).drop (l.length - 4*i - 4))=part (nb l) i:=by
 have e1:nb (l.take (l.length - 4*i))=nb l/W^i:=by
  have aiL:=Ac (l.length - 4*i) l;have hn:=AA (l.take (l.length - 4*i)) (l.drop (l.length - 4*i));rw[aiL] at hn;have hlen:(l.drop (l.length - 4*i)).length=4*i:=by simp;omega
  rw[hlen] at hn;have hlt:=rL (l.drop (l.length - 4*i));rw[hlen] at hlt;have hp:0<256^(4*i):=ru (by decide);rw[amf,hn,z8,OV _ _ hp,vR hlt,bI]
 rw[part, <- e1];generalize hm:l.take (l.length - 4*i)=m;have qC:m.length=l.length - 4*i:=by rw[<- hm];simp
 rw[<- qC];have hn:=AA (m.take (m.length - 4)) (m.drop (m.length - 4));rw[Ac] at hn;by_cases h4:4<=m.length
 ·have hlen:(m.drop (m.length - 4)).length=4:=by simp;omega
  have hlt:=rL (m.drop (m.length - 4));rw[hlen] at hn hlt;rw[hn,show (256:Nat)^4=W from rfl,z8,OU];exact(iQ hlt).symm
 ·have hz:m.length - 4=0:=by omega
  rw[hz,CA];have hlt:=rL m;have:256^m.length<=256^4:=jf (by decide) (by omega);exact(iQ (by show nb m<256^4;omega)).symm
theorem Ql (l:List Nat) (k:Nat) (h:k<l.length):nw (l.take (k+1))=nw (l.take k)+W^k*l[k]:=by
 rw[gh h,Az,eB,tZ (vP h)]
theorem E8 {l:List Nat} (h:Small l) (k:Nat):Small (l.take k):=fun x hx=>h x (List.mem_of_mem_take hx)
theorem O6 (l:List Nat) (hs:Small l) (k:Nat) (hk:k<=l.length) (hn:nw (l.take k)=nw l) (hl:k=0∨l[k - 1]?.getD 0≠0):words (nw l)=l.take k:=by
 rw[<- hn];refine ado _ (E8 hs k) fun h=>?_;rcases hl with rfl |hl
 ·simp at h
 ·have hk0:k≠0:=by rintro rfl;simp at h
  rw[List.getLast_eq_getElem];simp only[eB,tZ hk,Af];rwa [ba (by omega)] at hl
theorem K6 (l:List Nat) (hs:Small l):∃k,k<=l.length/\words (nw l)=l.take k:=by
 induction l using E7 with
 |h0=>exact⟨0,ak _,by rw[lA,uh];rfl⟩
 |h1 l a ih=>
  by_cases ha:a=0
  ·subst ha;obtain⟨k,hk,e⟩:=ih (fun x hx=>hs x (yj _ hx));refine⟨k,by simp;omega,?_⟩;rw[Az,j3,gg,e,Vd hk]
  ·refine⟨(l++[a]).length,ak _,?_⟩;exact O6 _ hs _ (ak _) (by rw[iR]) (Or.inr (by simpa using ha))
theorem adY (l q:List Nat) (m y:Nat) (h:m<l.length):(l.take (m+1)++q).set m y=l.take m++y::q:=by
 rw[gh h,jh];have e:(l.take m).length=m:=by simp;omega
 rw[Cu _ _ (by omega),e,nD];rfl
section
open Go.Shelf
attribute [local go_sem] Oper.semAt_some
variable {Bn:Nat}
def N (s:ByteArray):Nat:=nb s.data.toList
def B (n:Nat):ByteArray:=⟨(bn n).toArray⟩
theorem cO (n:Nat):N (B n)=n:=Qt n
theorem kX (n:Nat):(B n).size=(bn n).length:=by simp[B,ByteArray.size]
theorem adO (s:ByteArray):(⟨(Lib.trimLeftB s.data.toList 0).toArray⟩:ByteArray)=B (N s):=by
 rw[B,N,Tq];rfl
theorem yB {k:IntKind} {a b:Int} (h:a=b):Ending.returned (.int k a)=.returned (.int k b):=by rw[h]
theorem int_eq {k:IntKind} {a b:Int} (h:a=b):Value.int k a=.int k b:=by rw[h]
theorem BG (s:ByteArray) (w:World):
  Calls Tryz.prog 210 #[.string s] w fun e w'=>e=.returned (.string (B (N s)))/\w'=w:=by
 rw[<- adO];go_enter Tryz.func210,Tryz.ntmps210;go_wp2_with (go_at_call 238;refine(Tryz.strings_TrimLeft_one _ 0 (by decide) _).ae ?_;rintro e w' ⟨rfl,rfl⟩)
 go_ret;exact⟨rfl,rfl⟩
theorem abI (s:ByteArray) (w:World) (hs:s.size<=140737488355328):
  Calls Tryz.prog 219 #[.string s] w fun e w'=>e=.returned (.int .i64 ((s.size+3)/4:Nat))/\w'=w:=by
 go_enter Tryz.func219,Tryz.ntmps219;go_wp2;go_ret;exact⟨yB (by omega),rfl⟩
theorem agD (p c:Nat) (hp:p<16777216) (hc:c<256):bits .or .u32 ((p:Int)*256) (c:Int)=((p*256+c:Nat):Int):=by
 have e1:(p:Int)*256=((p*256:Nat):Int):=by omega
 rw[e1,u32_or_nat _ _ (by omega) (by omega),nat_join 8 _ _ (by omega) hc]
theorem Hv (s:ByteArray) (k:Nat) (h:k<s.size):s.data.toList.take (k+1)=s.data.toList.take k++[s[k]]:=by
 rw[gh (by simpa using h)];rfl
theorem ag7 (l:List UInt8) (k:Nat) (h:l.length<=k):nb l<256^k:=
 aR (rL l) (jf (by decide) h)
theorem ae6 (s:ByteArray) (w:World) (hs:s.size<=4):
  Calls Tryz.prog 245 #[.string s] w fun e w'=>e=.returned (.int .u32 (N s))/\w'=w:=by
 go_enter Tryz.func245,Tryz.ntmps245;go_wp2;go_loop [3,7] (fun n i=>∃k:Nat,k<=s.size/\i=.int .i64 k/\n=.int .u32 (nb (s.data.toList.take k))) (fun _ i=>s.size - (intOf i).toNat)
 case atStart=>exact⟨0,aX _,rfl,rfl⟩
 case round=>
  obtain⟨k,hk,rfl,rfl⟩:=hrel;by_cases hlt:k<s.size
  ·have hb:nb (s.data.toList.take k)<16777216:=ag7 _ 3 (by simp;omega);have hc:=s[k].toNat_lt;(have HS:Hid (nb (s.data.toList.take (k+1))=nb (s.data.toList.take k)*256+s[k].toNat):=by rw[Hv s k hlt,wH];rfl);have HO:Hid (bits .or .u32 ((nb (s.data.toList.take k):Int)*256) (s[k].toNat:Int)=((nb (s.data.toList.take k)*256+s[k].toNat:Nat):Int)):=agD _ _ hb hc;generalize nb (s.data.toList.take k)=p at *;go_wp2;go_round
   case rel=>exact⟨k+1,by omega,by go_num,by rw[HS.o];exact int_eq HO.o⟩
   case measure=>simp[intOf];omega
  ·go_wp2;go_ret;exact⟨yB (by rw[N,jF (by simp;omega)]),rfl⟩
def mK (Bn:Nat) (V V':World):Prop:=V'.cell? ⟨Bn,0,none⟩=V.cell? ⟨Bn,0,none⟩
theorem mK.t {A B C:World} (h:mK Bn A B) (k:mK Bn B C):mK Bn A C:=Eq.trans k h
theorem mK.b (hn:Bn<w.heap.size) (V:World) (l:Nat) (o o':Obj) (hl:w.heap.size<=l) (_:V.heap[l]? =some o) (_:o.isCells=false) (_:o.isWalk=false):mK Bn V (V.putObj l o'):=
 l5 (tX (show Bn≠l by omega))
def upto (n k:Nat):List Nat:=(List.range k).map (part n)
theorem VD (n k:Nat):upto n (k+1)=upto n k++[part n k]:=by simp[upto,ud]
theorem adK (n k:Nat):(upto n k).length=k:=by simp[upto]
theorem af4 (s:ByteArray) (k:Nat) (h:4*k<=s.size):N (s.extract (s.size - 4*k - 4) (s.size - 4*k))=part (N s) k:=by
 rw[N,N, <- af7 _ _ (by simpa using h)];congr 1
 rw[ByteArray.data_extract];simp[List.drop_take]
theorem ae5 (s:ByteArray) (k:Nat) (w:World) (h:4*k<=s.size):
  Calls Tryz.prog 245 #[.string (s.extract (max 0 ((s.size:Int) - (k:Int)*4 - 4)).toNat (s.size - k*4))] w fun e w'=>e=.returned (.int .u32 (part (N s) k:Nat))/\w'=w:=by
 have e1:(max 0 ((s.size:Int) - (k:Int)*4 - 4)).toNat=s.size - 4*k - 4:=by omega
 have e2:s.size - k*4=s.size - 4*k:=by omega
 rw[e1,e2, <- af4 s k h];exact ae6 _ w (by rw[ByteArray.size_extract];omega)
theorem akh (n:Nat) (hn:1<=n) (l Bn:Nat) (s:ByteArray) (hs:s.size<=140737488355328) (J Jx:List Nat ->World ->Prop)
  (hY:∀pre x V,J pre V ->pre.length<(s.size+3)/4 ->YieldAt Fence.wide (n - 1) Tryz.prog l #[.int .u32 (x:Nat)] V fun e V'=>
   (e=.returned (.bool true)/\J (pre++[x]) V'/\mK Bn V V')∨(e=.returned (.bool false)/\Jx (pre++[x]) V'))
  (V:World) (DW:V.cell? ⟨Bn,0,none⟩=some (.string s)) (h0:J [] V):
  CallsIn Fence.wide n Tryz.prog 244 #[.func (.yield l) #[] #[],.pointer (some ⟨Bn,0,none⟩)] V fun e V'=>(∃v,e=.returned v)/\
   ((∃ys,ys=upto (N s) ((s.size+3)/4)/\J ys V')∨(∃pre,(∃k,k<=(s.size+3)/4/\pre=upto (N s) k)/\Jx pre V')):=by
 refine EK Tryz.func244 rfl trivial ?_ rfl;simp only[Tryz.ntmps244,k9,di,jG,Nat.reduceAdd,Nat.reduceSub,lh,lg,ld,kF,gi,eC];gi_wp2_with (refine⟨trivial,?_⟩;gi_at_call 219;refine(fZ.2 (abI _ _ hs)).ae ?_;rintro e w' ⟨rfl,rfl⟩)
 gi_loopw [7] (fun i wr=>∃k:Nat,k<=(s.size+3)/4/\i=.int .i64 k/\J (upto (N s) k) wr/\wr.cell? ⟨Bn,0,none⟩=some (.string s))
  (fun i _=>(s.size+3)/4 - (intOf i).toNat)
 case atStart=>exact⟨0,aX _,rfl,h0,DW⟩
 case round=>
  obtain⟨k,hk,rfl,hJs,bB⟩:=hrel;by_cases hlt:k<(s.size+3)/4
  ·obtain⟨fn,tmps,assign,body,hy,hR⟩:=hY _ (part (N s) k) wr hJs (by rw[adK];exact hlt);gi_wp2_with (refine⟨trivial,?_⟩;gi_at_call 245;refine(fZ.2 (ae5 s k _ (by omega))).ae ?_;rintro e w' ⟨rfl,rfl⟩)
   refine hR.ae ?_;rintro e W3 (⟨rfl,hJ3,hk3⟩ |⟨rfl,hJx3⟩)
   ·have RY:W3.cell? ⟨Bn,0,none⟩=some (.string s):=Eq.trans hk3 bB;gi_wp2
    go_roundw
    case rel=>exact⟨k+1,by omega,by simp,by rw[VD];exact hJ3,RY⟩
    case measure=>simp[intOf];omega
   ·gi_wp2
    refine dh (results_none rfl _ _ _) rfl ?_;exact⟨⟨_,rfl⟩,.inr ⟨_,⟨k+1,by omega,(VD _ _).symm⟩,hJx3⟩⟩
  ·obtain rfl:k=(s.size+3)/4:=by omega
   gi_wp2
   go_end0
   exact⟨⟨_,rfl⟩,.inl ⟨_,rfl,hJs⟩⟩
theorem akg (n:Nat) (s:ByteArray) (w:World):
  CallsIn Fence.wide n Tryz.prog 220 #[.string s] w fun e w'=>e=.returned (.func (.func 244) #[] #[.pointer (some ⟨w.heap.size,0,none⟩)])/\w'=w.alloc (.cells #[.string s] 30):=by
 refine EK Tryz.func220 rfl trivial ?_ rfl;simp only[Tryz.ntmps220,k9,di,jG,Nat.reduceAdd,Nat.reduceSub,lh,lg,ld,kF,gi,eC];gi_wp2
 go_ret;exact⟨rfl,rfl⟩
theorem akf (n:Nat) (hn:1<=n) (Bn:Nat) (s:ByteArray) (hs:s.size<=140737488355328) (w:World) (DW:Bn<w.heap.size) (hc:w.cell? ⟨Bn,0,none⟩=some (.string s)):
  SeqStopsK Fence.wide n Tryz.prog 244 #[.pointer (some ⟨Bn,0,none⟩)] (fun x:Nat=> #[Value.int .u32 (x:Nat)]) (mK Bn) (fun ys=>ys=upto (N s) ((s.size+3)/4)) (fun pre=>∃k,k<=(s.size+3)/4/\pre=upto (N s) k) ((s.size+3)/4) w:=fun l J Jx V hV _ _ hY h0=>
 akh n hn l Bn s hs J Jx hY V ((hV.cell (p:=⟨Bn,0,none⟩) DW).trans hc) h0
theorem Tryz.infoU32:(Tryz.prog.info? 114).map (fun i=>(i.zero,i.size,i.bytes))=some (some (.int .u32 0),1,4):=by kernel_rfl
def u32 (x:Nat):Value:=.int .u32 (x:Nat)
theorem adJ (n:Nat):upto n (((B n).size+3)/4)=words n:=by
 rw[kX, <- K8,upto, <- adr]
end
section
open Go.Shelf
attribute [local go_sem] Oper.semAt_some
theorem iu (s:ByteArray):(B (N s)).size<=s.size:=by
 rw[kX,N,Tq];have:(s.data.toList.dropWhile (·==0)).length<=s.data.toList.length:=(List.dropWhile_sublist _).length_le;simpa using this
end
def lenOf:Value ->Nat |.slice _ n _=>n |_=>0
theorem Le (b off cap:Nat) (l:List Nat) (w:World) (hs:Small l) (qI:l.length<=cap) (hlen:l.length<=140737488355328)
  (hc:∀j,j<l.length ->w.cell? ⟨b,off+j,none⟩=some (.int .u32 (l[j]?.getD 0:Nat))):
  Calls Tryz.prog 217 #[.slice (some ⟨b,off,none⟩) l.length cap] w fun e w'=>e=.returned (.slice (some ⟨b,off,none⟩) (words (nw l)).length cap)/\w'=w:=by
 go_enter Tryz.func217,Tryz.ntmps217;go_wp2;go_loop [0] (fun v=>∃k:Nat,k<=l.length/\v=.slice (some ⟨b,off,none⟩) k cap/\nw (l.take k)=nw l) (fun v=>lenOf v)
 case atStart=>exact⟨l.length,ak _,rfl,by rw[iR]⟩
 case round=>
  obtain⟨k,hk,rfl,hn⟩:=hrel;have HN:Hid (nw (l.take k)=nw l):=hn;clear hn;by_cases h0:k=0
  ·subst h0;have e:=O6 l hs 0 (aX _) HN.o (Or.inl rfl);(have HE:Hid ((words (nw l)).length=0):=by rw[e];rfl);clear e;go_wp2;go_ret;exact⟨by rw[HE.o];rfl,rfl⟩
  ·have hck:=hc (k - 1) (by omega);by_cases hz:l[k - 1]?.getD 0=0
   ·have tS:Hid (nw (l.take (k - 1))=nw l):=by
     have e:=Ql l (k - 1) (by omega);rw[show k - 1+1=k by omega,HN.o] at e;rw[ba (by omega)] at hz;simp only[yf] at hz;rw[hz,j3,gg] at e;exact e.symm
    rw[hz] at hck;go_wp2;go_round
    case rel=>exact⟨k - 1,by omega,rfl,tS.o⟩
    case measure=>simp[lenOf];omega
   ·have e:=O6 l hs k hk HN.o (Or.inr hz);(have HE:Hid ((words (nw l)).length=k):=by rw[e,eB];exact tZ hk);clear e;go_wp2;go_ret;exact⟨by rw[HE.o];rfl,rfl⟩
theorem aeB (w:World):
  Calls Tryz.prog 217 #[.slice none 0 0] w fun e w'=>e=.returned (.slice none 0 0)/\w'=w:=by
 go_enter Tryz.func217,Tryz.ntmps217;go_wp2;refine GX 1 ?_;rw[oB];go_wp2;go_ret;exact⟨rfl,rfl⟩
def bQ (x k:Nat):Int:=((x/256^k % 256:Nat):Int)
theorem alG (x:Nat) (hx:x<18446744073709551616):bQ x 7=(x:Int)/72057594037927936/\bQ x 6=(x:Int)/281474976710656 % 256/\bQ x 5=(x:Int)/1099511627776 % 256/\bQ x 4=(x:Int)/4294967296 % 256/\
  bQ x 3=(x:Int)/16777216 % 256/\bQ x 2=(x:Int)/65536 % 256/\bQ x 1=(x:Int)/256 % 256/\bQ x 0=(x:Int) % 256:=by
 unfold bQ;simp only[Nat.reducePow];omega
theorem ab4 (x:Nat) (w:World) (hx:x<18446744073709551616):
  Calls Tryz.prog 216 #[.int .u64 (x:Nat)] w fun e w'=>e=.returned (.agg #[.int .u8 (bQ x 7),.int .u8 (bQ x 6),.int .u8 (bQ x 5),.int .u8 (bQ x 4),.int .u8 (bQ x 3),.int .u8 (bQ x 2),.int .u8 (bQ x 1),.int .u8 (bQ x 0)])/\Below w.heap.size w w':=by
 obtain⟨e7,e6,e5,e4,e3,e2,e1,e0⟩:=alG x hx;rw[e7,e6,e5,e4,e3,e2,e1,e0];clear e7 e6 e5 e4 e3 e2 e1 e0;go_enter Tryz.func216,Tryz.ntmps216;go_wp2;refine GX 9 ?_;rw[oB];go_wp2;rw[oB];go_wp2;rw[oB];go_wp2;rw[oB];go_wp2;rw[oB];go_wp2;rw[oB];go_wp2;rw[oB];go_wp2;rw[oB];go_wp2;rw[oB];go_wp2;refine dh (v:=.agg #[.int .u8 ((x:Int)/72057594037927936),.int .u8 ((x:Int)/281474976710656 % 256),.int .u8 ((x:Int)/1099511627776 % 256),.int .u8 ((x:Int)/4294967296 % 256),.int .u8 ((x:Int)/16777216 % 256),.int .u8 ((x:Int)/65536 % 256),.int .u8 ((x:Int)/256 % 256),.int .u8 ((x:Int) % 256)]) (by simp[results,Tryz.results216,go_sem]) rfl ⟨rfl,?_⟩;exact(((aw _ _).alloc (ak _) _).alloc (by simp) _)
theorem BD (x c:Nat):x/(c*256)*256+x/c % 256=x/c:=by rw[<- OS];exact Nat.div_add_mod' _ _
theorem akW (x:Nat) (hx:x<18446744073709551616):0*256+x/72057594037927936 % 256=x/72057594037927936:=by omega
theorem abD (x:Nat):x/256*256+x/1 % 256=x:=by omega
theorem aha (x:Nat) (hx:x<18446744073709551616):N (strOfNums [bQ x 7,bQ x 6,bQ x 5,bQ x 4,bQ x 3,bQ x 2,bQ x 1,bQ x 0])=x:=by
 have h6:=BD x 281474976710656;have h5:=BD x 1099511627776;have h4:=BD x 4294967296;have h3:=BD x 16777216;have h2:=BD x 65536;have h1:=BD x 256;simp only[Nat.reduceMul] at h6 h5 h4 h3 h2 h1;simp only[N,EH,fH,j5,bQ,nH,nb,Ag,List.foldl_nil,UInt8.toNat_ofNat',Nat.reducePow,Nat.mod_mod];rw[akW x hx,h6,h5,h4,h3,h2,h1,abD]
theorem adu (x:Nat) (t:TypeId) (w:World):∀i,i< 8 ->(w.alloc (.cells #[.int .u8 (bQ x 7),.int .u8 (bQ x 6),.int .u8 (bQ x 5),.int .u8 (bQ x 4),.int .u8 (bQ x 3),.int .u8 (bQ x 2),.int .u8 (bQ x 1),.int .u8 (bQ x 0)] t)).cell? ⟨w.heap.size,0+i,none⟩=
  some (.int .u8 (([bQ x 7,bQ x 6,bQ x 5,bQ x 4,bQ x 3,bQ x 2,bQ x 1,bQ x 0]:List Int).getD i 0)):=by
 intro i hi;rcases (show i=0∨i=1∨i=2∨i=3∨i=4∨i=5∨i=6∨i=7 by omega) with rfl |rfl |rfl |rfl |rfl |rfl |rfl |rfl<;>simp
theorem Ym (x:Nat) (w:World) (hx:x<18446744073709551616):
  Calls Tryz.prog 167 #[.int .u64 (x:Nat)] w fun e w'=>e=.returned (.string (B x))/\Below w.heap.size w w':=by
 have wX:=fun (w1:World)=>EI (P:=Tryz.prog) (w1.alloc (.cells #[.int .u8 (bQ x 7),.int .u8 (bQ x 6),.int .u8 (bQ x 5),.int .u8 (bQ x 4),.int .u8 (bQ x 3),.int .u8 (bQ x 2),.int .u8 (bQ x 1),.int .u8 (bQ x 0)] 232)) 152 5 Tryz.underlying152 Tryz.underlying5 w1.heap.size 0 8 8 _ rfl (adu x _ w1) 30 Tryz.underlying30;have HN:Hid (N (strOfNums [bQ x 7,bQ x 6,bQ x 5,bQ x 4,bQ x 3,bQ x 2,bQ x 1,bQ x 0])=x):=aha x hx;go_enter Tryz.func167,Tryz.ntmps167
 go_wp2_with (first
  |(go_at_call 216;refine(ab4 x _ hx).ae ?_;rintro e w1 ⟨rfl,hb1⟩)
  |(go_at_call 210;refine(BG _ _).ae ?_;rintro e w2 ⟨rfl,rfl⟩;rw[HN.o]))
 go_ret;exact⟨rfl,hb1.alloc hb1.size _⟩
variable {xs:List Value} {g:Nat}
def qN (x:Nat):List Int:=[bQ x 3,bQ x 2,bQ x 1,bQ x 0]
def mq:List Nat ->List Int
 |[]=>[]
 |x::r=>mq r++qN x
theorem ah0 (a:List Nat) (y:Nat):mq (a++[y])=qN y++mq a:=by
 induction a with
 |nil=>simp[mq]
 |cons x a ih=>rw[eC,mq,ih,mq,jh]
theorem Qy (a:List Nat):(mq a).length=4*a.length:=by
 induction a with
 |nil=>rfl
 |cons x a ih=>rw[mq,bM,ih];simp[qN];omega
theorem akV (x:Nat) (hx:x<4294967296):0*256+x/16777216 % 256=x/16777216:=by omega
theorem ahb (x:Nat) (hx:x<W):nb ((qN x).map fun n=>UInt8.ofNat n.toNat)=x:=by
 rw[fT] at hx;have h3:=akV x hx;have h2:=BD x 65536;have h1:=BD x 256;simp only[Nat.reduceMul] at h2 h1;simp only[qN,fH,j5,bQ,nH,nb,Ag,List.foldl_nil,UInt8.toNat_ofNat',Nat.reducePow,Nat.mod_mod];rw[h3,h2,h1,abD]
theorem amm (l:List Nat) (hs:Small l):N (strOfNums (mq l))=nw l:=by
 rw[N,EH];induction l with
 |nil=>rfl
 |cons x r ih=>
  rw[mq,dY,AA,ih (fun y hy=>hs y (dD _ hy)),ahb x (hs x c5),jK,cH];show nw r*256^4+x=x+W*nw r;rw[dC,z8];rfl
def nQ (l:List Nat) (k:Nat):List Int:=List.replicate (4*(l.length - k)) 0++mq (l.take k)
theorem agw (l:List Nat):nQ l 0=List.replicate (4*l.length) 0:=by simp[nQ,mq]
theorem agz (l:List Nat):nQ l l.length=mq l:=by simp[nQ]
theorem agy (l:List Nat) (k:Nat) (hk:k<=l.length):(nQ l k).length=4*l.length:=by
 rw[nQ,bM,Hc,Qy,eB,tZ hk];omega
theorem agx (l:List Nat) (k:Nat) (hk:k<l.length):splice (nQ l k) (4*l.length - 4*k - 4) (qN (l[k]?.getD 0))=nQ l (k+1):=by
 rw[ba hk,yf];have e1:4*(l.length - k)=(4*l.length - 4*k - 4)+4:=by omega
 have e2:4*(l.length - (k+1))=4*l.length - 4*k - 4:=by omega
 rw[nQ,nQ,gh hk,ah0,e1,e2, <- List.replicate_append_replicate,splice];generalize 4*l.length - 4*k - 4=m;have h4:(qN l[k]).length=4:=rfl;rw[h4]
 have e3:(List.replicate m (0:Int)++List.replicate 4 0++mq (l.take k)).take m=List.replicate m 0:=by
  rw[jh,Vd (by simp)];simp
 have e4:(List.replicate m (0:Int)++List.replicate 4 0++mq (l.take k)).drop (m+4)=mq (l.take k):=by
  rw[List.drop_append_of_le_length (by simp)];simp
 rw[e3,e4]
theorem Wx {α β:Type} (f:α ->β) (L:List α) (o:Nat) (cs:List α):splice (L.map f) o (cs.map f)=(splice L o cs).map f:=by
 simp[splice,List.map_take,List.map_drop]
def u8 (x:Int):Value:=.int .u8 x
theorem Tryz.infoByte:(Tryz.prog.info? 5).map (fun i=>(i.zero,i.size,i.bytes))=some (some (.int .u8 0),1,1):=by kernel_rfl
theorem ads (l:List Nat) (hs:Small l):(words (nw l)).length<=l.length/\∀j,j<(words (nw l)).length ->(words (nw l))[j]?.getD 0=l[j]?.getD 0:=by
 obtain⟨k,hk,e⟩:=K6 l hs;rw[e];refine⟨by simp;omega,fun j hj=>?_⟩;rw[rB,aB (by simp at hj;omega)]
theorem pV {base:Nat} {t:TypeId} (h:w.ownsRow base t 1 (.slice (some ⟨g,0,none⟩) n n) n xs):w.heap[g]? =some (.cells xs.toArray t (0,0)):=by
 rcases h.2 with ⟨h',_⟩ |⟨g',cap',cur,h',_,hg,yV,_,hsz,kh⟩
 ·cases h'
 ·cases h';rw[hg, <- kh,jF (by simp;omega)]
theorem Y8 (n:Nat):(madeCells (Value.int .u8 0).cells (n*1)).toList=(List.replicate n (0:Int)).map u8:=by
 rw[show (Value.int .u8 0).cells= #[Value.int .u8 0] from rfl,GY,oF,KS];rfl
theorem alM (x:Nat) (t:TypeId) (w:World):∀j v,((qN x).map u8)[j]? =some v ->(w.alloc (.cells #[.int .u8 (bQ x 7),.int .u8 (bQ x 6),.int .u8 (bQ x 5),.int .u8 (bQ x 4),.int .u8 (bQ x 3),.int .u8 (bQ x 2),.int .u8 (bQ x 1),.int .u8 (bQ x 0)] t)).cell? ((⟨w.heap.size,4,none⟩:Addr).add j)=some v:=by
 intro j v hj
 have hj4:j<4:=by
  rcases cM j 4 with h |h
  ·exact h
  ·rw[ig (by simpa [qN] using h)] at hj;cases hj
 have hadd:(⟨w.heap.size,4,none⟩:Addr).add j=⟨w.heap.size,4+j,none⟩:=by unfold Addr.add;split<;>simp_all
 rw[hadd];rcases (show j=0∨j=1∨j=2∨j=3 by omega) with rfl |rfl |rfl |rfl<;>simp[qN,u8] at hj<;>subst hj<;>simp
theorem S0 (g cap:Nat) (l:List Nat) (w:World) (hs:Small l) (qI:l.length<=cap) (hlen:l.length<=35184372088832) (hg:g<w.heap.size)
  (hc:∀j,j<l.length ->w.cell? ⟨g,0+j,none⟩=some (.int .u32 (l[j]?.getD 0:Nat))):
  Calls Tryz.prog 168 #[.slice (some ⟨g,0,none⟩) l.length cap] w fun e w'=>e=.returned (.string (B (nw l)))/\Below w.heap.size w w':=by
 obtain⟨i0,hi,hz0,hz1,hz2⟩:=dK Tryz.infoByte;have uw:=Le g 0 cap l w hs qI (by omega) hc;obtain⟨hwl,hwc⟩:=ads l hs;have hsw:=ll (nw l);have HB:Hid (N (strOfNums (mq (words (nw l))))=nw l):=by show _=_;rw[amm _ hsw,jJ]
 have hcw:∀j,j<(words (nw l)).length ->w.cell? ⟨g,j,none⟩=some (.int .u32 ((words (nw l))[j]?.getD 0:Nat)):=fun j hj=>by
  have:=hc j (by omega);rw[bI] at this;rw[this,hwc j hj]
 generalize words (nw l)=ws at *;have HC:Hid (∀j,j<ws.length ->w.cell? ⟨g,j,none⟩=some (.int .u32 (ws[j]?.getD 0:Nat))):=hcw;have HS:Hid (Calls Tryz.prog 217 #[.slice (some ⟨g,0,none⟩) l.length cap] w fun e w'=>e=.returned (.slice (some ⟨g,0,none⟩) ws.length cap)/\w'=w):=uw;clear hc hwc hcw uw;go_enter Tryz.func168,Tryz.ntmps168
 go_wp2_with (first
  |(go_at_call 217;refine(HS.o).ae ?_;rintro e w1 ⟨rfl,hw1⟩;subst hw1)
  |(at_make;refine nC _ rfl _ _ 152 rfl w1.heap.size 5 i0 (.int .u8 0) 1 Tryz.underlying152 hi hz0 hz1 .i64 .i64 _ _ (4*ws.length) rfl rfl (by omega) (by omega) (by rw[hz2];omega) (by unfold maxLen;omega) (ak _) ?_;intro w2 hown2 hgrow2))
 have hb2:=pV hown2;rw[Y8, <- agw] at hb2;have hB2:Below w1.heap.size w1 w2:=(aw _ w1).grown hgrow2 (ak _) (fun k e=>by cases e);have HI:Hid (w2.heap[w1.heap.size]? =some (.cells ((nQ ws 0).map u8).toArray 5 (0,0))):=hb2;clear hown2 hgrow2 hb2 HS
 go_loopw [16] (fun i wr=>∃k:Nat,k<=ws.length/\i=.int .i64 k/\Hid (wr.heap[w1.heap.size]? =some (.cells ((nQ ws k).map u8).toArray 5 (0,0)))/\Below w1.heap.size w1 wr)
  (fun i _=>ws.length - (intOf i).toNat)
 case atStart=>exact⟨0,aX _,rfl,HI,hB2⟩
 case round=>
  obtain⟨k,hk,rfl,HR,bU⟩:=hrel;clear HI hB2;by_cases hlt:k<ws.length
  ·have hck:wr.cell? ⟨g,k,none⟩=some (.int .u32 (ws[k]?.getD 0:Nat)):=(bU.cell (p:=⟨g,k,none⟩) hg).trans (HC.o k hlt)
   have sY:ws[k]?.getD 0<4294967296:=by
    rw[ba hlt];exact hsw _ (bY hlt)
   have HP:Hid (splice (nQ ws k) (4*ws.length - 4*k - 4) (qN (ws[k]?.getD 0))=nQ ws (k+1)):=agx ws k hlt;have Db:=agy ws k hk;generalize ws[k]?.getD 0=x at *;go_wp2_with (go_at_call 216;refine(ab4 x _ (by omega)).ae ?_;rintro e w3 ⟨rfl,hb3⟩)
   have bV:Below w1.heap.size w1 w3:=bU.trans (hb3.ae bU.size)
   have hx3:∀o,(w3.alloc o).heap[w1.heap.size]? =some (.cells ((nQ ws k).map u8).toArray 5 (0,0)):=fun o=>by
    have uC:w1.heap.size<wr.heap.size:=(cV.1 HR.o).1;rw[qg _ _ _ (aR uC hb3.size),hb3.block _ uC];exact HR.o
   have HX:Hid (∀o,(w3.alloc o).heap[w1.heap.size]? =some (.cells ((nQ ws k).map u8).toArray 5 (0,0))):=hx3;clear hx3 hck;obtain⟨E,hE⟩:∃E,E=4*ws.length - 4*k - 4:=⟨_,rfl⟩;(have f1:IntKind.i64.wrap (4*(ws.length:Int) - (k:Int)*4 - 4)=(E:Int):=by rw[gV];omega);(have f2:(k:Int)*4<=4*(ws.length:Int):=by omega);(have f3:4*(ws.length:Int) - (k:Int)*4<=4*(ws.length:Int):=by omega);(have f4:(E:Int)<=4*(ws.length:Int) - (k:Int)*4:=by omega);(have f6:¬4*ws.length=E:=by omega);(have f7:(4*(ws.length:Int) - (k:Int)*4).toNat - E=4:=by omega);(have hEl:E+4<=4*ws.length:=by omega);rw[<- hE] at HP;clear hE;go_region_law (refine step_copy_splice rfl (.tmp 33) (.tmp 34) 152 152 rfl 5 Tryz.underlying152 (by kernel_rfl) _ _ _ _ _ _ rfl rfl w1.heap.size E ((nQ ws k).map u8) 5 (by exact HX.o _) ((qN x).map u8) rfl (fun _=>⟨rfl,_,rfl,by exact alM x _ w3⟩) (by simp[qN];omega) (by simp[qN,u8,Value.oneCell']) w1.heap.size w1 (by exact(bV.alloc bV.size _).drew) (ak _) ?_;intro w4 hg4 hb4)
   clear f1 f2 f3 f4 f6 f7 HX;go_wp2;go_roundw
   case rel=>exact⟨k+1,by omega,by go_num,by rw[Wx,HP.o] at hg4;exact hg4,hb4⟩
   case measure=>simp[intOf];omega
  ·obtain rfl:k=ws.length:=by omega
   have wX:=EI (P:=Tryz.prog) wr 152 5 Tryz.underlying152 Tryz.underlying5 w1.heap.size 0 (4*ws.length) (4*ws.length) (mq ws) (Qy ws) (fun i hi=>by
    have e:=bE wr w1.heap.size (0+i) _ _ _ HR.o;rw[e,agz];(have qD:i<(mq ws).length:=by rw[Qy];exact hi);simp[u8,ba qD,b6]) 30 Tryz.underlying30
   clear HR;go_wp2_with (go_at_call 210;refine(BG _ _).ae ?_;rintro e w3 ⟨rfl,hw1⟩;subst hw1)
   go_ret;exact⟨by rw[HB.o];rfl,bU⟩
variable {l':List Nat} {cap g' j m off':Nat}
def bc (w:World) (g off:Nat) (l:List Nat):Prop:=
 ∃cur,w.heap[g]? =some (.cells cur 114 (0,0))/\off+l.length<=cur.size/\∀j,j<l.length ->cur[off+j]? =some (u32 (l[j]?.getD 0))
theorem bc.cell {off:Nat} {l:List Nat} (h:bc w g off l) (j:Nat) (hj:j<l.length):w.cell? ⟨g,off+j,none⟩=some (.int .u32 (l[j]?.getD 0:Nat)):=by
 obtain⟨cur,hg,_,hc⟩:=h;rw[bE w g (off+j) cur _ (0,0) hg];exact hc j hj
theorem bc.frozen {off:Nat} {l:List Nat} (h:bc w g off l) (j:Nat):w.frozen? ⟨g,j,none⟩=false:=by
 obtain⟨cur,hg,_,_⟩:=h;exact kZ w g j cur _ hg
theorem bc.lt {off:Nat} {l:List Nat} (h:bc w g off l):g<w.heap.size:=by
 obtain⟨cur,hg,_,_⟩:=h;exact(cV.1 hg).1
theorem bc.of_block {off:Nat} {l:List Nat} (h:bc w g off l) (e:w'.heap[g]? =w.heap[g]?):bc w' g off l:=by
 obtain⟨cur,hg,h1,h2⟩:=h;exact⟨cur,e.trans hg,h1,h2⟩
theorem bc.aa {off B:Nat} {l:List Nat} (h:bc w g off l) (hb:Below B w w') (hB:g<B):bc w' g off l:=h.of_block (hb.block g hB)
theorem bc.grown {off:Nat} {row:Option Nat} {l:List Nat} (h:bc w g off l) (hb:w.grownBy w' row) (hne:some g≠row):bc w' g off l:=h.of_block (hb.block g h.lt hne)
theorem bc.piece {off:Nat} {l:List Nat} (h:bc w g off l) (a n:Nat) (ha:a+n<=l.length):bc w g (off+a) ((l.drop a).take n):=by
 obtain⟨cur,hg,h1,h2⟩:=h;have hl:((l.drop a).take n).length=n:=by simp;omega
 refine⟨cur,hg,by omega,fun j hj=>?_⟩;rw[Aa,h2 (a+j) (by omega),rB,aB (by omega),He]
structure b9 (g off n:Nat) (w w':World):Prop where
 grown:w.grownBy w' (some g)
 inside:∀cur,w.heap[g]? =some (.cells cur 114 (0,0)) ->∃cur',w'.heap[g]? =some (.cells cur' 114 (0,0))/\cur'.size=cur.size/\∀i,(i<off∨off+n<=i) ->cur'[i]? =cur[i]?
theorem b9.refl (g off n:Nat) (w:World):b9 g off n w w:=⟨World.grownBy.refl _ _,fun cur h=>⟨cur,h,rfl,fun _ _=>rfl⟩⟩
theorem b9.trans {off:Nat} {a b c:World} (h:b9 g off n a b) (k:b9 g off n b c):b9 g off n a c:=
 ⟨h.grown.trans k.grown,fun cur hc=>by
  obtain⟨c1,g1,s1,e1⟩:=h.inside cur hc;obtain⟨c2,g2,s2,e2⟩:=k.inside c1 g1;exact⟨c2,g2,s2.trans s1,fun i hi=>(e2 i hi).trans (e1 i hi)⟩⟩
theorem b9.ae {off n':Nat} (h:b9 g off n w w') (h1:off'<=off) (h2:off+n<=off'+n'):b9 g off' n' w w':=
 ⟨h.grown,fun cur hc=>by
  obtain⟨c1,g1,s1,e1⟩:=h.inside cur hc;exact⟨c1,g1,s1,fun i hi=>e1 i (by omega)⟩⟩
theorem b9.aa {off B:Nat} {a:World} (hb:Below B a w) (h:b9 g off n w w') (hB:B<=g) (hs:B<=w.heap.size):Below B a w':=
 hb.grown h.grown hs (fun k e=>by cases e;exact hB)
theorem aaz (w:World) (g j:Nat) (cur:Array Value) (t:TypeId) (u:Value) (hg:w.heap[g]? =some (.cells cur t (0,0))):(w.setCell ⟨g,j,none⟩ u).heap[g]? =some (.cells (cur.setIfInBounds j u) t (0,0)):=
 jX w g j cur t u hg
theorem b9.setCell {off:Nat} (h1:off<=j) (h2:j<off+n) (u:Value):b9 g off n w (w.setCell ⟨g,j,none⟩ u):=by
 refine⟨⟨rfl,rfl,rfl,by simp[World.setCell],fun k _ hk=>iU _ _ _ _ (by rintro rfl;exact hk rfl)⟩,fun cur hc=>?_⟩;refine⟨_,aaz w g j cur _ u hc,by simp,fun i hi=>?_⟩;rw[Array.getElem?_setIfInBounds_ne (by omega)]
theorem bc.set {off:Nat} {l:List Nat} (h:bc w g off l) (j:Nat) (hj:j<l.length) (x:Nat):bc (w.setCell ⟨g,off+j,none⟩ (.int .u32 (x:Nat))) g off (l.set j x):=by
 obtain⟨cur,hg,h1,h2⟩:=h;refine⟨_,aaz w g (off+j) cur _ _ hg,by simpa using h1,fun i hi=>?_⟩;rw[uf] at hi;by_cases e:i=j
 ·subst e;rw[Array.getElem?_setIfInBounds_self_of_lt (by omega)];simp[hj,u32]
 ·rw[Array.getElem?_setIfInBounds_ne (by omega),h2 i hi,O0 (by omega)]
theorem bc.beside {off:Nat} {l:List Nat} (h:bc w g off l) (hu:b9 g off' n w w') (hd:off+l.length<=off'∨off'+n<=off):bc w' g off l:=by
 obtain⟨cur,hg,h1,h2⟩:=h;obtain⟨c1,g1,s1,e1⟩:=hu.inside cur hg;exact⟨c1,g1,by omega,fun j hj=>(e1 (off+j) (by omega)).trans (h2 j hj)⟩
theorem bc.apart {off:Nat} {l:List Nat} (h:bc w g off l) (hu:b9 g' off' n w w') (hd:g≠g'):bc w' g off l:=
 h.grown hu.grown (by simp[hd])
theorem bc.append {off:Nat} {a b:List Nat} (ha:bc w g off a) (hb:bc w g (off+a.length) b):bc w g off (a++b):=by
 obtain⟨cur,hg,h1,h2⟩:=ha;obtain⟨cur',gD,h3,h4⟩:=hb;rw[hg] at gD;cases gD;refine⟨cur,hg,by simp;omega,fun j hj=>?_⟩;rw[bM] at hj;by_cases e:j<a.length
 ·rw[List.getElem?_append_left e,h2 j e]
 ·rw[ER (by omega)];have:=h4 (j - a.length) (by omega);rwa [show off+a.length+(j - a.length)=off+j by omega] at this
theorem Aw {base:Nat} {l:List Nat} (h:w.ownsRow base 114 1 (.slice (some ⟨g,0,none⟩) n cap) n (l.map u32)):n=l.length/\l.length<=cap/\base<=g/\bc w g 0 l:=by
 have hn:n=l.length:=by have:=h.1;simp at this;exact this.symm
 rcases h.2 with ⟨h',_⟩ |⟨g',cap',cur,h',hb,hg,yV,_,hsz,kh⟩
 ·cases h'
 ·cases h';refine⟨hn,by omega,hb,cur,hg,by omega,fun j hj=>?_⟩;have e:(cur.toList.take (n*1))[j]? =(l.map u32)[j]?:=by rw[kh]
  rw[rB,aB (by omega),mS,ba hj] at e;rw[bI,ba hj];simpa using e
theorem XR {base:Nat} {l:List Nat} (h:w.ownsRow base 114 1 (.slice (some ⟨g,0,none⟩) n cap) n (l.map u32)) (hu:b9 g 0 m w w') (hl:bc w' g 0 l') (hlen:l'.length=n):w'.ownsRow base 114 1 (.slice (some ⟨g,0,none⟩) n cap) n (l'.map u32):=by
 refine⟨by simp[hlen],?_⟩;rcases h.2 with ⟨h',_⟩ |⟨g',cap',cur,h',hb,hg,yV,hm,hsz,kh⟩
 ·cases h'
 ·cases h';obtain⟨c1,g1,s1,_⟩:=hu.inside cur hg;obtain⟨c2,g2,h1,h2⟩:=hl;rw[g1] at g2;cases g2;refine .inr ⟨g,cap,c1,rfl,hb,g1,yV,hm,by omega,?_⟩;apply Hf;intro i;rw[rB,mS];by_cases hi:i<l'.length
  ·have:=h2 i hi;rw[bI,ba hi] at this;rw[aB (by omega),ba hi,vY,this];rfl
  ·rw[aD (by omega),ig (by omega)];rfl
theorem agl {base:Nat} {v:Value} {l:List Nat} (h:w.ownsRow base 114 1 v n (l.map u32)):n=l.length:=by have:=h.1;simp at this;exact this.symm
theorem LI {base B:Nat} {e:TypeId} {size:Nat} {v:Value} (h:w.ownsRow base e size v n xs) (hb:Below B w w') (hB:w.heap.size<=B):w'.ownsRow base e size v n xs:=by
 refine⟨h.1,?_⟩;rcases h.2 with h' |⟨g,cap,cur,r1,r2,r3,r4⟩
 ·exact .inl h'
 ·exact .inr ⟨g,cap,cur,r1,r2,(hb.block g (aR (cV.1 r3).1 hB)).trans r3,r4⟩
theorem H9 {base:Nat} {l:List Nat} (cur:Array Value) (hg:w.heap[g]? =some (.cells cur 114 (0,0))) (hs:cur.size=cap) (hb:base<=g) (hm:cap<=maxLen) (hc:l.length<=cap) (hl:bc w g 0 l):w.ownsRow base 114 1 (.slice (some ⟨g,0,none⟩) l.length cap) l.length (l.map u32):=by
 refine⟨by simp,.inr ⟨g,cap,cur,rfl,hb,hg,hc,hm,by omega,?_⟩⟩;obtain⟨c2,g2,h1,h2⟩:=hl;rw[hg] at g2;cases g2;apply Hf;intro i;rw[rB,mS];by_cases hi:i<l.length
 ·have:=h2 i hi;rw[bI,ba hi] at this;rw[aB (by omega),ba hi,vY,this];rfl
 ·rw[aD (by omega),ig (by omega)];rfl
def Has (w:World) (base:Nat) (v:Value) (l:List Nat):Prop:=w.ownsRow base 114 1 v l.length (l.map u32)
theorem Has.cases {base:Nat} {v:Value} {l:List Nat} (h:Has w base v l):(v=.slice none 0 0/\l=[])∨∃g cap,v=.slice (some ⟨g,0,none⟩) l.length cap/\l.length<=cap/\base<=g/\bc w g 0 l:=by
 rcases h.2 with ⟨hv,hn⟩ |⟨g,cap,cur,hv,r⟩
 ·exact .inl ⟨hv,Vg hn⟩
 ·subst hv;obtain⟨_,h1,h2,h3⟩:=Aw h;exact .inr ⟨g,cap,rfl,h1,h2,h3⟩
theorem Has.aa {base B:Nat} {v:Value} {l:List Nat} (h:Has w base v l) (hb:Below B w w') (hB:w.heap.size<=B):Has w' base v l:=LI h hb hB
theorem ak6 {base:Nat} {l:List Nat} (k:Nat) (hk:k<=l.length) (h:w.ownsRow base 114 1 (.slice (some ⟨g,0,none⟩) n cap) n (l.map u32)):w.ownsRow base 114 1 (.slice (some ⟨g,0,none⟩) k cap) k ((l.take k).map u32):=by
 have hn:=agl h;refine⟨by simp;omega,?_⟩;rcases h.2 with ⟨h',_⟩ |⟨g',cap',cur,h',hb,hg,yV,hm,hsz,kh⟩
 ·cases h'
 ·cases h';refine .inr ⟨g,cap,cur,rfl,hb,hg,by omega,hm,hsz,?_⟩;rw[List.map_take, <- kh,List.take_take,tZ (by omega),oF]
theorem ajQ (w:World):Calls Tryz.prog 168 #[.slice none 0 0] w fun e w'=>e=.returned (.string (B 0))/\Below w.heap.size w w':=by
 obtain⟨i0,hi,hz0,hz1,hz2⟩:=dK Tryz.infoByte;have wX:=fun (w2:World)=>EI (P:=Tryz.prog) w2 152 5 Tryz.underlying152 Tryz.underlying5 w.heap.size 0 0 0 [] rfl (fun i hi=>absurd hi (z7 _)) 30 Tryz.underlying30;have HB:Hid (N (strOfNums [])=0):=rfl;go_enter Tryz.func168,Tryz.ntmps168
 go_wp2_with (first
  |(go_at_call 217;refine(aeB _).ae ?_;rintro e w1 ⟨rfl,hw1⟩;subst hw1)
  |(at_make;refine nC _ rfl _ _ 152 rfl w1.heap.size 5 i0 (.int .u8 0) 1 Tryz.underlying152 hi hz0 hz1 .i64 .i64 _ _ 0 rfl rfl rfl rfl (by omega) (by unfold maxLen;omega) (ak _) ?_;intro w2 hown2 hgrow2))
 refine GX 1 ?_;rw[oB];go_wp2_with (go_at_call 210;refine(BG _ _).ae ?_;rintro e w3 ⟨rfl,hw1⟩;subst hw1)
 go_ret;exact⟨by rw[HB.o];rfl,(aw _ w1).grown hgrow2 (ak _) (fun k e=>by cases e)⟩
theorem M3 (base:Nat) (v:Value) (l:List Nat) (w:World) (hs:Small l) (hlen:l.length<=35184372088832) (h:Has w base v l):
  Calls Tryz.prog 168 #[v] w fun e w'=>e=.returned (.string (B (nw l)))/\Below w.heap.size w w':=by
 rcases h.cases with ⟨rfl,rfl⟩ |⟨g,cap,rfl,qI,hb,hl⟩
 ·rw[lA];exact ajQ w
 ·exact S0 g cap l w hs qI hlen hl.lt (fun j hj=>hl.cell j hj)
theorem Yd (r x:Nat) (hr:r<4294967296) (hx:x<4294967296):bits .or .u64 ((r:Int)*4294967296) (x:Int)=((r*4294967296+x:Nat):Int):=by
 have e1:(r:Int)*4294967296=((r*4294967296:Nat):Int):=by omega
 rw[e1,u64_or_nat _ _ (by omega) (by omega),nat_join 32 _ _ (by omega) (by omega)]
def G:Nat:=1000000000
theorem aF {p:Prop} (h:p):Hid p:=h
theorem Has.upd {base:Nat} {l:List Nat} (h:Has w base (.slice (some ⟨g,0,none⟩) n cap) l) (hu:b9 g 0 m w w') (hl:bc w' g 0 l') (hlen:l'.length=l.length):Has w' base (.slice (some ⟨g,0,none⟩) n cap) l':=by
 have hn:n=l.length:=by
  rcases h.2 with ⟨h',_⟩ |⟨g',cap',cur,h',_⟩
  ·cases h'
  ·cases h';rfl
 subst hn;have:=XR h hu hl hlen;rw[Has,hlen];exact this
theorem Ni (q l:List Nat) (k y:Nat) (hq:q.length=k) (hk:k<l.length):(q++l.drop k).set k y=q++[y]++l.drop (k+1):=by
 rw[Cu _ _ (by omega),hq,nD,mU hk,Ct,jh];rfl
variable {k:Nat} {f:Nat ->Nat}
def iy (f:Nat ->Nat):Nat ->Nat
 |0=>0
 |k+1=>iy f k+W^k*f k
theorem Yu (f g:Nat ->Nat) (k:Nat):iy (fun j=>f j+g j) k=iy f k+iy g k:=by
 induction k with
 |zero=>rfl
 |succ k ih=>simp only[iy,ih,k8];omega
theorem Ys (c:Nat) (f:Nat ->Nat) (k:Nat):iy (fun j=>c*f j) k=c*iy f k:=by
 induction k with
 |zero=>rfl
 |succ k ih=>simp only[iy,ih,k8];congr 1;rw[<- ie,dC (W^k) c,ie]
theorem Fs (l:List Nat) (k:Nat):iy (fun j=>l[j]?.getD 0) k=nw (l.take k):=by
 induction k with
 |zero=>simp[iy,lA]
 |succ k ih=>
  rw[iy,ih];by_cases h:k<l.length
  ·rw[Ql l k h,ba h];rfl
  ·rw[ig (by omega),jF (by omega:l.length<=k),jF (by omega:l.length<=k+1)];simp
theorem Yt (l:List Nat) (k:Nat) (h:l.length<=k):iy (fun j=>l[j]?.getD 0) k=nw l:=by rw[Fs,jF h]
theorem agT {g:Nat ->Nat} (h:∀j,j< k ->f j=g j):iy f k=iy g k:=by
 induction k with
 |zero=>rfl
 |succ k ih=>rw[iy,iy,ih (fun j hj=>h j (by omega)),h k (by omega)]
def acc (f:Nat ->Nat):Nat ->List Nat×Nat
 |0=>([],0)
 |k+1=>((acc f k).1++[((acc f k).2+f k) % W],((acc f k).2+f k)/W)
theorem JO (f:Nat ->Nat) (k:Nat):(acc f k).1.length=k:=by
 induction k with
 |zero=>rfl
 |succ k ih=>simp[acc,ih]
theorem TE (f:Nat ->Nat) (k:Nat):Small (acc f k).1:=by
 induction k with
 |zero=>intro x hx;simp[acc] at hx
 |succ k ih=>
  intro x hx;rw[acc] at hx;rcases bL.1 hx with hx |hx
  ·exact ih x hx
  ·simp at hx;subst hx;exact gJ _ kr
theorem TF (f:Nat ->Nat) (k:Nat):nw (acc f k).1+W^k*(acc f k).2=iy f k:=by
 induction k with
 |zero=>simp[acc,iy,lA]
 |succ k ih=>
  rw[acc,iy,Az,JO, <- ih,gS,ie];have e:=Nat.mod_add_div ((acc f k).2+f k) W
  have:W^k*(((acc f k).2+f k) % W)+W^k*(W*(((acc f k).2+f k)/W))=W^k*(acc f k).2+W^k*f k:=by
   rw[<- k8,e,k8]
  show nw (acc f k).1+W^k*(((acc f k).2+f k) % W)+W^k*(W*(((acc f k).2+f k)/W))=_;omega
theorem TG (f:Nat ->Nat) (b:Nat) (k:Nat) (h:∀j,j< k ->f j+b<(b+1)*W):(acc f k).2<=b:=by
 induction k with
 |zero=>exact aX _
 |succ k ih=>
  have h1:=ih (fun j hj=>h j (by omega));have h2:=h k (by omega);rw[acc];have:((acc f k).2+f k)/W<b+1:=EN (by rw[dC];omega);omega
theorem WQ (a q l:List Nat) (i k y:Nat) (ha:a.length=i) (hq:q.length=k) (hk:i+k<l.length):(a++q++l.drop (i+k)).set (i+k) y=a++(q++[y])++l.drop (i+(k+1)):=by
 rw[Cu _ _ (by rw[bM];omega),bM,ha,hq,nD,mU hk,Ct];simp[jh,Aa]
theorem aeQ (a q l:List Nat) (i k:Nat) (ha:a.length=i) (hq:q.length=k):(a++q++l.drop (i+k))[i+k]?.getD 0=l[i+k]?.getD 0:=by
 rw[ER (by rw[bM];omega),bM,ha,hq,nD,He,gg]
theorem getD_lt {l:List Nat} (h:Small l) (j:Nat):l[j]?.getD 0<W:=by
 by_cases hj:j<l.length
 ·rw[ba hj];exact h _ (bY hj)
 ·rw[ig (by omega)];exact kr
theorem wB {a b:List Nat} (ha:Small a) (hb:Small b):Small (a++b):=fun x hx=>(bL.1 hx).elim (ha x) (hb x)
theorem Hy {l:List Nat} (h:Small l) (k:Nat):Small (l.drop k):=fun x hx=>h x (List.mem_of_mem_drop hx)
theorem agS (l:List Nat) (k:Nat):nw l=nw (l.take k)+W^(min k l.length)*nw (l.drop k):=by
 have:=yI (l.take k) (l.drop k);rwa [Ac,eB] at this
theorem qo (l:List Nat) (k:Nat) (h:k<=l.length):nw l=nw (l.take k)+W^k*nw (l.drop k):=by
 have:=agS l k;rwa [tZ h] at this
theorem Qk (n:Nat):nw (List.replicate n 0)=0:=by
 induction n with
 |zero=>rfl
 |succ n ih=>rw[Ha,jK,ih];simp
theorem WB (n:Nat):Small (List.replicate n 0):=fun x hx=>by rw[(List.mem_replicate.1 hx).2];exact kr
def eW (xs ys:List Nat) (j:Nat):Nat:=xs[j]?.getD 0+ys[j]?.getD 0
theorem Wn (xs ys:List Nat) (k:Nat):iy (eW xs ys) k=nw (xs.take k)+nw (ys.take k):=by
 rw[show eW xs ys=fun j=>(fun j=>xs[j]?.getD 0) j+(fun j=>ys[j]?.getD 0) j from rfl,Yu,Fs,Fs]
theorem aef (xs ys:List Nat) (hx:Small xs) (hy:Small ys) (k:Nat):(acc (eW xs ys) k).2<=1:=by
 refine TG _ 1 k fun j _=>?_;have h1:=getD_lt hx j;have h2:=getD_lt hy j;unfold eW;omega
theorem PX (g off cap b Ib im:Nat) (xs ys:List Nat) (w:World) (gN:Small xs) (iB:Small ys) (hlen:xs.length<=35184372088832) (yN:ys.length<=xs.length) (hx:bc w g off xs) (hy:bc w b Ib ys) (hgb:b≠g):
  Calls Tryz.prog 218 #[.slice (some ⟨g,off,none⟩) xs.length cap,.slice (some ⟨b,Ib,none⟩) ys.length im] w fun e w'=>∃(c:Bool) (l':List Nat),e=.returned (.bool c)/\l'.length=xs.length/\Small l'/\nw l'+(if c then W^xs.length else 0)=nw xs+nw ys/\bc w' g off l'/\b9 g off xs.length w w':=by
 go_enter Tryz.func218,Tryz.ntmps218;go_wp2
 go_loopw [5,9] (fun c i wr=>∃k:Nat,k<=xs.length/\i=.int .i64 k/\c=.int .u64 ((acc (eW xs ys) k).2:Nat)/\bc wr g off ((acc (eW xs ys) k).1++xs.drop k)/\b9 g off xs.length w wr)
  (fun _ i _=>xs.length - (intOf i).toNat)
 case atStart=>exact⟨0,aX _,rfl,rfl,by simpa [acc] using hx,b9.refl _ _ _ _⟩
 case round=>
  obtain⟨k,hk,rfl,rfl,cY,gz⟩:=hrel;have uF:=aef xs ys gN iB k;have dI:=JO (eW xs ys) k;have rO:=TE (eW xs ys) k;have HQ:=aF (TF (eW xs ys) k);by_cases hlt:k<xs.length
  ·have gC:k<((acc (eW xs ys) k).1++xs.drop k).length:=by rw[bM,dI,l7];omega
   have hcell:=cY.cell k gC;have hfz:=cY.frozen (off+k);have cX:=fun y=>cY.set k gC y;simp only[Ni _ xs k _ dI hlt] at cX
   have tz:((acc (eW xs ys) k).1++xs.drop k)[k]?.getD 0=xs[k]?.getD 0:=by
    rw[ER (by omega),dI,nD,He,gg]
   rw[tz] at hcell;have HG:Hid (acc (eW xs ys) (k+1)=((acc (eW xs ys) k).1++[((acc (eW xs ys) k).2+eW xs ys k) % W],((acc (eW xs ys) k).2+eW xs ys k)/W)):=rfl;have sY:=getD_lt gN k;have CU:=getD_lt iB k;rw[fT] at sY CU;by_cases Ru:k<ys.length
   focus
    have ajo:=(hy.apart gz hgb).cell k Ru;have HF:Hid (eW xs ys k=xs[k]?.getD 0+ys[k]?.getD 0):=rfl;generalize (acc (eW xs ys) k).2=c at *;generalize (acc (eW xs ys) k).1=q at *;generalize eW xs ys k=s at *;generalize xs[k]?.getD 0=x at *;generalize ys[k]?.getD 0=y at *;have jV:=aF cX;clear cX tz gC cY HQ;go_wp2;have hv:Value.int .u32 (((c:Int)+(x:Int)+(y:Int)) % 4294967296)=.int .u32 (((c+s) % W:Nat):Int):=int_eq (by rw[fT,HF.o];omega);have hv2:Value.int .u64 (((c:Int)+(x:Int)+(y:Int))/4294967296)=.int .u64 (((c+s)/W:Nat):Int):=int_eq (by rw[fT,HF.o];omega)
   rotate_left
   focus
    (have Iq:ys[k]?.getD 0=0:=by rw[ig (by omega)];rfl);by_cases hc0:(acc (eW xs ys) k).2=0
    ·have HE:Hid (nw ((acc (eW xs ys) k).1++xs.drop k)=nw xs+nw ys):=by
      show _=_;have e:=HQ.o;rw[hc0,j3,gg,Wn,jF (show ys.length<=k by omega)] at e;rw[yI,dI,e,qo xs k hk];omega
     have hsm:=wB rO (Hy gN k);(have dJ:((acc (eW xs ys) k).1++xs.drop k).length=xs.length:=by rw[bM,dI,l7];omega);rw[hc0];generalize (acc (eW xs ys) k).1++xs.drop k=q at *;clear cX hcell hfz HG tz gC HQ;go_wp2;go_ret;exact⟨false,q,rfl,dJ,hsm,by rw[HE.o];rfl,cY,gz⟩
    focus
     (have HF:Hid (eW xs ys k=xs[k]?.getD 0):=by show _=_;rw[eW,Iq,gg]);(have hcb:(((acc (eW xs ys) k).2:Int)==0)=false:=by rw[EL];omega);generalize (acc (eW xs ys) k).2=c at *;generalize (acc (eW xs ys) k).1=q at *;generalize eW xs ys k=s at *;generalize xs[k]?.getD 0=x at *;have jV:=aF cX;clear cX tz gC cY HQ Iq hc0;go_wp2;have hv:Value.int .u32 (((c:Int)+(x:Int)) % 4294967296)=.int .u32 (((c+s) % W:Nat):Int):=int_eq (by rw[fT,HF.o];omega);have hv2:Value.int .u64 (((c:Int)+(x:Int))/4294967296)=.int .u64 (((c+s)/W:Nat):Int):=int_eq (by rw[fT,HF.o];omega)
   all_goals
    rw[hv,hv2];have hq:=jV.o ((c+s) % W);go_roundw
    case rel=>exact⟨k+1,by omega,by go_num,by rw[HG.o],by rw[HG.o];exact hq,gz.trans (b9.setCell (KQ _ _) (by omega) _)⟩
    case measure=>simp[intOf];omega
  ·obtain rfl:k=xs.length:=by omega
   rw[List.drop_length,l8] at cY
   have HE:Hid (nw (acc (eW xs ys) xs.length).1+W^xs.length*(acc (eW xs ys) xs.length).2=nw xs+nw ys):=by
    show _=_;rw[HQ.o,Wn,iR,jF yN]
   generalize (acc (eW xs ys) xs.length).1=q at *;generalize (acc (eW xs ys) xs.length).2=c at *;clear HQ;rcases (show c=0∨c=1 by omega) with rfl |rfl
   ·go_wp2;go_ret;exact⟨false,q,rfl,dI,rO,by have:=HE.o;simpa using this,cY,gz⟩
   ·go_wp2;go_ret;exact⟨true,q,rfl,dI,rO,by have:=HE.o;simpa using this,cY,gz⟩
section
open Go.Shelf
attribute [local go_sem] Oper.semAt_some
theorem wA (s:ByteArray) (w:World) (hs:s.size<=140737488355328):
  Calls Tryz.prog 170 #[.string s] w fun e w'=>∃g cap,e=.returned (.slice (some ⟨g,0,none⟩) (words (N s)).length cap)/\Has w' w.heap.size (.slice (some ⟨g,0,none⟩) (words (N s)).length cap) (words (N s))/\Below w.heap.size w w':=by
 refine(fZ (n:=6)).1 ?_;have fE:(B (N s)).size<=140737488355328:=aM (iu s) hs;have aT:=adJ (N s);have hN:=cO (N s);generalize hm:N s=m at *;obtain⟨i0,hi,hz0,hz1,hz2⟩:=dK Tryz.infoU32;refine rq Tryz.func170 rfl trivial ?_ rfl;simp only[Tryz.ntmps170,k9,di,jG,Nat.reduceAdd,Nat.reduceSub,lh,lg,ld,kF,gi,eC];have HM:Hid (N s=m):=hm;have HN:Hid (N (B m)=m):=hN;have HU:Hid (upto m (((B m).size+3)/4)=words m):=aT;clear hm hN aT
 gi_wp2_with (first
  |(refine⟨trivial,?_⟩;gi_at_call 210;refine(fZ.2 (BG _ _)).ae ?_;rintro e w' ⟨rfl,rfl⟩;rw[HM.o])
  |(refine⟨trivial,?_⟩;gi_at_call 219;refine(fZ.2 (abI _ _ fE)).ae ?_;rintro e w' ⟨rfl,rfl⟩)
  |(gi_at_make;refine wpListIn_make_own _ rfl _ _ 198 rfl w'.heap.size 114 i0 (.int .u32 0) 1 Tryz.underlying198 hi hz0 hz1 .i64 .i64 _ (((B m).size+3)/4) rfl rfl (by omega) (by rw[hz2];omega) (by unfold maxLen;omega) (ak _) ?_;intro w1 hown1 I4)
  |(refine⟨trivial,?_⟩;gi_at_call 220;refine(akg _ _ _).ae ?_;rintro e w2 ⟨rfl,rfl⟩))
 have AV:=I4.size;have hB1:Below w'.heap.size w' w1:=(aw _ w').grown I4 (ak _) (fun k e=>by cases e);have bO:=aZ w1 198 (.slice (some ⟨w'.heap.size,0,none⟩) 0 (((B m).size+3)/4));have bN:=aZ (w1.alloc (.cells #[.slice (some ⟨w'.heap.size,0,none⟩) 0 (((B m).size+3)/4)] 198)) 30 (.string (B m));rw[dE] at bN;have hB0:Below w'.heap.size w' ((w1.alloc (.cells #[.slice (some ⟨w'.heap.size,0,none⟩) 0 (((B m).size+3)/4)] 198)).alloc (.cells #[.string (B m)] 30)):=(hB1.alloc AV _).alloc (by simp;omega) _
 refine KG (α:=Nat) rfl (by omega) (gf:=244) (lb:= #[.pointer (some ⟨w1.heap.size+1,0,none⟩)]) rfl trivial (enters_of Tryz.func244 (by kernel_rfl) rfl)
  (akf 5 (by omega) (w1.heap.size+1) (B m) fE _ (by simp) bN.cell) mK.t (mK.b (by simp)) (aw _ _) (fun _=>rfl)
  (fun (pre:List Nat) V=>((∃v,Boxed V w1.heap.size 198 v/\V.ownsRow w'.heap.size 114 1 v pre.length (pre.map u32)/\v≠.slice none 0 0)/\Below w'.heap.size w' V)/\Boxed V (w1.heap.size+1) 30 (.string (B m)))
  (fun _ _ _=>False)
  (eG (eG (fB (holdsRow_own w'.heap.size w1.heap.size 198 114 1 (fun pre:List Nat=>pre.length) (fun pre=>pre.map u32) (fun _ v=>v≠.slice none 0 0)) _) (x7 (ak _) (by simp;omega))) (fB (iH _ _ (fun _=>.string (B m))) _))
  (fun _ _ _ _ _ hs _ _=>hs)
  ⟨⟨⟨_,bO.alloc _,(hown1.alloc _).alloc _,by simp⟩,hB0⟩,bN⟩
  (fun x=> {tmps:= #[.string (B m),undef,.slice none 0 0,.pointer (some ⟨w1.heap.size,0,none⟩),.int .u32 (x:Nat),.string s,.string (B m),.string (B m),.int .i64 (((B m).size+3)/4),.slice (some ⟨w'.heap.size,0,none⟩) 0 (((B m).size+3)/4),.string (B m),.func (.func 244) #[] #[.pointer (some ⟨w1.heap.size+1,0,none⟩)],.int .u32 (x:Nat),undef,undef,undef,undef,undef],defers:=[]}) ?assign ?body ?done ?stop
 case assign=>
  intro l x V K hK;gi_wp2
  exact hK
 case body=>
  rintro l pre x V ⟨⟨⟨v,hv,hrow,_⟩,hB⟩,hb⟩ hlt;have hc:=hv.cell;gi_wp2_with (gi_at_builtin;refine wpListIn_append_own _ rfl _ _ 198 rfl w'.heap.size 114 i0 (.int .u32 0) 1 4 Tryz.underlying198 hi hz0 hz1 hz2 rfl (by decide) _ _ _ rfl (hrow.alloc _) ⟨V.heap.size,0,none⟩ 1 1 [.int .u32 (x:Nat)] rfl rfl (cell_one_new _ _ _) (by simp[Value.oneCell']) (by unfold maxLen;omega) (by omega) (by have:=hB.size;simp;omega) ?_;intro v' w3 hown' hgrow _;obtain⟨g',cap',rfl⟩:=ownsRow_succ hown';obtain⟨lD,hv2,hr2,hk2,hb2⟩:=hv.appended (by decide) hrow hB.size AV hown' hgrow;have hb3:=(hb.alloc _).kept hgrow (hb.not_row (by decide) hrow);have hc1:=lD.cell;have Dr:=lD.frozen)
  have hb4:=hb3.other (B':=w1.heap.size) (by omega) (.slice (some ⟨g',0,none⟩) (pre.length+1) cap');exact⟨hk2.from _,hb4.cell.trans hb.cell.symm,⟨⟨_,hv2,by simpa [u32] using hr2,by simp⟩,hB.trans hb2⟩,hb4⟩
 case done=>
  rintro D ys V hD rfl ⟨⟨⟨v,hv,hrow,uz⟩,hB⟩,hb⟩ hK;have hc:=hv.cell;rw[HN.o,HU.o] at hrow;gi_wp2
  refine⟨by simp,.inl ⟨_,_,rfl,x5 hK,?_⟩⟩
  obtain⟨g,cap,rfl⟩:∃g cap,v=.slice (some ⟨g,0,none⟩) (words m).length cap:=by
   rcases hrow.2 with ⟨e,_⟩ |⟨g,cap,_,e,_⟩
   ·exact absurd e uz
   ·exact⟨g,cap,e⟩
  refine⟨_,x6 rfl _ _ _,g,cap,rfl,?_,hB.trans (sK (w:=w') (ak _) V D _ _ (by simp at hD;omega) hK rfl rfl)⟩;exact ownsRow_putObj hrow _ hK rfl
 case stop=>
  rintro D c pre V _ _ h _;exact h.elim
end
theorem Ij (n:Nat):(madeCells (Value.int .u32 0).cells (n*1)).toList=(List.replicate n 0).map u32:=by
 rw[show (Value.int .u32 0).cells= #[Value.int .u32 0] from rfl,GY,oF,KS];rfl
theorem L6 {l:List Nat} (h:w.heap[g]? =some (.cells (l.map u32).toArray 114 (0,0))):bc w g 0 l:=
 ⟨_,h,by simp,fun j hj=>by simp[ba hj]⟩
theorem Wy (l:List Nat):splice ((List.replicate (l.length+1) 0).map u32) 0 (l.map u32)=(l++[0]).map u32:=by
 rw[Wx,splice,List.take_zero,gi,bI,List.drop_replicate];simp
theorem ab0 {l:List Nat} (h:bc w g 0 l):∀j v,(l.map u32)[j]? =some v ->w.cell? ((⟨g,0,none⟩:Addr).add j)=some v:=by
 intro j v hj
 have nY:j<l.length:=by
  rcases cM j l.length with h |h
  ·exact h
  ·rw[ig (by simpa using h)] at hj;cases hj
 rw[Lib.add_plain,h.cell j nY];rw[mS,ba nY] at hj;rw[ba nY];exact hj
theorem Yj (l:List Nat):∀v∈l.map u32,v.oneCell'=true:=by
 intro v hv;obtain⟨x,_,rfl⟩:=aU.1 hv;rfl
theorem Wb {xs ys:List Nat} (hx:Small xs) (hy:Small ys) (h:ys.length<=xs.length):nw xs+nw ys<W^(xs.length+1):=by
 have h1:=sV xs hx;have h2:=sV ys hy;have h3:W^ys.length<=W^xs.length:=jf kr h;have h4:W^(xs.length+1)=W^xs.length*W:=gS ..;have h5:W^xs.length*2<=W^xs.length*W:=kE _ (by decide);omega
theorem afT (gx jR gy im:Nat) (xs ys:List Nat) (w:World) (gN:Small xs) (iB:Small ys) (hlen:xs.length<=17592186044416) (yN:ys.length<=xs.length) (hx:bc w gx 0 xs) (hy:bc w gy 0 ys):
  Calls Tryz.prog 169 #[.slice (some ⟨gx,0,none⟩) xs.length jR,.slice (some ⟨gy,0,none⟩) ys.length im] w fun e w'=>∃v l,e=.returned v/\Has w' w.heap.size v l/\Small l/\l.length=xs.length+1/\nw l=nw xs+nw ys/\Below w.heap.size w w':=by
 obtain⟨i0,hi,hz0,hz1,hz2⟩:=dK Tryz.infoU32;have hnl:¬xs.length<ys.length:=by omega
 have hgx:=hx.lt;have Dh:=hy.lt;go_enter Tryz.func169,Tryz.ntmps169
 go_wp2_with (first
  |(at_make;refine nC _ rfl _ _ 198 rfl w.heap.size 114 i0 (.int .u32 0) 1 Tryz.underlying198 hi hz0 hz1 .i64 .i64 _ _ (xs.length+1) rfl rfl (by omega) (by omega) (by rw[hz2];omega) (by unfold maxLen;omega) (ak _) ?_;intro w2 hown2 hgrow2;have hb2:=pV hown2;rw[Ij] at hb2;have bq:=aF hb2;have hB2:Below w.heap.size w w2:=(aw _ w).grown hgrow2 (ak _) (fun k e=>by cases e);have hx2:=hx.aa hB2 hgx;clear hown2 hgrow2 hb2)
  |(refine wpList_copy_splice rfl (.tmp 17) (.tmp 18) 198 198 rfl 114 Tryz.underlying198 (by kernel_rfl) _ _ _ _ _ _ rfl rfl w.heap.size 0 ((List.replicate (xs.length+1) 0).map u32) 114 (by exact bq.o) (xs.map u32) (by rw[cH];exact(tZ (Nat.le_succ _)).symm) (fun _=>⟨rfl,_,rfl,ab0 hx2⟩) (by simp) (Yj xs) w.heap.size w hB2 (ak _) ?_;intro w3 hg3 bV))
 rw[Wy] at hg3;have hl3:=L6 hg3.o;have FA:=hy.aa bV Dh;have e1:(xs++[0]).length=xs.length+1:=by simp
 have hs1:Small (xs++[0]):=wB gN (fun x hx=>by simp at hx;subst hx;exact kr);have nW:=PX w.heap.size 0 (xs.length+1) gy 0 im (xs++[0]) ys w3 hs1 iB (by omega) (by omega) hl3 FA (by omega);rw[e1,Az,j3,gg] at nW;refine nW.ae ?_;rintro e w4 ⟨c,l4,rfl,hl4,jO,AZ,IK,tj⟩;have dO:Below w.heap.size w w4:=b9.aa bV tj (ak _) bV.size;obtain⟨cur,hc4,hcs,_⟩:=tj.inside _ hg3.o;have nX:=H9 (base:=w.heap.size) (cap:=xs.length+1) cur hc4 (by rw[hcs];simp) (ak _) (by unfold maxLen;omega) (by omega) IK
 have HN:Hid (nw l4=nw xs+nw ys):=by
  show _=_;cases c with
  |false=>simpa using AZ
  |true=>
   have hf:=Wb gN iB yN;simp only[if_true] at AZ;omega
 have HL:=aF hl4;rw[hl4] at nX;clear AZ hl4 hc4 hcs nW hg3 IK tj;go_wp2;go_ret;exact⟨_,l4,rfl,by rw[Has,HL.o];exact nX,jO,HL.o,HN.o,dO⟩
theorem afS (gx jR gy im:Nat) (xs ys:List Nat) (w:World) (gN:Small xs) (iB:Small ys) (hlen:xs.length<=17592186044416) (hlt:ys.length<xs.length) (hx:bc w gx 0 xs) (hy:bc w gy 0 ys):
  Calls Tryz.prog 169 #[.slice (some ⟨gy,0,none⟩) ys.length im,.slice (some ⟨gx,0,none⟩) xs.length jR] w fun e w'=>∃v l,e=.returned v/\Has w' w.heap.size v l/\Small l/\l.length=xs.length+1/\nw l=nw xs+nw ys/\Below w.heap.size w w':=by
 obtain⟨i0,hi,hz0,hz1,hz2⟩:=dK Tryz.infoU32;have yN:ys.length<=xs.length:=by omega
 have hgx:=hx.lt;have Dh:=hy.lt;go_enter Tryz.func169,Tryz.ntmps169
 go_wp2_with (first
  |(at_make;refine nC _ rfl _ _ 198 rfl w.heap.size 114 i0 (.int .u32 0) 1 Tryz.underlying198 hi hz0 hz1 .i64 .i64 _ _ (xs.length+1) rfl rfl (by omega) (by omega) (by rw[hz2];omega) (by unfold maxLen;omega) (ak _) ?_;intro w2 hown2 hgrow2;have hb2:=pV hown2;rw[Ij] at hb2;have bq:=aF hb2;have hB2:Below w.heap.size w w2:=(aw _ w).grown hgrow2 (ak _) (fun k e=>by cases e);have hx2:=hx.aa hB2 hgx;clear hown2 hgrow2 hb2)
  |(refine wpList_copy_splice rfl (.tmp 17) (.tmp 18) 198 198 rfl 114 Tryz.underlying198 (by kernel_rfl) _ _ _ _ _ _ rfl rfl w.heap.size 0 ((List.replicate (xs.length+1) 0).map u32) 114 (by exact bq.o) (xs.map u32) (by rw[cH];exact(tZ (Nat.le_succ _)).symm) (fun _=>⟨rfl,_,rfl,ab0 hx2⟩) (by simp) (Yj xs) w.heap.size w hB2 (ak _) ?_;intro w3 hg3 bV))
 rw[Wy] at hg3;have hl3:=L6 hg3.o;have FA:=hy.aa bV Dh;have e1:(xs++[0]).length=xs.length+1:=by simp
 have hs1:Small (xs++[0]):=wB gN (fun x hx=>by simp at hx;subst hx;exact kr);have nW:=PX w.heap.size 0 (xs.length+1) gy 0 im (xs++[0]) ys w3 hs1 iB (by omega) (by omega) hl3 FA (by omega);rw[e1,Az,j3,gg] at nW;refine nW.ae ?_;rintro e w4 ⟨c,l4,rfl,hl4,jO,AZ,IK,tj⟩;have dO:Below w.heap.size w w4:=b9.aa bV tj (ak _) bV.size;obtain⟨cur,hc4,hcs,_⟩:=tj.inside _ hg3.o;have nX:=H9 (base:=w.heap.size) (cap:=xs.length+1) cur hc4 (by rw[hcs];simp) (ak _) (by unfold maxLen;omega) (by omega) IK
 have HN:Hid (nw l4=nw xs+nw ys):=by
  show _=_;cases c with
  |false=>simpa using AZ
  |true=>
   have hf:=Wb gN iB yN;simp only[if_true] at AZ;omega
 have HL:=aF hl4;rw[hl4] at nX;clear AZ hl4 hc4 hcs nW hg3 IK tj;go_wp2;go_ret;exact⟨_,l4,rfl,by rw[Has,HL.o];exact nX,jO,HL.o,HN.o,dO⟩
theorem afU (gx jR gy im:Nat) (xs ys:List Nat) (w:World) (gN:Small xs) (iB:Small ys) (hlx:xs.length<=17592186044416) (hly:ys.length<=17592186044416) (hx:bc w gx 0 xs) (hy:bc w gy 0 ys):
  Calls Tryz.prog 169 #[.slice (some ⟨gx,0,none⟩) xs.length jR,.slice (some ⟨gy,0,none⟩) ys.length im] w fun e w'=>∃v l,e=.returned v/\Has w' w.heap.size v l/\Small l/\l.length<=17592186044417/\nw l=nw xs+nw ys/\Below w.heap.size w w':=by
 by_cases h:ys.length<=xs.length
 ·refine(afT gx jR gy im xs ys w gN iB hlx h hx hy).ae ?_;rintro e w' ⟨v,l,rfl,h1,h2,h3,h4,h5⟩;exact⟨v,l,rfl,h1,h2,by omega,h4,h5⟩
 ·refine(afS gy im gx jR ys xs w iB gN hly (by omega) hy hx).ae ?_;rintro e w' ⟨v,l,rfl,h1,h2,h3,h4,h5⟩;exact⟨v,l,rfl,h1,h2,by omega,by omega,h5⟩
theorem uJ {base:Nat} {l:List Nat} (h:Has w base (.slice (some ⟨g,0,none⟩) n cap) l) (hb:Below w.heap.size w w'):bc w' g 0 l:=by
 rcases h.cases with ⟨e,_⟩ |⟨g',cap',e,_,_,hl⟩
 ·cases e
 ·cases e;exact hl.aa hb hl.lt
theorem wk (s:ByteArray) (k:Nat) (h:s.size<=4*k):(words (N s)).length<=k:=by
 rw[K8, <- kX];have:=iu s;omega
theorem amX (a b:ByteArray) (w:World) (ha:a.size<=1099511627776) (hb:b.size<=1099511627776):
  Calls Tryz.prog 111 #[.string a,.string b] w fun e w'=>e=.returned (.string (B (N a+N b)))/\Below w.heap.size w w':=by
 have km:=wk a 274877906944 (by omega);have js:=wk b 274877906944 (by omega);go_enter Tryz.func111,Tryz.ntmps111;go_wp2_with fail
 refine(wA a _ (by omega)).ae ?_;rintro e w1 ⟨g1,c1,rfl,h1,hb1⟩;go_wp2_with fail
 refine(wA b _ (by omega)).ae ?_;rintro e w2 ⟨g2,c2,rfl,h2,hb2⟩;have iJ:=uJ h1 hb2;have hl2:=uJ h2 (aw _ _);have hB2:Below w.heap.size w w2:=hb1.trans (hb2.ae hb1.size);go_wp2_with fail
 refine(afU g1 c1 g2 c2 _ _ _ (ll _) (ll _) (by omega) (by omega) iJ hl2).ae ?_;rintro e w3 ⟨v,l,rfl,h3,hs3,uB,hv3,hb3⟩;have bV:Below w.heap.size w w3:=hB2.trans (hb3.ae hB2.size);have HV:=aF hv3;clear hv3;go_wp2_with fail
 refine(M3 _ _ _ _ hs3 (by omega) h3).ae ?_;rintro e w4 ⟨rfl,hb4⟩;go_wp2;go_ret;exact⟨by rw[HV.o,jJ,jJ];rfl,bV.trans (hb4.ae bV.size)⟩
theorem toList_data (s:ByteArray):s.toList=s.data.toList:=by
 obtain⟨⟨l⟩⟩:=s;simp
theorem ae4 {a b:Bool} (h:a=b):Ending.returned (.bool a)=.returned (.bool b):=by rw[h]
def iF (m n:Nat):Int:=if m<n then -1 else if m=n then 0 else 1
theorem Zj:∀(l m:List UInt8),l.length=m.length ->Op.bytesLess l m=decide (nb l<nb m)
 |[],[],_=>rfl
 |x::l,y::m,h=>by
  have hl:l.length=m.length:=by simpa using h
  have ih:=Zj l m hl;have h1:=rL l;have h2:=rL m;rw[CO,CO, <- hl];rw[<- hl] at h2;rw[Op.bytesLess];rcases OO x.toNat y.toNat with e |e |e
  ·have rN:(decide (x<y))=true:=by simpa [UInt8.lt_iff_toNat_lt] using e
   have:(x.toNat+1)*256^l.length<=y.toNat*256^l.length:=jD _ e;rw[fC] at this;rw[rN,Bool.true_or];symm;rw[OI];omega
  ·have rN:x=y:=KN.1 e;subst rN;(have h3:(decide (x<x))=false:=by simp);rw[h3,Bool.false_or,beq_self_eq_true,Ak,ih];congr 1
   apply propext;omega
  ·have h3:(decide (x<y))=false:=by simp[UInt8.lt_iff_toNat_lt];omega
   (have h4:(x==y)=false:=by rw[EL];rintro rfl;omega);have:(y.toNat+1)*256^l.length<=x.toNat*256^l.length:=jD _ e;rw[fC] at this;rw[h3,h4,Bool.false_or,Bool.false_and];symm;rw[KL];omega
theorem YK:∀(l m:List UInt8),l.length=m.length ->nb l=nb m ->l=m
 |[],[],_,_=>rfl
 |x::l,y::m,h,e=>by
  have hl:l.length=m.length:=by simpa using h
  have h1:=rL l;have h2:=rL m;rw[CO,CO, <- hl] at e;rw[<- hl] at h2;have hp:0<256^l.length:=ru (by decide)
  have hx:x.toNat=y.toNat:=by
   rcases OO x.toNat y.toNat with c |c |c
   ·have:(x.toNat+1)*256^l.length<=y.toNat*256^l.length:=jD _ c;rw[fC] at this;omega
   ·exact c
   ·have:(y.toNat+1)*256^l.length<=x.toNat*256^l.length:=jD _ c;rw[fC] at this;omega
  rw[hx] at e;rw[KN.1 hx,YK l m hl (by omega)]
theorem amV (a b:ByteArray) (w:World) (h:a.size=b.size):
  Calls Tryz.prog 212 #[.string a,.string b] w fun e w'=>e=.returned (.int .i64 (iF (N a) (N b)))/\w'=w:=by
 have hlt:=Zj a.data.toList b.data.toList (by rw[CC,CC];exact h);rcases OO (N a) (N b) with h1 |h1 |h1
 ·have hL:Op.bytesLess a.toList b.toList=true:=by rw[toList_data,toList_data,hlt];simpa [N] using h1
  have HR:Hid (iF (N a) (N b)= -1):=by show _=_;rw[iF,aB h1]
  clear hlt h1;go_enter Tryz.func212,Tryz.ntmps212;go_wp2;go_ret;exact⟨yB HR.o.symm,rfl⟩
 ·have hL:Op.bytesLess a.toList b.toList=false:=by rw[toList_data,toList_data,hlt];simp only[N] at h1;rw[KL];omega
  have hE:(a.toList==b.toList)=true:=by
   rw[toList_data,toList_data,YK a.data.toList b.data.toList (by rw[CC,CC];exact h) h1];simp
  have HR:Hid (iF (N a) (N b)=0):=by show _=_;rw[iF,aD (by omega),aB h1]
  clear hlt h1;go_enter Tryz.func212,Tryz.ntmps212;go_wp2;go_ret;exact⟨yB HR.o.symm,rfl⟩
 ·have hL:Op.bytesLess a.toList b.toList=false:=by rw[toList_data,toList_data,hlt];simp only[N] at h1;rw[KL];omega
  have hE:(a.toList==b.toList)=false:=by
   rw[toList_data,toList_data,EL];intro e;rw[N,N,e] at h1;omega
  have HR:Hid (iF (N a) (N b)=1):=by show _=_;rw[iF,aD (by omega),aD (by omega)]
  clear hlt h1;go_enter Tryz.func212,Tryz.ntmps212;go_wp2;go_ret;exact⟨yB HR.o.symm,rfl⟩
theorem U9 (a b:ByteArray) (w:World):
  Calls Tryz.prog 164 #[.string a,.string b] w fun e w'=>e=.returned (.int .i64 (iF (N a) (N b)))/\w'=w:=by
 by_cases h:(B (N a)).size=(B (N b)).size
 ·have hc:=fun V=>amV (B (N a)) (B (N b)) V h;simp only[cO] at hc;have HC:=aF hc;have hne:(((B (N a)).size:Int) !=((B (N b)).size:Int))=false:=by rw[h];simp
  clear hc h;go_enter Tryz.func164,Tryz.ntmps164;go_wp2_with fail
  refine(BG _ _).ae ?_;rintro e w1 ⟨rfl,hw⟩;subst hw;go_wp2_with fail
  refine(BG _ _).ae ?_;rintro e w2 ⟨rfl,hw⟩;subst hw;go_wp2_with fail
  refine(HC.o _).ae ?_;rintro e w3 ⟨rfl,hw⟩;subst hw;go_wp2;go_ret;exact⟨rfl,rfl⟩
 ·have hne:(((B (N a)).size:Int) !=((B (N b)).size:Int))=true:=by rw[bne_iff_ne];omega
  have HR:Hid (Lib.compareInt (((B (N a)).size:Nat):Int) (((B (N b)).size:Nat):Int)=iF (N a) (N b)):=by
   show _=_;rw[kX,kX] at h⊢;unfold Lib.compareInt iF;rcases cM (N a) (N b) with c |c
   ·have:=Tr (vP c);rw[aB (by omega),aB c]
   ·have:=Tr c;rw[aD (by omega),aB (by omega),aD (by omega),aD (by intro e;rw[e] at h;exact h rfl)]
  clear h;go_enter Tryz.func164,Tryz.ntmps164;go_wp2_with fail
  refine(BG _ _).ae ?_;rintro e w1 ⟨rfl,hw⟩;subst hw;go_wp2_with fail
  refine(BG _ _).ae ?_;rintro e w2 ⟨rfl,hw⟩;subst hw;go_wp2_with fail
  refine(Tryz.cmp_Compare_int _ _ _).ae ?_;rintro e w3 ⟨rfl,hw⟩;subst hw;go_wp2;go_ret;exact⟨yB HR.o,rfl⟩
def cE (xs ys:List Nat) (f:Nat):Nat ->List Nat×Nat×Nat
 |0=>([],0,0)
 |k+1=>((cE xs ys f k).1++[(xs[k]?.getD 0+2*W - ((cE xs ys f k).2.1+ys[k]?.getD 0*f) % W - (cE xs ys f k).2.2) % W],
   ((cE xs ys f k).2.1+ys[k]?.getD 0*f)/W,if xs[k]?.getD 0<((cE xs ys f k).2.1+ys[k]?.getD 0*f) % W+(cE xs ys f k).2.2 then 1 else 0)
theorem WR (xs ys:List Nat) (f k:Nat):(cE xs ys f k).1.length=k:=by
 induction k with
 |zero=>rfl
 |succ k ih=>simp[cE,ih]
theorem aeS (xs ys:List Nat) (f k:Nat):Small (cE xs ys f k).1:=by
 induction k with
 |zero=>intro x hx;simp[cE] at hx
 |succ k ih=>
  intro x hx;rw[cE] at hx;rcases bL.1 hx with hx |hx
  ·exact ih x hx
  ·simp only[eA] at hx;subst hx;exact gJ _ kr
theorem WS (xs ys:List Nat) (f k:Nat):(cE xs ys f k).2.2<=1:=by
 cases k with
 |zero=>exact aX _
 |succ k=>
  rw[cE];show (if _ then 1 else 0)<=1;split<;>omega
theorem aeU (xs ys:List Nat) (f:Nat) (hy:Small ys) (hf:f<W) (k:Nat):(cE xs ys f k).2.1<W:=by
 induction k with
 |zero=>exact kr
 |succ k ih=>
  rw[cE];refine EN ?_;have h1:=getD_lt hy k;have h2:ys[k]?.getD 0*f<=(W - 1)*(W - 1):=jE (by omega) (by omega);have h3:(W - 1)*(W - 1)+W<=W*W:=by decide
  omega
theorem aeR (x c t b:Nat) (hx:x<W) (hb:b<=1):
  (x+2*W - (c+t) % W - b) % W+t+b+c=x+W*((c+t)/W+if x<(c+t) % W+b then 1 else 0):=by
 have e:=Nat.mod_add_div (c+t) W;have hlo:=gJ (c+t) kr;generalize (c+t) % W=lo at *;generalize (c+t)/W=q at *;rw[k8];by_cases h:x<lo+b
 ·rw[aB h]
  have:(x+2*W - lo - b) % W=x+W - lo - b:=by
   rw[show x+2*W - lo - b=(x+W - lo - b)+W by omega,Nat.add_mod_right];exact iQ (by omega)
  omega
 ·rw[aD h]
  have:(x+2*W - lo - b) % W=x - lo - b:=by
   rw[show x+2*W - lo - b=(x - lo - b)+W+W by omega,Nat.add_mod_right,Nat.add_mod_right];exact iQ (by omega)
  omega
theorem aeT (xs ys:List Nat) (f:Nat) (hx:Small xs) (k:Nat):
  nw (cE xs ys f k).1+f*nw (ys.take k)=nw (xs.take k)+W^k*((cE xs ys f k).2.1+(cE xs ys f k).2.2):=by
 rw[<- Fs xs k, <- Fs ys k];induction k with
 |zero=>simp[cE,iy,lA]
 |succ k ih=>
  have hb:=WS xs ys f k;have st:=aeR (xs[k]?.getD 0) (cE xs ys f k).2.1 (ys[k]?.getD 0*f) (cE xs ys f k).2.2 (getD_lt hx k) hb
  have e3:f*(iy (fun j=>ys[j]?.getD 0) k+W^k*ys[k]?.getD 0)=f*iy (fun j=>ys[j]?.getD 0) k+W^k*(ys[k]?.getD 0*f):=by
   rw[k8,yg,dC f (ys[k]?.getD 0)]
  rw[cE,iy,iy,Az,WR,e3];show _=_+W^(k+1)*(_+if _ then 1 else 0);rw[gS,ie];generalize (xs[k]?.getD 0+2*W - ((cE xs ys f k).2.1+ys[k]?.getD 0*f) % W - (cE xs ys f k).2.2) % W=d at *;generalize (((cE xs ys f k).2.1+ys[k]?.getD 0*f)/W+if xs[k]?.getD 0<((cE xs ys f k).2.1+ys[k]?.getD 0*f) % W+(cE xs ys f k).2.2 then 1 else 0)=z at *;generalize (cE xs ys f k).2.1=c at *;generalize (cE xs ys f k).2.2=b at *;generalize ys[k]?.getD 0*f=t at *;have:=dt (W^k*·) st;simp only[k8] at this ih⊢;omega
theorem TA (t:Nat) (ht:t<18446744073709551616):bits .and .u64 (t:Int) 4294967295=((t % 4294967296:Nat):Int):=by
 have e:(4294967295:Int)=((4294967295:Nat):Int):=rfl;rw[e,u64_and_nat t 4294967295 ht (by omega)];congr 1
 exact Nat.and_two_pow_sub_one_eq_mod t 32
theorem Pu (x lo b:Nat) (hx:x<4294967296) (hlo:lo<4294967296) (hb:b<=1):
  IntKind.u64.wrap (IntKind.u64.wrap ((x:Int) - (lo:Int)) - (b:Int))/9223372036854775808=((if x<lo+b then 1 else 0:Nat):Int)/\
  IntKind.u64.wrap (IntKind.u64.wrap ((x:Int) - (lo:Int)) - (b:Int)) % 4294967296=(((x+2*W - lo - b) % W:Nat):Int):=by
 rw[KY,KY,fT];by_cases h:x<lo+b
 ·rw[aB h];have e:(((x:Int) - (lo:Int)) % 18446744073709551616 - (b:Int)) % 18446744073709551616=(x:Int) - (lo:Int) - (b:Int)+18446744073709551616:=by omega
  rw[e];omega
 ·rw[aD h];have e:(((x:Int) - (lo:Int)) % 18446744073709551616 - (b:Int)) % 18446744073709551616=(x:Int) - (lo:Int) - (b:Int):=by omega
  rw[e];omega
theorem VX (g off cap b Ib im:Nat) (xs ys:List Nat) (f:Nat) (w:World) (gN:Small xs) (iB:Small ys) (hf:f<W) (hlen:xs.length<=35184372088832) (yN:ys.length<=xs.length) (hx:bc w g off xs) (hy:bc w b Ib ys) (hgb:b≠g):
  Calls Tryz.prog 209 #[.slice (some ⟨g,off,none⟩) xs.length cap,.slice (some ⟨b,Ib,none⟩) ys.length im,.int .u32 (f:Nat)] w fun e w'=>∃(s:Nat) (l':List Nat),e=.returned (.bool (decide (s≠0)))/\l'.length=xs.length/\Small l'/\nw l'+f*nw ys=nw xs+W^xs.length*s/\bc w' g off l'/\b9 g off xs.length w w':=by
 have hf2:f<4294967296:=hf;go_enter Tryz.func209,Tryz.ntmps209;go_wp2
 go_loopw [7,8,13] (fun c bo i wr=>∃k:Nat,k<=xs.length/\i=.int .i64 k/\c=.int .u64 ((cE xs ys f k).2.1:Nat)/\bo=.int .u64 ((cE xs ys f k).2.2:Nat)/\bc wr g off ((cE xs ys f k).1++xs.drop k)/\b9 g off xs.length w wr)
  (fun _ _ i _=>xs.length - (intOf i).toNat)
 case atStart=>exact⟨0,aX _,rfl,rfl,rfl,by simpa [cE] using hx,b9.refl _ _ _ _⟩
 case round=>
  obtain⟨k,hk,rfl,rfl,rfl,cY,gz⟩:=hrel;have uF:=aeU xs ys f iB hf k;have hbo:=WS xs ys f k;have dI:=WR xs ys f k;have rO:=aeS xs ys f k;have HQ:=aF (aeT xs ys f gN k);rw[fT] at uF;by_cases hlt:k<xs.length
  ·have gC:k<((cE xs ys f k).1++xs.drop k).length:=by rw[bM,dI,l7];omega
   have hcell:=cY.cell k gC;have hfz:=cY.frozen (off+k);have cX:=fun y=>cY.set k gC y;simp only[Ni _ xs k _ dI hlt] at cX
   have tz:((cE xs ys f k).1++xs.drop k)[k]?.getD 0=xs[k]?.getD 0:=by
    rw[ER (by omega),dI,nD,He,gg]
   rw[tz] at hcell
   have HG:Hid (cE xs ys f (k+1)=((cE xs ys f k).1++[(xs[k]?.getD 0+2*W - ((cE xs ys f k).2.1+ys[k]?.getD 0*f) % W - (cE xs ys f k).2.2) % W],
    ((cE xs ys f k).2.1+ys[k]?.getD 0*f)/W,if xs[k]?.getD 0<((cE xs ys f k).2.1+ys[k]?.getD 0*f) % W+(cE xs ys f k).2.2 then 1 else 0)):=rfl
   have sY:=getD_lt gN k;have CU:=getD_lt iB k;have IB:ys[k]?.getD 0*f<=4294967295*4294967295:=jE (by rw[fT] at CU;omega) (by rw[fT] at hf;omega);rw[fT] at sY CU;by_cases Ru:k<ys.length
   ·have ajo:=(hy.apart gz hgb).cell k Ru;generalize (cE xs ys f k).2.1=c at *;generalize (cE xs ys f k).2.2=bo at *;generalize (cE xs ys f k).1=q at *;generalize xs[k]?.getD 0=x at *;generalize ys[k]?.getD 0=y at *;(have FP:(y:Int)*(f:Int)<=18446744065119617025:=by rw[<- j6];omega);(have AW:0<=(y:Int)*(f:Int):=by rw[<- j6];omega);obtain⟨lo,hlo⟩:∃lo,lo=(c+y*f) % 4294967296:=⟨_,rfl⟩
    have hand:bits .and .u64 ((c:Int)+(y:Int)*(f:Int)) 4294967295=(lo:Int):=by
     have:=TA (c+y*f) (by omega);rw[<- hlo] at this;rw[<- this,Aj,j6]
    (have ai0:lo<4294967296:=by omega);have UD:=aF hlo;have jV:=aF cX;clear cX tz gC cY HQ hlo IB;go_wp2;obtain⟨v1,v2⟩:=Pu x lo bo sY ai0 hbo;rw[v1,v2];have hv2:Value.int .u64 (((c:Int)+(y:Int)*(f:Int))/4294967296)=.int .u64 (((c+y*f)/W:Nat):Int):=int_eq (by rw[fT,vX,Aj,j6];rfl);rw[hv2];have hq:=jV.o ((x+2*W - lo - bo) % W);have mN:Hid ((c+y*f) % W=lo):=UD.o.symm;have sG:=HG.o;rw[mN.o] at sG;go_roundw
    case rel=>exact⟨k+1,by omega,by go_num,by rw[sG],by rw[sG],by rw[sG];exact hq,gz.trans (b9.setCell (KQ _ _) (by omega) _)⟩
    case measure=>simp[intOf];omega
   ·have Iq:ys[k]?.getD 0=0:=by rw[ig (by omega)];rfl
    by_cases hc0:(cE xs ys f k).2.1=0/\(cE xs ys f k).2.2=0
    ·obtain⟨hc1,hc2⟩:=hc0
     have HE:Hid (nw ((cE xs ys f k).1++xs.drop k)+f*nw ys=nw xs):=by
      show _=_;have e:=HQ.o;rw[hc1,hc2,j3,gg,jF (show ys.length<=k by omega)] at e;have e2:=qo xs k hk;rw[yI,dI];omega
     have hsm:=wB rO (Hy gN k);(have dJ:((cE xs ys f k).1++xs.drop k).length=xs.length:=by rw[bM,dI,l7];omega);rw[hc1,hc2];generalize (cE xs ys f k).1++xs.drop k=q at *;clear cX hcell hfz HG tz gC HQ IB;go_wp2;go_ret;exact⟨0,q,rfl,dJ,hsm,by rw[HE.o,j3,gg],cY,gz⟩
    ·have sG:=HG.o;simp only[Iq,mQ,gg] at sG;generalize (cE xs ys f k).2.1=c at *;generalize (cE xs ys f k).2.2=bo at *;generalize (cE xs ys f k).1=q at *;generalize xs[k]?.getD 0=x at *;have hcm:c % W=c:=iQ uF;simp only[hcm] at sG
     have hand:bits .and .u64 (c:Int) 4294967295=(c:Int):=by
      have:=TA c (by omega);rwa [iQ uF] at this
     have Ch:=aF sG;have jV:=aF cX;clear cX tz gC cY HQ Iq IB HG sG hcm;by_cases I9:c=0
     ·subst I9;(have hb1:bo=1:=by omega);subst hb1;clear hc0;go_wp2;obtain⟨v1,v2⟩:=Pu x 0 1 sY (by omega) (by omega);have hz:bits .and .u64 0 4294967295=((0:Nat):Int):=TA 0 (by omega);rw[hz,show IntKind.u64.wrap (IntKind.u64.wrap ((x:Int) - ((0:Nat):Int)) - 1)=IntKind.u64.wrap (IntKind.u64.wrap ((x:Int) - ((0:Nat):Int)) - ((1:Nat):Int)) from rfl,v1,v2];have hq:=jV.o ((x+2*W - 0 - 1) % W);go_roundw
      case rel=>exact⟨k+1,by omega,by go_num,by rw[Ch.o];rfl,by rw[Ch.o],by rw[Ch.o];exact hq,gz.trans (b9.setCell (KQ _ _) (by omega) _)⟩
      case measure=>simp[intOf];omega
     ·have hcb:((c:Int)==0)=false:=by rw[EL];omega
      clear hc0;go_wp2;obtain⟨v1,v2⟩:=Pu x c bo sY uF hbo;rw[v1,v2];have hv2:Value.int .u64 ((c:Int)/4294967296)=.int .u64 ((c/W:Nat):Int):=int_eq (by rw[fT];omega);have hq:=jV.o ((x+2*W - c - bo) % W);rw[hv2];go_roundw
      case rel=>exact⟨k+1,by omega,by go_num,by rw[Ch.o],by rw[Ch.o],by rw[Ch.o];exact hq,gz.trans (b9.setCell (KQ _ _) (by omega) _)⟩
      case measure=>simp[intOf];omega
  ·obtain rfl:k=xs.length:=by omega
   rw[List.drop_length,l8] at cY
   have HE:Hid (nw (cE xs ys f xs.length).1+f*nw ys=nw xs+W^xs.length*((cE xs ys f xs.length).2.1+(cE xs ys f xs.length).2.2)):=by
    show _=_;have e:=HQ.o;rwa [iR,jF yN] at e
   generalize (cE xs ys f xs.length).1=q at *;generalize (cE xs ys f xs.length).2.1=c at *;generalize (cE xs ys f xs.length).2.2=bo at *;clear HQ;by_cases I9:c=0
   ·subst I9;rcases (show bo=0∨bo=1 by omega) with rfl |rfl
    ·go_wp2;go_ret;exact⟨0,q,rfl,dI,rO,HE.o,cY,gz⟩
    ·go_wp2;go_ret;exact⟨1,q,rfl,dI,rO,HE.o,cY,gz⟩
   ·have hcb:((c:Int) !=0)=true:=by rw[bne_iff_ne];omega
    go_wp2;go_ret;exact⟨c+bo,q,ae4 (by symm;rw[OI];omega),dI,rO,HE.o,cY,gz⟩
theorem adp (h:m<=n):(words m).length<=(words n).length:=by
 rw[K8,K8];have:=Tr h;omega
theorem ami (a b:ByteArray) (w:World) (h:N a<N b):
  Calls Tryz.prog 163 #[.string a,.string b] w fun e w'=>e=.returned (.tuple #[.string ⟨#[]⟩,.bool false])/\Below w.heap.size w w':=by
 have hc:iF (N a) (N b)= -1:=by rw[iF,aB h]
 have hC:=fun V=>U9 a b V;simp only[hc] at hC;have HC:=aF hC;clear hC hc;go_enter Tryz.func163,Tryz.ntmps163;go_wp2_with fail
 refine(HC.o _).ae ?_;rintro e w1 ⟨rfl,hw⟩;subst hw;go_wp2;go_ret2;exact⟨rfl,aw _ _⟩
theorem amg (a b:ByteArray) (w:World) (ha:a.size<=1099511627776) (hb:b.size<=1099511627776) (h:N b<=N a):
  Calls Tryz.prog 163 #[.string a,.string b] w fun e w'=>e=.returned (.tuple #[.string (B (N a - N b)),.bool true])/\Below w.heap.size w w':=by
 have hc:0<=iF (N a) (N b):=by
  rw[iF,aD (by omega)];split<;>omega
 have hC:=fun V=>U9 a b V;generalize iF (N a) (N b)=ci at *;have HC:=aF hC;clear hC;have km:=wk a 274877906944 (by omega);have js:=wk b 274877906944 (by omega);go_enter Tryz.func163,Tryz.ntmps163;go_wp2_with fail
 refine(HC.o _).ae ?_;rintro e w0 ⟨rfl,hw⟩;subst hw;go_wp2_with fail
 refine(wA a _ (by omega)).ae ?_;rintro e w1 ⟨g1,c1,rfl,h1,hb1⟩;go_wp2_with fail
 refine(wA b _ (by omega)).ae ?_;rintro e w2 ⟨g2,c2,rfl,h2,hb2⟩;have iJ:=uJ h1 hb2;have hl2:=uJ h2 (aw _ _);have zi:=h1.aa hb2 (ak _);have hg1:g1<w1.heap.size:=(uJ h1 (aw _ _)).lt
 have hg2:w1.heap.size<=g2:=by
  rcases h2.cases with ⟨e,_⟩ |⟨g',cap',e,_,hbg,_⟩
  ·cases e
  ·cases e;exact hbg
 have hg0:w0.heap.size<=g1:=by
  rcases h1.cases with ⟨e,_⟩ |⟨g',cap',e,_,hbg,_⟩
  ·cases e
  ·cases e;exact hbg
 have hB2:Below w0.heap.size w0 w2:=hb1.trans (hb2.ae hb1.size);go_wp2_with fail
 refine(VX g1 0 c1 g2 0 c2 _ _ 1 _ (ll _) (ll _) (by decide) (by omega) (adp h) iJ hl2 (by omega)).ae ?_;rintro e w3 ⟨s,l,rfl,dJ,hsm,hn,IL,hu⟩
 have hs0:s=0:=by
  have hlt:=sV l hsm;rw[dJ] at hlt;rw[jJ,jJ] at hn;rcases ub s with e |e
  ·exact e
  ·have:W^(words (N a)).length*1<=W^(words (N a)).length*s:=kE _ e;omega
 have HN:Hid (nw l=N a - N b):=by
  show _=_;rw[jJ,jJ,hs0] at hn;omega
 have hH:=zi.upd hu IL dJ;have bV:Below w0.heap.size w0 w3:=b9.aa hB2 hu hg0 hB2.size;have p8:=aF dJ;clear hn dJ iJ hl2 zi IL hu h1 h2 hs0;go_wp2_with fail
 refine(M3 _ _ _ _ hsm (by rw[p8.o];omega) hH).ae ?_;rintro e w4 ⟨rfl,hb4⟩;go_wp2;go_ret2;exact⟨by rw[HN.o];rfl,bV.trans (hb4.ae bV.size)⟩
def gK (x:Nat) (ys p:List Nat) (i j:Nat):Nat:=x*ys[j]?.getD 0+p[i+j]?.getD 0
theorem WU (x:Nat) (ys p:List Nat) (i:Nat) (hx:x<W) (hy:Small ys) (hp:Small p) (k:Nat):(acc (gK x ys p i) k).2<W:=by
 have h:=TG (gK x ys p i) (W - 1) k fun j _=>by
  have h1:=getD_lt hy j;have h2:=getD_lt hp (i+j);have h3:x*ys[j]?.getD 0<=(W - 1)*(W - 1):=jE (by omega) (by omega);have h4:(W - 1)*(W - 1)+W+W<=W*W+1:=by decide
  unfold gK;rw[OL kr];omega
 have:=kr;omega
theorem aeX (x:Nat) (ys p:List Nat) (i:Nat):iy (gK x ys p i) ys.length=x*nw ys+nw ((p.drop i).take ys.length):=by
 rw[show gK x ys p i=fun j=>(fun j=>x*(fun j=>ys[j]?.getD 0) j) j+(fun j=>p[i+j]?.getD 0) j from rfl,Yu,Ys,Yt ys _ (ak _)];congr 1
 rw[<- Fs];exact agT fun j _=>by rw[He]
def wK (x:Nat) (ys p:List Nat) (i:Nat):List Nat:=p.take i++((acc (gK x ys p i) ys.length).1++[(acc (gK x ys p i) ys.length).2])++p.drop (i+(ys.length+1))
theorem Yr (p:List Nat) (k:Nat) (h:∀j,k<=j ->p[j]?.getD 0=0):nw (p.drop k)=0:=by
 have:p.drop k=List.replicate (p.drop k).length 0:=by
  apply rC
  ·simp
  ·intro j h1 h2;have:=h (k+j) (by omega);rw[l7] at h1;rw[ba (by omega)] at this;simpa using this
 rw[this,Qk]
theorem ahs (x:Nat) (ys p:List Nat) (i:Nat) (hx:x<W) (hy:Small ys) (hp:Small p) (hi:i+ys.length<p.length) (hz:∀j,i+ys.length<=j ->p[j]?.getD 0=0):
  (wK x ys p i).length=p.length/\Small (wK x ys p i)/\nw (wK x ys p i)=nw p+W^i*(x*nw ys)/\∀j,i+1+ys.length<=j ->(wK x ys p i)[j]?.getD 0=0:=by
 have hl:=JO (gK x ys p i) ys.length;have ur:(p.take i).length=i:=by rw[eB];omega
 have aai:(p.take i++((acc (gK x ys p i) ys.length).1++[(acc (gK x ys p i) ys.length).2])).length=i+(ys.length+1):=by
  rw[bM,bM,ur,hl];rfl
 refine⟨?_,?_,?_,?_⟩
 ·rw[wK,bM,aai,l7];omega
 ·refine wB (wB (E8 hp i) (wB (TE _ _) ?_)) (Hy hp _);intro z hz';simp only[eA] at hz';subst hz';exact WU x ys p i hx hy hp _
 ·have e1:=TF (gK x ys p i) ys.length;rw[aeX] at e1;have e2:=qo p i (by omega);have e3:=qo (p.drop i) ys.length (by rw[l7];omega);rw[List.drop_drop,Yr p (i+ys.length) hz,j3,gg] at e3;have e4:=Yr p (i+(ys.length+1)) (fun j hj=>hz j (by omega));rw[wK,yI,e4,j3,gg,yI,ur,Az,hl,e1,e2,e3,k8];omega
 ·intro j hj;rw[wK,ER (by omega),aai,He];exact hz _ (by omega)
theorem b9.drewN {off:Nat} {a b:World} (h:b9 g off n a b) (k:Nat):b9 g off n a (b.drewN k):=⟨⟨h.grown.os,h.grown.tape,h.grown.output,h.grown.size,h.grown.block⟩,h.inside⟩
theorem bc.drewN {off:Nat} {l:List Nat} (h:bc w g off l) (k:Nat):bc (w.drewN k) g off l:=h
theorem adX (gx jR gy im:Nat) (xs ys:List Nat) (w:World) (gN:Small xs) (iB:Small ys) (hlx:xs.length<=8796093022208) (hly:ys.length<=8796093022208) (hx:bc w gx 0 xs) (hy:bc w gy 0 ys):
  Calls Tryz.prog 193 #[.slice (some ⟨gx,0,none⟩) xs.length jR,.slice (some ⟨gy,0,none⟩) ys.length im] w fun e w'=>∃v l,e=.returned v/\Has w' w.heap.size v l/\Small l/\l.length=xs.length+ys.length/\nw l=nw xs*nw ys/\Below w.heap.size w w':=by
 obtain⟨i0,hi,hz0,hz1,hz2⟩:=dK Tryz.infoU32;have hgx:=hx.lt;have Dh:=hy.lt;go_enter Tryz.func193,Tryz.ntmps193
 go_wp2_with (first
  |(at_make;refine nC _ rfl _ _ 198 rfl w.heap.size 114 i0 (.int .u32 0) 1 Tryz.underlying198 hi hz0 hz1 .i64 .i64 _ _ (xs.length+ys.length) rfl rfl (by omega) (by omega) (by rw[hz2];omega) (by unfold maxLen;omega) (ak _) ?_;intro w2 hown2 hgrow2;have hb2:=pV hown2;rw[Ij] at hb2;have bq:=aF hb2;have hB2:Below w.heap.size w w2:=(aw _ w).grown hgrow2 (ak _) (fun k e=>by cases e);have hx2:=hx.aa hB2 hgx;have hy2:=hy.aa hB2 Dh;clear hown2 hgrow2 hb2))
 have hl2:=L6 bq.o
 go_loopw [17] (fun i wr=>∃(k:Nat) (p:List Nat),k<=xs.length/\i=.int .i64 k/\p.length=xs.length+ys.length/\Small p/\Hid (nw p=nw (xs.take k)*nw ys)/\Hid (∀j,k+ys.length<=j ->p[j]?.getD 0=0)/\bc wr w.heap.size 0 p/\b9 w.heap.size 0 (xs.length+ys.length) w2 wr)
  (fun i _=>xs.length - (intOf i).toNat)
 case atStart=>exact⟨0,_,aX _,rfl,by simp,WB _,by show _=_;rw[Qk];simp[lA],fun j _=>by rw[O1];split<;>rfl,hl2,b9.refl _ _ _ _⟩
 case round=>
  obtain⟨k,p,hk,rfl,hpl,eo,FO,IA,cY,gz⟩:=hrel;obtain⟨wo,rfl⟩:∃wo:World,wo=wr:=⟨_,rfl⟩;by_cases hlt:k<xs.length
  ·have qH:=fun V (hV:b9 w.heap.size 0 (xs.length+ys.length) w2 V)=>(hx2.apart hV (by omega)).cell k hlt;have sY:=getD_lt gN k;have ZV:=ahs (xs[k]?.getD 0) ys p k sY iB eo (by omega) IA.o
   have HX:Hid (nw (xs.take (k+1))=nw (xs.take k)+W^k*xs[k]?.getD 0):=by
    show _=_;rw[Ql xs k hlt,ba hlt];rfl
   generalize xs[k]?.getD 0=x at *;have HXC:=aF qH;have HSP:=aF ZV;(have hfr:bc wo w.heap.size 0 (p.take k++(acc (gK x ys p k) 0).1++p.drop (k+0)):=by simpa [acc] using cY);clear qH ZV;go_wp2
   go_loopw [7,22] (fun c j wr=>∃m:Nat,m<=ys.length/\j=.int .i64 m/\c=.int .u64 ((acc (gK x ys p k) m).2:Nat)/\bc wr w.heap.size 0 (p.take k++(acc (gK x ys p k) m).1++p.drop (k+m))/\b9 w.heap.size 0 (xs.length+ys.length) w2 wr)
    (fun _ j _=>ys.length - (intOf j).toNat)
   case atStart=>exact⟨0,aX _,rfl,rfl,hfr,gz⟩
   case round=>
    obtain⟨m,hm,rfl,rfl,A0,Mg⟩:=hrel;have uF:=WU x ys p k sY iB eo m;have dI:=JO (gK x ys p k) m;(have kh:(p.take k).length=k:=by rw[eB];omega);rw[fT] at uF;by_cases Rn:m<ys.length
    ·have gC:k+m<(p.take k++(acc (gK x ys p k) m).1++p.drop (k+m)).length:=by rw[bM,bM,kh,dI,l7];omega
     have hcell:=A0.cell (k+m) gC;have hfz:=A0.frozen (k+m);rw[aeQ _ _ _ k m kh dI,bI] at hcell;have cX:=fun z n=>(A0.drewN n).set (k+m) gC z;simp only[WQ _ _ p k m _ kh dI (by omega),bI] at cX;have ajp:=HXC.o wr Mg;rw[bI] at ajp;have ajn:=(hy2.apart Mg (by omega)).cell m Rn;rw[bI] at ajn;have CU:=getD_lt iB m;have i7:=getD_lt eo (k+m);have HG:Hid (acc (gK x ys p k) (m+1)=((acc (gK x ys p k) m).1++[((acc (gK x ys p k) m).2+gK x ys p k m) % W],((acc (gK x ys p k) m).2+gK x ys p k m)/W)):=rfl;have HF:Hid (gK x ys p k m=x*ys[m]?.getD 0+p[k+m]?.getD 0):=rfl;have IB:x*ys[m]?.getD 0<=4294967295*4294967295:=jE (by rw[fT] at sY;omega) (by rw[fT] at CU;omega);rw[fT] at CU i7;have am0:x<4294967296:=sY;generalize (acc (gK x ys p k) m).2=c at *;generalize (acc (gK x ys p k) m).1=q at *;generalize gK x ys p k m=s at *;generalize ys[m]?.getD 0=y at *;generalize p[k+m]?.getD 0=z at *;(have FP:(x:Int)*(y:Int)<=18446744065119617025:=by rw[<- j6];omega);(have AW:0<=(x:Int)*(y:Int):=by rw[<- j6];omega);(have hkI:(k:Int)<(xs.length:Int):=by omega);(have hmI:(m:Int)<(ys.length:Int):=by omega);(have ann:(k:Int)+(m:Int)<(xs.length:Int)+(ys.length:Int):=by omega);(have anm:((k:Int)+(m:Int)).toNat=k+m:=by omega);have jV:=aF cX;clear cX gC A0 IB;go_wp2_with fail
     go_quiet (fail)
     go_wp2;have hv:Value.int .u32 (((c:Int)+((x:Int)*(y:Int)+(z:Int))) % 4294967296)=.int .u32 (((c+s) % W:Nat):Int):=int_eq (by rw[fT,HF.o,rD,Aj,Aj,j6];rfl);have hv2:Value.int .u64 (((c:Int)+((x:Int)*(y:Int)+(z:Int)))/4294967296)=.int .u64 (((c+s)/W:Nat):Int):=int_eq (by rw[fT,HF.o,vX,Aj,Aj,j6];rfl);rw[hv,hv2];have hq:=jV.o ((c+s) % W) nq;go_roundw
     case rel=>exact⟨m+1,by omega,by go_num,by rw[HG.o],by rw[HG.o];exact hq,(Mg.drewN nq).trans (b9.setCell (aX _) (by omega) _)⟩
     case measure=>simp[intOf];omega
    ·obtain rfl:m=ys.length:=by omega
     (have gC:k+ys.length<(p.take k++(acc (gK x ys p k) ys.length).1++p.drop (k+ys.length)).length:=by rw[bM,bM,kh,dI,l7];omega);have hcell:=A0.cell (k+ys.length) gC;have hfz:=A0.frozen (k+ys.length);rw[bI] at hcell;have cX:=A0.set (k+ys.length) gC (acc (gK x ys p k) ys.length).2;rw[WQ _ _ p k ys.length _ kh dI (by omega),bI] at cX;change bc _ _ _ (wK x ys p k) at cX
     have jV:=aF cX;(have hkT:((k:Int)+(ys.length:Int)).toNat=k+ys.length:=by omega);generalize (p.take k++(acc (gK x ys p k) ys.length).1++p.drop (k+ys.length))[k+ys.length]?.getD 0=old at *;generalize (acc (gK x ys p k) ys.length).2=c at *;obtain⟨s1,s2,s3,s4⟩:=HSP.o
     have Ek:Hid (nw (wK x ys p k)=nw (xs.take (k+1))*nw ys):=by
      show _=_;rw[s3,FO.o,HX.o,fC,ie]
     have jA:=aF s1;have o8:=aF s2;have HS4:=aF s4;generalize wK x ys p k=p2 at *;clear cX gC A0 HSP s1 s2 s3 s4 HX hfr cY;go_wp2;go_roundw
     case rel=>exact⟨k+1,p2,by omega,by go_num,by rw[jA.o,hpl],o8.o,Ek,fun j hj=>HS4.o j (by omega),jV.o,Mg.trans (b9.setCell (aX _) (by omega) _)⟩
     case measure=>simp[intOf];omega
  ·obtain rfl:k=xs.length:=by omega
   obtain⟨cur,hc4,hcs,_⟩:=gz.inside _ bq.o;have nX:=H9 (base:=w.heap.size) (cap:=xs.length+ys.length) cur hc4 (by rw[hcs];simp) (ak _) (by unfold maxLen;omega) (by omega) cY;have dO:Below w.heap.size w wo:=b9.aa hB2 gz (ak _) hB2.size;have fX:=aF hpl;rw[hpl] at nX;clear hpl hc4 hcs cY gz;go_wp2;go_ret;exact⟨_,p,rfl,by rw[Has,fX.o];exact nX,eo,fX.o,by have:=FO.o;rwa [iR] at this,dO⟩
theorem JV (a b:ByteArray) (w:World) (ha:a.size<=1099511627776) (hb:b.size<=1099511627776):
  Calls Tryz.prog 142 #[.string a,.string b] w fun e w'=>e=.returned (.string (B (N a*N b)))/\Below w.heap.size w w':=by
 have km:=wk a 274877906944 (by omega);have js:=wk b 274877906944 (by omega);go_enter Tryz.func142,Tryz.ntmps142;go_wp2_with fail
 refine(wA a _ (by omega)).ae ?_;rintro e w1 ⟨g1,c1,rfl,h1,hb1⟩;go_wp2_with fail
 refine(wA b _ (by omega)).ae ?_;rintro e w2 ⟨g2,c2,rfl,h2,hb2⟩;have iJ:=uJ h1 hb2;have hl2:=uJ h2 (aw _ _);have hB2:Below w.heap.size w w2:=hb1.trans (hb2.ae hb1.size);go_wp2_with fail
 refine(adX g1 c1 g2 c2 _ _ _ (ll _) (ll _) (by omega) (by omega) iJ hl2).ae ?_;rintro e w3 ⟨v,l,rfl,h3,hs3,uB,hv3,hb3⟩;have bV:Below w.heap.size w w3:=hB2.trans (hb3.ae hB2.size);have HV:=aF hv3;have HN:=aF uB;clear hv3 uB;go_wp2_with fail
 refine(M3 _ _ _ _ hs3 (by rw[HN.o];omega) h3).ae ?_;rintro e w4 ⟨rfl,hb4⟩;go_wp2;go_ret;exact⟨by rw[HV.o,jJ,jJ];rfl,bV.trans (hb4.ae bV.size)⟩
theorem acy (n:Int) (w:World) (h0: -9223372036854775808<=n) (h1:n<=9223372036854775807):
  Calls Tryz.prog 110 #[.int .i64 n] w fun e w'=>e=.returned (.string (B n.toNat))/\Below w.heap.size w w':=by
 have hO:=fun V=>Ym n.toNat V (by omega);by_cases hn:0<=n
 ·obtain⟨m,rfl⟩:=Int.eq_ofNat_of_zero_le hn;rw[nH] at hO⊢;have HO:=aF hO;have hmx:max (m:Int) 0=(m:Int):=by omega
  clear hO;go_enter Tryz.func110,Tryz.ntmps110;go_wp2_with fail
  refine(HO.o _).ae ?_;rintro e w1 ⟨rfl,hb⟩;go_wp2;go_ret;exact⟨rfl,hb⟩
 ·have e0:n.toNat=0:=by omega
  rw[e0] at hO⊢;have HO:=aF hO;have hmx:max n 0=0:=by omega
  clear hO e0;go_enter Tryz.func110,Tryz.ntmps110;go_wp2_with fail
  refine(HO.o _).ae ?_;rintro e w1 ⟨rfl,hb⟩;go_wp2;go_ret;exact⟨rfl,hb⟩
theorem ajP (a b:Nat) (w:World) (ha:a<18446744073709551616) (hb:b<18446744073709551616):
  Calls Tryz.prog 214 #[.int .u64 (a:Nat),.int .u64 (b:Nat)] w fun e w'=>e=.returned (.int .u64 (Nat.gcd a b:Nat))/\Below w.heap.size w w':=by
 go_enter Tryz.func214,Tryz.ntmps214;go_wp2;go_loopw [0,1] (fun x y wr=>∃m n:Nat,x=.int .u64 m/\y=.int .u64 n/\m<18446744073709551616/\n<18446744073709551616/\Hid (Nat.gcd m n=Nat.gcd a b)/\Below w.heap.size w wr) (fun _ y _=>(intOf y).toNat)
 case atStart=>exact⟨a,b,rfl,rfl,ha,hb,rfl,aw _ _⟩
 case round=>
  obtain⟨m,n,rfl,rfl,hm,hn,hg,hbr⟩:=hrel;by_cases h0:n=0
  ·subst h0;go_wp2;go_ret;exact⟨yB (by rw[<- hg.o,Nat.gcd_zero_right]),hbr⟩
  ·have uA:((n:Int) !=0)=true:=by rw[bne_iff_ne];omega
   (have hne:((n:Int)==0)=false:=by rw[EL];omega);(have lH:¬(n:Int)=0:=by omega);(have lF:0<n:=by omega);have hr:m % n<n:=gJ _ lF;(have HG:Hid (Nat.gcd n (m % n)=Nat.gcd a b):=by show _=_;rw[<- hg.o, <- G8 (m % n) n, <- Nat.gcd_rec,G8]);go_wp2_with fail
   go_region
   all_goals go_wp2
   rw[show ((m:Int) % (n:Int))=((m % n:Nat):Int) from (rD m n).symm];go_roundw
   case rel=>exact⟨n,m % n,rfl,rfl,hn,by omega,HG,hbr.drew⟩
   case measure=>simp[intOf];omega
theorem agE (a b:Nat) (ha:a<4294967296) (hb:b<4294967296):bits .or .u64 (a:Int) ((b:Int)*4294967296)=((a+b*4294967296:Nat):Int):=by
 have e1:(b:Int)*4294967296=((b*4294967296:Nat):Int):=by omega
 rw[e1,u64_or_nat _ _ (by omega) (by omega)];congr 1
 have:=nat_join 32 (b*4294967296) a (by omega) (by omega);have e2:a |||b*4294967296=b*4294967296 |||a:=Nat.or_comm _ _;omega
theorem or_zero (a:Nat) (ha:a<4294967296):bits .or .u64 0 (a:Int)=(a:Int):=by
 have:=u64_or_nat 0 a (by omega) (by omega);rw[show ((0:Nat):Int)=0 from rfl] at this;rw[this,Nat.zero_or]
theorem Vq (g cap:Nat) (l:List Nat) (w:World) (hs:Small l) (hlen:l.length<=2) (hl:bc w g 0 l):
  Calls Tryz.prog 215 #[.slice (some ⟨g,0,none⟩) l.length cap] w fun e w'=>e=.returned (.int .u64 (nw l:Nat))/\w'=w:=by
 match l,hlen with
 |[],_=>
  go_enter Tryz.func215,Tryz.ntmps215;go_wp2;refine GX 1 ?_;rw[oB];go_wp2;go_ret;exact⟨rfl,rfl⟩
 |[a],_=>
  have h0:=hl.cell 0 (by simp);have ha:a<4294967296:=hs a (by simp);have ho:=or_zero a ha;simp only[bI,List.getElem?_cons_zero,yf] at h0;go_enter Tryz.func215,Tryz.ntmps215;go_wp2;refine GX 2 ?_;rw[oB];go_wp2;rw[oB];go_wp2;go_ret;exact⟨yB (by simp[jK,lA]),rfl⟩
 |[a,b],_=>
  have h0:=hl.cell 0 (by simp);have h1:=hl.cell 1 (by simp);have ha:a<4294967296:=hs a (by simp);have hb:b<4294967296:=hs b (by simp);have ho:=or_zero a ha;have ho2:=agE a b ha hb;simp only[bI,List.getElem?_cons_zero,List.getElem?_cons_succ,yf] at h0 h1;go_enter Tryz.func215,Tryz.ntmps215;go_wp2;refine GX 3 ?_;rw[oB];go_wp2;rw[oB];go_wp2;rw[oB];go_wp2;go_ret;exact⟨yB (by simp only[jK,lA,fT];omega),rfl⟩
def ix (xs:List Nat) (s j:Nat):Nat:=2^s*xs[j]?.getD 0
theorem aeH (xs:List Nat) (s:Nat):iy (ix xs s) xs.length=2^s*nw xs:=by
 rw[show ix xs s=fun j=>2^s*(fun j=>xs[j]?.getD 0) j from rfl,Ys,Yt xs _ (ak _)]
theorem WI (xs:List Nat) (hx:Small xs) (s k:Nat):(acc (ix xs s) k).2<2^s:=by
 have hp:0<2^s:=ru (by decide)
 have h:=TG (ix xs s) (2^s - 1) k fun j _=>by
  have h1:=getD_lt hx j;have h2:2^s*(xs[j]?.getD 0+1)<=2^s*W:=kE _ h1;rw[k8] at h2;unfold ix;rw[OL hp];omega
 omega
theorem Lr {s:Nat} (hs:s<32):2^s<=2147483648:=by
 have:2^s<=2^31:=jf (by decide) (by omega);simpa using this
theorem aeC (c x s:Nat) (hs:s<32) (hc:c<2^s) (hx:x<4294967296):bits .or .u64 (c:Int) (IntKind.u64.wrap ((x:Int)*2^s))=((c+2^s*x:Nat):Int):=by
 have hp:=Lr hs;have hm:x*2^s<=4294967295*2147483648:=jE (by omega) hp
 have e1:IntKind.u64.wrap ((x:Int)*2^s)=((x*2^s:Nat):Int):=by
  rw[KY,show ((x:Int)*2^s)=((x*2^s:Nat):Int) by simp];omega
 rw[e1,u64_or_nat _ _ (by omega) (by omega),Nat.or_comm,nat_join s _ _ (Nat.mul_mod_left _ _) hc];congr 1
 rw[dC];omega
theorem WG (gx jR:Nat) (xs:List Nat) (s:Nat) (w:World) (gN:Small xs) (hs:s<32) (hlx:xs.length<=8796093022208) (hx:bc w gx 0 xs):
  Calls Tryz.prog 241 #[.slice (some ⟨gx,0,none⟩) xs.length jR,.int .i64 (s:Nat)] w fun e w'=>∃v l,e=.returned v/\Has w' w.heap.size v l/\Small l/\l.length=xs.length+1/\nw l=2^s*nw xs/\Below w.heap.size w w':=by
 obtain⟨i0,hi,hz0,hz1,hz2⟩:=dK Tryz.infoU32;have hgx:=hx.lt;go_enter Tryz.func241,Tryz.ntmps241
 go_wp2_with (first
  |(at_make;refine nC _ rfl _ _ 198 rfl w.heap.size 114 i0 (.int .u32 0) 1 Tryz.underlying198 hi hz0 hz1 .i64 .i64 _ _ (xs.length+1) rfl rfl (by omega) (by omega) (by rw[hz2];omega) (by unfold maxLen;omega) (ak _) ?_;intro w2 hown2 hgrow2;have hb2:=pV hown2;rw[Ij] at hb2;have bq:=aF hb2;have hB2:Below w.heap.size w w2:=(aw _ w).grown hgrow2 (ak _) (fun k e=>by cases e);have hx2:=hx.aa hB2 hgx;clear hown2 hgrow2 hb2))
 have hl2:=L6 bq.o
 go_loopw [6,15] (fun c i wr=>∃k:Nat,k<=xs.length/\i=.int .i64 k/\c=.int .u64 ((acc (ix xs s) k).2:Nat)/\bc wr w.heap.size 0 ((acc (ix xs s) k).1++(List.replicate (xs.length+1) 0).drop k)/\b9 w.heap.size 0 (xs.length+1) w2 wr)
  (fun _ i _=>xs.length - (intOf i).toNat)
 case atStart=>exact⟨0,aX _,rfl,rfl,by simpa [acc] using hl2,b9.refl _ _ _ _⟩
 case round=>
  obtain⟨k,hk,rfl,rfl,cY,gz⟩:=hrel;have dI:=JO (ix xs s) k;by_cases hlt:k<xs.length
  ·have qH:=(hx2.apart gz (by omega)).cell k hlt;rw[bI] at qH;(have gC:k<((acc (ix xs s) k).1++(List.replicate (xs.length+1) 0).drop k).length:=by rw[bM,dI,l7,Hc];omega);have hcell:=cY.cell k gC;have hfz:=cY.frozen k;have cX:=fun y=>cY.set k gC y;rw[bI] at hcell;simp only[Ni _ (List.replicate (xs.length+1) 0) k _ dI (by simp;omega),bI] at cX;have hxb:=getD_lt gN k;have hcs:=WI xs gN s k;have HG:Hid (acc (ix xs s) (k+1)=((acc (ix xs s) k).1++[((acc (ix xs s) k).2+ix xs s k) % W],((acc (ix xs s) k).2+ix xs s k)/W)):=rfl;have HF:Hid (ix xs s k=2^s*xs[k]?.getD 0):=rfl;rw[fT] at hxb;have tk:=aeC (acc (ix xs s) k).2 (xs[k]?.getD 0) s hs hcs hxb;have hm:2^s*xs[k]?.getD 0<=2147483648*4294967295:=jE (Lr hs) (by omega);have hp:=Lr hs;rw[<- HF.o] at tk hm;generalize ix xs s k=f at *;generalize (acc (ix xs s) k).2=c at *;generalize (acc (ix xs s) k).1=q at *;generalize xs[k]?.getD 0=x at *;generalize (q++(List.replicate (xs.length+1) 0).drop k)[k]?.getD 0=old at *;obtain⟨t,ht⟩:∃t,t=c+f:=⟨_,rfl⟩;rw[<- ht] at tk;(have yO:t<18446744073709551615:=by omega);have HT:=aF ht;have jV:=aF cX;(have aaD:c<4294967296:=by omega);clear cX gC cY ht hm hp hcs HF;go_wp2;have hv:Value.int .u32 ((t:Int) % 4294967296)=.int .u32 (((c+f) % W:Nat):Int):=int_eq (by rw[fT, <- HT.o];omega);have hv2:Value.int .u64 ((t:Int)/4294967296)=.int .u64 (((c+f)/W:Nat):Int):=int_eq (by rw[fT, <- HT.o];omega);rw[hv,hv2];have hq:=jV.o ((c+f) % W);go_roundw
   case rel=>exact⟨k+1,by omega,by go_num,by rw[HG.o],by rw[HG.o];exact hq,gz.trans (b9.setCell (aX _) (by omega) _)⟩
   case measure=>simp[intOf];omega
  ·obtain rfl:k=xs.length:=by omega
   (have gC:xs.length<((acc (ix xs s) xs.length).1++(List.replicate (xs.length+1) 0).drop xs.length).length:=by rw[bM,dI,l7,Hc];omega);have hcell:=cY.cell xs.length gC;have hfz:=cY.frozen xs.length;have cX:=cY.set xs.length gC (acc (ix xs s) xs.length).2;rw[Ni _ (List.replicate (xs.length+1) 0) xs.length _ dI (by simp),ES (by simp),l8,bI] at cX;rw[bI] at hcell;have hcs:=WI xs gN s xs.length;have hp:=Lr hs;have HE:=aF (TF (ix xs s) xs.length);have rO:=TE (ix xs s) xs.length;have HF:=aF (aeH xs s);obtain⟨cur,hc4,I9,_⟩:=gz.inside _ bq.o;generalize ((acc (ix xs s) xs.length).1++(List.replicate (xs.length+1) 0).drop xs.length)[xs.length]?.getD 0=old at *;generalize (acc (ix xs s) xs.length).2=c at *;generalize (acc (ix xs s) xs.length).1=q at *;(have aaD:c<4294967296:=by omega);have QW:b9 w.heap.size 0 (xs.length+1) w2 (wr.setCell ⟨w.heap.size,xs.length,none⟩ (.int .u32 (c:Nat))):=gz.trans (b9.setCell (aX _) (by omega) _);obtain⟨ak7,hc5,aaA,_⟩:=QW.inside _ bq.o;(have aaa:(q++[c]).length=xs.length+1:=by rw[bM,dI];rfl);have nX:=H9 (base:=w.heap.size) (cap:=xs.length+1) ak7 hc5 (by rw[aaA];simp) (ak _) (by unfold maxLen;omega) (by omega) cX;have dO:=b9.aa hB2 QW (ak _) hB2.size;have HO:=aF nX;have Uk:=aF aaa;have HQ0:=aF dI;clear cX gC cY hc4 I9 hc5 aaA nX QW aaa dI hp hcs;go_wp2;go_ret;refine⟨_,q++[c],rfl,?_,?_,Uk.o,?_,dO⟩
   ·rw[Has,Uk.o];have:=HO.o;rwa [Uk.o] at this
   ·exact wB rO (fun z hz=>by simp at hz;subst hz;exact aaD)
   ·rw[Az,HQ0.o,HE.o,HF.o]
def mi (s:Nat):List Nat ->List Nat
 |[]=>[]
 |x::r=>(x+W*r[0]?.getD 0)/2^s % W::mi s r
theorem aeG (s:Nat) (l:List Nat):(mi s l).length=l.length:=by
 induction l with
 |nil=>rfl
 |cons x r ih=>rw[mi,di,ih,di]
theorem WH (s:Nat) (l:List Nat):Small (mi s l):=by
 induction l with
 |nil=>intro x hx;simp[mi] at hx
 |cons x r ih=>
  intro y hy;rw[mi] at hy;rcases cT.1 hy with rfl |hy
  ·exact gJ _ kr
  ·exact ih y hy
theorem agR (l:List Nat) (h:Small l):nw l % W=l[0]?.getD 0:=by
 cases l with
 |nil=>rfl
 |cons x r=>rw[jK,Vc];exact iQ (h x c5)
theorem ame {s:Nat} (hs:s<=32):W=2^s*2^(32 - s):=by rw[<- z6,show s+(32 - s)=32 by omega];rfl
theorem aeF (s:Nat) (hs:s<=32) (l:List Nat) (hl:Small l):nw (mi s l)=nw l/2^s:=by
 induction l with
 |nil=>simp[mi,lA]
 |cons x r ih=>
  have hr:Small r:=fun y hy=>hl y (dD _ hy);have hx:=hl x c5;have hp:0<2^s:=ru (by decide);rw[mi,jK,jK,ih hr, <- agR r hr];generalize nw r=n;have e1:=Nat.div_add_mod n (2^s);have hb:=gJ n hp;generalize hq:n/2^s=a at *;generalize gO:n % 2^s=b at *
  have ajl:(x+W*b)/2^s<W:=by
   refine EN ?_;have:W*(b+1)<=W*2^s:=kE _ hb;rw[k8,dC W (2^s)] at this;omega
  have e2:(x+W*n)/2^s=(x+W*b)/2^s+W*a:=by
   rw[<- e1,k8, <- Aa,Nat.add_right_comm,show W*(2^s*a)=2^s*(W*a) by rw[yg],Nat.add_mul_div_left _ _ hp]
  have e3:(x+W*(n % W))/2^s % W=(x+W*b)/2^s:=by
   have hW:=ame hs;(have hmm:n % W % 2^s=b:=by rw[<- gO,hW,Nat.mod_mul_right_mod]);have e4:=Nat.div_add_mod (n % W) (2^s);rw[hmm] at e4;generalize n % W/2^s=c at *;rw[<- e4,k8, <- Aa,Nat.add_right_comm,show W*(2^s*c)=2^s*(W*c) by rw[yg],Nat.add_mul_div_left _ _ hp,Vc];exact iQ ajl
  rw[e2,e3]
theorem aeD (a x:Nat) (hx:x<4294967296):bits .or .u64 (IntKind.u64.wrap ((a:Int)*4294967296)) (x:Int)=((a % 4294967296*4294967296+x:Nat):Int):=by
 have e:IntKind.u64.wrap ((a:Int)*4294967296)=((a % 4294967296:Nat):Int)*4294967296:=by rw[KY];omega
 rw[e];exact Yd (a % 4294967296) x (by omega) hx
theorem aeE (g cap:Nat) (l:List Nat) (s:Nat) (w:World) (eZ:Small l) (hs:s<32) (hlen:l.length<=35184372088832) (hl:bc w g 0 l):
  Calls Tryz.prog 243 #[.slice (some ⟨g,0,none⟩) l.length cap,.int .i64 (s:Nat)] w fun e w'=>e=.returned (.tuple #[])/\bc w' g 0 (mi s l)/\b9 g 0 l.length w w':=by
 go_enter Tryz.func243,Tryz.ntmps243;go_wp2
 go_loopw [4,9] (fun a i wr=>∃k ab:Nat,k<=l.length/\i=.int .i64 k/\a=.int .u64 (ab:Nat)/\ab<18446744073709551616/\Hid (ab % 4294967296=(l.drop (l.length - k))[0]?.getD 0)/\bc wr g 0 (l.take (l.length - k)++mi s (l.drop (l.length - k)))/\b9 g 0 l.length w wr)
  (fun _ i _=>l.length - (intOf i).toNat)
 case atStart=>exact⟨0,0,aX _,rfl,rfl,by omega,by show _=_;simp,by simpa [mi] using hl,b9.refl _ _ _ _⟩
 case round=>
  obtain⟨k,ab,hk,rfl,rfl,hab,R9,cY,gz⟩:=hrel;by_cases hlt:k<l.length
  ·obtain⟨m,hm⟩:∃m,m+1=l.length - k:=⟨l.length - k - 1,by omega⟩;(have qC:m<l.length:=by omega);(have e1:l.length - (k+1)=m:=by omega);have hd:l.drop m=l[m]::l.drop (m+1):=mU qC;have hx:=eZ _ (bY qC);rw[<- hm] at cY R9;(have gC:m<(l.take (m+1)++mi s (l.drop (m+1))).length:=by simp;omega);have hcell:=cY.cell m gC;have hfz:=cY.frozen (0+m);have cX:=fun y=>cY.set m gC y;simp only[adY l _ m _ qC] at cX
   have tz:(l.take (m+1)++mi s (l.drop (m+1)))[m]?.getD 0=l[m]:=by
    rw[List.getElem?_append_left (by simp;omega),rB,aB (by omega),ba qC];rfl
   rw[tz] at hcell;rw[bI] at hcell hfz;(have HG:Hid (mi s (l.drop m)=(l[m]+W*(l.drop (m+1))[0]?.getD 0)/2^s % W::mi s (l.drop (m+1))):=by show _=_;rw[hd];rfl);(have HH:Hid ((l.drop m)[0]?.getD 0=l[m]):=by show _=_;rw[hd];rfl);rw[fT] at hx;rw[<- R9.o] at HG;generalize mi s (l.drop (m+1))=q at *;generalize l[m]=x at *;obtain⟨t,ht⟩:∃t,t=ab % 4294967296*4294967296+x:=⟨_,rfl⟩;(have tk:bits .or .u64 (IntKind.u64.wrap ((ab:Int)*4294967296)) (x:Int)=(t:Int):=by rw[ht];exact aeD ab x hx);(have yO:t<18446744073709551616:=by omega);(have FB:t % 4294967296=x:=by omega);have J7:=aF FB;have HT:=aF ht;(have hmk:(l.length:Int) - 1 - (k:Int)=(m:Int):=by omega);have jV:=aF cX;clear ht tz cX hd gC cY R9 FB;go_wp2
   have hv:Value.int .u32 ((t:Int)/2^s % 4294967296)=.int .u32 (((x+W*(ab % 4294967296))/2^s % W:Nat):Int):=int_eq (by
    (have e:x+W*(ab % 4294967296)=t:=by rw[HT.o,fT,dC];omega);rw[e,fT,rD,vX,Int.natCast_pow];rfl)
   rw[hv];have hq:=jV.o ((x+W*(ab % 4294967296))/2^s % W);rw[bI] at hq;go_roundw
   case rel=>exact⟨k+1,t,by omega,by go_num,rfl,yO,by show _=_;rw[e1,HH.o];exact J7.o,by rw[e1,HG.o];exact hq,gz.trans (b9.setCell (aX _) (by omega) _)⟩
   case measure=>simp[intOf];omega
  ·obtain rfl:k=l.length:=by omega
   go_wp2;go_end0
   refine⟨rfl,?_,gz⟩;simpa using cY
theorem ajG (xs ys:List Nat) (hl:xs.length=ys.length+1) (hx:Small xs) (lF:0<ys.length) (rP:ys[ys.length - 1]?.getD 0≠0) (hlt:nw xs<W*nw ys):
  nw xs/nw ys<=min ((xs[ys.length]?.getD 0*W+xs[ys.length - 1]?.getD 0)/ys[ys.length - 1]?.getD 0) (W - 1):=by
 obtain⟨d,hd⟩:∃d,ys.length=d+1:=⟨ys.length - 1,by omega⟩;rw[hd,KR] at rP⊢
 have hny:0<nw ys:=by
  have:=qo ys d (by omega)
  have h2:ys.drop d=[ys[d]?.getD 0]:=by
   rw[mU (by omega),ES (by omega),ba (by omega)];rfl
  rw[h2,jK,lA,j3,gg] at this;have:0<W^d*ys[d]?.getD 0:=Nat.mul_pos (ru kr) (jY rP);omega
 have hq:nw xs/nw ys<W:=EN (by rw[dC];exact hlt);have hle:=Nat.div_mul_le_self (nw xs) (nw ys);generalize nw xs/nw ys=q at *;refine Nat.le_min.2 ⟨?_,by omega⟩;rw[Nat.le_div_iff_mul_le (jY rP)];have ey:=qo ys d (by omega)
 have hy2:ys.drop d=[ys[d]?.getD 0]:=by
  rw[mU (by omega),ES (by omega),ba (by omega)];rfl
 rw[hy2,jK,lA,j3,gg] at ey;have ex:=qo xs d (by omega)
 have hx2:xs.drop d=[xs[d]?.getD 0,xs[d+1]?.getD 0]:=by
  rw[mU (by omega),mU (by omega),ES (by omega),ba (by omega),ba (by omega)];rfl
 have aiB:=sV (xs.take d) (E8 hx d);rw[eB,tZ (by omega)] at aiB;rw[hx2,jK,jK,lA,j3,gg] at ex;generalize ys[d]?.getD 0=y at *;generalize xs[d]?.getD 0=x0 at *;generalize xs[d+1]?.getD 0=x1 at *;have h1:q*(W^d*y)<=q*nw ys:=kE _ (by omega)
 have h2:W^d*(q*y)<W^d*(x1*W+x0+1):=by
  rw[yg] at h1;rw[k8,oF,z8 (x1*W) x0,dC x1 W];omega
 have:=Nat.lt_of_mul_lt_mul_left h2;omega
theorem ad1 (g off cap b im:Nat) (xs ys:List Nat) (w:World) (hl:xs.length=ys.length+1) (gN:Small xs) (iB:Small ys) (hlen:xs.length<=35184372088832) (lF:0<ys.length) (rP:ys[ys.length - 1]?.getD 0≠0) (hlt:nw xs<W*nw ys) (hx:bc w g off xs) (hy:bc w b 0 ys) (hgb:b≠g):
  Calls Tryz.prog 242 #[.slice (some ⟨g,off,none⟩) xs.length cap,.slice (some ⟨b,0,none⟩) ys.length im] w fun e w'=>∃l',e=.returned (.int .u32 (nw xs/nw ys:Nat))/\l'.length=xs.length/\Small l'/\nw l'=nw xs % nw ys/\bc w' g off l'/\b9 g off xs.length w w':=by
 have hgg:=ajG xs ys hl gN lF rP hlt;have hc1:=hx.cell ys.length (by omega);have hc2:=hx.cell (ys.length - 1) (by omega);have hc3:=hy.cell (ys.length - 1) (by omega);rw[bI] at hc3;have hb1:=getD_lt gN ys.length;have hb2:=getD_lt gN (ys.length - 1);have hb3:=getD_lt iB (ys.length - 1);have Ev:=aF hgg;have HL:=aF hl;have Ob:=aF hlt;rw[fT] at hb1 hb2 hb3;have QQ:ys.length<xs.length:=by omega
 have tk:=Yd (xs[ys.length]?.getD 0) (xs[ys.length - 1]?.getD 0) hb1 hb2;rw[fT] at Ev;generalize xs[ys.length]?.getD 0=x1 at *;generalize xs[ys.length - 1]?.getD 0=x0 at *;generalize ys[ys.length - 1]?.getD 0=y1 at *;obtain⟨t,ht⟩:∃t,t=x1*4294967296+x0:=⟨_,rfl⟩;rw[<- ht] at tk Ev;have yO:t<18446744073709551616:=by omega
 have A4:(ys.length:Int) - 1<(xs.length:Int):=by omega
 have A3:(ys.length:Int)<(xs.length:Int):=by omega
 have A2:0<=(ys.length:Int) - 1:=by omega
 have RA:((ys.length:Int) - 1).toNat=ys.length - 1:=by omega
 have Rz:IntKind.i64.wrap ((ys.length:Int) - 1+1)=(ys.length:Int):=by rw[gV];omega
 clear ht hl hlt hgg;go_enter Tryz.func242,Tryz.ntmps242;go_wp2_with fail
 go_quiet (fail)
 go_wp2_with fail
 obtain⟨gs,mC⟩:∃gs,gs=min (t/y1) 4294967295:=⟨_,rfl⟩;have hty:t/y1<=t:=vQ _ _
 have FX:min (IntKind.u64.wrap ((t:Int)/(y1:Int))) 4294967295 % 4294967296=(gs:Int):=by
  rw[KY, <- vX,mC];generalize t/y1=z at *;omega
 rw[FX];have aav:gs<4294967296:=by omega
 have HQ:Hid (nw xs/nw ys<=gs):=by show _<=_;rw[mC];exact Ev.o
 clear FX mC Ev tk hc1 hc2 hc3;refine(VX g off cap b 0 im xs ys gs _ gN iB aav hlen (by omega) (hx.drewN nq) (hy.drewN nq) hgb).ae ?_;rintro e w2 ⟨s,l,rfl,dJ,hsm,hn,IL,hu⟩;have ZK:b9 g off xs.length w w2:=((b9.refl g off xs.length w).drewN nq).trans hu;have aak:=sV l hsm;rw[dJ] at aak
 have aji:gs*nw ys<W^xs.length:=by
  have h1:=sV ys iB;have h2:gs*nw ys<=(W - 1)*nw ys:=jD _ (by rw[fT];omega);have h3:W*nw ys<=W*W^ys.length:=kE _ (vP h1);have h4:(W - 1)*nw ys<=W*nw ys:=jD _ (by omega);have h5:W^xs.length=W*W^ys.length:=by rw[HL.o,gS,dC]
  have h6:0<W^ys.length:=ru kr;have h7:(W - 1)*nw ys<=(W - 1)*W^ys.length:=kE _ (vP h1)
  have h8:(W - 1)*W^ys.length+W^ys.length=W*W^ys.length:=by
   (have:(W - 1+1)*W^ys.length=W*W^ys.length:=by rw[OL kr]);rwa [fC,jZ] at this
  omega
 have hs1:s=0∨s=1:=by
  rcases cM s 2 with h |h
  ·omega
  ·have:W^xs.length*2<=W^xs.length*s:=kE _ h;omega
 have ZT:Hid ((decide (s≠0)=false/\nw l+gs*nw ys=nw xs)∨(decide (s≠0)=true/\nw l+gs*nw ys=nw xs+W^xs.length/\nw xs<gs*nw ys)):=by
  rcases hs1 with rfl |rfl
  ·exact .inl ⟨rfl,by rw[hn];omega⟩
  ·refine .inr ⟨rfl,by rw[hn];omega,?_⟩;omega
 generalize decide (s≠0)=be at *;clear hn aak aji hs1 hu;go_wp2;go_loopg [7,8] gs (fun r gu be wr=>∃(l:List Nat) (bb:Bool),gu=.int .u32 (r:Nat)/\be=.bool bb/\l.length=xs.length/\Small l/\bc wr g off l/\b9 g off xs.length w wr/\Hid (nw xs/nw ys<=r)/\r<4294967296/\Hid ((bb=false/\nw l+r*nw ys=nw xs)∨(bb=true/\nw l+r*nw ys=nw xs+W^xs.length/\nw xs<r*nw ys)))
 case atStart=>exact⟨l,be,rfl,rfl,dJ,hsm,IL,ZK,HQ,aav,ZT⟩
 case round=>
  obtain⟨l2,bb,rfl,rfl,aam,Mk,cY,gz,oQ,ana,FY⟩:=hrel;clear ZT IL ZK HQ;have p8:=aF aam;clear aam;cases bb with
  |false=>
   have hc:nw l2+gk*nw ys=nw xs:=by
    rcases FY.o with ⟨_,h⟩ |⟨h,_⟩
    ·exact h
    ·cases h
   have hyp:0<nw ys:=by
    rcases ub (nw ys) with e |e
    ·have:=Ob.o;rw[e,j3] at this;omega
    ·exact e
   have RB:gk=nw xs/nw ys:=by
    have h1:gk<=nw xs/nw ys:=(Nat.le_div_iff_mul_le hyp).2 (by omega);have:=oQ.o;omega
   have HR:Hid (nw l2=nw xs % nw ys):=by
    show _=_;have h1:=Nat.div_add_mod' (nw xs) (nw ys);rw[<- RB] at h1;omega
   have HG:=aF RB;clear hc RB FY;go_wp2;go_ret;exact⟨l2,by rw[<- HG.o];rfl,p8.o,Mk,HR.o,cY,gz⟩
  |true=>
   obtain⟨hc1,hc2⟩:nw l2+gk*nw ys=nw xs+W^xs.length/\nw xs<gk*nw ys:=by
    rcases FY.o with ⟨h,_⟩ |⟨_,h⟩
    ·cases h
    ·exact h
   have hr1:1<=gk:=by
    rcases ub gk with e |e
    ·rw[e,mQ] at hc2;omega
    ·exact e
   have Kz:=aF hc1;have vL:=aF hc2;have ZB:=(hy.apart gz hgb);clear hc1 hc2 FY;go_wp2_with fail
   have nW:=PX g off cap b 0 im l2 ys wr Mk iB (by rw[p8.o];exact hlen) (by rw[p8.o];omega) cY ZB hgb;rw[p8.o] at nW;refine nW.ae ?_;rintro e w3 ⟨c,l3,rfl,Rp,ZZ,uB,ai2,kg⟩;have aaj:=sV l3 ZZ;rw[Rp] at aaj
   have hmul:gk*nw ys=(gk - 1)*nw ys+nw ys:=by
    (have:(gk - 1+1)*nw ys=gk*nw ys:=by rw[OL hr1]);rw[<- this,fC,jZ]
   have xM:Hid (((!c)=false/\nw l3+(gk - 1)*nw ys=nw xs)∨((!c)=true/\nw l3+(gk - 1)*nw ys=nw xs+W^xs.length/\nw xs<(gk - 1)*nw ys)):=by
    have h1:=Kz.o;cases c with
    |true=>simp only[if_true] at uB;exact .inl ⟨rfl,by omega⟩
    |false=>simp only[Bool.false_eq_true,if_false,gg] at uB;exact .inr ⟨rfl,by omega,by omega⟩
   have HQ3:Hid (nw xs/nw ys<=gk - 1):=by
    show _<=_
    have hyp:0<nw ys:=by
     rcases ub (nw ys) with e |e
     ·have:=Ob.o;rw[e,j3] at this;omega
     ·exact e
    have:=(Nat.div_lt_iff_lt_mul hyp).2 vL.o;omega
   have fO:=aF Rp;clear uB aaj hmul nW Rp cY ZB Kz vL;go_wp2;go_roundg (gk - 1)
   case measure=>omega
   case rel=>exact⟨l3,!c,int_eq (by omega),rfl,fO.o,ZZ,ai2,gz.trans kg,HQ3,by omega,xM⟩
variable {lf ql:List Nat}
theorem agQ (l:List Nat) (i y:Nat) (hi:i<l.length):nw (l.set i y)+W^i*l[i]?.getD 0=nw l+W^i*y:=by
 have e1:=qo l i (by omega);have e2:=qo (l.set i y) i (by rw[uf];omega);have e3:(l.set i y).take i=l.take i:=List.take_set_of_le (ak _)
 have e4:(l.set i y).drop i=y::l.drop (i+1):=by
  rw[List.drop_set,aD (by omega),nD,mU hi,Ct]
 have e5:l.drop i=l[i]?.getD 0::l.drop (i+1):=by rw[mU hi,ba hi];rfl
 rw[e3,e4,jK,k8] at e2;rw[e5,jK,k8] at e1;omega
structure rp (X Y L:Nat) (lf ql:List Nat) (j:Nat):Prop where
 qlen:ql.length=L
 qs:Small ql
 ls:Small lf
 zero:∀t,t< j ->ql[t]?.getD 0=0
 eq:nw ql*Y+nw lf=X
 lt:nw (lf.drop j)<Y
theorem rp.seg {X Y L:Nat} (h:rp X Y L lf ql (i+1)) (hY:Y<=W^m) (hl:i+m+1<=lf.length):
  nw ((lf.drop i).take (m+1))<W*Y/\nw (lf.drop i)=nw ((lf.drop i).take (m+1))/\nw (lf.drop (i+(m+1)))=0:=by
 have e5:lf.drop i=lf[i]?.getD 0::lf.drop (i+1):=by rw[mU (by omega),ba (by omega)];rfl
 have hd:nw (lf.drop i)<W*Y:=by
  have h1:=h.lt;have h2:=getD_lt h.ls i;have h3:W*(nw (lf.drop (i+1))+1)<=W*Y:=kE _ h1;rw[k8] at h3;rw[e5,jK];omega
 have hc:=qo (lf.drop i) (m+1) (by rw[l7];omega);rw[List.drop_drop] at hc
 have hz:nw (lf.drop (i+(m+1)))=0:=by
  rcases ub (nw (lf.drop (i+(m+1)))) with e |e
  ·exact e
  ·have h4:W^(m+1)*1<=W^(m+1)*nw (lf.drop (i+(m+1))):=kE _ e;(have h5:W*Y<=W^(m+1):=by rw[gS,dC];exact jD _ hY);omega
 rw[hz,j3,gg] at hc;exact⟨by omega,hc,hz⟩
theorem rp.step {X Y L:Nat} {seg:List Nat} (h:rp X Y L lf ql (i+1)) (hY:Y<=W^m) (hl:i+m+1<=lf.length) (hi:i<L) (uK:0<Y)
  (eZ:seg.length=m+1) (ZU:Small seg) (ZY:nw seg=nw ((lf.drop i).take (m+1)) % Y):
  rp X Y L (lf.take i++seg++lf.drop (i+(m+1))) (ql.set i (nw ((lf.drop i).take (m+1))/Y)) i:=by
 obtain⟨s1,s2,s3⟩:=h.seg hY hl;have ur:(lf.take i).length=i:=by rw[eB];omega
 generalize hS:nw ((lf.drop i).take (m+1))=S at *;have hq:S/Y<W:=EN (by rw[dC];exact s1);have cX:=agQ ql i (S/Y) (by rw[h.qlen];exact hi);rw[h.zero i (by omega),j3,gg] at cX;have hdm:=Nat.div_add_mod' S Y;have hcut:=qo lf i (by omega)
 have hnl:nw (lf.take i++seg++lf.drop (i+(m+1)))=nw (lf.take i)+W^i*(S % Y):=by
  rw[yI,s3,j3,gg,yI,ur,ZY]
 refine⟨by rw[uf];exact h.qlen,?_,?_,?_,?_,?_⟩
 ·intro x hx;rcases Ve hx with hx |rfl
  ·exact h.qs x hx
  ·exact hq
 ·exact wB (wB (E8 h.ls i) ZU) (Hy h.ls _)
 ·intro t ht;rw[O0 (by omega)];exact h.zero t (by omega)
 ·rw[cX,hnl,fC, <- h.eq,hcut,s2];have:W^i*S=W^i*(S/Y)*Y+W^i*(S % Y):=by rw[ie, <- k8,hdm]
  omega
 ·rw[jh,List.drop_append,ur,nD,ES (by omega),gi,CA,yI,s3,j3,gg,ZY];exact gJ _ uK
theorem rp.start {X Y s:Nat} {xs:List Nat} (hm:0<m) (hmn:m<=n) (hs:Small lf) (hxn:xs.length=n) (hxs:Small xs) (hX:X=2^s*nw xs) (IM:nw lf=X) (dJ:lf.length=n+1) (hY:2^s*W^(m - 1)<=Y):
  rp X Y (n - m+1) lf (List.replicate (n - m+1) 0) (n - m+1):=by
 refine⟨by simp,WB _,hs,fun t _=>by rw[O1];split<;>rfl,by rw[Qk,mQ,bI,IM],?_⟩;have hc:=qo lf (n - m+1) (by omega);have hlt:nw xs<W^n:=by rw[<- hxn];exact sV xs hxs
 have hp:0<2^s:=ru (by decide);have h1:2^s*nw xs<2^s*W^n:=Nat.mul_lt_mul_of_pos_left hlt hp;have h2:W^n=W^(n - m+1)*W^(m - 1):=by rw[<- z6];congr 1;omega
 have h3:W^(n - m+1)*nw (lf.drop (n - m+1))<W^(n - m+1)*(2^s*W^(m - 1)):=by
  rw[yg, <- h2];omega
 exact aR (Nat.lt_of_mul_lt_mul_left h3) hY
theorem rp.stop {X Y L:Nat} (h:rp X Y L lf ql 0):nw ql=X/Y/\nw lf=X % Y:=by
 have h1:=h.lt;rw[CA] at h1;have h2:=h.eq;have hY:0<Y:=by omega
 constructor
 ·rw[<- h2,z8,OV _ _ hY,vR h1,bI]
 ·rw[<- h2,z8,OU,iQ h1]
theorem alL (k:Nat):∀x,x<2^k ->k<=32 ->Lib.bitLen x<=k/\x<2^Lib.bitLen x:=by
 induction k with
 |zero=>
  intro x h _;have:x=0:=by simpa using h
  subst this;exact⟨ak _,by decide⟩
 |succ k ih=>
  intro x h hk;by_cases h0:x=0
  ·subst h0;exact⟨aX _,by decide⟩
  ·have QR:x<2^64:=aR h (jf (by decide) (by omega));have e:=Lib.bitLen_half x h0 QR;obtain⟨i1,i2⟩:=ih (x/2) (EN (by rw[gS] at h;omega)) (by omega);rw[e];refine⟨by omega,?_⟩;rw[z8,gS];omega
theorem alK (x:Nat) (h0:x≠0) (h:x<4294967296):1<=Lib.bitLen x:=by
 have:=Lib.bitLen_half x h0 (by omega);omega
theorem ab5 (ys:List Nat) (s:Nat) (hs:Small ys) (lF:0<ys.length) (rP:ys[ys.length - 1]?.getD 0≠0) (rQ:2^s*(ys[ys.length - 1]?.getD 0+1)<=W):
  (words (2^s*nw ys)).length=ys.length/\2^s*W^(ys.length - 1)<=2^s*nw ys/\2^s*nw ys<=W^ys.length:=by
 obtain⟨d,hd⟩:∃d,ys.length=d+1:=⟨ys.length - 1,by omega⟩;rw[hd,KR] at rP rQ⊢;have ey:=qo ys d (by omega)
 have hy2:ys.drop d=[ys[d]?.getD 0]:=by
  rw[mU (by omega),ES (by omega),ba (by omega)];rfl
 rw[hy2,jK,lA,j3,gg] at ey;have hlt:=sV (ys.take d) (E8 hs d);rw[eB,tZ (by omega)] at hlt;generalize ys[d]?.getD 0=y at *;have hp:0<2^s:=ru (by decide);have h1:W^d*1<=W^d*y:=kE _ (jY rP);have tu:W^d<=nw ys:=by omega
 have A5:nw ys<W^d*(y+1):=by rw[k8];omega
 have h2:2^s*nw ys<2^s*(W^d*(y+1)):=Nat.mul_lt_mul_of_pos_left A5 hp;have h3:2^s*(W^d*(y+1))<=W^d*W:=by rw[yg];exact kE _ rQ
 have h4:2^s*nw ys<W^(d+1):=by rw[gS];omega
 have h5:W^d<=2^s*nw ys:=aM tu (Cr _ hp);refine⟨?_,kE _ tu,by omega⟩;have hw:=jJ (2^s*nw ys);have hsm:=ll (2^s*nw ys);have wO:=sV _ hsm;rw[hw] at wO
 have js:(words (2^s*nw ys)).length<=d+1:=by
  obtain⟨k,hk,e⟩:=K6 (words (2^s*nw ys)++List.replicate 0 0) (by simpa using hsm);have hne:words (2^s*nw ys)≠[]:=fun e=>by rw[K7] at e;have:0<W^d:=ru kr;omega
  have hl:=Vp _ hne;rcases cM (d+1) (words (2^s*nw ys)).length with c |c
  ·exfalso
   generalize words (2^s*nw ys)=l at *;obtain⟨z,hz⟩:∃z,l.length=z+1:=⟨l.length - 1,by omega⟩;have ec:=qo l z (by omega);rw[List.getLast_eq_getElem] at hl;(have hz2:l.drop z=[l[z]'(by omega)]:=by rw[mU (by omega),ES (by omega)]);simp only[hz,KR] at hl;rw[hz2,jK,lA,j3,gg] at ec;have h6:W^z*1<=W^z*l[z]'(by omega):=kE _ (jY hl);have h7:W^(d+1)<=W^z:=jf kr (by omega);omega
  ·exact c
 rcases cM (words (2^s*nw ys)).length (d+1) with c |c
 ·have:W^(words (2^s*nw ys)).length<=W^d:=jf kr (by omega);omega
 ·omega
theorem akT (vx:Option Addr) (n jR:Nat) (vy:Option Addr) (m im:Nat) (w:World) (h:n<m):
  Calls Tryz.prog 213 #[.slice vx n jR,.slice vy m im] w fun e w'=>e=.returned (.tuple #[.slice none 0 0,.slice vx n jR])/\w'=w:=by
 go_enter Tryz.func213,Tryz.ntmps213;go_wp2;go_ret2;exact⟨rfl,rfl⟩
theorem Has.slice {base:Nat} {v:Value} {l:List Nat} (h:Has w base v l) (hl:0<l.length):∃g cap,v=.slice (some ⟨g,0,none⟩) l.length cap/\l.length<=cap/\base<=g/\bc w g 0 l:=by
 rcases h.cases with ⟨_,rfl⟩ |h
 ·simp at hl
 ·exact h
theorem O9 (n:Nat) (h:0<(words n).length):(words n)[(words n).length - 1]?.getD 0≠0:=by
 have hne:words n≠[]:=KT.1 h;have:=Vp n hne;rw[List.getLast_eq_getElem] at this;rwa [ba (by omega)]
def mJ (w:World) (base g n cap:Nat) (l:List Nat):Prop:=w.ownsRow base 114 1 (.slice (some ⟨g,0,none⟩) n cap) n (l.map u32)
theorem mJ.lies {base:Nat} {l:List Nat} (h:mJ w base g n cap l):bc w g 0 l:=(Aw h).2.2.2
theorem mJ.len {base:Nat} {l:List Nat} (h:mJ w base g n cap l):n=l.length:=(Aw h).1
theorem mJ.upd {base off:Nat} {l:List Nat} (h:mJ w base g n cap l) (hu:b9 g off m w w') (hl:bc w' g 0 l') (hlen:l'.length=n):mJ w' base g n cap l':=
 XR h (hu.ae (off':=0) (n':=off+m) (aX _) (by omega)) hl hlen
theorem mJ.apart {base off:Nat} {l:List Nat} (h:mJ w base g n cap l) (hu:b9 g' off m w w') (hd:g≠g'):mJ w' base g n cap l:=by
 refine⟨h.1,?_⟩;rcases h.2 with ⟨h',_⟩ |⟨g1,anH,cur,r1,r2,r3,r4⟩
 ·cases h'
 ·cases r1;exact .inr ⟨g,cap,cur,rfl,r2,(hu.grown.block g (cV.1 r3).1 (by simp[hd])).trans r3,r4⟩
theorem mJ.lies_le {base:Nat} {l:List Nat} (h:mJ w base g n cap l):l.length<=cap:=(Aw h).2.1
theorem mJ.words {base:Nat} {l:List Nat} (h:mJ w base g n cap l) (hs:Small l):Has w base (.slice (some ⟨g,0,none⟩) (words (nw l)).length cap) (words (nw l)):=by
 obtain⟨k,hk,hw⟩:=K6 l hs;have eD:(Proofs.YtfgkjjlocjmfeaaGreatDoor.words (nw l)).length=k:=by rw[hw];simp;omega
 have:=ak6 k hk h;rw[<- hw] at this;rw[Has,eD];exact this
theorem bc.patch {at':Nat} {seg:List Nat} (h:bc w g 0 lf) (hu:b9 g at' n w w') (hs:bc w' g at' seg) (hn:seg.length=n) (hl:at'+n<=lf.length):bc w' g 0 (lf.take at'++seg++lf.drop (at'+n)):=by
 have h1:bc w g 0 (lf.take at'):=by have:=h.piece 0 at' (by omega);rwa [CA] at this
 have h2:=h.piece (at'+n) (lf.length - (at'+n)) (by omega);rw[jF (by simp)] at h2;have ur:(lf.take at').length=at':=by rw[eB];omega
 refine((h1.beside hu (by rw[ur];omega)).append (by rw[ur,bI];exact hs)).append ?_;rw[bM,ur,hn];exact h2.beside hu (by omega)
theorem akU (gx jR gy im:Nat) (xs ys:List Nat) (w:World) (gN:Small xs) (iB:Small ys) (hlx:xs.length<=4398046511104) (lF:0<ys.length) (rP:ys[ys.length - 1]?.getD 0≠0) (yN:ys.length<=xs.length) (hx:bc w gx 0 xs) (hy:bc w gy 0 ys):
  Calls Tryz.prog 213 #[.slice (some ⟨gx,0,none⟩) xs.length jR,.slice (some ⟨gy,0,none⟩) ys.length im] w fun e w'=>
   ∃gq cq gr cr,e=.returned (.tuple #[.slice (some ⟨gq,0,none⟩) (words (nw xs/nw ys)).length cq,.slice (some ⟨gr,0,none⟩) (words (nw xs % nw ys)).length cr])/\
    Has w' w.heap.size (.slice (some ⟨gq,0,none⟩) (words (nw xs/nw ys)).length cq) (words (nw xs/nw ys))/\Has w' w.heap.size (.slice (some ⟨gr,0,none⟩) (words (nw xs % nw ys)).length cr) (words (nw xs % nw ys))/\Below w.heap.size w w':=by
 obtain⟨i0,hi,hz0,hz1,hz2⟩:=dK Tryz.infoU32;have hgx:=hx.lt;have Dh:=hy.lt;have uF:=hy.cell (ys.length - 1) (by omega);rw[bI] at uF;have hyb:=getD_lt iB (ys.length - 1);rw[fT] at hyb;obtain⟨bl1,bl2⟩:=alL 32 (ys[ys.length - 1]?.getD 0) (by simpa using hyb) (by omega);have bl0:=alK _ rP hyb;obtain⟨s,hs⟩:∃s,s=32 - Lib.bitLen (ys[ys.length - 1]?.getD 0):=⟨_,rfl⟩;have Q7:s<32:=by omega
 have rQ:2^s*(ys[ys.length - 1]?.getD 0+1)<=W:=by
  have h1:2^s*(ys[ys.length - 1]?.getD 0+1)<=2^s*2^Lib.bitLen (ys[ys.length - 1]?.getD 0):=kE _ bl2;rw[<- z6,show s+Lib.bitLen (ys[ys.length - 1]?.getD 0)=32 by omega] at h1;exact h1
 have aaE:=ab5 ys s iB lF rP rQ;have Ci:=aF aaE;have Mt:=fun V=>Tryz.bits_LeadingZeros32 ((ys[ys.length - 1]?.getD 0:Nat):Int) V (by omega) (by omega);simp only[nH] at Mt;have uu:(32:Int) - (Lib.bitLen (ys[ys.length - 1]?.getD 0):Int)=(s:Int):=by omega
 simp only[uu] at Mt;have HLZ:=aF Mt;have anI:=aF rP;generalize ys[ys.length - 1]?.getD 0=y1 at *;have hnl:¬xs.length<ys.length:=by omega
 clear bl1 bl2 bl0 hs rQ aaE Mt uu rP;go_enter Tryz.func213,Tryz.ntmps213;go_wp2_with fail
 refine(HLZ.o _).ae ?_;rintro e w0 ⟨rfl,hw0⟩;subst hw0;go_wp2_with fail
 refine(WG gx jR xs s _ gN Q7 (by omega) hx).ae ?_;rintro e w1 ⟨v1,l1,rfl,h1,hs1,iJ,eO,hb1⟩;obtain⟨g1,c1,rfl,hc1,aaK,aao⟩:=h1.slice (by omega);have GQ:=aF iJ;have Cb:=aF eO;have anl:l1.length<=4398046511105:=by omega
 have anw:xs.length+1<=c1:=by omega
 clear iJ eO;have hy1:=hy.aa hb1 Dh;go_wp2_with fail
 refine(WG gy im ys s _ iB Q7 (by omega) hy1).ae ?_;rintro e w2 ⟨v2,l2,rfl,h2,hs2,hl2,iD,hb2⟩;obtain⟨g2,c2,rfl,hc2,anz,Mu⟩:=h2.slice (by omega);have tS:=aF iD;have ank:l2.length<=4398046511105:=by omega
 clear hl2 iD;go_wp2_with fail
 have uw:=Le g2 0 c2 l2 w2 hs2 hc2 (by omega) (fun j hj=>Mu.cell j hj);rw[tS.o,Ci.o.1] at uw;refine uw.ae ?_;rintro e w3 ⟨rfl,hw3⟩;subst hw3;have ZG:∃k,k<=l2.length/\words (nw l2)=l2.take k:=K6 l2 hs2
 have js:bc w3 g2 0 (words (2^s*nw ys)):=by
  obtain⟨k,hk,e⟩:=ZG;have:=Mu.piece 0 k (by omega);rwa [CA, <- e,tS.o] at this
 have zi:=h1.aa hb2 (ak _);have hB2:Below w0.heap.size w0 w3:=hb1.trans (hb2.ae hb1.size);have ans:g1<w1.heap.size:=aao.lt;have anr:g2<w3.heap.size:=Mu.lt;have Mj:=hB2.size;have am7:=hb2.size;have H12:=aF zi;have Ce:=aF js;clear uw ZG js zi aao Mu h1 h2 hy1;go_wp2_with (at_make;refine nC _ rfl _ _ 198 rfl w0.heap.size 114 i0 (.int .u32 0) 1 Tryz.underlying198 hi hz0 hz1 .i64 .i64 _ _ (xs.length - ys.length+1) rfl rfl (by omega) (by omega) (by rw[hz2];omega) (by unfold maxLen;omega) (by omega) ?_;intro w4 nX Di)
 have hb4:=pV nX;rw[Ij] at hb4;have ir:=aF hb4;have dO:Below w0.heap.size w0 w4:=hB2.grown Di (by omega) (fun k e=>by cases e);have tP:Hid (mJ w4 w0.heap.size g1 l1.length c1 l1):=Has.aa H12.o (B:=w3.heap.size) ((aw _ w3).grown Di (ak _) (fun k e=>by cases e)) (ak _)
 have HOQ:Hid (mJ w4 w0.heap.size w3.heap.size (xs.length - ys.length+1) (xs.length - ys.length+1) (List.replicate (xs.length - ys.length+1) 0)):=by
  have:=H9 (base:=w0.heap.size) (cap:=xs.length - ys.length+1) (l:=List.replicate (xs.length - ys.length+1) 0) _ hb4 (by simp) (by omega) (by unfold maxLen;omega) (by simp) ⟨_,hb4,by simp,fun j hj=>by simp at hj;simp[hj]⟩;rw[Hc] at this;exact this
 have mN:Hid (bc w4 g2 0 (words (2^s*nw ys))):=(Ce.o).grown Di (by simp);have HI:Hid (rp (2^s*nw xs) (2^s*nw ys) (xs.length - ys.length+1) l1 (List.replicate (xs.length - ys.length+1) 0) (xs.length - ys.length+1)):=rp.start lF yN hs1 rfl gN rfl Cb.o GQ.o Ci.o.2.1;have xX:=aF dO;clear hb4 nX Di H12 Ce hB2 dO
 go_loopw [40] (fun i wr=>∃(k:Nat) (lf ql:List Nat),k<=xs.length - ys.length+1/\i=.int .i64 k/\Hid (rp (2^s*nw xs) (2^s*nw ys) (xs.length - ys.length+1) lf ql (xs.length - ys.length+1 - k))/\Hid (mJ wr w0.heap.size g1 l1.length c1 lf)/\Hid (mJ wr w0.heap.size w3.heap.size (xs.length - ys.length+1) (xs.length - ys.length+1) ql)/\Hid (bc wr g2 0 (words (2^s*nw ys)))/\Hid (Below w0.heap.size w0 wr))
  (fun i _=>xs.length - ys.length+1 - (intOf i).toNat)
 case atStart=>exact⟨0,l1,_,aX _,rfl,HI,tP,HOQ,mN,xX⟩
 case round=>
  obtain⟨k,lf,ql,hk,rfl,Oh,HOr,Kj,JX,zS⟩:=hrel;clear HI tP HOQ mN xX;by_cases hlt:k<xs.length - ys.length+1
  ·go_wp2_with fail
   obtain⟨p,hp⟩:∃p,p=xs.length - ys.length - k:=⟨_,rfl⟩;(have hn:xs.length - ys.length - k+ys.length+1 - (xs.length - ys.length - k)=ys.length+1:=by omega);rw[hn, <- hp];(have aap:lf.length=xs.length+1:=by have:=HOr.o.len;have:=GQ.o;omega);(have eZ:((lf.drop p).take (ys.length+1)).length=ys.length+1:=by rw[eB,l7];omega)
   have HD:Hid (rp (2^s*nw xs) (2^s*nw ys) (xs.length - ys.length+1) lf ql (p+1)):=by
    have:=Oh.o;rwa [show xs.length - ys.length+1 - k=p+1 by omega] at this
   have Q4:=HD.o.seg Ci.o.2.2 (by omega);have FB:=ad1 g1 p (c1 - p) g2 c2 ((lf.drop p).take (ys.length+1)) (words (2^s*nw ys)) wr (by rw[eZ,Ci.o.1]) (E8 (Hy HD.o.ls _) _) (ll _) (by rw[eZ];omega) (by rw[Ci.o.1];exact lF) (O9 _ (by rw[Ci.o.1];exact lF)) (by rw[jJ];exact Q4.1) (by have:=HOr.o.lies.piece p (ys.length+1) (by omega);rwa [bI] at this) JX.o (by omega);rw[eZ,Ci.o.1,jJ] at FB;refine FB.ae ?_;clear FB;rintro e w5 ⟨seg,rfl,Q1,aiK,ZX,IP,wP⟩;(have hpL:p<xs.length - ys.length+1:=by omega);have HST:=aF (HD.o.step Ci.o.2.2 (by omega) hpL (by have:=Q4.1;rcases ub (2^s*nw ys) with e |e;(rw[e,j3] at this;omega);exact e) Q1 aiK ZX);have Df:=HOr.o.lies.patch wP IP Q1 (by omega);have zH:Hid (mJ w5 w0.heap.size g1 l1.length c1 (lf.take p++seg++lf.drop (p+(ys.length+1)))):=HOr.o.upd wP Df (by have:=GQ.o;simp;omega);have vD:=aF (Kj.o.apart wP (by omega));have Gm:=aF (JX.o.apart wP (by omega));have fG:=aF (b9.aa zS.o wP aaK zS.o.size);(have Z9:p<ql.length:=by have:=Kj.o.len;omega);have hcell:=vD.o.lies.cell p Z9;have hfz:=vD.o.lies.frozen p;rw[bI] at hcell;have cX:=vD.o.lies.set p Z9 (nw ((lf.drop p).take (ys.length+1))/(2^s*nw ys));rw[bI] at cX;have jV:=aF cX;have HLF:=aF aap;generalize hqv:nw ((lf.drop p).take (ys.length+1))/(2^s*nw ys)=qv at *;generalize ql[p]?.getD 0=old at *;clear cX Df Q4 eZ Q1 ZX IP aap Oh HOr Kj JX zS HD hn hqv;subst hp;go_wp2;go_roundw
   case rel=>
    have Mi:b9 w3.heap.size (xs.length - ys.length - k) 1 w5 (w5.setCell ⟨w3.heap.size,xs.length - ys.length - k,none⟩ (.int .u32 (qv:Nat))):=b9.setCell (ak _) (by omega) _;refine⟨k+1,_,_,by omega,by go_num,?_,aF (zH.o.apart Mi (by omega)),aF (vD.o.upd Mi jV.o (by have:=vD.o.len;rw[uf];omega)),aF (Gm.o.apart Mi (by omega)),aF (b9.aa fG.o Mi Mj fG.o.size)⟩;have e:=HST.o;show rp _ _ _ _ _ _;rwa [show xs.length - ys.length+1 - (k+1)=xs.length - ys.length - k by omega]
   case measure=>simp[intOf];omega
  ·obtain rfl:k=xs.length - ys.length+1:=by omega
   have hD:=Oh.o;rw[nD] at hD;have yT:0<2^s:=ru (by decide);obtain⟨hq,hr⟩:=hD.stop;rw[Nat.mul_div_mul_left _ _ yT] at hq;rw[Nat.mul_mod_mul_left] at hr;(have hr2:nw (mi s lf)=nw xs % nw ys:=by rw[aeF s (by omega) lf hD.ls,hr,Nat.mul_div_cancel_left _ yT]);have De:=hD.ls;have rO:=hD.qs;have HQN:=aF hq;have NY:=aF hr2;have Q5:=aeE g1 c1 lf s wr De Q7 (by have:=HOr.o.len;omega) HOr.o.lies;rw[<- HOr.o.len] at Q5;have bR:=aF Q5;clear hq hr hr2 hD Oh Q5;go_wp2_with fail
   refine bR.o.ae ?_;rintro e w5 ⟨rfl,IP,wP⟩;have zH:=aF (HOr.o.upd wP IP (by rw[aeG];exact HOr.o.len.symm));have vD:=aF (Kj.o.apart wP (by omega));have fG:=aF (b9.aa zS.o wP aaK zS.o.size);have hs1:=Le w3.heap.size 0 (xs.length - ys.length+1) ql w5 rO (by rw[<- vD.o.len];omega) (by rw[<- vD.o.len];omega) (fun j hj=>vD.o.lies.cell j hj);rw[<- vD.o.len,HQN.o] at hs1;have hs2:=Le g1 0 c1 (mi s lf) w5 (WH s lf) zH.o.lies_le (by rw[<- zH.o.len];omega) (fun j hj=>zH.o.lies.cell j hj);rw[<- zH.o.len,NY.o] at hs2;have jA:=aF hs1;have o8:=aF hs2;clear hs1 hs2 IP wP bR HOr Kj zS;go_wp2_with fail
   refine jA.o.ae ?_;rintro e w6 ⟨rfl,hw6⟩;subst hw6;go_wp2_with fail
   refine o8.o.ae ?_;rintro e w7 ⟨rfl,hw7⟩;subst hw7;go_wp2;go_ret2;have Dr:=vD.o.words rO;have hf2:=zH.o.words (WH s lf);rw[HQN.o] at Dr;rw[NY.o] at hf2;exact⟨_,_,_,_,rfl,Dr,hf2,fG.o⟩
theorem O7 (h:n≠0):0<(words n).length:=by
 rcases ub (words n).length with e |e
 ·exact absurd ((K7 n).1 (Vg e)) h
 ·exact e
theorem Zb {x y:Nat} (h:(words x).length<(words y).length):x<y:=by
 have lF:0<(words y).length:=by omega
 have hb:=getD_lt (ll y) ((words y).length - 1);have h1:=(ab5 (words y) 0 (ll y) lF (O9 y lF) (by rw[G6,jZ];exact hb)).2.1;rw[G6,jZ,jZ,jJ] at h1;have h2:=sV (words x) (ll x);rw[jJ] at h2;have h3:W^(words x).length<=W^((words y).length - 1):=jf kr (by omega);omega
theorem O8 {x y:Nat} (h:x<=y):(words x).length<=(words y).length:=by
 rcases cM (words y).length (words x).length with c |c
 ·have:=Zb c;omega
 ·exact c
theorem Zc {x:Nat} (h:(words x).length<=2):x<18446744073709551616:=by
 have h2:=sV (words x) (ll x);rw[jJ] at h2;have h3:W^(words x).length<=W^2:=jf kr h;have h4:W^2=18446744073709551616:=by rw[fT]
 omega
theorem abC (gx jR gy im x y:Nat) (w:World) (sX:y≠0) (hlx:(words x).length<=4398046511104) (qH:(words x).length<=jR) (hx:bc w gx 0 (words x)) (hy:bc w gy 0 (words y)):
  Calls Tryz.prog 213 #[.slice (some ⟨gx,0,none⟩) (words x).length jR,.slice (some ⟨gy,0,none⟩) (words y).length im] w fun e w'=>
   ∃vq gr cr,e=.returned (.tuple #[vq,.slice (some ⟨gr,0,none⟩) (words (x % y)).length cr])/\Has w' w.heap.size vq (words (x/y))/\(words (x % y)).length<=cr/\bc w' gr 0 (words (x % y))/\Below w.heap.size w w':=by
 rcases cM (words x).length (words y).length with c |c
 ·have hlt:=Zb c;refine(akT _ _ jR _ _ im w c).ae ?_;rintro e w' ⟨rfl,rfl⟩;refine⟨_,gx,jR,by rw[iQ hlt],?_,by rw[iQ hlt];exact qH,by rw[iQ hlt];exact hx,aw _ _⟩;rw[vR hlt,uh];exact⟨rfl,.inl ⟨rfl,rfl⟩⟩
 ·have hp:=O7 sX;have:=akU gx jR gy im (words x) (words y) w (ll _) (ll _) hlx hp (O9 y hp) c hx hy;rw[jJ,jJ] at this;refine this.ae ?_;rintro e w' ⟨gq,cq,gr,cr,rfl,h1,h2,h3⟩;obtain⟨_,h4,_,h5⟩:=Aw h2;exact⟨_,gr,cr,rfl,h1,h4,h5,h3⟩
theorem amU (a b:ByteArray) (w:World) (ha:a.size<=1099511627776) (hb:b.size<=1099511627776) (h0:N b≠0):
  Calls Tryz.prog 166 #[.string a,.string b] w fun e w'=>e=.returned (.tuple #[.string (B (N a/N b)),.string (B (N a % N b)),.bool true])/\Below w.heap.size w w':=by
 have km:=wk a 274877906944 (by omega);have js:=wk b 274877906944 (by omega);have lF:=O7 h0;have hne:¬(((words (N b)).length:Int)=0):=by omega
 have hlq:(words (N a/N b)).length<=274877906944:=aM (O8 (vQ _ _)) km;have cY:(words (N a % N b)).length<=274877906944:=aM (O8 (Nat.mod_le _ _)) km;go_enter Tryz.func166,Tryz.ntmps166;go_wp2_with fail
 refine(wA b _ (by omega)).ae ?_;rintro e w1 ⟨g1,c1,rfl,h1,hb1⟩;go_wp2_with fail
 refine(wA a _ (by omega)).ae ?_;rintro e w2 ⟨g2,c2,rfl,h2,hb2⟩;have iJ:=uJ h1 hb2;have hl2:=uJ h2 (aw _ _);have hB2:Below w.heap.size w w2:=hb1.trans (hb2.ae hb1.size);go_wp2_with fail
 refine(abC g2 c2 g1 c1 (N a) (N b) _ h0 (by omega) (Aw h2).2.1 hl2 iJ).ae ?_;rintro e w3 ⟨vq,gr,cr,rfl,hq,hcr,hr,hb3⟩;have bV:Below w.heap.size w w3:=hB2.trans (hb3.ae hB2.size);go_wp2_with fail
 refine(M3 _ _ _ _ (ll _) (by omega) hq).ae ?_;rintro e w4 ⟨rfl,hb4⟩;have hr4:=hr.aa hb4 hr.lt;have dO:Below w.heap.size w w4:=bV.trans (hb4.ae bV.size);rw[jJ];go_wp2_with fail
 refine(S0 gr cr _ _ (ll _) hcr (by omega) hr4.lt (fun j hj=>hr4.cell j hj)).ae ?_;rintro e w5 ⟨rfl,hb5⟩;rw[jJ];go_wp2;go_ret3
 exact⟨rfl,dO.trans (hb5.ae dO.size)⟩
theorem amT (a b:ByteArray) (w:World) (ha:a.size<=1099511627776) (hb:b.size<=1099511627776):
  Calls Tryz.prog 165 #[.string a,.string b] w fun e w'=>e=.returned (.string (B (Nat.gcd (N a) (N b))))/\Below w.heap.size w w':=by
 have km:=wk a 274877906944 (by omega);have js:=wk b 274877906944 (by omega);go_enter Tryz.func165,Tryz.ntmps165;go_wp2_with fail
 refine(wA a _ (by omega)).ae ?_;rintro e w1 ⟨g1,c1,rfl,h1,hb1⟩;go_wp2_with fail
 refine(wA b _ (by omega)).ae ?_;rintro e w2 ⟨g2,c2,rfl,h2,hb2⟩;have iJ:=uJ h1 hb2;have hl2:=uJ h2 (aw _ _);have hB2:Below w.heap.size w w2:=hb1.trans (hb2.ae hb1.size);have hc1:=(Aw h1).2.1;have hc2:=(Aw h2).2.1;go_wp2_with fail
 go_loopg [5,6] (N b) (fun r vx vy wr=>∃(x gx cx gy cy:Nat),vx=.slice (some ⟨gx,0,none⟩) (words x).length cx/\vy=.slice (some ⟨gy,0,none⟩) (words r).length cy/\(words x).length<=cx/\(words r).length<=cy/\(words x).length<=274877906944/\(words r).length<=274877906944/\Hid (bc wr gx 0 (words x))/\Hid (bc wr gy 0 (words r))/\Hid (Nat.gcd x r=Nat.gcd (N a) (N b))/\Hid (Below w.heap.size w wr))
 case atStart=>exact⟨_,_,_,_,_,rfl,rfl,hc1,hc2,km,js,iJ,hl2,rfl,hB2⟩
 case round=>
  obtain⟨x,gx,cx,gy,cy,rfl,rfl,qH,uF,QQ,QN,hxw,Mc,hg,hB⟩:=hrel;clear iJ hl2 hB2 hc1 hc2 h1 h2 hb1 hb2;by_cases sX:gk=0
  ·subst sX;rw[uh] at *;go_wp2_with fail
   refine(S0 gx cx _ _ (ll _) qH (by omega) hxw.o.lt (fun j hj=>hxw.o.cell j hj)).ae ?_;rintro e w5 ⟨rfl,hb5⟩;rw[jJ];go_wp2;go_ret;exact⟨by rw[<- hg.o,Nat.gcd_zero_right];rfl,hB.o.trans (hb5.ae hB.o.size)⟩
  ·have lF:=O7 sX;(have hne:¬(((words gk).length:Int)=0):=by omega);by_cases hbig:2<(words x).length
   focus
    go_wp2_with fail
   rotate_left
   focus
    by_cases aaJ:2<(words gk).length
    focus
     go_wp2_with fail
    rotate_left
    ·have QR:=Zc (Nat.le_of_not_lt hbig);have ZC:=Zc (Nat.le_of_not_lt aaJ);go_wp2_with fail
     refine(Vq gx cx _ _ (ll _) (Nat.le_of_not_lt hbig) hxw.o).ae ?_;rintro e w5 ⟨rfl,hw⟩;subst hw;rw[jJ];go_wp2_with fail
     refine(Vq gy cy _ _ (ll _) (Nat.le_of_not_lt aaJ) Mc.o).ae ?_;rintro e w6 ⟨rfl,hw⟩;subst hw;rw[jJ];go_wp2_with fail
     refine(ajP x gk _ QR ZC).ae ?_;rintro e w7 ⟨rfl,ed⟩;have Bq:=hB.o.trans (ed.ae hB.o.size);rw[hg.o];(have aje:Nat.gcd (N a) (N b)<18446744073709551616:=by rw[<- hg.o];exact OQ (Nat.gcd_le_right _ (jY sX)) ZC);go_wp2_with fail
     refine(Ym _ _ aje).ae ?_;rintro e w8 ⟨rfl,gF⟩;go_wp2;go_ret;exact⟨rfl,Bq.trans (gF.ae Bq.size)⟩
   all_goals
    refine(abC gx cx gy cy x gk _ sX (by omega) qH hxw.o Mc.o).ae ?_;rintro e w5 ⟨vq,gr,cr,rfl,_,hcr,hr,hb5⟩;have cY:(words (x % gk)).length<=274877906944:=aM (O8 (Nat.mod_le _ _)) QQ;have HR:=aF hr;have Gm:=aF (Mc.o.aa hb5 Mc.o.lt);have fG:=aF (hB.o.trans (hb5.ae hB.o.size));(have Ew:Hid (Nat.gcd gk (x % gk)=Nat.gcd (N a) (N b)):=by show _=_;rw[<- hg.o,G8 x gk,Nat.gcd_rec gk x,G8]);go_wp2;go_roundg (x % gk)
    case measure=>exact gJ _ (jY sX)
    case rel=>exact⟨gk,gy,cy,gr,cr,rfl,rfl,uF,hcr,QN,cY,Gm,HR,Ew,fG⟩
variable {w0:World}
theorem oZ (k:Nat):∀n,n<256^k ->(bn n).length<=k:=by
 induction k with
 |zero=>
  intro n h;have:n=0:=by simpa using h
  subst this;simp[oh]
 |succ k ih=>
  intro n h;by_cases e:n=0
  ·subst e;simp[oh]
  ·rw[om n e,bM,EO];have:=ih (n/256) (EN (by rw[gS] at h;omega));omega
theorem Cm (n:Nat):n<256^(B n).size:=by
 have:=rL (bn n);rwa [Qt, <- kX] at this
theorem j7 (h:m<=n):(B m).size<=(B n).size:=by
 rw[kX m];exact oZ _ _ (OQ h (Cm n))
theorem wy (m n:Nat):(B (m*n)).size<=(B m).size+(B n).size:=by
 rw[kX (m*n)];refine oZ _ _ ?_;rw[z6];exact G7 (Cm m) (Cm n)
theorem aed (m n:Nat):(B (m+n)).size<=(B m).size+(B n).size+1:=by
 rw[kX (m+n)];refine oZ _ _ ?_;have h1:=Cm m;have h2:=Cm n;have h3:256^(B m).size<=256^((B m).size+(B n).size):=jf (by decide) (by omega);have h4:256^(B n).size<=256^((B m).size+(B n).size):=jf (by decide) (by omega);rw[gS];omega
theorem x4:B 0=⟨#[]⟩:=by rw[B,oh]
theorem acz:N ⟨#[]⟩=0:=rfl
theorem ac5 (h:B m=B n):m=n:=by rw[<- cO m,h,cO]
theorem zW (h:n≠0):(B n).toList.isEmpty=false:=by
 cases e:(B n).toList with
 |cons=>rfl
 |nil=>
  rw[Lib.toList_data] at e;have h2:(B n).size=0:=by rw[ByteArray.size, <- CC,e];rfl
  have h3:=Cm n;rw[h2] at h3;omega
theorem xp (s:ByteArray):s.data.toList.length=s.size:=by rw[CC];rfl
theorem OG:(B 1).size<=1:=by rw[kX];exact oZ 1 1 (by decide)
theorem under {P:Program} {f:FuncId} {args:Array Value} {X:Ending} (hB:Below w0.heap.size w0 w) (h:Calls P f args w fun e w'=>e=X/\Below w.heap.size w w'):Calls P f args w fun e w'=>e=X/\Below w0.heap.size w0 w':=
 h.ae fun _ _ ⟨h1,h2⟩=>⟨h1,hB.trans (h2.ae hB.size)⟩
theorem amS {a b:ByteArray} (n:Nat) (hB:Below w0.heap.size w0 w) (h:Nat.gcd (N a) (N b)=n) (ha:a.size<=1099511627776) (hb:b.size<=1099511627776):
  Calls Tryz.prog 165 #[.string a,.string b] w fun e w'=>e=.returned (.string (B n))/\Below w0.heap.size w0 w':=by
 subst h;exact under hB (amT a b w ha hb)
theorem acx {x:Int} (n:Nat) (hB:Below w0.heap.size w0 w) (h:x=(n:Int)) (hx:x<=9223372036854775807):
  Calls Tryz.prog 110 #[.int .i64 x] w fun e w'=>e=.returned (.string (B n))/\Below w0.heap.size w0 w':=by
 have:=under hB (acy x w (by omega) hx);rwa [show x.toNat=n by omega] at this
theorem acv {a b:ByteArray} (n:Nat) (hB:Below w0.heap.size w0 w) (h:N a=N b+n) (ha:a.size<=1099511627776) (hb:b.size<=1099511627776):
  Calls Tryz.prog 163 #[.string a,.string b] w fun e w'=>e=.returned (.tuple #[.string (B n),.bool true])/\Below w0.heap.size w0 w':=by
 have:=under hB (amg a b w ha hb (by omega));rwa [show N a - N b=n by omega] at this
theorem amh {a b:ByteArray} (hB:Below w0.heap.size w0 w) (h:N a<N b):
  Calls Tryz.prog 163 #[.string a,.string b] w fun e w'=>e=.returned (.tuple #[.string ⟨#[]⟩,.bool false])/\Below w0.heap.size w0 w':=under hB (ami a b w h)
theorem ac3 {a b:ByteArray} (q r:Nat) (hB:Below w0.heap.size w0 w) (hq:N a/N b=q) (hr:N a % N b=r) (h0:N b≠0) (ha:a.size<=1099511627776) (hb:b.size<=1099511627776):
  Calls Tryz.prog 166 #[.string a,.string b] w fun e w'=>e=.returned (.tuple #[.string (B q),.string (B r),.bool true])/\Below w0.heap.size w0 w':=by
 subst hq hr;exact under hB (amU a b w ha hb h0)
def nd:List Nat ->Nat
 |[]=>0
 |x::r=>x+256*nd r
theorem CM (x:Nat) (r:List Nat):nd (x::r)=x+256*nd r:=rfl
theorem Qs (n:Nat):nd (List.replicate n 0)=0:=by
 induction n with
 |zero=>rfl
 |succ n ih=>rw[Ha,CM,ih]
theorem LU (l:List Nat):∀(j y:Nat) (h:j<l.length),nd (l.set j y)+l[j]*256^j=nd l+y*256^j:=by
 induction l with
 |nil=>intro j y h;exact absurd h (z7 _)
 |cons x r ih=>
  intro j y h;cases j with
  |zero=>simp only[Ct,CM,List.getElem_cons_zero,G6,oF];omega
  |succ j=>
   (have hj:j<r.length:=by simpa using h);have:=ih j y hj;simp only[List.set_cons_succ,CM,OZ,gS];(have e1:r[j]*(256^j*256)=256*(r[j]*256^j):=by rw[<- ie,dC]);(have e2:y*(256^j*256)=256*(y*256^j):=by rw[<- ie,dC]);rw[e1,e2];omega
def pw (l:List Nat):Prop:=∀x∈l,x<256
theorem Td (n:Nat):pw (List.replicate n 0):=fun x hx=>by rw[(List.mem_replicate.1 hx).2];decide
theorem JE {l:List Nat} (h:pw l) (j y:Nat) (hy:y<256):pw (l.set j y):=fun x hx=>by
 rcases Ve hx with h1 |h1
 ·exact h x h1
 ·rw[h1];exact hy
theorem ag2 (l:List Nat) (h:pw l):nd l<256^l.length:=by
 induction l with
 |nil=>decide
 |cons x r ih=>
  have h1:=ih fun y hy=>h y (dD _ hy);have h2:=h x c5;rw[CM,di,gS];omega
def rb (l:List Nat):List UInt8:=l.reverse.map UInt8.ofNat
theorem ag5 (l:List Nat) (h:pw l):nb (rb l)=nd l:=by
 induction l with
 |nil=>rfl
 |cons x r ih=>
  have h1:=ih fun y hy=>h y (dD _ hy);have h2:=h x c5;have:rb (x::r)=rb r++[UInt8.ofNat x]:=by simp[rb]
  rw[this,wH,h1,CM];have:(UInt8.ofNat x).toNat=x:=by simp;omega
  omega
theorem ag9 (l:List UInt8) (i:Nat) (h:i<l.length):nb l/256^i % 256=(l[l.length - 1 - i]'(by omega)).toNat:=by
 have e:l=l.take (l.length - 1 - i)++(l[l.length - 1 - i]'(by omega)::l.drop (l.length - i)):=by
  have h1:=Ac (l.length - 1 - i) l;have h2:l.drop (l.length - 1 - i)=l[l.length - 1 - i]'(by omega)::l.drop (l.length - 1 - i+1):=mU (by omega);rw[h2,show l.length - 1 - i+1=l.length - i by omega] at h1;exact h1.symm
 have hl:(l.drop (l.length - i)).length=i:=by rw[l7];omega
 have hlt:=rL (l.drop (l.length - i));rw[hl] at hlt
 have hn:nb l=(nb (l.take (l.length - 1 - i))*256+(l[l.length - 1 - i]'(by omega)).toNat)*256^i+nb (l.drop (l.length - i)):=by
  conv=>lhs;rw[e]
  rw[AA,CO,di,hl,gS,fC,ie,dC 256 (256^i),Aa]
 generalize (l[l.length - 1 - i]'(by omega))=c at *;generalize nb (l.take (l.length - 1 - i))=p at *;have hc:=c.toNat_lt;rw[hn,dC,Nat.mul_add_div (ru (by decide)),vR hlt,gg];omega
theorem ag8 (l:List UInt8) (i:Nat) (h:l.length<=i):nb l/256^i % 256=0:=by
 rw[vR (aR (rL l) (jf (by decide) h))]
theorem akN (l:List UInt8):∀k,k<=l.length ->(l.take k).all (·==0)=true ->(∀h:k<l.length,l[k]≠0) ->l.dropWhile (·==0)=l.drop k:=by
 induction l with
 |nil=>intro k _ _ _;simp
 |cons x r ih=>
  intro k hk h0 h1;cases k with
  |zero=>
   have:x≠0:=h1 (by simp);rw[List.dropWhile_cons,aD (by simpa using this),CA]
  |succ k=>
   simp only[List.take_succ_cons,List.all_cons,fD] at h0;rw[List.dropWhile_cons,aB h0.1,List.drop_succ_cons];exact ih k (by simpa using hk) h0.2 (fun h=>by have:=h1 (by simpa using h);simpa using this)
theorem Fx (n k:Nat):n % 256^(k+1)=n % 256^k+256^k*(n/256^k % 256):=by
 rw[gS,Nat.mod_mul]
theorem VR (s:ByteArray) (k:Nat) (hk:k<=s.size) (h0:(s.data.toList.take k).all (·==0)=true) (h1:∀h:k<s.size,s[k].toNat≠0):s.extract k s.size=B (N s):=by
 have e:s.data.toList.dropWhile (·==0)=s.data.toList.drop k:=akN _ k (by simpa using hk) h0 (fun h hz=>h1 (by simpa using h) (by
  have:s[k]'(by simpa using h)=s.data.toList[k]:=rfl;rw[this,hz];rfl))
 apply K2;apply K3.1;rw[B,N,Tq,e];show (s.extract k s.size).data.toList=_;rw[ByteArray.data_extract,Array.toList_extract];simp[jF]
theorem lu (s:ByteArray) (w:World) (hs:s.size<=140737488355328):
  Calls Tryz.prog 116 #[.string s] w fun e w'=>e=.returned (.string (B (N s)))/\w'=w:=by
 go_enter Tryz.func116,Tryz.ntmps116;go_wp2;go_loop [3] (fun i=>∃k:Nat,k<=s.size/\i=.int .i64 k/\(s.data.toList.take k).all (·==0)=true) (fun i=>s.size - (intOf i).toNat)
 case atStart=>exact⟨0,aX _,rfl,rfl⟩
 case round=>
  obtain⟨k,hk,rfl,hall⟩:=hrel;have HA:Hid ((s.data.toList.take k).all (·==0)=true):=hall;clear hall;by_cases hlt:k<s.size
  ·by_cases hc:s[k].toNat=0
   ·have HS:Hid ((s.data.toList.take (k+1)).all (·==0)=true):=by
     show _=_;rw[Hv s k hlt,List.all_append,HA.o];have:s[k]=0:=KN.1 hc;simp[this]
    go_wp2;go_round
    case rel=>exact⟨k+1,by omega,by go_num,HS.o⟩
    case measure=>simp[intOf];omega
   ·have HE:=aF (VR s k hk HA.o fun _=>hc);go_wp2;go_ret;exact⟨by rw[<- HE.o];rfl,rfl⟩
  ·have HE:=aF (VR s k hk HA.o fun h=>absurd h hlt);go_wp2;go_ret;exact⟨by rw[<- HE.o];rfl,rfl⟩
theorem Vl (n:Nat) (h:n<256):wrap64 (n:Int)=(n:Int):=by
 rw[wrap64];omega
theorem D7 (s:ByteArray) (i:Nat) (w:World) (hs:s.size<=140737488355328) (hi:i<=9223372036854775807):
  Calls Tryz.prog 118 #[.string s,.int .i64 (i:Int)] w fun e w'=>e=.returned (.int .i64 ((N s/256^i % 256:Nat):Int))/\w'=w:=by
 go_enter Tryz.func118,Tryz.ntmps118;by_cases hlt:i<s.size
 ·have HD:Hid (N s/256^i % 256=(s[s.size - 1 - i]'(by omega)).toNat):=by
   show _=_;rw[N,ag9 _ i (by simpa using hlt)];simp;rfl
  have hx:0<=(s.size:Int) - 1 - i:=by omega
  have hw:=Vl _ (s[s.size - 1 - i]'(by omega)).toNat_lt;have HW:=aF hw;clear hw;go_wp2;go_ret;exact⟨by rw[HD.o];exact dt (fun z=>Ending.returned (Value.int .i64 z)) HW.o,rfl⟩
 ·have HD:Hid (N s/256^i % 256=0):=ag8 _ i (by simp;omega);go_wp2;go_ret;exact⟨by rw[HD.o];rfl,rfl⟩
def iv (x:Nat):Value:=.int .i64 (x:Int)
def cN (w:World) (g:Nat) (l:List Nat):Prop:=w.heap[g]? =some (.cells (l.map iv).toArray 3 (0,0))
theorem cN.cell {l:List Nat} (h:cN w g l) (j:Nat) (hj:j<l.length):w.cell? ⟨g,j,none⟩=some (.int .i64 (l[j]:Nat)):=by
 rw[bE w g j _ _ (0,0) h];simp[iv,hj]
theorem cN.fz {l:List Nat} (h:cN w g l) (j:Nat):w.frozen? ⟨g,j,none⟩=false:=kZ w g j _ _ h
theorem cN.lt {l:List Nat} (h:cN w g l):g<w.heap.size:=(cV.1 h).1
theorem cN.aa {b:Nat} {l:List Nat} (h:cN w g l) (hb:Below b w w') (hg:g<b):cN w' g l:=(hb.block g hg).trans h
theorem cN.set {l:List Nat} (h:cN w g l) (j y:Nat):cN (w.setCell ⟨g,j,none⟩ (.int .i64 (y:Int))) g (l.set j y):=by
 have:=jX w g j _ _ (.int .i64 (y:Int)) h;rw[cN,Cy];simpa [iv] using this
def pC (l:List Nat) (k:Nat):List Int:=List.replicate (l.length - k) 0++((l.take k).reverse.map Int.ofNat)
theorem age (l:List Nat):pC l 0=List.replicate l.length 0:=by simp[pC]
theorem agh (l:List Nat) (k:Nat) (hk:k<=l.length):(pC l k).length=l.length:=by simp[pC];omega
theorem agf (l:List Nat) (k:Nat) (hk:k<l.length):(pC l k).set (l.length - 1 - k) (l[k]:Int)=pC l (k+1):=by
 have h1:l.length - k=(l.length - 1 - k)+1:=by omega
 have h2:List.replicate (l.length - k) (0:Int)=List.replicate (l.length - 1 - k) 0++[0]:=by rw[h1,List.replicate_succ']
 have h3:l.length - (k+1)=l.length - 1 - k:=by omega
 rw[pC,pC,h2,jh,Cu _ _ (by simp),h3];rw[Hc,nD,eC,gi,Ct,gh hk,List.reverse_append,List.reverse_singleton,dY];rfl
theorem agi (l:List Nat):pC l l.length=l.reverse.map Int.ofNat:=by simp[pC]
theorem amk (l:List Nat) (h:pw l):N (strOfNums (l.reverse.map Int.ofNat))=nd l:=by
 rw[N,EH, <- ag5 l h,rb];congr 1
 simp[Function.comp_def]
theorem Fy (n:Nat):(madeCells (Value.int .i64 0).cells (n*1)).toList=(List.replicate n (0:Nat)).map iv:=by
 rw[show (Value.int .i64 0).cells= #[Value.int .i64 0] from rfl,GY,oF,KS];rfl
theorem Tryz.infoInt:(Tryz.prog.info? 3).map (fun i=>(i.zero,i.size,i.bytes))=some (some (.int .i64 0),1,8):=by kernel_rfl
theorem P6 (g:Nat) (l:List Nat) (w:World) (hd:pw l) (hlen:l.length<=140737488355328) (h:cN w g l):
  Calls Tryz.prog 119 #[.slice (some ⟨g,0,none⟩) l.length l.length] w fun e w'=>e=.returned (.string (B (nd l)))/\Below w.heap.size w w':=by
 obtain⟨i0,hi,hz0,hz1,hz2⟩:=dK Tryz.infoByte;have ai9:=h.lt;have xI:Hid (cN w g l):=h;have HN:Hid (N (strOfNums (l.reverse.map Int.ofNat))=nd l):=amk l hd;have HD:Hid (pw l):=hd;clear h hd;go_enter Tryz.func119,Tryz.ntmps119
 go_wp2_with (first
  |(at_make;refine nC _ rfl _ _ 152 rfl w.heap.size 5 i0 (.int .u8 0) 1 Tryz.underlying152 hi hz0 hz1 .i64 .i64 _ _ l.length rfl rfl (by omega) (by omega) (by rw[hz2];omega) (by unfold maxLen;omega) (ak _) ?_;intro w2 hown2 hgrow2))
 have hb2:=pV hown2;rw[Y8, <- age] at hb2;have hB2:Below w.heap.size w w2:=(aw _ w).grown hgrow2 (ak _) (fun k e=>by cases e);have HI:Hid (w2.heap[w.heap.size]? =some (.cells ((pC l 0).map u8).toArray 5 (0,0))):=hb2;clear hown2 hgrow2 hb2
 go_loopw [4] (fun i wr=>∃k:Nat,k<=l.length/\i=.int .i64 k/\Hid (wr.heap[w.heap.size]? =some (.cells ((pC l k).map u8).toArray 5 (0,0)))/\Below w.heap.size w wr)
  (fun i _=>l.length - (intOf i).toNat)
 case atStart=>exact⟨0,aX _,rfl,HI,hB2⟩
 case round=>
  obtain⟨k,hk,rfl,HR,bU⟩:=hrel;clear HI hB2;by_cases hlt:k<l.length
  ·have hck:wr.cell? ⟨g,k,none⟩=some (.int .i64 (l[k]:Nat)):=(xI.o.aa bU ai9).cell k hlt;have hx:=HD.o l[k] (bY hlt);have cX:=aF (agf l k hlt);obtain⟨E,hE⟩:∃E,E=l.length - 1 - k:=⟨_,rfl⟩;rw[<- hE] at cX;(have f1:(l.length:Int) - 1 - (k:Int)=(E:Int):=by omega);(have f2:E<l.length:=by omega)
   have hcd:wr.cell? ⟨w.heap.size,E,none⟩=some (.int .u8 ((pC l k)[E]?.getD 0)):=by
    rw[bE wr _ E _ _ (0,0) HR.o];(have:E<(pC l k).length:=by rw[agh l k hk];exact f2);simp[Go.Proofs.YtfgkjjlocjmfeaaGreatDoor.u8,ba this]
   have hfz:=kZ wr w.heap.size E _ _ HR.o;have hput:=aF (fun u=>jX wr w.heap.size E _ _ u HR.o);generalize l[k]=x at *;generalize (pC l k)[E]?.getD 0=z at *;clear hE;go_wp2;have hrow:=hput.o (.int .u8 (x:Int));go_roundw
   case rel=>
    refine⟨k+1,by omega,by go_num,?_,bU.setCell (ak _) _⟩;show _=_;rw[hrow, <- cX.o,Cy];simp[Go.Proofs.YtfgkjjlocjmfeaaGreatDoor.u8]
   case measure=>simp[intOf];omega
  ·obtain rfl:k=l.length:=by omega
   have IG:=agi l;(have qC:(l.reverse.map Int.ofNat).length=l.length:=by simp);have hNm:=HN.o;clear HN xI HD;generalize l.reverse.map Int.ofNat=m at *;have HN:=aF hNm;clear hNm
   have wX:=EI (P:=Tryz.prog) wr 152 5 Tryz.underlying152 Tryz.underlying5 w.heap.size 0 l.length l.length m qC (fun i hi=>by
    have e:=bE wr w.heap.size (0+i) _ _ _ HR.o;rw[e,IG];(have qD:i<m.length:=by omega);simp[Go.Proofs.YtfgkjjlocjmfeaaGreatDoor.u8,ba qD,b6]) 30 Tryz.underlying30
   clear HR IG
   have hsz:(strOfNums m).size<=140737488355328:=by
    rw[<- xp,EH,cH];omega
   go_wp2_with (go_at_call 116;refine(lu _ _ hsz).ae ?_;rintro e w3 ⟨rfl,hw1⟩;subst hw1)
   go_ret;exact⟨by rw[HN.o];rfl,bU⟩
variable {A D c:Nat}
theorem ab3 (v P:Nat):v % 256*P+v/256*(P*256)=v*P:=by
 have h:v=v/256*256+v % 256:=by omega
 conv=>rhs;rw[h,fC,ie,dC 256 P]
 omega
theorem al1 {p:List Nat} (hk:k<p.length) (h0:p[k]?.getD 0=0) (h:nd p+c*256^k=A % 256^k+D % 256^k):
  nd (p.set k ((c+A/256^k % 256+D/256^k % 256) % 256))+(c+A/256^k % 256+D/256^k % 256)/256*256^(k+1)=A % 256^(k+1)+D % 256^(k+1):=by
 have s:=LU p k ((c+A/256^k % 256+D/256^k % 256) % 256) hk;have SL:p[k]=0:=by rwa [ba hk] at h0
 rw[SL,mQ,gg] at s;rw[s,Fx,Fx D,gS];have:=ab3 (c+A/256^k % 256+D/256^k % 256) (256^k)
 have e:(c+A/256^k % 256+D/256^k % 256)*256^k=c*256^k+256^k*(A/256^k % 256)+256^k*(D/256^k % 256):=by
  rw[fC,fC,dC (A/256^k % 256),dC (D/256^k % 256)]
 omega
theorem PG {p:List Nat} {y:Nat} (h:∀j,k<=j ->p[j]?.getD 0=0):∀j,k+1<=j ->(p.set k y)[j]?.getD 0=0:=fun j hj=>by
 rw[O0 (by omega)];exact h j (by omega)
theorem al2 {p:List Nat} (hA:A<256^n) (hD:D<256^n) (h:nd p+c*256^(n+1)=A % 256^(n+1)+D % 256^(n+1)):nd p=A+D:=by
 have hp:256^(n+1)=256*256^n:=by rw[gS,dC]
 rw[iQ (by omega),iQ (by omega)] at h
 have hc:c=0:=by
  rcases ub c with h0 |h0
  ·exact h0
  ·have:1*256^(n+1)<=c*256^(n+1):=jD _ h0;omega
 rw[hc] at h;omega
theorem BL (s:ByteArray):N s<256^s.size:=by
 have:=rL s.data.toList;rwa [xp] at this
theorem afw (a b:ByteArray) (w:World) (ha:a.size<=1000000) (hb:b.size<=1000000):
  Calls Tryz.prog 67 #[.string a,.string b] w fun e w'=>e=.returned (.string (B (N a+N b)))/\Below w.heap.size w w':=by
 obtain⟨i0,hi,hz0,hz1,hz2⟩:=dK Tryz.infoInt;obtain⟨n,hn⟩:∃n,n=max a.size b.size:=⟨_,rfl⟩;have hna:a.size<=n:=by omega
 have uA:b.size<=n:=by omega
 have eO:n<=1000000:=by omega
 have FY:(b.size<=a.size/\a.size=n)∨(a.size<b.size/\b.size=n):=by omega
 clear hn;have Eu:Hid (N a<256^n):=aR (BL a) (jf (by decide) hna);have Ce:Hid (N b<256^n):=aR (BL b) (jf (by decide) uA);have zR:=aF (fun (k:Nat) (V:World) (h:k<=9223372036854775807)=>D7 a k V (by omega) h);have GS:=aF (fun (k:Nat) (V:World) (h:k<=9223372036854775807)=>D7 b k V (by omega) h);generalize hA:N a=A at *;generalize hD:N b=D at *;clear hA hD;go_enter Tryz.func67,Tryz.ntmps67;rcases FY with ⟨hc1,hc2⟩ |⟨hc1,hc2⟩
 all_goals
  go_wp2_with (first
   |(at_make;refine nC _ rfl _ _ 27 rfl w.heap.size 3 i0 (.int .i64 0) 1 Tryz.underlying27 hi hz0 hz1 .i64 .i64 _ _ (n+1) rfl rfl (by go_num) (by go_num) (by rw[hz2];omega) (by unfold maxLen;omega) (ak _) ?_;intro w2 hown2 hgrow2))
  have hb2:=pV hown2;rw[Fy] at hb2;have hB2:Below w.heap.size w w2:=(aw _ w).grown hgrow2 (ak _) (fun k e=>by cases e);have HI:Hid (cN w2 w.heap.size (List.replicate (n+1) 0)):=hb2;clear hown2 hgrow2 hb2 hc1 hc2
  go_loopw [7,8] (fun cv iv wr=>∃(k c:Nat) (p:List Nat),k<=n+1/\iv=.int .i64 k/\cv=.int .i64 c/\c<=1/\p.length=n+1/\Hid (pw p)/\Hid (∀j,k<=j ->p[j]?.getD 0=0)/\Hid (nd p+c*256^k=A % 256^k+D % 256^k)/\Hid (cN wr w.heap.size p)/\Below w.heap.size w wr)
   (fun _ i _=>n+1 - (intOf i).toNat)
  case atStart=>exact⟨0,0,List.replicate (n+1) 0,aX _,rfl,rfl,aX _,by simp,Td _,(fun j _=>by rw[O1];split<;>rfl),(show _=_ by rw[Qs];simp[Nat.mod_one]),HI,hB2⟩
  case round=>
   obtain⟨k,c,p,hk,rfl,rfl,hc,hpl,pj,HZ,HE,HR,bU⟩:=hrel;clear HI hB2;by_cases hlt:k<n+1
   ·have IV:k<p.length:=by omega
    have hstep:=aF (al1 IV (HZ.o k (ak _)) HE.o);have HX:=aF (fun V=>zR.o k V (by omega));have HY:=aF (fun V=>GS.o k V (by omega));have hx:A/256^k % 256<256:=gJ _ (by decide);have hy:D/256^k % 256<256:=gJ _ (by decide);generalize A/256^k % 256=x at *;generalize D/256^k % 256=y at *;have hcell:=HR.o.cell k IV;have hfz:=HR.o.fz k;have cX:=aF (fun z=>HR.o.set k z);generalize p[k]=pk at *;clear HE
    go_wp2_with (first
     |(have hdone:=hx1;go_at_call 118;refine(HY.o _).ae ?_;rintro e w3 ⟨rfl,hw3⟩;subst hw3)
     |(go_at_call 118;refine(HX.o _).ae ?_;rintro e w3 ⟨rfl,hw3⟩;subst hw3;have hx1:True:=trivial))
    have hv:Value.int .i64 (((c:Int)+(x:Int)+(y:Int)) % 256)=.int .i64 (((c+x+y) % 256:Nat):Int):=int_eq (by omega);have hv2:Value.int .i64 (((c:Int)+(x:Int)+(y:Int))/256)=.int .i64 (((c+x+y)/256:Nat):Int):=int_eq (by omega);rw[hv,hv2];go_roundw
    case rel=>exact⟨k+1,(c+x+y)/256,p.set k ((c+x+y) % 256),by omega,by go_num,rfl,by omega,by rw[uf];exact hpl,JE pj.o _ _ (gJ _ (by decide)),PG HZ.o,hstep.o,cX.o _,bU.setCell (ak _) _⟩
    case measure=>simp[intOf];omega
   ·obtain rfl:k=n+1:=by omega
    have i7:=P6 w.heap.size p wr pj.o (by omega) HR.o;rw[hpl,al2 Eu.o Ce.o HE.o] at i7;have vF:=aF i7;clear i7;go_wp2_with (go_at_call 119;refine(vF.o).ae ?_;rintro e w3 ⟨rfl,hb3⟩)
    go_ret;exact⟨rfl,bU.trans (hb3.ae bU.size)⟩
theorem Nu {b:Nat} {v u:World} (h:Below b v u) (k:Nat):Below b v (u.drewN k):=⟨h.os,h.tape,h.output,h.size,h.block⟩
theorem Ze (a b:ByteArray) (k:Nat) (ha:k<a.size) (hb:k<b.size) (hl:a.size=b.size) (hp:a.data.toList.take k=b.data.toList.take k) (h:a[k].toNat<b[k].toNat):N a<N b:=by
 have ea:a.data.toList=a.data.toList.take k++(a[k]::a.data.toList.drop (k+1)):=by
  have hd:a.data.toList.drop k=a[k]::a.data.toList.drop (k+1):=mU (l:=a.data.toList) (i:=k) (by simpa using ha);rw[<- hd,Ac]
 have eb:b.data.toList=b.data.toList.take k++(b[k]::b.data.toList.drop (k+1)):=by
  have hd:b.data.toList.drop k=b[k]::b.data.toList.drop (k+1):=mU (l:=b.data.toList) (i:=k) (by simpa using hb);rw[<- hd,Ac]
 rw[N,N,ea,eb,hp,AA,AA,CO,CO];have l1:(a.data.toList.drop (k+1)).length=a.size - (k+1):=by rw[l7,xp]
 have l2:(b.data.toList.drop (k+1)).length=a.size - (k+1):=by rw[l7,xp,hl]
 have b1:=rL (a.data.toList.drop (k+1));rw[l1] at b1;rw[di,di,l1,l2];have hm:(a[k].toNat+1)*256^(a.size - (k+1))<=b[k].toNat*256^(a.size - (k+1)):=jD _ h;rw[fC,jZ] at hm;omega
theorem Zd (h:(B m).size<(B n).size):m<n:=by
 rcases cM m n with h1 |h1
 ·exact h1
 ·have:=j7 h1;omega
theorem Tk (h:m<n):iF m n= -1:=aB h
theorem abV (h:n<m):iF m n=1:=by rw[iF,aD (by omega),aD (by omega)]
theorem alh (h:m=n):iF m n=0:=by rw[iF,aD (by omega),aB h]
theorem akJ (hl:(B m).size=(B n).size) (hp:(B m).data.toList.take (B m).size=(B n).data.toList.take (B m).size):m=n:=by
 rw[jF (by rw[xp];exact ak _),jF (by rw[xp,hl];exact ak _)] at hp;exact ac5 (K2 (K3.1 hp))
theorem Xl (a b:ByteArray) (w:World) (ha:a.size<=1000000) (hb:b.size<=1000000):
  Calls Tryz.prog 171 #[.string a,.string b] w fun e w'=>e=.returned (.int .i64 (iF (N a) (N b)))/\Below w.heap.size w w':=by
 have o6:=aF (lu a w (by omega));have dU:=aF (lu b w (by omega));have sa:=aM (iu a) ha;have sb:=aM (iu b) hb;have GQ:=aF (fun h=>Tk (Zd (m:=N a) (n:=N b) h));have mN:=aF (fun h=>abV (Zd (m:=N b) (n:=N a) h));have fO:=aF (fun hl hp=>alh (akJ (m:=N a) (n:=N b) hl hp));have Oc:=aF (fun k h1 h2 hl hp h=>Tk (m:=N a) (n:=N b) (by have:=Ze (B (N a)) (B (N b)) k h1 h2 hl hp h;rwa [cO,cO] at this));have HL5:=aF (fun k h1 h2 hl hp h=>abV (m:=N a) (n:=N b) (by have:=Ze (B (N b)) (B (N a)) k h1 h2 hl hp h;rwa [cO,cO] at this));generalize iF (N a) (N b)=r at *;generalize B (N a)=x at *;generalize B (N b)=y at *;go_enter Tryz.func171,Tryz.ntmps171;go_wp2_with fail
 refine(o6.o).ae ?_;rintro e w1 ⟨rfl,hw⟩;subst hw;go_wp2_with fail
 refine(dU.o).ae ?_;rintro e w1 ⟨rfl,hw⟩;subst hw;clear o6 dU;rcases (show x.size<y.size∨y.size<x.size∨x.size=y.size by omega) with hs |hs |hs
 ·go_wp2;go_ret;exact⟨by rw[GQ.o hs];rfl,aw _ _⟩
 ·go_wp2;go_ret;exact⟨by rw[mN.o hs];rfl,aw _ _⟩
 ·clear GQ mN;go_wp2;go_loopw [5] (fun i wr=>∃k:Nat,k<=x.size/\i=.int .i64 k/\Hid (x.data.toList.take k=y.data.toList.take k)/\Below w1.heap.size w1 wr) (fun i _=>x.size - (intOf i).toNat)
  case atStart=>exact⟨0,aX _,rfl,rfl,aw _ _⟩
  case round=>
   obtain⟨k,hk,rfl,HP,bU⟩:=hrel;by_cases hlt:k<x.size
   ·have wV:k<y.size:=by omega
    rcases (show x[k].toNat<y[k].toNat∨y[k].toNat<x[k].toNat∨x[k].toNat=y[k].toNat by omega) with hc |hc |hc
    ·have HF:=aF (Oc.o k hlt wV hs HP.o hc);go_wp2_with fail
     go_quiet (fail)
     go_wp2;go_ret;exact⟨by rw[HF.o];rfl,Nu bU _⟩
    ·have HF:=aF (HL5.o k wV hlt hs.symm HP.o.symm hc);go_wp2_with fail
     go_quiet (fail)
     go_wp2_with fail
     go_quiet (fail)
     go_wp2;go_ret;exact⟨by rw[HF.o];rfl,Nu (Nu bU _) _⟩
    ·have HS:Hid (x.data.toList.take (k+1)=y.data.toList.take (k+1)):=by
      show _=_;rw[Hv x k hlt,Hv y k wV,HP.o,KN.1 hc]
     go_wp2_with fail
     go_quiet (fail)
     go_wp2_with fail
     go_quiet (fail)
     go_wp2;go_roundw
     case rel=>exact⟨k+1,by omega,by go_num,HS.o,Nu bU _⟩
     case measure=>simp[intOf];omega
   ·obtain rfl:k=x.size:=by omega
    have HF:=aF (fO.o hs HP.o);go_wp2;go_ret;exact⟨by rw[HF.o];rfl,bU⟩
theorem aeg {y:Nat} {p:List Nat} (hk:k<p.length) (h0:p[k]?.getD 0=0) (h:nd p+D % 256^k=A % 256^k+c*256^k) (c':Nat) (hy:A/256^k % 256+c'*256=y+D/256^k % 256+c):
  nd (p.set k y)+D % 256^(k+1)=A % 256^(k+1)+c'*256^(k+1):=by
 have s:=LU p k y hk;have SL:p[k]=0:=by rwa [ba hk] at h0
 rw[SL,mQ,gg] at s;rw[s,Fx,Fx A,gS];have e:=dt (fun z=>z*256^k) hy;simp only[fC] at e;have e1:c'*256*256^k=c'*(256^k*256):=by rw[ie,dC 256]
 rw[e1] at e;rw[dC (256^k) (D/256^k % 256),dC (256^k) (A/256^k % 256)];omega
theorem alg (h:n<=m):0<=iF m n:=by
 rw[iF,aD (by omega)];split<;>decide
theorem aeh {p:List Nat} (hA:A<256^n) (hD:D<=A) (hp:nd p<256^n) (h:nd p+D % 256^n=A % 256^n+c*256^n):nd p=A - D:=by
 rw[iQ hA,iQ (by omega)] at h
 have hc:c=0:=by
  rcases ub c with h0 |h0
  ·exact h0
  ·have:1*256^n<=c*256^n:=jD _ h0;omega
 rw[hc] at h;omega
theorem afe (a b:ByteArray) (w:World) (ha:a.size<=1000000) (hb:b.size<=1000000) (h:N a<N b):
  Calls Tryz.prog 122 #[.string a,.string b] w fun e w'=>e=.returned (.tuple #[.string ⟨#[]⟩,.bool false])/\Below w.heap.size w w':=by
 have hc:=Xl a b w ha hb;rw[Tk h] at hc;have HC:=aF hc;clear hc h;go_enter Tryz.func122,Tryz.ntmps122;go_wp2_with fail
 refine(HC.o).ae ?_;rintro e w1 ⟨rfl,hb1⟩;go_wp2;go_ret2;exact⟨rfl,hb1⟩
theorem afd (a b:ByteArray) (w:World) (ha:a.size<=1000000) (hb:b.size<=1000000) (h:N b<=N a):
  Calls Tryz.prog 122 #[.string a,.string b] w fun e w'=>e=.returned (.tuple #[.string (B (N a - N b)),.bool true])/\Below w.heap.size w w':=by
 obtain⟨i0,hi,hz0,hz1,hz2⟩:=dK Tryz.infoInt;have hc:=Xl a b w ha hb;have hcr:∃r:Int,iF (N a) (N b)=r/\0<=r:=⟨_,rfl,alg h⟩;obtain⟨r,hcr,hr⟩:=hcr;rw[hcr] at hc;have HC:=aF hc;have HT:=aF (fun V=>lu b V (by omega));have sb:=aM (iu b) hb;have Eu:=aF (BL a);have sB:=aF h;have zR:=aF (fun (k:Nat) (V:World) (h:k<=9223372036854775807)=>D7 a k V (by omega) h);have RR:=fun (k:Nat) (V:World) (h:k<=9223372036854775807)=>D7 (B (N b)) k V (by omega) h;rw[cO] at RR;have GS:=aF RR;clear hc hcr RR h;generalize B (N b)=y' at *;generalize hA:N a=A at *;generalize hD:N b=D at *;clear hA hD;generalize hn:a.size=n at *;go_enter Tryz.func122,Tryz.ntmps122;go_wp2_with fail
 refine(HC.o).ae ?_;rintro e w1 ⟨rfl,hb1⟩;clear HC;go_wp2_with fail
 refine(HT.o _).ae ?_;rintro e w9 ⟨rfl,hw9⟩;subst hw9;clear HT
 go_wp2_with (first
  |(at_make;refine nC _ rfl _ _ 27 rfl w9.heap.size 3 i0 (.int .i64 0) 1 Tryz.underlying27 hi hz0 hz1 .i64 .i64 _ _ n rfl rfl (by go_num) (by go_num) (by rw[hz2];omega) (by unfold maxLen;omega) (ak _) ?_;intro w2 hown2 hgrow2))
 have hb2:=pV hown2;rw[Fy] at hb2;have hB2:Below w9.heap.size w9 w2:=(aw _ w9).grown hgrow2 (ak _) (fun k e=>by cases e);have HI:Hid (cN w2 w9.heap.size (List.replicate n 0)):=hb2;clear hown2 hgrow2 hb2
 go_loopw [8,9] (fun cv iv wr=>∃(k c:Nat) (p:List Nat),k<=n/\iv=.int .i64 k/\cv=.int .i64 c/\c<=1/\p.length=n/\Hid (pw p)/\Hid (∀j,k<=j ->p[j]?.getD 0=0)/\Hid (nd p+D % 256^k=A % 256^k+c*256^k)/\Hid (cN wr w9.heap.size p)/\Below w9.heap.size w9 wr)
  (fun _ i _=>n - (intOf i).toNat)
 case atStart=>exact⟨0,0,List.replicate n 0,aX _,rfl,rfl,aX _,by simp,Td _,(fun j _=>by rw[O1];split<;>rfl),(show _=_ by rw[Qs];simp[Nat.mod_one]),HI,hB2⟩
 case round=>
  obtain⟨k,c,p,hk,rfl,rfl,hc,hpl,pj,HZ,HE,HR,bU⟩:=hrel;clear HI hB2;by_cases hlt:k<n
  ·have IV:k<p.length:=by omega
   have hstep:=aF (fun y c'=>aeg (y:=y) IV (HZ.o k (ak _)) HE.o c');have HX:=aF (fun V=>zR.o k V (by omega));have HY:=aF (fun V=>GS.o k V (by omega));have hx:A/256^k % 256<256:=gJ _ (by decide);have hy:D/256^k % 256<256:=gJ _ (by decide);generalize A/256^k % 256=x at *;generalize D/256^k % 256=y at *;have hcell:=HR.o.cell k IV;have hfz:=HR.o.fz k;have cX:=aF (fun z=>HR.o.set k z);generalize p[k]=pk at *;clear HE;by_cases tu:(x:Int) - y - c<0
   ·go_wp2_with (first
     |(have hdone:=hx1;go_at_call 118;refine(HY.o _).ae ?_;rintro e w3 ⟨rfl,hw3⟩;subst hw3)
     |(go_at_call 118;refine(HX.o _).ae ?_;rintro e w3 ⟨rfl,hw3⟩;subst hw3;have hx1:True:=trivial))
    have hv:Value.int .i64 ((x:Int) - (y:Int) - (c:Int)+256)=.int .i64 ((x+256 - y - c:Nat):Int):=int_eq (by omega);rw[hv];go_roundw
    case rel=>exact⟨k+1,1,p.set k (x+256 - y - c),by omega,by go_num,rfl,by omega,by rw[uf];exact hpl,JE pj.o _ _ (by omega),PG HZ.o,hstep.o _ 1 (by omega),cX.o _,bU.setCell (ak _) _⟩
    case measure=>simp[intOf];omega
   ·go_wp2_with (first
     |(have hdone:=hx1;go_at_call 118;refine(HY.o _).ae ?_;rintro e w3 ⟨rfl,hw3⟩;subst hw3)
     |(go_at_call 118;refine(HX.o _).ae ?_;rintro e w3 ⟨rfl,hw3⟩;subst hw3;have hx1:True:=trivial))
    have hv:Value.int .i64 ((x:Int) - (y:Int) - (c:Int))=.int .i64 ((x - y - c:Nat):Int):=int_eq (by omega);rw[hv];go_roundw
    case rel=>exact⟨k+1,0,p.set k (x - y - c),by omega,by go_num,rfl,by omega,by rw[uf];exact hpl,JE pj.o _ _ (by omega),PG HZ.o,hstep.o _ 0 (by omega),cX.o _,bU.setCell (ak _) _⟩
    case measure=>simp[intOf];omega
  ·obtain rfl:k=n:=by omega
   have i7:=P6 w9.heap.size p wr pj.o (by omega) HR.o;have FO:=ag2 p pj.o;rw[hpl] at FO;rw[hpl,aeh Eu.o sB.o FO HE.o] at i7;have vF:=aF i7;clear i7 FO;go_wp2_with (go_at_call 119;refine(vF.o).ae ?_;rintro e w3 ⟨rfl,hb3⟩)
   go_ret2;exact⟨rfl,(hb1.trans (bU.ae hb1.size)).trans (hb3.ae (hb1.trans (bU.ae hb1.size)).size)⟩
theorem Ff (n:Int) (w:World) (h0: -9223372036854775808<=n) (h1:n<=9223372036854775807):
  Calls Tryz.prog 62 #[.int .i64 n] w fun e w'=>e=.returned (.string (B n.toNat))/\Below w.heap.size w w':=by
 go_enter Tryz.func62,Tryz.ntmps62;go_wp2;go_loopw [0,3] (fun v a wr=>∃(z:Int) (s:ByteArray),v=.int .i64 z/\a=.string s/\ -9223372036854775808<=z/\z<=9223372036854775807/\Hid (bn z.toNat++s.data.toList=bn n.toNat)/\Below w.heap.size w wr) (fun v _ _=>(intOf v).toNat)
 case atStart=>exact⟨n,⟨#[]⟩,rfl,rfl,h0,h1,(show _=_ by simp),aw _ _⟩
 case round=>
  obtain⟨z,s,rfl,rfl,hz0,hz1,HS,bU⟩:=hrel;by_cases hz:0<z
  ·have wX:=EI (P:=Tryz.prog) (wr.alloc (.cells #[.int .u8 (z % 256)] 5)) 152 5 Tryz.underlying152 Tryz.underlying5 wr.heap.size 0 1 1 [z % 256] rfl (fun i hi=>by
    (obtain rfl:i=0:=by omega);rw[bE _ wr.heap.size (0+0) _ _ (0,0) (fP _ _)];rfl) 30 Tryz.underlying30
   have o8:Hid (bn (z/256).toNat++(strOfNums [z % 256]++s).data.toList=bn n.toNat):=by
    show _=_;rw[<- HS.o,om z.toNat (by omega),ByteArray.data_append,Array.toList_append,EH,show (z/256).toNat=z.toNat/256 by omega,jh];(have:UInt8.ofNat (z % 256).toNat=UInt8.ofNat (z.toNat % 256):=by congr 1;omega);simp[this]
   have FH:s.size<=8:=by
    have e:=dt List.length HS.o;rw[bM,xp] at e;have:=oZ 8 n.toNat (by show n.toNat<18446744073709551616;omega);omega
   have hs1:(strOfNums [z % 256]).size=1:=strOfNums_size _;go_wp2;go_roundw
   case rel=>exact⟨z/256,strOfNums [z % 256]++s,rfl,rfl,by omega,by omega,o8.o,bU.alloc bU.size _⟩
   case measure=>simp[intOf];omega
  ·have HE:Hid (s=B n.toNat):=by
    show s=_;have:=HS.o;rw[show z.toNat=0 by omega,oh,gi] at this;apply K2;apply K3.1;rw[this,B]
   go_wp2;go_ret;exact⟨by rw[<- HE.o];rfl,bU⟩
theorem ag4 (l:List UInt8) (k:Nat):nb (l.take k)<=nb l:=by
 conv=>rhs;rw[<- Ac k l,AA]
 have:nb (l.take k)*1<=nb (l.take k)*256^(l.drop k).length:=kE _ (ru (by decide));omega
theorem YI (s:ByteArray) (k:Nat) (h:k<s.size):nb (s.data.toList.take (k+1))=nb (s.data.toList.take k)*256+s[k].toNat:=by
 rw[Hv s k h,wH]
theorem YJ (s:ByteArray):nb (s.data.toList.take s.size)=N s:=by
 rw[jF (by rw[xp];exact ak _),N]
theorem E9 (s:ByteArray) (w:World) (hs:s.size<=7):
  Calls Tryz.prog 120 #[.string s] w fun e w'=>e=.returned (.tuple #[.int .i64 (N s:Nat),.bool true])/\w'=w:=by
 have hN:N s<72057594037927936:=aR (BL s) (jf (by decide) hs);have HA:=aF (YJ s);go_enter Tryz.func120,Tryz.ntmps120;go_wp2;go_loop [4,5] (fun v i=>∃k:Nat,k<=s.size/\i=.int .i64 k/\v=.int .i64 (nb (s.data.toList.take k):Nat)) (fun _ i=>s.size - (intOf i).toNat)
 case atStart=>exact⟨0,aX _,rfl,rfl⟩
 case round=>
  obtain⟨k,hk,rfl,rfl⟩:=hrel;by_cases hlt:k<s.size
  ·have hwr:=Vl _ s[k].toNat_lt;have hst:=YI s k hlt;have hle:=ag4 s.data.toList (k+1);rw[hst] at hle;have ani:nb (s.data.toList.take k)*256+s[k].toNat<72057594037927936:=OQ hle hN;have HST:=aF hst;clear hst hle hN;generalize nb (s.data.toList.take k)=m at *;go_wp2;go_round
   case rel=>exact⟨k+1,by omega,by go_num,by rw[HST.o];exact int_eq (by omega)⟩
   case measure=>simp[intOf];omega
  ·obtain rfl:k=s.size:=by omega
   rw[HA.o];go_wp2;go_ret2;exact⟨rfl,rfl⟩
theorem WE (s:ByteArray) (w:World) (h1:7<s.size) (hs:s.size<=1000000):
  Calls Tryz.prog 120 #[.string s] w fun e w'=>e=.returned (.tuple #[.int .i64 0,.bool false])/\w'=w:=by
 go_enter Tryz.func120,Tryz.ntmps120;go_wp2;go_ret2;exact⟨rfl,rfl⟩
theorem WC (m:Nat) (h:(B m).size<=7):m<72057594037927936:=aR (Cm m) (jf (by decide) h)
theorem aho {M x y:Nat} {p:List Nat} (hk:k+m<p.length) (h:nd p+c*256^(k+m)=M+x*256^k*(D % 256^m)) (hy:D/256^m % 256=y):
  nd (p.set (k+m) ((c+p[k+m]+x*y) % 256))+(c+p[k+m]+x*y)/256*256^(k+(m+1))=M+x*256^k*(D % 256^(m+1)):=by
 have s:=LU p (k+m) ((c+p[k+m]+x*y) % 256) hk;have t:=ab3 (c+p[k+m]+x*y) (256^(k+m));have e:(c+p[k+m]+x*y)*256^(k+m)=c*256^(k+m)+p[k+m]*256^(k+m)+x*y*256^(k+m):=by rw[fC,fC]
 have f:x*256^k*(D % 256^(m+1))=x*256^k*(D % 256^m)+x*y*256^(k+m):=by
  rw[Fx,hy,k8,z6];congr 1
  rw[ie,ie,dC y,ie]
 rw[f,show k+(m+1)=k+m+1 by omega,gS];omega
theorem ag3 (l:List Nat):∀(j:Nat) (h:j<l.length),l[j]*256^j<=nd l:=by
 induction l with
 |nil=>intro j h;exact absurd h (z7 _)
 |cons x r ih=>
  intro j h;cases j with
  |zero=>simp only[List.getElem_cons_zero,G6,oF,CM];omega
  |succ j=>
   (have hj:j<r.length:=by simpa using h);have:=ih j hj;rw[OZ,CM,gS, <- ie];omega
theorem ahp {lb x:Nat} {p:List Nat} (hk:k+lb<p.length) (hD:D<256^lb) (hx:A/256^k % 256=x) (h:nd p+c*256^(k+lb)=A % 256^k*D+x*256^k*(D % 256^lb)):
  nd (p.set (k+lb) (p[k+lb]+c))=A % 256^(k+1)*D/\p[k+lb]+c<256:=by
 have s:=LU p (k+lb) (p[k+lb]+c) hk;rw[iQ hD] at h;have f:A % 256^(k+1)*D=A % 256^k*D+x*256^k*D:=by rw[Fx,hx,fC,dC (256^k) x]
 have e:(p[k+lb]+c)*256^(k+lb)=p[k+lb]*256^(k+lb)+c*256^(k+lb):=fC _ _ _;have hn:nd (p.set (k+lb) (p[k+lb]+c))=A % 256^(k+1)*D:=by rw[f];omega
 refine⟨hn,?_⟩;have g:=ag3 (p.set (k+lb) (p[k+lb]+c)) (k+lb) (by rw[uf];exact hk);rw[hn,List.getElem_set_self] at g;have hb:A % 256^(k+1)*D<256^(k+1)*256^lb:=G7 (gJ _ (ru (by decide))) hD;rcases cM (p[k+lb]+c) 256 with h1 |h1
 ·exact h1
 ·have h2:256*256^(k+lb)<=(p[k+lb]+c)*256^(k+lb):=jD _ h1;have h3:256^(k+1)*256^lb=256*256^(k+lb):=by rw[<- z6, <- Nat.pow_succ',show k+1+lb=k+lb+1 by omega]
  omega
theorem afj (a b:ByteArray) (w:World) (ha:a.size<=1000000) (hb:b.size<=1000000):
  Calls Tryz.prog 69 #[.string a,.string b] w fun e w'=>e=.returned (.string (B (N a*N b)))/\Below w.heap.size w w':=by
 obtain⟨i0,hi,hz0,hz1,hz2⟩:=dK Tryz.infoInt;have o6:=aF (lu a w (by omega));have dU:=aF (lu b w (by omega));have sa:=aM (iu a) ha;have sb:=aM (iu b) hb;have B7:N (B (N a))=N a:=cO _;have B6:N (B (N b))=N b:=cO _;generalize B (N a)=x at *;generalize B (N b)=y at *;have Eu:=aF (BL x);have Ce:=aF (BL y);have zR:=aF (fun (k:Nat) (V:World) (h:k<=9223372036854775807)=>D7 x k V (by omega) h);have GS:=aF (fun (k:Nat) (V:World) (h:k<=9223372036854775807)=>D7 y k V (by omega) h);have kA:=aF (fun (h:x.size<=7) (V:World)=>E9 x V h);have xG:=aF (fun (h:y.size<=7) (V:World)=>E9 y V h);rw[B7] at Eu zR kA;rw[B6] at Ce GS xG;clear B7 B6;generalize hA:N a=A at *;generalize hD:N b=D at *;clear hA hD ha hb;go_enter Tryz.func69,Tryz.ntmps69;go_wp2_with fail
 refine(o6.o).ae ?_;rintro e w1 ⟨rfl,hw⟩;subst hw;go_wp2_with fail
 refine(dU.o).ae ?_;rintro e w1 ⟨rfl,hw⟩;subst hw;clear o6 dU;by_cases hsm:x.size+y.size<=7
 ·have hp:A*D<72057594037927936:=by
   have h1:A*D<256^x.size*256^y.size:=G7 Eu.o Ce.o;rw[<- z6] at h1;exact aR h1 (jf (by decide) hsm)
  have AW:(0:Int)<=(A:Int)*(D:Int):=Int.mul_nonneg (by omega) (by omega)
  have FP:(A:Int)*(D:Int)<72057594037927936:=by
   (have h2:((A*D:Nat):Int)<72057594037927936:=by omega);rwa [j6] at h2
  have HO:=aF (fun V=>Ff ((A:Int)*(D:Int)) V (by omega) (by omega));have ZM:((A:Int)*(D:Int)).toNat=A*D:=by rw[<- j6,nH]
  rw[ZM] at HO;have amB:=aF (fun V=>kA.o (by omega) V);have amA:=aF (fun V=>xG.o (by omega) V);have Uq:=aF AW;have q7:=aF FP;have hsi:(x.size:Int)+(y.size:Int)<=7:=by omega
  clear kA xG ZM hp AW FP hsm;go_wp2_with fail
  refine(amB.o _).ae ?_;rintro e w2 ⟨rfl,hw⟩;subst hw;go_wp2_with fail
  refine(amA.o _).ae ?_;rintro e w2 ⟨rfl,hw⟩;subst hw
  have hwr:IntKind.i64.wrap ((A:Int)*(D:Int))=(A:Int)*(D:Int):=by
   have h1:=Uq.o;have h2:=q7.o;rw[gV];omega
  have QS:wrap64 ((A:Int)*(D:Int))=(A:Int)*(D:Int):=by
   have h1:=Uq.o;have h2:=q7.o;rw[wrap64];omega
  clear Uq q7;go_wp2_with fail
  refine(HO.o _).ae ?_;rintro e w3 ⟨rfl,hb3⟩;go_wp2;go_ret;exact⟨rfl,hb3⟩
 ·clear kA xG
  go_wp2_with (first
   |(at_make;refine nC _ rfl _ _ 27 rfl w1.heap.size 3 i0 (.int .i64 0) 1 Tryz.underlying27 hi hz0 hz1 .i64 .i64 _ _ (x.size+y.size+1) rfl rfl (by go_num) (by go_num) (by rw[hz2];omega) (by unfold maxLen;omega) (ak _) ?_;intro w2 hown2 hgrow2))
  have hb2:=pV hown2;rw[Fy] at hb2;have hB2:Below w1.heap.size w1 w2:=(aw _ w1).grown hgrow2 (ak _) (fun k e=>by cases e);have HI:Hid (cN w2 w1.heap.size (List.replicate (x.size+y.size+1) 0)):=hb2;clear hown2 hgrow2 hb2
  go_loopw [10] (fun iv wr=>∃(k:Nat) (p:List Nat),k<=x.size/\iv=.int .i64 k/\p.length=x.size+y.size+1/\Hid (pw p)/\Hid (nd p=A % 256^k*D)/\Hid (cN wr w1.heap.size p)/\Below w1.heap.size w1 wr)
   (fun i _=>x.size - (intOf i).toNat)
  case atStart=>exact⟨0,List.replicate (x.size+y.size+1) 0,aX _,rfl,by simp,Td _,(show _=_ by rw[Qs];simp[Nat.mod_one]),HI,hB2⟩
  case round=>
   obtain⟨k,p,hk,rfl,hpl,pj,HE,HR,bU⟩:=hrel;clear HI hB2;obtain⟨wo,hwo⟩:∃wo:World,wo=wr:=⟨_,rfl⟩;by_cases hlt:k<x.size
   ·have HX:=aF (fun V=>zR.o k V (by omega));have hx:A/256^k % 256<256:=gJ _ (by decide);have hrow:=aF (fun (c:Nat) (q:List Nat) (hq:k+y.size<q.length)=>ahp (A:=A) (D:=D) (k:=k) (lb:=y.size) (c:=c) (p:=q) hq Ce.o rfl);generalize A/256^k % 256=xd at *;go_wp2_with (go_at_call 118;refine(HX.o _).ae ?_;rintro e w3 ⟨rfl,hw3⟩;subst hw3)
    go_loopw [12,13] (fun cv jv wr=>∃(m c:Nat) (q:List Nat),m<=y.size/\jv=.int .i64 m/\cv=.int .i64 c/\c<=255/\q.length=x.size+y.size+1/\Hid (pw q)/\Hid (nd q+c*256^(k+m)=A % 256^k*D+xd*256^k*(D % 256^m))/\Hid (cN wr w1.heap.size q)/\Below w1.heap.size w1 wr)
     (fun _ j _=>y.size - (intOf j).toNat)
    case atStart=>
     refine⟨0,0,p,aX _,rfl,rfl,aX _,hpl,pj.o,?_,HR,bU⟩;show _=_;rw[HE.o];simp[Nat.mod_one]
    case round=>
     obtain⟨m,c,q,hm,rfl,rfl,hc,dI,UZ,HEq,Gt,uQ⟩:=hrel;clear HR bU pj HE;by_cases Rn:m<y.size
     ·have fM:k+m<q.length:=by omega
      have HY:=aF (fun V=>GS.o m V (by omega));have QN:D/256^m % 256<256:=gJ _ (by decide);have hstep:=aho (y:=D/256^m % 256) fM HEq.o rfl;have hcell:=Gt.o.cell (k+m) fM;have hqd:=UZ.o q[k+m] (bY fM);have hfz:=Gt.o.fz (k+m);have cX:=aF (fun z=>Gt.o.set (k+m) z);generalize D/256^m % 256=yd at *;generalize q[k+m]=qk at *;have HST:=aF hstep;have IC:xd*yd<=255*255:=jE (by omega) (by omega);have aiP:(0:Int)<=(xd:Int)*(yd:Int):=Int.mul_nonneg (by omega) (by omega)
      have aiO:(xd:Int)*(yd:Int)<=65025:=by
       (have h2:((xd*yd:Nat):Int)<=65025:=by omega);rwa [j6] at h2
      clear hstep HEq;go_wp2_with (go_at_call 118;refine(HY.o _).ae ?_;rintro e w3 ⟨rfl,hw3⟩;subst hw3)
      have rN:(xd:Int)*(yd:Int)=((xd*yd:Nat):Int):=(j6 _ _).symm;rw[rN];clear aiP aiO rN;generalize xd*yd=t at *;have hv:Value.int .i64 (((c:Int)+(qk:Int)+(t:Int)) % 256)=.int .i64 (((c+qk+t) % 256:Nat):Int):=int_eq (by omega);have hv2:Value.int .i64 (((c:Int)+(qk:Int)+(t:Int))/256)=.int .i64 (((c+qk+t)/256:Nat):Int):=int_eq (by omega);rw[hv,hv2];go_roundw
      case rel=>exact⟨m+1,(c+qk+t)/256,q.set (k+m) ((c+qk+t) % 256),by omega,by go_num,rfl,by omega,by rw[uf];exact dI,JE UZ.o _ _ (gJ _ (by decide)),HST.o,cX.o _,uQ.setCell (ak _) _⟩
      case measure=>simp[intOf];omega
     ·obtain rfl:m=y.size:=by omega
      (have fM:k+y.size<q.length:=by omega);obtain⟨jt,Mk⟩:=hrow.o c q fM HEq.o;have hcell:=Gt.o.cell (k+y.size) fM;have hfz:=Gt.o.fz (k+y.size);have cX:=aF (fun z=>Gt.o.set (k+y.size) z);generalize q[k+y.size]=qk at *;have HFN:=aF jt;clear jt HEq;go_wp2;have hv:Value.int .i64 ((qk:Int)+(c:Int))=.int .i64 ((qk+c:Nat):Int):=int_eq (by omega);rw[hv];go_roundw
      case rel=>exact⟨k+1,q.set (k+y.size) (qk+c),by omega,by go_num,by rw[uf];exact dI,JE UZ.o _ _ Mk,HFN.o,cX.o _,uQ.setCell (ak _) _⟩
      case measure=>simp[intOf];omega
   ·obtain rfl:k=x.size:=by omega
    have i7:=P6 w1.heap.size p wr pj.o (by omega) HR.o;rw[hpl,HE.o,iQ Eu.o] at i7;have vF:=aF i7;clear i7;go_wp2_with (go_at_call 119;refine(vF.o).ae ?_;rintro e w3 ⟨rfl,hb3⟩)
    go_ret;exact⟨rfl,bU.trans (hb3.ae bU.size)⟩
variable {d:Nat}
def bv (d:Nat):Value:=.int .u8 (d:Int)
def Gl (w:World) (base:Nat) (v:Value) (l:List Nat):Prop:=w.ownsRow base 5 1 v l.length (l.map bv)
def qn (l:List Nat):Nat:=l.foldl (fun n d=>n*256+d) 0
theorem Xr (l:List Nat) (d:Nat):qn (l++[d])=qn l*256+d:=by simp[qn]
theorem akZ {l:List Nat} (h:pw l) (hd:d<256):pw (l++[d]):=fun x hx=>by
 rcases bL.1 hx with h1 |h1
 ·exact h x h1
 ·simp at h1;omega
theorem amj (l:List Nat):pw l ->N (strOfNums (l.map Int.ofNat))=qn l:=by
 induction l using E7 with
 |h0=>intro _;rfl
 |h1 l d ih=>
  intro h;have h1:=ih fun x hx=>h x (yj _ hx);have h2:=h d (Cv _ (eA.2 rfl));rw[N,EH] at h1⊢;rw[dY,dY,fH,j5,fH,j5,wH,h1,Xr];have:(UInt8.ofNat (Int.ofNat d).toNat).toNat=d:=by simp;omega
  rw[this]
theorem akX {P:Nat} (hD:0<D):(P*256+c)/D=P/D*256+(P % D*256+c)/D/\(P*256+c) % D=(P % D*256+c) % D:=by
 have e:P*256+c=P % D*256+c+P/D*256*D:=by
  have:=Nat.div_add_mod P D;have f:P/D*256*D=D*(P/D)*256:=by rw[Nat.mul_right_comm,dC (P/D) D]
  omega
 rw[e,OV _ _ hD,OU];exact⟨z8 _ _,rfl⟩
theorem aml (s x:ByteArray) (k:Nat) (h:k<x.size):N (s++x.extract k (k+1))=N s*256+x[k].toNat:=by
 have e:(x.extract k (k+1)).data.toList=[x[k]]:=by
  rw[ByteArray.data_extract,Array.toList_extract,List.extract_eq_take_drop,show k+1 - k=1 by omega,mU (by rw[xp];exact h)];rfl
 rw[N,ByteArray.data_append,Array.toList_append,e,wH];rfl
theorem agN (x:ByteArray) (k:Nat) (h:k<x.size):(x.extract k (k+1)).size=1:=by
 rw[ByteArray.size_extract];omega
theorem afr (a b:ByteArray) (w:World) (ha:a.size<=1000000) (hb:b.size<=1000000) (h:N b≠0) (h1:(B (N a)).size<=7) (h2:(B (N b)).size<=7):
  Calls Tryz.prog 117 #[.string a,.string b] w fun e w'=>e=.returned (.tuple #[.string (B (N a/N b)),.string (B (N a % N b)),.bool true])/\Below w.heap.size w w':=by
 have o6:=aF (lu a w (by omega));have dU:=aF (lu b w (by omega));have B7:N (B (N a))=N a:=cO _;have B6:N (B (N b))=N b:=cO _;have hne:=zW h;have hA:=WC _ h1;have hD:=WC _ h2;generalize B (N a)=x at *;generalize B (N b)=y at *;have kA:=aF (fun (V:World)=>E9 x V h1);have xG:=aF (fun (V:World)=>E9 y V h2);rw[B7] at kA;rw[B6] at xG;clear B7 B6;generalize hA':N a=A at *;generalize Bp:N b=D at *;clear hA' Bp ha hb h1 h2
 have qE:(A:Int)/(D:Int)<=A:=by
  rw[<- vX];have:=vQ A D;omega
 have qG:0<=(A:Int)/(D:Int):=Int.ediv_nonneg (by omega) (by omega)
 have hr1:(A:Int) % (D:Int)<=A:=by
  rw[<- rD];have:=Nat.mod_le A D;omega
 have Iy:0<=(A:Int) % (D:Int):=Int.emod_nonneg _ (by omega);have hq:=fun V=>Ff ((A:Int)/(D:Int)) V (by omega) (by omega);have hr:=fun V=>Ff ((A:Int) % (D:Int)) V (by omega) (by omega);rw[<- vX,nH,vX] at hq;rw[<- rD,nH,rD] at hr;have HQ:=aF hq;have HR:=aF hr;clear hq hr;have MT:0<D:=jY h;go_enter Tryz.func117,Tryz.ntmps117;go_wp2_with fail
 refine(o6.o).ae ?_;rintro e w1 ⟨rfl,hw⟩;subst hw;go_wp2_with fail
 refine(dU.o).ae ?_;rintro e w1 ⟨rfl,hw⟩;subst hw;go_wp2_with fail
 refine(kA.o _).ae ?_;rintro e w2 ⟨rfl,hw⟩;subst hw;go_wp2_with fail
 refine(xG.o _).ae ?_;rintro e w2 ⟨rfl,hw⟩;subst hw;go_upto_region 8 with fail
 have hz:¬(D:Int)=0:=by omega
 have hw1:IntKind.i64.wrap ((A:Int)/(D:Int))=(A:Int)/(D:Int):=by rw[gV];omega
 have hw2:IntKind.i64.wrap ((A:Int) % (D:Int))=(A:Int) % (D:Int):=by rw[gV];omega
 have hB0:=(aw w2.heap.size w2).drew
 go_region_held3 (fun V=>Hid (Below w2.heap.size w2 V))
  (first |exact dO |exact bV |exact hB0)
  (first
   |(have aaO:=bV;go_at_call 62;refine(HR.o _).ae ?_;rintro e w4 ⟨rfl,hb4⟩;have dO:=aaO.trans (hb4.ae aaO.size))
   |(go_at_call 62;refine(HQ.o _).ae ?_;rintro e w3 ⟨rfl,hb3⟩;have bV:=hB0.trans (hb3.ae hB0.size)))
 go_wp2;go_ret3
 exact⟨rfl,dO⟩
theorem Gl.cases {base:Nat} {v:Value} {l:List Nat} (h:Gl w base v l):(v=.slice none 0 0/\l=[])∨∃g cap,v=.slice (some ⟨g,0,none⟩) l.length cap/\∀j,j<l.length ->w.cell? ⟨g,j,none⟩=some (.int .u8 (l[j]?.getD 0:Nat)):=by
 rcases h.2 with ⟨hv,hn⟩ |⟨g,cap,cur,hv,r⟩
 ·exact .inl ⟨hv,Vg hn⟩
 ·subst hv;refine .inr ⟨g,cap,rfl,fun j hj=>?_⟩;rw[World.ownsRow.cellAt h j (by omega),mS,ba hj];rfl
theorem abE {R:Nat} {y:ByteArray} (hy:N y=D) (hR:R<256*D) (hs:y.size<=500000) (d:Nat):(B (R - d*D)).size<=1000000:=by
 have h1:=j7 (aM (Nat.sub_le R (d*D)) (vP hR));have h2:=wy 256 D;have h3:=iu y;rw[hy] at h3;have h4:(B 256).size<=2:=by rw[kX];exact oZ 2 256 (by decide)
 omega
theorem akY {R:Nat} (hD:0<D) (h1:d*D<=R) (h2:¬D<=R - d*D):R/D=d/\R % D=R - d*D:=by
 have e:R=(R - d*D)+d*D:=by omega
 constructor
 ·rw[e,OV _ _ hD,vR (by omega)];omega
 ·conv=>lhs;rw[e]
  rw[OU,iQ (by omega)]
theorem afs (a b:ByteArray) (w:World) (ha:a.size<=500000) (hb:b.size<=500000) (h:N b≠0) (aal:¬((B (N a)).size<=7/\(B (N b)).size<=7)):
  Calls Tryz.prog 117 #[.string a,.string b] w fun e w'=>e=.returned (.tuple #[.string (B (N a/N b)),.string (B (N a % N b)),.bool true])/\Below w.heap.size w w':=by
 obtain⟨i0,hi,hz0,hz1,hz2⟩:=dK Tryz.infoByte;have o6:=aF (lu a w (by omega));have dU:=aF (lu b w (by omega));have B7:N (B (N a))=N a:=cO _;have B6:N (B (N b))=N b:=cO _;have hne:=zW h;have sa:=aM (iu a) ha;have sb:=aM (iu b) hb;generalize B (N a)=x at *;generalize hy:B (N b)=y at *;have Gn:=aF B6;have HX:=aF (YJ x);rw[B7] at HX;have MT:0<N b:=jY h;clear B7 B6;have kA:=aF (fun (V:World)=>if h7:x.size<=7 then Exists.intro (p:=fun r:Value×Value=>r.2=.bool (decide (x.size<=7))/\Calls Tryz.prog 120 #[.string x] V fun e w'=>e=.returned (.tuple #[r.1,r.2])/\w'=V) (.int .i64 (N x:Nat),.bool true) ⟨by simp[h7],E9 x V h7⟩ else⟨(.int .i64 0,.bool false),by simp[h7],WE x V (by omega) (by omega)⟩);have xG:=aF (fun (V:World)=>if h7:y.size<=7 then Exists.intro (p:=fun r:Value×Value=>r.2=.bool (decide (y.size<=7))/\Calls Tryz.prog 120 #[.string y] V fun e w'=>e=.returned (.tuple #[r.1,r.2])/\w'=V) (.int .i64 (N y:Nat),.bool true) ⟨by simp[h7],E9 y V h7⟩ else⟨(.int .i64 0,.bool false),by simp[h7],WE y V (by omega) (by omega)⟩);generalize hA':N a=A at *;generalize Bp:N b=D at *;clear hA' Bp ha hb hy;go_enter Tryz.func117,Tryz.ntmps117;go_wp2_with fail
 refine(o6.o).ae ?_;rintro e w1 ⟨rfl,hw⟩;subst hw;go_wp2_with fail
 refine(dU.o).ae ?_;rintro e w1 ⟨rfl,hw⟩;subst hw;clear o6 dU;obtain⟨⟨p1,p2⟩,yT,Kz⟩:=kA.o w1;obtain⟨⟨q1,q2⟩,oQ,vL⟩:=xG.o w1;simp only at yT oQ;subst yT oQ;have ac0:=aF Kz;have acY:=aF vL;clear Kz vL kA xG
 have ajt:(decide (x.size<=7)=false)∨(decide (x.size<=7)=true/\decide (y.size<=7)=false):=by
  by_cases h7:x.size<=7
  ·exact .inr ⟨bT h7,cj fun h8=>aal ⟨h7,h8⟩⟩
  ·exact .inl (cj h7)
 clear aal;generalize decide (x.size<=7)=t1 at *;generalize decide (y.size<=7)=t2 at *;go_wp2_with fail
 refine(ac0.o).ae ?_;rintro e w2 ⟨rfl,hw⟩;subst hw;go_wp2_with fail
 refine(acY.o).ae ?_;rintro e w2 ⟨rfl,hw⟩;subst hw;clear ac0 acY;rcases ajt with rfl |⟨rfl,rfl⟩
 all_goals
  go_wp2
  go_loopw [11,12,13] (fun qv rv iv wr=>∃(k:Nat) (ql:List Nat),k<=x.size/\iv=.int .i64 k/\rv=.string (B (nb (x.data.toList.take k) % D))/\ql.length=k/\Hid (pw ql)/\Hid (qn ql=nb (x.data.toList.take k)/D)/\Hid (Gl wr w2.heap.size qv ql)/\Below w2.heap.size w2 wr)
   (fun _ _ i _=>x.size - (intOf i).toNat)
  case atStart=>exact⟨0,[],aX _,rfl,(by rw[List.take_zero,CN,Nat.zero_mod,x4]),rfl,(fun x hx=>by cases hx),(show _=_ by rw[List.take_zero,CN,Nat.zero_div];rfl),World.ownsRow_nil _ _ _ _,aw _ _⟩
  case round=>
   obtain⟨k,ql,hk,rfl,rfl,dI,pj,HE,HH,bU⟩:=hrel;by_cases hlt:k<x.size
   ·have hsz:=agN x k hlt;have eO:=aml (B (nb (x.data.toList.take k) % D)) x k hlt;rw[cO] at eO;have hst:=YI x k hlt;obtain⟨RN,RM⟩:=akX (P:=nb (x.data.toList.take k)) (D:=D) (c:=x[k].toNat) MT;rw[<- hst] at RN RM;have hrl:nb (x.data.toList.take k) % D<D:=gJ _ MT;have hcl:=x[k].toNat_lt;have hsr:(B (nb (x.data.toList.take k) % D)).size<=500000:=aM (j7 (vP hrl)) (by have:=iu y;rw[Gn.o] at this;omega);(have Gx:Hid (nb (x.data.toList.take (k+1))/D=qn ql*256+(nb (x.data.toList.take k) % D*256+x[k].toNat)/D):=by show _=_;rw[RN,HE.o]);have nj:=aF RM;(have hR:nb (x.data.toList.take k) % D*256+x[k].toNat<256*D:=by omega);clear hst RN RM HE hcl hrl;generalize nb (x.data.toList.take k) % D*256+x[k].toNat=R at *;generalize B (nb (x.data.toList.take k) % D)=rs at *;(have ajr:(rs++x.extract k (k+1)).size<=1000001:=by rw[ByteArray.size_append,hsz];omega);have HT:=aF (fun V=>lu (rs++x.extract k (k+1)) V (by omega));rw[eO] at HT;clear eO ajr
    have HSY:=aF (fun (d:Nat) (V:World) (h1:d*D<=R) (h2:D<=R - d*D)=>by
     have hs:=afd (B (R - d*D)) y V (abE Gn.o hR sb d) (by omega) (by rw[cO,Gn.o];exact h2);rw[cO,Gn.o,show R - d*D - D=R - (d+1)*D by rw[fC,jZ];omega] at hs;exact hs)
    have Ej:=aF (fun (d:Nat) (V:World) (h2:¬D<=R - d*D)=>afe (B (R - d*D)) y V (abE Gn.o hR sb d) (by omega) (by rw[cO,Gn.o];omega));go_wp2_with (go_at_call 116;refine(HT.o _).ae ?_;rintro e w3 ⟨rfl,hw3⟩;subst hw3)
    clear HT;go_loopw [12,14] (fun rv dv wi=>∃d:Nat,d*D<=R/\rv=.string (B (R - d*D))/\dv=.int .i64 d/\Below w3.heap.size w3 wi) (fun _ dv _=>256 - (intOf dv).toNat)
    case atStart=>exact⟨0,by omega,by rw[mQ,Nat.sub_zero],rfl,aw _ _⟩
    case round=>
     obtain⟨d,hd,rfl,rfl,Js⟩:=hrel
     have ajm:d<256:=by
      rcases cM d 256 with h1 |h1
      ·exact h1
      ·have:=jD D h1;omega
     by_cases hle:D<=R - d*D
     ·have pN:(d+1)*D<=R:=by rw[fC,jZ];omega
      have HC:=aF (fun V=>HSY.o d V hd hle);clear hd hle;go_wp2_with fail
      refine(HC.o _).ae ?_;rintro e w4 ⟨rfl,hb4⟩;go_wp2;go_roundw
      case rel=>exact⟨d+1,pN,rfl,by go_num,Js.trans (hb4.ae Js.size)⟩
      case measure=>simp[intOf];omega
     ·have HC:=aF (fun V=>Ej.o d V hle);obtain⟨hq,hr⟩:=akY MT hd hle;(have xJ:Hid (qn (ql++[d])=nb (x.data.toList.take (k+1))/D):=by show _=_;rw[Xr,Gx.o,hq]);(have fW:Hid (R - d*D=nb (x.data.toList.take (k+1)) % D):=by show _=_;rw[nj.o,hr]);clear hq hr hd hle HSY Ej nj Gx;go_wp2_with fail
      refine(HC.o _).ae ?_;rintro e w4 ⟨rfl,hb4⟩;have HH4:Gl w4 w2.heap.size _ ql:=LI (LI HH.o Js (ak _)) hb4 (ak _);have dO:=(bU.trans (Js.ae bU.size)).trans (hb4.ae (bU.trans (Js.ae bU.size)).size);have jO:=dO.size;rw[fW.o];clear fW HC;go_wp2_with (at_builtin;refine Cn _ rfl _ _ 152 rfl w2.heap.size 5 i0 (.int .u8 0) 1 1 Tryz.underlying152 hi hz0 hz1 hz2 rfl (by decide) _ _ _ rfl (Co HH4 _) ⟨w4.heap.size,0,none⟩ 1 1 [.int .u8 (d:Nat)] rfl rfl (cell_one_new _ _ _) (by simp[Value.oneCell']) (by unfold maxLen;omega) (by omega) (by simp;omega) ?_;intro v' w5 Mq I3 _)
      have DX:Below w2.heap.size w2 w5:=(dO.alloc dO.size _).grown I3 (by simp;omega) (fun k hk=>(World.ownsRow.lt HH4 k hk).1);go_wp2;go_roundw
      case rel=>
       refine⟨k+1,ql++[d],by omega,by go_num,rfl,by rw[bM,dI];rfl,akZ pj.o ajm,xJ.o,?_,DX⟩;(have e:(ql++[d]).length=ql.length+1:=by simp);show Gl _ _ _ _;rw[Gl,e];simpa [bv] using Mq
      case measure=>simp[intOf];omega
   ·obtain rfl:k=x.size:=by omega
    rw[HX.o] at HE⊢;have IH:=amj ql pj.o;rw[HE.o] at IH;rcases HH.o.cases with ⟨rfl,rfl⟩ |⟨g,cap,rfl,hcs⟩
    ·have HT:=aF (fun V=>lu ⟨#[]⟩ V (by show 0<=_;omega));have aag:N ⟨#[]⟩=A/D:=IH;rw[aag] at HT;have wX:=run_convert_bytes_nil (P:=Tryz.prog) wr 152 5 Tryz.underlying152 Tryz.underlying5 0 0 30 Tryz.underlying30;rw[show ByteArray.empty=⟨#[]⟩ from rfl] at wX;clear IH aag HH pj HE dI;go_wp2_with (go_at_call 116;refine(HT.o _).ae ?_;rintro e w3 ⟨rfl,hw3⟩;subst hw3)
     go_ret3
     exact⟨rfl,bU⟩
    ·have hmap:(ql.map Int.ofNat).length=ql.length:=by simp
     have hcm:∀i,i<ql.length ->wr.cell? ⟨g,0+i,none⟩=some (.int .u8 ((ql.map Int.ofNat).getD i 0)):=fun i hi=>by
      rw[bI,hcs i hi];simp[b6,ba hi]
     have wX:=EI (P:=Tryz.prog) wr 152 5 Tryz.underlying152 Tryz.underlying5 g 0 ql.length cap (ql.map Int.ofNat) hmap hcm 30 Tryz.underlying30
     have hsz:(strOfNums (ql.map Int.ofNat)).size<=140737488355328:=by
      rw[strOfNums_size,hmap];omega
     clear hmap dI;have HT:=aF (fun V=>lu (strOfNums (ql.map Int.ofNat)) V hsz);rw[IH] at HT;clear IH HH pj HE hcs hcm;go_wp2_with (go_at_call 116;refine(HT.o _).ae ?_;rintro e w3 ⟨rfl,hw3⟩;subst hw3)
     go_ret3
     exact⟨rfl,bU⟩
theorem Xk (a b:ByteArray) (w:World) (ha:a.size<=500000) (hb:b.size<=500000) (h:N b≠0):
  Calls Tryz.prog 117 #[.string a,.string b] w fun e w'=>e=.returned (.tuple #[.string (B (N a/N b)),.string (B (N a % N b)),.bool true])/\Below w.heap.size w w':=by
 by_cases hs:(B (N a)).size<=7/\(B (N b)).size<=7
 ·exact afr a b w (by omega) (by omega) h hs.1 hs.2
 ·exact afs a b w ha hb h hs
theorem PO (m n:Nat) (w:World) (hm:(B m).size<=500000) (hn:(B n).size<=500000) (h:n≠0):
  Calls Tryz.prog 117 #[.string (B m),.string (B n)] w fun e w'=>e=.returned (.tuple #[.string (B (m/n)),.string (B (m % n)),.bool true])/\Below w.heap.size w w':=by
 have:=Xk (B m) (B n) w hm hn (by rw[cO];exact h);rwa [cO,cO] at this
theorem afo (a b:ByteArray) (w:World) (ha:a.size<=500000) (hb:b.size<=500000):
  Calls Tryz.prog 121 #[.string a,.string b] w fun e w'=>e=.returned (.string (B (Nat.gcd (N a) (N b))))/\Below w.heap.size w w':=by
 have o6:=aF (lu a w (by omega));have dU:=aF (lu b w (by omega));have sa:=aM (iu a) ha;have sb:=aM (iu b) hb;generalize hA':N a=A at *;generalize Bp:N b=D at *;clear hA' Bp ha hb;go_enter Tryz.func121,Tryz.ntmps121;go_wp2_with fail
 refine(o6.o).ae ?_;rintro e w1 ⟨rfl,hw⟩;subst hw;go_wp2_with fail
 refine(dU.o).ae ?_;rintro e w1 ⟨rfl,hw⟩;subst hw;clear o6 dU;go_wp2;go_loopg [0,1] D (fun r vx vy wr=>∃m:Nat,vx=.string (B m)/\vy=.string (B r)/\(B m).size<=500000/\(B r).size<=500000/\Hid (Nat.gcd m r=Nat.gcd A D)/\Below w1.heap.size w1 wr)
 case atStart=>exact⟨A,rfl,rfl,sa,sb,rfl,aw _ _⟩
 case round=>
  obtain⟨m,rfl,rfl,hm,hr,HG,bU⟩:=hrel;by_cases h0:gk=0
  ·subst h0;rw[x4];(have HE:Hid (m=Nat.gcd A D):=by show _=_;rw[<- HG.o,Nat.gcd_zero_right]);go_wp2;go_ret;exact⟨by rw[<- HE.o];rfl,bU⟩
  ·have hne:=zW h0;have HD:=aF (fun V=>PO m gk V hm hr h0);have hmod:=gJ m (jY h0);have hsz:=aM (j7 (vP hmod)) hr;(have sG:Hid (Nat.gcd gk (m % gk)=Nat.gcd A D):=by show _=_;rw[<- HG.o,G8 m gk,Nat.gcd_rec gk m,G8]);go_wp2_with fail
   refine(HD.o _).ae ?_;rintro e w2 ⟨rfl,hb2⟩;go_wp2;go_roundg (m % gk)
   case measure=>exact hmod
   case rel=>exact⟨gk,rfl,rfl,hr,hsz,sG.o,bU.trans (hb2.ae bU.size)⟩
variable {neg:Bool} {den num:ByteArray}
def sg (neg:Bool) (n:Nat):Int:=if neg then -(n:Int) else(n:Int)
theorem Lf (neg:Bool) (n:Nat):(sg neg n).natAbs=n:=by cases neg<;>simp[sg]
theorem WJ (neg:Bool):sg neg 0=0:=by cases neg<;>rfl
theorem aeK (neg:Bool) (n:Nat):sg (!neg) n= -sg neg n:=by cases neg<;>simp[sg]
theorem aeL (a b:Bool) (m n:Nat):sg (a !=b) (m*n)=sg a m*sg b n:=by cases a<;>cases b<;>simp[sg,Int.neg_mul,Int.mul_neg]
theorem WL (a:Bool) (m n:Nat):sg a m*(n:Int)=sg a (m*n):=by cases a<;>simp[sg,Int.neg_mul]
theorem aeM:sg neg n=0↔n=0:=by cases neg<;>simp[sg]
theorem aeN (neg:Bool) (n g:Nat) (h:g∣n):sg neg n/(g:Int)=sg neg (n/g):=by
 cases neg
 ·simp[sg]
 ·simp only[sg,if_true];rw[Int.neg_ediv_of_dvd (Int.natCast_dvd_natCast.2 h)];simp
theorem LY {n:Int} (hd:d≠0):mkRat n d=Rat.normalize n d hd:=by rw[mkRat,dif_neg hd]
theorem YW {n:Int} (hd:d≠0):(mkRat n d).num=n/(Nat.gcd n.natAbs d:Int):=by rw[LY hd,Rat.normalize_eq]
theorem ahK {n:Int} (hd:d≠0):(mkRat n d).den=d/Nat.gcd n.natAbs d:=by rw[LY hd,Rat.normalize_eq]
theorem ahJ (neg:Bool) (a d:Nat) (ha:a≠0) (hd:d≠0):decide ((mkRat (sg neg a) d).num<0)=neg/\(mkRat (sg neg a) d).num.natAbs=a/Nat.gcd a d/\(mkRat (sg neg a) d).den=d/Nat.gcd a d:=by
 have hg:Nat.gcd a d∣a:=Nat.gcd_dvd_left _ _;have fQ:0<Nat.gcd a d:=Nat.gcd_pos_of_pos_left _ (jY ha);rw[YW hd,ahK hd,Lf,aeN neg a _ hg,Lf];refine⟨?_,rfl,rfl⟩;have hq:0<a/Nat.gcd a d:=Nat.div_pos (Nat.le_of_dvd (jY ha) hg) fQ;cases neg
 ·simp only[sg];simp;omega
 ·simp only[sg];simp;omega
def val (neg:Bool) (num den:ByteArray):Rat:=mkRat (sg neg (N num)) (N den)
theorem Vz (h:N num=0):val neg num den=0:=by rw[val,h,WJ,KO]
theorem Hk (h:N den=0):val neg num den=0:=by rw[val,h,Rat.mkRat_zero]
theorem Vy:val neg num den=0↔N num=0∨N den=0:=by
 constructor
 ·intro h;by_cases hd:N den=0
  ·exact .inr hd
  ·rw[val,Rat.mkRat_eq_zero hd,aeM] at h;exact .inl h
 ·rintro(h |h)
  ·exact Vz h
  ·exact Hk h
theorem adG (neg:Bool) (num den:ByteArray):val (!neg) num den= -val neg num den:=by rw[val,val,aeK,Rat.neg_mkRat]
theorem val_mul (a b:Bool) (x y u v:ByteArray):mkRat (sg (a !=b) (N x*N u)) (N y*N v)=val a x y*val b u v:=by rw[val,val,Rat.mkRat_mul_mkRat,aeL]
theorem val_add (a b:Bool) (x y u v:ByteArray) (hy:N y≠0) (hv:N v≠0):mkRat (sg a (N x*N v)+sg b (N u*N y)) (N y*N v)=val a x y+val b u v:=by
 rw[val,val,Rat.mkRat_add_mkRat _ _ hy hv,WL,WL]
theorem adH (neg:Bool) (x y:ByteArray) (hx:N x≠0) (hy:N y≠0):val neg y x=(val neg x y)⁻¹:=by
 have h:val neg x y*val neg y x=1:=by
  rw[<- val_mul];have:sg (neg !=neg) (N x*N y)=((N x*N y:Nat):Int)*1:=by cases neg<;>simp[sg]
  rw[this,dC (N y) (N x), <- oF (N x*N y),j6 (N x*N y) 1,Int.natCast_one,Int.mul_one,Rat.mkRat_mul_left (Cq hx hy)];rfl
 grind
def C (q:Rat):Value:=.agg #[.bool (decide (q.num<0)),.string (B q.num.natAbs),.string (B q.den)]
theorem Ck:C 0=.agg #[.bool false,.string ⟨#[]⟩,.string (B 1)]:=by
 show Value.agg #[_,.string (B 0),.string (B 1)]=_;rw[x4];rfl
theorem adI (q:Rat):val (decide (q.num<0)) (B q.num.natAbs) (B q.den)=q:=by
 rw[val,cO,cO]
 have:sg (decide (q.num<0)) q.num.natAbs=q.num:=by
  by_cases h:q.num<0
  ·simp[sg,h];omega
  ·simp[sg,h];omega
 rw[this,Rat.mkRat_self]
theorem OE (neg:Bool) (a d:Nat) (ha:a≠0) (hd:d≠0):C (mkRat (sg neg a) d)=.agg #[.bool neg,.string (B (a/Nat.gcd a d)),.string (B (d/Nat.gcd a d))]:=by
 obtain⟨h1,h2,h3⟩:=ahJ neg a d ha hd;rw[C,h1,h2,h3]
def qw (q:Rat):Nat:=(B q.num.natAbs).size+(B q.den).size
theorem Xp {n:Int} (hd:d≠0):qw (Rat.normalize n d hd)<=(B n.natAbs).size+(B d).size:=by
 rw[Rat.normalize_eq]
 have h1:(n/(Nat.gcd n.natAbs d:Int)).natAbs<=n.natAbs:=by
  have hg:((Nat.gcd n.natAbs d:Nat):Int)∣n:=by have h:=Int.natCast_dvd_natCast.2 (Nat.gcd_dvd_left n.natAbs d);rwa [Int.dvd_natAbs] at h
  rw[Int.natAbs_ediv_of_dvd hg];exact vQ _ _
 have s1:=j7 h1;have s2:=j7 (vQ d (Nat.gcd n.natAbs d));simp only[qw];omega
theorem Xo:qw 0<=1:=by
 show (B 0).size+(B 1).size<=1;rw[x4];have:=OG;have:(⟨#[]⟩:ByteArray).size=0:=rfl;omega
theorem PT (neg:Bool) (num den:ByteArray):qw (val neg num den)<=num.size+den.size+1:=by
 by_cases hd:N den=0
 ·rw[Hk hd];have:=Xo;omega
 ·rw[val,LY hd];have:=Xp (n:=sg neg (N num)) hd;rw[Lf] at this;have:=iu num;have:=iu den;omega
def jd (p q:Rat):Int:=if p<q then -1 else if p=q then 0 else 1
theorem ahI (neg:Bool) (n d:Nat) (hd:d≠0) (hn:n≠0):(neg=true ->mkRat (sg neg n) d<0)/\(neg=false ->0<mkRat (sg neg n) d):=by
 have hp:∀m:Nat,m≠0 ->0<mkRat (m:Int) d:=fun m hm=>by
  have h1:0<=mkRat (m:Int) d:=by
   rw[<- Rat.num_nonneg,YW hd];exact Int.ediv_nonneg (by omega) (by omega)
  have h2:mkRat (m:Int) d≠0:=by rw[Ne,Rat.mkRat_eq_zero hd];omega
  grind
 constructor
 ·rintro rfl;have h:=hp n hn;have e:mkRat (sg true n) d= -mkRat (n:Int) d:=by rw[Rat.neg_mkRat];rfl
  rw[e];grind
 ·rintro rfl;exact hp n hn
variable {fn:Func}
theorem CT (a:ByteArray) (w:World):
  Calls Tryz.prog 108 #[.string a] w fun e w'=>e=.returned (.bool (decide (N a=0)))/\w'=w:=by
 have hc:(iF (N a) (N ⟨#[]⟩)==0)=decide (N a=0):=by
  rw[acz,iF];by_cases h:N a=0
  ·simp[h]
  ·simp[h]
 have HC:=aF hc;clear hc;go_enter Tryz.func108,Tryz.ntmps108;go_wp2_with fail
 refine(U9 a ⟨#[]⟩ _).ae ?_;rintro e w1 ⟨rfl,hw⟩;subst hw;go_wp2;go_ret;exact⟨by rw[<- HC.o];rfl,rfl⟩
def aL (w:World) (g:Nat) (neg:Bool) (num den:ByteArray):Prop:=w.heap[g]? =some (.cells #[.bool neg,.string num,.string den] 32 (0,0))
theorem aL.c0 (h:aL w g neg num den):w.cell? ⟨g,0,none⟩=some (.bool neg):=by rw[bE w g 0 _ _ (0,0) h];rfl
theorem aL.c1 (h:aL w g neg num den):w.cell? ⟨g,1,none⟩=some (.string num):=by rw[bE w g 1 _ _ (0,0) h];rfl
theorem aL.c2 (h:aL w g neg num den):w.cell? ⟨g,2,none⟩=some (.string den):=by rw[bE w g 2 _ _ (0,0) h];rfl
theorem aL.fz (h:aL w g neg num den) (j:Nat):w.frozen? ⟨g,j,none⟩=false:=kZ w g j _ _ h
theorem aL.lt (h:aL w g neg num den):g<w.heap.size:=(cV.1 h).1
theorem aL.of_block (h:aL w g neg num den) (e:w'.heap[g]? =w.heap[g]?):aL w' g neg num den:=e.trans h
theorem aL.aa {B:Nat} (h:aL w g neg num den) (hb:Below B w w') (hB:g<B):aL w' g neg num den:=h.of_block (hb.block g hB)
theorem aL.new (w:World) (neg:Bool) (num den:ByteArray):aL (w.alloc (.cells #[.bool neg,.string num,.string den] 32)) w.heap.size neg num den:=by
 exact fP _ _
theorem aL.alloc (h:aL w g neg num den) (o:Obj):aL (w.alloc o) g neg num den:=h.of_block (qg w o g h.lt)
theorem aL.drew (h:aL w g neg num den):aL w.drew g neg num den:=h
theorem aL.facts (h:aL w g neg num den):w.cell? ⟨g,0,none⟩=some (.bool neg)/\w.cell? ⟨g,1,none⟩=some (.string num)/\w.cell? ⟨g,2,none⟩=some (.string den)/\w.frozen? ⟨g,0,none⟩=false/\w.frozen? ⟨g,1,none⟩=false/\w.frozen? ⟨g,2,none⟩=false:=
 ⟨h.c0,h.c1,h.c2,h.fz 0,h.fz 1,h.fz 2⟩
theorem aL.put (h:aL w g neg num den) (n:Bool) (x y:ByteArray):aL (((w.setCell ⟨g,0,none⟩ (.bool n)).setCell ⟨g,1,none⟩ (.string x)).setCell ⟨g,2,none⟩ (.string y)) g n x y:=by
 have h1:=jX w g 0 _ _ (.bool n) h;have h2:=jX _ g 1 _ _ (.string x) h1;have h3:=jX _ g 2 _ _ (.string y) h2;exact h3
theorem aL.far (h:aL w g neg num den) (hg:g≠g') (u:Value):aL (w.setCell ⟨g',j,none⟩ u) g neg num den:=h.of_block (iU w _ u g hg)
theorem df {B:Nat} {a:World} (h:Below B a w) (hg:B<=g) (u v x:Value):Below B a (((w.setCell ⟨g,0,none⟩ u).setCell ⟨g,1,none⟩ v).setCell ⟨g,2,none⟩ x):=
 ((h.setCell hg u).setCell hg v).setCell hg x
theorem aL.result (h:aL w g neg num den) {p:Tmp} (hr:fn.results= #[.cell p 32]) (tmps:Array Value) (hp:tmps.getD p undef=.pointer (some ⟨g,0,none⟩)):
  (results fn tmps).run Tryz.prog w=.ok (.agg #[.bool neg,.string num,.string den]) w:=
 EJ hr tmps w g _ _ _ _ hp h Tryz.underlying32 rfl (by kernel_rfl)
theorem Qo (w:World):
  Calls Tryz.prog 140 #[] w fun e w'=>e=.returned (C 0)/\Below w.heap.size w w':=by
 go_enter Tryz.func140,Tryz.ntmps140;have bB:=aL.new w false ⟨#[]⟩ ⟨#[]⟩;have hB0:Below w.heap.size w (w.alloc (.cells #[.bool false,.string ⟨#[]⟩,.string ⟨#[]⟩] 32)):=(aw _ w).alloc (ak _) _;go_wp2_with fail
 refine(acy 1 _ (by omega) (by omega)).ae ?_;rintro e w1 ⟨rfl,hb1⟩;have hB1:Below w.heap.size w w1:=hB0.trans (hb1.ae hB0.size);have hx1:=bB.aa hb1 bB.lt;obtain⟨k0,k1,k2,f0,f1,f2⟩:=hx1.facts;clear bB hB0;go_wp2;refine dh ((hx1.put _ _ _).result rfl _ rfl) rfl ?_;exact⟨by rw[Ck],df hB1 (ak _) _ _ _⟩
abbrev FC (n:Bool) (x y:ByteArray):Obj:=.cells #[.bool n,.string x,.string y] 32
theorem aL.at (hg:w.heap.size=g) (n:Bool) (x y:ByteArray):aL (w.alloc (FC n x y)) g n x y:=by
 subst hg;exact aL.new w n x y
theorem agF (n:Bool) (x y:ByteArray) (w:World):
  Calls Tryz.prog 107 #[.agg #[.bool n,.string x,.string y]] w fun e w'=>e=.returned (.agg #[.bool (!n),.string x,.string y])/\Below w.heap.size w w':=by
 go_enter Tryz.func107,Tryz.ntmps107;go_wp2;refine dh ((aL.at (w:=w.alloc (FC n x y)) (g:=w.heap.size+1) (by simp) (!n) x y).result rfl _ rfl) rfl ?_;exact⟨rfl,((aw _ w).alloc (ak _) _).alloc (by simp) _⟩
theorem akS (n:Bool) (x y:ByteArray) (w:World) (h:N y=0):
  Calls Tryz.prog 162 #[.agg #[.bool n,.string x,.string y]] w fun e w'=>e=.returned (C 0)/\Below w.heap.size w w':=by
 have hN:=fun V=>CT y V;simp only[h,decide_true] at hN;have HN:=aF hN;clear hN;go_enter Tryz.func162,Tryz.ntmps162;have bB:=aL.at (w:=w.alloc (FC n x y)) (g:=w.heap.size+1) (by simp) false ⟨#[]⟩ ⟨#[]⟩;have hB0:Below w.heap.size w ((w.alloc (FC n x y)).alloc (FC false ⟨#[]⟩ ⟨#[]⟩)):=((aw _ w).alloc (ak _) _).alloc (by simp) _;go_wp2_with fail
 refine(HN.o _).ae ?_;rintro e w1 ⟨rfl,hw⟩;subst hw;go_wp2_with fail
 refine(Qo _).ae ?_;rintro e w1 ⟨rfl,hb1⟩;have hx1:=bB.aa hb1 bB.lt;have hB1:Below w.heap.size w w1:=hB0.trans (hb1.ae hB0.size);obtain⟨k0,k1,k2,f0,f1,f2⟩:=hx1.facts;clear bB hB0;rw[Ck];go_wp2;refine dh ((hx1.put _ _ _).result rfl _ rfl) rfl ?_;exact⟨by rw[Ck],df hB1 (by omega) _ _ _⟩
theorem akR (n:Bool) (x y:ByteArray) (w:World) (h:N y≠0):
  Calls Tryz.prog 162 #[.agg #[.bool n,.string x,.string y]] w fun e w'=>e=.returned (.agg #[.bool n,.string x,.string y])/\Below w.heap.size w w':=by
 have hN:=fun V=>CT y V;simp only[h,decide_false] at hN;have HN:=aF hN;clear hN;go_enter Tryz.func162,Tryz.ntmps162;go_wp2_with fail
 refine(HN.o _).ae ?_;rintro e w1 ⟨rfl,hw⟩;subst hw;go_wp2;refine dh ((aL.at (w:=w.alloc (FC n x y)) (g:=w.heap.size+1) (by simp) n x y).result rfl _ rfl) rfl ?_;exact⟨rfl,((aw _ w).alloc (ak _) _).alloc (by simp) _⟩
theorem amn (n:Bool) (x y:ByteArray) (w:World) (h:N x=0∨N y=0):
  Calls Tryz.prog 109 #[.bool n,.string x,.string y] w fun e w'=>e=.returned (C 0)/\Below w.heap.size w w':=by
 have hX:=fun V=>CT x V;have hY:=fun V=>CT y V;have HX:=aF hX;have HY:=aF hY;clear hX hY;go_enter Tryz.func109,Tryz.ntmps109;have bB:=aL.at (w:=w) rfl false ⟨#[]⟩ ⟨#[]⟩;have hB0:Below w.heap.size w (w.alloc (FC false ⟨#[]⟩ ⟨#[]⟩)):=(aw _ w).alloc (ak _) _;by_cases h0:N x=0
 focus
  go_wp2_with fail
  refine(HX.o _).ae ?_;rintro e w1 ⟨rfl,hw⟩;subst hw;rw[bT h0]
 rotate_left
 focus
  have h1:N y=0:=h.resolve_left h0;go_wp2_with fail
  refine(HX.o _).ae ?_;rintro e w1 ⟨rfl,hw⟩;subst hw;rw[cj h0];go_wp2_with fail
  refine(HY.o _).ae ?_;rintro e w1 ⟨rfl,hw⟩;subst hw;rw[bT h1]
 all_goals
  go_wp2_with fail
  refine(Qo _).ae ?_;rintro e w1 ⟨rfl,hb1⟩;have hx1:=bB.aa hb1 bB.lt;have hB1:Below w.heap.size w w1:=hB0.trans (hb1.ae hB0.size);obtain⟨k0,k1,k2,f0,f1,f2⟩:=hx1.facts;clear bB hB0;rw[Ck];go_wp2;refine dh ((hx1.put _ _ _).result rfl _ rfl) rfl ?_;exact⟨by rw[Ck],df hB1 (by omega) _ _ _⟩
theorem amo (n:Bool) (x y:ByteArray) (w:World) (h0:N x≠0) (h1:N y≠0) (hx:x.size<=1099511627776) (hy:y.size<=1099511627776):
  Calls Tryz.prog 109 #[.bool n,.string x,.string y] w fun e w'=>e=.returned (C (val n x y))/\Below w.heap.size w w':=by
 have hX:=fun V=>CT x V;have hY:=fun V=>CT y V;have HX:=aF hX;have HY:=aF hY;have fQ:Nat.gcd (N x) (N y)≠0:=fun h=>h0 (Nat.gcd_eq_zero_iff.1 h).1;have PE:=aM (j7 (Nat.gcd_le_left (N y) (jY h0))) (iu x);clear hX hY;go_enter Tryz.func109,Tryz.ntmps109;have bB:=aL.at (w:=w) rfl false ⟨#[]⟩ ⟨#[]⟩;have hB0:Below w.heap.size w (w.alloc (FC false ⟨#[]⟩ ⟨#[]⟩)):=(aw _ w).alloc (ak _) _;go_wp2_with fail
 refine(HX.o _).ae ?_;rintro e w1 ⟨rfl,hw⟩;subst hw;rw[cj h0];go_wp2_with fail
 refine(HY.o _).ae ?_;rintro e w1 ⟨rfl,hw⟩;subst hw;rw[cj h1];have hB:=aw (w.alloc (FC false ⟨#[]⟩ ⟨#[]⟩)).heap.size (w.alloc (FC false ⟨#[]⟩ ⟨#[]⟩));go_wp2_with fail
 refine(amS (Nat.gcd (N x) (N y)) hB rfl hx hy).ae ?_;rintro e w1 ⟨rfl,hB⟩;go_wp2_with fail
 refine(ac3 (N x/Nat.gcd (N x) (N y)) 0 hB (by rw[cO]) (by rw[cO];exact Nat.mod_eq_zero_of_dvd (Nat.gcd_dvd_left _ _)) (by rw[cO];exact fQ) hx (by omega)).ae ?_;rintro e w1 ⟨rfl,hB⟩;go_wp2_with fail
 refine(ac3 (N y/Nat.gcd (N x) (N y)) 0 hB (by rw[cO]) (by rw[cO];exact Nat.mod_eq_zero_of_dvd (Nat.gcd_dvd_right _ _)) (by rw[cO];exact fQ) hy (by omega)).ae ?_;rintro e w1 ⟨rfl,hb1⟩;have hx1:=bB.aa hb1 bB.lt;have hB1:Below w.heap.size w w1:=hB0.trans (hb1.ae hB0.size);obtain⟨k0,k1,k2,f0,f1,f2⟩:=hx1.facts;clear bB hB0;go_wp2;refine dh ((hx1.put _ _ _).result rfl _ rfl) rfl ?_;exact⟨by rw[val,OE n _ _ h0 h1],df hB1 (by omega) _ _ _⟩
theorem NA (n:Bool) (x y:ByteArray) (w:World) (hx:x.size<=1099511627776) (hy:y.size<=1099511627776):
  Calls Tryz.prog 109 #[.bool n,.string x,.string y] w fun e w'=>e=.returned (C (val n x y))/\Below w.heap.size w w':=by
 by_cases h:N x=0∨N y=0
 ·have:=amn n x y w h;rwa [<- Vy.2 h] at this
 ·exact amo n x y w (fun e=>h (.inl e)) (fun e=>h (.inr e)) hx hy
theorem abA (n:Bool) (x y:ByteArray) (hx:x.size<=1099511627776) (hy:y.size<=1099511627776):∃(n':Bool) (x' y':ByteArray),N y'≠0/\val n' x' y'=val n x y/\x'.size<=1099511627776/\y'.size<=1099511627776/\x'.size+y'.size<=x.size+y.size+1/\∀V:World,
  Calls Tryz.prog 162 #[.agg #[.bool n,.string x,.string y]] V fun e w'=>e=.returned (.agg #[.bool n',.string x',.string y'])/\Below V.heap.size V w':=by
 have h1:=OG;by_cases h:N y=0
 ·refine⟨false,⟨#[]⟩,B 1,by rw[cO];decide,?_,?_,?_,?_,fun V=>?_⟩
  ·rw[Vz acz,Hk h]
  ·show 0<=_;omega
  ·omega
  ·show 0+_<=_;omega
  ·have:=akS n x y V h;rwa [Ck] at this
 ·exact⟨n,x,y,h,rfl,hx,hy,by omega,fun V=>akR n x y V h⟩
theorem aeO (a:Bool) (m n:Nat):sg a (m+n)=sg a m+sg a n:=by cases a<;>simp[sg,Int.neg_add]
theorem aeJ {a b:Bool} (h:¬a=b) (e:m=n+k):sg a k=sg a m+sg b n:=by
 cases a<;>cases b<;>simp[sg] at h⊢<;>omega
theorem aeI {a b:Bool} (h:¬a=b) (e:n=m+k):sg b k=sg a m+sg b n:=by
 cases a<;>cases b<;>simp[sg] at h⊢<;>omega
theorem Yk {n:Bool} {x y:ByteArray} (h1:aL w' g n x y) (h3:Below w.heap.size w w'):w'.cell? ⟨g,0,none⟩=some (.bool n)/\Hid (aL w' g n x y/\Below w.heap.size w w'):=
 ⟨h1.c0,h1,h3⟩
theorem Ph {h:Nat} {n m:Bool} {x y u v:ByteArray} (h1:aL w' g n x y) (h2:aL w' h m u v) (h3:Below w.heap.size w w'):(w'.cell? ⟨g,1,none⟩=some (.string x)/\w'.cell? ⟨g,2,none⟩=some (.string y)/\w'.cell? ⟨h,1,none⟩=some (.string u)/\w'.cell? ⟨h,2,none⟩=some (.string v))/\Hid (aL w' g n x y/\aL w' h m u v/\Below w.heap.size w w'):=
 ⟨⟨h1.c1,h1.c2,h2.c1,h2.c2⟩,h1,h2,h3⟩
theorem VS (na nb:Bool) (xa ya xb yb:ByteArray) (w:World) (CZ:xa.size<=137438953472) (CX:ya.size<=137438953472) (hxb:xb.size<=137438953472) (hyb:yb.size<=137438953472):
  Calls Tryz.prog 106 #[.agg #[.bool na,.string xa,.string ya],.agg #[.bool nb,.string xb,.string yb]] w fun e w'=>
   ∃(n:Bool) (x d:Nat),e=.returned (.tuple #[.bool n,.string (B x),.string (B d)])/\d≠0/\mkRat (sg n x) d=val na xa ya+val nb xb yb/\(B x).size<=1099511627776/\(B d).size<=1099511627776/\Below w.heap.size w w':=by
 obtain⟨wI,kH,iw,CW,sZ,sxa,V9,ssa,HA⟩:=abA na xa ya (by omega) (by omega);obtain⟨CP,lj,iI,CV,mr,sxb,V8,ssb,HB⟩:=abA nb xb yb (by omega) (by omega);have OC:=aF HA;have bq:=aF HB;clear HA HB;go_enter Tryz.func106,Tryz.ntmps106;have il:=((aL.at (w:=w) rfl na xa ya).alloc (FC nb xb yb)).drew;have gO:=(aL.at (w:=w.alloc (FC na xa ya)) (g:=w.heap.size+1) (by simp) nb xb yb).drew;have hB0:Below w.heap.size w ((w.alloc (FC na xa ya)).alloc (FC nb xb yb)).drew:=(((aw _ w).alloc (ak _) _).alloc (by simp) _).drew;go_upto_region 1 with fail
 go_cut [] from 11 to 14 (fun wx=>aL wx w.heap.size wI kH iw/\aL wx (w.heap.size+1) CP lj iI/\Below w.heap.size w wx)
 case first=>
  go_region_with (first
   |(have uH:=mD;go_at_call 162;refine(bq.o _).ae ?_;rintro e w2 ⟨rfl,hb2⟩;have oW:=aL.aa uH hb2 uH.lt;have nZ:=aL.aa ja hb2 ja.lt;have hB2:=hB1.trans (hb2.ae hB1.size);obtain⟨k0,k1,k2,f0,f1,f2⟩:=oW.facts;obtain⟨j0,j1,j2,i0,i1,i2⟩:=nZ.facts)
   |(go_at_call 162;refine(OC.o _).ae ?_;rintro e w1 ⟨rfl,hb1⟩;have mD:=aL.aa il hb1 il.lt;have ja:=aL.aa gO hb1 gO.lt;have hB1:=hB0.trans (hb1.ae hB0.size);obtain⟨k0,k1,k2,f0,f1,f2⟩:=mD.facts;obtain⟨j0,j1,j2,i0,i1,i2⟩:=ja.facts))
  all_goals go_wp2_with fail
  all_goals go_meet
  all_goals exact⟨((((oW.put _ _ _).far (by omega) _).far (by omega) _).far (by omega) _),(((nZ.far (by omega) _).far (by omega) _).far (by omega) _).put _ _ _,df (df hB2 (ak _) _ _ _) (by omega) _ _ _⟩
 case rest=>
  obtain⟨il,gO,hB⟩:=hcut;obtain⟨k0,k1,k2,f0,f1,f2⟩:=il.facts;obtain⟨j0,j1,j2,i0,i1,i2⟩:=gO.facts;clear OC bq;have sla:=wy (N kH) (N iI);have slb:=wy (N lj) (N iw);have sld:=wy (N iw) (N iI);have b1:=iu kH;have b2:=iu iw;have b3:=iu lj;have b4:=iu iI;go_upto_region 2 with fail
  go_cut [7,8] from 15 to 24 (fun s7 s8 wx=>s7=.string (B (N kH*N iI))/\s8=.string (B (N lj*N iw))/\aL wx w.heap.size wI kH iw/\aL wx (w.heap.size+1) CP lj iI/\Below w.heap.size w wx)
  case first=>
   clear sZ mr CW CV ssa ssb b1 b2 b3 b4 sla slb sld k0 k1 k2 f0 f1 f2 j0 j1 j2 i0 i1 i2 CZ CX hxb hyb
   go_region_held3 (fun w'=>(w'.cell? ⟨w.heap.size,1,none⟩=some (.string kH)/\w'.cell? ⟨w.heap.size,2,none⟩=some (.string iw)/\w'.cell? ⟨w.heap.size+1,1,none⟩=some (.string lj)/\w'.cell? ⟨w.heap.size+1,2,none⟩=some (.string iI))/\Hid (aL w' w.heap.size wI kH iw/\aL w' (w.heap.size+1) CP lj iI/\Below w.heap.size w w'))
    (first |exact Ph oW nZ hB2 |exact Ph mD ja hB1 |exact Ph il.drew gO.drew hB.drew)
    (first
     |(have uH:=mD;go_at_call 142;refine(JV lj iw _ sxb V9).ae ?_;rintro e w2 ⟨rfl,hb2⟩;have oW:=uH.aa hb2 uH.lt;have nZ:=ja.aa hb2 ja.lt;have hB2:=hB1.trans (hb2.ae hB1.size))
     |(go_at_call 142;refine(JV kH iI _ sxa V8).ae ?_;rintro e w1 ⟨rfl,hb1⟩;have mD:=il.drew.aa hb1 il.lt;have ja:=gO.drew.aa hb1 gO.lt;have hB1:=hB.drew.trans (hb1.ae hB.size)))
   go_wp2_with fail
   go_meet
   exact⟨rfl,rfl,oW,nZ,hB2⟩
  case rest=>
   obtain⟨rfl,rfl,il,gO,hB⟩:=hcut;obtain⟨k0,k1,k2,f0,f1,f2⟩:=il.facts;obtain⟨j0,j1,j2,i0,i1,i2⟩:=gO.facts;go_wp2_with fail
   refine(JV iw iI _ V9 V8).ae ?_;rintro e w3 ⟨rfl,hb3⟩;have rR:=il.aa hb3 il.lt;have wY:=gO.aa hb3 gO.lt;have bV:=hB.trans (hb3.ae hB.size);clear il gO hB k0 k1 k2 f0 f1 f2 j0 j1 j2 i0 i1 i2 hb3;obtain⟨k0,k1,k2,f0,f1,f2⟩:=rR.facts;obtain⟨j0,j1,j2,i0,i1,i2⟩:=wY.facts;(have sl:(B (N kH*N iI)).size<=1099511627776:=by omega);(have sr:(B (N lj*N iw)).size<=1099511627776:=by omega);(have sd:(B (N iw*N iI)).size<=1099511627776:=by omega);have sa:=aed (N kH*N iI) (N lj*N iw);have sm:=j7 (Nat.sub_le (N kH*N iI) (N lj*N iw));have sn:=j7 (Nat.sub_le (N lj*N iw) (N kH*N iI));by_cases hn:wI=CP
   ·subst hn;go_upto_region 5 with fail
    go_region_held3 (fun w'=>w'.cell? ⟨w.heap.size,0,none⟩=some (.bool wI)/\Hid (aL w' w.heap.size wI kH iw/\Below w.heap.size w w'))
     (first |exact Yk RZ dO |exact Yk rR.drew bV.drew)
     (first
      |(go_at_call 111;refine(amX _ _ _ sl sr).ae ?_;rintro e w4 ⟨rfl,hb4⟩;have RZ:=rR.drew.aa hb4 rR.lt;have dO:=bV.drew.trans (hb4.ae bV.size)))
    go_wp2;go_ret3
    refine⟨wI,N kH*N iI+N lj*N iw,N iw*N iI,by rw[cO,cO];rfl,Cq CW CV,?_,by omega,by omega,dO⟩;rw[<- sZ, <- mr,aeO,val_add _ _ _ _ _ _ CW CV]
   ·have hB':=aw w3.heap.size w3;(have eO:(wI==CP)=false:=by simp[hn]);have iD:decide (wI=CP)=false:=cj hn;by_cases hle:N lj*N iw<=N kH*N iI
    ·go_wp2_with fail
     refine(acv (N kH*N iI - N lj*N iw) hB' (by rw[cO,cO];omega) sl sr).ae ?_;rintro e w4 ⟨rfl,hb4⟩;have RZ:=rR.aa hb4 rR.lt;have dO:=bV.trans (hb4.ae bV.size);obtain⟨k0,k1,k2,f0,f1,f2⟩:=RZ.facts;go_wp2;go_ret3
     refine⟨wI,N kH*N iI - N lj*N iw,N iw*N iI,rfl,Cq CW CV,?_,by omega,by omega,dO⟩;rw[<- sZ, <- mr,aeJ hn (m:=N kH*N iI) (n:=N lj*N iw) (by omega),val_add _ _ _ _ _ _ CW CV]
    ·go_wp2_with fail
     refine(amh hB' (by rw[cO,cO];omega)).ae ?_;rintro e w4 ⟨rfl,hb4⟩;have aaM:=wY.aa hb4 wY.lt;have dO:=bV.trans (hb4.ae bV.size);have ajD:=aw w4.heap.size w4;go_wp2_with fail
     refine(acv (N lj*N iw - N kH*N iI) ajD (by rw[cO,cO];omega) sr sl).ae ?_;rintro e w5 ⟨rfl,hb5⟩;have ajw:=aaM.aa hb5 aaM.lt;have DX:=dO.trans (hb5.ae dO.size);obtain⟨j0,j1,j2,i0,i1,i2⟩:=ajw.facts;go_wp2;go_ret3
     refine⟨CP,N lj*N iw - N kH*N iI,N iw*N iI,rfl,Cq CW CV,?_,by omega,by omega,DX⟩;rw[<- sZ, <- mr,aeI hn (m:=N kH*N iI) (n:=N lj*N iw) (by omega),val_add _ _ _ _ _ _ CW CV]
def cI (q:Rat):Bool:=decide (q.num<0)
def nu (q:Rat):ByteArray:=B q.num.natAbs
def de (q:Rat):ByteArray:=B q.den
theorem sJ (q:Rat):C q=.agg #[.bool (cI q),.string (nu q),.string (de q)]:=rfl
theorem rF (q:Rat):val (cI q) (nu q) (de q)=q:=adI q
theorem sU (q:Rat):(nu q).size+(de q).size=qw q:=rfl
theorem amW (n:Bool) (x y:ByteArray) (w:World) (hx:x.size<=1099511627776) (hy:y.size<=1099511627776):
  Calls Tryz.prog 103 #[.agg #[.bool n,.string x,.string y]] w fun e w'=>e=.returned (C (val n x y))/\Below w.heap.size w w':=by
 go_enter Tryz.func103,Tryz.ntmps103;have bB:=aL.at (w:=w.alloc (FC n x y)) (g:=w.heap.size+1) (by simp) false ⟨#[]⟩ ⟨#[]⟩;have hB0:Below w.heap.size w ((w.alloc (FC n x y)).alloc (FC false ⟨#[]⟩ ⟨#[]⟩)):=((aw _ w).alloc (ak _) _).alloc (by simp) _;go_wp2_with fail
 refine(NA n x y _ hx hy).ae ?_;rintro e w1 ⟨rfl,hb1⟩;have hx1:=bB.aa hb1 bB.lt;have hB1:Below w.heap.size w w1:=hB0.trans (hb1.ae hB0.size);obtain⟨k0,k1,k2,f0,f1,f2⟩:=hx1.facts;clear bB hB0;rw[sJ];go_wp2;refine dh ((hx1.put _ _ _).result rfl _ rfl) rfl ?_;exact⟨rfl,df hB1 (by omega) _ _ _⟩
theorem abr (na nb:Bool) (xa ya xb yb:ByteArray) (w:World) (CZ:xa.size<=137438953472) (CX:ya.size<=137438953472) (hxb:xb.size<=137438953472) (hyb:yb.size<=137438953472):
  Calls Tryz.prog 141 #[.agg #[.bool na,.string xa,.string ya],.agg #[.bool nb,.string xb,.string yb]] w fun e w'=>e=.returned (C (val na xa ya+val nb xb yb))/\Below w.heap.size w w':=by
 go_enter Tryz.func141,Tryz.ntmps141;have bB:=aL.at (w:=(w.alloc (FC na xa ya)).alloc (FC nb xb yb)) (g:=w.heap.size+2) (by simp) false ⟨#[]⟩ ⟨#[]⟩;have hB0:Below w.heap.size w (((w.alloc (FC na xa ya)).alloc (FC nb xb yb)).alloc (FC false ⟨#[]⟩ ⟨#[]⟩)):=(((aw _ w).alloc (ak _) _).alloc (by simp) _).alloc (by simp;omega) _;go_wp2_with fail
 refine(VS na nb xa ya xb yb _ CZ CX hxb hyb).ae ?_;rintro e w1 ⟨n,x,d,rfl,hd,hv,sx,sd,hb1⟩;have hx1:=bB.aa hb1 bB.lt;have hB1:Below w.heap.size w w1:=hB0.trans (hb1.ae hB0.size);clear bB hB0;go_wp2_with fail
 refine(NA n (B x) (B d) _ sx sd).ae ?_;rintro e w2 ⟨rfl,hb2⟩;have hx2:=hx1.aa hb2 hx1.lt;have hB2:Below w.heap.size w w2:=hB1.trans (hb2.ae hB1.size);have hq:val n (B x) (B d)=val na xa ya+val nb xb yb:=by rw[<- hv,val,cO,cO]
 rw[hq];clear hx1 hB1 hq hv;obtain⟨k0,k1,k2,f0,f1,f2⟩:=hx2.facts;rw[sJ];go_wp2;refine dh ((hx2.put _ _ _).result rfl _ rfl) rfl ?_;exact⟨rfl,df hB2 (by omega) _ _ _⟩
theorem aL.far3 (h:aL w g neg num den) (hg:g≠g') (u v x:Value):aL (((w.setCell ⟨g',0,none⟩ u).setCell ⟨g',1,none⟩ v).setCell ⟨g',2,none⟩ x) g neg num den:=
 ((h.far hg u).far hg v).far hg x
theorem Av {h:Nat} {n m:Bool} {x y u v:ByteArray} (h1:aL w' g n x y) (h2:aL w' h m u v) (h3:Below w.heap.size w w'):(w'.cell? ⟨g,0,none⟩=some (.bool n)/\w'.cell? ⟨g,1,none⟩=some (.string x)/\w'.cell? ⟨g,2,none⟩=some (.string y)/\w'.cell? ⟨h,0,none⟩=some (.bool m)/\w'.cell? ⟨h,1,none⟩=some (.string u)/\w'.cell? ⟨h,2,none⟩=some (.string v))/\Hid (aL w' g n x y/\aL w' h m u v/\Below w.heap.size w w'):=
 ⟨⟨h1.c0,h1.c1,h1.c2,h2.c0,h2.c1,h2.c2⟩,h1,h2,h3⟩
theorem akG (na nb:Bool) (xa ya xb yb:ByteArray) (w:World) (CZ:xa.size<=137438953472) (CX:ya.size<=137438953472) (hxb:xb.size<=137438953472) (hyb:yb.size<=137438953472):
  Calls Tryz.prog 91 #[.agg #[.bool na,.string xa,.string ya],.agg #[.bool nb,.string xb,.string yb]] w fun e w'=>e=.returned (C (val na xa ya*val nb xb yb))/\Below w.heap.size w w':=by
 have sx:(B (N xa*N xb)).size<=1099511627776:=by have:=wy (N xa) (N xb);have:=iu xa;have:=iu xb;omega
 have sy:(B (N ya*N yb)).size<=1099511627776:=by have:=wy (N ya) (N yb);have:=iu ya;have:=iu yb;omega
 have hq:val (na !=nb) (B (N xa*N xb)) (B (N ya*N yb))=val na xa ya*val nb xb yb:=by rw[<- val_mul,val,cO,cO]
 have HQ:=aF hq;clear hq;have aiD:xa.size<=1099511627776:=by omega
 have aiA:ya.size<=1099511627776:=by omega
 have aiC:xb.size<=1099511627776:=by omega
 have aiz:yb.size<=1099511627776:=by omega
 clear CZ CX hxb hyb;go_enter Tryz.func91,Tryz.ntmps91;have il:=(((aL.at (w:=w) rfl na xa ya).alloc (FC nb xb yb)).alloc (FC false ⟨#[]⟩ ⟨#[]⟩)).drew;have gO:=((aL.at (w:=w.alloc (FC na xa ya)) (g:=w.heap.size+1) (by simp) nb xb yb).alloc (FC false ⟨#[]⟩ ⟨#[]⟩)).drew;have hbr:=(aL.at (w:=(w.alloc (FC na xa ya)).alloc (FC nb xb yb)) (g:=w.heap.size+2) (by simp) false ⟨#[]⟩ ⟨#[]⟩).drew;have hB0:Below w.heap.size w (((w.alloc (FC na xa ya)).alloc (FC nb xb yb)).alloc (FC false ⟨#[]⟩ ⟨#[]⟩)).drew:=((((aw _ w).alloc (ak _) _).alloc (by simp) _).alloc (by simp;omega) _).drew;go_upto_region 1 with fail
 go_region_held3 (fun w'=>(w'.cell? ⟨w.heap.size,0,none⟩=some (.bool na)/\w'.cell? ⟨w.heap.size,1,none⟩=some (.string xa)/\w'.cell? ⟨w.heap.size,2,none⟩=some (.string ya)/\w'.cell? ⟨w.heap.size+1,0,none⟩=some (.bool nb)/\w'.cell? ⟨w.heap.size+1,1,none⟩=some (.string xb)/\w'.cell? ⟨w.heap.size+1,2,none⟩=some (.string yb))/\Hid (aL w' w.heap.size na xa ya/\aL w' (w.heap.size+1) nb xb yb/\Below w.heap.size w w'))
  (first
   |exact Av (rR.far3 (by omega) _ _ _) (wY.far3 (by omega) _ _ _) (df bV (by omega) _ _ _)
   |exact Av rR wY bV |exact Av oW nZ hB2 |exact Av mD ja hB1 |exact Av il gO hB0)
  (first
   |(have aaN:=oW;go_at_call 109;refine(NA _ _ _ _ sx sy).ae ?_;rintro e w3 ⟨rfl,hb3⟩;have rR:=aaN.aa hb3 aaN.lt;have wY:=nZ.aa hb3 nZ.lt;have Bc:=Bd.aa hb3 Bd.lt;have bV:=hB2.trans (hb3.ae hB2.size);obtain⟨k0,k1,k2,f0,f1,f2⟩:=Bc.facts;rw[sJ])
   |(have uH:=mD;go_at_call 142;refine(JV ya yb _ aiA aiz).ae ?_;rintro e w2 ⟨rfl,hb2⟩;have oW:=uH.aa hb2 uH.lt;have nZ:=ja.aa hb2 ja.lt;have Bd:=oU.aa hb2 oU.lt;have hB2:=hB1.trans (hb2.ae hB1.size))
   |(go_at_call 142;refine(JV xa xb _ aiD aiC).ae ?_;rintro e w1 ⟨rfl,hb1⟩;have mD:=il.aa hb1 il.lt;have ja:=gO.aa hb1 gO.lt;have oU:=hbr.aa hb1 hbr.lt;have hB1:=hB0.trans (hb1.ae hB0.size)))
 go_wp2;refine dh ((Bc.put _ _ _).result rfl _ rfl) rfl ?_;exact⟨by rw[<- HQ.o];rfl,df bV (by omega) _ _ _⟩
variable {p q:Rat}
theorem aL.result2 (h:aL w g neg num den) {p u:Tmp} (hr:fn.results= #[.cell p 32,.tmp u]) (tmps:Array Value) (hp:tmps.getD p undef=.pointer (some ⟨g,0,none⟩)):
  (results fn tmps).run Tryz.prog w=.ok (.tuple #[.agg #[.bool neg,.string num,.string den],tmps.getD u undef]) w:=by
 rw[results_cell_tmp hr,hp];simp only[asAddr,vN,tY];rw[run_loadVar_row w g _ 32 _ _ _ h Tryz.underlying32 rfl (by kernel_rfl)];simp only[tY]
theorem alf {n:Bool} {x:Nat} (hd:d≠0) (h:mkRat (sg n x) d=p - q):jd p q=if x=0 then 0 else if n=true then -1 else 1:=by
 by_cases hx:x=0
 ·rw[aB hx];rw[hx,WJ,KO] at h;have:p=q:=by grind
  subst this;rw[jd,aD (by grind),aB rfl]
 ·rw[aD hx];obtain⟨h1,h2⟩:=ahI n x d hd hx;cases n
  ·have:=h2 rfl;rw[h] at this;rw[aD (by decide),jd,aD (by grind),aD (by grind)]
  ·have:=h1 rfl;rw[h] at this;rw[aB rfl,jd,aB (by grind)]
theorem akH (na nb:Bool) (xa ya xb yb:ByteArray) (w:World) (CZ:xa.size<=137438953472) (CX:ya.size<=137438953472) (hxb:xb.size<=137438953472) (hyb:yb.size<=137438953472):
  Calls Tryz.prog 52 #[.agg #[.bool na,.string xa,.string ya],.agg #[.bool nb,.string xb,.string yb]] w fun e w'=>e=.returned (.int .i64 (jd (val na xa ya) (val nb xb yb)))/\Below w.heap.size w w':=by
 have hq:val na xa ya+val (!nb) xb yb=val na xa ya - val nb xb yb:=by rw[adG,Rat.sub_eq_add_neg]
 have HQ:=aF hq;clear hq;go_enter Tryz.func52,Tryz.ntmps52;have il:=((aL.at (w:=w) rfl na xa ya).alloc (FC nb xb yb)).drew;have gO:=(aL.at (w:=w.alloc (FC na xa ya)) (g:=w.heap.size+1) (by simp) nb xb yb).drew;have hB0:Below w.heap.size w ((w.alloc (FC na xa ya)).alloc (FC nb xb yb)).drew:=(((aw _ w).alloc (ak _) _).alloc (by simp) _).drew;go_upto_region 1 with fail
 go_region_held3 (fun w'=>(w'.cell? ⟨w.heap.size,0,none⟩=some (.bool na)/\w'.cell? ⟨w.heap.size,1,none⟩=some (.string xa)/\w'.cell? ⟨w.heap.size,2,none⟩=some (.string ya)/\w'.cell? ⟨w.heap.size+1,0,none⟩=some (.bool nb)/\w'.cell? ⟨w.heap.size+1,1,none⟩=some (.string xb)/\w'.cell? ⟨w.heap.size+1,2,none⟩=some (.string yb))/\Hid (aL w' w.heap.size na xa ya/\aL w' (w.heap.size+1) nb xb yb/\Below w.heap.size w w'))
  (first
   |exact Av oW nZ hB2 |exact Av mD ja hB1 |exact Av il gO hB0)
  (first
   |(have uH:=mD;go_at_call 106;refine(VS na (!nb) xa ya xb yb _ CZ CX hxb hyb).ae ?_;rintro e w2 ⟨n,x,d,rfl,hd,hv,sx,sd,hb2⟩;have oW:=uH.aa hb2 uH.lt;have nZ:=ja.aa hb2 ja.lt;have hB2:=hB1.trans (hb2.ae hB1.size);have RU:=aF (alf hd (hv.trans HQ.o));clear hv)
   |(go_at_call 107;refine(agF nb xb yb _).ae ?_;rintro e w1 ⟨rfl,hb1⟩;have mD:=il.aa hb1 il.lt;have ja:=gO.aa hb1 gO.lt;have hB1:=hB0.trans (hb1.ae hB0.size)))
 have hN:∀V:World,Calls Tryz.prog 108 #[.string (B x)] V fun e w'=>e=.returned (.bool (decide (x=0)))/\w'=V:=fun V=>by
  have:=CT (B x) V;rwa [cO] at this
 have HN:=aF hN;clear hN;go_wp2_with fail
 refine(HN.o _).ae ?_;rintro e w3 ⟨rfl,hw⟩;subst hw;by_cases h0:x=0
 ·rw[bT h0];go_wp2;go_ret;exact⟨by rw[RU.o,aB h0];rfl,hB2⟩
 ·rw[cj h0];cases n
  ·go_wp2;go_ret;exact⟨by rw[RU.o,aD h0];rfl,hB2⟩
  ·go_wp2;go_ret;exact⟨by rw[RU.o,aD h0];rfl,hB2⟩
theorem akE (n:Nat) (w:World) (h:n<=9223372036854775807):
  Calls Tryz.prog 53 #[.int .i64 (n:Int)] w fun e w'=>e=.returned (C (n:Rat))/\Below w.heap.size w w':=by
 have hq:val false (B n) (B 1)=(n:Rat):=by
  rw[val,cO,cO];show mkRat (n:Int) 1=_;rw[Rat.mkRat_one];rfl
 have s1:=OG
 have s2:(B n).size<=1099511627776:=by
  have:=oZ 8 n (by show n<18446744073709551616;omega);rw[<- kX n] at this;omega
 go_enter Tryz.func53,Tryz.ntmps53;have hbr:=aL.at (w:=w) rfl false ⟨#[]⟩ ⟨#[]⟩;have hB0:Below w.heap.size w (w.alloc (FC false ⟨#[]⟩ ⟨#[]⟩)):=(aw _ w).alloc (ak _) _;have hB:=aw (w.alloc (FC false ⟨#[]⟩ ⟨#[]⟩)).heap.size (w.alloc (FC false ⟨#[]⟩ ⟨#[]⟩));go_wp2_with fail
 refine(acx n hB rfl (by omega)).ae ?_;rintro e w1 ⟨rfl,hB⟩;go_wp2_with fail
 refine(acx 1 hB rfl (by omega)).ae ?_;rintro e w1 ⟨rfl,hB⟩;go_wp2_with fail
 refine(NA false (B n) (B 1) _ s2 (by omega)).ae ?_;rintro e w2 ⟨rfl,hb2⟩;rw[hq];have hx1:=(hbr.aa hB hbr.lt).aa hb2 (hbr.aa hB hbr.lt).lt;have hB1:Below w.heap.size w w2:=(hB0.trans (hB.ae hB0.size)).trans (hb2.ae (hB0.trans (hB.ae hB0.size)).size);obtain⟨k0,k1,k2,f0,f1,f2⟩:=hx1.facts;clear hbr hB0 hB;rw[sJ];go_wp2;refine dh ((hx1.put _ _ _).result rfl _ rfl) rfl ?_;exact⟨rfl,df hB1 (by omega) _ _ _⟩
theorem below_drewN {B:Nat} {a b:World} (h:Below B a b) (k:Nat):Below B a (b.drewN k):=⟨h.os,h.tape,h.output,h.size,h.block⟩
theorem akI {n m:Bool} {x y u v:ByteArray} (r:Rat) (hp:val n x y=p) (hq:val m u v=q) (h:p+q=r) (s1:x.size+y.size<=100000) (s2:u.size+v.size<=100000):
  Calls Tryz.prog 141 #[.agg #[.bool n,.string x,.string y],.agg #[.bool m,.string u,.string v]] w fun e w'=>e=.returned (.agg #[.bool (cI r),.string (nu r),.string (de r)])/\Below w.heap.size w w':=by
 subst hp hq h;exact abr n m x y u v w (by omega) (by omega) (by omega) (by omega)
theorem akF {n m:Bool} {x y u v:ByteArray} (r:Rat) (hp:val n x y=p) (hq:val m u v=q) (h:p*q=r) (s1:x.size+y.size<=100000) (s2:u.size+v.size<=100000):
  Calls Tryz.prog 91 #[.agg #[.bool n,.string x,.string y],.agg #[.bool m,.string u,.string v]] w fun e w'=>e=.returned (.agg #[.bool (cI r),.string (nu r),.string (de r)])/\Below w.heap.size w w':=by
 subst hp hq h;exact akG n m x y u v w (by omega) (by omega) (by omega) (by omega)
theorem Tc {n m:Bool} {x y u v:ByteArray} (k:Int) (hp:val n x y=p) (hq:val m u v=q) (h:jd p q=k) (s1:x.size+y.size<=100000) (s2:u.size+v.size<=100000):
  Calls Tryz.prog 52 #[.agg #[.bool n,.string x,.string y],.agg #[.bool m,.string u,.string v]] w fun e w'=>e=.returned (.int .i64 k)/\Below w.heap.size w w':=by
 subst hp hq h;exact akH n m x y u v w (by omega) (by omega) (by omega) (by omega)
theorem Va {n:Bool} {x y:ByteArray} (r:Rat) (hp:val n x y=r) (s1:x.size+y.size<=100000):
  Calls Tryz.prog 103 #[.agg #[.bool n,.string x,.string y]] w fun e w'=>e=.returned (.agg #[.bool (cI r),.string (nu r),.string (de r)])/\Below w.heap.size w w':=by
 subst hp;exact amW n x y w (by omega) (by omega)
theorem Ta {k:Int} (r:Rat) (n:Nat) (hk:k=(n:Int)) (hn:n<=1) (h:(n:Rat)=r):
  Calls Tryz.prog 53 #[.int .i64 k] w fun e w'=>e=.returned (.agg #[.bool (cI r),.string (nu r),.string (de r)])/\Below w.heap.size w w':=by
 subst h hk;exact akE n w (by omega)
theorem KF:B 1=⟨#[1]⟩:=by
 rw[B,om 1 (by decide),show 1/256=0 from rfl,oh];rfl
theorem ag1 (h:¬n=1):((B n).toList==[1])=false:=EL.2 fun e=>h (ac5 (by
 rw[KF];rw[Lib.toList_data] at e;exact K2 (K3.1 e)))
theorem afk (n:Bool) (x y:ByteArray) (w:World) (h:N x=0∨N y=0) (hx:x.size<=500000) (hy:y.size<=500000):
  Calls Tryz.prog 70 #[.bool n,.string x,.string y] w fun e w'=>e=.returned (C 0)/\Below w.heap.size w w':=by
 have HX:=aF (fun V=>lu x V (by omega));have HY:=aF (fun V=>lu y V (by omega));go_enter Tryz.func70,Tryz.ntmps70;by_cases h0:N x=0
 focus
  rw[h0,x4] at HX
 rotate_left
 focus
  have h1:N y=0:=h.resolve_left h0;have hne:=zW h0;rw[h1,x4] at HY
 all_goals
  go_wp2_with fail
  refine(HX.o _).ae ?_;rintro e w1 ⟨rfl,hw⟩;subst hw;go_wp2_with fail
  refine(HY.o _).ae ?_;rintro e w1 ⟨rfl,hw⟩;subst hw;go_wp2;refine dh ((aL.at (w:=w) rfl false ⟨#[]⟩ ⟨#[1]⟩).result rfl _ rfl) rfl ?_;exact⟨by rw[Ck,KF],(aw _ w).alloc (ak _) _⟩
theorem afl (n:Bool) (x y:ByteArray) (w:World) (h0:N x≠0) (h1:N y≠0) (hx:x.size<=500000) (hy:y.size<=500000):
  Calls Tryz.prog 70 #[.bool n,.string x,.string y] w fun e w'=>e=.returned (C (val n x y))/\Below w.heap.size w w':=by
 have HX:=aF (fun V=>lu x V (by omega));have HY:=aF (fun V=>lu y V (by omega));have HC:=aF (OE n _ _ h0 h1);have sx:=aM (iu x) hx;have sy:=aM (iu y) hy;have hg:=aF (fun V=>afo (B (N x)) (B (N y)) V sx sy);rw[cO,cO] at hg;have PE:=aM (j7 (Nat.gcd_le_left (N y) (jY h0))) sx;have fQ:Nat.gcd (N x) (N y)≠0:=fun h=>h0 (Nat.gcd_eq_zero_iff.1 h).1;have HD1:=aF (fun V=>PO (N x) _ V sx PE fQ);have HD2:=aF (fun V=>PO (N y) _ V sy PE fQ);have ane:=zW h0;have aiV:=zW h1;rw[val];clear h0 h1 fQ;generalize mkRat (sg n (N x)) (N y)=q at *;generalize N x=X at *;generalize N y=Y at *;generalize Nat.gcd X Y=g at *;go_enter Tryz.func70,Tryz.ntmps70;have bB:=aL.at (w:=w) rfl false ⟨#[]⟩ ⟨#[]⟩;have hB0:Below w.heap.size w (w.alloc (FC false ⟨#[]⟩ ⟨#[]⟩)):=(aw _ w).alloc (ak _) _;go_wp2_with fail
 refine(HX.o _).ae ?_;rintro e w1 ⟨rfl,hw⟩;subst hw;go_wp2_with fail
 refine(HY.o _).ae ?_;rintro e w1 ⟨rfl,hw⟩;subst hw;go_wp2_with fail
 refine(hg.o _).ae ?_;rintro e w1 ⟨rfl,hb1⟩;have hx1:=bB.aa hb1 bB.lt;have hB1:Below w.heap.size w w1:=hB0.trans (hb1.ae hB0.size);clear bB hB0 hb1 HX HY hg;by_cases h1:g=1
 ·subst h1;rw[Cs,Cs] at HC;rw[KF];obtain⟨k0,k1,k2,f0,f1,f2⟩:=hx1.facts;go_wp2;refine dh ((hx1.put _ _ _).result rfl _ rfl) rfl ?_;exact⟨by rw[HC.o],df hB1 (by omega) _ _ _⟩
 ·have eO:=ag1 h1;go_wp2_with fail
  refine(HD1.o _).ae ?_;rintro e w2 ⟨rfl,hb2⟩;have hx2:=hx1.aa hb2 hx1.lt;have hB2:Below w.heap.size w w2:=hB1.trans (hb2.ae hB1.size);go_wp2_with fail
  refine(HD2.o _).ae ?_;rintro e w3 ⟨rfl,hb3⟩;have hx3:=hx2.aa hb3 hx2.lt;have bV:Below w.heap.size w w3:=hB2.trans (hb3.ae hB2.size);obtain⟨k0,k1,k2,f0,f1,f2⟩:=hx3.facts;go_wp2;refine dh ((hx3.put _ _ _).result rfl _ rfl) rfl ?_;exact⟨by rw[HC.o],df bV (by omega) _ _ _⟩
theorem Xj (n:Bool) (x y:ByteArray) (w:World) (hx:x.size<=500000) (hy:y.size<=500000):
  Calls Tryz.prog 70 #[.bool n,.string x,.string y] w fun e w'=>e=.returned (C (val n x y))/\Below w.heap.size w w':=by
 by_cases h:N x=0∨N y=0
 ·have:=afk n x y w h hx hy;rwa [<- Vy.2 h] at this
 ·exact afl n x y w (fun e=>h (.inl e)) (fun e=>h (.inr e)) hx hy
theorem Lp (n:Bool) (x y:ByteArray) (w:World) (hx:x.size<=500000) (hy:y.size<=500000):
  Calls Tryz.prog 68 #[.agg #[.bool n,.string x,.string y]] w fun e w'=>e=.returned (C (val n x y))/\Below w.heap.size w w':=by
 go_enter Tryz.func68,Tryz.ntmps68;have bB:=aL.at (w:=w.alloc (FC n x y)) (g:=w.heap.size+1) (by simp) false ⟨#[]⟩ ⟨#[]⟩;have hB0:Below w.heap.size w ((w.alloc (FC n x y)).alloc (FC false ⟨#[]⟩ ⟨#[]⟩)):=((aw _ w).alloc (ak _) _).alloc (by simp) _;go_wp2_with fail
 refine(Xj n x y _ hx hy).ae ?_;rintro e w1 ⟨rfl,hb1⟩;have hx1:=bB.aa hb1 bB.lt;have hB1:Below w.heap.size w w1:=hB0.trans (hb1.ae hB0.size);obtain⟨k0,k1,k2,f0,f1,f2⟩:=hx1.facts;clear bB hB0;rw[sJ];go_wp2;refine dh ((hx1.put _ _ _).result rfl _ rfl) rfl ?_;exact⟨rfl,df hB1 (by omega) _ _ _⟩
variable {U V:World}
theorem Xh {a b:ByteArray} (n:Nat) (hB:Below w0.heap.size w0 w) (h:N a*N b=n) (ha:a.size<=1000000) (hb:b.size<=1000000):
  Calls Tryz.prog 69 #[.string a,.string b] w fun e w'=>e=.returned (.string (B n))/\Below w0.heap.size w0 w':=by
 subst h;exact under hB (afj a b w (by omega) (by omega))
theorem JT (q:Rat):N (nu q)=q.num.natAbs:=cO _
theorem JU (q:Rat):N (de q)=q.den:=cO _
def Ny (w V:World) (p q:Rat) (n:Bool) (x y:ByteArray):Prop:=aL V w.heap.size (cI p) (nu p) (de p)/\aL V (w.heap.size+1) (cI q) (nu q) (de q)/\aL V (w.heap.size+2) n x y/\Below w.heap.size w V
theorem Ny.step {n:Bool} {x y:ByteArray} (h:Ny w V p q n x y) (hb:Below V.heap.size V U):Ny w U p q n x y:=by
 obtain⟨h1,h2,h3,h4⟩:=h;exact⟨h1.aa hb h1.lt,h2.aa hb h2.lt,h3.aa hb h3.lt,h4.trans (hb.ae h4.size)⟩
theorem Xi (na nb:Bool) (xa ya xb yb:ByteArray) (w:World) (ha:xa.size+ya.size<=50000) (hb:xb.size+yb.size<=50000):
  Calls Tryz.prog 26 #[.agg #[.bool na,.string xa,.string ya],.agg #[.bool nb,.string xb,.string yb]] w fun e w'=>e=.returned (C (val na xa ya*val nb xb yb))/\Below w.heap.size w w':=by
 have HA:=aF (fun V=>Lp na xa ya V (by omega) (by omega));have HB:=aF (fun V=>Lp nb xb yb V (by omega) (by omega));have q1:=PT na xa ya;have q2:=PT nb xb yb;generalize val na xa ya=p at *;generalize val nb xb yb=q at *;have z1:=sU p;have z2:=sU q;have s1:=wy p.num.natAbs q.num.natAbs;have s3:=wy p.den q.den;have e1:(B p.num.natAbs).size=(nu p).size:=rfl;have e2:(B p.den).size=(de p).size:=rfl;have e3:(B q.num.natAbs).size=(nu q).size:=rfl;have e4:(B q.den).size=(de q).size:=rfl
 have HS:Hid (val (cI p !=cI q) (B (p.num.natAbs*q.num.natAbs)) (B (p.den*q.den))=p*q):=by
  show _=_;have e:=val_mul (cI p) (cI q) (nu p) (de p) (nu q) (de q);rw[rF,rF,JT,JT,JU,JU] at e;rw[val,cO,cO,e]
 have Et:=aF (fun (V:World)=>Xh (w:=V) (p.num.natAbs*q.num.natAbs) (aw _ V) (by rw[JT,JT]) (show (nu p).size<=_ by omega) (show (nu q).size<=_ by omega));have Kr:=aF (fun (V:World)=>Xh (w:=V) (p.den*q.den) (aw _ V) (by rw[JU,JU]) (show (de p).size<=_ by omega) (show (de q).size<=_ by omega));generalize p*q=r at *;generalize p.num.natAbs*q.num.natAbs=X at *;generalize p.den*q.den=D at *;have t1:(B X).size<=200000:=by omega
 have t3:(B D).size<=200000:=by omega
 clear s1 s3 e1 e2 e3 e4 z1 z2 q1 q2 ha hb;go_enter Tryz.func26,Tryz.ntmps26;have il:=((aL.at (w:=w) rfl na xa ya).alloc (FC nb xb yb)).alloc (FC false ⟨#[]⟩ ⟨#[]⟩);have gO:=(aL.at (w:=w.alloc (FC na xa ya)) (g:=w.heap.size+1) (by simp) nb xb yb).alloc (FC false ⟨#[]⟩ ⟨#[]⟩);have hbr:=aL.at (w:=(w.alloc (FC na xa ya)).alloc (FC nb xb yb)) (g:=w.heap.size+2) (by simp) false ⟨#[]⟩ ⟨#[]⟩;have hB0:Below w.heap.size w (((w.alloc (FC na xa ya)).alloc (FC nb xb yb)).alloc (FC false ⟨#[]⟩ ⟨#[]⟩)):=(((aw _ w).alloc (ak _) _).alloc (by simp) _).alloc (by simp;omega) _;go_wp2_with fail
 refine(HA.o _).ae ?_;rintro e w1 ⟨rfl,hb1⟩;have mD:=il.aa hb1 il.lt;have ja:=(gO.aa hb1 gO.lt).far3 (g':=w.heap.size) (by omega) (.bool (cI p)) (.string (nu p)) (.string (de p));have oU:=(hbr.aa hb1 hbr.lt).far3 (g':=w.heap.size) (by omega) (.bool (cI p)) (.string (nu p)) (.string (de p));have hB1:=df (hB0.trans (hb1.ae hB0.size)) (ak _) (.bool (cI p)) (.string (nu p)) (.string (de p));have oW:=mD.put (cI p) (nu p) (de p);obtain⟨k0,k1,k2,f0,f1,f2⟩:=mD.facts;obtain⟨c0,c1,c2,_,_,_⟩:=ja.facts;rw[sJ];clear il gO hbr hB0 mD hb1;go_wp2_with fail
 clear k0 k1 k2 f0 f1 f2 c0 c1 c2;refine(HB.o _).ae ?_;rintro e w2 ⟨rfl,hb2⟩;have nZ:=ja.aa hb2 ja.lt;have rR:=(oW.aa hb2 oW.lt).far3 (g':=w.heap.size+1) (by omega) (.bool (cI q)) (.string (nu q)) (.string (de q));have Bc:=(oU.aa hb2 oU.lt).far3 (g':=w.heap.size+1) (by omega) (.bool (cI q)) (.string (nu q)) (.string (de q));have bV:=df (hB1.trans (hb2.ae hB1.size)) (g:=w.heap.size+1) (by omega) (.bool (cI q)) (.string (nu q)) (.string (de q));have wY:=nZ.put (cI q) (nu q) (de q);obtain⟨k0,k1,k2,f0,f1,f2⟩:=nZ.facts;have ht:Ny w _ p q false ⟨#[]⟩ ⟨#[]⟩:=⟨rR,wY,Bc,bV⟩;obtain⟨c0,c1,c2,_,_,_⟩:=rR.facts;obtain⟨d0,d1,d2,_,_,_⟩:=wY.facts;rw[sJ];clear oW ja oU hB1 nZ rR Bc bV wY hb2 HA HB;go_wp2_with fail
 refine(Et.o _).ae ?_;rintro e w3 ⟨rfl,hb3⟩;clear c0 c1 c2 d0 d1 d2 k0 k1 k2 f0 f1 f2;have C2:=ht.step hb3;clear ht hb3 Et;obtain⟨c0,c1,c2,_,_,_⟩:=C2.1.facts;obtain⟨d0,d1,d2,_,_,_⟩:=C2.2.1.facts;go_wp2_with fail
 refine(Kr.o _).ae ?_;rintro e w4 ⟨rfl,hb4⟩;clear c0 c1 c2 d0 d1 d2;have FE:=C2.step hb4;clear C2 hb4 Kr;obtain⟨c0,c1,c2,_,_,_⟩:=FE.1.facts;obtain⟨d0,d1,d2,_,_,_⟩:=FE.2.1.facts;go_wp2_with fail
 refine(Xj (cI p !=cI q) (B X) (B D) _ (by omega) (by omega)).ae ?_;rintro e w7 ⟨rfl,ed⟩;have FD:=FE.step ed;obtain⟨g0,g1,g2,i0,i1,i2⟩:=FD.2.2.1.facts;rw[HS.o,sJ];go_wp2;refine dh ((FD.2.2.1.put _ _ _).result rfl _ rfl) rfl ?_;exact⟨rfl,df FD.2.2.2 (by omega) _ _ _⟩
theorem agU (h:q=0):nu q=⟨#[]⟩:=by subst h;exact x4
theorem agV (h:¬q=0):(nu q).toList.isEmpty=false:=zW (by rw[Ne,Int.natAbs_eq_zero,Rat.num_eq_zero];exact h)
theorem afb (n:Bool) (x y:ByteArray) (w:World) (hx:x.size+y.size<=50000):
  Calls Tryz.prog 115 #[.agg #[.bool n,.string x,.string y]] w fun e w'=>e=.returned (.bool (decide (val n x y=0)))/\Below w.heap.size w w':=by
 have HC:=aF (fun V=>Lp n x y V (by omega) (by omega));generalize val n x y=q at *
 have hz:(q=0/\decide (q=0)=true)∨(¬q=0/\decide (q=0)=false):=by
  by_cases h:q=0
  ·exact .inl ⟨h,bT h⟩
  ·exact .inr ⟨h,cj h⟩
 have HZ:=aF hz;clear hz;generalize decide (q=0)=t at *;go_enter Tryz.func115,Tryz.ntmps115;have bB:=aL.at (w:=w) rfl n x y;have hB0:Below w.heap.size w (w.alloc (FC n x y)):=(aw _ w).alloc (ak _) _;go_wp2_with fail
 refine(HC.o _).ae ?_;rintro e w1 ⟨rfl,hb1⟩;have hx1:=bB.aa hb1 bB.lt;have hB1:=df (hB0.trans (hb1.ae hB0.size)) (ak _) (.bool (cI q)) (.string (nu q)) (.string (de q));obtain⟨k0,k1,k2,f0,f1,f2⟩:=hx1.facts;rw[sJ];rcases HZ.o with ⟨h,rfl⟩ |⟨h,rfl⟩
 ·have hn:=agU h;clear h HZ;generalize nu q=nq at *;subst hn;go_wp2;go_ret;exact⟨rfl,hB1⟩
 ·have hn:=agV h;clear h HZ;go_wp2;go_ret;exact⟨rfl,hB1⟩
theorem aft (na nb:Bool) (xa ya xb yb:ByteArray) (w:World) (h:¬val nb xb yb=0) (ha:xa.size+ya.size<=40000) (hb:xb.size+yb.size<=40000):
  Calls Tryz.prog 92 #[.agg #[.bool na,.string xa,.string ya],.agg #[.bool nb,.string xb,.string yb]] w fun e w'=>e=.returned (.tuple #[C (val na xa ya/val nb xb yb),.int .i64 0])/\Below w.heap.size w w':=by
 have HZ:=aF (fun V=>afb nb xb yb V (by omega));rw[cj h] at HZ;have HC:=aF (fun V=>Lp nb xb yb V (by omega) (by omega));have q2:=PT nb xb yb;generalize val nb xb yb=q at *;have z2:=sU q;have HM:=aF (fun V=>Xi na (cI q) xa ya (de q) (nu q) V (by omega) (by omega))
 have hi:val (cI q) (de q) (nu q)=q⁻¹:=by
  rw[adH (cI q) (nu q) (de q) (by rw[JT,Ne,Int.natAbs_eq_zero,Rat.num_eq_zero];exact h) (by rw[JU];exact q.den_nz),rF]
 rw[hi, <- ye] at HM;generalize val na xa ya/q=r at *;clear hi h z2 q2 ha hb;go_enter Tryz.func92,Tryz.ntmps92;have il:=((aL.at (w:=w) rfl na xa ya).alloc (FC nb xb yb)).alloc (FC false ⟨#[]⟩ ⟨#[]⟩);have gO:=(aL.at (w:=w.alloc (FC na xa ya)) (g:=w.heap.size+1) (by simp) nb xb yb).alloc (FC false ⟨#[]⟩ ⟨#[]⟩);have hbr:=aL.at (w:=(w.alloc (FC na xa ya)).alloc (FC nb xb yb)) (g:=w.heap.size+2) (by simp) false ⟨#[]⟩ ⟨#[]⟩;have hB0:Below w.heap.size w (((w.alloc (FC na xa ya)).alloc (FC nb xb yb)).alloc (FC false ⟨#[]⟩ ⟨#[]⟩)):=(((aw _ w).alloc (ak _) _).alloc (by simp) _).alloc (by simp;omega) _;go_wp2_with fail
 refine(HZ.o _).ae ?_;rintro e w1 ⟨rfl,hb1⟩;have mD:=il.aa hb1 il.lt;have ja:=gO.aa hb1 gO.lt;have oU:=hbr.aa hb1 hbr.lt;have hB1:=hB0.trans (hb1.ae hB0.size);obtain⟨c0,c1,c2,_,_,_⟩:=ja.facts;clear il gO hbr hB0 hb1;go_wp2_with fail
 refine(HC.o _).ae ?_;rintro e w2 ⟨rfl,hb2⟩;have oW:=(mD.aa hb2 mD.lt).far3 (g':=w.heap.size+1) (by omega) (.bool (cI q)) (.string (nu q)) (.string (de q));have nZ:=ja.aa hb2 ja.lt;have Bd:=(oU.aa hb2 oU.lt).far3 (g':=w.heap.size+1) (by omega) (.bool (cI q)) (.string (nu q)) (.string (de q));have hB2:=df (hB1.trans (hb2.ae hB1.size)) (g:=w.heap.size+1) (by omega) (.bool (cI q)) (.string (nu q)) (.string (de q));clear c0 c1 c2 mD ja oU hB1 hb2;obtain⟨k0,k1,k2,f0,f1,f2⟩:=nZ.facts;obtain⟨d0,d1,d2,_,_,_⟩:=oW.facts;rw[sJ];go_wp2_with fail
 refine(HM.o _).ae ?_;rintro e w3 ⟨rfl,hb3⟩;have Bc:=Bd.aa hb3 Bd.lt;have bV:=hB2.trans (hb3.ae hB2.size);clear k0 k1 k2 f0 f1 f2 d0 d1 d2;obtain⟨k0,k1,k2,f0,f1,f2⟩:=Bc.facts;rw[sJ];go_wp2;refine dh ((Bc.put _ _ _).result2 rfl _ rfl) rfl ?_;exact⟨rfl,df bV (by omega) _ _ _⟩
theorem agP {k:Int} (h:k<0):C (mkRat k 1)=.agg #[.bool true,.string (B ((-(k+1)).toNat+1)),.string (B 1)]:=by
 have e:k=sg true ((-(k+1)).toNat+1):=by simp only[sg,if_true];omega
 have h1:=OE true ((-(k+1)).toNat+1) 1 (by omega) (by decide);rw[<- e,Nat.gcd_one_right,Cs,Cs] at h1;exact h1
theorem agO (n:Nat):C (mkRat (n:Int) 1)=.agg #[.bool false,.string (B n),.string (B 1)]:=by
 by_cases h:n=0
 ·subst h;rw[show ((0:Nat):Int)=0 from rfl,KO,Ck,x4]
 ·have h1:=OE false n 1 h (by decide);rw[Nat.gcd_one_right,Cs,Cs] at h1;exact h1
theorem afi (k:Int) (w:World) (h0: -9223372036854775808<=k) (h1:k<=9223372036854775807):
  Calls Tryz.prog 22 #[.int .i64 k] w fun e w'=>e=.returned (C (mkRat k 1))/\Below w.heap.size w w':=by
 by_cases hk:k<0
 ·rw[agP hk];have HO:=aF (fun V=>Ff (-(k+1)) V (by omega) (by omega));have s1:(B (-(k+1)).toNat).size<=8:=by rw[kX];exact oZ 8 _ (by show _<18446744073709551616;omega)
  have HA:=aF (fun V=>afw (B (-(k+1)).toNat) ⟨#[1]⟩ V (by omega) (by show 1<=_;omega));rw[cO,show N ⟨#[1]⟩=1 from rfl] at HA;rw[KF];generalize (-(k+1)).toNat=n at *;go_enter Tryz.func22,Tryz.ntmps22;have hbr:=aL.at (w:=w) rfl false ⟨#[]⟩ ⟨#[]⟩;have hB0:Below w.heap.size w (w.alloc (FC false ⟨#[]⟩ ⟨#[]⟩)):=(aw _ w).alloc (ak _) _;go_wp2_with fail
  refine(HO.o _).ae ?_;rintro e w1 ⟨rfl,hb1⟩;have oU:=hbr.aa hb1 hbr.lt;have hB1:=hB0.trans (hb1.ae hB0.size);go_wp2_with fail
  refine(HA.o _).ae ?_;rintro e w2 ⟨rfl,hb2⟩;have Bd:=oU.aa hb2 oU.lt;have hB2:=hB1.trans (hb2.ae hB1.size);obtain⟨k0,k1,k2,f0,f1,f2⟩:=Bd.facts;go_wp2;refine dh ((Bd.put _ _ _).result rfl _ rfl) rfl ?_;exact⟨rfl,df hB2 (by omega) _ _ _⟩
 ·obtain⟨n,rfl⟩:∃n:Nat,k=n:=⟨k.toNat,by omega⟩;rw[agO n];have HO:=aF (fun V=>Ff (n:Int) V (by omega) (by omega));rw[nH] at HO;rw[KF];go_enter Tryz.func22,Tryz.ntmps22;have hbr:=aL.at (w:=w) rfl false ⟨#[]⟩ ⟨#[]⟩;have hB0:Below w.heap.size w (w.alloc (FC false ⟨#[]⟩ ⟨#[]⟩)):=(aw _ w).alloc (ak _) _;go_wp2_with fail
  refine(HO.o _).ae ?_;rintro e w1 ⟨rfl,hb1⟩;have oU:=hbr.aa hb1 hbr.lt;have hB1:=hB0.trans (hb1.ae hB0.size);obtain⟨k0,k1,k2,f0,f1,f2⟩:=oU.facts;go_wp2;refine dh ((oU.put _ _ _).result rfl _ rfl) rfl ?_;exact⟨rfl,df hB1 (by omega) _ _ _⟩
def Fits (m:Nat) (q:Rat):Prop:=∃(A:Int) (D:Nat),D≠0/\q=mkRat A D/\D<256^m/\A.natAbs<256^m
theorem Na (h:Fits m q):qw q<=2*m:=by
 obtain⟨A,D,hD,rfl,h1,h2⟩:=h;rw[LY hD];have:=Xp (n:=A) hD;have a1:(B A.natAbs).size<=m:=by rw[kX];exact oZ m _ h2
 have a2:(B D).size<=m:=by rw[kX];exact oZ m _ h1
 omega
theorem Fj (h:m<=n):256^m<=256^n:=jf (by decide) h
theorem S7 (n:Bool) (x y:ByteArray):Fits (x.size+y.size+1) (val n x y):=by
 by_cases h:N y=0
 ·refine⟨0,1,by decide,by rw[Hk h,KO],?_,?_⟩
  ·exact aR (by decide:1<256^1) (Fj (by omega))
  ·exact ru (by decide)
 ·refine⟨sg n (N x),N y,h,rfl,aR (BL y) (Fj (by omega)),?_⟩;rw[Lf];exact aR (BL x) (Fj (by omega))
theorem abi (hp:Fits m p) (hq:Fits k q):Fits (m+k+1) (p+q):=by
 obtain⟨A,D,hD,rfl,h1,h2⟩:=hp;obtain⟨A',D',Bp,rfl,h3,h4⟩:=hq;refine⟨A*D'+A'*D,D*D',Cq hD Bp,Rat.mkRat_add_mkRat _ _ hD Bp,?_,?_⟩
 ·have:D*D'<256^m*256^k:=G7 h1 h3;rw[<- z6] at this;exact aR this (Fj (by omega))
 ·have e1:A.natAbs*D'<256^m*256^k:=G7 h2 h3;have e2:A'.natAbs*D<256^k*256^m:=G7 h4 h1;rw[dC (256^k)] at e2;rw[<- z6] at e1 e2
  have e3:(A*D'+A'*D).natAbs<=A.natAbs*D'+A'.natAbs*D:=by
   refine aM (Int.natAbs_add_le _ _) ?_;rw[Int.natAbs_mul,Int.natAbs_mul];exact ak _
  rw[gS];omega
abbrev Fr:Type:=Bool×ByteArray×ByteArray
def F7 (f:Fr):Rat:=val f.1 f.2.1 f.2.2
def fw:List Fr ->Nat
 |[]=>0
 |f::l=>f.2.1.size+f.2.2.size+2+fw l
def fR (l:List Fr):Rat:=l.foldl (fun s f=>s+F7 f) 0
theorem S4 (l:List Fr) (f:Fr):fR (l++[f])=fR l+F7 f:=by simp[fR]
theorem S2 (a b:List Fr):fw (a++b)=fw a+fw b:=by
 induction a with
 |nil=>simp[fw]
 |cons f a ih=>simp only[eC,fw,ih];omega
theorem aa6 (l:List Fr) (k:Nat):fw (l.take k)<=fw l:=by
 have:=S2 (l.take k) (l.drop k);rw[Ac] at this;omega
theorem S1 {l:List Fr} {f:Fr} (h:f∈l):f.2.1.size+f.2.2.size+2<=fw l:=by
 induction l with
 |nil=>cases h
 |cons g l ih=>
  rcases cT.1 h with rfl |h
  ·simp only[fw];omega
  ·have:=ih h;simp only[fw];omega
theorem abh (l:List Fr):Fits (fw l+1) (fR l):=by
 induction l using E7 with
 |h0=>exact⟨0,1,by decide,(KO _).symm,by decide,by decide⟩
 |h1 l f ih=>
  rw[S4,S2];have:=abi ih (S7 f.1 f.2.1 f.2.2);have e:fw l+1+(f.2.1.size+f.2.2.size+1)+1=fw l+fw [f]+1:=by simp only[fw];omega
  rwa [e] at this
theorem take_one {l:List Fr} (h:k<l.length):fR (l.take (k+1))=fR (l.take k)+F7 l[k]:=by
 rw[gh h,S4]
def ew (w:World) (a:Option Addr) (l:List Fr):Prop:=∀k (h:k<l.length),∃g o,a=some ⟨g,o,none⟩/\g<w.heap.size/\w.cell? ⟨g,o+k*3,none⟩=some (.bool l[k].1)/\w.cell? ⟨g,o+k*3+1,none⟩=some (.string l[k].2.1)/\w.cell? ⟨g,o+k*3+2,none⟩=some (.string l[k].2.2)
theorem ew.aa {l:List Fr} (h:ew w a l) (hb:Below w.heap.size w w'):ew w' a l:=fun k hk=>by
 obtain⟨g,o,h1,h2,h3,h4,h5⟩:=h k hk;exact⟨g,o,h1,aR h2 hb.size,(hb.cell (p:=⟨g,_,none⟩) h2).trans h3,(hb.cell (p:=⟨g,_,none⟩) h2).trans h4,(hb.cell (p:=⟨g,_,none⟩) h2).trans h5⟩
theorem akC (a:Option Addr) (cap:Nat) (l:List Fr) (w:World) (h:ew w a l) (hl:∀k (h:k<l.length),l[k].2.1.size+l[k].2.2.size<=40000) (hq:∀k,k<=l.length ->qw (fR (l.take k))<=40000) (hn:l.length<=10000):
  Calls Tryz.prog 88 #[.slice a l.length cap] w fun e w'=>e=.returned (C (fR l))/\Below w.heap.size w w':=by
 have HF:=aF h;have HL:=aF hl;have HQ:=aF hq;clear h hl hq;have Kw:Hid (fR (l.take l.length)=fR l):=by show _=_;rw[iR]
 go_enter Tryz.func88,Tryz.ntmps88;have hbr:=aL.at (w:=w) rfl false ⟨#[]⟩ ⟨#[]⟩;have hB0:Below w.heap.size w (w.alloc (FC false ⟨#[]⟩ ⟨#[]⟩)):=(aw _ w).alloc (ak _) _;go_wp2_with fail
 refine(Qo _).ae ?_;rintro e w1 ⟨rfl,hb1⟩;have hr1:=hbr.aa hb1 hbr.lt;have hB1:Below w.heap.size w w1:=hB0.trans (hb1.ae hB0.size);clear hbr hB0 hb1;rw[sJ];go_wp2_with fail
 have aiZ:=hr1.lt;go_loopw [9] (fun iv wr=>∃k:Nat,k<=l.length/\iv=.int .i64 k/\Hid (aL wr w1.heap.size (cI (fR (l.take k))) (nu (fR (l.take k))) (de (fR (l.take k))))/\Hid (aL wr w.heap.size false ⟨#[]⟩ ⟨#[]⟩)/\Below w.heap.size w wr) (fun iv _=>l.length - (intOf iv).toNat)
 case atStart=>exact⟨0,aX _,rfl,aL.at rfl _ _ _,hr1.alloc _,hB1.alloc hB1.size _⟩
 case round=>
  obtain⟨k,hk,rfl,HS,HR,bU⟩:=hrel;by_cases hlt:k<l.length
  ·obtain⟨g,o,rfl,hg,c0,c1,c2⟩:=(HF.o.aa bU) k hlt;have hstep:=take_one hlt;have hmem:=HL.o k hlt;have rQ:=HQ.o k hk;have hz:=sU (fR (l.take k));have zV:=aF (fun V=>abr (cI (fR (l.take k))) l[k].1 (nu (fR (l.take k))) (de (fR (l.take k))) l[k].2.1 l[k].2.2 V (by omega) (by omega) (by omega) (by omega));rw[rF,show val l[k].1 l[k].2.1 l[k].2.2=F7 l[k] from rfl, <- hstep] at zV;have Du:=HS.o;clear HS hstep hmem rQ hz;generalize l[k].1=fn at *;generalize l[k].2.1=fx at *;generalize l[k].2.2=fy at *;obtain⟨k0,k1,k2,f0,f1,f2⟩:=Du.facts;have cK:=Du.lt;go_wp2_with fail
   refine(zV.o _).ae ?_;rintro e w2 ⟨rfl,hb2⟩;have hs2:=(Du.alloc (FC fn fx fy)).aa hb2 (Du.alloc (FC fn fx fy)).lt;have hr2:=(HR.o.alloc (FC fn fx fy)).aa hb2 (HR.o.alloc (FC fn fx fy)).lt;have aaZ:=bU.alloc bU.size (FC fn fx fy);have hB2:Below w.heap.size w w2:=aaZ.trans (hb2.ae aaZ.size);clear k0 k1 k2 f0 f1 f2 c0 c1 c2;obtain⟨k0,k1,k2,f0,f1,f2⟩:=hs2.facts;rw[sJ];go_wp2;go_roundw
   case rel=>exact⟨k+1,by omega,by go_num,hs2.put _ _ _,hr2.far3 (by omega) _ _ _,df hB2 hB1.size _ _ _⟩
   case measure=>simp[intOf];omega
  ·obtain rfl:k=l.length:=by omega
   have Du:=HS.o;rw[Kw.o] at Du;obtain⟨k0,k1,k2,f0,f1,f2⟩:=Du.facts;obtain⟨j0,j1,j2,i0,i1,i2⟩:=HR.o.facts;go_wp2;refine dh ((HR.o.put _ _ _).result rfl _ rfl) rfl ?_;exact⟨rfl,df bU (ak _) _ _ _⟩
theorem akD (a:Option Addr) (cap:Nat) (l:List Fr) (w:World) (h:ew w a l) (hl:fw l<=10000) (hn:l.length<=10000):
  Calls Tryz.prog 88 #[.slice a l.length cap] w fun e w'=>e=.returned (C (fR l))/\Below w.heap.size w w':=
 akC a cap l w h (fun k hk=>by have:=S1 (bY hk);omega) (fun k _=>by have:=Na (abh (l.take k));have:=aa6 l k;omega) hn
def kp (sizes vars:List Int) (m:Nat):Int:=if countB sizes vars=true then(if m=cnt (af sizes) (af vars) then 0 else 8) else 11
theorem alo {sizes vars:List Int} (h:countB sizes vars=false):kp sizes vars m=11:=aD (by rw[h];decide)
theorem alp {sizes vars:List Int} (h:countB sizes vars=true) (h1:¬m=cnt (af sizes) (af vars)):kp sizes vars m=8:=by rw[kp,aB h,aD h1]
theorem abZ {sizes vars:List Int} (h:countB sizes vars=true) (h1:m=cnt (af sizes) (af vars)):kp sizes vars m=0:=by rw[kp,aB h,aB h1]
abbrev TC (u v:Value):Obj:=.cells #[u,v] 39
def bG (w:World) (g:Nat) (u v:Value):Prop:=w.heap[g]? =some (.cells #[u,v] 39 (0,0))
theorem bG.c0 {u v:Value} (h:bG w g u v):w.cell? ⟨g,0,none⟩=some u:=by rw[bE w g 0 _ _ (0,0) h];rfl
theorem bG.c1 {u v:Value} (h:bG w g u v):w.cell? ⟨g,1,none⟩=some v:=by rw[bE w g 1 _ _ (0,0) h];rfl
theorem bG.lt {u v:Value} (h:bG w g u v):g<w.heap.size:=(cV.1 h).1
theorem bG.aa {B:Nat} {u v:Value} (h:bG w g u v) (hb:Below B w w') (hB:g<B):bG w' g u v:=(hb.block g hB).trans h
theorem bG.at (hg:w.heap.size=g) (u v:Value):bG (w.alloc (TC u v)) g u v:=by
 subst hg;exact fP _ _
theorem bG.alloc {u v:Value} (h:bG w g u v) (o:Obj):bG (w.alloc o) g u v:=(qg w o g h.lt).trans h
theorem Hw (a b c:Option Addr) (ca cb cc m:Nat) (sizes vars:List Int) (w:World) (hs:aC w a sizes) (hv:aC w b vars) (hn:sizes.length<=140737488355328) (hm:vars.length<=140737488355328):
  Calls Tryz.prog 86 #[.slice a sizes.length ca,.agg #[.slice b vars.length cb,.slice c m cc]] w fun e w'=>e=.returned (.int .i64 (kp sizes vars m))/\Below w.heap.size w w':=by
 have HS:=hid hs;have HV:=hid hv;have HC:=hid (fun V h1 h2=>Po a b ca cb sizes vars V h1 h2 hn hm);clear hs hv;have hB0:Below w.heap.size w (w.alloc (TC (.slice b vars.length cb) (.slice c m cc))):=(aw _ w).alloc (ak _) _;have bB:=bG.at (w:=w) rfl (.slice b vars.length cb) (.slice c m cc);cases hcb:countB sizes vars with
 |false=>
  have HA:=hid (alo (m:=m) hcb);rw[JJ hcb] at HC;simp only at HC;generalize kp sizes vars m=r at *;go_enter Tryz.func86,Tryz.ntmps86;go_wp2_with fail
  refine(HC.o _ (HS.o.aa hB0) (HV.o.aa hB0)).ae ?_;rintro e w1 ⟨rfl,hb1⟩;have hB1:=hB0.trans (hb1.ae hB0.size);go_wp2;go_ret;exact⟨by rw[HA.o];rfl,hB1⟩
 |true=>
  have HN:=hid (fun h=>alp (m:=m) hcb h);have HY:=hid (fun h=>abZ (m:=m) hcb h);rw[Gc hcb] at HC;simp only at HC;obtain⟨aN,aT⟩:=Tg hcb;have hsm:cnt (af sizes) (af vars)<=65536:=rY aN.sz_le (by rw[dR];have:=aN.eight;have:=aT.length;omega);clear hcb aN aT;generalize kp sizes vars m=r at *;generalize cnt (af sizes) (af vars)=N0 at *;go_enter Tryz.func86,Tryz.ntmps86;go_wp2_with fail
  refine(HC.o _ (HS.o.aa hB0) (HV.o.aa hB0)).ae ?_;rintro e w1 ⟨rfl,hb1⟩;have hB1:=hB0.trans (hb1.ae hB0.size);have hx1:=bB.aa hb1 bB.lt;have k0:=hx1.c0;have k1:=hx1.c1;by_cases h:m=N0
  ·have HE:=hid (HY.o h);subst h;go_wp2;go_ret;exact⟨by rw[HE.o];rfl,hB1⟩
  ·have HE:=hid (HN.o h);(have hb:((m:Int)==(N0:Int))=false:=by simp;omega);(have hi:¬(m:Int)=(N0:Int):=by omega);go_wp2;go_ret;exact⟨by rw[HE.o];rfl,hB1⟩
def oM (l:List Nat) (i:Nat):List Nat:=l.take i++List.replicate (l.length - i) 0
theorem XM (l:List Nat):oM l 0=List.replicate l.length 0:=by simp[oM]
theorem LB (l:List Nat) (h:i<=l.length):(oM l i).length=l.length:=by simp[oM];omega
theorem XO (l:List Nat):oM l l.length=l:=by simp[oM]
theorem XN (l:List Nat) (h:i<l.length):(oM l i).set i l[i]=oM l (i+1):=by
 rw[oM,oM,Cu _ _ (by simp;omega),gh h];have e:l.length - i=(l.length - (i+1))+1:=by omega
 rw[e,Ha,eB,tZ (by omega),nD,Ct,jh];rfl
def iL (l:List Nat):List Int:=l.map fun x:Nat=>(x:Int)
theorem bF (l:List Nat):(iL l).length=l.length:=by simp[iL]
theorem iV (l:List Nat):af (iL l)=l:=by simp[af,iL,Function.comp_def]
theorem cN.ints {l:List Nat} (h:cN w g l):aC w (some ⟨g,0,none⟩) (iL l):=fun k hk=>by
 rw[bF] at hk;refine⟨g,0,rfl,h.lt,?_⟩;rw[bI,h.cell k hk];simp[iL]
end Go.Proofs.YtfgkjjlocjmfeaaGreatDoor
