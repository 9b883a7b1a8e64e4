/- Part1: part 1. -/
import Derived.Test.YtfgkjjlocjmfeaaGreatDoorLexis
set_option maxRecDepth 100000
set_option maxHeartbeats 400000000
set_option linter.unusedSimpArgs false
set_option linter.unusedVariables false
namespace Go.Proofs.YtfgkjjlocjmfeaaGreatDoor
variable {rs:List Nat} {i:Nat} {oi:Oper}
theorem gE:(∀(α:Type) (xs:List α) (i:Nat) (h:i<xs.toArray.size),xs.toArray[i]=xs[i]'(by simpa using h))/\(∀(α:Type) (a:α) (ys:List α) (h:0<(a::ys).length),(a::ys)[0]=a)/\(∀(α:Type) (a:α) (ys:List α) (i:Nat) (h:i+1<(a::ys).length),(a::ys)[i+1]=ys[i]'(by simpa using h)):=⟨fun _ _ _ _=>rfl,fun _ _ _ _=>rfl,fun _ _ _ _ _=>rfl⟩
theorem aP:(∀(a:Act) (k:Nat) (v:Value),a.put k v= {a with tmps:=a.tmps.setIfInBounds k v})/\(∀(α:Type) (xs:List α) (i:Nat) (a:α),xs.toArray.setIfInBounds i a=(xs.set i a).toArray)/\(∀(α:Type) (x a:α) (ys:List α),(x::ys).set 0 a=a::ys)/\(∀(α:Type) (x a:α) (ys:List α) (i:Nat),(x::ys).set (i+1) a=x::ys.set i a):=⟨fun _ _ _=>rfl,fun _ _ _ _=>by simp,fun _ _ _ _=>rfl,fun _ _ _ _ _=>rfl⟩
section
variable {P : Program} {ops : Array Oper} {Q : Exit -> Act -> World -> Prop} {md : Region.Mode} {S : World -> Prop} {n : Nat} {l : Array Bool} {a : Act} {w : World}
theorem cN (i:Nat) (v:Value) (h:∀u,S u ->(execOp a.eval oi).run P u=.ok (.value v) u) (k:wpAnyH P md ops Q S n (l.setIfInBounds i true) (a.put oi.dst v) w)
  (hi:ops[i]? =some oi:=by rfl) (hs:Region.noSelect ops=true:=by kernel_rfl) (hf:Region.free md ops l i=true:=by kernel_rfl) (hr:(Region.ready md ops l).contains i=true:=by kernel_rfl)
  (hQ:∀c a w,Q (.panic c) (a.put oi.dst v) w ->Q (.panic c) a w:=by first |exact fun _ _ _ h=>h |exact fun _ _ _ h=>by cases h.1) (hw:Region.wanted oi (yielded ops a.tmps)=true:=by rfl) (hS:S w:=by assumption):wpAnyH P md ops Q S (n+1) l a w:=
 kB hi hs hf hr hQ (Or.inl ⟨hw,h⟩) hS k
theorem aw (i:Nat) (v:Value) (k:wpAnyH P md ops Q S n (l.setIfInBounds i true) (a.put oi.dst v) w)
  (hi:ops[i]? =some oi:=by rfl) (h:∀u,S u ->(execOp a.eval oi).run P u=.ok (.value v) u:=by intro u' aN;(try simp only[gE]);(first |obtain⟨s0,s1,s2,s3⟩:=aN |obtain⟨s0,s1,s2⟩:=aN |obtain⟨s0,s1⟩:=aN |skip);go_simp) (hs:Region.noSelect ops=true:=by kernel_rfl) (hf:Region.free md ops l i=true:=by kernel_rfl) (hr:(Region.ready md ops l).contains i=true:=by kernel_rfl)
  (hQ:∀c a w,Q (.panic c) (a.put oi.dst v) w ->Q (.panic c) a w:=by first |exact fun _ _ _ h=>h |exact fun _ _ _ h=>by cases h.1) (hw:Region.wanted oi (yielded ops a.tmps)=true:=by rfl) (hS:S w:=by assumption):wpAnyH P md ops Q S (n+1) l a w:=
 kB hi hs hf hr hQ (Or.inl ⟨hw,h⟩) hS k
theorem cA {o:Oper} (h:∀K':Act ->World ->Prop,Shut (∀a w,S w ->(S w ->wpAnyH P md ops Q S n (l.setIfInBounds i true) a w) ->K' a w) ->if Region.wanted o (yielded ops a.tmps)=true then Oper.wp P o a w K' Q else K' (a.put o.dst undef) w) (hs:AllReadyH P md ops Q S n l a w rs) (ho:ops[i]? =some o:=by rfl):AllReadyH P md ops Q S n l a w (i::rs):=AllReadyH.cons ho h hs
theorem nA:AllReadyH P md ops Q S n l a w []:=aG
theorem aH (rs:List Nat) (h:AllReadyH P md ops Q S n l a w rs) (hr:Region.ready md ops l=rs:=by kernel_rfl) (hne:rs≠[]:=by simp):wpAnyH P md ops Q S (n+1) l a w:=wpAnyH_ready hr hne h
end
open Go.RowKit
variable {l:List Int} {a:Option Addr} {w w':World}
theorem hid {p:Prop} (h:p):Hid p:=h
def aC (w:World) (a:Option Addr) (l:List Int):Prop:=∀k (h:k<l.length),∃g o,a=some ⟨g,o,none⟩/\g<w.heap.size/\w.cell? ⟨g,o+k,none⟩=some (.int .i64 l[k])
theorem aC.aa (h:aC w a l) (hb:Below w.heap.size w w'):aC w' a l:=fun k hk=>by
 obtain⟨g,o,h1,h2,h3⟩:=h k hk;exact⟨g,o,h1,aO h2 hb.size,(hb.cell (p:=⟨g,_,none⟩) h2).trans h3⟩
theorem Am {B:Nat} {a b:World} (h:Below B a b) (k:Nat):Below B a (b.drewN k):=⟨h.os,h.tape,h.output,h.size,h.block⟩
def jc (k:Int) (l:List Int):Bool:=l.any (·==k)
theorem agS {k:Int} (h:i<l.length):jc k (l.take (i+1))=(jc k (l.take i) ||l[i]==k):=by
 rw[fP h,jc,jc,List.any_append];simp
theorem agT {k:Int} (h:i<l.length) (e:l[i]=k):jc k l=true:=by
 rw[jc,sJ];exact⟨l[i],bM h,by simp[e]⟩
theorem adY (k:Int) (a:Option Addr) (cap:Nat) (l:List Int) (w:World) (h:aC w a l) (hn:l.length<=140737488355328):
  Calls Tryz.prog 65 #[.int .i64 k,.slice a l.length cap] w fun e w'=>e=.returned (.bool (jc k l))/\w'=w:=by
 have HF:=hid h;clear h;go_enter Tryz.func65,Tryz.ntmps65;go_wp2_with fail
 go_loop [5] (fun iv=>∃i:Nat,i<=l.length/\iv=.int .i64 i/\Hid (jc k (l.take i)=false)) (fun iv=>l.length - (intOf iv).toNat)
 case atStart=>exact⟨0,aU _,rfl,rfl⟩
 case round=>
  obtain⟨i,hi,rfl,HI⟩:=hrel;by_cases hlt:i<l.length
  ·obtain⟨g,o,rfl,hg,c0⟩:=HF.o i hlt;by_cases e:l[i]=k
   ·have HE:=hid (agT hlt e);go_wp2;go_ret;exact⟨by rw[HE.o];rfl,rfl⟩
   ·have HS:Hid (jc k (l.take (i+1))=false):=by show _=_;rw[agS hlt,HI.o];simp[e]
    (have eb:(l[i]==k)=false:=by simp[e]);generalize l[i]=x at *;go_wp2;go_round
    case rel=>exact⟨i+1,by omega,by go_num,HS.o⟩
    case measure=>simp[intOf];omega
  ·have HE:Hid (jc k l=false):=by
    show _=_;have:=HI.o;rwa [jn (by omega)] at this
   go_wp2;go_ret;exact⟨by rw[HE.o];rfl,rfl⟩
def xW (x:Int):Bool:=decide (1<=x/\x<=4)
def lC (l:List Int):Bool:=decide (1<=l.length/\l.length<=8)&&l.all xW
theorem aa0 {p:Int ->Bool} (h:i<l.length) (e:p l[i]=false):l.all p=false:=by
 rw[De];exact⟨l[i],bM h,by rw[e];decide⟩
theorem aaY {p:Int ->Bool} (h:i<l.length) (h0:(l.take i).all p=true) (e:p l[i]=true):(l.take (i+1)).all p=true:=by
 rw[fP h,Fx,h0];simp[e]
theorem ad0 (a:Option Addr) (cap:Nat) (l:List Int) (w:World) (h:aC w a l) (hn:l.length<=140737488355328):
  Calls Tryz.prog 112 #[.slice a l.length cap] w fun e w'=>e=.returned (.bool (lC l))/\Below w.heap.size w w':=by
 have HF:=hid h;clear h;by_cases hl:1<=l.length/\l.length<=8
 ·have HB:Hid (lC l=l.all xW):=by show _=_;rw[lC,cS hl];rfl
  obtain⟨kL,hl2⟩:=hl;generalize lC l=fb at *;go_enter Tryz.func112,Tryz.ntmps112;go_wp2_with fail
  go_loopw [3] (fun iv wr=>∃i:Nat,i<=l.length/\iv=.int .i64 i/\Hid ((l.take i).all xW=true)/\Below w.heap.size w wr) (fun iv _=>l.length - (intOf iv).toNat)
  case atStart=>exact⟨0,aU _,rfl,rfl,au _ _⟩
  case round=>
   obtain⟨i,hi,rfl,HI,hB⟩:=hrel;by_cases hlt:i<l.length
   ·obtain⟨g,o,rfl,hg,c0⟩:=(HF.o.aa hB) i hlt;by_cases e:1<=l[i]/\l[i]<=4
    ·have HS:=hid (aaY hlt HI.o (p:=xW) (cS e));obtain⟨e1,e2⟩:=e;generalize l[i]=x at *;go_wp2;go_roundw
     case rel=>exact⟨i+1,by omega,by go_num,HS.o,hB⟩
     case measure=>simp[intOf];omega
    ·have HE:Hid (fb=false):=by show _=_;rw[HB.o];exact aa0 hlt (cD e)
     rcases (show l[i]<1∨(1<=l[i]/\4<l[i]) by omega) with h3 |⟨h3,h4⟩
     all_goals
      clear e;generalize l[i]=x at *;go_wp2;go_ret;exact⟨by rw[HE.o];rfl,hB⟩
   ·have HE:Hid (fb=true):=by
     show _=_;rw[HB.o];have:=HI.o;rwa [jn (by omega)] at this
    go_wp2;go_ret;exact⟨by rw[HE.o];rfl,hB⟩
 ·have HE:Hid (lC l=false):=by show _=_;rw[lC,cD hl];rfl
  generalize lC l=fb at *;go_enter Tryz.func112,Tryz.ntmps112;rcases (show l.length<1∨(1<=l.length/\8<l.length) by omega) with h3 |⟨h3,h4⟩
  all_goals
   go_wp2;go_ret;exact⟨by rw[HE.o];rfl,au _ _⟩
def j8 (l:List Int) (n:Int) (i:Nat):Bool:=decide (0<=l.getD i 0/\l.getD i 0<n/\(0< i ->l.getD (i - 1) 0<l.getD i 0))
def dR (l:List Int) (n:Int):Bool:=(List.range l.length).all (j8 l n)
theorem ND {n:Int} (h:i<l.length) (e:j8 l n i=false):dR l n=false:=by
 rw[dR,De];exact⟨i,cH.2 h,by rw[e];decide⟩
theorem JY {n:Int} (h0:(List.range i).all (j8 l n)=true) (e:j8 l n i=true):(List.range (i+1)).all (j8 l n)=true:=by
 rw[oY,Fx,h0];simp[e]
theorem getD_eq (h:i<l.length):l.getD i 0=l[i]:=by simp[List.getD,h]
theorem adR (a:Option Addr) (cap:Nat) (l:List Int) (n:Int) (w:World) (h:aC w a l) (hn:l.length<=140737488355328):
  Calls Tryz.prog 113 #[.slice a l.length cap,.int .i64 n] w fun e w'=>e=.returned (.bool (dR l n))/\Below w.heap.size w w':=by
 have HF:=hid h;clear h;have HB:=hid (fun i h e=>ND (l:=l) (n:=n) (i:=i) h e);have HT:Hid ((List.range l.length).all (j8 l n)=true ->dR l n=true):=id;generalize dR l n=rb at *;go_enter Tryz.func113,Tryz.ntmps113;go_wp2_with fail
 go_loopw [5] (fun iv wr=>∃i:Nat,i<=l.length/\iv=.int .i64 i/\Hid ((List.range i).all (j8 l n)=true)/\Below w.heap.size w wr) (fun iv _=>l.length - (intOf iv).toNat)
 case atStart=>exact⟨0,aU _,rfl,rfl,au _ _⟩
 case round=>
  obtain⟨i,hi,rfl,HI,hB⟩:=hrel;by_cases hlt:i<l.length
  ·obtain⟨g,o,rfl,hg,c0⟩:=(HF.o.aa hB) i hlt;(have HO:Hid (j8 l n i=decide (0<=l[i]/\l[i]<n/\(0< i ->l.getD (i - 1) 0<l[i]))):=by show _=_;rw[j8,getD_eq hlt]);by_cases e0:l[i]<0
   ·have HE:Hid (rb=false):=HB.o i hlt (by rw[HO.o];exact cD (by omega));generalize l[i]=x at *;have d0:decide (x<0)=true:=cS e0;go_wp2_with fail
    go_quiet (fail)
    go_wp2;go_ret;exact⟨by rw[HE.o];rfl,Am hB _⟩
   ·by_cases e1:n<=l[i]
    ·have HE:Hid (rb=false):=HB.o i hlt (by rw[HO.o];exact cD (by omega));generalize l[i]=x at *;have d0:decide (x<0)=false:=cD e0;have d1:decide (n<=x)=true:=cS e1;go_wp2_with fail
     go_quiet (fail)
     go_wp2;go_ret;exact⟨by rw[HE.o];rfl,Am hB _⟩
    ·by_cases e2:i=0
     ·have HS:=hid (JY HI.o (i:=i) (by rw[HO.o];exact cS ⟨by omega,by omega,fun h=>absurd h (by omega)⟩));clear HO;generalize l[i]=x at *;have d0:decide (x<0)=false:=cD e0;have d1:decide (n<=x)=false:=cD e1;have d2:decide (0<i)=false:=cD (by omega);(have e2':¬0<(i:Int):=by omega);have E2:=hid e2;clear e2;go_wp2_with fail
      go_quiet (fail)
      go_wp2;go_roundw
      case rel=>exact⟨i+1,by omega,by go_num,HS.o,Am hB _⟩
      case measure=>simp[intOf];omega
     ·have hip:0<i:=by omega
      obtain⟨g',o',he',iO,c1⟩:=(HF.o.aa hB) (i - 1) (by omega);simp only[Option.some.injEq,Addr.mk.injEq] at he';obtain⟨rfl,rfl, -⟩:=he';have hgd:l.getD (i - 1) 0=l[i - 1]:=getD_eq (by omega);rw[hgd] at HO;(have hix:((i:Int) - 1).toNat=i - 1:=by omega);by_cases e3:l[i]<=l[i - 1]
      ·have HE:Hid (rb=false):=HB.o i hlt (by rw[HO.o];exact cD (fun h=>absurd (h.2.2 hip) (by omega)));clear hgd HO;generalize l[i]=x at *;generalize l[i - 1]=y at *;have d0:decide (x<0)=false:=cD e0;have d1:decide (n<=x)=false:=cD e1;have d2:decide (0<(i:Int))=true:=cS (by omega);have d3:decide (x<=y)=true:=cS e3;go_wp2_with fail
       go_quiet (fail)
       go_wp2;go_ret;exact⟨by rw[HE.o];rfl,Am hB _⟩
      ·have HS:=hid (JY HI.o (i:=i) (by rw[HO.o];exact cS ⟨by omega,by omega,fun _=>by omega⟩));clear hgd HO;generalize l[i]=x at *;generalize l[i - 1]=y at *;have d0:decide (x<0)=false:=cD e0;have d1:decide (n<=x)=false:=cD e1;have d2:decide (0<(i:Int))=true:=cS (by omega);have d3:decide (x<=y)=false:=cD e3;go_wp2_with fail
       go_quiet (fail)
       go_wp2;go_roundw
       case rel=>exact⟨i+1,by omega,by go_num,HS.o,Am hB _⟩
       case measure=>simp[intOf];omega
  ·obtain rfl:i=l.length:=by omega
   have HE:=hid (HT.o HI.o);go_wp2;go_ret;exact⟨by rw[HE.o];rfl,hB⟩
variable {S vs:List Nat}
def sz (S:List Nat) (v:Nat):Nat:=S[v]?.getD 1
def cnt (S:List Nat):List Nat ->Nat
 |[]=>1
 |v::vs=>sz S v*cnt S vs
theorem ajG (S a b:List Nat):cnt S (a++b)=cnt S a*cnt S b:=by
 induction a with
 |nil=>simp[cnt]
 |cons v a ih=>simp only[eE,cnt,ih,gg]
theorem ajD (S a:List Nat) (v:Nat):cnt S (a++[v])=cnt S a*sz S v:=by rw[ajG];simp[cnt]
def Pos (S:List Nat):Prop:=∀x∈S,1<=x
theorem kF (h:Pos S) (v:Nat):1<=sz S v:=by
 rw[sz];cases e:S[v]? with
 |none=>simp
 |some x=>exact h x (MP e)
theorem Ic (h:Pos S) (vs:List Nat):1<=cnt S vs:=by
 induction vs with
 |nil=>exact aq _
 |cons v vs ih=>exact jm (kF h v) ih
def kR (S:List Nat):List Nat ->Nat ->List Nat
 |[],_=>[]
 |_::vs,k=>(k/cnt S vs)::kR S vs (k % cnt S vs)
theorem aau (S vs:List Nat):∀k,(kR S vs k).length=vs.length:=by
 induction vs with
 |nil=>intro _;rfl
 |cons v vs ih=>intro k;simp[kR,ih]
theorem WC (k c s:Nat):k % (s*c)/c=k/c % s:=by
 rw[cV s c,Nat.mod_mul_right_div_self]
theorem WB (k c s:Nat):k % (s*c) % c=k % c:=by
 rw[cV s c,Nat.mod_mul_right_mod]
def aV (S:List Nat):List Nat ->Nat ->Nat ->Nat
 |[],_,_=>0
 |u::vs,k,v=>if v=u then k/cnt S vs else aV S vs (k % cnt S vs) v
theorem Ev:∀ {vs:List Nat} {k v:Nat},¬v∈vs ->aV S vs k v=0
 |[],_,_,_=>rfl
 |u::vs,k,v,h=>by
  rw[aV,aD (fun e=>h (by rw[e];exact dB))];exact Ev fun e=>h (dF _ e)
def b6 (S:List Nat):List Nat ->Nat ->Nat
 |[],_=>0
 |u::vs,v=>if v=u then cnt S vs else b6 S vs v
theorem Ns:∀ {vs:List Nat} {v:Nat},¬v∈vs ->b6 S vs v=0
 |[],_,_=>rfl
 |u::vs,v,h=>by
  rw[b6,aD (fun e=>h (by rw[e];exact dB))];exact Ns fun e=>h (dF _ e)
def pos (S:List Nat) (f:Nat ->Nat) (vs:List Nat):Nat:=vs.foldl (fun k v=>k*sz S v+f v) 0
theorem aei (S:List Nat) (f:Nat ->Nat) (vs:List Nat) (v:Nat):pos S f (vs++[v])=pos S f vs*sz S v+f v:=by simp[pos]
def ei (g:Nat ->Nat):List Nat ->Nat
 |[]=>0
 |v::vs=>g v+ei g vs
theorem Uf (g:Nat ->Nat) (a b:List Nat):ei g (a++b)=ei g a+ei g b:=by
 induction a with
 |nil=>simp[ei]
 |cons v a ih=>simp only[eE,ei,ih];omega
theorem Dl {g h:Nat ->Nat}:∀ {l:List Nat},(∀v∈l,g v=h v) ->ei g l=ei h l
 |[],_=>rfl
 |v::l,e=>by rw[ei,ei,e v dB,Dl fun u hu=>e u (dF _ hu)]
theorem Lv (S:List Nat) (f:Nat ->Nat):∀(vs:List Nat) (k:Nat),vs.foldl (fun k v=>k*sz S v+f v) k=k*cnt S vs+pos S f vs
 |[],k=>by simp[pos,cnt]
 |v::vs,k=>by
  have e:pos S f (v::vs)=f v*cnt S vs+pos S f vs:=by
   show vs.foldl (fun k v=>k*sz S v+f v) (0*sz S v+f v)=_;rw[Lv S f vs,mC,bD]
  rw[zo,Lv S f vs,e,cnt,eL,gg];omega
theorem Kb (S:List Nat) (f:Nat ->Nat):∀ {vs:List Nat},vs.Nodup ->pos S f vs=ei (fun v=>f v*b6 S vs v) vs
 |[],_=>rfl
 |u::vs,h=>by
  rw[mU] at h;rw[pos,zo,Lv,ei,Kb S f h.2,mC,bD];congr 1
  ·rw[b6,aA rfl]
  ·exact Dl fun v hv=>by rw[b6,aD (fun e=>h.1 (by rw[<- e];exact hv))]
theorem Ug (g:Nat ->Nat) (n:Nat):∀ {vs:List Nat},vs.Nodup ->(∀v∈vs,v<n) ->(∀v,¬v∈vs ->g v=0) ->ei g vs=ei g (List.range n):=by
 intro vs hn hlt h0
 have key:∀ {vs:List Nat},vs.Nodup ->(∀v∈vs,v<n) ->ei g vs=ei (fun v=>if v∈vs then g v else 0) (List.range n):=by
  intro vs;induction vs with
  |nil=>
   intro _ _
   have:∀l:List Nat,ei (fun v=>if v∈([]:List Nat) then g v else 0) l=0:=by
    intro l;induction l with
    |nil=>rfl
    |cons x l ih=>rw[ei,ih];simp
   rw[this];rfl
  |cons u vs ih=>
   intro hn hlt;rw[mU] at hn;rw[ei,ih hn.2 fun v hv=>hlt v (dF _ hv)];have hu:=hlt u dB
   have one:∀m,u< m ->ei (fun v=>if v∈u::vs then g v else 0) (List.range m)=g u+ei (fun v=>if v∈vs then g v else 0) (List.range m):=by
    intro m;induction m with
    |zero=>intro h;omega
    |succ m OQ=>
     intro h;rw[oY,Uf,Uf];by_cases e:u=m
     ·subst e
      have:ei (fun v=>if v∈u::vs then g v else 0) (List.range u)=ei (fun v=>if v∈vs then g v else 0) (List.range u):=Dl fun v hv=>by
       (have:¬v=u:=by have:=cH.1 hv;omega);simp[this]
      rw[this];simp[ei,hn.1];omega
     ·rw[OQ (by omega)];have:¬m=u:=fun h=>e h.symm;simp[ei,this];omega
   rw[one n hu]
 rw[key hn hlt]
 exact Dl fun v _=>by
  by_cases h:v∈vs
  ·rw[aA h]
  ·rw[aD h,h0 v h]
theorem stand {other:List Nat} (n k:Nat) (hv:vs.Nodup) (ho:other.Nodup) (ie:∀v∈vs,v<n) (BX:∀v∈other,v<n):ei (fun v=>aV S vs k v*b6 S other v) vs=pos S (aV S vs k) other:=by
 rw[Kb S _ ho,Ug _ n hv ie,Ug _ n ho BX]
 ·intro v h;rw[Ns h,j3]
 ·intro v h;rw[Ev h,mC]
theorem akn (u:Nat) (FU:List Nat) (k v:Nat):aV S (u::FU) (k % cnt S (u::FU)) v=if v=u then k/cnt S FU % sz S u else aV S FU (k % cnt S FU) v:=by
 rw[aV,cnt,WC k _ _,WB]
variable {n v:Nat}
def ag (l:List Int):List Nat:=l.map Int.toNat
theorem cY (l:List Int):(ag l).length=l.length:=by simp[ag]
theorem mW (h:i<l.length):(ag l)[i]'(by rw[cY];exact h)=l[i].toNat:=by simp[ag]
structure dZ (l:List Int):Prop where
 one:1<=l.length
 eight:l.length<=8
 each:∀i (h:i<l.length),1<=l[i]/\l[i]<=4
theorem Q5 (h:lC l=true):dZ l:=by
 rw[lC,iK,eh] at h
 exact⟨h.1.1,h.1.2,fun i hi=>by
  have:=fE.1 h.2 l[i] (bM hi);simpa [xW] using this⟩
theorem dZ.pos (h:dZ l):Pos (ag l):=by
 intro x hx;obtain⟨i,hi,rfl⟩:=List.mem_iff_getElem.1 hx;rw[cY] at hi;rw[mW hi];have:=h.each i hi;omega
theorem dZ.sz_le (h:dZ l) (v:Nat):sz (ag l) v<=4:=by
 rw[sz];by_cases hv:v<l.length
 ·rw[a8 (by rw[cY];exact hv),xE,mW hv];have:=h.each v hv;omega
 ·rw[iJ (by rw[cY];omega)];simp
theorem dZ.sz_eq (h:dZ l) (hv:v<l.length):(sz (ag l) v:Int)=l[v]:=by
 rw[sz,a8 (by rw[cY];exact hv),xE,mW hv];have:=h.each v hv;omega
structure Up (l:List Int) (n:Nat):Prop where
 each:∀i (h:i<l.length),0<=l[i]/\l[i]<n
 lt:∀i j (hj:j<l.length) (hi:i<j),l[i]<l[j]
theorem xQ (h:dR l n=true):Up l n:=by
 have aZ:∀i (hi:i<l.length),0<=l[i]/\l[i]<(n:Int)/\(0< i ->l.getD (i - 1) 0<l[i]):=fun i hi=>by
  have:=fE.1 h i (cH.2 hi);rw[j8,eh,getD_eq hi] at this;exact this
 refine⟨fun i hi=>⟨(aZ i hi).1,(aZ i hi).2.1⟩,?_⟩;intro i j;induction j with
 |zero=>intro _ h;omega
 |succ j ih=>
  intro hj hi;have h1:=(aZ (j+1) hj).2.2 (by omega);rw[Jn,getD_eq (by omega)] at h1;rcases cT i j with h2 |h2
  ·have:=ih (by omega) h2;omega
  ·obtain rfl:i=j:=by omega
   exact h1
theorem Up.nat (h:Up l n) (hi:i<l.length):((l[i].toNat:Nat):Int)=l[i]/\l[i].toNat<n:=by
 have:=h.each i hi;constructor<;>omega
theorem Up.aa (h:Up l n):∀v∈ag l,v<n:=by
 intro v hv;obtain⟨i,hi,rfl⟩:=List.mem_iff_getElem.1 hv;rw[cY] at hi;rw[mW hi];exact(h.nat hi).2
theorem Up.nodup (h:Up l n):(ag l).Nodup:=by
 rw[List.Nodup,vK];intro i j hi hj uy;rw[cY] at hi hj;rw[mW hi,mW hj];have h1:=h.lt i j hj uy;have h2:=h.each i hi;omega
theorem Up.ge (h:Up l n):∀i (hi:i<l.length),(i:Int)<=l[i]:=by
 intro i;induction i with
 |zero=>intro hi;exact(h.each 0 hi).1
 |succ i ih=>
  intro hi;have:=ih (by omega);have:=h.lt i (i+1) hi (by omega);omega
theorem Up.length (h:Up l n):l.length<=n:=by
 rcases xH l.length with h0 |h0
 ·omega
 ·have h1:=h.ge (l.length - 1) (by omega);have h2:=(h.each (l.length - 1) (by omega)).2;omega
theorem aaz (h:∀v,sz S v<=4):∀vs:List Nat,cnt S vs<=4^vs.length
 |[]=>aq _
 |v::vs=>by
  rw[cnt,dI,gH,cV (4^_)];exact jm (h v) (aaz h vs)
theorem qM (h:∀v,sz S v<=4) (hv:vs.length<=8):cnt S vs<=65536:=by
 have h1:=aaz h vs;have h2:4^vs.length<=4^8:=iX (by decide) hv;have h3:(4:Nat)^8=65536:=by decide
 omega
theorem Rc (S vs:List Nat) (h:i<vs.length):cnt S (vs.take (i+1))=cnt S (vs.take i)*sz S vs[i]:=by
 rw[fP h,ajD]
def countB (sizes vars:List Int):Bool:=lC sizes&&dR vars sizes.length
def iF (sizes vars:List Int):Int×Int:=if countB sizes vars=true then(((cnt (ag sizes) (ag vars):Nat):Int),0) else(0,11)
theorem Cp {sizes vars:List Int} (h:countB sizes vars=true):iF sizes vars=(((cnt (ag sizes) (ag vars):Nat):Int),0):=aA h
theorem Cq {sizes vars:List Int} (h:countB sizes vars=false):iF sizes vars=(0,11):=aD (by rw[h];decide)
theorem U6 (a b:Option Addr) (ca cb:Nat) (sizes vars:List Int) (w:World) (hs:aC w a sizes) (hv:aC w b vars) (hn:sizes.length<=140737488355328) (hm:vars.length<=140737488355328):
  Calls Tryz.prog 55 #[.slice a sizes.length ca,.slice b vars.length cb] w fun e w'=>e=.returned (.tuple #[.int .i64 (iF sizes vars).1,.int .i64 (iF sizes vars).2])/\Below w.heap.size w w':=by
 have HS:=hid hs;have HV:=hid hv;clear hs hv;have vB:=hid (fun V h=>ad0 a ca sizes V h hn);have wZ:=hid (fun V h=>adR b cb vars sizes.length V h hm);cases hf:lC sizes with
 |false=>
  have HA:=hid (Cq (sizes:=sizes) (vars:=vars) (by rw[countB,hf];rfl));rw[hf] at vB;generalize iF sizes vars=r at *;generalize dR vars sizes.length=rb at *;go_enter Tryz.func55,Tryz.ntmps55;go_wp2_with fail
  refine(vB.o _ HS.o).af ?_;rintro e w1 ⟨rfl,hb1⟩;go_wp2_with fail
  refine(wZ.o _ (HV.o.aa hb1)).af ?_;rintro e w2 ⟨rfl,hb2⟩;have hB2:=hb1.trans (hb2.af hb1.size);go_wp2;go_ret2;exact⟨by rw[HA.o];rfl,hB2⟩
 |true=>
  rw[hf] at vB;cases hr:dR vars sizes.length with
  |false=>
   have HA:=hid (Cq (sizes:=sizes) (vars:=vars) (by rw[countB,hr,Bool.and_false]));rw[hr] at wZ;generalize iF sizes vars=r at *;go_enter Tryz.func55,Tryz.ntmps55;go_wp2_with fail
   refine(vB.o _ HS.o).af ?_;rintro e w1 ⟨rfl,hb1⟩;go_wp2_with fail
   refine(wZ.o _ (HV.o.aa hb1)).af ?_;rintro e w2 ⟨rfl,hb2⟩;have hB2:=hb1.trans (hb2.af hb1.size);go_wp2;go_ret2;exact⟨by rw[HA.o];rfl,hB2⟩
  |true=>
   have HA:=hid (Cp (sizes:=sizes) (vars:=vars) (by rw[countB,hf,hr];rfl));rw[hr] at wZ;have PO:=Q5 hf;have aT:=xQ hr;have nE:=PO.eight;have ie:=aT.length;have cC:=hid PO;have iV:=hid aT;clear hf hr PO aT;generalize iF sizes vars=r at *;go_enter Tryz.func55,Tryz.ntmps55;go_wp2_with fail
   refine(vB.o _ HS.o).af ?_;rintro e w1 ⟨rfl,hb1⟩;go_wp2_with fail
   refine(wZ.o _ (HV.o.aa hb1)).af ?_;rintro e w2 ⟨rfl,hb2⟩;have hB2:=hb1.trans (hb2.af hb1.size);clear hb1 hb2;go_wp2_with fail
   go_loopw [8,9] (fun nv iv wr=>∃i:Nat,i<=vars.length/\iv=.int .i64 i/\nv=.int .i64 (cnt (ag sizes) ((ag vars).take i):Nat)/\Below w.heap.size w wr) (fun _ iv _=>vars.length - (intOf iv).toNat)
   case atStart=>exact⟨0,aU _,rfl,rfl,hB2⟩
   case round=>
    obtain⟨i,hi,rfl,rfl,hB⟩:=hrel;by_cases hlt:i<vars.length
    ·obtain⟨g,o,rfl,hg,c0⟩:=(HV.o.aa hB) i hlt;obtain⟨iA,iN⟩:=iV.o.nat hlt
     have hst:cnt (ag sizes) ((ag vars).take (i+1))=cnt (ag sizes) ((ag vars).take i)*sz (ag sizes) vars[i].toNat:=by
      rw[Rc _ _ (by rw[cY];exact hlt),mW hlt]
     have hsm:cnt (ag sizes) ((ag vars).take (i+1))<=65536:=qM cC.o.sz_le (by rw[dP,cY];omega);generalize hV:vars[i].toNat=v at *;rw[<- iA] at c0;obtain⟨g',o',rfl,iO,c1⟩:=(HS.o.aa hB) v iN;rw[<- cC.o.sz_eq iN] at c1;rw[hst] at hsm;have gK:((cnt (ag sizes) ((ag vars).take i):Nat):Int)*((sz (ag sizes) v:Nat):Int)=((cnt (ag sizes) ((ag vars).take i)*sz (ag sizes) v:Nat):Int):=(jG _ _).symm;have HST:=hid hst;clear hst iA hV;generalize cnt (ag sizes) ((ag vars).take i)=X at *;generalize sz (ag sizes) v=Y at *;(have yj:0<=(X:Int)*(Y:Int):=by rw[gK];omega);(have BW:(X:Int)*(Y:Int)<=65536:=by rw[gK];omega);have xe:=hid gK;clear gK;go_wp2;go_roundw
     case rel=>exact⟨i+1,by omega,by go_num,by rw[HST.o, <- xe.o],hB⟩
     case measure=>simp[intOf];omega
    ·obtain rfl:i=vars.length:=by omega
     rw[jn (by rw[cY];exact aq _)];go_wp2;go_ret2;exact⟨by rw[HA.o];rfl,hB⟩
def o0 (S vs:List Nat) (l:List Int) (i:Nat):Bool:=decide (0<=l.getD i 0/\l.getD i 0<(sz S (vs.getD i 0):Int))
def pw (S vs l:List Nat) (n:Nat):Nat:=(List.range n).foldl (fun k i=>k*sz S (vs.getD i 0)+l.getD i 0) 0
theorem OU (S vs l:List Nat) (n:Nat):pw S vs l (n+1)=pw S vs l n*sz S (vs.getD n 0)+l.getD n 0:=by
 rw[pw,oY,List.foldl_append];rfl
theorem qL {l:List Nat} (h:i<l.length):l.getD i 0=l[i]:=by simp[List.getD,h]
theorem Xl:∀(n:Nat),n<=vs.length ->n<=l.length ->(List.range n).all (o0 S vs l)=true ->pw S vs (ag l) n<cnt S (vs.take n)
 |0,_,_,_=>by simp[pw,cnt]
 |n+1,h1,h2,h=>by
  rw[oY,Fx,iK] at h;have ih:=Xl n (by omega) (by omega) h.1;have hv:o0 S vs l n=true:=by simpa using h.2
  rw[o0,eh,getD_eq (by omega),qL (by omega)] at hv;rw[OU,Rc S vs (by omega),qL (show n<vs.length by omega),qL (by rw[cY];omega),mW (by omega)];have:(pw S vs (ag l) n+1)*sz S vs[n]<=cnt S (vs.take n)*sz S vs[n]:=jl _ ih;rw[eL,jF] at this;omega
def rH (sizes vars l:List Int):Int×Int:=
 if countB sizes vars=true then(if l.length=vars.length then(if (List.range vars.length).all (o0 (ag sizes) (ag vars) l)=true then(((pw (ag sizes) (ag vars) (ag l) vars.length:Nat):Int),0) else(0,12)) else(0,8)) else(0,11)
theorem agQ {sizes vars:List Int} (h:countB sizes vars=false):rH sizes vars l=(0,11):=aD (by rw[h];decide)
theorem agR {sizes vars:List Int} (h:countB sizes vars=true) (h1:¬l.length=vars.length):rH sizes vars l=(0,8):=by rw[rH,aA h,aD h1]
theorem agP {sizes vars:List Int} (h:countB sizes vars=true) (h1:l.length=vars.length) (hi:i<vars.length) (h2:o0 (ag sizes) (ag vars) l i=false):rH sizes vars l=(0,12):=by
 rw[rH,aA h,aA h1,aD];rw[Bool.not_eq_true,De];exact⟨i,cH.2 hi,by rw[h2];decide⟩
theorem Xj {sizes vars:List Int} (h:countB sizes vars=true) (h1:l.length=vars.length) (h2:(List.range vars.length).all (o0 (ag sizes) (ag vars) l)=true):rH sizes vars l=(((pw (ag sizes) (ag vars) (ag l) vars.length:Nat):Int),0):=by
 rw[rH,aA h,aA h1,aA h2]
theorem val_succ (h0:(List.range i).all (o0 S vs l)=true) (e:o0 S vs l i=true):(List.range (i+1)).all (o0 S vs l)=true:=by
 rw[oY,Fx,h0];simp[e]
theorem LJ {sizes vars:List Int} (h:countB sizes vars=true):dZ sizes/\Up vars sizes.length:=by
 rw[countB,iK] at h;exact⟨Q5 h.1,xQ h.2⟩
theorem adX (a b c:Option Addr) (ca cb cc:Nat) (sizes vars l:List Int) (w:World) (hs:aC w a sizes) (hv:aC w b vars) (hl:aC w c l) (hn:sizes.length<=140737488355328) (hm:vars.length<=140737488355328) (hk:l.length<=140737488355328):
  Calls Tryz.prog 24 #[.slice a sizes.length ca,.slice b vars.length cb,.slice c l.length cc] w fun e w'=>e=.returned (.tuple #[.int .i64 (rH sizes vars l).1,.int .i64 (rH sizes vars l).2])/\Below w.heap.size w w':=by
 have HS:=hid hs;have HV:=hid hv;have HL:=hid hl;have HC:=hid (fun V h1 h2=>U6 a b ca cb sizes vars V h1 h2 hn hm);clear hs hv hl;cases hcb:countB sizes vars with
 |false=>
  have HA:=hid (agQ (l:=l) hcb);rw[Cq hcb] at HC;simp only at HC;generalize rH sizes vars l=r at *;go_enter Tryz.func24,Tryz.ntmps24;go_wp2_with fail
  refine(HC.o _ HS.o HV.o).af ?_;rintro e w1 ⟨rfl,hb1⟩;go_wp2;go_ret2;exact⟨by rw[HA.o];rfl,hb1⟩
 |true=>
  have HN:=hid (fun h=>agR (l:=l) hcb h);have HB:=hid (fun i h hi h2=>agP (l:=l) hcb h (i:=i) hi h2);have HO:=hid (fun h h2=>Xj (l:=l) hcb h h2);rw[Cp hcb] at HC;simp only at HC;obtain⟨aJ,aT⟩:=LJ hcb;have nE:=aJ.eight;have ie:=aT.length;have cC:=hid aJ;have iV:=hid aT;clear hcb aJ aT;generalize rH sizes vars l=r at *;generalize cnt (ag sizes) (ag vars)=N0 at *;go_enter Tryz.func24,Tryz.ntmps24;go_wp2_with fail
  refine(HC.o _ HS.o HV.o).af ?_;rintro e w1 ⟨rfl,hb1⟩;by_cases hlen:l.length=vars.length
  ·have HLEN:=hid hlen;(have iC:((l.length:Int)==(vars.length:Int))=true:=by simp[hlen]);(have hli:(l.length:Int)=(vars.length:Int):=by omega);have Gz:¬¬l.length=vars.length:=fun h=>h hlen;clear HN;go_wp2_with fail
   go_loopw [10,11] (fun kv iv wr=>∃i:Nat,i<=vars.length/\iv=.int .i64 i/\kv=.int .i64 (pw (ag sizes) (ag vars) (ag l) i:Nat)/\Hid ((List.range i).all (o0 (ag sizes) (ag vars) l)=true)/\Below w.heap.size w wr) (fun _ iv _=>vars.length - (intOf iv).toNat)
   case atStart=>exact⟨0,aU _,rfl,rfl,rfl,hb1⟩
   case round=>
    obtain⟨i,hi,rfl,rfl,HI,hB⟩:=hrel;clear hb1 iC hli Gz;by_cases hlt:i<vars.length
    ·obtain⟨g,o,rfl,hg,c0⟩:=(HV.o.aa hB) i hlt;obtain⟨g2,o2,rfl,hg2,c2⟩:=(HL.o.aa hB) i (by rw[HLEN.o];exact hlt);obtain⟨iA,iN⟩:=iV.o.nat hlt
     have oz:o0 (ag sizes) (ag vars) l i=decide (0<=l[i]'(by omega)/\l[i]'(by omega)<(sz (ag sizes) vars[i].toNat:Int)):=by
      rw[o0,getD_eq (by omega),qL (by rw[cY];exact hlt),mW hlt]
     have hst:pw (ag sizes) (ag vars) (ag l) (i+1)=pw (ag sizes) (ag vars) (ag l) i*sz (ag sizes) vars[i].toNat+(l[i]'(by omega)).toNat:=by
      rw[OU,qL (show i<(ag vars).length by rw[cY];exact hlt),mW hlt,qL (show i<(ag l).length by rw[cY];omega),mW (by omega)]
     have S4:=hid (fun h2=>HB.o i HLEN.o hlt h2)
     have YW:o0 (ag sizes) (ag vars) l i=true ->pw (ag sizes) (ag vars) (ag l) (i+1)<65537:=fun h=>by
      have h1:=Xl (i+1) (by rw[cY];omega) (by omega) (val_succ HI.o h);have h2:cnt (ag sizes) ((ag vars).take (i+1))<=65536:=qM cC.o.sz_le (by rw[dP,cY];omega);omega
     have dD:=hid YW;have tE:=hid (fun h=>val_succ HI.o h (i:=i));(have OY:i<l.length:=by omega);generalize hV:vars[i].toNat=v at *;rw[<- iA] at c0;obtain⟨g',o',rfl,iO,c1⟩:=(HS.o.aa hB) v iN;rw[<- cC.o.sz_eq iN] at c1;have oM:=hid oz;have HST:=hid hst;clear hst iA hV oz YW;generalize pw (ag sizes) (ag vars) (ag l) i=X at *;generalize sz (ag sizes) v=Y at *;generalize l[i]=x at *;by_cases e0:x<0
     ·have HE:=hid (S4.o (by rw[oM.o];exact cD (by omega)));have d0:decide (x<0)=true:=cS e0;go_wp2_with fail
      go_quiet (fail)
      go_wp2;go_ret2;exact⟨by rw[HE.o];rfl,Am hB _⟩
     ·have d0:decide (x<0)=false:=cD e0;by_cases e1:(Y:Int)<=x
      ·have HE:=hid (S4.o (by rw[oM.o];exact cD (by omega)));have d1:decide ((Y:Int)<=x)=true:=cS e1;go_wp2_with fail
       go_quiet (fail)
       go_wp2;go_ret2;exact⟨by rw[HE.o];rfl,Am hB _⟩
      ·have d1:decide ((Y:Int)<=x)=false:=cD e1;(have aZ:o0 (ag sizes) (ag vars) l i=true:=by rw[oM.o];exact cS (by omega));have h1:=dD.o aZ;rw[HST.o] at h1;have mL:=hid (tE.o aZ);have gK:((X:Nat):Int)*((Y:Nat):Int)=((X*Y:Nat):Int):=(jG _ _).symm;(have yj:0<=(X:Int)*(Y:Int):=by rw[gK];omega);(have BW:(X:Int)*(Y:Int)+x<=65536:=by rw[gK];omega);(have SJ:Hid ((X:Int)*(Y:Int)+x=((X*Y+x.toNat:Nat):Int)):=by show _=_;rw[gK];omega);clear gK h1 aZ dD S4 HB;go_wp2_with fail
       go_quiet (fail)
       go_wp2_with fail
       go_quiet (fail)
       go_wp2;go_roundw
       case rel=>exact⟨i+1,by omega,by go_num,by rw[HST.o, <- SJ.o],mL.o,Am hB _⟩
       case measure=>simp[intOf];omega
    ·obtain rfl:i=vars.length:=by omega
     have HE:=hid (HO.o HLEN.o HI.o);go_wp2;go_ret2;exact⟨by rw[HE.o];rfl,hB⟩
  ·have HE:=hid (HN.o hlen);(have iC:((l.length:Int)==(vars.length:Int))=false:=by simp;omega);go_wp2;go_ret2;exact⟨by rw[HE.o];rfl,hb1⟩
theorem agm (a:Option Addr) (cap:Nat) (l:List Int) (w:World) (h:aC w a l) (hn:l.length<=140737488355328):
  Calls Tryz.prog 80 #[.slice a l.length cap] w fun e w'=>e=.returned (.bool (lC l))/\Below w.heap.size w w':=by
 have HF:=hid h;clear h;by_cases hl:1<=l.length/\l.length<=8
 ·have HB:Hid (lC l=l.all xW):=by show _=_;rw[lC,cS hl];rfl
  obtain⟨kL,hl2⟩:=hl;generalize lC l=fb at *;go_enter Tryz.func80,Tryz.ntmps80;go_wp2_with fail
  go_loopw [15] (fun iv wr=>∃i:Nat,i<=l.length/\iv=.int .i64 i/\Hid ((l.take i).all xW=true)/\Below w.heap.size w wr) (fun iv _=>l.length - (intOf iv).toNat)
  case atStart=>exact⟨0,aU _,rfl,rfl,au _ _⟩
  case round=>
   obtain⟨i,hi,rfl,HI,hB⟩:=hrel;by_cases hlt:i<l.length
   ·obtain⟨g,o,rfl,hg,c0⟩:=(HF.o.aa hB) i hlt;by_cases e:1<=l[i]/\l[i]<=4
    ·have HS:=hid (aaY hlt HI.o (p:=xW) (cS e));obtain⟨e1,e2⟩:=e;generalize l[i]=x at *;go_wp2;go_roundw
     case rel=>exact⟨i+1,by omega,by go_num,HS.o,hB⟩
     case measure=>simp[intOf];omega
    ·have HE:Hid (fb=false):=by show _=_;rw[HB.o];exact aa0 hlt (cD e)
     rcases (show l[i]<1∨(1<=l[i]/\4<l[i]) by omega) with h3 |⟨h3,h4⟩
     all_goals
      clear e;generalize l[i]=x at *;go_wp2;go_ret;exact⟨by rw[HE.o];rfl,hB⟩
   ·have HE:Hid (fb=true):=by
     show _=_;rw[HB.o];have:=HI.o;rwa [jn (by omega)] at this
    go_wp2;go_ret;exact⟨by rw[HE.o];rfl,hB⟩
 ·have HE:Hid (lC l=false):=by show _=_;rw[lC,cD hl];rfl
  generalize lC l=fb at *;go_enter Tryz.func80,Tryz.ntmps80;rcases (show l.length<1∨(1<=l.length/\8<l.length) by omega) with h3 |⟨h3,h4⟩
  all_goals
   go_wp2;go_ret;exact⟨by rw[HE.o];rfl,au _ _⟩
def least (l:List Int) (i:Nat):Int:=if i=0 then 0 else l.getD (i - 1) 0+1
theorem Xa (h:i<l.length):least l (i+1)=l[i]+1:=by
 rw[least,aD (by omega),Jn,getD_eq h]
theorem V1 {n:Int} (hi:i<l.length) (h:(List.range i).all (j8 l n)=true):j8 l n i=decide (least l i<=l[i]/\l[i]<n)/\0<=least l i:=by
 rw[j8,getD_eq hi,least];by_cases h0:i=0
 ·subst h0;refine⟨?_,by simp⟩;simp
 ·have hp:=fE.1 h (i - 1) (cH.2 (by omega));rw[j8,eh,getD_eq (by omega)] at hp;rw[aD h0,getD_eq (by omega)];refine⟨?_,by omega⟩;rw[AW];constructor
  ·intro ⟨_,h2,h3⟩;have:=h3 (by omega);exact⟨by omega,h2⟩
  ·intro ⟨h1,h2⟩;exact⟨by omega,h2,fun _=>by omega⟩
theorem adC (a:Option Addr) (cap:Nat) (l:List Int) (n:Int) (w:World) (h:aC w a l) (hn:l.length<=140737488355328) (uu:n<=140737488355328):
  Calls Tryz.prog 81 #[.slice a l.length cap,.int .i64 n] w fun e w'=>e=.returned (.bool (dR l n))/\Below w.heap.size w w':=by
 have HF:=hid h;clear h;have HB:=hid (fun i h e=>ND (l:=l) (n:=n) (i:=i) h e);have HT:Hid ((List.range l.length).all (j8 l n)=true ->dR l n=true):=id;generalize dR l n=rb at *;go_enter Tryz.func81,Tryz.ntmps81;go_wp2_with fail
 go_loopw [5,10] (fun lv iv wr=>∃i:Nat,i<=l.length/\iv=.int .i64 i/\lv=.int .i64 (least l i)/\Hid ((List.range i).all (j8 l n)=true)/\Below w.heap.size w wr) (fun _ iv _=>l.length - (intOf iv).toNat)
 case atStart=>exact⟨0,aU _,rfl,rfl,rfl,au _ _⟩
 case round=>
  obtain⟨i,hi,rfl,rfl,HI,hB⟩:=hrel;by_cases hlt:i<l.length
  ·obtain⟨g,o,rfl,hg,c0⟩:=(HF.o.aa hB) i hlt;obtain⟨aZ,hl0⟩:=V1 hlt HI.o;have CP:=hid (Xa hlt);have xg:=hid aZ;clear aZ;generalize least l i=m at *;generalize l[i]=x at *;by_cases e:m<=x/\x<n
   ·have HS:=hid (JY HI.o (by rw[xg.o];exact cS e));obtain⟨e1,e2⟩:=e;go_wp2;go_roundw
    case rel=>exact⟨i+1,by omega,by go_num,by rw[CP.o],HS.o,hB⟩
    case measure=>simp[intOf];omega
   ·have HE:=hid (HB.o i hlt (by rw[xg.o];exact cD e));rcases (show x<m∨(m<=x/\n<=x) by omega) with h3 |⟨h3,h4⟩
    all_goals
     clear e;go_wp2;go_ret;exact⟨by rw[HE.o];rfl,hB⟩
  ·obtain rfl:i=l.length:=by omega
   have HE:=hid (HT.o HI.o);go_wp2;go_ret;exact⟨by rw[HE.o];rfl,hB⟩
theorem aax (a b:Option Addr) (ca cb:Nat) (sizes vars:List Int) (w:World) (hs:aC w a sizes) (hv:aC w b vars) (aJ:dZ sizes) (aT:Up vars sizes.length):
  Calls Tryz.prog 82 #[.slice a sizes.length ca,.slice b vars.length cb] w fun e w'=>e=.returned (.int .i64 (cnt (ag sizes) (ag vars):Nat))/\Below w.heap.size w w':=by
 have HS:=hid hs;have HV:=hid hv;have nE:=aJ.eight;have ie:=aT.length;have cC:=hid aJ;have iV:=hid aT;clear hs hv aJ aT;have I6:Hid (cnt (ag sizes) ((ag vars).take vars.length)=cnt (ag sizes) (ag vars)):=by show _=_;rw[jn (by rw[cY];exact aq _)]
 go_enter Tryz.func82,Tryz.ntmps82;go_wp2_with fail
 go_loopw [5,10] (fun nv iv wr=>∃i:Nat,i<=vars.length/\iv=.int .i64 i/\nv=.int .i64 (cnt (ag sizes) ((ag vars).take i):Nat)/\Below w.heap.size w wr) (fun _ iv _=>vars.length - (intOf iv).toNat)
 case atStart=>exact⟨0,aU _,rfl,rfl,au _ _⟩
 case round=>
  obtain⟨i,hi,rfl,rfl,hB⟩:=hrel;by_cases hlt:i<vars.length
  ·obtain⟨g,o,rfl,hg,c0⟩:=(HV.o.aa hB) i hlt;obtain⟨iA,iN⟩:=iV.o.nat hlt
   have hst:cnt (ag sizes) ((ag vars).take (i+1))=cnt (ag sizes) ((ag vars).take i)*sz (ag sizes) vars[i].toNat:=by
    rw[Rc _ _ (by rw[cY];exact hlt),mW hlt]
   have hsm:cnt (ag sizes) ((ag vars).take (i+1))<=65536:=qM cC.o.sz_le (by rw[dP,cY];omega);generalize hV:vars[i].toNat=v at *;rw[<- iA] at c0;obtain⟨g',o',rfl,iO,c1⟩:=(HS.o.aa hB) v iN;rw[<- cC.o.sz_eq iN] at c1;rw[hst] at hsm;have gK:((cnt (ag sizes) ((ag vars).take i):Nat):Int)*((sz (ag sizes) v:Nat):Int)=((cnt (ag sizes) ((ag vars).take i)*sz (ag sizes) v:Nat):Int):=(jG _ _).symm;have HST:=hid hst;clear hst iA hV;generalize cnt (ag sizes) ((ag vars).take i)=X at *;generalize sz (ag sizes) v=Y at *;(have yj:0<=(X:Int)*(Y:Int):=by rw[gK];omega);(have BW:(X:Int)*(Y:Int)<=65536:=by rw[gK];omega);have xe:=hid gK;clear gK;go_wp2;go_roundw
   case rel=>exact⟨i+1,by omega,by go_num,by rw[HST.o, <- xe.o],hB⟩
   case measure=>simp[intOf];omega
  ·obtain rfl:i=vars.length:=by omega
   rw[I6.o];go_wp2;go_ret;exact⟨rfl,hB⟩
theorem JP (a b:Option Addr) (ca cb:Nat) (sizes vars:List Int) (w:World) (hs:aC w a sizes) (hv:aC w b vars) (hn:sizes.length<=140737488355328) (hm:vars.length<=140737488355328):
  Calls Tryz.prog 37 #[.slice a sizes.length ca,.slice b vars.length cb] w fun e w'=>e=.returned (.tuple #[.int .i64 (iF sizes vars).1,.int .i64 (iF sizes vars).2])/\Below w.heap.size w w':=by
 have HS:=hid hs;have HV:=hid hv;clear hs hv;have vB:=hid (fun V h=>agm a ca sizes V h hn);have wZ:=hid (fun V h=>adC b cb vars sizes.length V h hm (by omega));cases hf:lC sizes with
 |false=>
  have HA:=hid (Cq (sizes:=sizes) (vars:=vars) (by rw[countB,hf];rfl));rw[hf] at vB;generalize iF sizes vars=r at *;go_enter Tryz.func37,Tryz.ntmps37;go_wp2_with fail
  refine(vB.o _ HS.o).af ?_;rintro e w1 ⟨rfl,hb1⟩;go_wp2;go_ret2;exact⟨by rw[HA.o];rfl,hb1⟩
 |true=>
  rw[hf] at vB;cases hr:dR vars sizes.length with
  |false=>
   have HA:=hid (Cq (sizes:=sizes) (vars:=vars) (by rw[countB,hr,Bool.and_false]));rw[hr] at wZ;generalize iF sizes vars=r at *;go_enter Tryz.func37,Tryz.ntmps37;go_wp2_with fail
   refine(vB.o _ HS.o).af ?_;rintro e w1 ⟨rfl,hb1⟩;go_wp2_with fail
   refine(wZ.o _ (HV.o.aa hb1)).af ?_;rintro e w2 ⟨rfl,hb2⟩;have hB2:=hb1.trans (hb2.af hb1.size);go_wp2;go_ret2;exact⟨by rw[HA.o];rfl,hB2⟩
  |true=>
   have HA:=hid (Cp (sizes:=sizes) (vars:=vars) (by rw[countB,hf,hr];rfl));rw[hr] at wZ;have vE:=hid (fun V h1 h2=>aax a b ca cb sizes vars V h1 h2 (Q5 hf) (xQ hr));generalize iF sizes vars=r at *;go_enter Tryz.func37,Tryz.ntmps37;go_wp2_with fail
   refine(vB.o _ HS.o).af ?_;rintro e w1 ⟨rfl,hb1⟩;go_wp2_with fail
   refine(wZ.o _ (HV.o.aa hb1)).af ?_;rintro e w2 ⟨rfl,hb2⟩;have hB2:=hb1.trans (hb2.af hb1.size);go_wp2_with fail
   refine(vE.o _ (HS.o.aa hB2) (HV.o.aa hB2)).af ?_;rintro e w3 ⟨rfl,hb3⟩;go_wp2;go_ret2;exact⟨by rw[HA.o];rfl,hB2.trans (hb3.af hB2.size)⟩
theorem agL (a:Option Addr) (ca:Nat) (sizes:List Int) (v:Nat) (x:Int) (w:World) (hs:aC w a sizes) (aJ:dZ sizes) (hv:v<sizes.length):
  Calls Tryz.prog 154 #[.slice a sizes.length ca,.int .i64 (v:Nat),.int .i64 x] w fun e w'=>e=.returned (.bool (decide (0<=x/\x<(sz (ag sizes) v:Int))))/\Below w.heap.size w w':=by
 obtain⟨g,o,rfl,hg,c0⟩:=hs v hv;rw[<- aJ.sz_eq hv] at c0;have nE:=aJ.eight;generalize sz (ag sizes) v=Y at *;by_cases e:0<=x/\x<(Y:Int)
 ·rw[cS e];obtain⟨e1,e2⟩:=e;go_enter Tryz.func154,Tryz.ntmps154;go_wp2;go_ret;exact⟨rfl,au _ _⟩
 ·rw[cD e];rcases (show x<0∨(0<=x/\(Y:Int)<=x) by omega) with h3 |⟨h3,h4⟩
  all_goals
   clear e;go_enter Tryz.func154,Tryz.ntmps154;go_wp2;go_ret
   first
    |exact⟨rfl,au _ _⟩
    |exact⟨cU (fun b=>Ending.returned (Value.bool b)) (cD (by omega)),au _ _⟩
def az:List Nat ->Nat
 |[]=>0
 |v::l=>az l |||2^v
theorem pq (l:List Nat) (v:Nat):(az l).testBit v=decide (v∈l):=by
 induction l with
 |nil=>simp[az]
 |cons u l ih=>
  rw[az,Nat.testBit_or,ih,Nat.testBit_two_pow];by_cases h:u=v
  ·subst h;simp
  ·have h':¬v=u:=fun e=>h e.symm;simp[h,h']
theorem Oy {a b:List Nat} (h:∀x,x∈a↔x∈b):az a=az b:=by
 apply Jm;intro i;rw[pq,pq];exact AW.2 (h i)
theorem sS:∀ {l:List Nat},(∀v∈l,v<8) ->az l<256
 |[],_=>by decide
 |v::l,h=>by
  have h1:=sS (l:=l) fun u hu=>h u (dF _ hu);have h2:2^v<2^8:=MJ (by decide) (h v dB);exact Nat.or_lt_two_pow (n:=8) h1 h2
theorem akf (s v:Nat):(s/2^v&&&1=1)↔s.testBit v=true:=by
 rw[Nat.testBit_eq_decide_div_mod_eq,eh,Nat.and_one_is_mod]
theorem ahm {s p:Nat} (hs:s<256) (hp:p<256):(p&&&(4294967295 - s)=0)↔∀v,p.testBit v=true ->s.testBit v=true:=by
 have e:4294967295 - s=2^32 - (s+1):=by omega
 have hs':s<2^32:=by omega
 rw[e];constructor
 ·intro h v hv;have h1:(p&&&(2^32 - (s+1))).testBit v=false:=by rw[h];simp
  rw[Nat.testBit_and,hv,MH hs',Df] at h1
  have hlt:v<32:=by
   rcases cT v 32 with h2 |h2
   ·exact h2
   ·have:=Nat.testBit_lt_two_pow (x:=p) (i:=v) (aO (show p<2^32 by omega) (iX (by decide) h2));rw[this] at hv;cases hv
  simpa [hlt] using h1
 ·intro h;apply Jm;intro i;rw[Nat.testBit_and,MH hs',Nat.zero_testBit];cases hp':p.testBit i
  ·rfl
  ·rw[h i hp'];simp
theorem Dr (l:List Nat) (v:Nat) (w:World) (hl:∀u∈l,u<8) (hv:v<8):
  Calls Tryz.prog 143 #[.int .u32 (az l:Nat),.int .i64 (v:Nat)] w fun e w'=>e=.returned (.int .u32 (az (v::l):Nat))/\w'=w:=by
 have hs:=sS hl;have h2:2^v<256:=show 2^v<2^8 from MJ (by decide) hv
 have HE:Hid (bits BinOp.or IntKind.u32 (az l:Nat) (2^v % 4294967296)=((az (v::l):Nat):Int)):=by
  show _=_
  have e:((2:Int)^v % 4294967296)=((2^v:Nat):Int):=by
   (have e2:((2:Int)^v)=((2^v:Nat):Int):=by rw[Int.natCast_pow];rfl);rw[e2];generalize (2^v:Nat)=q at *;omega
  rw[e,u32_or_nat _ _ (by omega) (by omega)];rfl
 generalize az (v::l)=r at *;generalize az l=s at *;go_enter Tryz.func143,Tryz.ntmps143;go_wp2;go_ret;exact⟨by rw[HE.o];rfl,rfl⟩
theorem NA (l:List Nat) (v:Nat) (w:World) (hl:∀u∈l,u<8) (hv:v<8):
  Calls Tryz.prog 129 #[.int .u32 (az l:Nat),.int .i64 (v:Nat)] w fun e w'=>e=.returned (.bool (decide (v∈l)))/\w'=w:=by
 have hs:=sS hl
 have HE:Hid ((bits BinOp.and IntKind.u32 ((az l:Nat)/2^v) 1==1)=decide (v∈l)):=by
  show _=_;have e:(((az l:Nat):Int)/2^v)=((az l/2^v:Nat):Int):=by rw[vL,Int.natCast_pow];rfl
  have hle:az l/2^v<=az l:=vI _ _;rw[e,show (1:Int)=((1:Nat):Int) from rfl,u32_and_nat _ _ (by omega) (by omega), <- pq,tZ, <- akf,p8];omega
 generalize decide (v∈l)=r at *;generalize az l=s at *;go_enter Tryz.func129,Tryz.ntmps129;go_wp2;go_ret;exact⟨by rw[HE.o];rfl,rfl⟩
theorem adu (l p:List Nat) (w:World) (hl:∀u∈l,u<8) (hp:∀u∈p,u<8):
  Calls Tryz.prog 173 #[.int .u32 (az l:Nat),.int .u32 (az p:Nat)] w fun e w'=>e=.returned (.bool (decide (∀v∈p,v∈l)))/\w'=w:=by
 have hs:=sS hl;have hq:=sS hp
 have HE:Hid ((bits BinOp.andNot IntKind.u32 (az p:Nat) (az l:Nat)==0)=decide (∀v∈p,v∈l)):=by
  show _=_;have hi:=ahm hs hq;simp only[pq,MF] at hi;rw[u32_andNot_nat _ _ (by omega) (by omega),tZ,p8,eh, <- hi];omega
 generalize decide (∀v∈p,v∈l)=r at *;generalize az l=s at *;generalize az p=t at *;go_enter Tryz.func173,Tryz.ntmps173;go_wp2;go_ret;exact⟨by rw[HE.o];rfl,rfl⟩
theorem UO (hn:n<=8) (h:(List.range i).all (j8 l n)=true) (hi:i<=l.length):∀u∈ag (l.take i),u<8:=by
 intro u hu;obtain⟨x,hx,rfl⟩:=aW.1 hu;obtain⟨j,hj,rfl⟩:=iZ hx;rw[dP] at hj;have h1:=fE.1 h j (cH.2 (by omega));rw[j8,eh,getD_eq (by omega)] at h1;rw[zm];omega
def setA (l:List Int) (n:Nat):Nat:=if dR l n=true then az (ag l) else 0
theorem UF (a:Option Addr) (cap:Nat) (l:List Int) (n:Nat) (w:World) (h:aC w a l) (hn:l.length<=140737488355328) (uu:n<=8):
  Calls Tryz.prog 125 #[.slice a l.length cap,.int .i64 (n:Nat)] w fun e w'=>e=.returned (.tuple #[.int .u32 (setA l n:Nat),.bool (dR l n)])/\w'=w:=by
 have HF:=hid h;clear h;have HB:=hid (fun i h e=>ND (l:=l) (n:=n) (i:=i) h e);have HT:Hid ((List.range l.length).all (j8 l n)=true ->dR l n=true):=id;have HA1:Hid (dR l n=true ->setA l n=az (ag l)):=fun h=>aA h;have MB:Hid (dR l n=false ->setA l n=0):=fun h=>aD (by rw[h];decide);generalize dR l n=rb at *;generalize setA l n=ra at *;go_enter Tryz.func125,Tryz.ntmps125;go_wp2_with fail
 go_loopw [6,7,12] (fun sv lv iv wr=>∃i:Nat,i<=l.length/\iv=.int .i64 i/\lv=.int .i64 (least l i)/\sv=.int .u32 (az (ag (l.take i)):Nat)/\Hid ((List.range i).all (j8 l n)=true)/\wr=w) (fun _ _ iv _=>l.length - (intOf iv).toNat)
 case atStart=>exact⟨0,aU _,rfl,rfl,rfl,rfl,rfl⟩
 case round=>
  obtain⟨i,hi,rfl,rfl,rfl,HI,rfl⟩:=hrel;by_cases hlt:i<l.length
  ·obtain⟨g,o,rfl,hg,c0⟩:=HF.o i hlt;obtain⟨aZ,hl0⟩:=V1 hlt HI.o;have CP:=hid (Xa hlt);have xg:=hid aZ;have R2:=hid (UO uu HI.o hi)
   have HST:Hid (∀x:Nat,(x:Int)=l[i] ->az (x::ag (l.take i))=az (ag (l.take (i+1)))):=fun x hx=>Oy fun z=>by
    rw[fP hlt, <- hx,ag,ag,dL];simp only[dG,cI,fQ,k7,kC,sF,mE];exact or_comm
   clear aZ;generalize hs1:az (ag (l.take (i+1)))=s1 at *;have lK:=hid hs1;clear hs1;generalize ag (l.take i)=pre at *;generalize least l i=m at *;generalize l[i]=x at *;by_cases e:m<=x/\x<n
   ·have HS:=hid (JY HI.o (by rw[xg.o];exact cS e));obtain⟨e1,e2⟩:=e;obtain⟨X,rfl⟩:∃X:Nat,x=X:=⟨x.toNat,by omega⟩;have hst:=HST.o X rfl;go_wp2_with fail
    refine(Dr pre X _ R2.o (by omega)).af ?_;rintro e w1 ⟨rfl,rfl⟩;rw[hst];go_wp2;go_roundw
    case rel=>exact⟨i+1,by omega,by go_num,by rw[CP.o],by rw[lK.o],HS.o,trivial⟩
    case measure=>simp[intOf];omega
   ·have HE:=hid (HB.o i hlt (by rw[xg.o];exact cD e));rcases (show x<m∨(m<=x/\(n:Int)<=x) by omega) with h3 |⟨h3,h4⟩
    all_goals
     clear e;go_wp2;go_ret2;exact⟨by rw[MB.o HE.o,HE.o];rfl,rfl⟩
  ·obtain rfl:i=l.length:=by omega
   have HE:=hid (HT.o HI.o);have HA:=hid (HA1.o HE.o);rw[gX];go_wp2;go_ret2;exact⟨by rw[HA.o,HE.o];rfl,rfl⟩
theorem Dm {α:Type} {P:List α ->Prop} (h0:P []) (h1:∀l a,P l ->P (l++[a])) (l:List α):P l:=by
 have h:∀m:List α,P m.reverse:=by
  intro m;induction m with
  |nil=>exact h0
  |cons a m ih=>rw[List.reverse_cons];exact h1 _ _ ih
 have:=h l.reverse;rwa [List.reverse_reverse] at this
def nb (l:List UInt8):Nat:=l.foldl (fun n c=>n*256+c.toNat) 0
theorem Bx:nb []=0:=rfl
theorem vY (l:List UInt8) (c:UInt8):nb (l++[c])=nb l*256+c.toNat:=by simp[nb]
theorem zH (a b:List UInt8):nb (a++b)=nb a*256^b.length+nb b:=by
 induction b using Dm with
 |h0=>simp[Bx]
 |h1 l c ih=>
  rw[<- nZ,vY,ih,vY,cK,Jr,gH,eL,gg,zk]
theorem afB (c:UInt8):nb [c]=c.toNat:=by simp[nb]
theorem Bz (c:UInt8) (l:List UInt8):nb (c::l)=c.toNat*256^l.length+nb l:=by
 have:=zH [c] l;rwa [List.singleton_append,afB] at this
theorem rF (l:List UInt8):nb l<256^l.length:=by
 induction l using Dm with
 |h0=>simp[Bx]
 |h1 l c ih=>
  rw[vY,cK,Jr,gH];have:=c.toNat_lt;omega
def bn (n:Nat):List UInt8:=if _h:n=0 then[] else bn (n/256)++[UInt8.ofNat (n % 256)]
theorem nJ:bn 0=[]:=by rw[bn];simp
theorem nL (n:Nat) (h:n≠0):bn n=bn (n/256)++[UInt8.ofNat (n % 256)]:=by rw[bn];simp[h]
theorem ofNat_toNat (n:Nat):(UInt8.ofNat (n % 256)).toNat=n % 256:=by simp
theorem Ox (n:Nat):nb (bn n)=n:=by
 induction n using Nat.strongRecOn with
 |ind n ih=>
  by_cases h:n=0
  ·subst h;simp[nJ,Bx]
  ·rw[nL n h,vY,ih (n/256) (by omega),ofNat_toNat];omega
theorem akc (n:Nat) (c:UInt8) (h:n≠0∨c.toNat≠0):bn (n*256+c.toNat)=bn n++[c]:=by
 have hc:=c.toNat_lt;rw[nL _ (by omega),show (n*256+c.toNat)/256=n by omega,show (n*256+c.toNat) % 256=c.toNat by omega];simp
theorem Rk (l:List UInt8):bn (nb l)=l.dropWhile (·==0):=by
 induction l using Dm with
 |h0=>simp[Bx,nJ]
 |h1 l c ih=>
  rw[vY];by_cases h:nb l≠0∨c.toNat≠0
  ·rw[akc _ _ h,ih];by_cases hl:l.dropWhile (·==0)=[]
   ·have hz:nb l=0:=by rw[<- Ox (nb l),ih,hl,Bx]
    (have hc:c≠0:=by intro e;subst e;simp[hz] at h);rw[hl,List.dropWhile_append,hl];simp[hc]
   ·rw[List.dropWhile_append];simp[hl]
  ·have h1:nb l=0:=by omega
   (have h2:c.toNat=0:=by omega);(have hc:c=0:=by simpa [<- Jk] using h2);rw[h1,h2];rw[h1,nJ] at ih;rw[List.dropWhile_append, <- ih];simp[hc,nJ]
theorem Rl {a b:Nat} (h:a<=b):(bn a).length<=(bn b).length:=by
 induction a using Nat.strongRecOn generalizing b with
 |ind a ih=>
  by_cases ha:a=0
  ·subst ha;simp[nJ]
  ·rw[nL a ha,nL b (by omega)];have:= @ih (a/256) (by omega) (b/256) (by omega);simp;omega
def W:Nat:=4294967296
theorem fL:W=4294967296:=rfl
theorem kp:0<W:=by decide
def nw:List Nat ->Nat
 |[]=>0
 |x::r=>x+W*nw r
theorem lp:nw []=0:=rfl
theorem jL (x:Nat) (r:List Nat):nw (x::r)=x+W*nw r:=rfl
theorem xY (a b:List Nat):nw (a++b)=nw a+W^a.length*nw b:=by
 induction a with
 |nil=>simp[lp]
 |cons x a ih=>rw[eE,jL,jL,ih,dI,gH,k6];rw[cV (W^a.length) W,gg];omega
theorem zG (a:List Nat) (x:Nat):nw (a++[x])=nw a+W^a.length*x:=by rw[xY,jL,lp];simp
def Small (l:List Nat):Prop:=∀x∈l,x<W
theorem sR (l:List Nat) (h:Small l):nw l<W^l.length:=by
 induction l with
 |nil=>simp[lp]
 |cons x r ih=>
  have h1:=ih (fun y hy=>h y (dF _ hy));have h2:=h x (dB);rw[jL,dI,gH];have:W*(nw r+1)<=W*W^r.length:=j5 _ h1;rw[cV (W^r.length) W];rw[k6] at this;omega
def words (n:Nat):List Nat:=if _h:n=0 then[] else(n % 4294967296)::words (n/4294967296)
theorem ub:words 0=[]:=by rw[words,dif_pos rfl]
theorem xM (n:Nat) (h:n≠0):words n=(n % W)::words (n/W):=by rw[words,dif_neg h,fL]
theorem LH (h:n≠0):n/W<n:=Nat.div_lt_self (jZ h) (by decide)
theorem jK (n:Nat):nw (words n)=n:=by
 induction n using Nat.strongRecOn with
 |ind n ih=>
  by_cases h:n=0
  ·subst h;simp[ub,lp]
  ·rw[xM n h,jL,ih _ (LH h)];exact Nat.mod_add_div n W
theorem lh (n:Nat):Small (words n):=by
 induction n using Nat.strongRecOn with
 |ind n ih=>
  by_cases h:n=0
  ·subst h;simp[ub,Small]
  ·rw[xM n h];intro x hx;rcases dG.1 hx with rfl |hx
   ·exact gh _ kp
   ·exact ih _ (LH h) x hx
theorem JI (n:Nat):words n=[]↔n=0:=by
 constructor
 ·intro h;rw[<- jK n,h,lp]
 ·rintro rfl;exact ub
theorem Tn (n:Nat) (h:words n≠[]):(words n).getLast h≠0:=by
 induction n using Nat.strongRecOn with
 |ind n ih=>
  have hn:n≠0:=fun e=>h ((JI n).2 e);by_cases h2:words (n/W)=[]
  ·have hz:=(JI _).1 h2
   have:(words n).getLast h=n % W:=by
    have hw:=xM n hn;rw[h2] at hw;simp[hw]
   rw[this];intro hm;have:=Nat.mod_add_div n W;rw[hm,hz] at this;simp at this;exact hn this.symm
  ·have:(words n).getLast h=(words (n/W)).getLast h2:=by
    have hw:=xM n hn;simp only[hw];rw[List.getLast_cons h2]
   rw[this];exact ih _ (LH hn) h2
theorem abP (l:List Nat) (hs:Small l) (hl:∀h:l≠[],l.getLast h≠0):words (nw l)=l:=by
 induction l with
 |nil=>simp[lp,ub]
 |cons x r ih=>
  have hx:=hs x (dB);have hr:words (nw r)=r:=ih (fun y hy=>hs y (dF _ hy)) (fun h=>by have:=hl (by simp);rwa [List.getLast_cons h] at this)
  have hne:nw (x::r)≠0:=by
   intro h;rw[jL] at h;(have hx0:x=0:=by omega)
   have Gr:nw r=0:=by
    (have:W*nw r=0:=by omega);rcases Nat.mul_eq_zero.1 this with h |h
    ·simp[W] at h
    ·exact h
   rw[Gr,ub] at hr;subst hr;exact hl (by simp) (by simpa using hx0)
  rw[xM _ hne,jL,S9,iY hx,Nat.add_mul_div_left _ _ kp,vJ hx,bD,hr]
theorem JJ (n:Nat):(words n).length=((bn n).length+3)/4:=by
 induction n using Nat.strongRecOn with
 |ind n ih=>
  by_cases h:n=0
  ·subst h;simp[ub,nJ]
  ·rw[xM n h,dI,ih _ (LH h)];by_cases h1:n/256=0
   ·rw[nL n h,h1,nJ,show n/W=0 by simp only[W];omega,nJ];simp
   ·by_cases h2:n/256/256=0
    ·rw[nL n h,nL _ h1,h2,nJ,show n/W=0 by simp only[W];omega,nJ];simp
    ·by_cases h3:n/256/256/256=0
     ·rw[nL n h,nL _ h1,nL _ h2,h3,nJ,show n/W=0 by simp only[W];omega,nJ];simp
     ·rw[nL n h,nL _ h1,nL _ h2,nL _ h3,show n/256/256/256/256=n/W by simp only[W];omega];simp;omega
def part (n i:Nat):Nat:=n/W^i % W
theorem aeF (n:Nat):part n 0=n % W:=by rw[part,Fj,A0]
theorem aeG (n i:Nat):part n (Nat.succ i)=part (n/W) i:=by rw[part,part,Nat.succ_eq_add_one,gH,cV,ML]
theorem abR (i:Nat):∀n,i<(words n).length ->(words n)[i]? =some (part n i):=by
 induction i with
 |zero=>
  intro n h;have hn:n≠0:=by rintro rfl;rw[ub] at h;simp at h
  rw[xM n hn,aeF];rfl
 |succ i ih=>
  intro n h;have hn:n≠0:=by rintro rfl;rw[ub] at h;simp at h
  rw[xM n hn,dI] at h;rw[xM n hn,List.getElem?_cons_succ,ih _ (Nat.lt_of_succ_lt_succ h), <- aeG]
theorem abT (n:Nat):words n=(List.range (words n).length).map (part n):=by
 apply Fw;intro i;rw[kD];by_cases h:i<(words n).length
 ·rw[abR i n h,List.getElem?_range h];rfl
 ·rw[iJ (by omega),iJ (by simpa using h)];rfl
theorem akI (i:Nat):W^i=256^(4*i):=by rw[Nat.pow_mul];rfl
theorem aeH (l:List UInt8) (i:Nat) (h:4*i<=l.length):nb ((l.take (l.length - 4*i)).drop (l.length - 4*i - 4))=part (nb l) i:=by
 have e1:nb (l.take (l.length - 4*i))=nb l/W^i:=by
  have ahc:=zl (l.length - 4*i) l;have hn:=zH (l.take (l.length - 4*i)) (l.drop (l.length - 4*i));rw[ahc] at hn;have hlen:(l.drop (l.length - 4*i)).length=4*i:=by simp;omega
  rw[hlen] at hn;have hlt:=rF (l.drop (l.length - 4*i));rw[hlen] at hlt;have hp:0<256^(4*i):=rq (by decide);rw[akI,hn,zj,MN _ _ hp,vJ hlt,bD]
 rw[part, <- e1];generalize hm:l.take (l.length - 4*i)=m;have qo:m.length=l.length - 4*i:=by rw[<- hm];simp
 rw[<- qo];have hn:=zH (m.take (m.length - 4)) (m.drop (m.length - 4));rw[zl] at hn;by_cases h4:4<=m.length
 ·have hlen:(m.drop (m.length - 4)).length=4:=by simp;omega
  have hlt:=rF (m.drop (m.length - 4));rw[hlen] at hn hlt;rw[hn,show (256:Nat)^4=W from rfl,zj,MM];exact(iY hlt).symm
 ·have hz:m.length - 4=0:=by omega
  rw[hz,A7];have hlt:=rF m;have:256^m.length<=256^4:=iX (by decide) (by omega);exact(iY (by show nb m<256^4;omega)).symm
theorem Ol (l:List Nat) (k:Nat) (h:k<l.length):nw (l.take (k+1))=nw (l.take k)+W^k*l[k]:=by
 rw[fP h,zG,dP,p9 (xG h)]
theorem Dn {l:List Nat} (h:Small l) (k:Nat):Small (l.take k):=fun x hx=>h x (List.mem_of_mem_take hx)
theorem MZ (l:List Nat) (hs:Small l) (k:Nat) (hk:k<=l.length) (hn:nw (l.take k)=nw l) (hl:k=0∨l[k - 1]?.getD 0≠0):words (nw l)=l.take k:=by
 rw[<- hn];refine abP _ (Dn hs k) fun h=>?_;rcases hl with rfl |hl
 ·simp at h
 ·have hk0:k≠0:=by rintro rfl;simp at h
  rw[List.getLast_eq_getElem];simp only[dP,p9 hk,zm];rwa [a8 (by omega)] at hl
theorem JH (l:List Nat) (hs:Small l):∃k,k<=l.length/\words (nw l)=l.take k:=by
 induction l using Dm with
 |h0=>exact⟨0,aq _,by rw[lp,ub];rfl⟩
 |h1 l a ih=>
  by_cases ha:a=0
  ·subst ha;obtain⟨k,hk,e⟩:=ih (fun x hx=>hs x (List.mem_append_left _ hx));refine⟨k,by simp;omega,?_⟩;rw[zG,j3,fO,e,Ta hk]
  ·refine⟨(l++[a]).length,aq _,?_⟩;exact MZ _ hs _ (aq _) (by rw[gX]) (Or.inr (by simpa using ha))
theorem acr (l q:List Nat) (m y:Nat) (h:m<l.length):(l.take (m+1)++q).set m y=l.take m++y::q:=by
 rw[fP h,nZ];have e:(l.take m).length=m:=by simp;omega
 rw[A3 _ _ (by omega),e,oX];rfl
section
open Go.Shelf
attribute [local go_sem] Oper.semAt_some
variable {Bn:Nat}
def N (s:ByteArray):Nat:=nb s.data.toList
def B (n:Nat):ByteArray:=⟨(bn n).toArray⟩
theorem bG (n:Nat):N (B n)=n:=Ox n
theorem kA (n:Nat):(B n).size=(bn n).length:=by simp[B,ByteArray.size]
theorem acf (s:ByteArray):(⟨(Lib.trimLeftB s.data.toList 0).toArray⟩:ByteArray)=B (N s):=by
 rw[B,N,Rk];rfl
theorem xR {k:IntKind} {a b:Int} (h:a=b):Ending.returned (.int k a)=.returned (.int k b):=by rw[h]
theorem int_eq {k:IntKind} {a b:Int} (h:a=b):Value.int k a=.int k b:=by rw[h]
theorem Ao (s:ByteArray) (w:World):
  Calls Tryz.prog 210 #[.string s] w fun e w'=>e=.returned (.string (B (N s)))/\w'=w:=by
 rw[<- acf];go_enter Tryz.func210,Tryz.ntmps210;go_wp2_with (go_at_call 238;refine(Tryz.strings_TrimLeft_one _ 0 (by decide) _).af ?_;rintro e w' ⟨rfl,rfl⟩)
 go_ret;exact⟨rfl,rfl⟩
theorem aaw (s:ByteArray) (w:World) (hs:s.size<=140737488355328):
  Calls Tryz.prog 219 #[.string s] w fun e w'=>e=.returned (.int .i64 ((s.size+3)/4:Nat))/\w'=w:=by
 go_enter Tryz.func219,Tryz.ntmps219;go_wp2;go_ret;exact⟨xR (by omega),rfl⟩
theorem afa (p c:Nat) (hp:p<16777216) (hc:c<256):bits .or .u32 ((p:Int)*256) (c:Int)=((p*256+c:Nat):Int):=by
 have e1:(p:Int)*256=((p*256:Nat):Int):=by omega
 rw[e1,u32_or_nat _ _ (by omega) (by omega),nat_join 8 _ _ (by omega) hc]
theorem FT (s:ByteArray) (k:Nat) (h:k<s.size):s.data.toList.take (k+1)=s.data.toList.take k++[s[k]]:=by
 rw[fP (by simpa using h)];rfl
theorem afC (l:List UInt8) (k:Nat) (h:l.length<=k):nb l<256^k:=
 aO (rF l) (iX (by decide) h)
theorem adG (s:ByteArray) (w:World) (hs:s.size<=4):
  Calls Tryz.prog 245 #[.string s] w fun e w'=>e=.returned (.int .u32 (N s))/\w'=w:=by
 go_enter Tryz.func245,Tryz.ntmps245;go_wp2;go_loop [3,7] (fun n i=>∃k:Nat,k<=s.size/\i=.int .i64 k/\n=.int .u32 (nb (s.data.toList.take k))) (fun _ i=>s.size - (intOf i).toNat)
 case atStart=>exact⟨0,aU _,rfl,rfl⟩
 case round=>
  obtain⟨k,hk,rfl,rfl⟩:=hrel;by_cases hlt:k<s.size
  ·have hb:nb (s.data.toList.take k)<16777216:=afC _ 3 (by simp;omega);have hc:=s[k].toNat_lt;(have HS:Hid (nb (s.data.toList.take (k+1))=nb (s.data.toList.take k)*256+s[k].toNat):=by rw[FT s k hlt,vY];rfl);have HO:Hid (bits .or .u32 ((nb (s.data.toList.take k):Int)*256) (s[k].toNat:Int)=((nb (s.data.toList.take k)*256+s[k].toNat:Nat):Int)):=afa _ _ hb hc;generalize nb (s.data.toList.take k)=p at *;go_wp2;go_round
   case rel=>exact⟨k+1,by omega,by go_num,by rw[HS.o];exact int_eq HO.o⟩
   case measure=>simp[intOf];omega
  ·go_wp2;go_ret;exact⟨xR (by rw[N,jn (by simp;omega)]),rfl⟩
def mr (Bn:Nat) (V V':World):Prop:=V'.cell? ⟨Bn,0,none⟩=V.cell? ⟨Bn,0,none⟩
theorem mr.t {A B C:World} (h:mr Bn A B) (k:mr Bn B C):mr Bn A C:=Eq.trans k h
theorem mr.b (hn:Bn<w.heap.size) (V:World) (l:Nat) (o o':Obj) (hl:w.heap.size<=l) (_:V.heap[l]? =some o) (_:o.isCells=false) (_:o.isWalk=false):mr Bn V (V.putObj l o'):=
 lQ (vG (show Bn≠l by omega))
def upto (n k:Nat):List Nat:=(List.range k).map (part n)
theorem Tw (n k:Nat):upto n (k+1)=upto n k++[part n k]:=by simp[upto,oY]
theorem acd (n k:Nat):(upto n k).length=k:=by simp[upto]
theorem aeE (s:ByteArray) (k:Nat) (h:4*k<=s.size):N (s.extract (s.size - 4*k - 4) (s.size - 4*k))=part (N s) k:=by
 rw[N,N, <- aeH _ _ (by simpa using h)];congr 1
 rw[ByteArray.data_extract];simp[List.drop_take]
theorem adF (s:ByteArray) (k:Nat) (w:World) (h:4*k<=s.size):
  Calls Tryz.prog 245 #[.string (s.extract (max 0 ((s.size:Int) - (k:Int)*4 - 4)).toNat (s.size - k*4))] w fun e w'=>e=.returned (.int .u32 (part (N s) k:Nat))/\w'=w:=by
 have e1:(max 0 ((s.size:Int) - (k:Int)*4 - 4)).toNat=s.size - 4*k - 4:=by omega
 have e2:s.size - k*4=s.size - 4*k:=by omega
 rw[e1,e2, <- aeE s k h];exact adG _ w (by rw[ByteArray.size_extract];omega)
theorem aiH (n:Nat) (hn:1<=n) (l Bn:Nat) (s:ByteArray) (hs:s.size<=140737488355328) (J Jx:List Nat ->World ->Prop)
  (hY:∀pre x V,J pre V ->pre.length<(s.size+3)/4 ->YieldAt Fence.wide (n - 1) Tryz.prog l #[.int .u32 (x:Nat)] V fun e V'=>
   (e=.returned (.bool true)/\J (pre++[x]) V'/\mr Bn V V')∨(e=.returned (.bool false)/\Jx (pre++[x]) V'))
  (V:World) (Ck:V.cell? ⟨Bn,0,none⟩=some (.string s)) (h0:J [] V):
  CallsIn Fence.wide n Tryz.prog 244 #[.func (.yield l) #[] #[],.pointer (some ⟨Bn,0,none⟩)] V fun e V'=>(∃v,e=.returned v)/\
   ((∃ys,ys=upto (N s) ((s.size+3)/4)/\J ys V')∨(∃pre,(∃k,k<=(s.size+3)/4/\pre=upto (N s) k)/\Jx pre V')):=by
 refine C5 Tryz.func244 rfl trivial ?_ rfl;simp only[Tryz.ntmps244,lR,dI,k8,Nat.reduceAdd,Nat.reduceSub,lX,lW,lS,k9,gY,eE];gi_wp2_with (refine⟨trivial,?_⟩;gi_at_call 219;refine(fZ.2 (aaw _ _ hs)).af ?_;rintro e w' ⟨rfl,rfl⟩)
 gi_loopw [7] (fun i wr=>∃k:Nat,k<=(s.size+3)/4/\i=.int .i64 k/\J (upto (N s) k) wr/\wr.cell? ⟨Bn,0,none⟩=some (.string s))
  (fun i _=>(s.size+3)/4 - (intOf i).toNat)
 case atStart=>exact⟨0,aU _,rfl,h0,Ck⟩
 case round=>
  obtain⟨k,hk,rfl,hJs,bF⟩:=hrel;by_cases hlt:k<(s.size+3)/4
  ·obtain⟨fn,tmps,assign,body,hy,hR⟩:=hY _ (part (N s) k) wr hJs (by rw[acd];exact hlt);gi_wp2_with (refine⟨trivial,?_⟩;gi_at_call 245;refine(fZ.2 (adF s k _ (by omega))).af ?_;rintro e w' ⟨rfl,rfl⟩)
   refine hR.af ?_;rintro e W3 (⟨rfl,hJ3,hk3⟩ |⟨rfl,hJx3⟩)
   ·have Qb:W3.cell? ⟨Bn,0,none⟩=some (.string s):=Eq.trans hk3 bF;gi_wp2
    go_roundw
    case rel=>exact⟨k+1,by omega,by simp,by rw[Tw];exact hJ3,Qb⟩
    case measure=>simp[intOf];omega
   ·gi_wp2
    refine bS (results_none rfl _ _ _) rfl ?_;exact⟨⟨_,rfl⟩,.inr ⟨_,⟨k+1,by omega,(Tw _ _).symm⟩,hJx3⟩⟩
  ·obtain rfl:k=(s.size+3)/4:=by omega
   gi_wp2
   go_end0
   exact⟨⟨_,rfl⟩,.inl ⟨_,rfl,hJs⟩⟩
theorem aiG (n:Nat) (s:ByteArray) (w:World):
  CallsIn Fence.wide n Tryz.prog 220 #[.string s] w fun e w'=>e=.returned (.func (.func 244) #[] #[.pointer (some ⟨w.heap.size,0,none⟩)])/\w'=w.alloc (.cells #[.string s] 30):=by
 refine C5 Tryz.func220 rfl trivial ?_ rfl;simp only[Tryz.ntmps220,lR,dI,k8,Nat.reduceAdd,Nat.reduceSub,lX,lW,lS,k9,gY,eE];gi_wp2
 go_ret;exact⟨rfl,rfl⟩
theorem aiF (n:Nat) (hn:1<=n) (Bn:Nat) (s:ByteArray) (hs:s.size<=140737488355328) (w:World) (Ck:Bn<w.heap.size) (hc:w.cell? ⟨Bn,0,none⟩=some (.string s)):
  SeqStopsK Fence.wide n Tryz.prog 244 #[.pointer (some ⟨Bn,0,none⟩)] (fun x:Nat=> #[Value.int .u32 (x:Nat)]) (mr Bn) (fun ys=>ys=upto (N s) ((s.size+3)/4)) (fun pre=>∃k,k<=(s.size+3)/4/\pre=upto (N s) k) ((s.size+3)/4) w:=fun l J Jx V hV _ _ hY h0=>
 aiH n hn l Bn s hs J Jx hY V ((hV.cell (p:=⟨Bn,0,none⟩) Ck).trans hc) h0
theorem Tryz.infoU32:(Tryz.prog.info? 114).map (fun i=>(i.zero,i.size,i.bytes))=some (some (.int .u32 0),1,4):=by kernel_rfl
def u32 (x:Nat):Value:=.int .u32 (x:Nat)
theorem acb (n:Nat):upto n (((B n).size+3)/4)=words n:=by
 rw[kA, <- JJ,upto, <- abT]
end
section
open Go.Shelf
attribute [local go_sem] Oper.semAt_some
theorem il (s:ByteArray):(B (N s)).size<=s.size:=by
 rw[kA,N,Rk];have:(s.data.toList.dropWhile (·==0)).length<=s.data.toList.length:=(List.dropWhile_sublist _).length_le;simpa using this
end
def lenOf:Value ->Nat |.slice _ n _=>n |_=>0
theorem JU (b off cap:Nat) (l:List Nat) (w:World) (hs:Small l) (qC:l.length<=cap) (hlen:l.length<=140737488355328)
  (hc:∀j,j<l.length ->w.cell? ⟨b,off+j,none⟩=some (.int .u32 (l[j]?.getD 0:Nat))):
  Calls Tryz.prog 217 #[.slice (some ⟨b,off,none⟩) l.length cap] w fun e w'=>e=.returned (.slice (some ⟨b,off,none⟩) (words (nw l)).length cap)/\w'=w:=by
 go_enter Tryz.func217,Tryz.ntmps217;go_wp2;go_loop [0] (fun v=>∃k:Nat,k<=l.length/\v=.slice (some ⟨b,off,none⟩) k cap/\nw (l.take k)=nw l) (fun v=>lenOf v)
 case atStart=>exact⟨l.length,aq _,rfl,by rw[gX]⟩
 case round=>
  obtain⟨k,hk,rfl,hn⟩:=hrel;have HN:Hid (nw (l.take k)=nw l):=hn;clear hn;by_cases h0:k=0
  ·subst h0;have e:=MZ l hs 0 (aU _) HN.o (Or.inl rfl);(have HE:Hid ((words (nw l)).length=0):=by rw[e];rfl);clear e;go_wp2;go_ret;exact⟨by rw[HE.o];rfl,rfl⟩
  ·have hck:=hc (k - 1) (by omega);by_cases hz:l[k - 1]?.getD 0=0
   ·have nQ:Hid (nw (l.take (k - 1))=nw l):=by
     have e:=Ol l (k - 1) (by omega);rw[show k - 1+1=k by omega,HN.o] at e;rw[a8 (by omega)] at hz;simp only[xE] at hz;rw[hz,j3,fO] at e;exact e.symm
    rw[hz] at hck;go_wp2;go_round
    case rel=>exact⟨k - 1,by omega,rfl,nQ.o⟩
    case measure=>simp[lenOf];omega
   ·have e:=MZ l hs k hk HN.o (Or.inr hz);(have HE:Hid ((words (nw l)).length=k):=by rw[e,dP];exact p9 hk);clear e;go_wp2;go_ret;exact⟨by rw[HE.o];rfl,rfl⟩
theorem ada (w:World):
  Calls Tryz.prog 217 #[.slice none 0 0] w fun e w'=>e=.returned (.slice none 0 0)/\w'=w:=by
 go_enter Tryz.func217,Tryz.ntmps217;go_wp2;refine E6 1 ?_;rw[nV];go_wp2;go_ret;exact⟨rfl,rfl⟩
def bK (x k:Nat):Int:=((x/256^k % 256:Nat):Int)
theorem akb (x:Nat) (hx:x<18446744073709551616):bK x 7=(x:Int)/72057594037927936/\bK x 6=(x:Int)/281474976710656 % 256/\bK x 5=(x:Int)/1099511627776 % 256/\bK x 4=(x:Int)/4294967296 % 256/\
  bK x 3=(x:Int)/16777216 % 256/\bK x 2=(x:Int)/65536 % 256/\bK x 1=(x:Int)/256 % 256/\bK x 0=(x:Int) % 256:=by
 unfold bK;simp only[Nat.reducePow];omega
theorem aaL (x:Nat) (w:World) (hx:x<18446744073709551616):
  Calls Tryz.prog 216 #[.int .u64 (x:Nat)] w fun e w'=>e=.returned (.agg #[.int .u8 (bK x 7),.int .u8 (bK x 6),.int .u8 (bK x 5),.int .u8 (bK x 4),.int .u8 (bK x 3),.int .u8 (bK x 2),.int .u8 (bK x 1),.int .u8 (bK x 0)])/\Below w.heap.size w w':=by
 obtain⟨e7,e6,e5,e4,e3,e2,e1,e0⟩:=akb x hx;rw[e7,e6,e5,e4,e3,e2,e1,e0];clear e7 e6 e5 e4 e3 e2 e1 e0;go_enter Tryz.func216,Tryz.ntmps216;go_wp2;refine E6 9 ?_;rw[nV];go_wp2;rw[nV];go_wp2;rw[nV];go_wp2;rw[nV];go_wp2;rw[nV];go_wp2;rw[nV];go_wp2;rw[nV];go_wp2;rw[nV];go_wp2;rw[nV];go_wp2;refine bS (v:=.agg #[.int .u8 ((x:Int)/72057594037927936),.int .u8 ((x:Int)/281474976710656 % 256),.int .u8 ((x:Int)/1099511627776 % 256),.int .u8 ((x:Int)/4294967296 % 256),.int .u8 ((x:Int)/16777216 % 256),.int .u8 ((x:Int)/65536 % 256),.int .u8 ((x:Int)/256 % 256),.int .u8 ((x:Int) % 256)]) (by simp[results,Tryz.results216,go_sem]) rfl ⟨rfl,?_⟩;exact(((au _ _).alloc (aq _) _).alloc (by simp) _)
theorem Al (x c:Nat):x/(c*256)*256+x/c % 256=x/c:=by rw[<- ML];exact Nat.div_add_mod' _ _
theorem ajn (x:Nat) (hx:x<18446744073709551616):0*256+x/72057594037927936 % 256=x/72057594037927936:=by omega
theorem aas (x:Nat):x/256*256+x/1 % 256=x:=by omega
theorem afF (x:Nat) (hx:x<18446744073709551616):N (strOfNums [bK x 7,bK x 6,bK x 5,bK x 4,bK x 3,bK x 2,bK x 1,bK x 0])=x:=by
 have h6:=Al x 281474976710656;have h5:=Al x 1099511627776;have h4:=Al x 4294967296;have h3:=Al x 16777216;have h2:=Al x 65536;have h1:=Al x 256;simp only[Nat.reduceMul] at h6 h5 h4 h3 h2 h1;simp only[N,C1,fQ,k7,bK,mE,nb,zo,List.foldl_nil,UInt8.toNat_ofNat',Nat.reducePow,Nat.mod_mod];rw[ajn x hx,h6,h5,h4,h3,h2,h1,aas]
theorem abW (x:Nat) (t:TypeId) (w:World):∀i,i< 8 ->(w.alloc (.cells #[.int .u8 (bK x 7),.int .u8 (bK x 6),.int .u8 (bK x 5),.int .u8 (bK x 4),.int .u8 (bK x 3),.int .u8 (bK x 2),.int .u8 (bK x 1),.int .u8 (bK x 0)] t)).cell? ⟨w.heap.size,0+i,none⟩=
  some (.int .u8 (([bK x 7,bK x 6,bK x 5,bK x 4,bK x 3,bK x 2,bK x 1,bK x 0]:List Int).getD i 0)):=by
 intro i hi;rcases (show i=0∨i=1∨i=2∨i=3∨i=4∨i=5∨i=6∨i=7 by omega) with rfl |rfl |rfl |rfl |rfl |rfl |rfl |rfl<;>simp
theorem V3 (x:Nat) (w:World) (hx:x<18446744073709551616):
  Calls Tryz.prog 167 #[.int .u64 (x:Nat)] w fun e w'=>e=.returned (.string (B x))/\Below w.heap.size w w':=by
 have wJ:=fun (w1:World)=>C2 (P:=Tryz.prog) (w1.alloc (.cells #[.int .u8 (bK x 7),.int .u8 (bK x 6),.int .u8 (bK x 5),.int .u8 (bK x 4),.int .u8 (bK x 3),.int .u8 (bK x 2),.int .u8 (bK x 1),.int .u8 (bK x 0)] 232)) 152 5 Tryz.underlying152 Tryz.underlying5 w1.heap.size 0 8 8 _ rfl (abW x _ w1) 30 Tryz.underlying30;have HN:Hid (N (strOfNums [bK x 7,bK x 6,bK x 5,bK x 4,bK x 3,bK x 2,bK x 1,bK x 0])=x):=afF x hx;go_enter Tryz.func167,Tryz.ntmps167
 go_wp2_with (first
  |(go_at_call 216;refine(aaL x _ hx).af ?_;rintro e w1 ⟨rfl,hb1⟩)
  |(go_at_call 210;refine(Ao _ _).af ?_;rintro e w2 ⟨rfl,rfl⟩;rw[HN.o]))
 go_ret;exact⟨rfl,hb1.alloc hb1.size _⟩
variable {xs:List Value} {base g:Nat}
def qN (x:Nat):List Int:=[bK x 3,bK x 2,bK x 1,bK x 0]
def l8:List Nat ->List Int
 |[]=>[]
 |x::r=>l8 r++qN x
theorem agv (a:List Nat) (y:Nat):l8 (a++[y])=qN y++l8 a:=by
 induction a with
 |nil=>simp[l8]
 |cons x a ih=>rw[eE,l8,ih,l8,nZ]
theorem OE (a:List Nat):(l8 a).length=4*a.length:=by
 induction a with
 |nil=>rfl
 |cons x a ih=>rw[l8,cK,ih];simp[qN];omega
theorem ajm (x:Nat) (hx:x<4294967296):0*256+x/16777216 % 256=x/16777216:=by omega
theorem afG (x:Nat) (hx:x<W):nb ((qN x).map fun n=>UInt8.ofNat n.toNat)=x:=by
 rw[fL] at hx;have h3:=ajm x hx;have h2:=Al x 65536;have h1:=Al x 256;simp only[Nat.reduceMul] at h2 h1;simp only[qN,fQ,k7,bK,mE,nb,zo,List.foldl_nil,UInt8.toNat_ofNat',Nat.reducePow,Nat.mod_mod];rw[h3,h2,h1,aas]
theorem akP (l:List Nat) (hs:Small l):N (strOfNums (l8 l))=nw l:=by
 rw[N,C1];induction l with
 |nil=>rfl
 |cons x r ih=>
  rw[l8,dL,zH,ih (fun y hy=>hs y (dF _ hy)),afG x (hs x dB),jL,cX];show nw r*256^4+x=x+W*nw r;rw[cV,zj];rfl
def nk (l:List Nat) (k:Nat):List Int:=List.replicate (4*(l.length - k)) 0++l8 (l.take k)
theorem ae3 (l:List Nat):nk l 0=List.replicate (4*l.length) 0:=by simp[nk,l8]
theorem ae6 (l:List Nat):nk l l.length=l8 l:=by simp[nk]
theorem ae5 (l:List Nat) (k:Nat) (hk:k<=l.length):(nk l k).length=4*l.length:=by
 rw[nk,cK,Fs,OE,dP,p9 hk];omega
theorem ae4 (l:List Nat) (k:Nat) (hk:k<l.length):splice (nk l k) (4*l.length - 4*k - 4) (qN (l[k]?.getD 0))=nk l (k+1):=by
 rw[a8 hk,xE];have e1:4*(l.length - k)=(4*l.length - 4*k - 4)+4:=by omega
 have e2:4*(l.length - (k+1))=4*l.length - 4*k - 4:=by omega
 rw[nk,nk,fP hk,agv,e1,e2, <- List.replicate_append_replicate,splice];generalize 4*l.length - 4*k - 4=m;have h4:(qN l[k]).length=4:=rfl;rw[h4]
 have e3:(List.replicate m (0:Int)++List.replicate 4 0++l8 (l.take k)).take m=List.replicate m 0:=by
  rw[nZ,Ta (by simp)];simp
 have e4:(List.replicate m (0:Int)++List.replicate 4 0++l8 (l.take k)).drop (m+4)=l8 (l.take k):=by
  rw[List.drop_append_of_le_length (by simp)];simp
 rw[e3,e4]
theorem Uq {α β:Type} (f:α ->β) (L:List α) (o:Nat) (cs:List α):splice (L.map f) o (cs.map f)=(splice L o cs).map f:=by
 simp[splice,Jp,List.map_drop]
def u8 (x:Int):Value:=.int .u8 x
theorem Tryz.infoByte:(Tryz.prog.info? 5).map (fun i=>(i.zero,i.size,i.bytes))=some (some (.int .u8 0),1,1):=by kernel_rfl
theorem abU (l:List Nat) (hs:Small l):(words (nw l)).length<=l.length/\∀j,j<(words (nw l)).length ->(words (nw l))[j]?.getD 0=l[j]?.getD 0:=by
 obtain⟨k,hk,e⟩:=JH l hs;rw[e];refine⟨by simp;omega,fun j hj=>?_⟩;rw[sI,aA (by simp at hj;omega)]
theorem pS {t:TypeId} (h:w.ownsRow base t 1 (.slice (some ⟨g,0,none⟩) n n) n xs):w.heap[g]? =some (.cells xs.toArray t (0,0)):=by
 rcases h.2 with ⟨h',_⟩ |⟨g',cap',cur,h',_,hg,zR,_,hsz,lu⟩
 ·cases h'
 ·cases h';rw[hg, <- lu,jn (by simp;omega)]
theorem WL (n:Nat):(madeCells (Value.int .u8 0).cells (n*1)).toList=(List.replicate n (0:Int)).map u8:=by
 rw[show (Value.int .u8 0).cells= #[Value.int .u8 0] from rfl,E7,nW,Jq];rfl
theorem aki (x:Nat) (t:TypeId) (w:World):∀j v,((qN x).map u8)[j]? =some v ->(w.alloc (.cells #[.int .u8 (bK x 7),.int .u8 (bK x 6),.int .u8 (bK x 5),.int .u8 (bK x 4),.int .u8 (bK x 3),.int .u8 (bK x 2),.int .u8 (bK x 1),.int .u8 (bK x 0)] t)).cell? ((⟨w.heap.size,4,none⟩:Addr).add j)=some v:=by
 intro j v hj
 have hj4:j<4:=by
  rcases cT j 4 with h |h
  ·exact h
  ·rw[iJ (by simpa [qN] using h)] at hj;cases hj
 have hadd:(⟨w.heap.size,4,none⟩:Addr).add j=⟨w.heap.size,4+j,none⟩:=by unfold Addr.add;split<;>simp_all
 rw[hadd];rcases (show j=0∨j=1∨j=2∨j=3 by omega) with rfl |rfl |rfl |rfl<;>simp[qN,u8] at hj<;>subst hj<;>simp
theorem QV (g cap:Nat) (l:List Nat) (w:World) (hs:Small l) (qC:l.length<=cap) (hlen:l.length<=35184372088832) (hg:g<w.heap.size)
  (hc:∀j,j<l.length ->w.cell? ⟨g,0+j,none⟩=some (.int .u32 (l[j]?.getD 0:Nat))):
  Calls Tryz.prog 168 #[.slice (some ⟨g,0,none⟩) l.length cap] w fun e w'=>e=.returned (.string (B (nw l)))/\Below w.heap.size w w':=by
 obtain⟨i0,hi,hz0,hz1,hz2⟩:=dH Tryz.infoByte;have uo:=JU g 0 cap l w hs qC (by omega) hc;obtain⟨hwl,hwc⟩:=abU l hs;have hsw:=lh (nw l);have HB:Hid (N (strOfNums (l8 (words (nw l))))=nw l):=by show _=_;rw[akP _ hsw,jK]
 have hcw:∀j,j<(words (nw l)).length ->w.cell? ⟨g,j,none⟩=some (.int .u32 ((words (nw l))[j]?.getD 0:Nat)):=fun j hj=>by
  have:=hc j (by omega);rw[bD] at this;rw[this,hwc j hj]
 generalize words (nw l)=ws at *;have HC:Hid (∀j,j<ws.length ->w.cell? ⟨g,j,none⟩=some (.int .u32 (ws[j]?.getD 0:Nat))):=hcw;have HS:Hid (Calls Tryz.prog 217 #[.slice (some ⟨g,0,none⟩) l.length cap] w fun e w'=>e=.returned (.slice (some ⟨g,0,none⟩) ws.length cap)/\w'=w):=uo;clear hc hwc hcw uo;go_enter Tryz.func168,Tryz.ntmps168
 go_wp2_with (first
  |(go_at_call 217;refine(HS.o).af ?_;rintro e w1 ⟨rfl,hw1⟩;subst hw1)
  |(at_make;refine mR _ rfl _ _ 152 rfl w1.heap.size 5 i0 (.int .u8 0) 1 Tryz.underlying152 hi hz0 hz1 .i64 .i64 _ _ (4*ws.length) rfl rfl (by omega) (by omega) (by rw[hz2];omega) (by unfold maxLen;omega) (aq _) ?_;intro w2 hown2 hgrow2))
 have hb2:=pS hown2;rw[WL, <- ae3] at hb2;have hB2:Below w1.heap.size w1 w2:=(au _ w1).grown hgrow2 (aq _) (fun k e=>by cases e);have HI:Hid (w2.heap[w1.heap.size]? =some (.cells ((nk ws 0).map u8).toArray 5 (0,0))):=hb2;clear hown2 hgrow2 hb2 HS
 go_loopw [16] (fun i wr=>∃k:Nat,k<=ws.length/\i=.int .i64 k/\Hid (wr.heap[w1.heap.size]? =some (.cells ((nk ws k).map u8).toArray 5 (0,0)))/\Below w1.heap.size w1 wr)
  (fun i _=>ws.length - (intOf i).toNat)
 case atStart=>exact⟨0,aU _,rfl,HI,hB2⟩
 case round=>
  obtain⟨k,hk,rfl,HR,bI⟩:=hrel;clear HI hB2;by_cases hlt:k<ws.length
  ·have hck:wr.cell? ⟨g,k,none⟩=some (.int .u32 (ws[k]?.getD 0:Nat)):=(bI.cell (p:=⟨g,k,none⟩) hg).trans (HC.o k hlt)
   have sV:ws[k]?.getD 0<4294967296:=by
    rw[a8 hlt];exact hsw _ (bM hlt)
   have HP:Hid (splice (nk ws k) (4*ws.length - 4*k - 4) (qN (ws[k]?.getD 0))=nk ws (k+1)):=ae4 ws k hlt;have BX:=ae5 ws k hk;generalize ws[k]?.getD 0=x at *;go_wp2_with (go_at_call 216;refine(aaL x _ (by omega)).af ?_;rintro e w3 ⟨rfl,hb3⟩)
   have bL:Below w1.heap.size w1 w3:=bI.trans (hb3.af bI.size)
   have hx3:∀o,(w3.alloc o).heap[w1.heap.size]? =some (.cells ((nk ws k).map u8).toArray 5 (0,0)):=fun o=>by
    have KZ:w1.heap.size<wr.heap.size:=(dm.1 HR.o).1;rw[rB _ _ _ (aO KZ hb3.size),hb3.block _ KZ];exact HR.o
   have HX:Hid (∀o,(w3.alloc o).heap[w1.heap.size]? =some (.cells ((nk ws k).map u8).toArray 5 (0,0))):=hx3;clear hx3 hck;obtain⟨E,hE⟩:∃E,E=4*ws.length - 4*k - 4:=⟨_,rfl⟩;(have f1:IntKind.i64.wrap (4*(ws.length:Int) - (k:Int)*4 - 4)=(E:Int):=by rw[gI];omega);(have f2:(k:Int)*4<=4*(ws.length:Int):=by omega);(have f3:4*(ws.length:Int) - (k:Int)*4<=4*(ws.length:Int):=by omega);(have f4:(E:Int)<=4*(ws.length:Int) - (k:Int)*4:=by omega);(have f6:¬4*ws.length=E:=by omega);(have f7:(4*(ws.length:Int) - (k:Int)*4).toNat - E=4:=by omega);(have hEl:E+4<=4*ws.length:=by omega);rw[<- hE] at HP;clear hE;go_region_law (refine step_copy_splice rfl (.tmp 33) (.tmp 34) 152 152 rfl 5 Tryz.underlying152 (by kernel_rfl) _ _ _ _ _ _ rfl rfl w1.heap.size E ((nk ws k).map u8) 5 (by exact HX.o _) ((qN x).map u8) rfl (fun _=>⟨rfl,_,rfl,by exact aki x _ w3⟩) (by simp[qN];omega) (by simp[qN,u8,Value.oneCell']) w1.heap.size w1 (by exact(bL.alloc bL.size _).drew) (aq _) ?_;intro w4 hg4 hb4)
   clear f1 f2 f3 f4 f6 f7 HX;go_wp2;go_roundw
   case rel=>exact⟨k+1,by omega,by go_num,by rw[Uq,HP.o] at hg4;exact hg4,hb4⟩
   case measure=>simp[intOf];omega
  ·obtain rfl:k=ws.length:=by omega
   have wJ:=C2 (P:=Tryz.prog) wr 152 5 Tryz.underlying152 Tryz.underlying5 w1.heap.size 0 (4*ws.length) (4*ws.length) (l8 ws) (OE ws) (fun i hi=>by
    have e:=bX wr w1.heap.size (0+i) _ _ _ HR.o;rw[e,ae6];(have wH:i<(l8 ws).length:=by rw[OE];exact hi);simp[u8,a8 wH,bU]) 30 Tryz.underlying30
   clear HR;go_wp2_with (go_at_call 210;refine(Ao _ _).af ?_;rintro e w3 ⟨rfl,hw1⟩;subst hw1)
   go_ret;exact⟨by rw[HB.o];rfl,bI⟩
variable {l':List Nat} {cap g' j m off':Nat}
def bh (w:World) (g off:Nat) (l:List Nat):Prop:=
 ∃cur,w.heap[g]? =some (.cells cur 114 (0,0))/\off+l.length<=cur.size/\∀j,j<l.length ->cur[off+j]? =some (u32 (l[j]?.getD 0))
theorem bh.cell {off:Nat} {l:List Nat} (h:bh w g off l) (j:Nat) (hj:j<l.length):w.cell? ⟨g,off+j,none⟩=some (.int .u32 (l[j]?.getD 0:Nat)):=by
 obtain⟨cur,hg,_,hc⟩:=h;rw[bX w g (off+j) cur _ (0,0) hg];exact hc j hj
theorem bh.frozen {off:Nat} {l:List Nat} (h:bh w g off l) (j:Nat):w.frozen? ⟨g,j,none⟩=false:=by
 obtain⟨cur,hg,_,_⟩:=h;exact kZ w g j cur _ hg
theorem bh.lt {off:Nat} {l:List Nat} (h:bh w g off l):g<w.heap.size:=by
 obtain⟨cur,hg,_,_⟩:=h;exact(dm.1 hg).1
theorem bh.of_block {off:Nat} {l:List Nat} (h:bh w g off l) (e:w'.heap[g]? =w.heap[g]?):bh w' g off l:=by
 obtain⟨cur,hg,h1,h2⟩:=h;exact⟨cur,e.trans hg,h1,h2⟩
theorem bh.aa {off B:Nat} {l:List Nat} (h:bh w g off l) (hb:Below B w w') (hB:g<B):bh w' g off l:=h.of_block (hb.block g hB)
theorem bh.grown {off:Nat} {row:Option Nat} {l:List Nat} (h:bh w g off l) (hb:w.grownBy w' row) (hne:some g≠row):bh w' g off l:=h.of_block (hb.block g h.lt hne)
theorem bh.piece {off:Nat} {l:List Nat} (h:bh w g off l) (a n:Nat) (ha:a+n<=l.length):bh w g (off+a) ((l.drop a).take n):=by
 obtain⟨cur,hg,h1,h2⟩:=h;have hl:((l.drop a).take n).length=n:=by simp;omega
 refine⟨cur,hg,by omega,fun j hj=>?_⟩;rw[zk,h2 (a+j) (by omega),sI,aA (by omega),Fu]
structure bZ (g off n:Nat) (w w':World):Prop where
 grown:w.grownBy w' (some g)
 inside:∀cur,w.heap[g]? =some (.cells cur 114 (0,0)) ->∃cur',w'.heap[g]? =some (.cells cur' 114 (0,0))/\cur'.size=cur.size/\∀i,(i<off∨off+n<=i) ->cur'[i]? =cur[i]?
theorem bZ.refl (g off n:Nat) (w:World):bZ g off n w w:=⟨World.grownBy.refl _ _,fun cur h=>⟨cur,h,rfl,fun _ _=>rfl⟩⟩
theorem bZ.trans {off:Nat} {a b c:World} (h:bZ g off n a b) (k:bZ g off n b c):bZ g off n a c:=
 ⟨h.grown.trans k.grown,fun cur hc=>by
  obtain⟨c1,g1,s1,e1⟩:=h.inside cur hc;obtain⟨c2,g2,s2,e2⟩:=k.inside c1 g1;exact⟨c2,g2,s2.trans s1,fun i hi=>(e2 i hi).trans (e1 i hi)⟩⟩
theorem bZ.af {off n':Nat} (h:bZ g off n w w') (h1:off'<=off) (h2:off+n<=off'+n'):bZ g off' n' w w':=
 ⟨h.grown,fun cur hc=>by
  obtain⟨c1,g1,s1,e1⟩:=h.inside cur hc;exact⟨c1,g1,s1,fun i hi=>e1 i (by omega)⟩⟩
theorem bZ.aa {off B:Nat} {a:World} (hb:Below B a w) (h:bZ g off n w w') (hB:B<=g) (hs:B<=w.heap.size):Below B a w':=
 hb.grown h.grown hs (fun k e=>by cases e;exact hB)
theorem YI (w:World) (g j:Nat) (cur:Array Value) (t:TypeId) (u:Value) (hg:w.heap[g]? =some (.cells cur t (0,0))):(w.setCell ⟨g,j,none⟩ u).heap[g]? =some (.cells (cur.setIfInBounds j u) t (0,0)):=
 jY w g j cur t u hg
theorem bZ.setCell {off:Nat} (h1:off<=j) (h2:j<off+n) (u:Value):bZ g off n w (w.setCell ⟨g,j,none⟩ u):=by
 refine⟨⟨rfl,rfl,rfl,by simp[World.setCell],fun k _ hk=>jq _ _ _ _ (by rintro rfl;exact hk rfl)⟩,fun cur hc=>?_⟩;refine⟨_,YI w g j cur _ u hc,by simp,fun i hi=>?_⟩;rw[Array.getElem?_setIfInBounds_ne (by omega)]
theorem bh.set {off:Nat} {l:List Nat} (h:bh w g off l) (j:Nat) (hj:j<l.length) (x:Nat):bh (w.setCell ⟨g,off+j,none⟩ (.int .u32 (x:Nat))) g off (l.set j x):=by
 obtain⟨cur,hg,h1,h2⟩:=h;refine⟨_,YI w g (off+j) cur _ _ hg,by simpa using h1,fun i hi=>?_⟩;rw[tY] at hi;by_cases e:i=j
 ·subst e;rw[Array.getElem?_setIfInBounds_self_of_lt (by omega)];simp[hj,u32]
 ·rw[Array.getElem?_setIfInBounds_ne (by omega),h2 i hi,MR (by omega)]
theorem bh.beside {off:Nat} {l:List Nat} (h:bh w g off l) (hu:bZ g off' n w w') (hd:off+l.length<=off'∨off'+n<=off):bh w' g off l:=by
 obtain⟨cur,hg,h1,h2⟩:=h;obtain⟨c1,g1,s1,e1⟩:=hu.inside cur hg;exact⟨c1,g1,by omega,fun j hj=>(e1 (off+j) (by omega)).trans (h2 j hj)⟩
theorem bh.apart {off:Nat} {l:List Nat} (h:bh w g off l) (hu:bZ g' off' n w w') (hd:g≠g'):bh w' g off l:=
 h.grown hu.grown (by simp[hd])
theorem bh.append {off:Nat} {a b:List Nat} (ha:bh w g off a) (hb:bh w g (off+a.length) b):bh w g off (a++b):=by
 obtain⟨cur,hg,h1,h2⟩:=ha;obtain⟨cur',iO,h3,h4⟩:=hb;rw[hg] at iO;cases iO;refine⟨cur,hg,by simp;omega,fun j hj=>?_⟩;rw[cK] at hj;by_cases e:j<a.length
 ·rw[List.getElem?_append_left e,h2 j e]
 ·rw[Ju (by omega)];have:=h4 (j - a.length) (by omega);rwa [show off+a.length+(j - a.length)=off+j by omega] at this
theorem zD {l:List Nat} (h:w.ownsRow base 114 1 (.slice (some ⟨g,0,none⟩) n cap) n (l.map u32)):n=l.length/\l.length<=cap/\base<=g/\bh w g 0 l:=by
 have hn:n=l.length:=by have:=h.1;simp at this;exact this.symm
 rcases h.2 with ⟨h',_⟩ |⟨g',cap',cur,h',hb,hg,zR,_,hsz,lu⟩
 ·cases h'
 ·cases h';refine⟨hn,by omega,hb,cur,hg,by omega,fun j hj=>?_⟩;have e:(cur.toList.take (n*1))[j]? =(l.map u32)[j]?:=by rw[lu]
  rw[sI,aA (by omega),kD,a8 hj] at e;rw[bD,a8 hj];simpa using e
theorem VD {l:List Nat} (h:w.ownsRow base 114 1 (.slice (some ⟨g,0,none⟩) n cap) n (l.map u32)) (hu:bZ g 0 m w w') (hl:bh w' g 0 l') (hlen:l'.length=n):w'.ownsRow base 114 1 (.slice (some ⟨g,0,none⟩) n cap) n (l'.map u32):=by
 refine⟨by simp[hlen],?_⟩;rcases h.2 with ⟨h',_⟩ |⟨g',cap',cur,h',hb,hg,zR,hm,hsz,lu⟩
 ·cases h'
 ·cases h';obtain⟨c1,g1,s1,_⟩:=hu.inside cur hg;obtain⟨c2,g2,h1,h2⟩:=hl;rw[g1] at g2;cases g2;refine .inr ⟨g,cap,c1,rfl,hb,g1,zR,hm,by omega,?_⟩;apply Fw;intro i;rw[sI,kD];by_cases hi:i<l'.length
  ·have:=h2 i hi;rw[bD,a8 hi] at this;rw[aA (by omega),a8 hi,xL,this];rfl
  ·rw[aD (by omega),iJ (by omega)];rfl
theorem aeT {v:Value} {l:List Nat} (h:w.ownsRow base 114 1 v n (l.map u32)):n=l.length:=by have:=h.1;simp at this;exact this.symm
theorem Kn {B:Nat} {e:TypeId} {size:Nat} {v:Value} (h:w.ownsRow base e size v n xs) (hb:Below B w w') (hB:w.heap.size<=B):w'.ownsRow base e size v n xs:=by
 refine⟨h.1,?_⟩;rcases h.2 with h' |⟨g,cap,cur,r1,r2,r3,r4⟩
 ·exact .inl h'
 ·exact .inr ⟨g,cap,cur,r1,r2,(hb.block g (aO (dm.1 r3).1 hB)).trans r3,r4⟩
theorem F8 {l:List Nat} (cur:Array Value) (hg:w.heap[g]? =some (.cells cur 114 (0,0))) (hs:cur.size=cap) (hb:base<=g) (hm:cap<=maxLen) (hc:l.length<=cap) (hl:bh w g 0 l):w.ownsRow base 114 1 (.slice (some ⟨g,0,none⟩) l.length cap) l.length (l.map u32):=by
 refine⟨by simp,.inr ⟨g,cap,cur,rfl,hb,hg,hc,hm,by omega,?_⟩⟩;obtain⟨c2,g2,h1,h2⟩:=hl;rw[hg] at g2;cases g2;apply Fw;intro i;rw[sI,kD];by_cases hi:i<l.length
 ·have:=h2 i hi;rw[bD,a8 hi] at this;rw[aA (by omega),a8 hi,xL,this];rfl
 ·rw[aD (by omega),iJ (by omega)];rfl
def Has (w:World) (base:Nat) (v:Value) (l:List Nat):Prop:=w.ownsRow base 114 1 v l.length (l.map u32)
theorem Has.cases {v:Value} {l:List Nat} (h:Has w base v l):(v=.slice none 0 0/\l=[])∨∃g cap,v=.slice (some ⟨g,0,none⟩) l.length cap/\l.length<=cap/\base<=g/\bh w g 0 l:=by
 rcases h.2 with ⟨hv,hn⟩ |⟨g,cap,cur,hv,r⟩
 ·exact .inl ⟨hv,Te hn⟩
 ·subst hv;obtain⟨_,h1,h2,h3⟩:=zD h;exact .inr ⟨g,cap,rfl,h1,h2,h3⟩
theorem Has.aa {B:Nat} {v:Value} {l:List Nat} (h:Has w base v l) (hb:Below B w w') (hB:w.heap.size<=B):Has w' base v l:=Kn h hb hB
theorem ajx {l:List Nat} (k:Nat) (hk:k<=l.length) (h:w.ownsRow base 114 1 (.slice (some ⟨g,0,none⟩) n cap) n (l.map u32)):w.ownsRow base 114 1 (.slice (some ⟨g,0,none⟩) k cap) k ((l.take k).map u32):=by
 have hn:=aeT h;refine⟨by simp;omega,?_⟩;rcases h.2 with ⟨h',_⟩ |⟨g',cap',cur,h',hb,hg,zR,hm,hsz,lu⟩
 ·cases h'
 ·cases h';refine .inr ⟨g,cap,cur,rfl,hb,hg,by omega,hm,hsz,?_⟩;rw[Jp, <- lu,List.take_take,p9 (by omega),nW]
theorem aij (w:World):Calls Tryz.prog 168 #[.slice none 0 0] w fun e w'=>e=.returned (.string (B 0))/\Below w.heap.size w w':=by
 obtain⟨i0,hi,hz0,hz1,hz2⟩:=dH Tryz.infoByte;have wJ:=fun (w2:World)=>C2 (P:=Tryz.prog) w2 152 5 Tryz.underlying152 Tryz.underlying5 w.heap.size 0 0 0 [] rfl (fun i hi=>absurd hi (Fk _)) 30 Tryz.underlying30;have HB:Hid (N (strOfNums [])=0):=rfl;go_enter Tryz.func168,Tryz.ntmps168
 go_wp2_with (first
  |(go_at_call 217;refine(ada _).af ?_;rintro e w1 ⟨rfl,hw1⟩;subst hw1)
  |(at_make;refine mR _ rfl _ _ 152 rfl w1.heap.size 5 i0 (.int .u8 0) 1 Tryz.underlying152 hi hz0 hz1 .i64 .i64 _ _ 0 rfl rfl rfl rfl (by omega) (by unfold maxLen;omega) (aq _) ?_;intro w2 hown2 hgrow2))
 refine E6 1 ?_;rw[nV];go_wp2_with (go_at_call 210;refine(Ao _ _).af ?_;rintro e w3 ⟨rfl,hw1⟩;subst hw1)
 go_ret;exact⟨by rw[HB.o];rfl,(au _ w1).grown hgrow2 (aq _) (fun k e=>by cases e)⟩
theorem Ln (base:Nat) (v:Value) (l:List Nat) (w:World) (hs:Small l) (hlen:l.length<=35184372088832) (h:Has w base v l):
  Calls Tryz.prog 168 #[v] w fun e w'=>e=.returned (.string (B (nw l)))/\Below w.heap.size w w':=by
 rcases h.cases with ⟨rfl,rfl⟩ |⟨g,cap,rfl,qC,hb,hl⟩
 ·rw[lp];exact aij w
 ·exact QV g cap l w hs qC hlen hl.lt (fun j hj=>hl.cell j hj)
theorem VX (r x:Nat) (hr:r<4294967296) (hx:x<4294967296):bits .or .u64 ((r:Int)*4294967296) (x:Int)=((r*4294967296+x:Nat):Int):=by
 have e1:(r:Int)*4294967296=((r*4294967296:Nat):Int):=by omega
 rw[e1,u64_or_nat _ _ (by omega) (by omega),nat_join 32 _ _ (by omega) (by omega)]
def G:Nat:=1000000000
theorem aB {p:Prop} (h:p):Hid p:=h
theorem Has.upd {l:List Nat} (h:Has w base (.slice (some ⟨g,0,none⟩) n cap) l) (hu:bZ g 0 m w w') (hl:bh w' g 0 l') (hlen:l'.length=l.length):Has w' base (.slice (some ⟨g,0,none⟩) n cap) l':=by
 have hn:n=l.length:=by
  rcases h.2 with ⟨h',_⟩ |⟨g',cap',cur,h',_⟩
  ·cases h'
  ·cases h';rfl
 subst hn;have:=VD h hu hl hlen;rw[Has,hlen];exact this
theorem LG (q l:List Nat) (k y:Nat) (hq:q.length=k) (hk:k<l.length):(q++l.drop k).set k y=q++[y]++l.drop (k+1):=by
 rw[A3 _ _ (by omega),hq,oX,mD hk,A2,nZ];rfl
variable {k:Nat} {f:Nat ->Nat}
def ix (f:Nat ->Nat):Nat ->Nat
 |0=>0
 |k+1=>ix f k+W^k*f k
theorem V8 (f g:Nat ->Nat) (k:Nat):ix (fun j=>f j+g j) k=ix f k+ix g k:=by
 induction k with
 |zero=>rfl
 |succ k ih=>simp only[ix,ih,k6];omega
theorem V6 (c:Nat) (f:Nat ->Nat) (k:Nat):ix (fun j=>c*f j) k=c*ix f k:=by
 induction k with
 |zero=>rfl
 |succ k ih=>simp only[ix,ih,k6];congr 1;rw[<- gg,cV (W^k) c,gg]
theorem Dz (l:List Nat) (k:Nat):ix (fun j=>l[j]?.getD 0) k=nw (l.take k):=by
 induction k with
 |zero=>simp[ix,lp]
 |succ k ih=>
  rw[ix,ih];by_cases h:k<l.length
  ·rw[Ol l k h,a8 h];rfl
  ·rw[iJ (by omega),jn (by omega:l.length<=k),jn (by omega:l.length<=k+1)];simp
theorem V7 (l:List Nat) (k:Nat) (h:l.length<=k):ix (fun j=>l[j]?.getD 0) k=nw l:=by rw[Dz,jn h]
theorem afp {g:Nat ->Nat} (h:∀j,j< k ->f j=g j):ix f k=ix g k:=by
 induction k with
 |zero=>rfl
 |succ k ih=>rw[ix,ix,ih (fun j hj=>h j (by omega)),h k (by omega)]
def acc (f:Nat ->Nat):Nat ->List Nat×Nat
 |0=>([],0)
 |k+1=>((acc f k).1++[((acc f k).2+f k) % W],((acc f k).2+f k)/W)
theorem Im (f:Nat ->Nat) (k:Nat):(acc f k).1.length=k:=by
 induction k with
 |zero=>rfl
 |succ k ih=>simp[acc,ih]
theorem Rz (f:Nat ->Nat) (k:Nat):Small (acc f k).1:=by
 induction k with
 |zero=>intro x hx;simp[acc] at hx
 |succ k ih=>
  intro x hx;rw[acc] at hx;rcases cI.1 hx with hx |hx
  ·exact ih x hx
  ·simp at hx;subst hx;exact gh _ kp
theorem RA (f:Nat ->Nat) (k:Nat):nw (acc f k).1+W^k*(acc f k).2=ix f k:=by
 induction k with
 |zero=>simp[acc,ix,lp]
 |succ k ih=>
  rw[acc,ix,zG,Im, <- ih,gH,gg];have e:=Nat.mod_add_div ((acc f k).2+f k) W
  have:W^k*(((acc f k).2+f k) % W)+W^k*(W*(((acc f k).2+f k)/W))=W^k*(acc f k).2+W^k*f k:=by
   rw[<- k6,e,k6]
  show nw (acc f k).1+W^k*(((acc f k).2+f k) % W)+W^k*(W*(((acc f k).2+f k)/W))=_;omega
theorem RB (f:Nat ->Nat) (b:Nat) (k:Nat) (h:∀j,j< k ->f j+b<(b+1)*W):(acc f k).2<=b:=by
 induction k with
 |zero=>exact aU _
 |succ k ih=>
  have h1:=ih (fun j hj=>h j (by omega));have h2:=h k (by omega);rw[acc];have:((acc f k).2+f k)/W<b+1:=C8 (by rw[cV];omega);omega
theorem UH (a q l:List Nat) (i k y:Nat) (ha:a.length=i) (hq:q.length=k) (hk:i+k<l.length):(a++q++l.drop (i+k)).set (i+k) y=a++(q++[y])++l.drop (i+(k+1)):=by
 rw[A3 _ _ (by rw[cK];omega),cK,ha,hq,oX,mD hk,A2];simp[nZ,zk]
theorem adp (a q l:List Nat) (i k:Nat) (ha:a.length=i) (hq:q.length=k):(a++q++l.drop (i+k))[i+k]?.getD 0=l[i+k]?.getD 0:=by
 rw[Ju (by rw[cK];omega),cK,ha,hq,oX,Fu,fO]
theorem getD_lt {l:List Nat} (h:Small l) (j:Nat):l[j]?.getD 0<W:=by
 by_cases hj:j<l.length
 ·rw[a8 hj];exact h _ (bM hj)
 ·rw[iJ (by omega)];exact kp
theorem vT {a b:List Nat} (ha:Small a) (hb:Small b):Small (a++b):=fun x hx=>(cI.1 hx).elim (ha x) (hb x)
theorem FV {l:List Nat} (h:Small l) (k:Nat):Small (l.drop k):=fun x hx=>h x (List.mem_of_mem_drop hx)
theorem afo (l:List Nat) (k:Nat):nw l=nw (l.take k)+W^(min k l.length)*nw (l.drop k):=by
 have:=xY (l.take k) (l.drop k);rwa [zl,dP] at this
theorem qi (l:List Nat) (k:Nat) (h:k<=l.length):nw l=nw (l.take k)+W^k*nw (l.drop k):=by
 have:=afo l k;rwa [p9 h] at this
theorem Oj (n:Nat):nw (List.replicate n 0)=0:=by
 induction n with
 |zero=>rfl
 |succ n ih=>rw[Fp,jL,ih];simp
theorem Ut (n:Nat):Small (List.replicate n 0):=fun x hx=>by rw[(List.mem_replicate.1 hx).2];exact kp
def eM (xs ys:List Nat) (j:Nat):Nat:=xs[j]?.getD 0+ys[j]?.getD 0
theorem Uh (xs ys:List Nat) (k:Nat):ix (eM xs ys) k=nw (xs.take k)+nw (ys.take k):=by
 rw[show eM xs ys=fun j=>(fun j=>xs[j]?.getD 0) j+(fun j=>ys[j]?.getD 0) j from rfl,V8,Dz,Dz]
theorem acO (xs ys:List Nat) (hx:Small xs) (hy:Small ys) (k:Nat):(acc (eM xs ys) k).2<=1:=by
 refine RB _ 1 k fun j _=>?_;have h1:=getD_lt hx j;have h2:=getD_lt hy j;unfold eM;omega
theorem NX (g off cap b Ga ig:Nat) (xs ys:List Nat) (w:World) (gw:Small xs) (iB:Small ys) (hlen:xs.length<=35184372088832) (x6:ys.length<=xs.length) (hx:bh w g off xs) (hy:bh w b Ga ys) (hgb:b≠g):
  Calls Tryz.prog 218 #[.slice (some ⟨g,off,none⟩) xs.length cap,.slice (some ⟨b,Ga,none⟩) ys.length ig] w fun e w'=>∃(c:Bool) (l':List Nat),e=.returned (.bool c)/\l'.length=xs.length/\Small l'/\nw l'+(if c then W^xs.length else 0)=nw xs+nw ys/\bh w' g off l'/\bZ g off xs.length w w':=by
 go_enter Tryz.func218,Tryz.ntmps218;go_wp2
 go_loopw [5,9] (fun c i wr=>∃k:Nat,k<=xs.length/\i=.int .i64 k/\c=.int .u64 ((acc (eM xs ys) k).2:Nat)/\bh wr g off ((acc (eM xs ys) k).1++xs.drop k)/\bZ g off xs.length w wr)
  (fun _ i _=>xs.length - (intOf i).toNat)
 case atStart=>exact⟨0,aU _,rfl,rfl,by simpa [acc] using hx,bZ.refl _ _ _ _⟩
 case round=>
  obtain⟨k,hk,rfl,rfl,cP,fT⟩:=hrel;have uA:=acO xs ys gw iB k;have dC:=Im (eM xs ys) k;have rK:=Rz (eM xs ys) k;have HQ:=aB (RA (eM xs ys) k);by_cases hlt:k<xs.length
  ·have fW:k<((acc (eM xs ys) k).1++xs.drop k).length:=by rw[cK,dC,lU];omega
   have hcell:=cP.cell k fW;have hfz:=cP.frozen (off+k);have cO:=fun y=>cP.set k fW y;simp only[LG _ xs k _ dC hlt] at cO
   have tk:((acc (eM xs ys) k).1++xs.drop k)[k]?.getD 0=xs[k]?.getD 0:=by
    rw[Ju (by omega),dC,oX,Fu,fO]
   rw[tk] at hcell;have HG:Hid (acc (eM xs ys) (k+1)=((acc (eM xs ys) k).1++[((acc (eM xs ys) k).2+eM xs ys k) % W],((acc (eM xs ys) k).2+eM xs ys k)/W)):=rfl;have sV:=getD_lt gw k;have BG:=getD_lt iB k;rw[fL] at sV BG;by_cases Pz:k<ys.length
   focus
    have ahR:=(hy.apart fT hgb).cell k Pz;have HF:Hid (eM xs ys k=xs[k]?.getD 0+ys[k]?.getD 0):=rfl;generalize (acc (eM xs ys) k).2=c at *;generalize (acc (eM xs ys) k).1=q at *;generalize eM xs ys k=s at *;generalize xs[k]?.getD 0=x at *;generalize ys[k]?.getD 0=y at *;have jV:=aB cO;clear cO tk fW cP HQ;go_wp2;have hv:Value.int .u32 (((c:Int)+(x:Int)+(y:Int)) % 4294967296)=.int .u32 (((c+s) % W:Nat):Int):=int_eq (by rw[fL,HF.o];omega);have hv2:Value.int .u64 (((c:Int)+(x:Int)+(y:Int))/4294967296)=.int .u64 (((c+s)/W:Nat):Int):=int_eq (by rw[fL,HF.o];omega)
   rotate_left
   focus
    (have Gk:ys[k]?.getD 0=0:=by rw[iJ (by omega)];rfl);by_cases hc0:(acc (eM xs ys) k).2=0
    ·have HE:Hid (nw ((acc (eM xs ys) k).1++xs.drop k)=nw xs+nw ys):=by
      show _=_;have e:=HQ.o;rw[hc0,j3,fO,Uh,jn (show ys.length<=k by omega)] at e;rw[xY,dC,e,qi xs k hk];omega
     have hsm:=vT rK (FV gw k);(have c4:((acc (eM xs ys) k).1++xs.drop k).length=xs.length:=by rw[cK,dC,lU];omega);rw[hc0];generalize (acc (eM xs ys) k).1++xs.drop k=q at *;clear cO hcell hfz HG tk fW HQ;go_wp2;go_ret;exact⟨false,q,rfl,c4,hsm,by rw[HE.o];rfl,cP,fT⟩
    focus
     (have HF:Hid (eM xs ys k=xs[k]?.getD 0):=by show _=_;rw[eM,Gk,fO]);(have hcb:(((acc (eM xs ys) k).2:Int)==0)=false:=by rw[C6];omega);generalize (acc (eM xs ys) k).2=c at *;generalize (acc (eM xs ys) k).1=q at *;generalize eM xs ys k=s at *;generalize xs[k]?.getD 0=x at *;have jV:=aB cO;clear cO tk fW cP HQ Gk hc0;go_wp2;have hv:Value.int .u32 (((c:Int)+(x:Int)) % 4294967296)=.int .u32 (((c+s) % W:Nat):Int):=int_eq (by rw[fL,HF.o];omega);have hv2:Value.int .u64 (((c:Int)+(x:Int))/4294967296)=.int .u64 (((c+s)/W:Nat):Int):=int_eq (by rw[fL,HF.o];omega)
   all_goals
    rw[hv,hv2];have hq:=jV.o ((c+s) % W);go_roundw
    case rel=>exact⟨k+1,by omega,by go_num,by rw[HG.o],by rw[HG.o];exact hq,fT.trans (bZ.setCell (Jl _ _) (by omega) _)⟩
    case measure=>simp[intOf];omega
  ·obtain rfl:k=xs.length:=by omega
   rw[List.drop_length,xJ] at cP
   have HE:Hid (nw (acc (eM xs ys) xs.length).1+W^xs.length*(acc (eM xs ys) xs.length).2=nw xs+nw ys):=by
    show _=_;rw[HQ.o,Uh,gX,jn x6]
   generalize (acc (eM xs ys) xs.length).1=q at *;generalize (acc (eM xs ys) xs.length).2=c at *;clear HQ;rcases (show c=0∨c=1 by omega) with rfl |rfl
   ·go_wp2;go_ret;exact⟨false,q,rfl,dC,rK,by have:=HE.o;simpa using this,cP,fT⟩
   ·go_wp2;go_ret;exact⟨true,q,rfl,dC,rK,by have:=HE.o;simpa using this,cP,fT⟩
section
open Go.Shelf
attribute [local go_sem] Oper.semAt_some
theorem vS (s:ByteArray) (w:World) (hs:s.size<=140737488355328):
  Calls Tryz.prog 170 #[.string s] w fun e w'=>∃g cap,e=.returned (.slice (some ⟨g,0,none⟩) (words (N s)).length cap)/\Has w' w.heap.size (.slice (some ⟨g,0,none⟩) (words (N s)).length cap) (words (N s))/\Below w.heap.size w w':=by
 refine(fZ (n:=6)).1 ?_;have fX:(B (N s)).size<=140737488355328:=aL (il s) hs;have aT:=acb (N s);have hN:=bG (N s);generalize hm:N s=m at *;obtain⟨i0,hi,hz0,hz1,hz2⟩:=dH Tryz.infoU32;refine sG Tryz.func170 rfl trivial ?_ rfl;simp only[Tryz.ntmps170,lR,dI,k8,Nat.reduceAdd,Nat.reduceSub,lX,lW,lS,k9,gY,eE];have HM:Hid (N s=m):=hm;have HN:Hid (N (B m)=m):=hN;have HU:Hid (upto m (((B m).size+3)/4)=words m):=aT;clear hm hN aT
 gi_wp2_with (first
  |(refine⟨trivial,?_⟩;gi_at_call 210;refine(fZ.2 (Ao _ _)).af ?_;rintro e w' ⟨rfl,rfl⟩;rw[HM.o])
  |(refine⟨trivial,?_⟩;gi_at_call 219;refine(fZ.2 (aaw _ _ fX)).af ?_;rintro e w' ⟨rfl,rfl⟩)
  |(gi_at_make;refine wpListIn_make_own _ rfl _ _ 198 rfl w'.heap.size 114 i0 (.int .u32 0) 1 Tryz.underlying198 hi hz0 hz1 .i64 .i64 _ (((B m).size+3)/4) rfl rfl (by omega) (by rw[hz2];omega) (by unfold maxLen;omega) (aq _) ?_;intro w1 hown1 GS)
  |(refine⟨trivial,?_⟩;gi_at_call 220;refine(aiG _ _ _).af ?_;rintro e w2 ⟨rfl,rfl⟩))
 have DU:=GS.size;have hB1:Below w'.heap.size w' w1:=(au _ w').grown GS (aq _) (fun k e=>by cases e);have bO:=aY w1 198 (.slice (some ⟨w'.heap.size,0,none⟩) 0 (((B m).size+3)/4));have bN:=aY (w1.alloc (.cells #[.slice (some ⟨w'.heap.size,0,none⟩) 0 (((B m).size+3)/4)] 198)) 30 (.string (B m));rw[di] at bN;have hB0:Below w'.heap.size w' ((w1.alloc (.cells #[.slice (some ⟨w'.heap.size,0,none⟩) 0 (((B m).size+3)/4)] 198)).alloc (.cells #[.string (B m)] 30)):=(hB1.alloc DU _).alloc (by simp;omega) _
 refine Jf (α:=Nat) rfl (by omega) (gf:=244) (lb:= #[.pointer (some ⟨w1.heap.size+1,0,none⟩)]) rfl trivial (enters_of Tryz.func244 (by kernel_rfl) rfl)
  (aiF 5 (by omega) (w1.heap.size+1) (B m) fX _ (by simp) bN.cell) mr.t (mr.b (by simp)) (au _ _) (fun _=>rfl)
  (fun (pre:List Nat) V=>((∃v,Boxed V w1.heap.size 198 v/\V.ownsRow w'.heap.size 114 1 v pre.length (pre.map u32)/\v≠.slice none 0 0)/\Below w'.heap.size w' V)/\Boxed V (w1.heap.size+1) 30 (.string (B m)))
  (fun _ _ _=>False)
  (eC (eC (fD (holdsRow_own w'.heap.size w1.heap.size 198 114 1 (fun pre:List Nat=>pre.length) (fun pre=>pre.map u32) (fun _ v=>v≠.slice none 0 0)) _) (xC (aq _) (by simp;omega))) (fD (iW _ _ (fun _=>.string (B m))) _))
  (fun _ _ _ _ _ hs _ _=>hs)
  ⟨⟨⟨_,bO.alloc _,(hown1.alloc _).alloc _,by simp⟩,hB0⟩,bN⟩
  (fun x=> {tmps:= #[.string (B m),undef,.slice none 0 0,.pointer (some ⟨w1.heap.size,0,none⟩),.int .u32 (x:Nat),.string s,.string (B m),.string (B m),.int .i64 (((B m).size+3)/4),.slice (some ⟨w'.heap.size,0,none⟩) 0 (((B m).size+3)/4),.string (B m),.func (.func 244) #[] #[.pointer (some ⟨w1.heap.size+1,0,none⟩)],.int .u32 (x:Nat),undef,undef,undef,undef,undef],defers:=[]}) ?assign ?body ?done ?stop
 case assign=>
  intro l x V K hK;gi_wp2
  exact hK
 case body=>
  rintro l pre x V ⟨⟨⟨v,hv,hrow,_⟩,hB⟩,hb⟩ hlt;have hc:=hv.cell;gi_wp2_with (gi_at_builtin;refine wpListIn_append_own _ rfl _ _ 198 rfl w'.heap.size 114 i0 (.int .u32 0) 1 4 Tryz.underlying198 hi hz0 hz1 hz2 rfl (by decide) _ _ _ rfl (hrow.alloc _) ⟨V.heap.size,0,none⟩ 1 1 [.int .u32 (x:Nat)] rfl rfl (cell_one_new _ _ _) (by simp[Value.oneCell']) (by unfold maxLen;omega) (by omega) (by have:=hB.size;simp;omega) ?_;intro v' w3 hown' hgrow _;obtain⟨g',cap',rfl⟩:=ownsRow_succ hown';obtain⟨ny,hv2,hr2,hk2,hb2⟩:=hv.appended (by decide) hrow hB.size DU hown' hgrow;have hb3:=(hb.alloc _).kept hgrow (hb.not_row (by decide) hrow);have hc1:=ny.cell;have Ed:=ny.frozen)
  have hb4:=hb3.other (B':=w1.heap.size) (by omega) (.slice (some ⟨g',0,none⟩) (pre.length+1) cap');exact⟨hk2.from _,hb4.cell.trans hb.cell.symm,⟨⟨_,hv2,by simpa [u32] using hr2,by simp⟩,hB.trans hb2⟩,hb4⟩
 case done=>
  rintro D ys V hD rfl ⟨⟨⟨v,hv,hrow,uu⟩,hB⟩,hb⟩ hK;have hc:=hv.cell;rw[HN.o,HU.o] at hrow;gi_wp2
  refine⟨by simp,.inl ⟨_,_,rfl,ze hK,?_⟩⟩
  obtain⟨g,cap,rfl⟩:∃g cap,v=.slice (some ⟨g,0,none⟩) (words m).length cap:=by
   rcases hrow.2 with ⟨e,_⟩ |⟨g,cap,_,e,_⟩
   ·exact absurd e uu
   ·exact⟨g,cap,e⟩
  refine⟨_,zg rfl _ _ _,g,cap,rfl,?_,hB.trans (sH (w:=w') (aq _) V D _ _ (by simp at hD;omega) hK rfl rfl)⟩;exact ownsRow_putObj hrow _ hK rfl
 case stop=>
  rintro D c pre V _ _ h _;exact h.elim
end
theorem Gg (n:Nat):(madeCells (Value.int .u32 0).cells (n*1)).toList=(List.replicate n 0).map u32:=by
 rw[show (Value.int .u32 0).cells= #[Value.int .u32 0] from rfl,E7,nW,Jq];rfl
theorem KD {l:List Nat} (h:w.heap[g]? =some (.cells (l.map u32).toArray 114 (0,0))):bh w g 0 l:=
 ⟨_,h,by simp,fun j hj=>by simp[a8 hj]⟩
theorem Ur (l:List Nat):splice ((List.replicate (l.length+1) 0).map u32) 0 (l.map u32)=(l++[0]).map u32:=by
 rw[Uq,splice,Fo,gY,bD,List.drop_replicate];simp
theorem aaH {l:List Nat} (h:bh w g 0 l):∀j v,(l.map u32)[j]? =some v ->w.cell? ((⟨g,0,none⟩:Addr).add j)=some v:=by
 intro j v hj
 have nG:j<l.length:=by
  rcases cT j l.length with h |h
  ·exact h
  ·rw[iJ (by simpa using h)] at hj;cases hj
 rw[Lib.add_plain,h.cell j nG];rw[kD,a8 nG] at hj;rw[a8 nG];exact hj
theorem VZ (l:List Nat):∀v∈l.map u32,v.oneCell'=true:=by
 intro v hv;obtain⟨x,_,rfl⟩:=aW.1 hv;rfl
theorem Ua {xs ys:List Nat} (hx:Small xs) (hy:Small ys) (h:ys.length<=xs.length):nw xs+nw ys<W^(xs.length+1):=by
 have h1:=sR xs hx;have h2:=sR ys hy;have h3:W^ys.length<=W^xs.length:=iX kp h;have h4:W^(xs.length+1)=W^xs.length*W:=gH ..;have h5:W^xs.length*2<=W^xs.length*W:=j5 _ (by decide);omega
theorem aet (gx jT gy ig:Nat) (xs ys:List Nat) (w:World) (gw:Small xs) (iB:Small ys) (hlen:xs.length<=17592186044416) (x6:ys.length<=xs.length) (hx:bh w gx 0 xs) (hy:bh w gy 0 ys):
  Calls Tryz.prog 169 #[.slice (some ⟨gx,0,none⟩) xs.length jT,.slice (some ⟨gy,0,none⟩) ys.length ig] w fun e w'=>∃v l,e=.returned v/\Has w' w.heap.size v l/\Small l/\l.length=xs.length+1/\nw l=nw xs+nw ys/\Below w.heap.size w w':=by
 obtain⟨i0,hi,hz0,hz1,hz2⟩:=dH Tryz.infoU32;have hnl:¬xs.length<ys.length:=by omega
 have hgx:=hx.lt;have B5:=hy.lt;go_enter Tryz.func169,Tryz.ntmps169
 go_wp2_with (first
  |(at_make;refine mR _ rfl _ _ 198 rfl w.heap.size 114 i0 (.int .u32 0) 1 Tryz.underlying198 hi hz0 hz1 .i64 .i64 _ _ (xs.length+1) rfl rfl (by omega) (by omega) (by rw[hz2];omega) (by unfold maxLen;omega) (aq _) ?_;intro w2 hown2 hgrow2;have hb2:=pS hown2;rw[Gg] at hb2;have bB:=aB hb2;have hB2:Below w.heap.size w w2:=(au _ w).grown hgrow2 (aq _) (fun k e=>by cases e);have hx2:=hx.aa hB2 hgx;clear hown2 hgrow2 hb2)
  |(refine wpList_copy_splice rfl (.tmp 17) (.tmp 18) 198 198 rfl 114 Tryz.underlying198 (by kernel_rfl) _ _ _ _ _ _ rfl rfl w.heap.size 0 ((List.replicate (xs.length+1) 0).map u32) 114 (by exact bB.o) (xs.map u32) (by rw[cX];exact(p9 (Nat.le_succ _)).symm) (fun _=>⟨rfl,_,rfl,aaH hx2⟩) (by simp) (VZ xs) w.heap.size w hB2 (aq _) ?_;intro w3 hg3 bL))
 rw[Ur] at hg3;have hl3:=KD hg3.o;have DM:=hy.aa bL B5;have e1:(xs++[0]).length=xs.length+1:=by simp
 have hs1:Small (xs++[0]):=vT gw (fun x hx=>by simp at hx;subst hx;exact kp);have pA:=NX w.heap.size 0 (xs.length+1) gy 0 ig (xs++[0]) ys w3 hs1 iB (by omega) (by omega) hl3 DM (by omega);rw[e1,zG,j3,fO] at pA;refine pA.af ?_;rintro e w4 ⟨c,l4,rfl,hl4,jN,zS,GD,sY⟩;have dK:Below w.heap.size w w4:=bZ.aa bL sY (aq _) bL.size;obtain⟨cur,hc4,hcs,_⟩:=sY.inside _ hg3.o;have nD:=F8 (base:=w.heap.size) (cap:=xs.length+1) cur hc4 (by rw[hcs];simp) (aq _) (by unfold maxLen;omega) (by omega) GD
 have HN:Hid (nw l4=nw xs+nw ys):=by
  show _=_;cases c with
  |false=>simpa using zS
  |true=>
   have hf:=Ua gw iB x6;simp only[if_true] at zS;omega
 have HL:=aB hl4;rw[hl4] at nD;clear zS hl4 hc4 hcs pA hg3 GD sY;go_wp2;go_ret;exact⟨_,l4,rfl,by rw[Has,HL.o];exact nD,jN,HL.o,HN.o,dK⟩
theorem aes (gx jT gy ig:Nat) (xs ys:List Nat) (w:World) (gw:Small xs) (iB:Small ys) (hlen:xs.length<=17592186044416) (hlt:ys.length<xs.length) (hx:bh w gx 0 xs) (hy:bh w gy 0 ys):
  Calls Tryz.prog 169 #[.slice (some ⟨gy,0,none⟩) ys.length ig,.slice (some ⟨gx,0,none⟩) xs.length jT] w fun e w'=>∃v l,e=.returned v/\Has w' w.heap.size v l/\Small l/\l.length=xs.length+1/\nw l=nw xs+nw ys/\Below w.heap.size w w':=by
 obtain⟨i0,hi,hz0,hz1,hz2⟩:=dH Tryz.infoU32;have x6:ys.length<=xs.length:=by omega
 have hgx:=hx.lt;have B5:=hy.lt;go_enter Tryz.func169,Tryz.ntmps169
 go_wp2_with (first
  |(at_make;refine mR _ rfl _ _ 198 rfl w.heap.size 114 i0 (.int .u32 0) 1 Tryz.underlying198 hi hz0 hz1 .i64 .i64 _ _ (xs.length+1) rfl rfl (by omega) (by omega) (by rw[hz2];omega) (by unfold maxLen;omega) (aq _) ?_;intro w2 hown2 hgrow2;have hb2:=pS hown2;rw[Gg] at hb2;have bB:=aB hb2;have hB2:Below w.heap.size w w2:=(au _ w).grown hgrow2 (aq _) (fun k e=>by cases e);have hx2:=hx.aa hB2 hgx;clear hown2 hgrow2 hb2)
  |(refine wpList_copy_splice rfl (.tmp 17) (.tmp 18) 198 198 rfl 114 Tryz.underlying198 (by kernel_rfl) _ _ _ _ _ _ rfl rfl w.heap.size 0 ((List.replicate (xs.length+1) 0).map u32) 114 (by exact bB.o) (xs.map u32) (by rw[cX];exact(p9 (Nat.le_succ _)).symm) (fun _=>⟨rfl,_,rfl,aaH hx2⟩) (by simp) (VZ xs) w.heap.size w hB2 (aq _) ?_;intro w3 hg3 bL))
 rw[Ur] at hg3;have hl3:=KD hg3.o;have DM:=hy.aa bL B5;have e1:(xs++[0]).length=xs.length+1:=by simp
 have hs1:Small (xs++[0]):=vT gw (fun x hx=>by simp at hx;subst hx;exact kp);have pA:=NX w.heap.size 0 (xs.length+1) gy 0 ig (xs++[0]) ys w3 hs1 iB (by omega) (by omega) hl3 DM (by omega);rw[e1,zG,j3,fO] at pA;refine pA.af ?_;rintro e w4 ⟨c,l4,rfl,hl4,jN,zS,GD,sY⟩;have dK:Below w.heap.size w w4:=bZ.aa bL sY (aq _) bL.size;obtain⟨cur,hc4,hcs,_⟩:=sY.inside _ hg3.o;have nD:=F8 (base:=w.heap.size) (cap:=xs.length+1) cur hc4 (by rw[hcs];simp) (aq _) (by unfold maxLen;omega) (by omega) GD
 have HN:Hid (nw l4=nw xs+nw ys):=by
  show _=_;cases c with
  |false=>simpa using zS
  |true=>
   have hf:=Ua gw iB x6;simp only[if_true] at zS;omega
 have HL:=aB hl4;rw[hl4] at nD;clear zS hl4 hc4 hcs pA hg3 GD sY;go_wp2;go_ret;exact⟨_,l4,rfl,by rw[Has,HL.o];exact nD,jN,HL.o,HN.o,dK⟩
theorem aeu (gx jT gy ig:Nat) (xs ys:List Nat) (w:World) (gw:Small xs) (iB:Small ys) (hlx:xs.length<=17592186044416) (Yc:ys.length<=17592186044416) (hx:bh w gx 0 xs) (hy:bh w gy 0 ys):
  Calls Tryz.prog 169 #[.slice (some ⟨gx,0,none⟩) xs.length jT,.slice (some ⟨gy,0,none⟩) ys.length ig] w fun e w'=>∃v l,e=.returned v/\Has w' w.heap.size v l/\Small l/\l.length<=17592186044417/\nw l=nw xs+nw ys/\Below w.heap.size w w':=by
 by_cases h:ys.length<=xs.length
 ·refine(aet gx jT gy ig xs ys w gw iB hlx h hx hy).af ?_;rintro e w' ⟨v,l,rfl,h1,h2,h3,h4,h5⟩;exact⟨v,l,rfl,h1,h2,by omega,h4,h5⟩
 ·refine(aes gy ig gx jT ys xs w iB gw Yc (by omega) hy hx).af ?_;rintro e w' ⟨v,l,rfl,h1,h2,h3,h4,h5⟩;exact⟨v,l,rfl,h1,h2,by omega,by omega,h5⟩
theorem uG {l:List Nat} (h:Has w base (.slice (some ⟨g,0,none⟩) n cap) l) (hb:Below w.heap.size w w'):bh w' g 0 l:=by
 rcases h.cases with ⟨e,_⟩ |⟨g',cap',e,_,_,hl⟩
 ·cases e
 ·cases e;exact hl.aa hb hl.lt
theorem vP (s:ByteArray) (k:Nat) (h:s.size<=4*k):(words (N s)).length<=k:=by
 rw[JJ, <- kA];have:=il s;omega
theorem als (a b:ByteArray) (w:World) (ha:a.size<=1099511627776) (hb:b.size<=1099511627776):
  Calls Tryz.prog 111 #[.string a,.string b] w fun e w'=>e=.returned (.string (B (N a+N b)))/\Below w.heap.size w w':=by
 have kh:=vP a 274877906944 (by omega);have iC:=vP b 274877906944 (by omega);go_enter Tryz.func111,Tryz.ntmps111;go_wp2_with fail
 refine(vS a _ (by omega)).af ?_;rintro e w1 ⟨g1,c1,rfl,h1,hb1⟩;go_wp2_with fail
 refine(vS b _ (by omega)).af ?_;rintro e w2 ⟨g2,c2,rfl,h2,hb2⟩;have kL:=uG h1 hb2;have hl2:=uG h2 (au _ _);have hB2:Below w.heap.size w w2:=hb1.trans (hb2.af hb1.size);go_wp2_with fail
 refine(aeu g1 c1 g2 c2 _ _ _ (lh _) (lh _) (by omega) (by omega) kL hl2).af ?_;rintro e w3 ⟨v,l,rfl,h3,hs3,uw,hv3,hb3⟩;have bL:Below w.heap.size w w3:=hB2.trans (hb3.af hB2.size);have HV:=aB hv3;clear hv3;go_wp2_with fail
 refine(Ln _ _ _ _ hs3 (by omega) h3).af ?_;rintro e w4 ⟨rfl,hb4⟩;go_wp2;go_ret;exact⟨by rw[HV.o,jK,jK];rfl,bL.trans (hb4.af bL.size)⟩
theorem toList_data (s:ByteArray):s.toList=s.data.toList:=by
 obtain⟨⟨l⟩⟩:=s;simp
theorem adE {a b:Bool} (h:a=b):Ending.returned (.bool a)=.returned (.bool b):=by rw[h]
def iG (m n:Nat):Int:=if m<n then -1 else if m=n then 0 else 1
theorem WX:∀(l m:List UInt8),l.length=m.length ->Op.bytesLess l m=decide (nb l<nb m)
 |[],[],_=>rfl
 |x::l,y::m,h=>by
  have hl:l.length=m.length:=by simpa using h
  have ih:=WX l m hl;have h1:=rF l;have h2:=rF m;rw[Bz,Bz, <- hl];rw[<- hl] at h2;rw[Op.bytesLess];rcases Nat.lt_trichotomy x.toNat y.toNat with e |e |e
  ·have uj:(decide (x<y))=true:=by simpa [UInt8.lt_iff_toNat_lt] using e
   have:(x.toNat+1)*256^l.length<=y.toNat*256^l.length:=jl _ e;rw[eL] at this;rw[uj,Bool.true_or];symm;rw[MF];omega
  ·have uj:x=y:=Jk.1 e;subst uj;(have h3:(decide (x<x))=false:=by simp);rw[h3,Bool.false_or,beq_self_eq_true,Df,ih];congr 1
   apply propext;omega
  ·have h3:(decide (x<y))=false:=by simp[UInt8.lt_iff_toNat_lt];omega
   (have h4:(x==y)=false:=by rw[C6];rintro rfl;omega);have:(y.toNat+1)*256^l.length<=x.toNat*256^l.length:=jl _ e;rw[eL] at this;rw[h3,h4,Bool.false_or,Bool.false_and];symm;rw[Jj];omega
theorem Wu:∀(l m:List UInt8),l.length=m.length ->nb l=nb m ->l=m
 |[],[],_,_=>rfl
 |x::l,y::m,h,e=>by
  have hl:l.length=m.length:=by simpa using h
  have h1:=rF l;have h2:=rF m;rw[Bz,Bz, <- hl] at e;rw[<- hl] at h2;have hp:0<256^l.length:=rq (by decide)
  have hx:x.toNat=y.toNat:=by
   rcases Nat.lt_trichotomy x.toNat y.toNat with c |c |c
   ·have:(x.toNat+1)*256^l.length<=y.toNat*256^l.length:=jl _ c;rw[eL] at this;omega
   ·exact c
   ·have:(y.toNat+1)*256^l.length<=x.toNat*256^l.length:=jl _ c;rw[eL] at this;omega
  rw[hx] at e;rw[Jk.1 hx,Wu l m hl (by omega)]
theorem alp (a b:ByteArray) (w:World) (h:a.size=b.size):
  Calls Tryz.prog 212 #[.string a,.string b] w fun e w'=>e=.returned (.int .i64 (iG (N a) (N b)))/\w'=w:=by
 have hlt:=WX a.data.toList b.data.toList (by rw[A9,A9];exact h);rcases Nat.lt_trichotomy (N a) (N b) with h1 |h1 |h1
 ·have hL:Op.bytesLess a.toList b.toList=true:=by rw[toList_data,toList_data,hlt];simpa [N] using h1
  have HR:Hid (iG (N a) (N b)= -1):=by show _=_;rw[iG,aA h1]
  clear hlt h1;go_enter Tryz.func212,Tryz.ntmps212;go_wp2;go_ret;exact⟨xR HR.o.symm,rfl⟩
 ·have hL:Op.bytesLess a.toList b.toList=false:=by rw[toList_data,toList_data,hlt];simp only[N] at h1;rw[Jj];omega
  have hE:(a.toList==b.toList)=true:=by
   rw[toList_data,toList_data,Wu a.data.toList b.data.toList (by rw[A9,A9];exact h) h1];simp
  have HR:Hid (iG (N a) (N b)=0):=by show _=_;rw[iG,aD (by omega),aA h1]
  clear hlt h1;go_enter Tryz.func212,Tryz.ntmps212;go_wp2;go_ret;exact⟨xR HR.o.symm,rfl⟩
 ·have hL:Op.bytesLess a.toList b.toList=false:=by rw[toList_data,toList_data,hlt];simp only[N] at h1;rw[Jj];omega
  have hE:(a.toList==b.toList)=false:=by
   rw[toList_data,toList_data,C6];intro e;rw[N,N,e] at h1;omega
  have HR:Hid (iG (N a) (N b)=1):=by show _=_;rw[iG,aD (by omega),aD (by omega)]
  clear hlt h1;go_enter Tryz.func212,Tryz.ntmps212;go_wp2;go_ret;exact⟨xR HR.o.symm,rfl⟩
theorem S6 (a b:ByteArray) (w:World):
  Calls Tryz.prog 164 #[.string a,.string b] w fun e w'=>e=.returned (.int .i64 (iG (N a) (N b)))/\w'=w:=by
 by_cases h:(B (N a)).size=(B (N b)).size
 ·have hc:=fun V=>alp (B (N a)) (B (N b)) V h;simp only[bG] at hc;have HC:=aB hc;have hne:(((B (N a)).size:Int) !=((B (N b)).size:Int))=false:=by rw[h];simp
  clear hc h;go_enter Tryz.func164,Tryz.ntmps164;go_wp2_with fail
  refine(Ao _ _).af ?_;rintro e w1 ⟨rfl,hw⟩;subst hw;go_wp2_with fail
  refine(Ao _ _).af ?_;rintro e w2 ⟨rfl,hw⟩;subst hw;go_wp2_with fail
  refine(HC.o _).af ?_;rintro e w3 ⟨rfl,hw⟩;subst hw;go_wp2;go_ret;exact⟨rfl,rfl⟩
 ·have hne:(((B (N a)).size:Int) !=((B (N b)).size:Int))=true:=by rw[bne_iff_ne];omega
  have HR:Hid (Lib.compareInt (((B (N a)).size:Nat):Int) (((B (N b)).size:Nat):Int)=iG (N a) (N b)):=by
   show _=_;rw[kA,kA] at h⊢;unfold Lib.compareInt iG;rcases cT (N a) (N b) with c |c
   ·have:=Rl (xG c);rw[aA (by omega),aA c]
   ·have:=Rl c;rw[aD (by omega),aA (by omega),aD (by omega),aD (by intro e;rw[e] at h;exact h rfl)]
  clear h;go_enter Tryz.func164,Tryz.ntmps164;go_wp2_with fail
  refine(Ao _ _).af ?_;rintro e w1 ⟨rfl,hw⟩;subst hw;go_wp2_with fail
  refine(Ao _ _).af ?_;rintro e w2 ⟨rfl,hw⟩;subst hw;go_wp2_with fail
  refine(Tryz.cmp_Compare_int _ _ _).af ?_;rintro e w3 ⟨rfl,hw⟩;subst hw;go_wp2;go_ret;exact⟨xR HR.o,rfl⟩
def cj (xs ys:List Nat) (f:Nat):Nat ->List Nat×Nat×Nat
 |0=>([],0,0)
 |k+1=>((cj xs ys f k).1++[(xs[k]?.getD 0+2*W - ((cj xs ys f k).2.1+ys[k]?.getD 0*f) % W - (cj xs ys f k).2.2) % W],
   ((cj xs ys f k).2.1+ys[k]?.getD 0*f)/W,if xs[k]?.getD 0<((cj xs ys f k).2.1+ys[k]?.getD 0*f) % W+(cj xs ys f k).2.2 then 1 else 0)
theorem UI (xs ys:List Nat) (f k:Nat):(cj xs ys f k).1.length=k:=by
 induction k with
 |zero=>rfl
 |succ k ih=>simp[cj,ih]
theorem adr (xs ys:List Nat) (f k:Nat):Small (cj xs ys f k).1:=by
 induction k with
 |zero=>intro x hx;simp[cj] at hx
 |succ k ih=>
  intro x hx;rw[cj] at hx;rcases cI.1 hx with hx |hx
  ·exact ih x hx
  ·simp only[eD] at hx;subst hx;exact gh _ kp
theorem UJ (xs ys:List Nat) (f k:Nat):(cj xs ys f k).2.2<=1:=by
 cases k with
 |zero=>exact aU _
 |succ k=>
  rw[cj];show (if _ then 1 else 0)<=1;split<;>omega
theorem adt (xs ys:List Nat) (f:Nat) (hy:Small ys) (hf:f<W) (k:Nat):(cj xs ys f k).2.1<W:=by
 induction k with
 |zero=>exact kp
 |succ k ih=>
  rw[cj];refine C8 ?_;have h1:=getD_lt hy k;have h2:ys[k]?.getD 0*f<=(W - 1)*(W - 1):=jm (by omega) (by omega);have h3:(W - 1)*(W - 1)+W<=W*W:=by decide
  omega
theorem adq (x c t b:Nat) (hx:x<W) (hb:b<=1):
  (x+2*W - (c+t) % W - b) % W+t+b+c=x+W*((c+t)/W+if x<(c+t) % W+b then 1 else 0):=by
 have e:=Nat.mod_add_div (c+t) W;have hlo:=gh (c+t) kp;generalize (c+t) % W=lo at *;generalize (c+t)/W=q at *;rw[k6];by_cases h:x<lo+b
 ·rw[aA h]
  have:(x+2*W - lo - b) % W=x+W - lo - b:=by
   rw[show x+2*W - lo - b=(x+W - lo - b)+W by omega,Nat.add_mod_right];exact iY (by omega)
  omega
 ·rw[aD h]
  have:(x+2*W - lo - b) % W=x - lo - b:=by
   rw[show x+2*W - lo - b=(x - lo - b)+W+W by omega,Nat.add_mod_right,Nat.add_mod_right];exact iY (by omega)
  omega
theorem ads (xs ys:List Nat) (f:Nat) (hx:Small xs) (k:Nat):
  nw (cj xs ys f k).1+f*nw (ys.take k)=nw (xs.take k)+W^k*((cj xs ys f k).2.1+(cj xs ys f k).2.2):=by
 rw[<- Dz xs k, <- Dz ys k];induction k with
 |zero=>simp[cj,ix,lp]
 |succ k ih=>
  have hb:=UJ xs ys f k;have st:=adq (xs[k]?.getD 0) (cj xs ys f k).2.1 (ys[k]?.getD 0*f) (cj xs ys f k).2.2 (getD_lt hx k) hb
  have e3:f*(ix (fun j=>ys[j]?.getD 0) k+W^k*ys[k]?.getD 0)=f*ix (fun j=>ys[j]?.getD 0) k+W^k*(ys[k]?.getD 0*f):=by
   rw[k6,xF,cV f (ys[k]?.getD 0)]
  rw[cj,ix,ix,zG,UI,e3];show _=_+W^(k+1)*(_+if _ then 1 else 0);rw[gH,gg];generalize (xs[k]?.getD 0+2*W - ((cj xs ys f k).2.1+ys[k]?.getD 0*f) % W - (cj xs ys f k).2.2) % W=d at *;generalize (((cj xs ys f k).2.1+ys[k]?.getD 0*f)/W+if xs[k]?.getD 0<((cj xs ys f k).2.1+ys[k]?.getD 0*f) % W+(cj xs ys f k).2.2 then 1 else 0)=z at *;generalize (cj xs ys f k).2.1=c at *;generalize (cj xs ys f k).2.2=b at *;generalize ys[k]?.getD 0*f=t at *;have:=cU (W^k*·) st;simp only[k6] at this ih⊢;omega
theorem Rw (t:Nat) (ht:t<18446744073709551616):bits .and .u64 (t:Int) 4294967295=((t % 4294967296:Nat):Int):=by
 have e:(4294967295:Int)=((4294967295:Nat):Int):=rfl;rw[e,u64_and_nat t 4294967295 ht (by omega)];congr 1
 exact Nat.and_two_pow_sub_one_eq_mod t 32
theorem Nr (x lo b:Nat) (hx:x<4294967296) (hlo:lo<4294967296) (hb:b<=1):
  IntKind.u64.wrap (IntKind.u64.wrap ((x:Int) - (lo:Int)) - (b:Int))/9223372036854775808=((if x<lo+b then 1 else 0:Nat):Int)/\
  IntKind.u64.wrap (IntKind.u64.wrap ((x:Int) - (lo:Int)) - (b:Int)) % 4294967296=(((x+2*W - lo - b) % W:Nat):Int):=by
 rw[Jy,Jy,fL];by_cases h:x<lo+b
 ·rw[aA h];have e:(((x:Int) - (lo:Int)) % 18446744073709551616 - (b:Int)) % 18446744073709551616=(x:Int) - (lo:Int) - (b:Int)+18446744073709551616:=by omega
  rw[e];omega
 ·rw[aD h];have e:(((x:Int) - (lo:Int)) % 18446744073709551616 - (b:Int)) % 18446744073709551616=(x:Int) - (lo:Int) - (b:Int):=by omega
  rw[e];omega
theorem TW (g off cap b Ga ig:Nat) (xs ys:List Nat) (f:Nat) (w:World) (gw:Small xs) (iB:Small ys) (hf:f<W) (hlen:xs.length<=35184372088832) (x6:ys.length<=xs.length) (hx:bh w g off xs) (hy:bh w b Ga ys) (hgb:b≠g):
  Calls Tryz.prog 209 #[.slice (some ⟨g,off,none⟩) xs.length cap,.slice (some ⟨b,Ga,none⟩) ys.length ig,.int .u32 (f:Nat)] w fun e w'=>∃(s:Nat) (l':List Nat),e=.returned (.bool (decide (s≠0)))/\l'.length=xs.length/\Small l'/\nw l'+f*nw ys=nw xs+W^xs.length*s/\bh w' g off l'/\bZ g off xs.length w w':=by
 have hf2:f<4294967296:=hf;go_enter Tryz.func209,Tryz.ntmps209;go_wp2
 go_loopw [7,8,13] (fun c bo i wr=>∃k:Nat,k<=xs.length/\i=.int .i64 k/\c=.int .u64 ((cj xs ys f k).2.1:Nat)/\bo=.int .u64 ((cj xs ys f k).2.2:Nat)/\bh wr g off ((cj xs ys f k).1++xs.drop k)/\bZ g off xs.length w wr)
  (fun _ _ i _=>xs.length - (intOf i).toNat)
 case atStart=>exact⟨0,aU _,rfl,rfl,rfl,by simpa [cj] using hx,bZ.refl _ _ _ _⟩
 case round=>
  obtain⟨k,hk,rfl,rfl,rfl,cP,fT⟩:=hrel;have uA:=adt xs ys f iB hf k;have YR:=UJ xs ys f k;have dC:=UI xs ys f k;have rK:=adr xs ys f k;have HQ:=aB (ads xs ys f gw k);rw[fL] at uA;by_cases hlt:k<xs.length
  ·have fW:k<((cj xs ys f k).1++xs.drop k).length:=by rw[cK,dC,lU];omega
   have hcell:=cP.cell k fW;have hfz:=cP.frozen (off+k);have cO:=fun y=>cP.set k fW y;simp only[LG _ xs k _ dC hlt] at cO
   have tk:((cj xs ys f k).1++xs.drop k)[k]?.getD 0=xs[k]?.getD 0:=by
    rw[Ju (by omega),dC,oX,Fu,fO]
   rw[tk] at hcell
   have HG:Hid (cj xs ys f (k+1)=((cj xs ys f k).1++[(xs[k]?.getD 0+2*W - ((cj xs ys f k).2.1+ys[k]?.getD 0*f) % W - (cj xs ys f k).2.2) % W],
    ((cj xs ys f k).2.1+ys[k]?.getD 0*f)/W,if xs[k]?.getD 0<((cj xs ys f k).2.1+ys[k]?.getD 0*f) % W+(cj xs ys f k).2.2 then 1 else 0)):=rfl
   have sV:=getD_lt gw k;have BG:=getD_lt iB k;have Gt:ys[k]?.getD 0*f<=4294967295*4294967295:=jm (by rw[fL] at BG;omega) (by rw[fL] at hf;omega);rw[fL] at sV BG;by_cases Pz:k<ys.length
   ·have ahR:=(hy.apart fT hgb).cell k Pz;generalize (cj xs ys f k).2.1=c at *;generalize (cj xs ys f k).2.2=bo at *;generalize (cj xs ys f k).1=q at *;generalize xs[k]?.getD 0=x at *;generalize ys[k]?.getD 0=y at *;(have BW:(y:Int)*(f:Int)<=18446744065119617025:=by rw[<- jG];omega);(have yj:0<=(y:Int)*(f:Int):=by rw[<- jG];omega);obtain⟨lo,hlo⟩:∃lo,lo=(c+y*f) % 4294967296:=⟨_,rfl⟩
    have hand:bits .and .u64 ((c:Int)+(y:Int)*(f:Int)) 4294967295=(lo:Int):=by
     have:=Rw (c+y*f) (by omega);rw[<- hlo] at this;rw[<- this,zu,jG]
    (have ahs:lo<4294967296:=by omega);have nS:=aB hlo;have jV:=aB cO;clear cO tk fW cP HQ hlo Gt;go_wp2;obtain⟨v1,v2⟩:=Nr x lo bo sV ahs YR;rw[v1,v2];have hv2:Value.int .u64 (((c:Int)+(y:Int)*(f:Int))/4294967296)=.int .u64 (((c+y*f)/W:Nat):Int):=int_eq (by rw[fL,vL,zu,jG];rfl);rw[hv2];have hq:=jV.o ((x+2*W - lo - bo) % W);have oQ:Hid ((c+y*f) % W=lo):=nS.o.symm;have sk:=HG.o;rw[oQ.o] at sk;go_roundw
    case rel=>exact⟨k+1,by omega,by go_num,by rw[sk],by rw[sk],by rw[sk];exact hq,fT.trans (bZ.setCell (Jl _ _) (by omega) _)⟩
    case measure=>simp[intOf];omega
   ·have Gk:ys[k]?.getD 0=0:=by rw[iJ (by omega)];rfl
    by_cases hc0:(cj xs ys f k).2.1=0/\(cj xs ys f k).2.2=0
    ·obtain⟨hc1,hc2⟩:=hc0
     have HE:Hid (nw ((cj xs ys f k).1++xs.drop k)+f*nw ys=nw xs):=by
      show _=_;have e:=HQ.o;rw[hc1,hc2,j3,fO,jn (show ys.length<=k by omega)] at e;have e2:=qi xs k hk;rw[xY,dC];omega
     have hsm:=vT rK (FV gw k);(have c4:((cj xs ys f k).1++xs.drop k).length=xs.length:=by rw[cK,dC,lU];omega);rw[hc1,hc2];generalize (cj xs ys f k).1++xs.drop k=q at *;clear cO hcell hfz HG tk fW HQ Gt;go_wp2;go_ret;exact⟨0,q,rfl,c4,hsm,by rw[HE.o,j3,fO],cP,fT⟩
    ·have sk:=HG.o;simp only[Gk,mC,fO] at sk;generalize (cj xs ys f k).2.1=c at *;generalize (cj xs ys f k).2.2=bo at *;generalize (cj xs ys f k).1=q at *;generalize xs[k]?.getD 0=x at *;have hcm:c % W=c:=iY uA;simp only[hcm] at sk
     have hand:bits .and .u64 (c:Int) 4294967295=(c:Int):=by
      have:=Rw c (by omega);rwa [iY uA] at this
     have tS:=aB sk;have jV:=aB cO;clear cO tk fW cP HQ Gk Gt HG sk hcm;by_cases G6:c=0
     ·subst G6;(have hb1:bo=1:=by omega);subst hb1;clear hc0;go_wp2;obtain⟨v1,v2⟩:=Nr x 0 1 sV (by omega) (by omega);have hz:bits .and .u64 0 4294967295=((0:Nat):Int):=Rw 0 (by omega);rw[hz,show IntKind.u64.wrap (IntKind.u64.wrap ((x:Int) - ((0:Nat):Int)) - 1)=IntKind.u64.wrap (IntKind.u64.wrap ((x:Int) - ((0:Nat):Int)) - ((1:Nat):Int)) from rfl,v1,v2];have hq:=jV.o ((x+2*W - 0 - 1) % W);go_roundw
      case rel=>exact⟨k+1,by omega,by go_num,by rw[tS.o];rfl,by rw[tS.o],by rw[tS.o];exact hq,fT.trans (bZ.setCell (Jl _ _) (by omega) _)⟩
      case measure=>simp[intOf];omega
     ·have hcb:((c:Int)==0)=false:=by rw[C6];omega
      clear hc0;go_wp2;obtain⟨v1,v2⟩:=Nr x c bo sV uA YR;rw[v1,v2];have hv2:Value.int .u64 ((c:Int)/4294967296)=.int .u64 ((c/W:Nat):Int):=int_eq (by rw[fL];omega);have hq:=jV.o ((x+2*W - c - bo) % W);rw[hv2];go_roundw
      case rel=>exact⟨k+1,by omega,by go_num,by rw[tS.o],by rw[tS.o],by rw[tS.o];exact hq,fT.trans (bZ.setCell (Jl _ _) (by omega) _)⟩
      case measure=>simp[intOf];omega
  ·obtain rfl:k=xs.length:=by omega
   rw[List.drop_length,xJ] at cP
   have HE:Hid (nw (cj xs ys f xs.length).1+f*nw ys=nw xs+W^xs.length*((cj xs ys f xs.length).2.1+(cj xs ys f xs.length).2.2)):=by
    show _=_;have e:=HQ.o;rwa [gX,jn x6] at e
   generalize (cj xs ys f xs.length).1=q at *;generalize (cj xs ys f xs.length).2.1=c at *;generalize (cj xs ys f xs.length).2.2=bo at *;clear HQ;by_cases G6:c=0
   ·subst G6;rcases (show bo=0∨bo=1 by omega) with rfl |rfl
    ·go_wp2;go_ret;exact⟨0,q,rfl,dC,rK,HE.o,cP,fT⟩
    ·go_wp2;go_ret;exact⟨1,q,rfl,dC,rK,HE.o,cP,fT⟩
   ·have hcb:((c:Int) !=0)=true:=by rw[bne_iff_ne];omega
    go_wp2;go_ret;exact⟨c+bo,q,adE (by symm;rw[MF];omega),dC,rK,HE.o,cP,fT⟩
theorem abQ (h:m<=n):(words m).length<=(words n).length:=by
 rw[JJ,JJ];have:=Rl h;omega
theorem akL (a b:ByteArray) (w:World) (h:N a<N b):
  Calls Tryz.prog 163 #[.string a,.string b] w fun e w'=>e=.returned (.tuple #[.string ⟨#[]⟩,.bool false])/\Below w.heap.size w w':=by
 have hc:iG (N a) (N b)= -1:=by rw[iG,aA h]
 have hC:=fun V=>S6 a b V;simp only[hc] at hC;have HC:=aB hC;clear hC hc;go_enter Tryz.func163,Tryz.ntmps163;go_wp2_with fail
 refine(HC.o _).af ?_;rintro e w1 ⟨rfl,hw⟩;subst hw;go_wp2;go_ret2;exact⟨rfl,au _ _⟩
theorem akJ (a b:ByteArray) (w:World) (ha:a.size<=1099511627776) (hb:b.size<=1099511627776) (h:N b<=N a):
  Calls Tryz.prog 163 #[.string a,.string b] w fun e w'=>e=.returned (.tuple #[.string (B (N a - N b)),.bool true])/\Below w.heap.size w w':=by
 have hc:0<=iG (N a) (N b):=by
  rw[iG,aD (by omega)];split<;>omega
 have hC:=fun V=>S6 a b V;generalize iG (N a) (N b)=ci at *;have HC:=aB hC;clear hC;have kh:=vP a 274877906944 (by omega);have iC:=vP b 274877906944 (by omega);go_enter Tryz.func163,Tryz.ntmps163;go_wp2_with fail
 refine(HC.o _).af ?_;rintro e w0 ⟨rfl,hw⟩;subst hw;go_wp2_with fail
 refine(vS a _ (by omega)).af ?_;rintro e w1 ⟨g1,c1,rfl,h1,hb1⟩;go_wp2_with fail
 refine(vS b _ (by omega)).af ?_;rintro e w2 ⟨g2,c2,rfl,h2,hb2⟩;have kL:=uG h1 hb2;have hl2:=uG h2 (au _ _);have yB:=h1.aa hb2 (aq _);have hg1:g1<w1.heap.size:=(uG h1 (au _ _)).lt
 have hg2:w1.heap.size<=g2:=by
  rcases h2.cases with ⟨e,_⟩ |⟨g',cap',e,_,hbg,_⟩
  ·cases e
  ·cases e;exact hbg
 have hg0:w0.heap.size<=g1:=by
  rcases h1.cases with ⟨e,_⟩ |⟨g',cap',e,_,hbg,_⟩
  ·cases e
  ·cases e;exact hbg
 have hB2:Below w0.heap.size w0 w2:=hb1.trans (hb2.af hb1.size);go_wp2_with fail
 refine(TW g1 0 c1 g2 0 c2 _ _ 1 _ (lh _) (lh _) (by decide) (by omega) (abQ h) kL hl2 (by omega)).af ?_;rintro e w3 ⟨s,l,rfl,c4,hsm,hn,GF,hu⟩
 have hs0:s=0:=by
  have hlt:=sR l hsm;rw[c4] at hlt;rw[jK,jK] at hn;rcases xH s with e |e
  ·exact e
  ·have:W^(words (N a)).length*1<=W^(words (N a)).length*s:=j5 _ e;omega
 have HN:Hid (nw l=N a - N b):=by
  show _=_;rw[jK,jK,hs0] at hn;omega
 have hH:=yB.upd hu GF c4;have bL:Below w0.heap.size w0 w3:=bZ.aa hB2 hu hg0 hB2.size;have mP:=aB c4;clear hn c4 kL hl2 yB GF hu h1 h2 hs0;go_wp2_with fail
 refine(Ln _ _ _ _ hsm (by rw[mP.o];omega) hH).af ?_;rintro e w4 ⟨rfl,hb4⟩;go_wp2;go_ret2;exact⟨by rw[HN.o];rfl,bL.trans (hb4.af bL.size)⟩
def gm (x:Nat) (ys p:List Nat) (i j:Nat):Nat:=x*ys[j]?.getD 0+p[i+j]?.getD 0
theorem UM (x:Nat) (ys p:List Nat) (i:Nat) (hx:x<W) (hy:Small ys) (hp:Small p) (k:Nat):(acc (gm x ys p i) k).2<W:=by
 have h:=RB (gm x ys p i) (W - 1) k fun j _=>by
  have h1:=getD_lt hy j;have h2:=getD_lt hp (i+j);have h3:x*ys[j]?.getD 0<=(W - 1)*(W - 1):=jm (by omega) (by omega);have h4:(W - 1)*(W - 1)+W+W<=W*W+1:=by decide
  unfold gm;rw[MI kp];omega
 have:=kp;omega
theorem adw (x:Nat) (ys p:List Nat) (i:Nat):ix (gm x ys p i) ys.length=x*nw ys+nw ((p.drop i).take ys.length):=by
 rw[show gm x ys p i=fun j=>(fun j=>x*(fun j=>ys[j]?.getD 0) j) j+(fun j=>p[i+j]?.getD 0) j from rfl,V8,V6,V7 ys _ (aq _)];congr 1
 rw[<- Dz];exact afp fun j _=>by rw[Fu]
def wj (x:Nat) (ys p:List Nat) (i:Nat):List Nat:=p.take i++((acc (gm x ys p i) ys.length).1++[(acc (gm x ys p i) ys.length).2])++p.drop (i+(ys.length+1))
theorem V5 (p:List Nat) (k:Nat) (h:∀j,k<=j ->p[j]?.getD 0=0):nw (p.drop k)=0:=by
 have:p.drop k=List.replicate (p.drop k).length 0:=by
  apply rz
  ·simp
  ·intro j h1 h2;have:=h (k+j) (by omega);rw[lU] at h1;rw[a8 (by omega)] at this;simpa using this
 rw[this,Oj]
theorem afX (x:Nat) (ys p:List Nat) (i:Nat) (hx:x<W) (hy:Small ys) (hp:Small p) (hi:i+ys.length<p.length) (hz:∀j,i+ys.length<=j ->p[j]?.getD 0=0):
  (wj x ys p i).length=p.length/\Small (wj x ys p i)/\nw (wj x ys p i)=nw p+W^i*(x*nw ys)/\∀j,i+1+ys.length<=j ->(wj x ys p i)[j]?.getD 0=0:=by
 have hl:=Im (gm x ys p i) ys.length;have ye:(p.take i).length=i:=by rw[dP];omega
 have Ya:(p.take i++((acc (gm x ys p i) ys.length).1++[(acc (gm x ys p i) ys.length).2])).length=i+(ys.length+1):=by
  rw[cK,cK,ye,hl];rfl
 refine⟨?_,?_,?_,?_⟩
 ·rw[wj,cK,Ya,lU];omega
 ·refine vT (vT (Dn hp i) (vT (Rz _ _) ?_)) (FV hp _);intro z hz';simp only[eD] at hz';subst hz';exact UM x ys p i hx hy hp _
 ·have e1:=RA (gm x ys p i) ys.length;rw[adw] at e1;have e2:=qi p i (by omega);have e3:=qi (p.drop i) ys.length (by rw[lU];omega);rw[List.drop_drop,V5 p (i+ys.length) hz,j3,fO] at e3;have e4:=V5 p (i+(ys.length+1)) (fun j hj=>hz j (by omega));rw[wj,xY,e4,j3,fO,xY,ye,zG,hl,e1,e2,e3,k6];omega
 ·intro j hj;rw[wj,Ju (by omega),Ya,Fu];exact hz _ (by omega)
theorem bZ.drewN {off:Nat} {a b:World} (h:bZ g off n a b) (k:Nat):bZ g off n a (b.drewN k):=⟨⟨h.grown.os,h.grown.tape,h.grown.output,h.grown.size,h.grown.block⟩,h.inside⟩
theorem bh.drewN {off:Nat} {l:List Nat} (h:bh w g off l) (k:Nat):bh (w.drewN k) g off l:=h
theorem acq (gx jT gy ig:Nat) (xs ys:List Nat) (w:World) (gw:Small xs) (iB:Small ys) (hlx:xs.length<=8796093022208) (Yc:ys.length<=8796093022208) (hx:bh w gx 0 xs) (hy:bh w gy 0 ys):
  Calls Tryz.prog 193 #[.slice (some ⟨gx,0,none⟩) xs.length jT,.slice (some ⟨gy,0,none⟩) ys.length ig] w fun e w'=>∃v l,e=.returned v/\Has w' w.heap.size v l/\Small l/\l.length=xs.length+ys.length/\nw l=nw xs*nw ys/\Below w.heap.size w w':=by
 obtain⟨i0,hi,hz0,hz1,hz2⟩:=dH Tryz.infoU32;have hgx:=hx.lt;have B5:=hy.lt;go_enter Tryz.func193,Tryz.ntmps193
 go_wp2_with (first
  |(at_make;refine mR _ rfl _ _ 198 rfl w.heap.size 114 i0 (.int .u32 0) 1 Tryz.underlying198 hi hz0 hz1 .i64 .i64 _ _ (xs.length+ys.length) rfl rfl (by omega) (by omega) (by rw[hz2];omega) (by unfold maxLen;omega) (aq _) ?_;intro w2 hown2 hgrow2;have hb2:=pS hown2;rw[Gg] at hb2;have bB:=aB hb2;have hB2:Below w.heap.size w w2:=(au _ w).grown hgrow2 (aq _) (fun k e=>by cases e);have hx2:=hx.aa hB2 hgx;have hy2:=hy.aa hB2 B5;clear hown2 hgrow2 hb2))
 have hl2:=KD bB.o
 go_loopw [17] (fun i wr=>∃(k:Nat) (p:List Nat),k<=xs.length/\i=.int .i64 k/\p.length=xs.length+ys.length/\Small p/\Hid (nw p=nw (xs.take k)*nw ys)/\Hid (∀j,k+ys.length<=j ->p[j]?.getD 0=0)/\bh wr w.heap.size 0 p/\bZ w.heap.size 0 (xs.length+ys.length) w2 wr)
  (fun i _=>xs.length - (intOf i).toNat)
 case atStart=>exact⟨0,_,aU _,rfl,by simp,Ut _,by show _=_;rw[Oj];simp[lp],fun j _=>by rw[MT];split<;>rfl,hl2,bZ.refl _ _ _ _⟩
 case round=>
  obtain⟨k,p,hk,rfl,hpl,dt,D6,hpz,cP,fT⟩:=hrel;obtain⟨wo,rfl⟩:∃wo:World,wo=wr:=⟨_,rfl⟩;by_cases hlt:k<xs.length
  ·have qA:=fun V (hV:bZ w.heap.size 0 (xs.length+ys.length) w2 V)=>(hx2.apart hV (by omega)).cell k hlt;have sV:=getD_lt gw k;have XG:=afX (xs[k]?.getD 0) ys p k sV iB dt (by omega) hpz.o
   have HX:Hid (nw (xs.take (k+1))=nw (xs.take k)+W^k*xs[k]?.getD 0):=by
    show _=_;rw[Ol xs k hlt,a8 hlt];rfl
   generalize xs[k]?.getD 0=x at *;have HXC:=aB qA;have HSP:=aB XG;(have hfr:bh wo w.heap.size 0 (p.take k++(acc (gm x ys p k) 0).1++p.drop (k+0)):=by simpa [acc] using cP);clear qA XG;go_wp2
   go_loopw [7,22] (fun c j wr=>∃m:Nat,m<=ys.length/\j=.int .i64 m/\c=.int .u64 ((acc (gm x ys p k) m).2:Nat)/\bh wr w.heap.size 0 (p.take k++(acc (gm x ys p k) m).1++p.drop (k+m))/\bZ w.heap.size 0 (xs.length+ys.length) w2 wr)
    (fun _ j _=>ys.length - (intOf j).toNat)
   case atStart=>exact⟨0,aU _,rfl,rfl,hfr,fT⟩
   case round=>
    obtain⟨m,hm,rfl,rfl,zT,KL⟩:=hrel;have uA:=UM x ys p k sV iB dt m;have dC:=Im (gm x ys p k) m;(have lu:(p.take k).length=k:=by rw[dP];omega);rw[fL] at uA;by_cases Pt:m<ys.length
    ·have fW:k+m<(p.take k++(acc (gm x ys p k) m).1++p.drop (k+m)).length:=by rw[cK,cK,lu,dC,lU];omega
     have hcell:=zT.cell (k+m) fW;have hfz:=zT.frozen (k+m);rw[adp _ _ _ k m lu dC,bD] at hcell;have cO:=fun z n=>(zT.drewN n).set (k+m) fW z;simp only[UH _ _ p k m _ lu dC (by omega),bD] at cO;have ahS:=HXC.o wr KL;rw[bD] at ahS;have ahQ:=(hy2.apart KL (by omega)).cell m Pt;rw[bD] at ahQ;have BG:=getD_lt iB m;have jd:=getD_lt dt (k+m);have HG:Hid (acc (gm x ys p k) (m+1)=((acc (gm x ys p k) m).1++[((acc (gm x ys p k) m).2+gm x ys p k m) % W],((acc (gm x ys p k) m).2+gm x ys p k m)/W)):=rfl;have HF:Hid (gm x ys p k m=x*ys[m]?.getD 0+p[k+m]?.getD 0):=rfl;have Gt:x*ys[m]?.getD 0<=4294967295*4294967295:=jm (by rw[fL] at sV;omega) (by rw[fL] at BG;omega);rw[fL] at BG jd;have alw:x<4294967296:=sV;generalize (acc (gm x ys p k) m).2=c at *;generalize (acc (gm x ys p k) m).1=q at *;generalize gm x ys p k m=s at *;generalize ys[m]?.getD 0=y at *;generalize p[k+m]?.getD 0=z at *;(have BW:(x:Int)*(y:Int)<=18446744065119617025:=by rw[<- jG];omega);(have yj:0<=(x:Int)*(y:Int):=by rw[<- jG];omega);(have hkI:(k:Int)<(xs.length:Int):=by omega);(have hmI:(m:Int)<(ys.length:Int):=by omega);(have alR:(k:Int)+(m:Int)<(xs.length:Int)+(ys.length:Int):=by omega);(have alQ:((k:Int)+(m:Int)).toNat=k+m:=by omega);have jV:=aB cO;clear cO fW zT Gt;go_wp2_with fail
     go_quiet (fail)
     go_wp2;have hv:Value.int .u32 (((c:Int)+((x:Int)*(y:Int)+(z:Int))) % 4294967296)=.int .u32 (((c+s) % W:Nat):Int):=int_eq (by rw[fL,HF.o,rA,zu,zu,jG];rfl);have hv2:Value.int .u64 (((c:Int)+((x:Int)*(y:Int)+(z:Int)))/4294967296)=.int .u64 (((c+s)/W:Nat):Int):=int_eq (by rw[fL,HF.o,vL,zu,zu,jG];rfl);rw[hv,hv2];have hq:=jV.o ((c+s) % W) nq;go_roundw
     case rel=>exact⟨m+1,by omega,by go_num,by rw[HG.o],by rw[HG.o];exact hq,(KL.drewN nq).trans (bZ.setCell (aU _) (by omega) _)⟩
     case measure=>simp[intOf];omega
    ·obtain rfl:m=ys.length:=by omega
     (have fW:k+ys.length<(p.take k++(acc (gm x ys p k) ys.length).1++p.drop (k+ys.length)).length:=by rw[cK,cK,lu,dC,lU];omega);have hcell:=zT.cell (k+ys.length) fW;have hfz:=zT.frozen (k+ys.length);rw[bD] at hcell;have cO:=zT.set (k+ys.length) fW (acc (gm x ys p k) ys.length).2;rw[UH _ _ p k ys.length _ lu dC (by omega),bD] at cO;change bh _ _ _ (wj x ys p k) at cO
     have jV:=aB cO;(have Yq:((k:Int)+(ys.length:Int)).toNat=k+ys.length:=by omega);generalize (p.take k++(acc (gm x ys p k) ys.length).1++p.drop (k+ys.length))[k+ys.length]?.getD 0=old at *;generalize (acc (gm x ys p k) ys.length).2=c at *;obtain⟨s1,s2,s3,s4⟩:=HSP.o
     have CE:Hid (nw (wj x ys p k)=nw (xs.take (k+1))*nw ys):=by
      show _=_;rw[s3,D6.o,HX.o,eL,gg]
     have lK:=aB s1;have mL:=aB s2;have HS4:=aB s4;generalize wj x ys p k=p2 at *;clear cO fW zT HSP s1 s2 s3 s4 HX hfr cP;go_wp2;go_roundw
     case rel=>exact⟨k+1,p2,by omega,by go_num,by rw[lK.o,hpl],mL.o,CE,fun j hj=>HS4.o j (by omega),jV.o,KL.trans (bZ.setCell (aU _) (by omega) _)⟩
     case measure=>simp[intOf];omega
  ·obtain rfl:k=xs.length:=by omega
   obtain⟨cur,hc4,hcs,_⟩:=fT.inside _ bB.o;have nD:=F8 (base:=w.heap.size) (cap:=xs.length+ys.length) cur hc4 (by rw[hcs];simp) (aq _) (by unfold maxLen;omega) (by omega) cP;have dK:Below w.heap.size w wo:=bZ.aa hB2 fT (aq _) hB2.size;have gV:=aB hpl;rw[hpl] at nD;clear hpl hc4 hcs cP fT;go_wp2;go_ret;exact⟨_,p,rfl,by rw[Has,gV.o];exact nD,dt,gV.o,by have:=D6.o;rwa [gX] at this,dK⟩
theorem Iw (a b:ByteArray) (w:World) (ha:a.size<=1099511627776) (hb:b.size<=1099511627776):
  Calls Tryz.prog 142 #[.string a,.string b] w fun e w'=>e=.returned (.string (B (N a*N b)))/\Below w.heap.size w w':=by
 have kh:=vP a 274877906944 (by omega);have iC:=vP b 274877906944 (by omega);go_enter Tryz.func142,Tryz.ntmps142;go_wp2_with fail
 refine(vS a _ (by omega)).af ?_;rintro e w1 ⟨g1,c1,rfl,h1,hb1⟩;go_wp2_with fail
 refine(vS b _ (by omega)).af ?_;rintro e w2 ⟨g2,c2,rfl,h2,hb2⟩;have kL:=uG h1 hb2;have hl2:=uG h2 (au _ _);have hB2:Below w.heap.size w w2:=hb1.trans (hb2.af hb1.size);go_wp2_with fail
 refine(acq g1 c1 g2 c2 _ _ _ (lh _) (lh _) (by omega) (by omega) kL hl2).af ?_;rintro e w3 ⟨v,l,rfl,h3,hs3,uw,hv3,hb3⟩;have bL:Below w.heap.size w w3:=hB2.trans (hb3.af hB2.size);have HV:=aB hv3;have HN:=aB uw;clear hv3 uw;go_wp2_with fail
 refine(Ln _ _ _ _ hs3 (by rw[HN.o];omega) h3).af ?_;rintro e w4 ⟨rfl,hb4⟩;go_wp2;go_ret;exact⟨by rw[HV.o,jK,jK];rfl,bL.trans (hb4.af bL.size)⟩
theorem aa7 (n:Int) (w:World) (h0: -9223372036854775808<=n) (h1:n<=9223372036854775807):
  Calls Tryz.prog 110 #[.int .i64 n] w fun e w'=>e=.returned (.string (B n.toNat))/\Below w.heap.size w w':=by
 have hO:=fun V=>V3 n.toNat V (by omega);by_cases hn:0<=n
 ·obtain⟨m,rfl⟩:=Int.eq_ofNat_of_zero_le hn;rw[mE] at hO⊢;have HO:=aB hO;have hmx:max (m:Int) 0=(m:Int):=by omega
  clear hO;go_enter Tryz.func110,Tryz.ntmps110;go_wp2_with fail
  refine(HO.o _).af ?_;rintro e w1 ⟨rfl,hb⟩;go_wp2;go_ret;exact⟨rfl,hb⟩
 ·have e0:n.toNat=0:=by omega
  rw[e0] at hO⊢;have HO:=aB hO;have hmx:max n 0=0:=by omega
  clear hO e0;go_enter Tryz.func110,Tryz.ntmps110;go_wp2_with fail
  refine(HO.o _).af ?_;rintro e w1 ⟨rfl,hb⟩;go_wp2;go_ret;exact⟨rfl,hb⟩
theorem aii (a b:Nat) (w:World) (ha:a<18446744073709551616) (hb:b<18446744073709551616):
  Calls Tryz.prog 214 #[.int .u64 (a:Nat),.int .u64 (b:Nat)] w fun e w'=>e=.returned (.int .u64 (Nat.gcd a b:Nat))/\Below w.heap.size w w':=by
 go_enter Tryz.func214,Tryz.ntmps214;go_wp2;go_loopw [0,1] (fun x y wr=>∃m n:Nat,x=.int .u64 m/\y=.int .u64 n/\m<18446744073709551616/\n<18446744073709551616/\Hid (Nat.gcd m n=Nat.gcd a b)/\Below w.heap.size w wr) (fun _ y _=>(intOf y).toNat)
 case atStart=>exact⟨a,b,rfl,rfl,ha,hb,rfl,au _ _⟩
 case round=>
  obtain⟨m,n,rfl,rfl,hm,hn,hg,hbr⟩:=hrel;by_cases h0:n=0
  ·subst h0;go_wp2;go_ret;exact⟨xR (by rw[<- hg.o,Nat.gcd_zero_right]),hbr⟩
  ·have rL:((n:Int) !=0)=true:=by rw[bne_iff_ne];omega
   (have hne:((n:Int)==0)=false:=by rw[C6];omega);(have ly:¬(n:Int)=0:=by omega);(have kf:0<n:=by omega);have hr:m % n<n:=gh _ kf;(have HG:Hid (Nat.gcd n (m % n)=Nat.gcd a b):=by show _=_;rw[<- hg.o, <- Fm (m % n) n, <- Nat.gcd_rec,Fm]);go_wp2_with fail
   go_region
   all_goals go_wp2
   rw[show ((m:Int) % (n:Int))=((m % n:Nat):Int) from (rA m n).symm];go_roundw
   case rel=>exact⟨n,m % n,rfl,rfl,hn,by omega,HG,hbr.drew⟩
   case measure=>simp[intOf];omega
theorem afb (a b:Nat) (ha:a<4294967296) (hb:b<4294967296):bits .or .u64 (a:Int) ((b:Int)*4294967296)=((a+b*4294967296:Nat):Int):=by
 have e1:(b:Int)*4294967296=((b*4294967296:Nat):Int):=by omega
 rw[e1,u64_or_nat _ _ (by omega) (by omega)];congr 1
 have:=nat_join 32 (b*4294967296) a (by omega) (by omega);have e2:a |||b*4294967296=b*4294967296 |||a:=Nat.or_comm _ _;omega
theorem or_zero (a:Nat) (ha:a<4294967296):bits .or .u64 0 (a:Int)=(a:Int):=by
 have:=u64_or_nat 0 a (by omega) (by omega);rw[show ((0:Nat):Int)=0 from rfl] at this;rw[this,Nat.zero_or]
theorem Tp (g cap:Nat) (l:List Nat) (w:World) (hs:Small l) (hlen:l.length<=2) (hl:bh w g 0 l):
  Calls Tryz.prog 215 #[.slice (some ⟨g,0,none⟩) l.length cap] w fun e w'=>e=.returned (.int .u64 (nw l:Nat))/\w'=w:=by
 match l,hlen with
 |[],_=>
  go_enter Tryz.func215,Tryz.ntmps215;go_wp2;refine E6 1 ?_;rw[nV];go_wp2;go_ret;exact⟨rfl,rfl⟩
 |[a],_=>
  have h0:=hl.cell 0 (by simp);have ha:a<4294967296:=hs a (by simp);have ho:=or_zero a ha;simp only[bD,List.getElem?_cons_zero,xE] at h0;go_enter Tryz.func215,Tryz.ntmps215;go_wp2;refine E6 2 ?_;rw[nV];go_wp2;rw[nV];go_wp2;go_ret;exact⟨xR (by simp[jL,lp]),rfl⟩
 |[a,b],_=>
  have h0:=hl.cell 0 (by simp);have h1:=hl.cell 1 (by simp);have ha:a<4294967296:=hs a (by simp);have hb:b<4294967296:=hs b (by simp);have ho:=or_zero a ha;have ho2:=afb a b ha hb;simp only[bD,List.getElem?_cons_zero,List.getElem?_cons_succ,xE] at h0 h1;go_enter Tryz.func215,Tryz.ntmps215;go_wp2;refine E6 3 ?_;rw[nV];go_wp2;rw[nV];go_wp2;rw[nV];go_wp2;go_ret;exact⟨xR (by simp only[jL,lp,fL];omega),rfl⟩
def iw (xs:List Nat) (s j:Nat):Nat:=2^s*xs[j]?.getD 0
theorem adi (xs:List Nat) (s:Nat):ix (iw xs s) xs.length=2^s*nw xs:=by
 rw[show iw xs s=fun j=>2^s*(fun j=>xs[j]?.getD 0) j from rfl,V6,V7 xs _ (aq _)]
theorem Uz (xs:List Nat) (hx:Small xs) (s k:Nat):(acc (iw xs s) k).2<2^s:=by
 have hp:0<2^s:=rq (by decide)
 have h:=RB (iw xs s) (2^s - 1) k fun j _=>by
  have h1:=getD_lt hx j;have h2:2^s*(xs[j]?.getD 0+1)<=2^s*W:=j5 _ h1;rw[k6] at h2;unfold iw;rw[MI hp];omega
 omega
theorem Ka {s:Nat} (hs:s<32):2^s<=2147483648:=by
 have:2^s<=2^31:=iX (by decide) (by omega);simpa using this
theorem adb (c x s:Nat) (hs:s<32) (hc:c<2^s) (hx:x<4294967296):bits .or .u64 (c:Int) (IntKind.u64.wrap ((x:Int)*2^s))=((c+2^s*x:Nat):Int):=by
 have hp:=Ka hs;have hm:x*2^s<=4294967295*2147483648:=jm (by omega) hp
 have e1:IntKind.u64.wrap ((x:Int)*2^s)=((x*2^s:Nat):Int):=by
  rw[Jy,show ((x:Int)*2^s)=((x*2^s:Nat):Int) by simp];omega
 rw[e1,u64_or_nat _ _ (by omega) (by omega),Nat.or_comm,nat_join s _ _ (Nat.mul_mod_left _ _) hc];congr 1
 rw[cV];omega
theorem Ux (gx jT:Nat) (xs:List Nat) (s:Nat) (w:World) (gw:Small xs) (hs:s<32) (hlx:xs.length<=8796093022208) (hx:bh w gx 0 xs):
  Calls Tryz.prog 241 #[.slice (some ⟨gx,0,none⟩) xs.length jT,.int .i64 (s:Nat)] w fun e w'=>∃v l,e=.returned v/\Has w' w.heap.size v l/\Small l/\l.length=xs.length+1/\nw l=2^s*nw xs/\Below w.heap.size w w':=by
 obtain⟨i0,hi,hz0,hz1,hz2⟩:=dH Tryz.infoU32;have hgx:=hx.lt;go_enter Tryz.func241,Tryz.ntmps241
 go_wp2_with (first
  |(at_make;refine mR _ rfl _ _ 198 rfl w.heap.size 114 i0 (.int .u32 0) 1 Tryz.underlying198 hi hz0 hz1 .i64 .i64 _ _ (xs.length+1) rfl rfl (by omega) (by omega) (by rw[hz2];omega) (by unfold maxLen;omega) (aq _) ?_;intro w2 hown2 hgrow2;have hb2:=pS hown2;rw[Gg] at hb2;have bB:=aB hb2;have hB2:Below w.heap.size w w2:=(au _ w).grown hgrow2 (aq _) (fun k e=>by cases e);have hx2:=hx.aa hB2 hgx;clear hown2 hgrow2 hb2))
 have hl2:=KD bB.o
 go_loopw [6,15] (fun c i wr=>∃k:Nat,k<=xs.length/\i=.int .i64 k/\c=.int .u64 ((acc (iw xs s) k).2:Nat)/\bh wr w.heap.size 0 ((acc (iw xs s) k).1++(List.replicate (xs.length+1) 0).drop k)/\bZ w.heap.size 0 (xs.length+1) w2 wr)
  (fun _ i _=>xs.length - (intOf i).toNat)
 case atStart=>exact⟨0,aU _,rfl,rfl,by simpa [acc] using hl2,bZ.refl _ _ _ _⟩
 case round=>
  obtain⟨k,hk,rfl,rfl,cP,fT⟩:=hrel;have dC:=Im (iw xs s) k;by_cases hlt:k<xs.length
  ·have qA:=(hx2.apart fT (by omega)).cell k hlt;rw[bD] at qA;(have fW:k<((acc (iw xs s) k).1++(List.replicate (xs.length+1) 0).drop k).length:=by rw[cK,dC,lU,Fs];omega);have hcell:=cP.cell k fW;have hfz:=cP.frozen k;have cO:=fun y=>cP.set k fW y;rw[bD] at hcell;simp only[LG _ (List.replicate (xs.length+1) 0) k _ dC (by simp;omega),bD] at cO;have hxb:=getD_lt gw k;have hcs:=Uz xs gw s k;have HG:Hid (acc (iw xs s) (k+1)=((acc (iw xs s) k).1++[((acc (iw xs s) k).2+iw xs s k) % W],((acc (iw xs s) k).2+iw xs s k)/W)):=rfl;have HF:Hid (iw xs s k=2^s*xs[k]?.getD 0):=rfl;rw[fL] at hxb;have wD:=adb (acc (iw xs s) k).2 (xs[k]?.getD 0) s hs hcs hxb;have hm:2^s*xs[k]?.getD 0<=2147483648*4294967295:=jm (Ka hs) (by omega);have hp:=Ka hs;rw[<- HF.o] at wD hm;generalize iw xs s k=f at *;generalize (acc (iw xs s) k).2=c at *;generalize (acc (iw xs s) k).1=q at *;generalize xs[k]?.getD 0=x at *;generalize (q++(List.replicate (xs.length+1) 0).drop k)[k]?.getD 0=old at *;obtain⟨t,ht⟩:∃t,t=c+f:=⟨_,rfl⟩;rw[<- ht] at wD;(have zQ:t<18446744073709551615:=by omega);have HT:=aB ht;have jV:=aB cO;(have YN:c<4294967296:=by omega);clear cO fW cP ht hm hp hcs HF;go_wp2;have hv:Value.int .u32 ((t:Int) % 4294967296)=.int .u32 (((c+f) % W:Nat):Int):=int_eq (by rw[fL, <- HT.o];omega);have hv2:Value.int .u64 ((t:Int)/4294967296)=.int .u64 (((c+f)/W:Nat):Int):=int_eq (by rw[fL, <- HT.o];omega);rw[hv,hv2];have hq:=jV.o ((c+f) % W);go_roundw
   case rel=>exact⟨k+1,by omega,by go_num,by rw[HG.o],by rw[HG.o];exact hq,fT.trans (bZ.setCell (aU _) (by omega) _)⟩
   case measure=>simp[intOf];omega
  ·obtain rfl:k=xs.length:=by omega
   (have fW:xs.length<((acc (iw xs s) xs.length).1++(List.replicate (xs.length+1) 0).drop xs.length).length:=by rw[cK,dC,lU,Fs];omega);have hcell:=cP.cell xs.length fW;have hfz:=cP.frozen xs.length;have cO:=cP.set xs.length fW (acc (iw xs s) xs.length).2;rw[LG _ (List.replicate (xs.length+1) 0) xs.length _ dC (by simp),Dd (by simp),xJ,bD] at cO;rw[bD] at hcell;have hcs:=Uz xs gw s xs.length;have hp:=Ka hs;have HE:=aB (RA (iw xs s) xs.length);have rK:=Rz (iw xs s) xs.length;have HF:=aB (adi xs s);obtain⟨cur,hc4,G6,_⟩:=fT.inside _ bB.o;generalize ((acc (iw xs s) xs.length).1++(List.replicate (xs.length+1) 0).drop xs.length)[xs.length]?.getD 0=old at *;generalize (acc (iw xs s) xs.length).2=c at *;generalize (acc (iw xs s) xs.length).1=q at *;(have YN:c<4294967296:=by omega);have O5:bZ w.heap.size 0 (xs.length+1) w2 (wr.setCell ⟨w.heap.size,xs.length,none⟩ (.int .u32 (c:Nat))):=fT.trans (bZ.setCell (aU _) (by omega) _);obtain⟨ajy,hc5,YK,_⟩:=O5.inside _ bB.o;(have XV:(q++[c]).length=xs.length+1:=by rw[cK,dC];rfl);have nD:=F8 (base:=w.heap.size) (cap:=xs.length+1) ajy hc5 (by rw[YK];simp) (aq _) (by unfold maxLen;omega) (by omega) cO;have dK:=bZ.aa hB2 O5 (aq _) hB2.size;have HO:=aB nD;have Sb:=aB XV;have HQ0:=aB dC;clear cO fW cP hc4 G6 hc5 YK nD O5 XV dC hp hcs;go_wp2;go_ret;refine⟨_,q++[c],rfl,?_,?_,Sb.o,?_,dK⟩
   ·rw[Has,Sb.o];have:=HO.o;rwa [Sb.o] at this
   ·exact vT rK (fun z hz=>by simp at hz;subst hz;exact YN)
   ·rw[zG,HQ0.o,HE.o,HF.o]
def lZ (s:Nat):List Nat ->List Nat
 |[]=>[]
 |x::r=>(x+W*r[0]?.getD 0)/2^s % W::lZ s r
theorem adh (s:Nat) (l:List Nat):(lZ s l).length=l.length:=by
 induction l with
 |nil=>rfl
 |cons x r ih=>rw[lZ,dI,ih,dI]
theorem Uy (s:Nat) (l:List Nat):Small (lZ s l):=by
 induction l with
 |nil=>intro x hx;simp[lZ] at hx
 |cons x r ih=>
  intro y hy;rw[lZ] at hy;rcases dG.1 hy with rfl |hy
  ·exact gh _ kp
  ·exact ih y hy
theorem afn (l:List Nat) (h:Small l):nw l % W=l[0]?.getD 0:=by
 cases l with
 |nil=>rfl
 |cons x r=>rw[jL,S9];exact iY (h x dB)
theorem akH {s:Nat} (hs:s<=32):W=2^s*2^(32 - s):=by rw[<- zh,show s+(32 - s)=32 by omega];rfl
theorem adg (s:Nat) (hs:s<=32) (l:List Nat) (hl:Small l):nw (lZ s l)=nw l/2^s:=by
 induction l with
 |nil=>simp[lZ,lp]
 |cons x r ih=>
  have hr:Small r:=fun y hy=>hl y (dF _ hy);have hx:=hl x dB;have hp:0<2^s:=rq (by decide);rw[lZ,jL,jL,ih hr, <- afn r hr];generalize nw r=n;have e1:=Nat.div_add_mod n (2^s);have hb:=gh n hp;generalize hq:n/2^s=a at *;generalize eW:n % 2^s=b at *
  have ahO:(x+W*b)/2^s<W:=by
   refine C8 ?_;have:W*(b+1)<=W*2^s:=j5 _ hb;rw[k6,cV W (2^s)] at this;omega
  have e2:(x+W*n)/2^s=(x+W*b)/2^s+W*a:=by
   rw[<- e1,k6, <- zk,Nat.add_right_comm,show W*(2^s*a)=2^s*(W*a) by rw[xF],Nat.add_mul_div_left _ _ hp]
  have e3:(x+W*(n % W))/2^s % W=(x+W*b)/2^s:=by
   have hW:=akH hs;(have hmm:n % W % 2^s=b:=by rw[<- eW,hW,Nat.mod_mul_right_mod]);have e4:=Nat.div_add_mod (n % W) (2^s);rw[hmm] at e4;generalize n % W/2^s=c at *;rw[<- e4,k6, <- zk,Nat.add_right_comm,show W*(2^s*c)=2^s*(W*c) by rw[xF],Nat.add_mul_div_left _ _ hp,S9];exact iY ahO
  rw[e2,e3]
theorem ade (a x:Nat) (hx:x<4294967296):bits .or .u64 (IntKind.u64.wrap ((a:Int)*4294967296)) (x:Int)=((a % 4294967296*4294967296+x:Nat):Int):=by
 have e:IntKind.u64.wrap ((a:Int)*4294967296)=((a % 4294967296:Nat):Int)*4294967296:=by rw[Jy];omega
 rw[e];exact VX (a % 4294967296) x (by omega) hx
theorem adf (g cap:Nat) (l:List Nat) (s:Nat) (w:World) (cZ:Small l) (hs:s<32) (hlen:l.length<=35184372088832) (hl:bh w g 0 l):
  Calls Tryz.prog 243 #[.slice (some ⟨g,0,none⟩) l.length cap,.int .i64 (s:Nat)] w fun e w'=>e=.returned (.tuple #[])/\bh w' g 0 (lZ s l)/\bZ g 0 l.length w w':=by
 go_enter Tryz.func243,Tryz.ntmps243;go_wp2
 go_loopw [4,9] (fun a i wr=>∃k ab:Nat,k<=l.length/\i=.int .i64 k/\a=.int .u64 (ab:Nat)/\ab<18446744073709551616/\Hid (ab % 4294967296=(l.drop (l.length - k))[0]?.getD 0)/\bh wr g 0 (l.take (l.length - k)++lZ s (l.drop (l.length - k)))/\bZ g 0 l.length w wr)
  (fun _ i _=>l.length - (intOf i).toNat)
 case atStart=>exact⟨0,0,aU _,rfl,rfl,by omega,by show _=_;simp,by simpa [lZ] using hl,bZ.refl _ _ _ _⟩
 case round=>
  obtain⟨k,ab,hk,rfl,rfl,hab,Qj,cP,fT⟩:=hrel;by_cases hlt:k<l.length
  ·obtain⟨m,hm⟩:∃m,m+1=l.length - k:=⟨l.length - k - 1,by omega⟩;(have qo:m<l.length:=by omega);(have e1:l.length - (k+1)=m:=by omega);have hd:l.drop m=l[m]::l.drop (m+1):=mD qo;have hx:=cZ _ (bM qo);rw[<- hm] at cP Qj;(have fW:m<(l.take (m+1)++lZ s (l.drop (m+1))).length:=by simp;omega);have hcell:=cP.cell m fW;have hfz:=cP.frozen (0+m);have cO:=fun y=>cP.set m fW y;simp only[acr l _ m _ qo] at cO
   have tk:(l.take (m+1)++lZ s (l.drop (m+1)))[m]?.getD 0=l[m]:=by
    rw[List.getElem?_append_left (by simp;omega),sI,aA (by omega),a8 qo];rfl
   rw[tk] at hcell;rw[bD] at hcell hfz;(have HG:Hid (lZ s (l.drop m)=(l[m]+W*(l.drop (m+1))[0]?.getD 0)/2^s % W::lZ s (l.drop (m+1))):=by show _=_;rw[hd];rfl);(have HH:Hid ((l.drop m)[0]?.getD 0=l[m]):=by show _=_;rw[hd];rfl);rw[fL] at hx;rw[<- Qj.o] at HG;generalize lZ s (l.drop (m+1))=q at *;generalize l[m]=x at *;obtain⟨t,ht⟩:∃t,t=ab % 4294967296*4294967296+x:=⟨_,rfl⟩;(have wD:bits .or .u64 (IntKind.u64.wrap ((ab:Int)*4294967296)) (x:Int)=(t:Int):=by rw[ht];exact ade ab x hx);(have zQ:t<18446744073709551616:=by omega);(have DR:t % 4294967296=x:=by omega);have IC:=aB DR;have HT:=aB ht;(have hmk:(l.length:Int) - 1 - (k:Int)=(m:Int):=by omega);have jV:=aB cO;clear ht tk cO hd fW cP Qj DR;go_wp2
   have hv:Value.int .u32 ((t:Int)/2^s % 4294967296)=.int .u32 (((x+W*(ab % 4294967296))/2^s % W:Nat):Int):=int_eq (by
    (have e:x+W*(ab % 4294967296)=t:=by rw[HT.o,fL,cV];omega);rw[e,fL,rA,vL,Int.natCast_pow];rfl)
   rw[hv];have hq:=jV.o ((x+W*(ab % 4294967296))/2^s % W);rw[bD] at hq;go_roundw
   case rel=>exact⟨k+1,t,by omega,by go_num,rfl,zQ,by show _=_;rw[e1,HH.o];exact IC.o,by rw[e1,HG.o];exact hq,fT.trans (bZ.setCell (aU _) (by omega) _)⟩
   case measure=>simp[intOf];omega
  ·obtain rfl:k=l.length:=by omega
   go_wp2;go_end0
   refine⟨rfl,?_,fT⟩;simpa using cP
theorem ah8 (xs ys:List Nat) (hl:xs.length=ys.length+1) (hx:Small xs) (kf:0<ys.length) (rM:ys[ys.length - 1]?.getD 0≠0) (hlt:nw xs<W*nw ys):
  nw xs/nw ys<=min ((xs[ys.length]?.getD 0*W+xs[ys.length - 1]?.getD 0)/ys[ys.length - 1]?.getD 0) (W - 1):=by
 obtain⟨d,hd⟩:∃d,ys.length=d+1:=⟨ys.length - 1,by omega⟩;rw[hd,Jn] at rM⊢
 have hny:0<nw ys:=by
  have:=qi ys d (by omega)
  have h2:ys.drop d=[ys[d]?.getD 0]:=by
   rw[mD (by omega),Dd (by omega),a8 (by omega)];rfl
  rw[h2,jL,lp,j3,fO] at this;have:0<W^d*ys[d]?.getD 0:=Nat.mul_pos (rq kp) (jZ rM);omega
 have hq:nw xs/nw ys<W:=C8 (by rw[cV];exact hlt);have hle:=Nat.div_mul_le_self (nw xs) (nw ys);generalize nw xs/nw ys=q at *;refine Nat.le_min.2 ⟨?_,by omega⟩;rw[Nat.le_div_iff_mul_le (jZ rM)];have ey:=qi ys d (by omega)
 have hy2:ys.drop d=[ys[d]?.getD 0]:=by
  rw[mD (by omega),Dd (by omega),a8 (by omega)];rfl
 rw[hy2,jL,lp,j3,fO] at ey;have ex:=qi xs d (by omega)
 have hx2:xs.drop d=[xs[d]?.getD 0,xs[d+1]?.getD 0]:=by
  rw[mD (by omega),mD (by omega),Dd (by omega),a8 (by omega),a8 (by omega)];rfl
 have ag4:=sR (xs.take d) (Dn hx d);rw[dP,p9 (by omega)] at ag4;rw[hx2,jL,jL,lp,j3,fO] at ex;generalize ys[d]?.getD 0=y at *;generalize xs[d]?.getD 0=x0 at *;generalize xs[d+1]?.getD 0=x1 at *;have h1:q*(W^d*y)<=q*nw ys:=j5 _ (by omega)
 have h2:W^d*(q*y)<W^d*(x1*W+x0+1):=by
  rw[xF] at h1;rw[k6,nW,zj (x1*W) x0,cV x1 W];omega
 have:=Nat.lt_of_mul_lt_mul_left h2;omega
theorem acv (g off cap b ig:Nat) (xs ys:List Nat) (w:World) (hl:xs.length=ys.length+1) (gw:Small xs) (iB:Small ys) (hlen:xs.length<=35184372088832) (kf:0<ys.length) (rM:ys[ys.length - 1]?.getD 0≠0) (hlt:nw xs<W*nw ys) (hx:bh w g off xs) (hy:bh w b 0 ys) (hgb:b≠g):
  Calls Tryz.prog 242 #[.slice (some ⟨g,off,none⟩) xs.length cap,.slice (some ⟨b,0,none⟩) ys.length ig] w fun e w'=>∃l',e=.returned (.int .u32 (nw xs/nw ys:Nat))/\l'.length=xs.length/\Small l'/\nw l'=nw xs % nw ys/\bh w' g off l'/\bZ g off xs.length w w':=by
 have YA:=ah8 xs ys hl gw kf rM hlt;have hc1:=hx.cell ys.length (by omega);have hc2:=hx.cell (ys.length - 1) (by omega);have hc3:=hy.cell (ys.length - 1) (by omega);rw[bD] at hc3;have hb1:=getD_lt gw ys.length;have hb2:=getD_lt gw (ys.length - 1);have hb3:=getD_lt iB (ys.length - 1);have CS:=aB YA;have HL:=aB hl;have Mj:=aB hlt;rw[fL] at hb1 hb2 hb3;have OY:ys.length<xs.length:=by omega
 have wD:=VX (xs[ys.length]?.getD 0) (xs[ys.length - 1]?.getD 0) hb1 hb2;rw[fL] at CS;generalize xs[ys.length]?.getD 0=x1 at *;generalize xs[ys.length - 1]?.getD 0=x0 at *;generalize ys[ys.length - 1]?.getD 0=y1 at *;obtain⟨t,ht⟩:∃t,t=x1*4294967296+x0:=⟨_,rfl⟩;rw[<- ht] at wD CS;have zQ:t<18446744073709551616:=by omega
 have zW:(ys.length:Int) - 1<(xs.length:Int):=by omega
 have rN:(ys.length:Int)<(xs.length:Int):=by omega
 have zV:0<=(ys.length:Int) - 1:=by omega
 have PJ:((ys.length:Int) - 1).toNat=ys.length - 1:=by omega
 have PG:IntKind.i64.wrap ((ys.length:Int) - 1+1)=(ys.length:Int):=by rw[gI];omega
 clear ht hl hlt YA;go_enter Tryz.func242,Tryz.ntmps242;go_wp2_with fail
 go_quiet (fail)
 go_wp2_with fail
 obtain⟨gs,oF⟩:∃gs,gs=min (t/y1) 4294967295:=⟨_,rfl⟩;have hty:t/y1<=t:=vI _ _
 have Ec:min (IntKind.u64.wrap ((t:Int)/(y1:Int))) 4294967295 % 4294967296=(gs:Int):=by
  rw[Jy, <- vL,oF];generalize t/y1=z at *;omega
 rw[Ec];have Yy:gs<4294967296:=by omega
 have HQ:Hid (nw xs/nw ys<=gs):=by show _<=_;rw[oF];exact CS.o
 clear Ec oF CS wD hc1 hc2 hc3;refine(TW g off cap b 0 ig xs ys gs _ gw iB Yy hlen (by omega) (hx.drewN nq) (hy.drewN nq) hgb).af ?_;rintro e w2 ⟨s,l,rfl,c4,hsm,hn,GF,hu⟩;have Xv:bZ g off xs.length w w2:=((bZ.refl g off xs.length w).drewN nq).trans hu;have Ye:=sR l hsm;rw[c4] at Ye
 have ahM:gs*nw ys<W^xs.length:=by
  have h1:=sR ys iB;have h2:gs*nw ys<=(W - 1)*nw ys:=jl _ (by rw[fL];omega);have h3:W*nw ys<=W*W^ys.length:=j5 _ (xG h1);have h4:(W - 1)*nw ys<=W*nw ys:=jl _ (by omega);have h5:W^xs.length=W*W^ys.length:=by rw[HL.o,gH,cV]
  have h6:0<W^ys.length:=rq kp;have h7:(W - 1)*nw ys<=(W - 1)*W^ys.length:=j5 _ (xG h1)
  have h8:(W - 1)*W^ys.length+W^ys.length=W*W^ys.length:=by
   (have:(W - 1+1)*W^ys.length=W*W^ys.length:=by rw[MI kp]);rwa [eL,jF] at this
  omega
 have hs1:s=0∨s=1:=by
  rcases cT s 2 with h |h
  ·omega
  ·have:W^xs.length*2<=W^xs.length*s:=j5 _ h;omega
 have XE:Hid ((decide (s≠0)=false/\nw l+gs*nw ys=nw xs)∨(decide (s≠0)=true/\nw l+gs*nw ys=nw xs+W^xs.length/\nw xs<gs*nw ys)):=by
  rcases hs1 with rfl |rfl
  ·exact .inl ⟨rfl,by rw[hn];omega⟩
  ·refine .inr ⟨rfl,by rw[hn];omega,?_⟩;omega
 generalize decide (s≠0)=be at *;clear hn Ye ahM hs1 hu;go_wp2;go_loopg [7,8] gs (fun r gu be wr=>∃(l:List Nat) (bb:Bool),gu=.int .u32 (r:Nat)/\be=.bool bb/\l.length=xs.length/\Small l/\bh wr g off l/\bZ g off xs.length w wr/\Hid (nw xs/nw ys<=r)/\r<4294967296/\Hid ((bb=false/\nw l+r*nw ys=nw xs)∨(bb=true/\nw l+r*nw ys=nw xs+W^xs.length/\nw xs<r*nw ys)))
 case atStart=>exact⟨l,be,rfl,rfl,c4,hsm,GF,Xv,HQ,Yy,XE⟩
 case round=>
  obtain⟨l2,bb,rfl,rfl,Yh,KP,cP,fT,oB,alF,Ee⟩:=hrel;clear XE GF Xv HQ;have mP:=aB Yh;clear Yh;cases bb with
  |false=>
   have hc:nw l2+gk*nw ys=nw xs:=by
    rcases Ee.o with ⟨_,h⟩ |⟨h,_⟩
    ·exact h
    ·cases h
   have hyp:0<nw ys:=by
    rcases xH (nw ys) with e |e
    ·have:=Mj.o;rw[e,j3] at this;omega
    ·exact e
   have PK:gk=nw xs/nw ys:=by
    have h1:gk<=nw xs/nw ys:=(Nat.le_div_iff_mul_le hyp).2 (by omega);have:=oB.o;omega
   have HR:Hid (nw l2=nw xs % nw ys):=by
    show _=_;have h1:=Nat.div_add_mod' (nw xs) (nw ys);rw[<- PK] at h1;omega
   have HG:=aB PK;clear hc PK Ee;go_wp2;go_ret;exact⟨l2,by rw[<- HG.o];rfl,mP.o,KP,HR.o,cP,fT⟩
  |true=>
   obtain⟨hc1,hc2⟩:nw l2+gk*nw ys=nw xs+W^xs.length/\nw xs<gk*nw ys:=by
    rcases Ee.o with ⟨h,_⟩ |⟨_,h⟩
    ·cases h
    ·exact h
   have hr1:1<=gk:=by
    rcases xH gk with e |e
    ·rw[e,mC] at hc2;omega
    ·exact e
   have I9:=aB hc1;have vF:=aB hc2;have Xo:=(hy.apart fT hgb);clear hc1 hc2 Ee;go_wp2_with fail
   have pA:=NX g off cap b 0 ig l2 ys wr KP iB (by rw[mP.o];exact hlen) (by rw[mP.o];omega) cP Xo hgb;rw[mP.o] at pA;refine pA.af ?_;rintro e w3 ⟨c,l3,rfl,Px,XK,uw,ahu,ke⟩;have Yd:=sR l3 XK;rw[Px] at Yd
   have hmul:gk*nw ys=(gk - 1)*nw ys+nw ys:=by
    (have:(gk - 1+1)*nw ys=gk*nw ys:=by rw[MI hr1]);rw[<- this,eL,jF]
   have tO:Hid (((!c)=false/\nw l3+(gk - 1)*nw ys=nw xs)∨((!c)=true/\nw l3+(gk - 1)*nw ys=nw xs+W^xs.length/\nw xs<(gk - 1)*nw ys)):=by
    have h1:=I9.o;cases c with
    |true=>simp only[if_true] at uw;exact .inl ⟨rfl,by omega⟩
    |false=>simp only[Bool.false_eq_true,if_false,fO] at uw;exact .inr ⟨rfl,by omega,by omega⟩
   have HQ3:Hid (nw xs/nw ys<=gk - 1):=by
    show _<=_
    have hyp:0<nw ys:=by
     rcases xH (nw ys) with e |e
     ·have:=Mj.o;rw[e,j3] at this;omega
     ·exact e
    have:=(Nat.div_lt_iff_lt_mul hyp).2 vF.o;omega
   have I3:=aB Px;clear uw Yd hmul pA Px cP Xo I9 vF;go_wp2;go_roundg (gk - 1)
   case measure=>omega
   case rel=>exact⟨l3,!c,int_eq (by omega),rfl,I3.o,XK,ahu,fT.trans ke,HQ3,by omega,tO⟩
variable {lf ql:List Nat} {X Y:Nat}
theorem afm (l:List Nat) (i y:Nat) (hi:i<l.length):nw (l.set i y)+W^i*l[i]?.getD 0=nw l+W^i*y:=by
 have e1:=qi l i (by omega);have e2:=qi (l.set i y) i (by rw[tY];omega);have e3:(l.set i y).take i=l.take i:=List.take_set_of_le (aq _)
 have e4:(l.set i y).drop i=y::l.drop (i+1):=by
  rw[List.drop_set,aD (by omega),oX,mD hi,A2]
 have e5:l.drop i=l[i]?.getD 0::l.drop (i+1):=by rw[mD hi,a8 hi];rfl
 rw[e3,e4,jL,k6] at e2;rw[e5,jL,k6] at e1;omega
structure ri (X Y L:Nat) (lf ql:List Nat) (j:Nat):Prop where
 qlen:ql.length=L
 qs:Small ql
 ls:Small lf
 zero:∀t,t< j ->ql[t]?.getD 0=0
 eq:nw ql*Y+nw lf=X
 lt:nw (lf.drop j)<Y
theorem ri.seg {L:Nat} (h:ri X Y L lf ql (i+1)) (hY:Y<=W^m) (hl:i+m+1<=lf.length):
  nw ((lf.drop i).take (m+1))<W*Y/\nw (lf.drop i)=nw ((lf.drop i).take (m+1))/\nw (lf.drop (i+(m+1)))=0:=by
 have e5:lf.drop i=lf[i]?.getD 0::lf.drop (i+1):=by rw[mD (by omega),a8 (by omega)];rfl
 have hd:nw (lf.drop i)<W*Y:=by
  have h1:=h.lt;have h2:=getD_lt h.ls i;have h3:W*(nw (lf.drop (i+1))+1)<=W*Y:=j5 _ h1;rw[k6] at h3;rw[e5,jL];omega
 have hc:=qi (lf.drop i) (m+1) (by rw[lU];omega);rw[List.drop_drop] at hc
 have hz:nw (lf.drop (i+(m+1)))=0:=by
  rcases xH (nw (lf.drop (i+(m+1)))) with e |e
  ·exact e
  ·have h4:W^(m+1)*1<=W^(m+1)*nw (lf.drop (i+(m+1))):=j5 _ e;(have h5:W*Y<=W^(m+1):=by rw[gH,cV];exact jl _ hY);omega
 rw[hz,j3,fO] at hc;exact⟨by omega,hc,hz⟩
theorem ri.step {L:Nat} {seg:List Nat} (h:ri X Y L lf ql (i+1)) (hY:Y<=W^m) (hl:i+m+1<=lf.length) (hi:i<L) (hY0:0<Y)
  (cZ:seg.length=m+1) (XF:Small seg) (XJ:nw seg=nw ((lf.drop i).take (m+1)) % Y):
  ri X Y L (lf.take i++seg++lf.drop (i+(m+1))) (ql.set i (nw ((lf.drop i).take (m+1))/Y)) i:=by
 obtain⟨s1,s2,s3⟩:=h.seg hY hl;have ye:(lf.take i).length=i:=by rw[dP];omega
 generalize hS:nw ((lf.drop i).take (m+1))=S at *;have hq:S/Y<W:=C8 (by rw[cV];exact s1);have cO:=afm ql i (S/Y) (by rw[h.qlen];exact hi);rw[h.zero i (by omega),j3,fO] at cO;have hdm:=Nat.div_add_mod' S Y;have hcut:=qi lf i (by omega)
 have hnl:nw (lf.take i++seg++lf.drop (i+(m+1)))=nw (lf.take i)+W^i*(S % Y):=by
  rw[xY,s3,j3,fO,xY,ye,XJ]
 refine⟨by rw[tY];exact h.qlen,?_,?_,?_,?_,?_⟩
 ·intro x hx;rcases Tc hx with hx |rfl
  ·exact h.qs x hx
  ·exact hq
 ·exact vT (vT (Dn h.ls i) XF) (FV h.ls _)
 ·intro t ht;rw[MR (by omega)];exact h.zero t (by omega)
 ·rw[cO,hnl,eL, <- h.eq,hcut,s2];have:W^i*S=W^i*(S/Y)*Y+W^i*(S % Y):=by rw[gg, <- k6,hdm]
  omega
 ·rw[nZ,List.drop_append,ye,oX,Dd (by omega),gY,A7,xY,s3,j3,fO,XJ];exact gh _ hY0
theorem ri.start {s:Nat} {xs:List Nat} (hm:0<m) (hmn:m<=n) (hs:Small lf) (hxn:xs.length=n) (hxs:Small xs) (hX:X=2^s*nw xs) (GG:nw lf=X) (c4:lf.length=n+1) (hY:2^s*W^(m - 1)<=Y):
  ri X Y (n - m+1) lf (List.replicate (n - m+1) 0) (n - m+1):=by
 refine⟨by simp,Ut _,hs,fun t _=>by rw[MT];split<;>rfl,by rw[Oj,mC,bD,GG],?_⟩;have hc:=qi lf (n - m+1) (by omega);have hlt:nw xs<W^n:=by rw[<- hxn];exact sR xs hxs
 have hp:0<2^s:=rq (by decide);have h1:2^s*nw xs<2^s*W^n:=Nat.mul_lt_mul_of_pos_left hlt hp;have h2:W^n=W^(n - m+1)*W^(m - 1):=by rw[<- zh];congr 1;omega
 have h3:W^(n - m+1)*nw (lf.drop (n - m+1))<W^(n - m+1)*(2^s*W^(m - 1)):=by
  rw[xF, <- h2];omega
 exact aO (Nat.lt_of_mul_lt_mul_left h3) hY
theorem ri.stop {L:Nat} (h:ri X Y L lf ql 0):nw ql=X/Y/\nw lf=X % Y:=by
 have h1:=h.lt;rw[A7] at h1;have h2:=h.eq;have hY:0<Y:=by omega
 constructor
 ·rw[<- h2,zj,MN _ _ hY,vJ h1,bD]
 ·rw[<- h2,zj,MM,iY h1]
theorem akh (k:Nat):∀x,x<2^k ->k<=32 ->Lib.bitLen x<=k/\x<2^Lib.bitLen x:=by
 induction k with
 |zero=>
  intro x h _;have:x=0:=by simpa using h
  subst this;exact⟨aq _,by decide⟩
 |succ k ih=>
  intro x h hk;by_cases h0:x=0
  ·subst h0;exact⟨aU _,by decide⟩
  ·have OZ:x<2^64:=aO h (iX (by decide) (by omega));have e:=Lib.bitLen_half x h0 OZ;obtain⟨i1,i2⟩:=ih (x/2) (C8 (by rw[gH] at h;omega)) (by omega);rw[e];refine⟨by omega,?_⟩;rw[zj,gH];omega
theorem akg (x:Nat) (h0:x≠0) (h:x<4294967296):1<=Lib.bitLen x:=by
 have:=Lib.bitLen_half x h0 (by omega);omega
theorem aaM (ys:List Nat) (s:Nat) (hs:Small ys) (kf:0<ys.length) (rM:ys[ys.length - 1]?.getD 0≠0) (pI:2^s*(ys[ys.length - 1]?.getD 0+1)<=W):
  (words (2^s*nw ys)).length=ys.length/\2^s*W^(ys.length - 1)<=2^s*nw ys/\2^s*nw ys<=W^ys.length:=by
 obtain⟨d,hd⟩:∃d,ys.length=d+1:=⟨ys.length - 1,by omega⟩;rw[hd,Jn] at rM pI⊢;have ey:=qi ys d (by omega)
 have hy2:ys.drop d=[ys[d]?.getD 0]:=by
  rw[mD (by omega),Dd (by omega),a8 (by omega)];rfl
 rw[hy2,jL,lp,j3,fO] at ey;have hlt:=sR (ys.take d) (Dn hs d);rw[dP,p9 (by omega)] at hlt;generalize ys[d]?.getD 0=y at *;have hp:0<2^s:=rq (by decide);have h1:W^d*1<=W^d*y:=j5 _ (jZ rM);have Pv:W^d<=nw ys:=by omega
 have ahz:nw ys<W^d*(y+1):=by rw[k6];omega
 have h2:2^s*nw ys<2^s*(W^d*(y+1)):=Nat.mul_lt_mul_of_pos_left ahz hp;have h3:2^s*(W^d*(y+1))<=W^d*W:=by rw[xF];exact j5 _ pI
 have h4:2^s*nw ys<W^(d+1):=by rw[gH];omega
 have h5:W^d<=2^s*nw ys:=aL Pv (zi _ hp);refine⟨?_,j5 _ Pv,by omega⟩;have hw:=jK (2^s*nw ys);have hsm:=lh (2^s*nw ys);have BM:=sR _ hsm;rw[hw] at BM
 have iC:(words (2^s*nw ys)).length<=d+1:=by
  obtain⟨k,hk,e⟩:=JH (words (2^s*nw ys)++List.replicate 0 0) (by simpa using hsm);have hne:words (2^s*nw ys)≠[]:=fun e=>by rw[JI] at e;have:0<W^d:=rq kp;omega
  have hl:=Tn _ hne;rcases cT (d+1) (words (2^s*nw ys)).length with c |c
  ·exfalso
   generalize words (2^s*nw ys)=l at *;obtain⟨z,hz⟩:∃z,l.length=z+1:=⟨l.length - 1,by omega⟩;have ec:=qi l z (by omega);rw[List.getLast_eq_getElem] at hl;(have hz2:l.drop z=[l[z]'(by omega)]:=by rw[mD (by omega),Dd (by omega)]);simp only[hz,Jn] at hl;rw[hz2,jL,lp,j3,fO] at ec;have h6:W^z*1<=W^z*l[z]'(by omega):=j5 _ (jZ hl);have h7:W^(d+1)<=W^z:=iX kp (by omega);omega
  ·exact c
 rcases cT (words (2^s*nw ys)).length (d+1) with c |c
 ·have:W^(words (2^s*nw ys)).length<=W^d:=iX kp (by omega);omega
 ·omega
theorem ajk (vx:Option Addr) (n jT:Nat) (vy:Option Addr) (m ig:Nat) (w:World) (h:n<m):
  Calls Tryz.prog 213 #[.slice vx n jT,.slice vy m ig] w fun e w'=>e=.returned (.tuple #[.slice none 0 0,.slice vx n jT])/\w'=w:=by
 go_enter Tryz.func213,Tryz.ntmps213;go_wp2;go_ret2;exact⟨rfl,rfl⟩
theorem Has.slice {v:Value} {l:List Nat} (h:Has w base v l) (hl:0<l.length):∃g cap,v=.slice (some ⟨g,0,none⟩) l.length cap/\l.length<=cap/\base<=g/\bh w g 0 l:=by
 rcases h.cases with ⟨_,rfl⟩ |h
 ·simp at hl
 ·exact h
theorem M4 (n:Nat) (h:0<(words n).length):(words n)[(words n).length - 1]?.getD 0≠0:=by
 have hne:words n≠[]:=List.length_pos_iff.1 h;have:=Tn n hne;rw[List.getLast_eq_getElem] at this;rwa [a8 (by omega)]
def mq (w:World) (base g n cap:Nat) (l:List Nat):Prop:=w.ownsRow base 114 1 (.slice (some ⟨g,0,none⟩) n cap) n (l.map u32)
theorem mq.lies {l:List Nat} (h:mq w base g n cap l):bh w g 0 l:=(zD h).2.2.2
theorem mq.len {l:List Nat} (h:mq w base g n cap l):n=l.length:=(zD h).1
theorem mq.upd {off:Nat} {l:List Nat} (h:mq w base g n cap l) (hu:bZ g off m w w') (hl:bh w' g 0 l') (hlen:l'.length=n):mq w' base g n cap l':=
 VD h (hu.af (off':=0) (n':=off+m) (aU _) (by omega)) hl hlen
theorem mq.apart {off:Nat} {l:List Nat} (h:mq w base g n cap l) (hu:bZ g' off m w w') (hd:g≠g'):mq w' base g n cap l:=by
 refine⟨h.1,?_⟩;rcases h.2 with ⟨h',_⟩ |⟨g1,al9,cur,r1,r2,r3,r4⟩
 ·cases h'
 ·cases r1;exact .inr ⟨g,cap,cur,rfl,r2,(hu.grown.block g (dm.1 r3).1 (by simp[hd])).trans r3,r4⟩
theorem mq.lies_le {l:List Nat} (h:mq w base g n cap l):l.length<=cap:=(zD h).2.1
theorem mq.words {l:List Nat} (h:mq w base g n cap l) (hs:Small l):Has w base (.slice (some ⟨g,0,none⟩) (words (nw l)).length cap) (words (nw l)):=by
 obtain⟨k,hk,hw⟩:=JH l hs;have dX:(Proofs.YtfgkjjlocjmfeaaGreatDoor.words (nw l)).length=k:=by rw[hw];simp;omega
 have:=ajx k hk h;rw[<- hw] at this;rw[Has,dX];exact this
theorem bh.patch {at':Nat} {seg:List Nat} (h:bh w g 0 lf) (hu:bZ g at' n w w') (hs:bh w' g at' seg) (hn:seg.length=n) (hl:at'+n<=lf.length):bh w' g 0 (lf.take at'++seg++lf.drop (at'+n)):=by
 have h1:bh w g 0 (lf.take at'):=by have:=h.piece 0 at' (by omega);rwa [A7] at this
 have h2:=h.piece (at'+n) (lf.length - (at'+n)) (by omega);rw[jn (by simp)] at h2;have ye:(lf.take at').length=at':=by rw[dP];omega
 refine((h1.beside hu (by rw[ye];omega)).append (by rw[ye,bD];exact hs)).append ?_;rw[cK,ye,hn];exact h2.beside hu (by omega)
theorem ajl (gx jT gy ig:Nat) (xs ys:List Nat) (w:World) (gw:Small xs) (iB:Small ys) (hlx:xs.length<=4398046511104) (kf:0<ys.length) (rM:ys[ys.length - 1]?.getD 0≠0) (x6:ys.length<=xs.length) (hx:bh w gx 0 xs) (hy:bh w gy 0 ys):
  Calls Tryz.prog 213 #[.slice (some ⟨gx,0,none⟩) xs.length jT,.slice (some ⟨gy,0,none⟩) ys.length ig] w fun e w'=>
   ∃gq cq gr cr,e=.returned (.tuple #[.slice (some ⟨gq,0,none⟩) (words (nw xs/nw ys)).length cq,.slice (some ⟨gr,0,none⟩) (words (nw xs % nw ys)).length cr])/\
    Has w' w.heap.size (.slice (some ⟨gq,0,none⟩) (words (nw xs/nw ys)).length cq) (words (nw xs/nw ys))/\Has w' w.heap.size (.slice (some ⟨gr,0,none⟩) (words (nw xs % nw ys)).length cr) (words (nw xs % nw ys))/\Below w.heap.size w w':=by
 obtain⟨i0,hi,hz0,hz1,hz2⟩:=dH Tryz.infoU32;have hgx:=hx.lt;have B5:=hy.lt;have uA:=hy.cell (ys.length - 1) (by omega);rw[bD] at uA;have hyb:=getD_lt iB (ys.length - 1);rw[fL] at hyb;obtain⟨bl1,bl2⟩:=akh 32 (ys[ys.length - 1]?.getD 0) (by simpa using hyb) (by omega);have bl0:=akg _ rM hyb;obtain⟨s,hs⟩:∃s,s=32 - Lib.bitLen (ys[ys.length - 1]?.getD 0):=⟨_,rfl⟩;have Pd:s<32:=by omega
 have pI:2^s*(ys[ys.length - 1]?.getD 0+1)<=W:=by
  have h1:2^s*(ys[ys.length - 1]?.getD 0+1)<=2^s*2^Lib.bitLen (ys[ys.length - 1]?.getD 0):=j5 _ bl2;rw[<- zh,show s+Lib.bitLen (ys[ys.length - 1]?.getD 0)=32 by omega] at h1;exact h1
 have YO:=aaM ys s iB kf rM pI;have sq:=aB YO;have KY:=fun V=>Tryz.bits_LeadingZeros32 ((ys[ys.length - 1]?.getD 0:Nat):Int) V (by omega) (by omega);simp only[mE] at KY;have um:(32:Int) - (Lib.bitLen (ys[ys.length - 1]?.getD 0):Int)=(s:Int):=by omega
 simp only[um] at KY;have HLZ:=aB KY;have ama:=aB rM;generalize ys[ys.length - 1]?.getD 0=y1 at *;have hnl:¬xs.length<ys.length:=by omega
 clear bl1 bl2 bl0 hs pI YO KY um rM;go_enter Tryz.func213,Tryz.ntmps213;go_wp2_with fail
 refine(HLZ.o _).af ?_;rintro e w0 ⟨rfl,hw0⟩;subst hw0;go_wp2_with fail
 refine(Ux gx jT xs s _ gw Pd (by omega) hx).af ?_;rintro e w1 ⟨v1,l1,rfl,h1,hs1,kL,dW,hb1⟩;obtain⟨g1,c1,rfl,hc1,YV,Yj⟩:=h1.slice (by omega);have EX:=aB kL;have AL:=aB dW;have alP:l1.length<=4398046511105:=by omega
 have al0:xs.length+1<=c1:=by omega
 clear kL dW;have hy1:=hy.aa hb1 B5;go_wp2_with fail
 refine(Ux gy ig ys s _ iB Pd (by omega) hy1).af ?_;rintro e w2 ⟨v2,l2,rfl,h2,hs2,hl2,gM,hb2⟩;obtain⟨g2,c2,rfl,hc2,al2,K0⟩:=h2.slice (by omega);have nQ:=aB gM;have alO:l2.length<=4398046511105:=by omega
 clear hl2 gM;go_wp2_with fail
 have uo:=JU g2 0 c2 l2 w2 hs2 hc2 (by omega) (fun j hj=>K0.cell j hj);rw[nQ.o,sq.o.1] at uo;refine uo.af ?_;rintro e w3 ⟨rfl,hw3⟩;subst hw3;have Xt:∃k,k<=l2.length/\words (nw l2)=l2.take k:=JH l2 hs2
 have iC:bh w3 g2 0 (words (2^s*nw ys)):=by
  obtain⟨k,hk,e⟩:=Xt;have:=K0.piece 0 k (by omega);rwa [A7, <- e,nQ.o] at this
 have yB:=h1.aa hb2 (aq _);have hB2:Below w0.heap.size w0 w3:=hb1.trans (hb2.af hb1.size);have alW:g1<w1.heap.size:=Yj.lt;have alV:g2<w3.heap.size:=K0.lt;have KO:=hB2.size;have alC:=hb2.size;have H12:=aB yB;have AP:=aB iC;clear uo Xt iC yB Yj K0 h1 h2 hy1;go_wp2_with (at_make;refine mR _ rfl _ _ 198 rfl w0.heap.size 114 i0 (.int .u32 0) 1 Tryz.underlying198 hi hz0 hz1 .i64 .i64 _ _ (xs.length - ys.length+1) rfl rfl (by omega) (by omega) (by rw[hz2];omega) (by unfold maxLen;omega) (by omega) ?_;intro w4 nD B6)
 have hb4:=pS nD;rw[Gg] at hb4;have eY:=aB hb4;have dK:Below w0.heap.size w0 w4:=hB2.grown B6 (by omega) (fun k e=>by cases e);have q7:Hid (mq w4 w0.heap.size g1 l1.length c1 l1):=Has.aa H12.o (B:=w3.heap.size) ((au _ w3).grown B6 (aq _) (fun k e=>by cases e)) (aq _)
 have HOQ:Hid (mq w4 w0.heap.size w3.heap.size (xs.length - ys.length+1) (xs.length - ys.length+1) (List.replicate (xs.length - ys.length+1) 0)):=by
  have:=F8 (base:=w0.heap.size) (cap:=xs.length - ys.length+1) (l:=List.replicate (xs.length - ys.length+1) 0) _ hb4 (by simp) (by omega) (by unfold maxLen;omega) (by simp) ⟨_,hb4,by simp,fun j hj=>by simp at hj;simp[hj]⟩;rw[Fs] at this;exact this
 have oQ:Hid (bh w4 g2 0 (words (2^s*nw ys))):=(AP.o).grown B6 (by simp);have HI:Hid (ri (2^s*nw xs) (2^s*nw ys) (xs.length - ys.length+1) l1 (List.replicate (xs.length - ys.length+1) 0) (xs.length - ys.length+1)):=ri.start kf x6 hs1 rfl gw rfl AL.o EX.o sq.o.2.1;have xw:=aB dK;clear hb4 nD B6 H12 AP hB2 dK
 go_loopw [40] (fun i wr=>∃(k:Nat) (lf ql:List Nat),k<=xs.length - ys.length+1/\i=.int .i64 k/\Hid (ri (2^s*nw xs) (2^s*nw ys) (xs.length - ys.length+1) lf ql (xs.length - ys.length+1 - k))/\Hid (mq wr w0.heap.size g1 l1.length c1 lf)/\Hid (mq wr w0.heap.size w3.heap.size (xs.length - ys.length+1) (xs.length - ys.length+1) ql)/\Hid (bh wr g2 0 (words (2^s*nw ys)))/\Hid (Below w0.heap.size w0 wr))
  (fun i _=>xs.length - ys.length+1 - (intOf i).toNat)
 case atStart=>exact⟨0,l1,_,aU _,rfl,HI,q7,HOQ,oQ,xw⟩
 case round=>
  obtain⟨k,lf,ql,hk,rfl,Mn,HOr,IM,Iy,y7⟩:=hrel;clear HI q7 HOQ oQ xw;by_cases hlt:k<xs.length - ys.length+1
  ·go_wp2_with fail
   obtain⟨p,hp⟩:∃p,p=xs.length - ys.length - k:=⟨_,rfl⟩;(have hn:xs.length - ys.length - k+ys.length+1 - (xs.length - ys.length - k)=ys.length+1:=by omega);rw[hn, <- hp];(have Yk:lf.length=xs.length+1:=by have:=HOr.o.len;have:=EX.o;omega);(have cZ:((lf.drop p).take (ys.length+1)).length=ys.length+1:=by rw[dP,lU];omega)
   have HD:Hid (ri (2^s*nw xs) (2^s*nw ys) (xs.length - ys.length+1) lf ql (p+1)):=by
    have:=Mn.o;rwa [show xs.length - ys.length+1 - k=p+1 by omega] at this
   have O9:=HD.o.seg sq.o.2.2 (by omega);have DR:=acv g1 p (c1 - p) g2 c2 ((lf.drop p).take (ys.length+1)) (words (2^s*nw ys)) wr (by rw[cZ,sq.o.1]) (Dn (FV HD.o.ls _) _) (lh _) (by rw[cZ];omega) (by rw[sq.o.1];exact kf) (M4 _ (by rw[sq.o.1];exact kf)) (by rw[jK];exact O9.1) (by have:=HOr.o.lies.piece p (ys.length+1) (by omega);rwa [bD] at this) Iy.o (by omega);rw[cZ,sq.o.1,jK] at DR;refine DR.af ?_;clear DR;rintro e w5 ⟨seg,rfl,O8,ahb,XI,GH,wy⟩;(have hpL:p<xs.length - ys.length+1:=by omega);have HST:=aB (HD.o.step sq.o.2.2 (by omega) hpL (by have:=O9.1;rcases xH (2^s*nw ys) with e |e;(rw[e,j3] at this;omega);exact e) O8 ahb XI);have B0:=HOr.o.lies.patch wy GH O8 (by omega);have yT:Hid (mq w5 w0.heap.size g1 l1.length c1 (lf.take p++seg++lf.drop (p+(ys.length+1)))):=HOr.o.upd wy B0 (by have:=EX.o;simp;omega);have vp:=aB (IM.o.apart wy (by omega));have Ex:=aB (Iy.o.apart wy (by omega));have eT:=aB (bZ.aa y7.o wy YV y7.o.size);(have XU:p<ql.length:=by have:=IM.o.len;omega);have hcell:=vp.o.lies.cell p XU;have hfz:=vp.o.lies.frozen p;rw[bD] at hcell;have cO:=vp.o.lies.set p XU (nw ((lf.drop p).take (ys.length+1))/(2^s*nw ys));rw[bD] at cO;have jV:=aB cO;have HLF:=aB Yk;generalize hqv:nw ((lf.drop p).take (ys.length+1))/(2^s*nw ys)=qv at *;generalize ql[p]?.getD 0=old at *;clear cO B0 O9 cZ O8 XI GH Yk Mn HOr IM Iy y7 HD hn hqv;subst hp;go_wp2;go_roundw
   case rel=>
    have KN:bZ w3.heap.size (xs.length - ys.length - k) 1 w5 (w5.setCell ⟨w3.heap.size,xs.length - ys.length - k,none⟩ (.int .u32 (qv:Nat))):=bZ.setCell (aq _) (by omega) _;refine⟨k+1,_,_,by omega,by go_num,?_,aB (yT.o.apart KN (by omega)),aB (vp.o.upd KN jV.o (by have:=vp.o.len;rw[tY];omega)),aB (Ex.o.apart KN (by omega)),aB (bZ.aa eT.o KN KO eT.o.size)⟩;have e:=HST.o;show ri _ _ _ _ _ _;rwa [show xs.length - ys.length+1 - (k+1)=xs.length - ys.length - k by omega]
   case measure=>simp[intOf];omega
  ·obtain rfl:k=xs.length - ys.length+1:=by omega
   have hD:=Mn.o;rw[oX] at hD;have yh:0<2^s:=rq (by decide);obtain⟨hq,hr⟩:=hD.stop;rw[Nat.mul_div_mul_left _ _ yh] at hq;rw[Nat.mul_mod_mul_left] at hr;(have hr2:nw (lZ s lf)=nw xs % nw ys:=by rw[adg s (by omega) lf hD.ls,hr,Nat.mul_div_cancel_left _ yh]);have BZ:=hD.ls;have rK:=hD.qs;have HQN:=aB hq;have EJ:=aB hr2;have Pb:=adf g1 c1 lf s wr BZ Pd (by have:=HOr.o.len;omega) HOr.o.lies;rw[<- HOr.o.len] at Pb;have gS:=aB Pb;clear hq hr hr2 hD Mn Pb;go_wp2_with fail
   refine gS.o.af ?_;rintro e w5 ⟨rfl,GH,wy⟩;have yT:=aB (HOr.o.upd wy GH (by rw[adh];exact HOr.o.len.symm));have vp:=aB (IM.o.apart wy (by omega));have eT:=aB (bZ.aa y7.o wy YV y7.o.size);have hs1:=JU w3.heap.size 0 (xs.length - ys.length+1) ql w5 rK (by rw[<- vp.o.len];omega) (by rw[<- vp.o.len];omega) (fun j hj=>vp.o.lies.cell j hj);rw[<- vp.o.len,HQN.o] at hs1;have hs2:=JU g1 0 c1 (lZ s lf) w5 (Uy s lf) yT.o.lies_le (by rw[<- yT.o.len];omega) (fun j hj=>yT.o.lies.cell j hj);rw[<- yT.o.len,EJ.o] at hs2;have lK:=aB hs1;have mL:=aB hs2;clear hs1 hs2 GH wy gS HOr IM y7;go_wp2_with fail
   refine lK.o.af ?_;rintro e w6 ⟨rfl,hw6⟩;subst hw6;go_wp2_with fail
   refine mL.o.af ?_;rintro e w7 ⟨rfl,hw7⟩;subst hw7;go_wp2;go_ret2;have Ed:=vp.o.words rK;have hf2:=yT.o.words (Uy s lf);rw[HQN.o] at Ed;rw[EJ.o] at hf2;exact⟨_,_,_,_,rfl,Ed,hf2,eT.o⟩
theorem M0 (h:n≠0):0<(words n).length:=by
 rcases xH (words n).length with e |e
 ·exact absurd ((JI n).1 (Te e)) h
 ·exact e
theorem WN {x y:Nat} (h:(words x).length<(words y).length):x<y:=by
 have kf:0<(words y).length:=by omega
 have hb:=getD_lt (lh y) ((words y).length - 1);have h1:=(aaM (words y) 0 (lh y) kf (M4 y kf) (by rw[Fj,jF];exact hb)).2.1;rw[Fj,jF,jF,jK] at h1;have h2:=sR (words x) (lh x);rw[jK] at h2;have h3:W^(words x).length<=W^((words y).length - 1):=iX kp (by omega);omega
theorem M3 {x y:Nat} (h:x<=y):(words x).length<=(words y).length:=by
 rcases cT (words y).length (words x).length with c |c
 ·have:=WN c;omega
 ·exact c
theorem WO {x:Nat} (h:(words x).length<=2):x<18446744073709551616:=by
 have h2:=sR (words x) (lh x);rw[jK] at h2;have h3:W^(words x).length<=W^2:=iX kp h;have h4:W^2=18446744073709551616:=by rw[fL]
 omega
theorem aar (gx jT gy ig x y:Nat) (w:World) (sU:y≠0) (hlx:(words x).length<=4398046511104) (qA:(words x).length<=jT) (hx:bh w gx 0 (words x)) (hy:bh w gy 0 (words y)):
  Calls Tryz.prog 213 #[.slice (some ⟨gx,0,none⟩) (words x).length jT,.slice (some ⟨gy,0,none⟩) (words y).length ig] w fun e w'=>
   ∃vq gr cr,e=.returned (.tuple #[vq,.slice (some ⟨gr,0,none⟩) (words (x % y)).length cr])/\Has w' w.heap.size vq (words (x/y))/\(words (x % y)).length<=cr/\bh w' gr 0 (words (x % y))/\Below w.heap.size w w':=by
 rcases cT (words x).length (words y).length with c |c
 ·have hlt:=WN c;refine(ajk _ _ jT _ _ ig w c).af ?_;rintro e w' ⟨rfl,rfl⟩;refine⟨_,gx,jT,by rw[iY hlt],?_,by rw[iY hlt];exact qA,by rw[iY hlt];exact hx,au _ _⟩;rw[vJ hlt,ub];exact⟨rfl,.inl ⟨rfl,rfl⟩⟩
 ·have hp:=M0 sU;have:=ajl gx jT gy ig (words x) (words y) w (lh _) (lh _) hlx hp (M4 y hp) c hx hy;rw[jK,jK] at this;refine this.af ?_;rintro e w' ⟨gq,cq,gr,cr,rfl,h1,h2,h3⟩;obtain⟨_,h4,_,h5⟩:=zD h2;exact⟨_,gr,cr,rfl,h1,h4,h5,h3⟩
theorem alo (a b:ByteArray) (w:World) (ha:a.size<=1099511627776) (hb:b.size<=1099511627776) (h0:N b≠0):
  Calls Tryz.prog 166 #[.string a,.string b] w fun e w'=>e=.returned (.tuple #[.string (B (N a/N b)),.string (B (N a % N b)),.bool true])/\Below w.heap.size w w':=by
 have kh:=vP a 274877906944 (by omega);have iC:=vP b 274877906944 (by omega);have kf:=M0 h0;have hne:¬(((words (N b)).length:Int)=0):=by omega
 have hlq:(words (N a/N b)).length<=274877906944:=aL (M3 (vI _ _)) kh;have cP:(words (N a % N b)).length<=274877906944:=aL (M3 (Nat.mod_le _ _)) kh;go_enter Tryz.func166,Tryz.ntmps166;go_wp2_with fail
 refine(vS b _ (by omega)).af ?_;rintro e w1 ⟨g1,c1,rfl,h1,hb1⟩;go_wp2_with fail
 refine(vS a _ (by omega)).af ?_;rintro e w2 ⟨g2,c2,rfl,h2,hb2⟩;have kL:=uG h1 hb2;have hl2:=uG h2 (au _ _);have hB2:Below w.heap.size w w2:=hb1.trans (hb2.af hb1.size);go_wp2_with fail
 refine(aar g2 c2 g1 c1 (N a) (N b) _ h0 (by omega) (zD h2).2.1 hl2 kL).af ?_;rintro e w3 ⟨vq,gr,cr,rfl,hq,hcr,hr,hb3⟩;have bL:Below w.heap.size w w3:=hB2.trans (hb3.af hB2.size);go_wp2_with fail
 refine(Ln _ _ _ _ (lh _) (by omega) hq).af ?_;rintro e w4 ⟨rfl,hb4⟩;have hr4:=hr.aa hb4 hr.lt;have dK:Below w.heap.size w w4:=bL.trans (hb4.af bL.size);rw[jK];go_wp2_with fail
 refine(QV gr cr _ _ (lh _) hcr (by omega) hr4.lt (fun j hj=>hr4.cell j hj)).af ?_;rintro e w5 ⟨rfl,hb5⟩;rw[jK];go_wp2;go_ret3
 exact⟨rfl,dK.trans (hb5.af dK.size)⟩
theorem aln (a b:ByteArray) (w:World) (ha:a.size<=1099511627776) (hb:b.size<=1099511627776):
  Calls Tryz.prog 165 #[.string a,.string b] w fun e w'=>e=.returned (.string (B (Nat.gcd (N a) (N b))))/\Below w.heap.size w w':=by
 have kh:=vP a 274877906944 (by omega);have iC:=vP b 274877906944 (by omega);go_enter Tryz.func165,Tryz.ntmps165;go_wp2_with fail
 refine(vS a _ (by omega)).af ?_;rintro e w1 ⟨g1,c1,rfl,h1,hb1⟩;go_wp2_with fail
 refine(vS b _ (by omega)).af ?_;rintro e w2 ⟨g2,c2,rfl,h2,hb2⟩;have kL:=uG h1 hb2;have hl2:=uG h2 (au _ _);have hB2:Below w.heap.size w w2:=hb1.trans (hb2.af hb1.size);have hc1:=(zD h1).2.1;have hc2:=(zD h2).2.1;go_wp2_with fail
 go_loopg [5,6] (N b) (fun r vx vy wr=>∃(x gx cx gy cy:Nat),vx=.slice (some ⟨gx,0,none⟩) (words x).length cx/\vy=.slice (some ⟨gy,0,none⟩) (words r).length cy/\(words x).length<=cx/\(words r).length<=cy/\(words x).length<=274877906944/\(words r).length<=274877906944/\Hid (bh wr gx 0 (words x))/\Hid (bh wr gy 0 (words r))/\Hid (Nat.gcd x r=Nat.gcd (N a) (N b))/\Hid (Below w.heap.size w wr))
 case atStart=>exact⟨_,_,_,_,_,rfl,rfl,hc1,hc2,kh,iC,kL,hl2,rfl,hB2⟩
 case round=>
  obtain⟨x,gx,cx,gy,cy,rfl,rfl,qA,uA,OY,Xp,hxw,KH,hg,hB⟩:=hrel;clear kL hl2 hB2 hc1 hc2 h1 h2 hb1 hb2;by_cases sU:gk=0
  ·subst sU;rw[ub] at *;go_wp2_with fail
   refine(QV gx cx _ _ (lh _) qA (by omega) hxw.o.lt (fun j hj=>hxw.o.cell j hj)).af ?_;rintro e w5 ⟨rfl,hb5⟩;rw[jK];go_wp2;go_ret;exact⟨by rw[<- hg.o,Nat.gcd_zero_right];rfl,hB.o.trans (hb5.af hB.o.size)⟩
  ·have kf:=M0 sU;(have hne:¬(((words gk).length:Int)=0):=by omega);by_cases hbig:2<(words x).length
   focus
    go_wp2_with fail
   rotate_left
   focus
    by_cases YU:2<(words gk).length
    focus
     go_wp2_with fail
    rotate_left
    ·have OZ:=WO (Nat.le_of_not_lt hbig);have Xq:=WO (Nat.le_of_not_lt YU);go_wp2_with fail
     refine(Tp gx cx _ _ (lh _) (Nat.le_of_not_lt hbig) hxw.o).af ?_;rintro e w5 ⟨rfl,hw⟩;subst hw;rw[jK];go_wp2_with fail
     refine(Tp gy cy _ _ (lh _) (Nat.le_of_not_lt YU) KH.o).af ?_;rintro e w6 ⟨rfl,hw⟩;subst hw;rw[jK];go_wp2_with fail
     refine(aii x gk _ OZ Xq).af ?_;rintro e w7 ⟨rfl,c5⟩;have uM:=hB.o.trans (c5.af hB.o.size);rw[hg.o];(have ahI:Nat.gcd (N a) (N b)<18446744073709551616:=by rw[<- hg.o];exact MK (Nat.gcd_le_right _ (jZ sU)) Xq);go_wp2_with fail
     refine(V3 _ _ ahI).af ?_;rintro e w8 ⟨rfl,fp⟩;go_wp2;go_ret;exact⟨rfl,uM.trans (fp.af uM.size)⟩
   all_goals
    refine(aar gx cx gy cy x gk _ sU (by omega) qA hxw.o KH.o).af ?_;rintro e w5 ⟨vq,gr,cr,rfl,_,hcr,hr,hb5⟩;have cP:(words (x % gk)).length<=274877906944:=aL (M3 (Nat.mod_le _ _)) OY;have HR:=aB hr;have Ex:=aB (KH.o.aa hb5 KH.o.lt);have eT:=aB (hB.o.trans (hb5.af hB.o.size));(have vA:Hid (Nat.gcd gk (x % gk)=Nat.gcd (N a) (N b)):=by show _=_;rw[<- hg.o,Fm x gk,Nat.gcd_rec gk x,Fm]);go_wp2;go_roundg (x % gk)
    case measure=>exact gh _ (jZ sU)
    case rel=>exact⟨gk,gy,cy,gr,cr,rfl,rfl,uA,hcr,Xp,cP,Ex,HR,vA,eT⟩
variable {w0:World}
theorem nM (k:Nat):∀n,n<256^k ->(bn n).length<=k:=by
 induction k with
 |zero=>
  intro n h;have:n=0:=by simpa using h
  subst this;simp[nJ]
 |succ k ih=>
  intro n h;by_cases e:n=0
  ·subst e;simp[nJ]
  ·rw[nL n e,cK,Jr];have:=ih (n/256) (C8 (by rw[gH] at h;omega));omega
theorem AU (n:Nat):n<256^(B n).size:=by
 have:=rF (bn n);rwa [Ox, <- kA] at this
theorem i6 (h:m<=n):(B m).size<=(B n).size:=by
 rw[kA m];exact nM _ _ (MK h (AU n))
theorem o6 (m n:Nat):(B (m*n)).size<=(B m).size+(B n).size:=by
 rw[kA (m*n)];refine nM _ _ ?_;rw[zh];exact Fl (AU m) (AU n)
theorem T3 (m n:Nat):(B (m+n)).size<=(B m).size+(B n).size+1:=by
 rw[kA (m+n)];refine nM _ _ ?_;have h1:=AU m;have h2:=AU n;have h3:256^(B m).size<=256^((B m).size+(B n).size):=iX (by decide) (by omega);have h4:256^(B n).size<=256^((B m).size+(B n).size):=iX (by decide) (by omega);rw[gH];omega
theorem xB:B 0=⟨#[]⟩:=by rw[B,nJ]
theorem aa8:N ⟨#[]⟩=0:=rfl
theorem aby (h:B m=B n):m=n:=by rw[<- bG m,h,bG]
theorem zb (h:n≠0):(B n).toList.isEmpty=false:=by
 cases e:(B n).toList with
 |cons=>rfl
 |nil=>
  rw[Lib.toList_data] at e;have h2:(B n).size=0:=by rw[ByteArray.size, <- A9,e];rfl
  have h3:=AU n;rw[h2] at h3;omega
theorem wP (s:ByteArray):s.data.toList.length=s.size:=by rw[A9];rfl
theorem ME:(B 1).size<=1:=by rw[kA];exact nM 1 1 (by decide)
theorem under {P:Program} {f:FuncId} {args:Array Value} {X:Ending} (hB:Below w0.heap.size w0 w) (h:Calls P f args w fun e w'=>e=X/\Below w.heap.size w w'):Calls P f args w fun e w'=>e=X/\Below w0.heap.size w0 w':=
 h.af fun _ _ ⟨h1,h2⟩=>⟨h1,hB.trans (h2.af hB.size)⟩
theorem alm {a b:ByteArray} (n:Nat) (hB:Below w0.heap.size w0 w) (h:Nat.gcd (N a) (N b)=n) (ha:a.size<=1099511627776) (hb:b.size<=1099511627776):
  Calls Tryz.prog 165 #[.string a,.string b] w fun e w'=>e=.returned (.string (B n))/\Below w0.heap.size w0 w':=by
 subst h;exact under hB (aln a b w ha hb)
theorem aa6 {x:Int} (n:Nat) (hB:Below w0.heap.size w0 w) (h:x=(n:Int)) (hx:x<=9223372036854775807):
  Calls Tryz.prog 110 #[.int .i64 x] w fun e w'=>e=.returned (.string (B n))/\Below w0.heap.size w0 w':=by
 have:=under hB (aa7 x w (by omega) hx);rwa [show x.toNat=n by omega] at this
theorem aa4 {a b:ByteArray} (n:Nat) (hB:Below w0.heap.size w0 w) (h:N a=N b+n) (ha:a.size<=1099511627776) (hb:b.size<=1099511627776):
  Calls Tryz.prog 163 #[.string a,.string b] w fun e w'=>e=.returned (.tuple #[.string (B n),.bool true])/\Below w0.heap.size w0 w':=by
 have:=under hB (akJ a b w ha hb (by omega));rwa [show N a - N b=n by omega] at this
theorem akK {a b:ByteArray} (hB:Below w0.heap.size w0 w) (h:N a<N b):
  Calls Tryz.prog 163 #[.string a,.string b] w fun e w'=>e=.returned (.tuple #[.string ⟨#[]⟩,.bool false])/\Below w0.heap.size w0 w':=under hB (akL a b w h)
theorem abw {a b:ByteArray} (q r:Nat) (hB:Below w0.heap.size w0 w) (hq:N a/N b=q) (hr:N a % N b=r) (h0:N b≠0) (ha:a.size<=1099511627776) (hb:b.size<=1099511627776):
  Calls Tryz.prog 166 #[.string a,.string b] w fun e w'=>e=.returned (.tuple #[.string (B q),.string (B r),.bool true])/\Below w0.heap.size w0 w':=by
 subst hq hr;exact under hB (alo a b w ha hb h0)
def nd:List Nat ->Nat
 |[]=>0
 |x::r=>x+256*nd r
theorem Bu (x:Nat) (r:List Nat):nd (x::r)=x+256*nd r:=rfl
theorem Ow (n:Nat):nd (List.replicate n 0)=0:=by
 induction n with
 |zero=>rfl
 |succ n ih=>rw[Fp,Bu,ih]
theorem Kt (l:List Nat):∀(j y:Nat) (h:j<l.length),nd (l.set j y)+l[j]*256^j=nd l+y*256^j:=by
 induction l with
 |nil=>intro j y h;exact absurd h (Fk _)
 |cons x r ih=>
  intro j y h;cases j with
  |zero=>simp only[A2,Bu,List.getElem_cons_zero,Fj,nW];omega
  |succ j=>
   (have hj:j<r.length:=by simpa using h);have:=ih j y hj;simp only[List.set_cons_succ,Bu,List.getElem_cons_succ,gH];(have e1:r[j]*(256^j*256)=256*(r[j]*256^j):=by rw[<- gg,cV]);(have e2:y*(256^j*256)=256*(y*256^j):=by rw[<- gg,cV]);rw[e1,e2];omega
def oW (l:List Nat):Prop:=∀x∈l,x<256
theorem Q9 (n:Nat):oW (List.replicate n 0):=fun x hx=>by rw[(List.mem_replicate.1 hx).2];decide
theorem H8 {l:List Nat} (h:oW l) (j y:Nat) (hy:y<256):oW (l.set j y):=fun x hx=>by
 rcases Tc hx with h1 |h1
 ·exact h x h1
 ·rw[h1];exact hy
theorem afx (l:List Nat) (h:oW l):nd l<256^l.length:=by
 induction l with
 |nil=>decide
 |cons x r ih=>
  have h1:=ih fun y hy=>h y (dF _ hy);have h2:=h x dB;rw[Bu,dI,gH];omega
def rb (l:List Nat):List UInt8:=l.reverse.map UInt8.ofNat
theorem afA (l:List Nat) (h:oW l):nb (rb l)=nd l:=by
 induction l with
 |nil=>rfl
 |cons x r ih=>
  have h1:=ih fun y hy=>h y (dF _ hy);have h2:=h x dB;have:rb (x::r)=rb r++[UInt8.ofNat x]:=by simp[rb]
  rw[this,vY,h1,Bu];have:(UInt8.ofNat x).toNat=x:=by simp;omega
  omega
theorem afE (l:List UInt8) (i:Nat) (h:i<l.length):nb l/256^i % 256=(l[l.length - 1 - i]'(by omega)).toNat:=by
 have e:l=l.take (l.length - 1 - i)++(l[l.length - 1 - i]'(by omega)::l.drop (l.length - i)):=by
  have h1:=zl (l.length - 1 - i) l;have h2:l.drop (l.length - 1 - i)=l[l.length - 1 - i]'(by omega)::l.drop (l.length - 1 - i+1):=mD (by omega);rw[h2,show l.length - 1 - i+1=l.length - i by omega] at h1;exact h1.symm
 have hl:(l.drop (l.length - i)).length=i:=by rw[lU];omega
 have hlt:=rF (l.drop (l.length - i));rw[hl] at hlt
 have hn:nb l=(nb (l.take (l.length - 1 - i))*256+(l[l.length - 1 - i]'(by omega)).toNat)*256^i+nb (l.drop (l.length - i)):=by
  conv=>lhs;rw[e]
  rw[zH,Bz,dI,hl,gH,eL,gg,cV 256 (256^i),zk]
 generalize (l[l.length - 1 - i]'(by omega))=c at *;generalize nb (l.take (l.length - 1 - i))=p at *;have hc:=c.toNat_lt;rw[hn,cV,Nat.mul_add_div (rq (by decide)),vJ hlt,fO];omega
theorem afD (l:List UInt8) (i:Nat) (h:l.length<=i):nb l/256^i % 256=0:=by
 rw[vJ (aO (rF l) (iX (by decide) h))]
theorem aje (l:List UInt8):∀k,k<=l.length ->(l.take k).all (·==0)=true ->(∀h:k<l.length,l[k]≠0) ->l.dropWhile (·==0)=l.drop k:=by
 induction l with
 |nil=>intro k _ _ _;simp
 |cons x r ih=>
  intro k hk h0 h1;cases k with
  |zero=>
   have:x≠0:=h1 (by simp);rw[List.dropWhile_cons,aD (by simpa using this),A7]
  |succ k=>
   simp only[List.take_succ_cons,List.all_cons,iK] at h0;rw[List.dropWhile_cons,aA h0.1,List.drop_succ_cons];exact ih k (by simpa using hk) h0.2 (fun h=>by have:=h1 (by simpa using h);simpa using this)
theorem DF (n k:Nat):n % 256^(k+1)=n % 256^k+256^k*(n/256^k % 256):=by
 rw[gH,Nat.mod_mul]
theorem TK (s:ByteArray) (k:Nat) (hk:k<=s.size) (h0:(s.data.toList.take k).all (·==0)=true) (h1:∀h:k<s.size,s[k].toNat≠0):s.extract k s.size=B (N s):=by
 have e:s.data.toList.dropWhile (·==0)=s.data.toList.drop k:=aje _ k (by simpa using hk) h0 (fun h hz=>h1 (by simpa using h) (by
  have:s[k]'(by simpa using h)=s.data.toList[k]:=rfl;rw[this,hz];rfl))
 apply JB;apply JC.1;rw[B,N,Rk,e];show (s.extract k s.size).data.toList=_;rw[ByteArray.data_extract,Array.toList_extract];simp[jn]
theorem ll (s:ByteArray) (w:World) (hs:s.size<=140737488355328):
  Calls Tryz.prog 116 #[.string s] w fun e w'=>e=.returned (.string (B (N s)))/\w'=w:=by
 go_enter Tryz.func116,Tryz.ntmps116;go_wp2;go_loop [3] (fun i=>∃k:Nat,k<=s.size/\i=.int .i64 k/\(s.data.toList.take k).all (·==0)=true) (fun i=>s.size - (intOf i).toNat)
 case atStart=>exact⟨0,aU _,rfl,rfl⟩
 case round=>
  obtain⟨k,hk,rfl,hall⟩:=hrel;have HA:Hid ((s.data.toList.take k).all (·==0)=true):=hall;clear hall;by_cases hlt:k<s.size
  ·by_cases hc:s[k].toNat=0
   ·have HS:Hid ((s.data.toList.take (k+1)).all (·==0)=true):=by
     show _=_;rw[FT s k hlt,Fx,HA.o];have:s[k]=0:=Jk.1 hc;simp[this]
    go_wp2;go_round
    case rel=>exact⟨k+1,by omega,by go_num,HS.o⟩
    case measure=>simp[intOf];omega
   ·have HE:=aB (TK s k hk HA.o fun _=>hc);go_wp2;go_ret;exact⟨by rw[<- HE.o];rfl,rfl⟩
  ·have HE:=aB (TK s k hk HA.o fun h=>absurd h hlt);go_wp2;go_ret;exact⟨by rw[<- HE.o];rfl,rfl⟩
theorem Tj (n:Nat) (h:n<256):wrap64 (n:Int)=(n:Int):=by
 rw[wrap64];omega
theorem Cn (s:ByteArray) (i:Nat) (w:World) (hs:s.size<=140737488355328) (hi:i<=9223372036854775807):
  Calls Tryz.prog 118 #[.string s,.int .i64 (i:Int)] w fun e w'=>e=.returned (.int .i64 ((N s/256^i % 256:Nat):Int))/\w'=w:=by
 go_enter Tryz.func118,Tryz.ntmps118;by_cases hlt:i<s.size
 ·have HD:Hid (N s/256^i % 256=(s[s.size - 1 - i]'(by omega)).toNat):=by
   show _=_;rw[N,afE _ i (by simpa using hlt)];simp;rfl
  have hx:0<=(s.size:Int) - 1 - i:=by omega
  have hw:=Tj _ (s[s.size - 1 - i]'(by omega)).toNat_lt;have HW:=aB hw;clear hw;go_wp2;go_ret;exact⟨by rw[HD.o];exact cU (fun z=>Ending.returned (Value.int .i64 z)) HW.o,rfl⟩
 ·have HD:Hid (N s/256^i % 256=0):=afD _ i (by simp;omega);go_wp2;go_ret;exact⟨by rw[HD.o];rfl,rfl⟩
def iv (x:Nat):Value:=.int .i64 (x:Int)
def ck (w:World) (g:Nat) (l:List Nat):Prop:=w.heap[g]? =some (.cells (l.map iv).toArray 3 (0,0))
theorem ck.cell {l:List Nat} (h:ck w g l) (j:Nat) (hj:j<l.length):w.cell? ⟨g,j,none⟩=some (.int .i64 (l[j]:Nat)):=by
 rw[bX w g j _ _ (0,0) h];simp[iv,hj]
theorem ck.fz {l:List Nat} (h:ck w g l) (j:Nat):w.frozen? ⟨g,j,none⟩=false:=kZ w g j _ _ h
theorem ck.lt {l:List Nat} (h:ck w g l):g<w.heap.size:=(dm.1 h).1
theorem ck.aa {b:Nat} {l:List Nat} (h:ck w g l) (hb:Below b w w') (hg:g<b):ck w' g l:=(hb.block g hg).trans h
theorem ck.set {l:List Nat} (h:ck w g l) (j y:Nat):ck (w.setCell ⟨g,j,none⟩ (.int .i64 (y:Int))) g (l.set j y):=by
 have:=jY w g j _ _ (.int .i64 (y:Int)) h;rw[ck,A5];simpa [iv] using this
def pg (l:List Nat) (k:Nat):List Int:=List.replicate (l.length - k) 0++((l.take k).reverse.map Int.ofNat)
theorem aeN (l:List Nat):pg l 0=List.replicate l.length 0:=by simp[pg]
theorem aeP (l:List Nat) (k:Nat) (hk:k<=l.length):(pg l k).length=l.length:=by simp[pg];omega
theorem aeO (l:List Nat) (k:Nat) (hk:k<l.length):(pg l k).set (l.length - 1 - k) (l[k]:Int)=pg l (k+1):=by
 have h1:l.length - k=(l.length - 1 - k)+1:=by omega
 have h2:List.replicate (l.length - k) (0:Int)=List.replicate (l.length - 1 - k) 0++[0]:=by rw[h1,List.replicate_succ']
 have h3:l.length - (k+1)=l.length - 1 - k:=by omega
 rw[pg,pg,h2,nZ,A3 _ _ (by simp),h3];rw[Fs,oX,eE,gY,A2,fP hk,List.reverse_append,List.reverse_singleton,dL];rfl
theorem aeQ (l:List Nat):pg l l.length=l.reverse.map Int.ofNat:=by simp[pg]
theorem akN (l:List Nat) (h:oW l):N (strOfNums (l.reverse.map Int.ofNat))=nd l:=by
 rw[N,C1, <- afA l h,rb];congr 1
 simp[Function.comp_def]
theorem DJ (n:Nat):(madeCells (Value.int .i64 0).cells (n*1)).toList=(List.replicate n (0:Nat)).map iv:=by
 rw[show (Value.int .i64 0).cells= #[Value.int .i64 0] from rfl,E7,nW,Jq];rfl
theorem Tryz.infoInt:(Tryz.prog.info? 3).map (fun i=>(i.zero,i.size,i.bytes))=some (some (.int .i64 0),1,8):=by kernel_rfl
theorem N4 (g:Nat) (l:List Nat) (w:World) (hd:oW l) (hlen:l.length<=140737488355328) (h:ck w g l):
  Calls Tryz.prog 119 #[.slice (some ⟨g,0,none⟩) l.length l.length] w fun e w'=>e=.returned (.string (B (nd l)))/\Below w.heap.size w w':=by
 obtain⟨i0,hi,hz0,hz1,hz2⟩:=dH Tryz.infoByte;have ahD:=h.lt;have qY:Hid (ck w g l):=h;have HN:Hid (N (strOfNums (l.reverse.map Int.ofNat))=nd l):=akN l hd;have HD:Hid (oW l):=hd;clear h hd;go_enter Tryz.func119,Tryz.ntmps119
 go_wp2_with (first
  |(at_make;refine mR _ rfl _ _ 152 rfl w.heap.size 5 i0 (.int .u8 0) 1 Tryz.underlying152 hi hz0 hz1 .i64 .i64 _ _ l.length rfl rfl (by omega) (by omega) (by rw[hz2];omega) (by unfold maxLen;omega) (aq _) ?_;intro w2 hown2 hgrow2))
 have hb2:=pS hown2;rw[WL, <- aeN] at hb2;have hB2:Below w.heap.size w w2:=(au _ w).grown hgrow2 (aq _) (fun k e=>by cases e);have HI:Hid (w2.heap[w.heap.size]? =some (.cells ((pg l 0).map u8).toArray 5 (0,0))):=hb2;clear hown2 hgrow2 hb2
 go_loopw [4] (fun i wr=>∃k:Nat,k<=l.length/\i=.int .i64 k/\Hid (wr.heap[w.heap.size]? =some (.cells ((pg l k).map u8).toArray 5 (0,0)))/\Below w.heap.size w wr)
  (fun i _=>l.length - (intOf i).toNat)
 case atStart=>exact⟨0,aU _,rfl,HI,hB2⟩
 case round=>
  obtain⟨k,hk,rfl,HR,bI⟩:=hrel;clear HI hB2;by_cases hlt:k<l.length
  ·have hck:wr.cell? ⟨g,k,none⟩=some (.int .i64 (l[k]:Nat)):=(qY.o.aa bI ahD).cell k hlt;have hx:=HD.o l[k] (bM hlt);have cO:=aB (aeO l k hlt);obtain⟨E,hE⟩:∃E,E=l.length - 1 - k:=⟨_,rfl⟩;rw[<- hE] at cO;(have f1:(l.length:Int) - 1 - (k:Int)=(E:Int):=by omega);(have f2:E<l.length:=by omega)
   have hcd:wr.cell? ⟨w.heap.size,E,none⟩=some (.int .u8 ((pg l k)[E]?.getD 0)):=by
    rw[bX wr _ E _ _ (0,0) HR.o];(have:E<(pg l k).length:=by rw[aeP l k hk];exact f2);simp[Go.Proofs.YtfgkjjlocjmfeaaGreatDoor.u8,a8 this]
   have hfz:=kZ wr w.heap.size E _ _ HR.o;have hput:=aB (fun u=>jY wr w.heap.size E _ _ u HR.o);generalize l[k]=x at *;generalize (pg l k)[E]?.getD 0=z at *;clear hE;go_wp2;have hrow:=hput.o (.int .u8 (x:Int));go_roundw
   case rel=>
    refine⟨k+1,by omega,by go_num,?_,bI.setCell (aq _) _⟩;show _=_;rw[hrow, <- cO.o,A5];simp[Go.Proofs.YtfgkjjlocjmfeaaGreatDoor.u8]
   case measure=>simp[intOf];omega
  ·obtain rfl:k=l.length:=by omega
   have Gv:=aeQ l;(have qo:(l.reverse.map Int.ofNat).length=l.length:=by simp);have Zu:=HN.o;clear HN qY HD;generalize l.reverse.map Int.ofNat=m at *;have HN:=aB Zu;clear Zu
   have wJ:=C2 (P:=Tryz.prog) wr 152 5 Tryz.underlying152 Tryz.underlying5 w.heap.size 0 l.length l.length m qo (fun i hi=>by
    have e:=bX wr w.heap.size (0+i) _ _ _ HR.o;rw[e,Gv];(have wH:i<m.length:=by omega);simp[Go.Proofs.YtfgkjjlocjmfeaaGreatDoor.u8,a8 wH,bU]) 30 Tryz.underlying30
   clear HR Gv
   have hsz:(strOfNums m).size<=140737488355328:=by
    rw[<- wP,C1,cX];omega
   go_wp2_with (go_at_call 116;refine(ll _ _ hsz).af ?_;rintro e w3 ⟨rfl,hw1⟩;subst hw1)
   go_ret;exact⟨by rw[HN.o];rfl,bI⟩
variable {D c:Nat}
theorem aaK (v P:Nat):v % 256*P+v/256*(P*256)=v*P:=by
 have h:v=v/256*256+v % 256:=by omega
 conv=>rhs;rw[h,eL,gg,cV 256 P]
 omega
theorem akw {A:Nat} {p:List Nat} (hk:k<p.length) (h0:p[k]?.getD 0=0) (h:nd p+c*256^k=A % 256^k+D % 256^k):
  nd (p.set k ((c+A/256^k % 256+D/256^k % 256) % 256))+(c+A/256^k % 256+D/256^k % 256)/256*256^(k+1)=A % 256^(k+1)+D % 256^(k+1):=by
 have s:=Kt p k ((c+A/256^k % 256+D/256^k % 256) % 256) hk;have Em:p[k]=0:=by rwa [a8 hk] at h0
 rw[Em,mC,fO] at s;rw[s,DF,DF D,gH];have:=aaK (c+A/256^k % 256+D/256^k % 256) (256^k)
 have e:(c+A/256^k % 256+D/256^k % 256)*256^k=c*256^k+256^k*(A/256^k % 256)+256^k*(D/256^k % 256):=by
  rw[eL,eL,cV (A/256^k % 256),cV (D/256^k % 256)]
 omega
theorem Nz {p:List Nat} {y:Nat} (h:∀j,k<=j ->p[j]?.getD 0=0):∀j,k+1<=j ->(p.set k y)[j]?.getD 0=0:=fun j hj=>by
 rw[MR (by omega)];exact h j (by omega)
theorem akx {A:Nat} {p:List Nat} (hA:A<256^n) (hD:D<256^n) (h:nd p+c*256^(n+1)=A % 256^(n+1)+D % 256^(n+1)):nd p=A+D:=by
 have hp:256^(n+1)=256*256^n:=by rw[gH,cV]
 rw[iY (by omega),iY (by omega)] at h
 have hc:c=0:=by
  rcases xH c with h0 |h0
  ·exact h0
  ·have:1*256^(n+1)<=c*256^(n+1):=jl _ h0;omega
 rw[hc] at h;omega
theorem Av (s:ByteArray):N s<256^s.size:=by
 have:=rF s.data.toList;rwa [wP] at this
theorem U8 (a b:ByteArray) (w:World) (ha:a.size<=1000000) (hb:b.size<=1000000):
  Calls Tryz.prog 67 #[.string a,.string b] w fun e w'=>e=.returned (.string (B (N a+N b)))/\Below w.heap.size w w':=by
 obtain⟨i0,hi,hz0,hz1,hz2⟩:=dH Tryz.infoInt;obtain⟨n,hn⟩:∃n,n=max a.size b.size:=⟨_,rfl⟩;have hna:a.size<=n:=by omega
 have rL:b.size<=n:=by omega
 have dW:n<=1000000:=by omega
 have Ee:(b.size<=a.size/\a.size=n)∨(a.size<b.size/\b.size=n):=by omega
 clear hn;have CQ:Hid (N a<256^n):=aO (Av a) (iX (by decide) hna);have AP:Hid (N b<256^n):=aO (Av b) (iX (by decide) rL);have y6:=aB (fun (k:Nat) (V:World) (h:k<=9223372036854775807)=>Cn a k V (by omega) h);have E4:=aB (fun (k:Nat) (V:World) (h:k<=9223372036854775807)=>Cn b k V (by omega) h);generalize hA:N a=A at *;generalize hD:N b=D at *;clear hA hD;go_enter Tryz.func67,Tryz.ntmps67;rcases Ee with ⟨hc1,hc2⟩ |⟨hc1,hc2⟩
 all_goals
  go_wp2_with (first
   |(at_make;refine mR _ rfl _ _ 27 rfl w.heap.size 3 i0 (.int .i64 0) 1 Tryz.underlying27 hi hz0 hz1 .i64 .i64 _ _ (n+1) rfl rfl (by go_num) (by go_num) (by rw[hz2];omega) (by unfold maxLen;omega) (aq _) ?_;intro w2 hown2 hgrow2))
  have hb2:=pS hown2;rw[DJ] at hb2;have hB2:Below w.heap.size w w2:=(au _ w).grown hgrow2 (aq _) (fun k e=>by cases e);have HI:Hid (ck w2 w.heap.size (List.replicate (n+1) 0)):=hb2;clear hown2 hgrow2 hb2 hc1 hc2
  go_loopw [7,8] (fun cv iv wr=>∃(k c:Nat) (p:List Nat),k<=n+1/\iv=.int .i64 k/\cv=.int .i64 c/\c<=1/\p.length=n+1/\Hid (oW p)/\Hid (∀j,k<=j ->p[j]?.getD 0=0)/\Hid (nd p+c*256^k=A % 256^k+D % 256^k)/\Hid (ck wr w.heap.size p)/\Below w.heap.size w wr)
   (fun _ i _=>n+1 - (intOf i).toNat)
  case atStart=>exact⟨0,0,List.replicate (n+1) 0,aU _,rfl,rfl,aU _,by simp,Q9 _,(fun j _=>by rw[MT];split<;>rfl),(show _=_ by rw[Ow];simp[Nat.mod_one]),HI,hB2⟩
  case round=>
   obtain⟨k,c,p,hk,rfl,rfl,hc,hpl,oU,HZ,HE,HR,bI⟩:=hrel;clear HI hB2;by_cases hlt:k<n+1
   ·have GL:k<p.length:=by omega
    have hstep:=aB (akw GL (HZ.o k (aq _)) HE.o);have HX:=aB (fun V=>y6.o k V (by omega));have HY:=aB (fun V=>E4.o k V (by omega));have hx:A/256^k % 256<256:=gh _ (by decide);have hy:D/256^k % 256<256:=gh _ (by decide);generalize A/256^k % 256=x at *;generalize D/256^k % 256=y at *;have hcell:=HR.o.cell k GL;have hfz:=HR.o.fz k;have cO:=aB (fun z=>HR.o.set k z);generalize p[k]=pk at *;clear HE
    go_wp2_with (first
     |(have hdone:=hx1;go_at_call 118;refine(HY.o _).af ?_;rintro e w3 ⟨rfl,hw3⟩;subst hw3)
     |(go_at_call 118;refine(HX.o _).af ?_;rintro e w3 ⟨rfl,hw3⟩;subst hw3;have hx1:True:=trivial))
    have hv:Value.int .i64 (((c:Int)+(x:Int)+(y:Int)) % 256)=.int .i64 (((c+x+y) % 256:Nat):Int):=int_eq (by omega);have hv2:Value.int .i64 (((c:Int)+(x:Int)+(y:Int))/256)=.int .i64 (((c+x+y)/256:Nat):Int):=int_eq (by omega);rw[hv,hv2];go_roundw
    case rel=>exact⟨k+1,(c+x+y)/256,p.set k ((c+x+y) % 256),by omega,by go_num,rfl,by omega,by rw[tY];exact hpl,H8 oU.o _ _ (gh _ (by decide)),Nz HZ.o,hstep.o,cO.o _,bI.setCell (aq _) _⟩
    case measure=>simp[intOf];omega
   ·obtain rfl:k=n+1:=by omega
    have jd:=N4 w.heap.size p wr oU.o (by omega) HR.o;rw[hpl,akx CQ.o AP.o HE.o] at jd;have vt:=aB jd;clear jd;go_wp2_with (go_at_call 119;refine(vt.o).af ?_;rintro e w3 ⟨rfl,hb3⟩)
    go_ret;exact⟨rfl,bI.trans (hb3.af bI.size)⟩
theorem LP {b:Nat} {v u:World} (h:Below b v u) (k:Nat):Below b v (u.drewN k):=⟨h.os,h.tape,h.output,h.size,h.block⟩
theorem WR (a b:ByteArray) (k:Nat) (ha:k<a.size) (hb:k<b.size) (hl:a.size=b.size) (hp:a.data.toList.take k=b.data.toList.take k) (h:a[k].toNat<b[k].toNat):N a<N b:=by
 have ea:a.data.toList=a.data.toList.take k++(a[k]::a.data.toList.drop (k+1)):=by
  have hd:a.data.toList.drop k=a[k]::a.data.toList.drop (k+1):=mD (l:=a.data.toList) (i:=k) (by simpa using ha);rw[<- hd,zl]
 have eb:b.data.toList=b.data.toList.take k++(b[k]::b.data.toList.drop (k+1)):=by
  have hd:b.data.toList.drop k=b[k]::b.data.toList.drop (k+1):=mD (l:=b.data.toList) (i:=k) (by simpa using hb);rw[<- hd,zl]
 rw[N,N,ea,eb,hp,zH,zH,Bz,Bz];have l1:(a.data.toList.drop (k+1)).length=a.size - (k+1):=by rw[lU,wP]
 have l2:(b.data.toList.drop (k+1)).length=a.size - (k+1):=by rw[lU,wP,hl]
 have b1:=rF (a.data.toList.drop (k+1));rw[l1] at b1;rw[dI,dI,l1,l2];have hm:(a[k].toNat+1)*256^(a.size - (k+1))<=b[k].toNat*256^(a.size - (k+1)):=jl _ h;rw[eL,jF] at hm;omega
theorem WQ (h:(B m).size<(B n).size):m<n:=by
 rcases cT m n with h1 |h1
 ·exact h1
 ·have:=i6 h1;omega
theorem Rf (h:m<n):iG m n= -1:=aA h
theorem aaE (h:n<m):iG m n=1:=by rw[iG,aD (by omega),aD (by omega)]
theorem ajM (h:m=n):iG m n=0:=by rw[iG,aD (by omega),aA h]
theorem aja (hl:(B m).size=(B n).size) (hp:(B m).data.toList.take (B m).size=(B n).data.toList.take (B m).size):m=n:=by
 rw[jn (by rw[wP];exact aq _),jn (by rw[wP,hl];exact aq _)] at hp;exact aby (JB (JC.1 hp))
theorem U7 (a b:ByteArray) (w:World) (ha:a.size<=1000000) (hb:b.size<=1000000):
  Calls Tryz.prog 171 #[.string a,.string b] w fun e w'=>e=.returned (.int .i64 (iG (N a) (N b)))/\Below w.heap.size w w':=by
 have oN:=aB (ll a w (by omega));have dN:=aB (ll b w (by omega));have sa:=aL (il a) ha;have sb:=aL (il b) hb;have EX:=aB (fun h=>Rf (WQ (m:=N a) (n:=N b) h));have oQ:=aB (fun h=>aaE (WQ (m:=N b) (n:=N a) h));have I3:=aB (fun hl hp=>ajM (aja (m:=N a) (n:=N b) hl hp));have Mk:=aB (fun k h1 h2 hl hp h=>Rf (m:=N a) (n:=N b) (by have:=WR (B (N a)) (B (N b)) k h1 h2 hl hp h;rwa [bG,bG] at this));have HL5:=aB (fun k h1 h2 hl hp h=>aaE (m:=N a) (n:=N b) (by have:=WR (B (N b)) (B (N a)) k h1 h2 hl hp h;rwa [bG,bG] at this));generalize iG (N a) (N b)=r at *;generalize B (N a)=x at *;generalize B (N b)=y at *;go_enter Tryz.func171,Tryz.ntmps171;go_wp2_with fail
 refine(oN.o).af ?_;rintro e w1 ⟨rfl,hw⟩;subst hw;go_wp2_with fail
 refine(dN.o).af ?_;rintro e w1 ⟨rfl,hw⟩;subst hw;clear oN dN;rcases (show x.size<y.size∨y.size<x.size∨x.size=y.size by omega) with hs |hs |hs
 ·go_wp2;go_ret;exact⟨by rw[EX.o hs];rfl,au _ _⟩
 ·go_wp2;go_ret;exact⟨by rw[oQ.o hs];rfl,au _ _⟩
 ·clear EX oQ;go_wp2;go_loopw [5] (fun i wr=>∃k:Nat,k<=x.size/\i=.int .i64 k/\Hid (x.data.toList.take k=y.data.toList.take k)/\Below w1.heap.size w1 wr) (fun i _=>x.size - (intOf i).toNat)
  case atStart=>exact⟨0,aU _,rfl,rfl,au _ _⟩
  case round=>
   obtain⟨k,hk,rfl,HP,bI⟩:=hrel;by_cases hlt:k<x.size
   ·have ux:k<y.size:=by omega
    rcases (show x[k].toNat<y[k].toNat∨y[k].toNat<x[k].toNat∨x[k].toNat=y[k].toNat by omega) with hc |hc |hc
    ·have HF:=aB (Mk.o k hlt ux hs HP.o hc);go_wp2_with fail
     go_quiet (fail)
     go_wp2;go_ret;exact⟨by rw[HF.o];rfl,LP bI _⟩
    ·have HF:=aB (HL5.o k ux hlt hs.symm HP.o.symm hc);go_wp2_with fail
     go_quiet (fail)
     go_wp2_with fail
     go_quiet (fail)
     go_wp2;go_ret;exact⟨by rw[HF.o];rfl,LP (LP bI _) _⟩
    ·have HS:Hid (x.data.toList.take (k+1)=y.data.toList.take (k+1)):=by
      show _=_;rw[FT x k hlt,FT y k ux,HP.o,Jk.1 hc]
     go_wp2_with fail
     go_quiet (fail)
     go_wp2_with fail
     go_quiet (fail)
     go_wp2;go_roundw
     case rel=>exact⟨k+1,by omega,by go_num,HS.o,LP bI _⟩
     case measure=>simp[intOf];omega
   ·obtain rfl:k=x.size:=by omega
    have HF:=aB (I3.o hs HP.o);go_wp2;go_ret;exact⟨by rw[HF.o];rfl,bI⟩
theorem acP {A y:Nat} {p:List Nat} (hk:k<p.length) (h0:p[k]?.getD 0=0) (h:nd p+D % 256^k=A % 256^k+c*256^k) (c':Nat) (hy:A/256^k % 256+c'*256=y+D/256^k % 256+c):
  nd (p.set k y)+D % 256^(k+1)=A % 256^(k+1)+c'*256^(k+1):=by
 have s:=Kt p k y hk;have Em:p[k]=0:=by rwa [a8 hk] at h0
 rw[Em,mC,fO] at s;rw[s,DF,DF A,gH];have e:=cU (fun z=>z*256^k) hy;simp only[eL] at e;have e1:c'*256*256^k=c'*(256^k*256):=by rw[gg,cV 256]
 rw[e1] at e;rw[cV (256^k) (D/256^k % 256),cV (256^k) (A/256^k % 256)];omega
theorem ajL (h:n<=m):0<=iG m n:=by
 rw[iG,aD (by omega)];split<;>decide
theorem acQ {A:Nat} {p:List Nat} (hA:A<256^n) (hD:D<=A) (hp:nd p<256^n) (h:nd p+D % 256^n=A % 256^n+c*256^n):nd p=A - D:=by
 rw[iY hA,iY (by omega)] at h
 have hc:c=0:=by
  rcases xH c with h0 |h0
  ·exact h0
  ·have:1*256^n<=c*256^n:=jl _ h0;omega
 rw[hc] at h;omega
theorem UX (a b:ByteArray) (w:World) (ha:a.size<=1000000) (hb:b.size<=1000000) (h:N a<N b):
  Calls Tryz.prog 122 #[.string a,.string b] w fun e w'=>e=.returned (.tuple #[.string ⟨#[]⟩,.bool false])/\Below w.heap.size w w':=by
 have hc:=U7 a b w ha hb;rw[Rf h] at hc;have HC:=aB hc;clear hc h;go_enter Tryz.func122,Tryz.ntmps122;go_wp2_with fail
 refine(HC.o).af ?_;rintro e w1 ⟨rfl,hb1⟩;go_wp2;go_ret2;exact⟨rfl,hb1⟩
theorem NI (a b:ByteArray) (w:World) (ha:a.size<=1000000) (hb:b.size<=1000000) (h:N b<=N a):
  Calls Tryz.prog 122 #[.string a,.string b] w fun e w'=>e=.returned (.tuple #[.string (B (N a - N b)),.bool true])/\Below w.heap.size w w':=by
 obtain⟨i0,hi,hz0,hz1,hz2⟩:=dH Tryz.infoInt;have hc:=U7 a b w ha hb;have hcr:∃r:Int,iG (N a) (N b)=r/\0<=r:=⟨_,rfl,ajL h⟩;obtain⟨r,hcr,hr⟩:=hcr;rw[hcr] at hc;have HC:=aB hc;have HT:=aB (fun V=>ll b V (by omega));have sb:=aL (il b) hb;have CQ:=aB (Av a);have q8:=aB h;have y6:=aB (fun (k:Nat) (V:World) (h:k<=9223372036854775807)=>Cn a k V (by omega) h);have G4:=fun (k:Nat) (V:World) (h:k<=9223372036854775807)=>Cn (B (N b)) k V (by omega) h;rw[bG] at G4;have E4:=aB G4;clear hc hcr G4 h;generalize B (N b)=y' at *;generalize hA:N a=A at *;generalize hD:N b=D at *;clear hA hD;generalize hn:a.size=n at *;go_enter Tryz.func122,Tryz.ntmps122;go_wp2_with fail
 refine(HC.o).af ?_;rintro e w1 ⟨rfl,hb1⟩;clear HC;go_wp2_with fail
 refine(HT.o _).af ?_;rintro e w9 ⟨rfl,hw9⟩;subst hw9;clear HT
 go_wp2_with (first
  |(at_make;refine mR _ rfl _ _ 27 rfl w9.heap.size 3 i0 (.int .i64 0) 1 Tryz.underlying27 hi hz0 hz1 .i64 .i64 _ _ n rfl rfl (by go_num) (by go_num) (by rw[hz2];omega) (by unfold maxLen;omega) (aq _) ?_;intro w2 hown2 hgrow2))
 have hb2:=pS hown2;rw[DJ] at hb2;have hB2:Below w9.heap.size w9 w2:=(au _ w9).grown hgrow2 (aq _) (fun k e=>by cases e);have HI:Hid (ck w2 w9.heap.size (List.replicate n 0)):=hb2;clear hown2 hgrow2 hb2
 go_loopw [8,9] (fun cv iv wr=>∃(k c:Nat) (p:List Nat),k<=n/\iv=.int .i64 k/\cv=.int .i64 c/\c<=1/\p.length=n/\Hid (oW p)/\Hid (∀j,k<=j ->p[j]?.getD 0=0)/\Hid (nd p+D % 256^k=A % 256^k+c*256^k)/\Hid (ck wr w9.heap.size p)/\Below w9.heap.size w9 wr)
  (fun _ i _=>n - (intOf i).toNat)
 case atStart=>exact⟨0,0,List.replicate n 0,aU _,rfl,rfl,aU _,by simp,Q9 _,(fun j _=>by rw[MT];split<;>rfl),(show _=_ by rw[Ow];simp[Nat.mod_one]),HI,hB2⟩
 case round=>
  obtain⟨k,c,p,hk,rfl,rfl,hc,hpl,oU,HZ,HE,HR,bI⟩:=hrel;clear HI hB2;by_cases hlt:k<n
  ·have GL:k<p.length:=by omega
   have hstep:=aB (fun y c'=>acP (y:=y) GL (HZ.o k (aq _)) HE.o c');have HX:=aB (fun V=>y6.o k V (by omega));have HY:=aB (fun V=>E4.o k V (by omega));have hx:A/256^k % 256<256:=gh _ (by decide);have hy:D/256^k % 256<256:=gh _ (by decide);generalize A/256^k % 256=x at *;generalize D/256^k % 256=y at *;have hcell:=HR.o.cell k GL;have hfz:=HR.o.fz k;have cO:=aB (fun z=>HR.o.set k z);generalize p[k]=pk at *;clear HE;by_cases Pv:(x:Int) - y - c<0
   ·go_wp2_with (first
     |(have hdone:=hx1;go_at_call 118;refine(HY.o _).af ?_;rintro e w3 ⟨rfl,hw3⟩;subst hw3)
     |(go_at_call 118;refine(HX.o _).af ?_;rintro e w3 ⟨rfl,hw3⟩;subst hw3;have hx1:True:=trivial))
    have hv:Value.int .i64 ((x:Int) - (y:Int) - (c:Int)+256)=.int .i64 ((x+256 - y - c:Nat):Int):=int_eq (by omega);rw[hv];go_roundw
    case rel=>exact⟨k+1,1,p.set k (x+256 - y - c),by omega,by go_num,rfl,by omega,by rw[tY];exact hpl,H8 oU.o _ _ (by omega),Nz HZ.o,hstep.o _ 1 (by omega),cO.o _,bI.setCell (aq _) _⟩
    case measure=>simp[intOf];omega
   ·go_wp2_with (first
     |(have hdone:=hx1;go_at_call 118;refine(HY.o _).af ?_;rintro e w3 ⟨rfl,hw3⟩;subst hw3)
     |(go_at_call 118;refine(HX.o _).af ?_;rintro e w3 ⟨rfl,hw3⟩;subst hw3;have hx1:True:=trivial))
    have hv:Value.int .i64 ((x:Int) - (y:Int) - (c:Int))=.int .i64 ((x - y - c:Nat):Int):=int_eq (by omega);rw[hv];go_roundw
    case rel=>exact⟨k+1,0,p.set k (x - y - c),by omega,by go_num,rfl,by omega,by rw[tY];exact hpl,H8 oU.o _ _ (by omega),Nz HZ.o,hstep.o _ 0 (by omega),cO.o _,bI.setCell (aq _) _⟩
    case measure=>simp[intOf];omega
  ·obtain rfl:k=n:=by omega
   have jd:=N4 w9.heap.size p wr oU.o (by omega) HR.o;have D6:=afx p oU.o;rw[hpl] at D6;rw[hpl,acQ CQ.o q8.o D6 HE.o] at jd;have vt:=aB jd;clear jd D6;go_wp2_with (go_at_call 119;refine(vt.o).af ?_;rintro e w3 ⟨rfl,hb3⟩)
   go_ret2;exact⟨rfl,(hb1.trans (bI.af hb1.size)).trans (hb3.af (hb1.trans (bI.af hb1.size)).size)⟩
theorem Ds (n:Int) (w:World) (h0: -9223372036854775808<=n) (h1:n<=9223372036854775807):
  Calls Tryz.prog 62 #[.int .i64 n] w fun e w'=>e=.returned (.string (B n.toNat))/\Below w.heap.size w w':=by
 go_enter Tryz.func62,Tryz.ntmps62;go_wp2;go_loopw [0,3] (fun v a wr=>∃(z:Int) (s:ByteArray),v=.int .i64 z/\a=.string s/\ -9223372036854775808<=z/\z<=9223372036854775807/\Hid (bn z.toNat++s.data.toList=bn n.toNat)/\Below w.heap.size w wr) (fun v _ _=>(intOf v).toNat)
 case atStart=>exact⟨n,⟨#[]⟩,rfl,rfl,h0,h1,(show _=_ by simp),au _ _⟩
 case round=>
  obtain⟨z,s,rfl,rfl,hz0,hz1,HS,bI⟩:=hrel;by_cases hz:0<z
  ·have wJ:=C2 (P:=Tryz.prog) (wr.alloc (.cells #[.int .u8 (z % 256)] 5)) 152 5 Tryz.underlying152 Tryz.underlying5 wr.heap.size 0 1 1 [z % 256] rfl (fun i hi=>by
    (obtain rfl:i=0:=by omega);rw[bX _ wr.heap.size (0+0) _ _ (0,0) (im _ _)];rfl) 30 Tryz.underlying30
   have mL:Hid (bn (z/256).toNat++(strOfNums [z % 256]++s).data.toList=bn n.toNat):=by
    show _=_;rw[<- HS.o,nL z.toNat (by omega),ByteArray.data_append,Array.toList_append,C1,show (z/256).toNat=z.toNat/256 by omega,nZ];(have:UInt8.ofNat (z % 256).toNat=UInt8.ofNat (z.toNat % 256):=by congr 1;omega);simp[this]
   have DW:s.size<=8:=by
    have e:=cU List.length HS.o;rw[cK,wP] at e;have:=nM 8 n.toNat (by show n.toNat<18446744073709551616;omega);omega
   have hs1:(strOfNums [z % 256]).size=1:=strOfNums_size _;go_wp2;go_roundw
   case rel=>exact⟨z/256,strOfNums [z % 256]++s,rfl,rfl,by omega,by omega,mL.o,bI.alloc bI.size _⟩
   case measure=>simp[intOf];omega
  ·have HE:Hid (s=B n.toNat):=by
    show s=_;have:=HS.o;rw[show z.toNat=0 by omega,nJ,gY] at this;apply JB;apply JC.1;rw[this,B]
   go_wp2;go_ret;exact⟨by rw[<- HE.o];rfl,bI⟩
theorem afz (l:List UInt8) (k:Nat):nb (l.take k)<=nb l:=by
 conv=>rhs;rw[<- zl k l,zH]
 have:nb (l.take k)*1<=nb (l.take k)*256^(l.drop k).length:=j5 _ (rq (by decide));omega
theorem Wq (s:ByteArray) (k:Nat) (h:k<s.size):nb (s.data.toList.take (k+1))=nb (s.data.toList.take k)*256+s[k].toNat:=by
 rw[FT s k h,vY]
theorem Ws (s:ByteArray):nb (s.data.toList.take s.size)=N s:=by
 rw[jn (by rw[wP];exact aq _),N]
theorem Dq (s:ByteArray) (w:World) (hs:s.size<=7):
  Calls Tryz.prog 120 #[.string s] w fun e w'=>e=.returned (.tuple #[.int .i64 (N s:Nat),.bool true])/\w'=w:=by
 have hN:N s<72057594037927936:=aO (Av s) (iX (by decide) hs);have HA:=aB (Ws s);go_enter Tryz.func120,Tryz.ntmps120;go_wp2;go_loop [4,5] (fun v i=>∃k:Nat,k<=s.size/\i=.int .i64 k/\v=.int .i64 (nb (s.data.toList.take k):Nat)) (fun _ i=>s.size - (intOf i).toNat)
 case atStart=>exact⟨0,aU _,rfl,rfl⟩
 case round=>
  obtain⟨k,hk,rfl,rfl⟩:=hrel;by_cases hlt:k<s.size
  ·have hwr:=Tj _ s[k].toNat_lt;have hst:=Wq s k hlt;have hle:=afz s.data.toList (k+1);rw[hst] at hle;have alM:nb (s.data.toList.take k)*256+s[k].toNat<72057594037927936:=MK hle hN;have HST:=aB hst;clear hst hle hN;generalize nb (s.data.toList.take k)=m at *;go_wp2;go_round
   case rel=>exact⟨k+1,by omega,by go_num,by rw[HST.o];exact int_eq (by omega)⟩
   case measure=>simp[intOf];omega
  ·obtain rfl:k=s.size:=by omega
   rw[HA.o];go_wp2;go_ret2;exact⟨rfl,rfl⟩
theorem Uw (s:ByteArray) (w:World) (h1:7<s.size) (hs:s.size<=1000000):
  Calls Tryz.prog 120 #[.string s] w fun e w'=>e=.returned (.tuple #[.int .i64 0,.bool false])/\w'=w:=by
 go_enter Tryz.func120,Tryz.ntmps120;go_wp2;go_ret2;exact⟨rfl,rfl⟩
theorem Uu (m:Nat) (h:(B m).size<=7):m<72057594037927936:=aO (AU m) (iX (by decide) h)
theorem afT {M x y:Nat} {p:List Nat} (hk:k+m<p.length) (h:nd p+c*256^(k+m)=M+x*256^k*(D % 256^m)) (hy:D/256^m % 256=y):
  nd (p.set (k+m) ((c+p[k+m]+x*y) % 256))+(c+p[k+m]+x*y)/256*256^(k+(m+1))=M+x*256^k*(D % 256^(m+1)):=by
 have s:=Kt p (k+m) ((c+p[k+m]+x*y) % 256) hk;have t:=aaK (c+p[k+m]+x*y) (256^(k+m));have e:(c+p[k+m]+x*y)*256^(k+m)=c*256^(k+m)+p[k+m]*256^(k+m)+x*y*256^(k+m):=by rw[eL,eL]
 have f:x*256^k*(D % 256^(m+1))=x*256^k*(D % 256^m)+x*y*256^(k+m):=by
  rw[DF,hy,k6,zh];congr 1
  rw[gg,gg,cV y,gg]
 rw[f,show k+(m+1)=k+m+1 by omega,gH];omega
theorem afy (l:List Nat):∀(j:Nat) (h:j<l.length),l[j]*256^j<=nd l:=by
 induction l with
 |nil=>intro j h;exact absurd h (Fk _)
 |cons x r ih=>
  intro j h;cases j with
  |zero=>simp only[List.getElem_cons_zero,Fj,nW,Bu];omega
  |succ j=>
   (have hj:j<r.length:=by simpa using h);have:=ih j hj;rw[List.getElem_cons_succ,Bu,gH, <- gg];omega
theorem afU {A lb x:Nat} {p:List Nat} (hk:k+lb<p.length) (hD:D<256^lb) (hx:A/256^k % 256=x) (h:nd p+c*256^(k+lb)=A % 256^k*D+x*256^k*(D % 256^lb)):
  nd (p.set (k+lb) (p[k+lb]+c))=A % 256^(k+1)*D/\p[k+lb]+c<256:=by
 have s:=Kt p (k+lb) (p[k+lb]+c) hk;rw[iY hD] at h;have f:A % 256^(k+1)*D=A % 256^k*D+x*256^k*D:=by rw[DF,hx,eL,cV (256^k) x]
 have e:(p[k+lb]+c)*256^(k+lb)=p[k+lb]*256^(k+lb)+c*256^(k+lb):=eL _ _ _;have hn:nd (p.set (k+lb) (p[k+lb]+c))=A % 256^(k+1)*D:=by rw[f];omega
 refine⟨hn,?_⟩;have g:=afy (p.set (k+lb) (p[k+lb]+c)) (k+lb) (by rw[tY];exact hk);rw[hn,List.getElem_set_self] at g;have hb:A % 256^(k+1)*D<256^(k+1)*256^lb:=Fl (gh _ (rq (by decide))) hD;rcases cT (p[k+lb]+c) 256 with h1 |h1
 ·exact h1
 ·have h2:256*256^(k+lb)<=(p[k+lb]+c)*256^(k+lb):=jl _ h1;have h3:256^(k+1)*256^lb=256*256^(k+lb):=by rw[<- zh, <- Nat.pow_succ',show k+1+lb=k+lb+1 by omega]
  omega
theorem adT (a b:ByteArray) (w:World) (ha:a.size<=1000000) (hb:b.size<=1000000):
  Calls Tryz.prog 69 #[.string a,.string b] w fun e w'=>e=.returned (.string (B (N a*N b)))/\Below w.heap.size w w':=by
 obtain⟨i0,hi,hz0,hz1,hz2⟩:=dH Tryz.infoInt;have oN:=aB (ll a w (by omega));have dN:=aB (ll b w (by omega));have sa:=aL (il a) ha;have sb:=aL (il b) hb;have AE:N (B (N a))=N a:=bG _;have AD:N (B (N b))=N b:=bG _;generalize B (N a)=x at *;generalize B (N b)=y at *;have CQ:=aB (Av x);have AP:=aB (Av y);have y6:=aB (fun (k:Nat) (V:World) (h:k<=9223372036854775807)=>Cn x k V (by omega) h);have E4:=aB (fun (k:Nat) (V:World) (h:k<=9223372036854775807)=>Cn y k V (by omega) h);have kx:=aB (fun (h:x.size<=7) (V:World)=>Dq x V h);have wW:=aB (fun (h:y.size<=7) (V:World)=>Dq y V h);rw[AE] at CQ y6 kx;rw[AD] at AP E4 wW;clear AE AD;generalize hA:N a=A at *;generalize hD:N b=D at *;clear hA hD ha hb;go_enter Tryz.func69,Tryz.ntmps69;go_wp2_with fail
 refine(oN.o).af ?_;rintro e w1 ⟨rfl,hw⟩;subst hw;go_wp2_with fail
 refine(dN.o).af ?_;rintro e w1 ⟨rfl,hw⟩;subst hw;clear oN dN;by_cases hsm:x.size+y.size<=7
 ·have hp:A*D<72057594037927936:=by
   have h1:A*D<256^x.size*256^y.size:=Fl CQ.o AP.o;rw[<- zh] at h1;exact aO h1 (iX (by decide) hsm)
  have yj:(0:Int)<=(A:Int)*(D:Int):=Int.mul_nonneg (by omega) (by omega)
  have BW:(A:Int)*(D:Int)<72057594037927936:=by
   (have h2:((A*D:Nat):Int)<72057594037927936:=by omega);rwa [jG] at h2
  have HO:=aB (fun V=>Ds ((A:Int)*(D:Int)) V (by omega) (by omega));have Xx:((A:Int)*(D:Int)).toNat=A*D:=by rw[<- jG,mE]
  rw[Xx] at HO;have ak4:=aB (fun V=>kx.o (by omega) V);have ak3:=aB (fun V=>wW.o (by omega) V);have Sj:=aB yj;have qZ:=aB BW;have hsi:(x.size:Int)+(y.size:Int)<=7:=by omega
  clear kx wW Xx hp yj BW hsm;go_wp2_with fail
  refine(ak4.o _).af ?_;rintro e w2 ⟨rfl,hw⟩;subst hw;go_wp2_with fail
  refine(ak3.o _).af ?_;rintro e w2 ⟨rfl,hw⟩;subst hw
  have hwr:IntKind.i64.wrap ((A:Int)*(D:Int))=(A:Int)*(D:Int):=by
   have h1:=Sj.o;have h2:=qZ.o;rw[gI];omega
  have O0:wrap64 ((A:Int)*(D:Int))=(A:Int)*(D:Int):=by
   have h1:=Sj.o;have h2:=qZ.o;rw[wrap64];omega
  clear Sj qZ;go_wp2_with fail
  refine(HO.o _).af ?_;rintro e w3 ⟨rfl,hb3⟩;go_wp2;go_ret;exact⟨rfl,hb3⟩
 ·clear kx wW
  go_wp2_with (first
   |(at_make;refine mR _ rfl _ _ 27 rfl w1.heap.size 3 i0 (.int .i64 0) 1 Tryz.underlying27 hi hz0 hz1 .i64 .i64 _ _ (x.size+y.size+1) rfl rfl (by go_num) (by go_num) (by rw[hz2];omega) (by unfold maxLen;omega) (aq _) ?_;intro w2 hown2 hgrow2))
  have hb2:=pS hown2;rw[DJ] at hb2;have hB2:Below w1.heap.size w1 w2:=(au _ w1).grown hgrow2 (aq _) (fun k e=>by cases e);have HI:Hid (ck w2 w1.heap.size (List.replicate (x.size+y.size+1) 0)):=hb2;clear hown2 hgrow2 hb2
  go_loopw [10] (fun iv wr=>∃(k:Nat) (p:List Nat),k<=x.size/\iv=.int .i64 k/\p.length=x.size+y.size+1/\Hid (oW p)/\Hid (nd p=A % 256^k*D)/\Hid (ck wr w1.heap.size p)/\Below w1.heap.size w1 wr)
   (fun i _=>x.size - (intOf i).toNat)
  case atStart=>exact⟨0,List.replicate (x.size+y.size+1) 0,aU _,rfl,by simp,Q9 _,(show _=_ by rw[Ow];simp[Nat.mod_one]),HI,hB2⟩
  case round=>
   obtain⟨k,p,hk,rfl,hpl,oU,HE,HR,bI⟩:=hrel;clear HI hB2;obtain⟨wo,hwo⟩:∃wo:World,wo=wr:=⟨_,rfl⟩;by_cases hlt:k<x.size
   ·have HX:=aB (fun V=>y6.o k V (by omega));have hx:A/256^k % 256<256:=gh _ (by decide);have hrow:=aB (fun (c:Nat) (q:List Nat) (hq:k+y.size<q.length)=>afU (A:=A) (D:=D) (k:=k) (lb:=y.size) (c:=c) (p:=q) hq AP.o rfl);generalize A/256^k % 256=xd at *;go_wp2_with (go_at_call 118;refine(HX.o _).af ?_;rintro e w3 ⟨rfl,hw3⟩;subst hw3)
    go_loopw [12,13] (fun cv jv wr=>∃(m c:Nat) (q:List Nat),m<=y.size/\jv=.int .i64 m/\cv=.int .i64 c/\c<=255/\q.length=x.size+y.size+1/\Hid (oW q)/\Hid (nd q+c*256^(k+m)=A % 256^k*D+xd*256^k*(D % 256^m))/\Hid (ck wr w1.heap.size q)/\Below w1.heap.size w1 wr)
     (fun _ j _=>y.size - (intOf j).toNat)
    case atStart=>
     refine⟨0,0,p,aU _,rfl,rfl,aU _,hpl,oU.o,?_,HR,bI⟩;show _=_;rw[HE.o];simp[Nat.mod_one]
    case round=>
     obtain⟨m,c,q,hm,rfl,rfl,hc,dC,SV,HEq,EG,uL⟩:=hrel;clear HR bI oU HE;by_cases Pt:m<y.size
     ·have fk:k+m<q.length:=by omega
      have HY:=aB (fun V=>E4.o m V (by omega));have Xp:D/256^m % 256<256:=gh _ (by decide);have hstep:=afT (y:=D/256^m % 256) fk HEq.o rfl;have hcell:=EG.o.cell (k+m) fk;have hqd:=SV.o q[k+m] (bM fk);have hfz:=EG.o.fz (k+m);have cO:=aB (fun z=>EG.o.set (k+m) z);generalize D/256^m % 256=yd at *;generalize q[k+m]=qk at *;have HST:=aB hstep;have hpr:xd*yd<=255*255:=jm (by omega) (by omega);have ahg:(0:Int)<=(xd:Int)*(yd:Int):=Int.mul_nonneg (by omega) (by omega)
      have ahf:(xd:Int)*(yd:Int)<=65025:=by
       (have h2:((xd*yd:Nat):Int)<=65025:=by omega);rwa [jG] at h2
      clear hstep HEq;go_wp2_with (go_at_call 118;refine(HY.o _).af ?_;rintro e w3 ⟨rfl,hw3⟩;subst hw3)
      have uj:(xd:Int)*(yd:Int)=((xd*yd:Nat):Int):=(jG _ _).symm;rw[uj];clear ahg ahf uj;generalize xd*yd=t at *;have hv:Value.int .i64 (((c:Int)+(qk:Int)+(t:Int)) % 256)=.int .i64 (((c+qk+t) % 256:Nat):Int):=int_eq (by omega);have hv2:Value.int .i64 (((c:Int)+(qk:Int)+(t:Int))/256)=.int .i64 (((c+qk+t)/256:Nat):Int):=int_eq (by omega);rw[hv,hv2];go_roundw
      case rel=>exact⟨m+1,(c+qk+t)/256,q.set (k+m) ((c+qk+t) % 256),by omega,by go_num,rfl,by omega,by rw[tY];exact dC,H8 SV.o _ _ (gh _ (by decide)),HST.o,cO.o _,uL.setCell (aq _) _⟩
      case measure=>simp[intOf];omega
     ·obtain rfl:m=y.size:=by omega
      (have fk:k+y.size<q.length:=by omega);obtain⟨jz,KP⟩:=hrow.o c q fk HEq.o;have hcell:=EG.o.cell (k+y.size) fk;have hfz:=EG.o.fz (k+y.size);have cO:=aB (fun z=>EG.o.set (k+y.size) z);generalize q[k+y.size]=qk at *;have SJ:=aB jz;clear jz HEq;go_wp2;have hv:Value.int .i64 ((qk:Int)+(c:Int))=.int .i64 ((qk+c:Nat):Int):=int_eq (by omega);rw[hv];go_roundw
      case rel=>exact⟨k+1,q.set (k+y.size) (qk+c),by omega,by go_num,by rw[tY];exact dC,H8 SV.o _ _ KP,SJ.o,cO.o _,uL.setCell (aq _) _⟩
      case measure=>simp[intOf];omega
   ·obtain rfl:k=x.size:=by omega
    have jd:=N4 w1.heap.size p wr oU.o (by omega) HR.o;rw[hpl,HE.o,iY CQ.o] at jd;have vt:=aB jd;clear jd;go_wp2_with (go_at_call 119;refine(vt.o).af ?_;rintro e w3 ⟨rfl,hb3⟩)
    go_ret;exact⟨rfl,bI.trans (hb3.af bI.size)⟩
variable {d:Nat}
def bv (d:Nat):Value:=.int .u8 (d:Int)
def Ew (w:World) (base:Nat) (v:Value) (l:List Nat):Prop:=w.ownsRow base 5 1 v l.length (l.map bv)
def qn (l:List Nat):Nat:=l.foldl (fun n d=>n*256+d) 0
theorem Vd (l:List Nat) (d:Nat):qn (l++[d])=qn l*256+d:=by simp[qn]
theorem ajq {l:List Nat} (h:oW l) (hd:d<256):oW (l++[d]):=fun x hx=>by
 rcases cI.1 hx with h1 |h1
 ·exact h x h1
 ·simp at h1;omega
theorem akM (l:List Nat):oW l ->N (strOfNums (l.map Int.ofNat))=qn l:=by
 induction l using Dm with
 |h0=>intro _;rfl
 |h1 l d ih=>
  intro h;have h1:=ih fun x hx=>h x (List.mem_append_left _ hx);have h2:=h d (List.mem_append_right _ (eD.2 rfl));rw[N,C1] at h1⊢;rw[dL,dL,fQ,k7,fQ,k7,vY,h1,Vd];have:(UInt8.ofNat (Int.ofNat d).toNat).toNat=d:=by simp;omega
  rw[this]
theorem ajo {P:Nat} (hD:0<D):(P*256+c)/D=P/D*256+(P % D*256+c)/D/\(P*256+c) % D=(P % D*256+c) % D:=by
 have e:P*256+c=P % D*256+c+P/D*256*D:=by
  have:=Nat.div_add_mod P D;have f:P/D*256*D=D*(P/D)*256:=by rw[Nat.mul_right_comm,cV (P/D) D]
  omega
 rw[e,MN _ _ hD,MM];exact⟨zj _ _,rfl⟩
theorem akO (s x:ByteArray) (k:Nat) (h:k<x.size):N (s++x.extract k (k+1))=N s*256+x[k].toNat:=by
 have e:(x.extract k (k+1)).data.toList=[x[k]]:=by
  rw[ByteArray.data_extract,Array.toList_extract,List.extract_eq_take_drop,show k+1 - k=1 by omega,mD (by rw[wP];exact h)];rfl
 rw[N,ByteArray.data_append,Array.toList_append,e,vY];rfl
theorem afj (x:ByteArray) (k:Nat) (h:k<x.size):(x.extract k (k+1)).size=1:=by
 rw[ByteArray.size_extract];omega
theorem ad2 (a b:ByteArray) (w:World) (ha:a.size<=1000000) (hb:b.size<=1000000) (h:N b≠0) (h1:(B (N a)).size<=7) (h2:(B (N b)).size<=7):
  Calls Tryz.prog 117 #[.string a,.string b] w fun e w'=>e=.returned (.tuple #[.string (B (N a/N b)),.string (B (N a % N b)),.bool true])/\Below w.heap.size w w':=by
 have oN:=aB (ll a w (by omega));have dN:=aB (ll b w (by omega));have AE:N (B (N a))=N a:=bG _;have AD:N (B (N b))=N b:=bG _;have hne:=zb h;have hA:=Uu _ h1;have hD:=Uu _ h2;generalize B (N a)=x at *;generalize B (N b)=y at *;have kx:=aB (fun (V:World)=>Dq x V h1);have wW:=aB (fun (V:World)=>Dq y V h2);rw[AE] at kx;rw[AD] at wW;clear AE AD;generalize hA':N a=A at *;generalize Ae:N b=D at *;clear hA' Ae ha hb h1 h2
 have qu:(A:Int)/(D:Int)<=A:=by
  rw[<- vL];have:=vI A D;omega
 have pM:0<=(A:Int)/(D:Int):=Int.ediv_nonneg (by omega) (by omega)
 have hr1:(A:Int) % (D:Int)<=A:=by
  rw[<- rA];have:=Nat.mod_le A D;omega
 have Gr:0<=(A:Int) % (D:Int):=Int.emod_nonneg _ (by omega);have hq:=fun V=>Ds ((A:Int)/(D:Int)) V (by omega) (by omega);have hr:=fun V=>Ds ((A:Int) % (D:Int)) V (by omega) (by omega);rw[<- vL,mE,vL] at hq;rw[<- rA,mE,rA] at hr;have HQ:=aB hq;have HR:=aB hr;clear hq hr;have Lh:0<D:=jZ h;go_enter Tryz.func117,Tryz.ntmps117;go_wp2_with fail
 refine(oN.o).af ?_;rintro e w1 ⟨rfl,hw⟩;subst hw;go_wp2_with fail
 refine(dN.o).af ?_;rintro e w1 ⟨rfl,hw⟩;subst hw;go_wp2_with fail
 refine(kx.o _).af ?_;rintro e w2 ⟨rfl,hw⟩;subst hw;go_wp2_with fail
 refine(wW.o _).af ?_;rintro e w2 ⟨rfl,hw⟩;subst hw;go_upto_region 8 with fail
 have hz:¬(D:Int)=0:=by omega
 have hw1:IntKind.i64.wrap ((A:Int)/(D:Int))=(A:Int)/(D:Int):=by rw[gI];omega
 have hw2:IntKind.i64.wrap ((A:Int) % (D:Int))=(A:Int) % (D:Int):=by rw[gI];omega
 have hB0:=(au w2.heap.size w2).drew
 go_region_held3 (fun V=>Hid (Below w2.heap.size w2 V))
  (first |exact dK |exact bL |exact hB0)
  (first
   |(have Y0:=bL;go_at_call 62;refine(HR.o _).af ?_;rintro e w4 ⟨rfl,hb4⟩;have dK:=Y0.trans (hb4.af Y0.size))
   |(go_at_call 62;refine(HQ.o _).af ?_;rintro e w3 ⟨rfl,hb3⟩;have bL:=hB0.trans (hb3.af hB0.size)))
 go_wp2;go_ret3
 exact⟨rfl,dK⟩
theorem Ew.cases {v:Value} {l:List Nat} (h:Ew w base v l):(v=.slice none 0 0/\l=[])∨∃g cap,v=.slice (some ⟨g,0,none⟩) l.length cap/\∀j,j<l.length ->w.cell? ⟨g,j,none⟩=some (.int .u8 (l[j]?.getD 0:Nat)):=by
 rcases h.2 with ⟨hv,hn⟩ |⟨g,cap,cur,hv,r⟩
 ·exact .inl ⟨hv,Te hn⟩
 ·subst hv;refine .inr ⟨g,cap,rfl,fun j hj=>?_⟩;rw[World.ownsRow.cellAt h j (by omega),kD,a8 hj];rfl
theorem aat {R:Nat} {y:ByteArray} (hy:N y=D) (hR:R<256*D) (hs:y.size<=500000) (d:Nat):(B (R - d*D)).size<=1000000:=by
 have h1:=i6 (aL (Nat.sub_le R (d*D)) (xG hR));have h2:=o6 256 D;have h3:=il y;rw[hy] at h3;have h4:(B 256).size<=2:=by rw[kA];exact nM 2 256 (by decide)
 omega
theorem ajp {R:Nat} (hD:0<D) (h1:d*D<=R) (h2:¬D<=R - d*D):R/D=d/\R % D=R - d*D:=by
 have e:R=(R - d*D)+d*D:=by omega
 constructor
 ·rw[e,MN _ _ hD,vJ (by omega)];omega
 ·conv=>lhs;rw[e]
  rw[MM,iY (by omega)]
theorem ad3 (a b:ByteArray) (w:World) (ha:a.size<=500000) (hb:b.size<=500000) (h:N b≠0) (Yg:¬((B (N a)).size<=7/\(B (N b)).size<=7)):
  Calls Tryz.prog 117 #[.string a,.string b] w fun e w'=>e=.returned (.tuple #[.string (B (N a/N b)),.string (B (N a % N b)),.bool true])/\Below w.heap.size w w':=by
 obtain⟨i0,hi,hz0,hz1,hz2⟩:=dH Tryz.infoByte;have oN:=aB (ll a w (by omega));have dN:=aB (ll b w (by omega));have AE:N (B (N a))=N a:=bG _;have AD:N (B (N b))=N b:=bG _;have hne:=zb h;have sa:=aL (il a) ha;have sb:=aL (il b) hb;generalize B (N a)=x at *;generalize hy:B (N b)=y at *;have Ey:=aB AD;have HX:=aB (Ws x);rw[AE] at HX;have Lh:0<N b:=jZ h;clear AE AD;have kx:=aB (fun (V:World)=>if h7:x.size<=7 then Exists.intro (p:=fun r:Value×Value=>r.2=.bool (decide (x.size<=7))/\Calls Tryz.prog 120 #[.string x] V fun e w'=>e=.returned (.tuple #[r.1,r.2])/\w'=V) (.int .i64 (N x:Nat),.bool true) ⟨by simp[h7],Dq x V h7⟩ else⟨(.int .i64 0,.bool false),by simp[h7],Uw x V (by omega) (by omega)⟩);have wW:=aB (fun (V:World)=>if h7:y.size<=7 then Exists.intro (p:=fun r:Value×Value=>r.2=.bool (decide (y.size<=7))/\Calls Tryz.prog 120 #[.string y] V fun e w'=>e=.returned (.tuple #[r.1,r.2])/\w'=V) (.int .i64 (N y:Nat),.bool true) ⟨by simp[h7],Dq y V h7⟩ else⟨(.int .i64 0,.bool false),by simp[h7],Uw y V (by omega) (by omega)⟩);generalize hA':N a=A at *;generalize Ae:N b=D at *;clear hA' Ae ha hb hy;go_enter Tryz.func117,Tryz.ntmps117;go_wp2_with fail
 refine(oN.o).af ?_;rintro e w1 ⟨rfl,hw⟩;subst hw;go_wp2_with fail
 refine(dN.o).af ?_;rintro e w1 ⟨rfl,hw⟩;subst hw;clear oN dN;obtain⟨⟨p1,p2⟩,yh,I9⟩:=kx.o w1;obtain⟨⟨q1,q2⟩,oB,vF⟩:=wW.o w1;simp only at yh oB;subst yh oB;have abu:=aB I9;have abr:=aB vF;clear I9 vF kx wW
 have ahW:(decide (x.size<=7)=false)∨(decide (x.size<=7)=true/\decide (y.size<=7)=false):=by
  by_cases h7:x.size<=7
  ·exact .inr ⟨cS h7,cD fun h8=>Yg ⟨h7,h8⟩⟩
  ·exact .inl (cD h7)
 clear Yg;generalize decide (x.size<=7)=t1 at *;generalize decide (y.size<=7)=t2 at *;go_wp2_with fail
 refine(abu.o).af ?_;rintro e w2 ⟨rfl,hw⟩;subst hw;go_wp2_with fail
 refine(abr.o).af ?_;rintro e w2 ⟨rfl,hw⟩;subst hw;clear abu abr;rcases ahW with rfl |⟨rfl,rfl⟩
 all_goals
  go_wp2
  go_loopw [11,12,13] (fun qv rv iv wr=>∃(k:Nat) (ql:List Nat),k<=x.size/\iv=.int .i64 k/\rv=.string (B (nb (x.data.toList.take k) % D))/\ql.length=k/\Hid (oW ql)/\Hid (qn ql=nb (x.data.toList.take k)/D)/\Hid (Ew wr w2.heap.size qv ql)/\Below w2.heap.size w2 wr)
   (fun _ _ i _=>x.size - (intOf i).toNat)
  case atStart=>exact⟨0,[],aU _,rfl,(by rw[Fo,Bx,Nat.zero_mod,xB]),rfl,(fun x hx=>by cases hx),(show _=_ by rw[Fo,Bx,Nat.zero_div];rfl),World.ownsRow_nil _ _ _ _,au _ _⟩
  case round=>
   obtain⟨k,ql,hk,rfl,rfl,dC,oU,HE,HH,bI⟩:=hrel;by_cases hlt:k<x.size
   ·have hsz:=afj x k hlt;have dW:=akO (B (nb (x.data.toList.take k) % D)) x k hlt;rw[bG] at dW;have hst:=Wq x k hlt;obtain⟨PY,PX⟩:=ajo (P:=nb (x.data.toList.take k)) (D:=D) (c:=x[k].toNat) Lh;rw[<- hst] at PY PX;have hrl:nb (x.data.toList.take k) % D<D:=gh _ Lh;have hcl:=x[k].toNat_lt;have hsr:(B (nb (x.data.toList.take k) % D)).size<=500000:=aL (i6 (xG hrl)) (by have:=il y;rw[Ey.o] at this;omega);(have tK:Hid (nb (x.data.toList.take (k+1))/D=qn ql*256+(nb (x.data.toList.take k) % D*256+x[k].toNat)/D):=by show _=_;rw[PY,HE.o]);have qX:=aB PX;(have hR:nb (x.data.toList.take k) % D*256+x[k].toNat<256*D:=by omega);clear hst PY PX HE hcl hrl;generalize nb (x.data.toList.take k) % D*256+x[k].toNat=R at *;generalize B (nb (x.data.toList.take k) % D)=rs at *;(have ahU:(rs++x.extract k (k+1)).size<=1000001:=by rw[ByteArray.size_append,hsz];omega);have HT:=aB (fun V=>ll (rs++x.extract k (k+1)) V (by omega));rw[dW] at HT;clear dW ahU
    have HSY:=aB (fun (d:Nat) (V:World) (h1:d*D<=R) (h2:D<=R - d*D)=>by
     have hs:=NI (B (R - d*D)) y V (aat Ey.o hR sb d) (by omega) (by rw[bG,Ey.o];exact h2);rw[bG,Ey.o,show R - d*D - D=R - (d+1)*D by rw[eL,jF];omega] at hs;exact hs)
    have yN:=aB (fun (d:Nat) (V:World) (h2:¬D<=R - d*D)=>UX (B (R - d*D)) y V (aat Ey.o hR sb d) (by omega) (by rw[bG,Ey.o];omega));go_wp2_with (go_at_call 116;refine(HT.o _).af ?_;rintro e w3 ⟨rfl,hw3⟩;subst hw3)
    clear HT;go_loopw [12,14] (fun rv dv wi=>∃d:Nat,d*D<=R/\rv=.string (B (R - d*D))/\dv=.int .i64 d/\Below w3.heap.size w3 wi) (fun _ dv _=>256 - (intOf dv).toNat)
    case atStart=>exact⟨0,by omega,by rw[mC,Nat.sub_zero],rfl,au _ _⟩
    case round=>
     obtain⟨d,hd,rfl,rfl,Hs⟩:=hrel
     have ahP:d<256:=by
      rcases cT d 256 with h1 |h1
      ·exact h1
      ·have:=jl D h1;omega
     by_cases hle:D<=R - d*D
     ·have pL:(d+1)*D<=R:=by rw[eL,jF];omega
      have HC:=aB (fun V=>HSY.o d V hd hle);clear hd hle;go_wp2_with fail
      refine(HC.o _).af ?_;rintro e w4 ⟨rfl,hb4⟩;go_wp2;go_roundw
      case rel=>exact⟨d+1,pL,rfl,by go_num,Hs.trans (hb4.af Hs.size)⟩
      case measure=>simp[intOf];omega
     ·have HC:=aB (fun V=>yN.o d V hle);obtain⟨hq,hr⟩:=ajp Lh hd hle;(have r8:Hid (qn (ql++[d])=nb (x.data.toList.take (k+1))/D):=by show _=_;rw[Vd,tK.o,hq]);(have eJ:Hid (R - d*D=nb (x.data.toList.take (k+1)) % D):=by show _=_;rw[qX.o,hr]);clear hq hr hd hle HSY yN qX tK;go_wp2_with fail
      refine(HC.o _).af ?_;rintro e w4 ⟨rfl,hb4⟩;have HH4:Ew w4 w2.heap.size _ ql:=Kn (Kn HH.o Hs (aq _)) hb4 (aq _);have dK:=(bI.trans (Hs.af bI.size)).trans (hb4.af (bI.trans (Hs.af bI.size)).size);have jN:=dK.size;rw[eJ.o];clear eJ HC;go_wp2_with (at_builtin;refine AV _ rfl _ _ 152 rfl w2.heap.size 5 i0 (.int .u8 0) 1 1 Tryz.underlying152 hi hz0 hz1 hz2 rfl (by decide) _ _ _ rfl (E9 HH4 _) ⟨w4.heap.size,0,none⟩ 1 1 [.int .u8 (d:Nat)] rfl rfl (cell_one_new _ _ _) (by simp[Value.oneCell']) (by unfold maxLen;omega) (by omega) (by simp;omega) ?_;intro v' w5 ahk ahC _)
      have Cl:Below w2.heap.size w2 w5:=(dK.alloc dK.size _).grown ahC (by simp;omega) (fun k hk=>(World.ownsRow.lt HH4 k hk).1);go_wp2;go_roundw
      case rel=>
       refine⟨k+1,ql++[d],by omega,by go_num,rfl,by rw[cK,dC];rfl,ajq oU.o ahP,r8.o,?_,Cl⟩;(have e:(ql++[d]).length=ql.length+1:=by simp);show Ew _ _ _ _;rw[Ew,e];simpa [bv] using ahk
      case measure=>simp[intOf];omega
   ·obtain rfl:k=x.size:=by omega
    rw[HX.o] at HE⊢;have Gw:=akM ql oU.o;rw[HE.o] at Gw;rcases HH.o.cases with ⟨rfl,rfl⟩ |⟨g,cap,rfl,hcs⟩
    ·have HT:=aB (fun V=>ll ⟨#[]⟩ V (by show 0<=_;omega));have X6:N ⟨#[]⟩=A/D:=Gw;rw[X6] at HT;have wJ:=run_convert_bytes_nil (P:=Tryz.prog) wr 152 5 Tryz.underlying152 Tryz.underlying5 0 0 30 Tryz.underlying30;rw[show ByteArray.empty=⟨#[]⟩ from rfl] at wJ;clear Gw X6 HH oU HE dC;go_wp2_with (go_at_call 116;refine(HT.o _).af ?_;rintro e w3 ⟨rfl,hw3⟩;subst hw3)
     go_ret3
     exact⟨rfl,bI⟩
    ·have hmap:(ql.map Int.ofNat).length=ql.length:=by simp
     have hcm:∀i,i<ql.length ->wr.cell? ⟨g,0+i,none⟩=some (.int .u8 ((ql.map Int.ofNat).getD i 0)):=fun i hi=>by
      rw[bD,hcs i hi];simp[bU,a8 hi]
     have wJ:=C2 (P:=Tryz.prog) wr 152 5 Tryz.underlying152 Tryz.underlying5 g 0 ql.length cap (ql.map Int.ofNat) hmap hcm 30 Tryz.underlying30
     have hsz:(strOfNums (ql.map Int.ofNat)).size<=140737488355328:=by
      rw[strOfNums_size,hmap];omega
     clear hmap dC;have HT:=aB (fun V=>ll (strOfNums (ql.map Int.ofNat)) V hsz);rw[Gw] at HT;clear Gw HH oU HE hcs hcm;go_wp2_with (go_at_call 116;refine(HT.o _).af ?_;rintro e w3 ⟨rfl,hw3⟩;subst hw3)
     go_ret3
     exact⟨rfl,bI⟩
theorem U5 (a b:ByteArray) (w:World) (ha:a.size<=500000) (hb:b.size<=500000) (h:N b≠0):
  Calls Tryz.prog 117 #[.string a,.string b] w fun e w'=>e=.returned (.tuple #[.string (B (N a/N b)),.string (B (N a % N b)),.bool true])/\Below w.heap.size w w':=by
 by_cases hs:(B (N a)).size<=7/\(B (N b)).size<=7
 ·exact ad2 a b w (by omega) (by omega) h hs.1 hs.2
 ·exact ad3 a b w ha hb h hs
theorem NJ (m n:Nat) (w:World) (hm:(B m).size<=500000) (hn:(B n).size<=500000) (h:n≠0):
  Calls Tryz.prog 117 #[.string (B m),.string (B n)] w fun e w'=>e=.returned (.tuple #[.string (B (m/n)),.string (B (m % n)),.bool true])/\Below w.heap.size w w':=by
 have:=U5 (B m) (B n) w hm hn (by rw[bG];exact h);rwa [bG,bG] at this
theorem adZ (a b:ByteArray) (w:World) (ha:a.size<=500000) (hb:b.size<=500000):
  Calls Tryz.prog 121 #[.string a,.string b] w fun e w'=>e=.returned (.string (B (Nat.gcd (N a) (N b))))/\Below w.heap.size w w':=by
 have oN:=aB (ll a w (by omega));have dN:=aB (ll b w (by omega));have sa:=aL (il a) ha;have sb:=aL (il b) hb;generalize hA':N a=A at *;generalize Ae:N b=D at *;clear hA' Ae ha hb;go_enter Tryz.func121,Tryz.ntmps121;go_wp2_with fail
 refine(oN.o).af ?_;rintro e w1 ⟨rfl,hw⟩;subst hw;go_wp2_with fail
 refine(dN.o).af ?_;rintro e w1 ⟨rfl,hw⟩;subst hw;clear oN dN;go_wp2;go_loopg [0,1] D (fun r vx vy wr=>∃m:Nat,vx=.string (B m)/\vy=.string (B r)/\(B m).size<=500000/\(B r).size<=500000/\Hid (Nat.gcd m r=Nat.gcd A D)/\Below w1.heap.size w1 wr)
 case atStart=>exact⟨A,rfl,rfl,sa,sb,rfl,au _ _⟩
 case round=>
  obtain⟨m,rfl,rfl,hm,hr,HG,bI⟩:=hrel;by_cases h0:gk=0
  ·subst h0;rw[xB];(have HE:Hid (m=Nat.gcd A D):=by show _=_;rw[<- HG.o,Nat.gcd_zero_right]);go_wp2;go_ret;exact⟨by rw[<- HE.o];rfl,bI⟩
  ·have hne:=zb h0;have HD:=aB (fun V=>NJ m gk V hm hr h0);have hmod:=gh m (jZ h0);have hsz:=aL (i6 (xG hmod)) hr;(have sk:Hid (Nat.gcd gk (m % gk)=Nat.gcd A D):=by show _=_;rw[<- HG.o,Fm m gk,Nat.gcd_rec gk m,Fm]);go_wp2_with fail
   refine(HD.o _).af ?_;rintro e w2 ⟨rfl,hb2⟩;go_wp2;go_roundg (m % gk)
   case measure=>exact hmod
   case rel=>exact⟨gk,rfl,rfl,hr,hsz,sk.o,bI.trans (hb2.af bI.size)⟩
variable {neg:Bool} {den num:ByteArray}
def sg (neg:Bool) (n:Nat):Int:=if neg then -(n:Int) else(n:Int)
theorem JV (neg:Bool) (n:Nat):(sg neg n).natAbs=n:=by cases neg<;>simp[sg]
theorem UA (neg:Bool):sg neg 0=0:=by cases neg<;>rfl
theorem adj (neg:Bool) (n:Nat):sg (!neg) n= -sg neg n:=by cases neg<;>simp[sg]
theorem adk (a b:Bool) (m n:Nat):sg (a !=b) (m*n)=sg a m*sg b n:=by cases a<;>cases b<;>simp[sg,Int.neg_mul,Int.mul_neg]
theorem UD (a:Bool) (m n:Nat):sg a m*(n:Int)=sg a (m*n):=by cases a<;>simp[sg,Int.neg_mul]
theorem adl:sg neg n=0↔n=0:=by cases neg<;>simp[sg]
theorem adm (neg:Bool) (n g:Nat) (h:g∣n):sg neg n/(g:Int)=sg neg (n/g):=by
 cases neg
 ·simp[sg]
 ·simp only[sg,if_true];rw[Int.neg_ediv_of_dvd (Int.natCast_dvd_natCast.2 h)];simp
theorem Ky {n:Int} (hd:d≠0):mkRat n d=Rat.normalize n d hd:=by rw[mkRat,dif_neg hd]
theorem WD {n:Int} (hd:d≠0):(mkRat n d).num=n/(Nat.gcd n.natAbs d:Int):=by rw[Ky hd,Rat.normalize_eq]
theorem age {n:Int} (hd:d≠0):(mkRat n d).den=d/Nat.gcd n.natAbs d:=by rw[Ky hd,Rat.normalize_eq]
theorem agd (neg:Bool) (a d:Nat) (ha:a≠0) (hd:d≠0):decide ((mkRat (sg neg a) d).num<0)=neg/\(mkRat (sg neg a) d).num.natAbs=a/Nat.gcd a d/\(mkRat (sg neg a) d).den=d/Nat.gcd a d:=by
 have hg:Nat.gcd a d∣a:=Nat.gcd_dvd_left _ _;have gA:0<Nat.gcd a d:=Nat.gcd_pos_of_pos_left _ (jZ ha);rw[WD hd,age hd,JV,adm neg a _ hg,JV];refine⟨?_,rfl,rfl⟩;have hq:0<a/Nat.gcd a d:=Nat.div_pos (Nat.le_of_dvd (jZ ha) hg) gA;cases neg
 ·simp only[sg];simp;omega
 ·simp only[sg];simp;omega
def val (neg:Bool) (num den:ByteArray):Rat:=mkRat (sg neg (N num)) (N den)
theorem Ts (h:N num=0):val neg num den=0:=by rw[val,h,UA,Fe]
theorem FA (h:N den=0):val neg num den=0:=by rw[val,h,Rat.mkRat_zero]
theorem Fz:val neg num den=0↔N num=0∨N den=0:=by
 constructor
 ·intro h;by_cases hd:N den=0
  ·exact .inr hd
  ·rw[val,Rat.mkRat_eq_zero hd,adl] at h;exact .inl h
 ·rintro(h |h)
  ·exact Ts h
  ·exact FA h
theorem Tt (neg:Bool) (num den:ByteArray):val (!neg) num den= -val neg num den:=by rw[val,val,adj,Rat.neg_mkRat]
theorem val_mul (a b:Bool) (x y u v:ByteArray):mkRat (sg (a !=b) (N x*N u)) (N y*N v)=val a x y*val b u v:=by rw[val,val,Rat.mkRat_mul_mkRat,adk]
theorem val_add (a b:Bool) (x y u v:ByteArray) (hy:N y≠0) (hv:N v≠0):mkRat (sg a (N x*N v)+sg b (N u*N y)) (N y*N v)=val a x y+val b u v:=by
 rw[val,val,Rat.mkRat_add_mkRat _ _ hy hv,UD,UD]
theorem M7 (neg:Bool) (x y:ByteArray) (hx:N x≠0) (hy:N y≠0):val neg y x=(val neg x y)⁻¹:=by
 have h:val neg x y*val neg y x=1:=by
  rw[<- val_mul];have:sg (neg !=neg) (N x*N y)=((N x*N y:Nat):Int)*1:=by cases neg<;>simp[sg]
  rw[this,cV (N y) (N x), <- nW (N x*N y),jG (N x*N y) 1,Int.natCast_one,Int.mul_one,Rat.mkRat_mul_left (AZ hx hy)];rfl
 grind
def C (q:Rat):Value:=.agg #[.bool (decide (q.num<0)),.string (B q.num.natAbs),.string (B q.den)]
theorem AR:C 0=.agg #[.bool false,.string ⟨#[]⟩,.string (B 1)]:=by
 show Value.agg #[_,.string (B 0),.string (B 1)]=_;rw[xB];rfl
theorem aca (q:Rat):val (decide (q.num<0)) (B q.num.natAbs) (B q.den)=q:=by
 rw[val,bG,bG]
 have:sg (decide (q.num<0)) q.num.natAbs=q.num:=by
  by_cases h:q.num<0
  ·simp[sg,h];omega
  ·simp[sg,h];omega
 rw[this,Rat.mkRat_self]
theorem MD (neg:Bool) (a d:Nat) (ha:a≠0) (hd:d≠0):C (mkRat (sg neg a) d)=.agg #[.bool neg,.string (B (a/Nat.gcd a d)),.string (B (d/Nat.gcd a d))]:=by
 obtain⟨h1,h2,h3⟩:=agd neg a d ha hd;rw[C,h1,h2,h3]
def qw (q:Rat):Nat:=(B q.num.natAbs).size+(B q.den).size
theorem NQ {n:Int} (hd:d≠0):qw (Rat.normalize n d hd)<=(B n.natAbs).size+(B d).size:=by
 rw[Rat.normalize_eq]
 have h1:(n/(Nat.gcd n.natAbs d:Int)).natAbs<=n.natAbs:=by
  have hg:((Nat.gcd n.natAbs d:Nat):Int)∣n:=by have h:=Int.natCast_dvd_natCast.2 (Nat.gcd_dvd_left n.natAbs d);rwa [Int.dvd_natAbs] at h
  rw[Int.natAbs_ediv_of_dvd hg];exact vI _ _
 have s1:=i6 h1;have s2:=i6 (vI d (Nat.gcd n.natAbs d));simp only[qw];omega
theorem Vb:qw 0<=1:=by
 show (B 0).size+(B 1).size<=1;rw[xB];have:=ME;have:(⟨#[]⟩:ByteArray).size=0:=rfl;omega
theorem Bl (neg:Bool) (num den:ByteArray):qw (val neg num den)<=num.size+den.size+1:=by
 by_cases hd:N den=0
 ·rw[FA hd];have:=Vb;omega
 ·rw[val,Ky hd];have:=NQ (n:=sg neg (N num)) hd;rw[JV] at this;have:=il num;have:=il den;omega
theorem NS (p q:Rat):qw (p*q)<=qw p+qw q:=by
 rw[Rat.mul_def];refine aL (NQ _) ?_;rw[Int.natAbs_mul];have:=o6 p.num.natAbs q.num.natAbs;have:=o6 p.den q.den;simp only[qw];omega
def fB (p q:Rat):Int:=if p<q then -1 else if p=q then 0 else 1
theorem agc (neg:Bool) (n d:Nat) (hd:d≠0) (hn:n≠0):(neg=true ->mkRat (sg neg n) d<0)/\(neg=false ->0<mkRat (sg neg n) d):=by
 have hp:∀m:Nat,m≠0 ->0<mkRat (m:Int) d:=fun m hm=>by
  have h1:0<=mkRat (m:Int) d:=by
   rw[<- Rat.num_nonneg,WD hd];exact Int.ediv_nonneg (by omega) (by omega)
  have h2:mkRat (m:Int) d≠0:=by rw[Ne,Rat.mkRat_eq_zero hd];omega
  grind
 constructor
 ·rintro rfl;have h:=hp n hn;have e:mkRat (sg true n) d= -mkRat (n:Int) d:=by rw[Rat.neg_mkRat];rfl
  rw[e];grind
 ·rintro rfl;exact hp n hn
variable {fn:Func}
theorem uh (a:ByteArray) (w:World):
  Calls Tryz.prog 108 #[.string a] w fun e w'=>e=.returned (.bool (decide (N a=0)))/\w'=w:=by
 have hc:(iG (N a) (N ⟨#[]⟩)==0)=decide (N a=0):=by
  rw[aa8,iG];by_cases h:N a=0
  ·simp[h]
  ·simp[h]
 have HC:=aB hc;clear hc;go_enter Tryz.func108,Tryz.ntmps108;go_wp2_with fail
 refine(S6 a ⟨#[]⟩ _).af ?_;rintro e w1 ⟨rfl,hw⟩;subst hw;go_wp2;go_ret;exact⟨by rw[<- HC.o];rfl,rfl⟩
def aF (w:World) (g:Nat) (neg:Bool) (num den:ByteArray):Prop:=w.heap[g]? =some (.cells #[.bool neg,.string num,.string den] 32 (0,0))
theorem aF.c0 (h:aF w g neg num den):w.cell? ⟨g,0,none⟩=some (.bool neg):=by rw[bX w g 0 _ _ (0,0) h];rfl
theorem aF.c1 (h:aF w g neg num den):w.cell? ⟨g,1,none⟩=some (.string num):=by rw[bX w g 1 _ _ (0,0) h];rfl
theorem aF.c2 (h:aF w g neg num den):w.cell? ⟨g,2,none⟩=some (.string den):=by rw[bX w g 2 _ _ (0,0) h];rfl
theorem aF.fz (h:aF w g neg num den) (j:Nat):w.frozen? ⟨g,j,none⟩=false:=kZ w g j _ _ h
theorem aF.lt (h:aF w g neg num den):g<w.heap.size:=(dm.1 h).1
theorem aF.of_block (h:aF w g neg num den) (e:w'.heap[g]? =w.heap[g]?):aF w' g neg num den:=e.trans h
theorem aF.aa {B:Nat} (h:aF w g neg num den) (hb:Below B w w') (hB:g<B):aF w' g neg num den:=h.of_block (hb.block g hB)
theorem aF.new (w:World) (neg:Bool) (num den:ByteArray):aF (w.alloc (.cells #[.bool neg,.string num,.string den] 32)) w.heap.size neg num den:=by
 exact im _ _
theorem aF.alloc (h:aF w g neg num den) (o:Obj):aF (w.alloc o) g neg num den:=h.of_block (rB w o g h.lt)
theorem aF.drew (h:aF w g neg num den):aF w.drew g neg num den:=h
theorem aF.facts (h:aF w g neg num den):w.cell? ⟨g,0,none⟩=some (.bool neg)/\w.cell? ⟨g,1,none⟩=some (.string num)/\w.cell? ⟨g,2,none⟩=some (.string den)/\w.frozen? ⟨g,0,none⟩=false/\w.frozen? ⟨g,1,none⟩=false/\w.frozen? ⟨g,2,none⟩=false:=
 ⟨h.c0,h.c1,h.c2,h.fz 0,h.fz 1,h.fz 2⟩
theorem aF.put (h:aF w g neg num den) (n:Bool) (x y:ByteArray):aF (((w.setCell ⟨g,0,none⟩ (.bool n)).setCell ⟨g,1,none⟩ (.string x)).setCell ⟨g,2,none⟩ (.string y)) g n x y:=by
 have h1:=jY w g 0 _ _ (.bool n) h;have h2:=jY _ g 1 _ _ (.string x) h1;have h3:=jY _ g 2 _ _ (.string y) h2;exact h3
theorem aF.far (h:aF w g neg num den) (hg:g≠g') (u:Value):aF (w.setCell ⟨g',j,none⟩ u) g neg num den:=h.of_block (jq w _ u g hg)
theorem cQ {B:Nat} {a:World} (h:Below B a w) (hg:B<=g) (u v x:Value):Below B a (((w.setCell ⟨g,0,none⟩ u).setCell ⟨g,1,none⟩ v).setCell ⟨g,2,none⟩ x):=
 ((h.setCell hg u).setCell hg v).setCell hg x
theorem aF.result (h:aF w g neg num den) {p:Tmp} (hr:fn.results= #[.cell p 32]) (tmps:Array Value) (hp:tmps.getD p undef=.pointer (some ⟨g,0,none⟩)):
  (results fn tmps).run Tryz.prog w=.ok (.agg #[.bool neg,.string num,.string den]) w:=
 C3 hr tmps w g _ _ _ _ hp h Tryz.underlying32 rfl (by kernel_rfl)
theorem Oo (w:World):
  Calls Tryz.prog 140 #[] w fun e w'=>e=.returned (C 0)/\Below w.heap.size w w':=by
 go_enter Tryz.func140,Tryz.ntmps140;have bF:=aF.new w false ⟨#[]⟩ ⟨#[]⟩;have hB0:Below w.heap.size w (w.alloc (.cells #[.bool false,.string ⟨#[]⟩,.string ⟨#[]⟩] 32)):=(au _ w).alloc (aq _) _;go_wp2_with fail
 refine(aa7 1 _ (by omega) (by omega)).af ?_;rintro e w1 ⟨rfl,hb1⟩;have hB1:Below w.heap.size w w1:=hB0.trans (hb1.af hB0.size);have hx1:=bF.aa hb1 bF.lt;obtain⟨k0,k1,k2,f0,f1,f2⟩:=hx1.facts;clear bF hB0;go_wp2;refine bS ((hx1.put _ _ _).result rfl _ rfl) rfl ?_;exact⟨by rw[AR],cQ hB1 (aq _) _ _ _⟩
abbrev FC (n:Bool) (x y:ByteArray):Obj:=.cells #[.bool n,.string x,.string y] 32
theorem aF.at (hg:w.heap.size=g) (n:Bool) (x y:ByteArray):aF (w.alloc (FC n x y)) g n x y:=by
 subst hg;exact aF.new w n x y
theorem afc (n:Bool) (x y:ByteArray) (w:World):
  Calls Tryz.prog 107 #[.agg #[.bool n,.string x,.string y]] w fun e w'=>e=.returned (.agg #[.bool (!n),.string x,.string y])/\Below w.heap.size w w':=by
 go_enter Tryz.func107,Tryz.ntmps107;go_wp2;refine bS ((aF.at (w:=w.alloc (FC n x y)) (g:=w.heap.size+1) (by simp) (!n) x y).result rfl _ rfl) rfl ?_;exact⟨rfl,((au _ w).alloc (aq _) _).alloc (by simp) _⟩
theorem ajj (n:Bool) (x y:ByteArray) (w:World) (h:N y=0):
  Calls Tryz.prog 162 #[.agg #[.bool n,.string x,.string y]] w fun e w'=>e=.returned (C 0)/\Below w.heap.size w w':=by
 have hN:=fun V=>uh y V;simp only[h,decide_true] at hN;have HN:=aB hN;clear hN;go_enter Tryz.func162,Tryz.ntmps162;have bF:=aF.at (w:=w.alloc (FC n x y)) (g:=w.heap.size+1) (by simp) false ⟨#[]⟩ ⟨#[]⟩;have hB0:Below w.heap.size w ((w.alloc (FC n x y)).alloc (FC false ⟨#[]⟩ ⟨#[]⟩)):=((au _ w).alloc (aq _) _).alloc (by simp) _;go_wp2_with fail
 refine(HN.o _).af ?_;rintro e w1 ⟨rfl,hw⟩;subst hw;go_wp2_with fail
 refine(Oo _).af ?_;rintro e w1 ⟨rfl,hb1⟩;have hx1:=bF.aa hb1 bF.lt;have hB1:Below w.heap.size w w1:=hB0.trans (hb1.af hB0.size);obtain⟨k0,k1,k2,f0,f1,f2⟩:=hx1.facts;clear bF hB0;rw[AR];go_wp2;refine bS ((hx1.put _ _ _).result rfl _ rfl) rfl ?_;exact⟨by rw[AR],cQ hB1 (by omega) _ _ _⟩
theorem aji (n:Bool) (x y:ByteArray) (w:World) (h:N y≠0):
  Calls Tryz.prog 162 #[.agg #[.bool n,.string x,.string y]] w fun e w'=>e=.returned (.agg #[.bool n,.string x,.string y])/\Below w.heap.size w w':=by
 have hN:=fun V=>uh y V;simp only[h,decide_false] at hN;have HN:=aB hN;clear hN;go_enter Tryz.func162,Tryz.ntmps162;go_wp2_with fail
 refine(HN.o _).af ?_;rintro e w1 ⟨rfl,hw⟩;subst hw;go_wp2;refine bS ((aF.at (w:=w.alloc (FC n x y)) (g:=w.heap.size+1) (by simp) n x y).result rfl _ rfl) rfl ?_;exact⟨rfl,((au _ w).alloc (aq _) _).alloc (by simp) _⟩
theorem akQ (n:Bool) (x y:ByteArray) (w:World) (h:N x=0∨N y=0):
  Calls Tryz.prog 109 #[.bool n,.string x,.string y] w fun e w'=>e=.returned (C 0)/\Below w.heap.size w w':=by
 have hX:=fun V=>uh x V;have hY:=fun V=>uh y V;have HX:=aB hX;have HY:=aB hY;clear hX hY;go_enter Tryz.func109,Tryz.ntmps109;have bF:=aF.at (w:=w) rfl false ⟨#[]⟩ ⟨#[]⟩;have hB0:Below w.heap.size w (w.alloc (FC false ⟨#[]⟩ ⟨#[]⟩)):=(au _ w).alloc (aq _) _;by_cases h0:N x=0
 focus
  go_wp2_with fail
  refine(HX.o _).af ?_;rintro e w1 ⟨rfl,hw⟩;subst hw;rw[cS h0]
 rotate_left
 focus
  have h1:N y=0:=h.resolve_left h0;go_wp2_with fail
  refine(HX.o _).af ?_;rintro e w1 ⟨rfl,hw⟩;subst hw;rw[cD h0];go_wp2_with fail
  refine(HY.o _).af ?_;rintro e w1 ⟨rfl,hw⟩;subst hw;rw[cS h1]
 all_goals
  go_wp2_with fail
  refine(Oo _).af ?_;rintro e w1 ⟨rfl,hb1⟩;have hx1:=bF.aa hb1 bF.lt;have hB1:Below w.heap.size w w1:=hB0.trans (hb1.af hB0.size);obtain⟨k0,k1,k2,f0,f1,f2⟩:=hx1.facts;clear bF hB0;rw[AR];go_wp2;refine bS ((hx1.put _ _ _).result rfl _ rfl) rfl ?_;exact⟨by rw[AR],cQ hB1 (by omega) _ _ _⟩
theorem akR (n:Bool) (x y:ByteArray) (w:World) (h0:N x≠0) (h1:N y≠0) (hx:x.size<=1099511627776) (hy:y.size<=1099511627776):
  Calls Tryz.prog 109 #[.bool n,.string x,.string y] w fun e w'=>e=.returned (C (val n x y))/\Below w.heap.size w w':=by
 have hX:=fun V=>uh x V;have hY:=fun V=>uh y V;have HX:=aB hX;have HY:=aB hY;have gA:Nat.gcd (N x) (N y)≠0:=fun h=>h0 (Nat.gcd_eq_zero_iff.1 h).1;have Ny:=aL (i6 (Nat.gcd_le_left (N y) (jZ h0))) (il x);clear hX hY;go_enter Tryz.func109,Tryz.ntmps109;have bF:=aF.at (w:=w) rfl false ⟨#[]⟩ ⟨#[]⟩;have hB0:Below w.heap.size w (w.alloc (FC false ⟨#[]⟩ ⟨#[]⟩)):=(au _ w).alloc (aq _) _;go_wp2_with fail
 refine(HX.o _).af ?_;rintro e w1 ⟨rfl,hw⟩;subst hw;rw[cD h0];go_wp2_with fail
 refine(HY.o _).af ?_;rintro e w1 ⟨rfl,hw⟩;subst hw;rw[cD h1];have hB:=au (w.alloc (FC false ⟨#[]⟩ ⟨#[]⟩)).heap.size (w.alloc (FC false ⟨#[]⟩ ⟨#[]⟩));go_wp2_with fail
 refine(alm (Nat.gcd (N x) (N y)) hB rfl hx hy).af ?_;rintro e w1 ⟨rfl,hB⟩;go_wp2_with fail
 refine(abw (N x/Nat.gcd (N x) (N y)) 0 hB (by rw[bG]) (by rw[bG];exact Nat.mod_eq_zero_of_dvd (Nat.gcd_dvd_left _ _)) (by rw[bG];exact gA) hx (by omega)).af ?_;rintro e w1 ⟨rfl,hB⟩;go_wp2_with fail
 refine(abw (N y/Nat.gcd (N x) (N y)) 0 hB (by rw[bG]) (by rw[bG];exact Nat.mod_eq_zero_of_dvd (Nat.gcd_dvd_right _ _)) (by rw[bG];exact gA) hy (by omega)).af ?_;rintro e w1 ⟨rfl,hb1⟩;have hx1:=bF.aa hb1 bF.lt;have hB1:Below w.heap.size w w1:=hB0.trans (hb1.af hB0.size);obtain⟨k0,k1,k2,f0,f1,f2⟩:=hx1.facts;clear bF hB0;go_wp2;refine bS ((hx1.put _ _ _).result rfl _ rfl) rfl ?_;exact⟨by rw[val,MD n _ _ h0 h1],cQ hB1 (by omega) _ _ _⟩
theorem LU (n:Bool) (x y:ByteArray) (w:World) (hx:x.size<=1099511627776) (hy:y.size<=1099511627776):
  Calls Tryz.prog 109 #[.bool n,.string x,.string y] w fun e w'=>e=.returned (C (val n x y))/\Below w.heap.size w w':=by
 by_cases h:N x=0∨N y=0
 ·have:=akQ n x y w h;rwa [<- Fz.2 h] at this
 ·exact akR n x y w (fun e=>h (.inl e)) (fun e=>h (.inr e)) hx hy
theorem aaq (n:Bool) (x y:ByteArray) (hx:x.size<=1099511627776) (hy:y.size<=1099511627776):∃(n':Bool) (x' y':ByteArray),N y'≠0/\val n' x' y'=val n x y/\x'.size<=1099511627776/\y'.size<=1099511627776/\x'.size+y'.size<=x.size+y.size+1/\∀V:World,
  Calls Tryz.prog 162 #[.agg #[.bool n,.string x,.string y]] V fun e w'=>e=.returned (.agg #[.bool n',.string x',.string y'])/\Below V.heap.size V w':=by
 have h1:=ME;by_cases h:N y=0
 ·refine⟨false,⟨#[]⟩,B 1,by rw[bG];decide,?_,?_,?_,?_,fun V=>?_⟩
  ·rw[Ts aa8,FA h]
  ·show 0<=_;omega
  ·omega
  ·show 0+_<=_;omega
  ·have:=ajj n x y V h;rwa [AR] at this
 ·exact⟨n,x,y,h,rfl,hx,hy,by omega,fun V=>aji n x y V h⟩
theorem UE (a:Bool) (m n:Nat):sg a (m+n)=sg a m+sg a n:=by cases a<;>simp[sg,Int.neg_add]
theorem UC {a b:Bool} (h:¬a=b) (e:m=n+k):sg a k=sg a m+sg b n:=by
 cases a<;>cases b<;>simp[sg] at h⊢<;>omega
theorem UB {a b:Bool} (h:¬a=b) (e:n=m+k):sg b k=sg a m+sg b n:=by
 cases a<;>cases b<;>simp[sg] at h⊢<;>omega
theorem V0 {n:Bool} {x y:ByteArray} (h1:aF w' g n x y) (h3:Below w.heap.size w w'):w'.cell? ⟨g,0,none⟩=some (.bool n)/\Hid (aF w' g n x y/\Below w.heap.size w w'):=
 ⟨h1.c0,h1,h3⟩
theorem Nd {h:Nat} {n m:Bool} {x y u v:ByteArray} (h1:aF w' g n x y) (h2:aF w' h m u v) (h3:Below w.heap.size w w'):(w'.cell? ⟨g,1,none⟩=some (.string x)/\w'.cell? ⟨g,2,none⟩=some (.string y)/\w'.cell? ⟨h,1,none⟩=some (.string u)/\w'.cell? ⟨h,2,none⟩=some (.string v))/\Hid (aF w' g n x y/\aF w' h m u v/\Below w.heap.size w w'):=
 ⟨⟨h1.c1,h1.c2,h2.c1,h2.c2⟩,h1,h2,h3⟩
theorem TM (na nb:Bool) (xa ya xb yb:ByteArray) (w:World) (x8:xa.size<=137438953472) (x7:ya.size<=137438953472) (hxb:xb.size<=137438953472) (hyb:yb.size<=137438953472):
  Calls Tryz.prog 106 #[.agg #[.bool na,.string xa,.string ya],.agg #[.bool nb,.string xb,.string yb]] w fun e w'=>
   ∃(n:Bool) (x d:Nat),e=.returned (.tuple #[.bool n,.string (B x),.string (B d)])/\d≠0/\mkRat (sg n x) d=val na xa ya+val nb xb yb/\(B x).size<=1099511627776/\(B d).size<=1099511627776/\Below w.heap.size w w':=by
 obtain⟨vZ,kE,ir,BI,sW,sxa,T8,ssa,HA⟩:=aaq na xa ya (by omega) (by omega);obtain⟨BA,ld,iM,BH,oz,sxb,T7,ssb,HB⟩:=aaq nb xb yb (by omega) (by omega);have MB:=aB HA;have bB:=aB HB;clear HA HB;go_enter Tryz.func106,Tryz.ntmps106;have fH:=((aF.at (w:=w) rfl na xa ya).alloc (FC nb xb yb)).drew;have eW:=(aF.at (w:=w.alloc (FC na xa ya)) (g:=w.heap.size+1) (by simp) nb xb yb).drew;have hB0:Below w.heap.size w ((w.alloc (FC na xa ya)).alloc (FC nb xb yb)).drew:=(((au _ w).alloc (aq _) _).alloc (by simp) _).drew;go_upto_region 1 with fail
 go_cut [] from 11 to 14 (fun wx=>aF wx w.heap.size vZ kE ir/\aF wx (w.heap.size+1) BA ld iM/\Below w.heap.size w wx)
 case first=>
  go_region_with (first
   |(have uD:=jR;go_at_call 162;refine(bB.o _).af ?_;rintro e w2 ⟨rfl,hb2⟩;have lA:=aF.aa uD hb2 uD.lt;have kN:=aF.aa gC hb2 gC.lt;have hB2:=hB1.trans (hb2.af hB1.size);obtain⟨k0,k1,k2,f0,f1,f2⟩:=lA.facts;obtain⟨j0,j1,j2,i0,i1,i2⟩:=kN.facts)
   |(go_at_call 162;refine(MB.o _).af ?_;rintro e w1 ⟨rfl,hb1⟩;have jR:=aF.aa fH hb1 fH.lt;have gC:=aF.aa eW hb1 eW.lt;have hB1:=hB0.trans (hb1.af hB0.size);obtain⟨k0,k1,k2,f0,f1,f2⟩:=jR.facts;obtain⟨j0,j1,j2,i0,i1,i2⟩:=gC.facts))
  all_goals go_wp2_with fail
  all_goals go_meet
  all_goals exact⟨((((lA.put _ _ _).far (by omega) _).far (by omega) _).far (by omega) _),(((kN.far (by omega) _).far (by omega) _).far (by omega) _).put _ _ _,cQ (cQ hB2 (aq _) _ _ _) (by omega) _ _ _⟩
 case rest=>
  obtain⟨fH,eW,hB⟩:=hcut;obtain⟨k0,k1,k2,f0,f1,f2⟩:=fH.facts;obtain⟨j0,j1,j2,i0,i1,i2⟩:=eW.facts;clear MB bB;have sla:=o6 (N kE) (N iM);have slb:=o6 (N ld) (N ir);have sld:=o6 (N ir) (N iM);have b1:=il kE;have b2:=il ir;have b3:=il ld;have b4:=il iM;go_upto_region 2 with fail
  go_cut [7,8] from 15 to 24 (fun s7 s8 wx=>s7=.string (B (N kE*N iM))/\s8=.string (B (N ld*N ir))/\aF wx w.heap.size vZ kE ir/\aF wx (w.heap.size+1) BA ld iM/\Below w.heap.size w wx)
  case first=>
   clear sW oz BI BH ssa ssb b1 b2 b3 b4 sla slb sld k0 k1 k2 f0 f1 f2 j0 j1 j2 i0 i1 i2 x8 x7 hxb hyb
   go_region_held3 (fun w'=>(w'.cell? ⟨w.heap.size,1,none⟩=some (.string kE)/\w'.cell? ⟨w.heap.size,2,none⟩=some (.string ir)/\w'.cell? ⟨w.heap.size+1,1,none⟩=some (.string ld)/\w'.cell? ⟨w.heap.size+1,2,none⟩=some (.string iM))/\Hid (aF w' w.heap.size vZ kE ir/\aF w' (w.heap.size+1) BA ld iM/\Below w.heap.size w w'))
    (first |exact Nd lA kN hB2 |exact Nd jR gC hB1 |exact Nd fH.drew eW.drew hB.drew)
    (first
     |(have uD:=jR;go_at_call 142;refine(Iw ld ir _ sxb T8).af ?_;rintro e w2 ⟨rfl,hb2⟩;have lA:=uD.aa hb2 uD.lt;have kN:=gC.aa hb2 gC.lt;have hB2:=hB1.trans (hb2.af hB1.size))
     |(go_at_call 142;refine(Iw kE iM _ sxa T7).af ?_;rintro e w1 ⟨rfl,hb1⟩;have jR:=fH.drew.aa hb1 fH.lt;have gC:=eW.drew.aa hb1 eW.lt;have hB1:=hB.drew.trans (hb1.af hB.size)))
   go_wp2_with fail
   go_meet
   exact⟨rfl,rfl,lA,kN,hB2⟩
  case rest=>
   obtain⟨rfl,rfl,fH,eW,hB⟩:=hcut;obtain⟨k0,k1,k2,f0,f1,f2⟩:=fH.facts;obtain⟨j0,j1,j2,i0,i1,i2⟩:=eW.facts;go_wp2_with fail
   refine(Iw ir iM _ T8 T7).af ?_;rintro e w3 ⟨rfl,hb3⟩;have nH:=fH.aa hb3 fH.lt;have qD:=eW.aa hb3 eW.lt;have bL:=hB.trans (hb3.af hB.size);clear fH eW hB k0 k1 k2 f0 f1 f2 j0 j1 j2 i0 i1 i2 hb3;obtain⟨k0,k1,k2,f0,f1,f2⟩:=nH.facts;obtain⟨j0,j1,j2,i0,i1,i2⟩:=qD.facts;(have sl:(B (N kE*N iM)).size<=1099511627776:=by omega);(have sr:(B (N ld*N ir)).size<=1099511627776:=by omega);(have sd:(B (N ir*N iM)).size<=1099511627776:=by omega);have sa:=T3 (N kE*N iM) (N ld*N ir);have sm:=i6 (Nat.sub_le (N kE*N iM) (N ld*N ir));have sn:=i6 (Nat.sub_le (N ld*N ir) (N kE*N iM));by_cases hn:vZ=BA
   ·subst hn;go_upto_region 5 with fail
    go_region_held3 (fun w'=>w'.cell? ⟨w.heap.size,0,none⟩=some (.bool vZ)/\Hid (aF w' w.heap.size vZ kE ir/\Below w.heap.size w w'))
     (first |exact V0 Qc dK |exact V0 nH.drew bL.drew)
     (first
      |(go_at_call 111;refine(als _ _ _ sl sr).af ?_;rintro e w4 ⟨rfl,hb4⟩;have Qc:=nH.drew.aa hb4 nH.lt;have dK:=bL.drew.trans (hb4.af bL.size)))
    go_wp2;go_ret3
    refine⟨vZ,N kE*N iM+N ld*N ir,N ir*N iM,by rw[bG,bG];rfl,AZ BI BH,?_,by omega,by omega,dK⟩;rw[<- sW, <- oz,UE,val_add _ _ _ _ _ _ BI BH]
   ·have ZM:=au w3.heap.size w3;(have dW:(vZ==BA)=false:=by simp[hn]);have gM:decide (vZ=BA)=false:=cD hn;by_cases hle:N ld*N ir<=N kE*N iM
    ·go_wp2_with fail
     refine(aa4 (N kE*N iM - N ld*N ir) ZM (by rw[bG,bG];omega) sl sr).af ?_;rintro e w4 ⟨rfl,hb4⟩;have Qc:=nH.aa hb4 nH.lt;have dK:=bL.trans (hb4.af bL.size);obtain⟨k0,k1,k2,f0,f1,f2⟩:=Qc.facts;go_wp2;go_ret3
     refine⟨vZ,N kE*N iM - N ld*N ir,N ir*N iM,rfl,AZ BI BH,?_,by omega,by omega,dK⟩;rw[<- sW, <- oz,UC hn (m:=N kE*N iM) (n:=N ld*N ir) (by omega),val_add _ _ _ _ _ _ BI BH]
    ·go_wp2_with fail
     refine(akK ZM (by rw[bG,bG];omega)).af ?_;rintro e w4 ⟨rfl,hb4⟩;have YX:=qD.aa hb4 qD.lt;have dK:=bL.trans (hb4.af bL.size);have ah4:=au w4.heap.size w4;go_wp2_with fail
     refine(aa4 (N ld*N ir - N kE*N iM) ah4 (by rw[bG,bG];omega) sr sl).af ?_;rintro e w5 ⟨rfl,hb5⟩;have ahZ:=YX.aa hb5 YX.lt;have Cl:=dK.trans (hb5.af dK.size);obtain⟨j0,j1,j2,i0,i1,i2⟩:=ahZ.facts;go_wp2;go_ret3
     refine⟨BA,N ld*N ir - N kE*N iM,N ir*N iM,rfl,AZ BI BH,?_,by omega,by omega,Cl⟩;rw[<- sW, <- oz,UB hn (m:=N kE*N iM) (n:=N ld*N ir) (by omega),val_add _ _ _ _ _ _ BI BH]
def aM (q:Rat):Bool:=decide (q.num<0)
def nu (q:Rat):ByteArray:=B q.num.natAbs
def de (q:Rat):ByteArray:=B q.den
theorem kz (q:Rat):C q=.agg #[.bool (aM q),.string (nu q),.string (de q)]:=rfl
theorem gi (q:Rat):val (aM q) (nu q) (de q)=q:=aca q
theorem nj (q:Rat):(nu q).size+(de q).size=qw q:=rfl
theorem alq (n:Bool) (x y:ByteArray) (w:World) (hx:x.size<=1099511627776) (hy:y.size<=1099511627776):
  Calls Tryz.prog 103 #[.agg #[.bool n,.string x,.string y]] w fun e w'=>e=.returned (C (val n x y))/\Below w.heap.size w w':=by
 go_enter Tryz.func103,Tryz.ntmps103;have bF:=aF.at (w:=w.alloc (FC n x y)) (g:=w.heap.size+1) (by simp) false ⟨#[]⟩ ⟨#[]⟩;have hB0:Below w.heap.size w ((w.alloc (FC n x y)).alloc (FC false ⟨#[]⟩ ⟨#[]⟩)):=((au _ w).alloc (aq _) _).alloc (by simp) _;go_wp2_with fail
 refine(LU n x y _ hx hy).af ?_;rintro e w1 ⟨rfl,hb1⟩;have hx1:=bF.aa hb1 bF.lt;have hB1:Below w.heap.size w w1:=hB0.trans (hb1.af hB0.size);obtain⟨k0,k1,k2,f0,f1,f2⟩:=hx1.facts;clear bF hB0;rw[kz];go_wp2;refine bS ((hx1.put _ _ _).result rfl _ rfl) rfl ?_;exact⟨rfl,cQ hB1 (by omega) _ _ _⟩
theorem aai (na nb:Bool) (xa ya xb yb:ByteArray) (w:World) (x8:xa.size<=137438953472) (x7:ya.size<=137438953472) (hxb:xb.size<=137438953472) (hyb:yb.size<=137438953472):
  Calls Tryz.prog 141 #[.agg #[.bool na,.string xa,.string ya],.agg #[.bool nb,.string xb,.string yb]] w fun e w'=>e=.returned (C (val na xa ya+val nb xb yb))/\Below w.heap.size w w':=by
 go_enter Tryz.func141,Tryz.ntmps141;have bF:=aF.at (w:=(w.alloc (FC na xa ya)).alloc (FC nb xb yb)) (g:=w.heap.size+2) (by simp) false ⟨#[]⟩ ⟨#[]⟩;have hB0:Below w.heap.size w (((w.alloc (FC na xa ya)).alloc (FC nb xb yb)).alloc (FC false ⟨#[]⟩ ⟨#[]⟩)):=(((au _ w).alloc (aq _) _).alloc (by simp) _).alloc (by simp;omega) _;go_wp2_with fail
 refine(TM na nb xa ya xb yb _ x8 x7 hxb hyb).af ?_;rintro e w1 ⟨n,x,d,rfl,hd,hv,sx,sd,hb1⟩;have hx1:=bF.aa hb1 bF.lt;have hB1:Below w.heap.size w w1:=hB0.trans (hb1.af hB0.size);clear bF hB0;go_wp2_with fail
 refine(LU n (B x) (B d) _ sx sd).af ?_;rintro e w2 ⟨rfl,hb2⟩;have hx2:=hx1.aa hb2 hx1.lt;have hB2:Below w.heap.size w w2:=hB1.trans (hb2.af hB1.size);have hq:val n (B x) (B d)=val na xa ya+val nb xb yb:=by rw[<- hv,val,bG,bG]
 rw[hq];clear hx1 hB1 hq hv;obtain⟨k0,k1,k2,f0,f1,f2⟩:=hx2.facts;rw[kz];go_wp2;refine bS ((hx2.put _ _ _).result rfl _ rfl) rfl ?_;exact⟨rfl,cQ hB2 (by omega) _ _ _⟩
theorem aF.far3 (h:aF w g neg num den) (hg:g≠g') (u v x:Value):aF (((w.setCell ⟨g',0,none⟩ u).setCell ⟨g',1,none⟩ v).setCell ⟨g',2,none⟩ x) g neg num den:=
 ((h.far hg u).far hg v).far hg x
theorem zC {h:Nat} {n m:Bool} {x y u v:ByteArray} (h1:aF w' g n x y) (h2:aF w' h m u v) (h3:Below w.heap.size w w'):(w'.cell? ⟨g,0,none⟩=some (.bool n)/\w'.cell? ⟨g,1,none⟩=some (.string x)/\w'.cell? ⟨g,2,none⟩=some (.string y)/\w'.cell? ⟨h,0,none⟩=some (.bool m)/\w'.cell? ⟨h,1,none⟩=some (.string u)/\w'.cell? ⟨h,2,none⟩=some (.string v))/\Hid (aF w' g n x y/\aF w' h m u v/\Below w.heap.size w w'):=
 ⟨⟨h1.c0,h1.c1,h1.c2,h2.c0,h2.c1,h2.c2⟩,h1,h2,h3⟩
theorem aah (na nb:Bool) (xa ya xb yb:ByteArray) (w:World) (x8:xa.size<=137438953472) (x7:ya.size<=137438953472) (hxb:xb.size<=137438953472) (hyb:yb.size<=137438953472):
  Calls Tryz.prog 91 #[.agg #[.bool na,.string xa,.string ya],.agg #[.bool nb,.string xb,.string yb]] w fun e w'=>e=.returned (C (val na xa ya*val nb xb yb))/\Below w.heap.size w w':=by
 have sx:(B (N xa*N xb)).size<=1099511627776:=by have:=o6 (N xa) (N xb);have:=il xa;have:=il xb;omega
 have sy:(B (N ya*N yb)).size<=1099511627776:=by have:=o6 (N ya) (N yb);have:=il ya;have:=il yb;omega
 have hq:val (na !=nb) (B (N xa*N xb)) (B (N ya*N yb))=val na xa ya*val nb xb yb:=by rw[<- val_mul,val,bG,bG]
 have HQ:=aB hq;clear hq;have ag6:xa.size<=1099511627776:=by omega
 have ag3:ya.size<=1099511627776:=by omega
 have ag5:xb.size<=1099511627776:=by omega
 have ag2:yb.size<=1099511627776:=by omega
 clear x8 x7 hxb hyb;go_enter Tryz.func91,Tryz.ntmps91;have fH:=(((aF.at (w:=w) rfl na xa ya).alloc (FC nb xb yb)).alloc (FC false ⟨#[]⟩ ⟨#[]⟩)).drew;have eW:=((aF.at (w:=w.alloc (FC na xa ya)) (g:=w.heap.size+1) (by simp) nb xb yb).alloc (FC false ⟨#[]⟩ ⟨#[]⟩)).drew;have hbr:=(aF.at (w:=(w.alloc (FC na xa ya)).alloc (FC nb xb yb)) (g:=w.heap.size+2) (by simp) false ⟨#[]⟩ ⟨#[]⟩).drew;have hB0:Below w.heap.size w (((w.alloc (FC na xa ya)).alloc (FC nb xb yb)).alloc (FC false ⟨#[]⟩ ⟨#[]⟩)).drew:=((((au _ w).alloc (aq _) _).alloc (by simp) _).alloc (by simp;omega) _).drew;go_upto_region 1 with fail
 go_region_held3 (fun w'=>(w'.cell? ⟨w.heap.size,0,none⟩=some (.bool na)/\w'.cell? ⟨w.heap.size,1,none⟩=some (.string xa)/\w'.cell? ⟨w.heap.size,2,none⟩=some (.string ya)/\w'.cell? ⟨w.heap.size+1,0,none⟩=some (.bool nb)/\w'.cell? ⟨w.heap.size+1,1,none⟩=some (.string xb)/\w'.cell? ⟨w.heap.size+1,2,none⟩=some (.string yb))/\Hid (aF w' w.heap.size na xa ya/\aF w' (w.heap.size+1) nb xb yb/\Below w.heap.size w w'))
  (first
   |exact zC (nH.far3 (by omega) _ _ _) (qD.far3 (by omega) _ _ _) (cQ bL (by omega) _ _ _)
   |exact zC nH qD bL |exact zC lA kN hB2 |exact zC jR gC hB1 |exact zC fH eW hB0)
  (first
   |(have YY:=lA;go_at_call 109;refine(LU _ _ _ _ sx sy).af ?_;rintro e w3 ⟨rfl,hb3⟩;have nH:=YY.aa hb3 YY.lt;have qD:=kN.aa hb3 kN.lt;have uB:=zZ.aa hb3 zZ.lt;have bL:=hB2.trans (hb3.af hB2.size);obtain⟨k0,k1,k2,f0,f1,f2⟩:=uB.facts;rw[kz])
   |(have uD:=jR;go_at_call 142;refine(Iw ya yb _ ag3 ag2).af ?_;rintro e w2 ⟨rfl,hb2⟩;have lA:=uD.aa hb2 uD.lt;have kN:=gC.aa hb2 gC.lt;have zZ:=jQ.aa hb2 jQ.lt;have hB2:=hB1.trans (hb2.af hB1.size))
   |(go_at_call 142;refine(Iw xa xb _ ag6 ag5).af ?_;rintro e w1 ⟨rfl,hb1⟩;have jR:=fH.aa hb1 fH.lt;have gC:=eW.aa hb1 eW.lt;have jQ:=hbr.aa hb1 hbr.lt;have hB1:=hB0.trans (hb1.af hB0.size)))
 go_wp2;refine bS ((uB.put _ _ _).result rfl _ rfl) rfl ?_;exact⟨by rw[<- HQ.o];rfl,cQ bL (by omega) _ _ _⟩
variable {p q:Rat}
theorem aF.result2 (h:aF w g neg num den) {p u:Tmp} (hr:fn.results= #[.cell p 32,.tmp u]) (tmps:Array Value) (hp:tmps.getD p undef=.pointer (some ⟨g,0,none⟩)):
  (results fn tmps).run Tryz.prog w=.ok (.tuple #[.agg #[.bool neg,.string num,.string den],tmps.getD u undef]) w:=by
 rw[results_cell_tmp hr,hp];simp only[asAddr,AX,xD];rw[run_loadVar_row w g _ 32 _ _ _ h Tryz.underlying32 rfl (by kernel_rfl)];simp only[xD]
theorem ajK {n:Bool} {x:Nat} (hd:d≠0) (h:mkRat (sg n x) d=p - q):fB p q=if x=0 then 0 else if n=true then -1 else 1:=by
 by_cases hx:x=0
 ·rw[aA hx];rw[hx,UA,Fe] at h;have:p=q:=by grind
  subst this;rw[fB,aD (by grind),aA rfl]
 ·rw[aD hx];obtain⟨h1,h2⟩:=agc n x d hd hx;cases n
  ·have:=h2 rfl;rw[h] at this;rw[aD (by decide),fB,aD (by grind),aD (by grind)]
  ·have:=h1 rfl;rw[h] at this;rw[aA rfl,fB,aA (by grind)]
theorem ai8 (na nb:Bool) (xa ya xb yb:ByteArray) (w:World) (x8:xa.size<=137438953472) (x7:ya.size<=137438953472) (hxb:xb.size<=137438953472) (hyb:yb.size<=137438953472):
  Calls Tryz.prog 52 #[.agg #[.bool na,.string xa,.string ya],.agg #[.bool nb,.string xb,.string yb]] w fun e w'=>e=.returned (.int .i64 (fB (val na xa ya) (val nb xb yb)))/\Below w.heap.size w w':=by
 have hq:val na xa ya+val (!nb) xb yb=val na xa ya - val nb xb yb:=by rw[Tt,Rat.sub_eq_add_neg]
 have HQ:=aB hq;clear hq;go_enter Tryz.func52,Tryz.ntmps52;have fH:=((aF.at (w:=w) rfl na xa ya).alloc (FC nb xb yb)).drew;have eW:=(aF.at (w:=w.alloc (FC na xa ya)) (g:=w.heap.size+1) (by simp) nb xb yb).drew;have hB0:Below w.heap.size w ((w.alloc (FC na xa ya)).alloc (FC nb xb yb)).drew:=(((au _ w).alloc (aq _) _).alloc (by simp) _).drew;go_upto_region 1 with fail
 go_region_held3 (fun w'=>(w'.cell? ⟨w.heap.size,0,none⟩=some (.bool na)/\w'.cell? ⟨w.heap.size,1,none⟩=some (.string xa)/\w'.cell? ⟨w.heap.size,2,none⟩=some (.string ya)/\w'.cell? ⟨w.heap.size+1,0,none⟩=some (.bool nb)/\w'.cell? ⟨w.heap.size+1,1,none⟩=some (.string xb)/\w'.cell? ⟨w.heap.size+1,2,none⟩=some (.string yb))/\Hid (aF w' w.heap.size na xa ya/\aF w' (w.heap.size+1) nb xb yb/\Below w.heap.size w w'))
  (first
   |exact zC lA kN hB2 |exact zC jR gC hB1 |exact zC fH eW hB0)
  (first
   |(have uD:=jR;go_at_call 106;refine(TM na (!nb) xa ya xb yb _ x8 x7 hxb hyb).af ?_;rintro e w2 ⟨n,x,d,rfl,hd,hv,sx,sd,hb2⟩;have lA:=uD.aa hb2 uD.lt;have kN:=gC.aa hb2 gC.lt;have hB2:=hB1.trans (hb2.af hB1.size);have P8:=aB (ajK hd (hv.trans HQ.o));clear hv)
   |(go_at_call 107;refine(afc nb xb yb _).af ?_;rintro e w1 ⟨rfl,hb1⟩;have jR:=fH.aa hb1 fH.lt;have gC:=eW.aa hb1 eW.lt;have hB1:=hB0.trans (hb1.af hB0.size)))
 have hN:∀V:World,Calls Tryz.prog 108 #[.string (B x)] V fun e w'=>e=.returned (.bool (decide (x=0)))/\w'=V:=fun V=>by
  have:=uh (B x) V;rwa [bG] at this
 have HN:=aB hN;clear hN;go_wp2_with fail
 refine(HN.o _).af ?_;rintro e w3 ⟨rfl,hw⟩;subst hw;by_cases h0:x=0
 ·rw[cS h0];go_wp2;go_ret;exact⟨by rw[P8.o,aA h0];rfl,hB2⟩
 ·rw[cD h0];cases n
  ·go_wp2;go_ret;exact⟨by rw[P8.o,aD h0];rfl,hB2⟩
  ·go_wp2;go_ret;exact⟨by rw[P8.o,aD h0];rfl,hB2⟩
theorem ai7 (na nb:Bool) (xa ya xb yb:ByteArray) (w:World) (h:N xb=0∨N yb=0):
  Calls Tryz.prog 87 #[.agg #[.bool na,.string xa,.string ya],.agg #[.bool nb,.string xb,.string yb]] w fun e w'=>e=.returned (.tuple #[.agg #[.bool false,.string ⟨#[]⟩,.string ⟨#[]⟩],.int .i64 3])/\Below w.heap.size w w':=by
 have hX:=fun V=>uh xb V;have hY:=fun V=>uh yb V;have HX:=aB hX;have HY:=aB hY;clear hX hY;go_enter Tryz.func87,Tryz.ntmps87;have hbr:=aF.at (w:=(w.alloc (FC na xa ya)).alloc (FC nb xb yb)) (g:=w.heap.size+2) (by simp) false ⟨#[]⟩ ⟨#[]⟩;have hB0:Below w.heap.size w (((w.alloc (FC na xa ya)).alloc (FC nb xb yb)).alloc (FC false ⟨#[]⟩ ⟨#[]⟩)):=(((au _ w).alloc (aq _) _).alloc (by simp) _).alloc (by simp;omega) _;by_cases h0:N xb=0
 ·go_wp2_with fail
  refine(HX.o _).af ?_;rintro e w1 ⟨rfl,hw⟩;subst hw;rw[cS h0];go_wp2;refine bS (hbr.result2 rfl _ rfl) rfl ?_;exact⟨rfl,hB0⟩
 ·have h1:N yb=0:=h.resolve_left h0;go_wp2_with fail
  refine(HX.o _).af ?_;rintro e w1 ⟨rfl,hw⟩;subst hw;rw[cD h0];go_wp2_with fail
  refine(HY.o _).af ?_;rintro e w1 ⟨rfl,hw⟩;subst hw;rw[cS h1];go_wp2;refine bS (hbr.result2 rfl _ rfl) rfl ?_;exact⟨rfl,hB0⟩
theorem ai5 (na nb:Bool) (xa ya xb yb:ByteArray) (w:World) (h0:N xb≠0) (h1:N yb≠0) (x8:xa.size<=137438953472) (x7:ya.size<=137438953472) (hxb:xb.size<=137438953472) (hyb:yb.size<=137438953472):
  Calls Tryz.prog 87 #[.agg #[.bool na,.string xa,.string ya],.agg #[.bool nb,.string xb,.string yb]] w fun e w'=>e=.returned (.tuple #[C (val na xa ya/val nb xb yb),.int .i64 0])/\Below w.heap.size w w':=by
 have hX:=fun V=>uh xb V;have hY:=fun V=>uh yb V;have HX:=aB hX;have HY:=aB hY;clear hX hY;have hq:val na xa ya*val nb yb xb=val na xa ya/val nb xb yb:=by rw[M7 nb xb yb h0 h1,rp]
 go_enter Tryz.func87,Tryz.ntmps87;have hbr:=aF.at (w:=(w.alloc (FC na xa ya)).alloc (FC nb xb yb)) (g:=w.heap.size+2) (by simp) false ⟨#[]⟩ ⟨#[]⟩;have hB0:Below w.heap.size w (((w.alloc (FC na xa ya)).alloc (FC nb xb yb)).alloc (FC false ⟨#[]⟩ ⟨#[]⟩)):=(((au _ w).alloc (aq _) _).alloc (by simp) _).alloc (by simp;omega) _;go_wp2_with fail
 refine(HX.o _).af ?_;rintro e w1 ⟨rfl,hw⟩;subst hw;rw[cD h0];go_wp2_with fail
 refine(HY.o _).af ?_;rintro e w1 ⟨rfl,hw⟩;subst hw;rw[cD h1];go_wp2_with fail
 refine(aah na nb xa ya yb xb _ x8 x7 hyb hxb).af ?_;rintro e w1 ⟨rfl,hb1⟩;rw[hq];have hx1:=hbr.aa hb1 hbr.lt;have hB1:Below w.heap.size w w1:=hB0.trans (hb1.af hB0.size);obtain⟨k0,k1,k2,f0,f1,f2⟩:=hx1.facts;clear hbr hB0;rw[kz];go_wp2;refine bS ((hx1.put _ _ _).result2 rfl _ rfl) rfl ?_;exact⟨rfl,cQ hB1 (by omega) _ _ _⟩
theorem ai3 (n:Nat) (w:World) (h:n<=9223372036854775807):
  Calls Tryz.prog 53 #[.int .i64 (n:Int)] w fun e w'=>e=.returned (C (n:Rat))/\Below w.heap.size w w':=by
 have hq:val false (B n) (B 1)=(n:Rat):=by
  rw[val,bG,bG];show mkRat (n:Int) 1=_;rw[Rat.mkRat_one];rfl
 have s1:=ME
 have s2:(B n).size<=1099511627776:=by
  have:=nM 8 n (by show n<18446744073709551616;omega);rw[<- kA n] at this;omega
 go_enter Tryz.func53,Tryz.ntmps53;have hbr:=aF.at (w:=w) rfl false ⟨#[]⟩ ⟨#[]⟩;have hB0:Below w.heap.size w (w.alloc (FC false ⟨#[]⟩ ⟨#[]⟩)):=(au _ w).alloc (aq _) _;have hB:=au (w.alloc (FC false ⟨#[]⟩ ⟨#[]⟩)).heap.size (w.alloc (FC false ⟨#[]⟩ ⟨#[]⟩));go_wp2_with fail
 refine(aa6 n hB rfl (by omega)).af ?_;rintro e w1 ⟨rfl,hB⟩;go_wp2_with fail
 refine(aa6 1 hB rfl (by omega)).af ?_;rintro e w1 ⟨rfl,hB⟩;go_wp2_with fail
 refine(LU false (B n) (B 1) _ s2 (by omega)).af ?_;rintro e w2 ⟨rfl,hb2⟩;rw[hq];have hx1:=(hbr.aa hB hbr.lt).aa hb2 (hbr.aa hB hbr.lt).lt;have hB1:Below w.heap.size w w2:=(hB0.trans (hB.af hB0.size)).trans (hb2.af (hB0.trans (hB.af hB0.size)).size);obtain⟨k0,k1,k2,f0,f1,f2⟩:=hx1.facts;clear hbr hB0 hB;rw[kz];go_wp2;refine bS ((hx1.put _ _ _).result rfl _ rfl) rfl ?_;exact⟨rfl,cQ hB1 (by omega) _ _ _⟩
theorem below_drewN {B:Nat} {a b:World} (h:Below B a b) (k:Nat):Below B a (b.drewN k):=⟨h.os,h.tape,h.output,h.size,h.block⟩
theorem ai9 {n m:Bool} {x y u v:ByteArray} (r:Rat) (hp:val n x y=p) (hq:val m u v=q) (h:p+q=r) (s1:x.size+y.size<=100000) (s2:u.size+v.size<=100000):
  Calls Tryz.prog 141 #[.agg #[.bool n,.string x,.string y],.agg #[.bool m,.string u,.string v]] w fun e w'=>e=.returned (.agg #[.bool (aM r),.string (nu r),.string (de r)])/\Below w.heap.size w w':=by
 subst hp hq h;exact aai n m x y u v w (by omega) (by omega) (by omega) (by omega)
theorem aag {n m:Bool} {x y u v:ByteArray} (r:Rat) (hp:val n x y=p) (hq:val m u v=q) (h:p*q=r) (s1:x.size+y.size<=100000) (s2:u.size+v.size<=100000):
  Calls Tryz.prog 91 #[.agg #[.bool n,.string x,.string y],.agg #[.bool m,.string u,.string v]] w fun e w'=>e=.returned (.agg #[.bool (aM r),.string (nu r),.string (de r)])/\Below w.heap.size w w':=by
 subst hp hq h;exact aah n m x y u v w (by omega) (by omega) (by omega) (by omega)
theorem Q8 {n m:Bool} {x y u v:ByteArray} (k:Int) (hp:val n x y=p) (hq:val m u v=q) (h:fB p q=k) (s1:x.size+y.size<=100000) (s2:u.size+v.size<=100000):
  Calls Tryz.prog 52 #[.agg #[.bool n,.string x,.string y],.agg #[.bool m,.string u,.string v]] w fun e w'=>e=.returned (.int .i64 k)/\Below w.heap.size w w':=by
 subst hp hq h;exact ai8 n m x y u v w (by omega) (by omega) (by omega) (by omega)
theorem S7 {n:Bool} {x y:ByteArray} (r:Rat) (hp:val n x y=r) (s1:x.size+y.size<=100000):
  Calls Tryz.prog 103 #[.agg #[.bool n,.string x,.string y]] w fun e w'=>e=.returned (.agg #[.bool (aM r),.string (nu r),.string (de r)])/\Below w.heap.size w w':=by
 subst hp;exact alq n x y w (by omega) (by omega)
theorem H5 {k:Int} (r:Rat) (n:Nat) (hk:k=(n:Int)) (hn:n<=1) (h:(n:Rat)=r):
  Calls Tryz.prog 53 #[.int .i64 k] w fun e w'=>e=.returned (.agg #[.bool (aM r),.string (nu r),.string (de r)])/\Below w.heap.size w w':=by
 subst h hk;exact ai3 n w (by omega)
theorem ai4 {n m:Bool} {x y u v:ByteArray} (hq:val m u v=0):
  Calls Tryz.prog 87 #[.agg #[.bool n,.string x,.string y],.agg #[.bool m,.string u,.string v]] w fun e w'=>e=.returned (.tuple #[.agg #[.bool false,.string ⟨#[]⟩,.string ⟨#[]⟩],.int .i64 3])/\Below w.heap.size w w':=
 ai7 n m x y u v w (Fz.1 hq)
theorem ai6 {n m:Bool} {x y u v:ByteArray} (r:Rat) (hp:val n x y=p) (hq:val m u v=q) (h0:q≠0) (h:p/q=r) (s1:x.size+y.size<=100000) (s2:u.size+v.size<=100000):
  Calls Tryz.prog 87 #[.agg #[.bool n,.string x,.string y],.agg #[.bool m,.string u,.string v]] w fun e w'=>e=.returned (.tuple #[.agg #[.bool (aM r),.string (nu r),.string (de r)],.int .i64 0])/\Below w.heap.size w w':=by
 subst hp hq h;have Em:=fun h=>h0 (Fz.2 h);exact ai5 n m x y u v w (fun h=>Em (.inl h)) (fun h=>Em (.inr h)) (by omega) (by omega) (by omega) (by omega)
theorem Je:B 1=⟨#[1]⟩:=by
 rw[B,nL 1 (by decide),show 1/256=0 from rfl,nJ];rfl
theorem afw (h:¬n=1):((B n).toList==[1])=false:=C6.2 fun e=>h (aby (by
 rw[Je];rw[Lib.toList_data] at e;exact JB (JC.1 e)))
theorem adU (n:Bool) (x y:ByteArray) (w:World) (h:N x=0∨N y=0) (hx:x.size<=500000) (hy:y.size<=500000):
  Calls Tryz.prog 70 #[.bool n,.string x,.string y] w fun e w'=>e=.returned (C 0)/\Below w.heap.size w w':=by
 have HX:=aB (fun V=>ll x V (by omega));have HY:=aB (fun V=>ll y V (by omega));go_enter Tryz.func70,Tryz.ntmps70;by_cases h0:N x=0
 focus
  rw[h0,xB] at HX
 rotate_left
 focus
  have h1:N y=0:=h.resolve_left h0;have hne:=zb h0;rw[h1,xB] at HY
 all_goals
  go_wp2_with fail
  refine(HX.o _).af ?_;rintro e w1 ⟨rfl,hw⟩;subst hw;go_wp2_with fail
  refine(HY.o _).af ?_;rintro e w1 ⟨rfl,hw⟩;subst hw;go_wp2;refine bS ((aF.at (w:=w) rfl false ⟨#[]⟩ ⟨#[1]⟩).result rfl _ rfl) rfl ?_;exact⟨by rw[AR,Je],(au _ w).alloc (aq _) _⟩
theorem adV (n:Bool) (x y:ByteArray) (w:World) (h0:N x≠0) (h1:N y≠0) (hx:x.size<=500000) (hy:y.size<=500000):
  Calls Tryz.prog 70 #[.bool n,.string x,.string y] w fun e w'=>e=.returned (C (val n x y))/\Below w.heap.size w w':=by
 have HX:=aB (fun V=>ll x V (by omega));have HY:=aB (fun V=>ll y V (by omega));have HC:=aB (MD n _ _ h0 h1);have sx:=aL (il x) hx;have sy:=aL (il y) hy;have hg:=aB (fun V=>adZ (B (N x)) (B (N y)) V sx sy);rw[bG,bG] at hg;have Ny:=aL (i6 (Nat.gcd_le_left (N y) (jZ h0))) sx;have gA:Nat.gcd (N x) (N y)≠0:=fun h=>h0 (Nat.gcd_eq_zero_iff.1 h).1;have HD1:=aB (fun V=>NJ (N x) _ V sx Ny gA);have Mv:=aB (fun V=>NJ (N y) _ V sy Ny gA);have alI:=zb h0;have aho:=zb h1;rw[val];clear h0 h1 gA;generalize mkRat (sg n (N x)) (N y)=q at *;generalize N x=X at *;generalize N y=Y at *;generalize Nat.gcd X Y=g at *;go_enter Tryz.func70,Tryz.ntmps70;have bF:=aF.at (w:=w) rfl false ⟨#[]⟩ ⟨#[]⟩;have hB0:Below w.heap.size w (w.alloc (FC false ⟨#[]⟩ ⟨#[]⟩)):=(au _ w).alloc (aq _) _;go_wp2_with fail
 refine(HX.o _).af ?_;rintro e w1 ⟨rfl,hw⟩;subst hw;go_wp2_with fail
 refine(HY.o _).af ?_;rintro e w1 ⟨rfl,hw⟩;subst hw;go_wp2_with fail
 refine(hg.o _).af ?_;rintro e w1 ⟨rfl,hb1⟩;have hx1:=bF.aa hb1 bF.lt;have hB1:Below w.heap.size w w1:=hB0.trans (hb1.af hB0.size);clear bF hB0 hb1 HX HY hg;by_cases h1:g=1
 ·subst h1;rw[A0,A0] at HC;rw[Je];obtain⟨k0,k1,k2,f0,f1,f2⟩:=hx1.facts;go_wp2;refine bS ((hx1.put _ _ _).result rfl _ rfl) rfl ?_;exact⟨by rw[HC.o],cQ hB1 (by omega) _ _ _⟩
 ·have dW:=afw h1;go_wp2_with fail
  refine(HD1.o _).af ?_;rintro e w2 ⟨rfl,hb2⟩;have hx2:=hx1.aa hb2 hx1.lt;have hB2:Below w.heap.size w w2:=hB1.trans (hb2.af hB1.size);go_wp2_with fail
  refine(Mv.o _).af ?_;rintro e w3 ⟨rfl,hb3⟩;have hx3:=hx2.aa hb3 hx2.lt;have bL:Below w.heap.size w w3:=hB2.trans (hb3.af hB2.size);obtain⟨k0,k1,k2,f0,f1,f2⟩:=hx3.facts;go_wp2;refine bS ((hx3.put _ _ _).result rfl _ rfl) rfl ?_;exact⟨by rw[HC.o],cQ bL (by omega) _ _ _⟩
theorem F3 (n:Bool) (x y:ByteArray) (w:World) (hx:x.size<=500000) (hy:y.size<=500000):
  Calls Tryz.prog 70 #[.bool n,.string x,.string y] w fun e w'=>e=.returned (C (val n x y))/\Below w.heap.size w w':=by
 by_cases h:N x=0∨N y=0
 ·have:=adU n x y w h hx hy;rwa [<- Fz.2 h] at this
 ·exact adV n x y w (fun e=>h (.inl e)) (fun e=>h (.inr e)) hx hy
theorem Dt (n:Bool) (x y:ByteArray) (w:World) (hx:x.size<=500000) (hy:y.size<=500000):
  Calls Tryz.prog 68 #[.agg #[.bool n,.string x,.string y]] w fun e w'=>e=.returned (C (val n x y))/\Below w.heap.size w w':=by
 go_enter Tryz.func68,Tryz.ntmps68;have bF:=aF.at (w:=w.alloc (FC n x y)) (g:=w.heap.size+1) (by simp) false ⟨#[]⟩ ⟨#[]⟩;have hB0:Below w.heap.size w ((w.alloc (FC n x y)).alloc (FC false ⟨#[]⟩ ⟨#[]⟩)):=((au _ w).alloc (aq _) _).alloc (by simp) _;go_wp2_with fail
 refine(F3 n x y _ hx hy).af ?_;rintro e w1 ⟨rfl,hb1⟩;have hx1:=bF.aa hb1 bF.lt;have hB1:Below w.heap.size w w1:=hB0.trans (hb1.af hB0.size);obtain⟨k0,k1,k2,f0,f1,f2⟩:=hx1.facts;clear bF hB0;rw[kz];go_wp2;refine bS ((hx1.put _ _ _).result rfl _ rfl) rfl ?_;exact⟨rfl,cQ hB1 (by omega) _ _ _⟩
variable {U:World}
theorem F2 {a b:ByteArray} (n:Nat) (hB:Below w0.heap.size w0 w) (h:N a*N b=n) (ha:a.size<=1000000) (hb:b.size<=1000000):
  Calls Tryz.prog 69 #[.string a,.string b] w fun e w'=>e=.returned (.string (B n))/\Below w0.heap.size w0 w':=by
 subst h;exact under hB (adT a b w (by omega) (by omega))
theorem r6 (q:Rat):N (nu q)=q.num.natAbs:=bG _
theorem kS (q:Rat):N (de q)=q.den:=bG _
def Ir (w V:World) (p q:Rat) (n:Bool) (x y:ByteArray):Prop:=aF V w.heap.size (aM p) (nu p) (de p)/\aF V (w.heap.size+1) (aM q) (nu q) (de q)/\aF V (w.heap.size+2) n x y/\Below w.heap.size w V
theorem Ir.step {V:World} {n:Bool} {x y:ByteArray} (h:Ir w V p q n x y) (hb:Below V.heap.size V U):Ir w U p q n x y:=by
 obtain⟨h1,h2,h3,h4⟩:=h;exact⟨h1.aa hb h1.lt,h2.aa hb h2.lt,h3.aa hb h3.lt,h4.trans (hb.af h4.size)⟩
theorem acJ (h:aM p=aM q):val (aM p) (B (p.num.natAbs*q.den+q.num.natAbs*p.den)) (B (p.den*q.den))=p+q:=by
 have e:=val_add (aM p) (aM q) (nu p) (de p) (nu q) (de q) (by rw[kS];exact p.den_nz) (by rw[kS];exact q.den_nz);rw[gi,gi,r6,r6,kS,kS, <- h, <- UE] at e;rw[val,bG,bG,e]
theorem acM (h:¬aM p=aM q) (hle:q.num.natAbs*p.den<=p.num.natAbs*q.den):val (aM p) (B (p.num.natAbs*q.den - q.num.natAbs*p.den)) (B (p.den*q.den))=p+q:=by
 have e:=val_add (aM p) (aM q) (nu p) (de p) (nu q) (de q) (by rw[kS];exact p.den_nz) (by rw[kS];exact q.den_nz);rw[gi,gi,r6,r6,kS,kS, <- UC h (k:=p.num.natAbs*q.den - q.num.natAbs*p.den) (by omega)] at e;rw[val,bG,bG,e]
theorem acK (h:¬aM p=aM q) (hle:p.num.natAbs*q.den<=q.num.natAbs*p.den):val (aM q) (B (q.num.natAbs*p.den - p.num.natAbs*q.den)) (B (p.den*q.den))=p+q:=by
 have e:=val_add (aM p) (aM q) (nu p) (de p) (nu q) (de q) (by rw[kS];exact p.den_nz) (by rw[kS];exact q.den_nz);rw[gi,gi,r6,r6,kS,kS, <- UB h (k:=q.num.natAbs*p.den - p.num.natAbs*q.den) (by omega)] at e;rw[val,bG,bG,e]
theorem U9 (na nb:Bool) (xa ya xb yb:ByteArray) (w:World) (ha:xa.size+ya.size<=50000) (hb:xb.size+yb.size<=50000):
  Calls Tryz.prog 71 #[.agg #[.bool na,.string xa,.string ya],.agg #[.bool nb,.string xb,.string yb]] w fun e w'=>e=.returned (C (val na xa ya+val nb xb yb))/\Below w.heap.size w w':=by
 have HA:=aB (fun V=>Dt na xa ya V (by omega) (by omega));have HB:=aB (fun V=>Dt nb xb yb V (by omega) (by omega));have q1:=Bl na xa ya;have q2:=Bl nb xb yb;generalize val na xa ya=p at *;generalize val nb xb yb=q at *;have z1:=nj p;have z2:=nj q;have s1:=o6 p.num.natAbs q.den;have s2:=o6 q.num.natAbs p.den;have s3:=o6 p.den q.den;have s4:=T3 (p.num.natAbs*q.den) (q.num.natAbs*p.den);have s5:=i6 (Nat.sub_le (p.num.natAbs*q.den) (q.num.natAbs*p.den));have s6:=i6 (Nat.sub_le (q.num.natAbs*p.den) (p.num.natAbs*q.den));have e1:(B p.num.natAbs).size=(nu p).size:=rfl;have e2:(B p.den).size=(de p).size:=rfl;have e3:(B q.num.natAbs).size=(nu q).size:=rfl;have e4:(B q.den).size=(de q).size:=rfl;have HS:=aB (fun h=>acJ (p:=p) (q:=q) h);have HG:=aB (fun h hle=>acM (p:=p) (q:=q) h hle);have HL:=aB (fun h hle=>acK (p:=p) (q:=q) h hle);have xj:=aB (fun (V:World)=>F2 (w:=V) (p.num.natAbs*q.den) (au _ V) (by rw[r6,kS]) (show (nu p).size<=_ by omega) (show (de q).size<=_ by omega));have CO:=aB (fun (V:World)=>F2 (w:=V) (q.num.natAbs*p.den) (au _ V) (by rw[r6,kS]) (show (nu q).size<=_ by omega) (show (de p).size<=_ by omega));have I0:=aB (fun (V:World)=>F2 (w:=V) (p.den*q.den) (au _ V) (by rw[kS,kS]) (show (de p).size<=_ by omega) (show (de q).size<=_ by omega));generalize p+q=r at *;generalize p.num.natAbs*q.den=X at *;generalize q.num.natAbs*p.den=Y at *;generalize p.den*q.den=D at *;have t1:(B X).size<=200000:=by omega
 have t2:(B Y).size<=200000:=by omega
 have t3:(B D).size<=200000:=by omega
 have t4:(B (X+Y)).size<=500000:=by omega
 have t5:(B (X - Y)).size<=500000:=by omega
 have t6:(B (Y - X)).size<=500000:=by omega
 clear s1 s2 s3 s4 s5 s6 e1 e2 e3 e4 z1 z2 q1 q2 ha hb;go_enter Tryz.func71,Tryz.ntmps71;have fH:=((aF.at (w:=w) rfl na xa ya).alloc (FC nb xb yb)).alloc (FC false ⟨#[]⟩ ⟨#[]⟩);have eW:=(aF.at (w:=w.alloc (FC na xa ya)) (g:=w.heap.size+1) (by simp) nb xb yb).alloc (FC false ⟨#[]⟩ ⟨#[]⟩);have hbr:=aF.at (w:=(w.alloc (FC na xa ya)).alloc (FC nb xb yb)) (g:=w.heap.size+2) (by simp) false ⟨#[]⟩ ⟨#[]⟩;have hB0:Below w.heap.size w (((w.alloc (FC na xa ya)).alloc (FC nb xb yb)).alloc (FC false ⟨#[]⟩ ⟨#[]⟩)):=(((au _ w).alloc (aq _) _).alloc (by simp) _).alloc (by simp;omega) _;go_wp2_with fail
 refine(HA.o _).af ?_;rintro e w1 ⟨rfl,hb1⟩;have jR:=fH.aa hb1 fH.lt;have gC:=(eW.aa hb1 eW.lt).far3 (g':=w.heap.size) (by omega) (.bool (aM p)) (.string (nu p)) (.string (de p));have jQ:=(hbr.aa hb1 hbr.lt).far3 (g':=w.heap.size) (by omega) (.bool (aM p)) (.string (nu p)) (.string (de p));have hB1:=cQ (hB0.trans (hb1.af hB0.size)) (aq _) (.bool (aM p)) (.string (nu p)) (.string (de p));have lA:=jR.put (aM p) (nu p) (de p);obtain⟨k0,k1,k2,f0,f1,f2⟩:=jR.facts;obtain⟨c0,c1,c2,_,_,_⟩:=gC.facts;rw[kz];clear fH eW hbr hB0 jR hb1;go_wp2_with fail
 clear k0 k1 k2 f0 f1 f2 c0 c1 c2;refine(HB.o _).af ?_;rintro e w2 ⟨rfl,hb2⟩;have kN:=gC.aa hb2 gC.lt;have nH:=(lA.aa hb2 lA.lt).far3 (g':=w.heap.size+1) (by omega) (.bool (aM q)) (.string (nu q)) (.string (de q));have uB:=(jQ.aa hb2 jQ.lt).far3 (g':=w.heap.size+1) (by omega) (.bool (aM q)) (.string (nu q)) (.string (de q));have bL:=cQ (hB1.trans (hb2.af hB1.size)) (g:=w.heap.size+1) (by omega) (.bool (aM q)) (.string (nu q)) (.string (de q));have qD:=kN.put (aM q) (nu q) (de q);obtain⟨k0,k1,k2,f0,f1,f2⟩:=kN.facts;have ht:Ir w _ p q false ⟨#[]⟩ ⟨#[]⟩:=⟨nH,qD,uB,bL⟩;obtain⟨c0,c1,c2,_,_,_⟩:=nH.facts;obtain⟨d0,d1,d2,_,_,_⟩:=qD.facts;rw[kz];clear lA gC jQ hB1 kN nH uB bL qD hb2 HA HB;go_wp2_with fail
 refine(xj.o _).af ?_;rintro e w3 ⟨rfl,hb3⟩;clear c0 c1 c2 d0 d1 d2 k0 k1 k2 f0 f1 f2;have sZ:=ht.step hb3;clear ht hb3 xj;obtain⟨c0,c1,c2,_,_,_⟩:=sZ.1.facts;obtain⟨d0,d1,d2,_,_,_⟩:=sZ.2.1.facts;go_wp2_with fail
 refine(CO.o _).af ?_;rintro e w4 ⟨rfl,hb4⟩;clear c0 c1 c2 d0 d1 d2;have uk:=sZ.step hb4;clear sZ hb4 CO;obtain⟨c0,c1,c2,_,_,_⟩:=uk.1.facts;obtain⟨d0,d1,d2,_,_,_⟩:=uk.2.1.facts;go_wp2_with fail
 refine(I0.o _).af ?_;rintro e w5 ⟨rfl,hb5⟩;clear c0 c1 c2 d0 d1 d2;have Gm:=uk.step hb5;clear uk hb5 I0;obtain⟨c0,c1,c2,_,_,_⟩:=Gm.1.facts;obtain⟨d0,d1,d2,_,_,_⟩:=Gm.2.1.facts;by_cases hn:aM p=aM q
 focus
  have HV:=aB (HS.o hn);have dW:(aM p==aM q)=true:=by simp[hn]
  have gM:decide (aM p=aM q)=true:=cS hn;have HAD:=aB (fun V=>U8 (B X) (B Y) V (by omega) (by omega));rw[bG,bG] at HAD;have HN:=aB hn;clear hn;go_wp2_with fail
  refine(HAD.o _).af ?_;rintro e w6 ⟨rfl,eA⟩;clear c0 c1 c2 d0 d1 d2;have DT:=Gm.step eA;obtain⟨c0,c1,c2,_,_,_⟩:=DT.1.facts;go_wp2_with fail
  refine(F3 (aM p) (B (X+Y)) (B D) _ (by omega) (by omega)).af ?_
 rotate_left
 focus
  have dW:(aM p==aM q)=false:=by simp[hn]
  have gM:decide (aM p=aM q)=false:=cD hn;by_cases hle:Y<=X
  focus
   have HV:=aB (HG.o hn hle);have iH:=aB (fun V=>NI (B X) (B Y) V (by omega) (by omega) (by rw[bG,bG];exact hle));rw[bG,bG] at iH;go_wp2_with fail
   refine(iH.o _).af ?_;rintro e w6 ⟨rfl,eA⟩;clear c0 c1 c2 d0 d1 d2;have DT:=Gm.step eA;obtain⟨c0,c1,c2,_,_,_⟩:=DT.1.facts;go_wp2_with fail
   refine(F3 (aM p) (B (X - Y)) (B D) _ (by omega) (by omega)).af ?_
  rotate_left
  ·have HV:=aB (HL.o hn (by omega));have yN:=aB (fun V=>UX (B X) (B Y) V (by omega) (by omega) (by rw[bG,bG];omega));have iH:=aB (fun V=>NI (B Y) (B X) V (by omega) (by omega) (by rw[bG,bG];omega));rw[bG,bG] at iH;go_wp2_with fail
   refine(yN.o _).af ?_;rintro e w6 ⟨rfl,eA⟩;clear c0 c1 c2 d0 d1 d2;have DT:=Gm.step eA;go_wp2_with fail
   refine(iH.o _).af ?_;rintro e w7 ⟨rfl,c5⟩;have rI:=DT.step c5;obtain⟨c0,c1,c2,_,_,_⟩:=rI.2.1.facts;go_wp2_with fail
   refine(F3 (aM q) (B (Y - X)) (B D) _ (by omega) (by omega)).af ?_;rintro e w8 ⟨rfl,fp⟩;have Gl:=rI.step fp;obtain⟨g0,g1,g2,i0,i1,i2⟩:=Gl.2.2.1.facts;rw[HV.o,kz];go_wp2;refine bS ((Gl.2.2.1.put _ _ _).result rfl _ rfl) rfl ?_;exact⟨rfl,cQ Gl.2.2.2 (by omega) _ _ _⟩
 all_goals
  rintro e w7 ⟨rfl,c5⟩;have rI:=DT.step c5;obtain⟨g0,g1,g2,i0,i1,i2⟩:=rI.2.2.1.facts;rw[HV.o,kz];go_wp2;refine bS ((rI.2.2.1.put _ _ _).result rfl _ rfl) rfl ?_;exact⟨rfl,cQ rI.2.2.2 (by omega) _ _ _⟩
end Go.Proofs.YtfgkjjlocjmfeaaGreatDoor
