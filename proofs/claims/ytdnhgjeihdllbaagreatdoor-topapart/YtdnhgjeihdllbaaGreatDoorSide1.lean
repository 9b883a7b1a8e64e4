/- Part1: part 1. -/
import Derived.Test.YtdnhgjeihdllbaaGreatDoorTerms
set_option maxRecDepth 100000
set_option maxHeartbeats 4000000
set_option linter.unusedSimpArgs false
set_option linter.unusedVariables false
namespace Go.Proofs.YtdnhgjeihdllbaaGreatDoor
variable {rs:List Nat} {i:Nat} {oi:Oper}
theorem gE:(∀(α:Type) (xs:List α) (i:Nat) (h:i<xs.toArray.size),xs.toArray[i]=xs[i]'(by simpa using h))/\(∀(α:Type) (a:α) (ys:List α) (h:0<(a::ys).length),(a::ys)[0]=a)/\(∀(α:Type) (a:α) (ys:List α) (i:Nat) (h:i+1<(a::ys).length),(a::ys)[i+1]=ys[i]'(by simpa using h)):=⟨fun _ _ _ _=>rfl,fun _ _ _ _=>rfl,fun _ _ _ _ _=>rfl⟩
theorem aP:(∀(a:Act) (k:Nat) (v:Value),a.put k v= {a with tmps:=a.tmps.setIfInBounds k v})/\(∀(α:Type) (xs:List α) (i:Nat) (a:α),xs.toArray.setIfInBounds i a=(xs.set i a).toArray)/\(∀(α:Type) (x a:α) (ys:List α),(x::ys).set 0 a=a::ys)/\(∀(α:Type) (x a:α) (ys:List α) (i:Nat),(x::ys).set (i+1) a=x::ys.set i a):=⟨fun _ _ _=>rfl,fun _ _ _ _=>by simp,fun _ _ _ _=>rfl,fun _ _ _ _ _=>rfl⟩
section
variable {P : Program} {ops : Array Oper} {Q : Exit -> Act -> World -> Prop} {md : Region.Mode} {S : World -> Prop} {n : Nat} {l : Array Bool} {a : Act} {w : World}
theorem cK (i:Nat) (v:Value) (h:∀u,S u ->(execOp a.eval oi).run P u=.ok (.value v) u) (k:wpAnyH P md ops Q S n (l.setIfInBounds i true) (a.put oi.dst v) w)
  (hi:ops[i]? =some oi:=by rfl) (hs:Region.noSelect ops=true:=by kernel_rfl) (hf:Region.free md ops l i=true:=by kernel_rfl) (hr:(Region.ready md ops l).contains i=true:=by kernel_rfl)
  (hQ:∀c a w,Q (.panic c) (a.put oi.dst v) w ->Q (.panic c) a w:=by first |exact fun _ _ _ h=>h |exact fun _ _ _ h=>by cases h.1) (hw:Region.wanted oi (yielded ops a.tmps)=true:=by rfl) (hS:S w:=by assumption):wpAnyH P md ops Q S (n+1) l a w:=
 pF hi hs hf hr hQ (Or.inl ⟨hw,h⟩) hS k
theorem aw (i:Nat) (v:Value) (k:wpAnyH P md ops Q S n (l.setIfInBounds i true) (a.put oi.dst v) w)
  (hi:ops[i]? =some oi:=by rfl) (h:∀u,S u ->(execOp a.eval oi).run P u=.ok (.value v) u:=by intro u' aL;(try simp only[gE]);(first |obtain⟨s0,s1,s2,s3⟩:=aL |obtain⟨s0,s1,s2⟩:=aL |obtain⟨s0,s1⟩:=aL |skip);go_simp) (hs:Region.noSelect ops=true:=by kernel_rfl) (hf:Region.free md ops l i=true:=by kernel_rfl) (hr:(Region.ready md ops l).contains i=true:=by kernel_rfl)
  (hQ:∀c a w,Q (.panic c) (a.put oi.dst v) w ->Q (.panic c) a w:=by first |exact fun _ _ _ h=>h |exact fun _ _ _ h=>by cases h.1) (hw:Region.wanted oi (yielded ops a.tmps)=true:=by rfl) (hS:S w:=by assumption):wpAnyH P md ops Q S (n+1) l a w:=
 pF hi hs hf hr hQ (Or.inl ⟨hw,h⟩) hS k
theorem cA {o:Oper} (h:∀K':Act ->World ->Prop,Shut (∀a w,S w ->(S w ->wpAnyH P md ops Q S n (l.setIfInBounds i true) a w) ->K' a w) ->if Region.wanted o (yielded ops a.tmps)=true then Oper.wp P o a w K' Q else K' (a.put o.dst undef) w) (hs:AllReadyH P md ops Q S n l a w rs) (ho:ops[i]? =some o:=by rfl):AllReadyH P md ops Q S n l a w (i::rs):=AllReadyH.cons ho h hs
theorem nA:AllReadyH P md ops Q S n l a w []:=aD
theorem aF (rs:List Nat) (h:AllReadyH P md ops Q S n l a w rs) (hr:Region.ready md ops l=rs:=by kernel_rfl) (hne:rs≠[]:=by simp):wpAnyH P md ops Q S (n+1) l a w:=wpAnyH_ready hr hne h
end
open Go.RowKit
variable {l:List Int} {a:Option Addr} {w w':World}
theorem hid {p:Prop} (h:p):Hid p:=h
def aaK (w:World) (a:Option Addr) (l:List Int):Prop:=∀k (h:k<l.length),∃g o,a=some ⟨g,o,none⟩/\g<w.heap.size/\w.cell? ⟨g,o+k,none⟩=some (.int .i64 l[k])
theorem aaK.aa (h:aaK w a l) (hb:Below w.heap.size w w'):aaK w' a l:=fun k hk=>by
 obtain⟨g,o,h1,h2,h3⟩:=h k hk;exact⟨g,o,h1,aR h2 hb.size,(hb.cell (p:=⟨g,_,none⟩) h2).trans h3⟩
theorem Fs {B:Nat} {a b:World} (h:Below B a b) (k:Nat):Below B a (b.drewN k):=⟨h.os,h.tape,h.output,h.size,h.block⟩
def ie (k:Int) (l:List Int):Bool:=l.any (·==k)
theorem aiR {k:Int} (h:i<l.length):ie k (l.take (i+1))=(ie k (l.take i) ||l[i]==k):=by
 rw[fR h,ie,ie,List.any_append];simp
theorem aiU {k:Int} (h:i<l.length) (e:l[i]=k):ie k l=true:=by
 rw[ie,rX];exact⟨l[i],bH h,by simp[e]⟩
theorem RJ (k:Int) (a:Option Addr) (cap:Nat) (l:List Int) (w:World) (h:aaK w a l) (hn:l.length<=140737488355328):
  Calls Tryz.prog 65 #[.int .i64 k,.slice a l.length cap] w fun e w'=>e=.returned (.bool (ie k l))/\w'=w:=by
 have HF:=hid h;clear h;go_enter Tryz.func65,Tryz.ntmps65;go_wp2_with fail
 go_loop [5] (fun iv=>∃i:Nat,i<=l.length/\iv=.int .i64 i/\Hid (ie k (l.take i)=false)) (fun iv=>l.length - (intOf iv).toNat)
 case atStart=>exact⟨0,aU _,rfl,rfl⟩
 case round=>
  obtain⟨i,hi,rfl,HI⟩:=hrel;by_cases hlt:i<l.length
  ·obtain⟨g,o,rfl,hg,c0⟩:=HF.o i hlt;by_cases e:l[i]=k
   ·have HE:=hid (aiU hlt e);go_wp2;go_ret;exact⟨by rw[HE.o];rfl,rfl⟩
   ·have HS:Hid (ie k (l.take (i+1))=false):=by show _=_;rw[aiR hlt,HI.o];simp[e]
    (have eb:(l[i]==k)=false:=by simp[e]);generalize l[i]=x at *;go_wp2;go_round
    case rel=>exact⟨i+1,by omega,by go_num,HS.o⟩
    case measure=>simp[intOf];omega
  ·have HE:Hid (ie k l=false):=by
    show _=_;have:=HI.o;rwa [jd (by omega)] at this
   go_wp2;go_ret;exact⟨by rw[HE.o];rfl,rfl⟩
def Ax (x:Int):Bool:=decide (1<=x/\x<=4)
def ab5 (l:List Int):Bool:=decide (1<=l.length/\l.length<=8)&&l.all Ax
theorem ac2 {p:Int ->Bool} (h:i<l.length) (e:p l[i]=false):l.all p=false:=by
 rw[Gw];exact⟨l[i],bH h,by rw[e];decide⟩
theorem ac1 {p:Int ->Bool} (h:i<l.length) (h0:(l.take i).all p=true) (e:p l[i]=true):(l.take (i+1)).all p=true:=by
 rw[fR h,List.all_append,h0];simp[e]
theorem af7 (a:Option Addr) (cap:Nat) (l:List Int) (w:World) (h:aaK w a l) (hn:l.length<=140737488355328):
  Calls Tryz.prog 112 #[.slice a l.length cap] w fun e w'=>e=.returned (.bool (ab5 l))/\Below w.heap.size w w':=by
 have HF:=hid h;clear h;by_cases hl:1<=l.length/\l.length<=8
 ·have HB:Hid (ab5 l=l.all Ax):=by show _=_;rw[ab5,cJ hl];rfl
  obtain⟨hl1,hl2⟩:=hl;generalize ab5 l=fb at *;go_enter Tryz.func112,Tryz.ntmps112;go_wp2_with fail
  go_loopw [3] (fun iv wr=>∃i:Nat,i<=l.length/\iv=.int .i64 i/\Hid ((l.take i).all Ax=true)/\Below w.heap.size w wr) (fun iv _=>l.length - (intOf iv).toNat)
  case atStart=>exact⟨0,aU _,rfl,rfl,au _ _⟩
  case round=>
   obtain⟨i,hi,rfl,HI,hB⟩:=hrel;by_cases hlt:i<l.length
   ·obtain⟨g,o,rfl,hg,c0⟩:=(HF.o.aa hB) i hlt;by_cases e:1<=l[i]/\l[i]<=4
    ·have HS:=hid (ac1 hlt HI.o (p:=Ax) (cJ e));obtain⟨e1,e2⟩:=e;generalize l[i]=x at *;go_wp2;go_roundw
     case rel=>exact⟨i+1,by omega,by go_num,HS.o,hB⟩
     case measure=>simp[intOf];omega
    ·have HE:Hid (fb=false):=by show _=_;rw[HB.o];exact ac2 hlt (abg e)
     rcases (show l[i]<1∨(1<=l[i]/\4<l[i]) by omega) with h3 |⟨h3,h4⟩
     all_goals
      clear e;generalize l[i]=x at *;go_wp2;go_ret;exact⟨by rw[HE.o];rfl,hB⟩
   ·have HE:Hid (fb=true):=by
     show _=_;rw[HB.o];have:=HI.o;rwa [jd (by omega)] at this
    go_wp2;go_ret;exact⟨by rw[HE.o];rfl,hB⟩
 ·have HE:Hid (ab5 l=false):=by show _=_;rw[ab5,abg hl];rfl
  generalize ab5 l=fb at *;go_enter Tryz.func112,Tryz.ntmps112;rcases (show l.length<1∨(1<=l.length/\8<l.length) by omega) with h3 |⟨h3,h4⟩
  all_goals
   go_wp2;go_ret;exact⟨by rw[HE.o];rfl,au _ _⟩
def lu (l:List Int) (n:Int) (i:Nat):Bool:=decide (0<=l.getD i 0/\l.getD i 0<n/\(0< i ->l.getD (i - 1) 0<l.getD i 0))
def dD (l:List Int) (n:Int):Bool:=(List.range l.length).all (lu l n)
theorem RA {n:Int} (h:i<l.length) (e:lu l n i=false):dD l n=false:=by
 rw[dD,Gw];exact⟨i,bG.2 h,by rw[e];decide⟩
theorem Nl {n:Int} (h0:(List.range i).all (lu l n)=true) (e:lu l n i=true):(List.range (i+1)).all (lu l n)=true:=by
 rw[rT,List.all_append,h0];simp[e]
theorem getD_eq (h:i<l.length):l.getD i 0=l[i]:=by simp[List.getD,h]
theorem ad3 (a:Option Addr) (cap:Nat) (l:List Int) (n:Int) (w:World) (h:aaK w a l) (hn:l.length<=140737488355328):
  Calls Tryz.prog 113 #[.slice a l.length cap,.int .i64 n] w fun e w'=>e=.returned (.bool (dD l n))/\Below w.heap.size w w':=by
 have HF:=hid h;clear h;have HB:=hid (fun i h e=>RA (l:=l) (n:=n) (i:=i) h e);have HT:Hid ((List.range l.length).all (lu l n)=true ->dD l n=true):=id;generalize dD l n=rb at *;go_enter Tryz.func113,Tryz.ntmps113;go_wp2_with fail
 go_loopw [5] (fun iv wr=>∃i:Nat,i<=l.length/\iv=.int .i64 i/\Hid ((List.range i).all (lu l n)=true)/\Below w.heap.size w wr) (fun iv _=>l.length - (intOf iv).toNat)
 case atStart=>exact⟨0,aU _,rfl,rfl,au _ _⟩
 case round=>
  obtain⟨i,hi,rfl,HI,hB⟩:=hrel;by_cases hlt:i<l.length
  ·obtain⟨g,o,rfl,hg,c0⟩:=(HF.o.aa hB) i hlt;(have HO:Hid (lu l n i=decide (0<=l[i]/\l[i]<n/\(0< i ->l.getD (i - 1) 0<l[i]))):=by show _=_;rw[lu,getD_eq hlt]);by_cases e0:l[i]<0
   ·have HE:Hid (rb=false):=HB.o i hlt (by rw[HO.o];exact abg (by omega));generalize l[i]=x at *;have d0:decide (x<0)=true:=cJ e0;go_wp2_with fail
    go_quiet (fail)
    go_wp2;go_ret;exact⟨by rw[HE.o];rfl,Fs hB _⟩
   ·by_cases e1:n<=l[i]
    ·have HE:Hid (rb=false):=HB.o i hlt (by rw[HO.o];exact abg (by omega));generalize l[i]=x at *;have d0:decide (x<0)=false:=abg e0;have d1:decide (n<=x)=true:=cJ e1;go_wp2_with fail
     go_quiet (fail)
     go_wp2;go_ret;exact⟨by rw[HE.o];rfl,Fs hB _⟩
    ·by_cases e2:i=0
     ·have HS:=hid (Nl HI.o (i:=i) (by rw[HO.o];exact cJ ⟨by omega,by omega,fun h=>absurd h (by omega)⟩));clear HO;generalize l[i]=x at *;have d0:decide (x<0)=false:=abg e0;have d1:decide (n<=x)=false:=abg e1;have d2:decide (0<i)=false:=abg (by omega);(have e2':¬0<(i:Int):=by omega);have E2:=hid e2;clear e2;go_wp2_with fail
      go_quiet (fail)
      go_wp2;go_roundw
      case rel=>exact⟨i+1,by omega,by go_num,HS.o,Fs hB _⟩
      case measure=>simp[intOf];omega
     ·have hip:0<i:=by omega
      obtain⟨g',o',he',iK,c1⟩:=(HF.o.aa hB) (i - 1) (by omega);simp only[Option.some.injEq,Addr.mk.injEq] at he';obtain⟨rfl,rfl, -⟩:=he';have hgd:l.getD (i - 1) 0=l[i - 1]:=getD_eq (by omega);rw[hgd] at HO;(have hix:((i:Int) - 1).toNat=i - 1:=by omega);by_cases e3:l[i]<=l[i - 1]
      ·have HE:Hid (rb=false):=HB.o i hlt (by rw[HO.o];exact abg (fun h=>absurd (h.2.2 hip) (by omega)));clear hgd HO;generalize l[i]=x at *;generalize l[i - 1]=y at *;have d0:decide (x<0)=false:=abg e0;have d1:decide (n<=x)=false:=abg e1;have d2:decide (0<(i:Int))=true:=cJ (by omega);have d3:decide (x<=y)=true:=cJ e3;go_wp2_with fail
       go_quiet (fail)
       go_wp2;go_ret;exact⟨by rw[HE.o];rfl,Fs hB _⟩
      ·have HS:=hid (Nl HI.o (i:=i) (by rw[HO.o];exact cJ ⟨by omega,by omega,fun _=>by omega⟩));clear hgd HO;generalize l[i]=x at *;generalize l[i - 1]=y at *;have d0:decide (x<0)=false:=abg e0;have d1:decide (n<=x)=false:=abg e1;have d2:decide (0<(i:Int))=true:=cJ (by omega);have d3:decide (x<=y)=false:=abg e3;go_wp2_with fail
       go_quiet (fail)
       go_wp2;go_roundw
       case rel=>exact⟨i+1,by omega,by go_num,HS.o,Fs hB _⟩
       case measure=>simp[intOf];omega
  ·obtain rfl:i=l.length:=by omega
   have HE:=hid (HT.o HI.o);go_wp2;go_ret;exact⟨by rw[HE.o];rfl,hB⟩
variable {S vs:List Nat}
def sz (S:List Nat) (v:Nat):Nat:=S[v]?.getD 1
def cnt (S:List Nat):List Nat ->Nat
 |[]=>1
 |v::vs=>sz S v*cnt S vs
theorem U8 (S a b:List Nat):cnt S (a++b)=cnt S a*cnt S b:=by
 induction a with
 |nil=>simp[cnt]
 |cons v a ih=>simp only[fg,cnt,ih,il]
theorem alB (S a:List Nat) (v:Nat):cnt S (a++[v])=cnt S a*sz S v:=by rw[U8];simp[cnt]
def Pos (S:List Nat):Prop:=∀x∈S,1<=x
theorem im (h:Pos S) (v:Nat):1<=sz S v:=by
 rw[sz];cases e:S[v]? with
 |none=>simp
 |some x=>exact h x (apT e)
theorem zg (h:Pos S) (vs:List Nat):1<=cnt S vs:=by
 induction vs with
 |nil=>exact ar _
 |cons v vs ih=>exact iW (im h v) ih
def bM (S:List Nat):List Nat ->Nat ->List Nat
 |[],_=>[]
 |_::vs,k=>(k/cnt S vs)::bM S vs (k % cnt S vs)
theorem ue (S vs:List Nat):∀k,(bM S vs k).length=vs.length:=by
 induction vs with
 |nil=>intro _;rfl
 |cons v vs ih=>intro k;simp[bM,ih]
theorem aas (k c s:Nat):k % (s*c)/c=k/c % s:=by
 rw[abr s c,Nat.mod_mul_right_div_self]
theorem SG (k c s:Nat):k % (s*c) % c=k % c:=by
 rw[abr s c,Nat.mod_mul_right_mod]
def aO (S:List Nat):List Nat ->Nat ->Nat ->Nat
 |[],_,_=>0
 |u::vs,k,v=>if v=u then k/cnt S vs else aO S vs (k % cnt S vs) v
theorem Bg:∀ {vs:List Nat} {k v:Nat},¬v∈vs ->aO S vs k v=0
 |[],_,_,_=>rfl
 |u::vs,k,v,h=>by
  rw[aO,aaO (fun e=>h (by rw[e];exact dJ))];exact Bg fun e=>h (eE _ e)
def stp (S:List Nat):List Nat ->Nat ->Nat
 |[],_=>0
 |u::vs,v=>if v=u then cnt S vs else stp S vs v
theorem Rp:∀ {vs:List Nat} {v:Nat},¬v∈vs ->stp S vs v=0
 |[],_,_=>rfl
 |u::vs,v,h=>by
  rw[stp,aaO (fun e=>h (by rw[e];exact dJ))];exact Rp fun e=>h (eE _ e)
def pos (S:List Nat) (f:Nat ->Nat) (vs:List Nat):Nat:=vs.foldl (fun k v=>k*sz S v+f v) 0
theorem ags (S:List Nat) (f:Nat ->Nat) (vs:List Nat) (v:Nat):pos S f (vs++[v])=pos S f vs*sz S v+f v:=by simp[pos]
def fL (g:Nat ->Nat):List Nat ->Nat
 |[]=>0
 |v::vs=>g v+fL g vs
theorem Yi (g:Nat ->Nat) (a b:List Nat):fL g (a++b)=fL g a+fL g b:=by
 induction a with
 |nil=>simp[fL]
 |cons v a ih=>simp only[fg,fL,ih];omega
theorem GP {g h:Nat ->Nat}:∀ {l:List Nat},(∀v∈l,g v=h v) ->fL g l=fL h l
 |[],_=>rfl
 |v::l,e=>by rw[fL,fL,e v dJ,GP fun u hu=>e u (eE _ hu)]
theorem O5 (S:List Nat) (f:Nat ->Nat):∀(vs:List Nat) (k:Nat),vs.foldl (fun k v=>k*sz S v+f v) k=k*cnt S vs+pos S f vs
 |[],k=>by simp[pos,cnt]
 |v::vs,k=>by
  have e:pos S f (v::vs)=f v*cnt S vs+pos S f vs:=by
   show vs.foldl (fun k v=>k*sz S v+f v) (0*sz S v+f v)=_;rw[O5 S f vs,jw,bT]
  rw[Ef,O5 S f vs,e,cnt,fW,il];omega
theorem Nv (S:List Nat) (f:Nat ->Nat):∀ {vs:List Nat},vs.Nodup ->pos S f vs=fL (fun v=>f v*stp S vs v) vs
 |[],_=>rfl
 |u::vs,h=>by
  rw[pP] at h;rw[pos,Ef,O5,fL,Nv S f h.2,jw,bT];congr 1
  ·rw[stp,aaf rfl]
  ·exact GP fun v hv=>by rw[stp,aaO (fun e=>h.1 (by rw[<- e];exact hv))]
theorem Yj (g:Nat ->Nat) (n:Nat):∀ {vs:List Nat},vs.Nodup ->(∀v∈vs,v<n) ->(∀v,¬v∈vs ->g v=0) ->fL g vs=fL g (List.range n):=by
 intro vs hn hlt h0
 have key:∀ {vs:List Nat},vs.Nodup ->(∀v∈vs,v<n) ->fL g vs=fL (fun v=>if v∈vs then g v else 0) (List.range n):=by
  intro vs;induction vs with
  |nil=>
   intro _ _
   have:∀l:List Nat,fL (fun v=>if v∈([]:List Nat) then g v else 0) l=0:=by
    intro l;induction l with
    |nil=>rfl
    |cons x l ih=>rw[fL,ih];simp
   rw[this];rfl
  |cons u vs ih=>
   intro hn hlt;rw[pP] at hn;rw[fL,ih hn.2 fun v hv=>hlt v (eE _ hv)];have hu:=hlt u dJ
   have one:∀m,u< m ->fL (fun v=>if v∈u::vs then g v else 0) (List.range m)=g u+fL (fun v=>if v∈vs then g v else 0) (List.range m):=by
    intro m;induction m with
    |zero=>intro h;omega
    |succ m FR=>
     intro h;rw[rT,Yi,Yi];by_cases e:u=m
     ·subst e
      have:fL (fun v=>if v∈u::vs then g v else 0) (List.range u)=fL (fun v=>if v∈vs then g v else 0) (List.range u):=GP fun v hv=>by
       (have:¬v=u:=by have:=bG.1 hv;omega);simp[this]
      rw[this];simp[fL,hn.1];omega
     ·rw[FR (by omega)];have:¬m=u:=fun h=>e h.symm;simp[fL,this];omega
   rw[one n hu]
 rw[key hn hlt]
 exact GP fun v _=>by
  by_cases h:v∈vs
  ·rw[aaf h]
  ·rw[aaO h,h0 v h]
theorem stand {other:List Nat} (n k:Nat) (hv:vs.Nodup) (ho:other.Nodup) (hvl:∀v∈vs,v<n) (ER:∀v∈other,v<n):fL (fun v=>aO S vs k v*stp S other v) vs=pos S (aO S vs k) other:=by
 rw[Nv S _ ho,Yj _ n hv hvl,Yj _ n ho ER]
 ·intro v h;rw[Rp h,kY]
 ·intro v h;rw[Bg h,jw]
theorem amJ (u:Nat) (Jz:List Nat) (k v:Nat):aO S (u::Jz) (k % cnt S (u::Jz)) v=if v=u then k/cnt S Jz % sz S u else aO S Jz (k % cnt S Jz) v:=by
 rw[aO,cnt,aas k _ _,SG]
variable {n v:Nat}
def ag (l:List Int):List Nat:=l.map Int.toNat
theorem cS (l:List Int):(ag l).length=l.length:=by simp[ag]
theorem o6 (h:i<l.length):(ag l)[i]'(by rw[cS];exact h)=l[i].toNat:=by simp[ag]
structure eH (l:List Int):Prop where
 one:1<=l.length
 eight:l.length<=8
 each:∀i (h:i<l.length),1<=l[i]/\l[i]<=4
theorem UT (h:ab5 l=true):eH l:=by
 rw[ab5,ia,ei] at h
 exact⟨h.1.1,h.1.2,fun i hi=>by
  have:=eJ.1 h.2 l[i] (bH hi);simpa [Ax] using this⟩
theorem eH.pos (h:eH l):Pos (ag l):=by
 intro x hx;obtain⟨i,hi,rfl⟩:=List.mem_iff_getElem.1 hx;rw[cS] at hi;rw[o6 hi];have:=h.each i hi;omega
theorem eH.sz_le (h:eH l) (v:Nat):sz (ag l) v<=4:=by
 rw[sz];by_cases hv:v<l.length
 ·rw[af (by rw[cS];exact hv),zV,o6 hv];have:=h.each v hv;omega
 ·rw[iF (by rw[cS];omega)];simp
theorem eH.sz_eq (h:eH l) (hv:v<l.length):(sz (ag l) v:Int)=l[v]:=by
 rw[sz,af (by rw[cS];exact hv),zV,o6 hv];have:=h.each v hv;omega
structure Up (l:List Int) (n:Nat):Prop where
 each:∀i (h:i<l.length),0<=l[i]/\l[i]<n
 lt:∀i j (hj:j<l.length) (hi:i<j),l[i]<l[j]
theorem Al (h:dD l n=true):Up l n:=by
 have aM:∀i (hi:i<l.length),0<=l[i]/\l[i]<(n:Int)/\(0< i ->l.getD (i - 1) 0<l[i]):=fun i hi=>by
  have:=eJ.1 h i (bG.2 hi);rw[lu,ei,getD_eq hi] at this;exact this
 refine⟨fun i hi=>⟨(aM i hi).1,(aM i hi).2.1⟩,?_⟩;intro i j;induction j with
 |zero=>intro _ h;omega
 |succ j ih=>
  intro hj hi;have h1:=(aM (j+1) hj).2.2 (by omega);rw[ML,getD_eq (by omega)] at h1;rcases cD i j with h2 |h2
  ·have:=ih (by omega) h2;omega
  ·obtain rfl:i=j:=by omega
   exact h1
theorem Up.nat (h:Up l n) (hi:i<l.length):((l[i].toNat:Nat):Int)=l[i]/\l[i].toNat<n:=by
 have:=h.each i hi;constructor<;>omega
theorem Up.aa (h:Up l n):∀v∈ag l,v<n:=by
 intro v hv;obtain⟨i,hi,rfl⟩:=List.mem_iff_getElem.1 hv;rw[cS] at hi;rw[o6 hi];exact(h.nat hi).2
theorem Up.nodup (h:Up l n):(ag l).Nodup:=by
 rw[List.Nodup,Cg];intro i j hi hj CP;rw[cS] at hi hj;rw[o6 hi,o6 hj];have h1:=h.lt i j hj CP;have h2:=h.each i hi;omega
theorem Up.ge (h:Up l n):∀i (hi:i<l.length),(i:Int)<=l[i]:=by
 intro i;induction i with
 |zero=>intro hi;exact(h.each 0 hi).1
 |succ i ih=>
  intro hi;have:=ih (by omega);have:=h.lt i (i+1) hi (by omega);omega
theorem Up.length (h:Up l n):l.length<=n:=by
 rcases zY l.length with h0 |h0
 ·omega
 ·have h1:=h.ge (l.length - 1) (by omega);have h2:=(h.each (l.length - 1) (by omega)).2;omega
theorem acB (h:∀v,sz S v<=4):∀vs:List Nat,cnt S vs<=4^vs.length
 |[]=>ar _
 |v::vs=>by
  rw[cnt,eU,jc,abr (4^_)];exact iW (h v) (acB h vs)
theorem pw (h:∀v,sz S v<=4) (hv:vs.length<=8):cnt S vs<=65536:=by
 have h1:=acB h vs;have h2:4^vs.length<=4^8:=lW (by decide) hv;have h3:(4:Nat)^8=65536:=by decide
 omega
theorem acz (S vs:List Nat) (h:i<vs.length):cnt S (vs.take (i+1))=cnt S (vs.take i)*sz S vs[i]:=by
 rw[fR h,alB]
def countB (sizes vars:List Int):Bool:=ab5 sizes&&dD vars sizes.length
def gm (sizes vars:List Int):Int×Int:=if countB sizes vars=true then(((cnt (ag sizes) (ag vars):Nat):Int),0) else(0,11)
theorem Fl {sizes vars:List Int} (h:countB sizes vars=true):gm sizes vars=(((cnt (ag sizes) (ag vars):Nat):Int),0):=aaf h
theorem Fm {sizes vars:List Int} (h:countB sizes vars=false):gm sizes vars=(0,11):=aaO (by rw[h];decide)
theorem RO (a b:Option Addr) (ca cb:Nat) (sizes vars:List Int) (w:World) (hs:aaK w a sizes) (hv:aaK w b vars) (hn:sizes.length<=140737488355328) (hm:vars.length<=140737488355328):
  Calls Tryz.prog 55 #[.slice a sizes.length ca,.slice b vars.length cb] w fun e w'=>e=.returned (.tuple #[.int .i64 (gm sizes vars).1,.int .i64 (gm sizes vars).2])/\Below w.heap.size w w':=by
 have HS:=hid hs;have HV:=hid hv;clear hs hv;have x5:=hid (fun V h=>af7 a ca sizes V h hn);have zA:=hid (fun V h=>ad3 b cb vars sizes.length V h hm);cases hf:ab5 sizes with
 |false=>
  have HA:=hid (Fm (sizes:=sizes) (vars:=vars) (by rw[countB,hf];rfl));rw[hf] at x5;generalize gm sizes vars=r at *;generalize dD vars sizes.length=rb at *;go_enter Tryz.func55,Tryz.ntmps55;go_wp2_with fail
  refine(x5.o _ HS.o).ae ?_;rintro e w1 ⟨rfl,hb1⟩;go_wp2_with fail
  refine(zA.o _ (HV.o.aa hb1)).ae ?_;rintro e w2 ⟨rfl,hb2⟩;have hB2:=hb1.trans (hb2.ae hb1.size);go_wp2;go_ret2;exact⟨by rw[HA.o];rfl,hB2⟩
 |true=>
  rw[hf] at x5;cases hr:dD vars sizes.length with
  |false=>
   have HA:=hid (Fm (sizes:=sizes) (vars:=vars) (by rw[countB,hr,Bool.and_false]));rw[hr] at zA;generalize gm sizes vars=r at *;go_enter Tryz.func55,Tryz.ntmps55;go_wp2_with fail
   refine(x5.o _ HS.o).ae ?_;rintro e w1 ⟨rfl,hb1⟩;go_wp2_with fail
   refine(zA.o _ (HV.o.aa hb1)).ae ?_;rintro e w2 ⟨rfl,hb2⟩;have hB2:=hb1.trans (hb2.ae hb1.size);go_wp2;go_ret2;exact⟨by rw[HA.o];rfl,hB2⟩
  |true=>
   have HA:=hid (Fl (sizes:=sizes) (vars:=vars) (by rw[countB,hf,hr];rfl));rw[hr] at zA;have TF:=UT hf;have aX:=Al hr;have nD:=TF.eight;have hvl:=aX.length;have HFI:=hid TF;have gz:=hid aX;clear hf hr TF aX;generalize gm sizes vars=r at *;go_enter Tryz.func55,Tryz.ntmps55;go_wp2_with fail
   refine(x5.o _ HS.o).ae ?_;rintro e w1 ⟨rfl,hb1⟩;go_wp2_with fail
   refine(zA.o _ (HV.o.aa hb1)).ae ?_;rintro e w2 ⟨rfl,hb2⟩;have hB2:=hb1.trans (hb2.ae hb1.size);clear hb1 hb2;go_wp2_with fail
   go_loopw [8,9] (fun nv iv wr=>∃i:Nat,i<=vars.length/\iv=.int .i64 i/\nv=.int .i64 (cnt (ag sizes) ((ag vars).take i):Nat)/\Below w.heap.size w wr) (fun _ iv _=>vars.length - (intOf iv).toNat)
   case atStart=>exact⟨0,aU _,rfl,rfl,hB2⟩
   case round=>
    obtain⟨i,hi,rfl,rfl,hB⟩:=hrel;by_cases hlt:i<vars.length
    ·obtain⟨g,o,rfl,hg,c0⟩:=(HV.o.aa hB) i hlt;obtain⟨gO,gH⟩:=gz.o.nat hlt
     have hst:cnt (ag sizes) ((ag vars).take (i+1))=cnt (ag sizes) ((ag vars).take i)*sz (ag sizes) vars[i].toNat:=by
      rw[acz _ _ (by rw[cS];exact hlt),o6 hlt]
     have hsm:cnt (ag sizes) ((ag vars).take (i+1))<=65536:=pw HFI.o.sz_le (by rw[eZ,cS];omega);generalize hV:vars[i].toNat=v at *;rw[<- gO] at c0;obtain⟨g',o',rfl,iK,c1⟩:=(HS.o.aa hB) v gH;rw[<- HFI.o.sz_eq gH] at c1;rw[hst] at hsm;have eN:((cnt (ag sizes) ((ag vars).take i):Nat):Int)*((sz (ag sizes) v:Nat):Int)=((cnt (ag sizes) ((ag vars).take i)*sz (ag sizes) v:Nat):Int):=(iH _ _).symm;have HST:=hid hst;clear hst gO hV;generalize cnt (ag sizes) ((ag vars).take i)=X at *;generalize sz (ag sizes) v=Y at *;(have vr:0<=(X:Int)*(Y:Int):=by rw[eN];omega);(have CJ:(X:Int)*(Y:Int)<=65536:=by rw[eN];omega);have q8:=hid eN;clear eN;go_wp2;go_roundw
     case rel=>exact⟨i+1,by omega,by go_num,by rw[HST.o, <- q8.o],hB⟩
     case measure=>simp[intOf];omega
    ·obtain rfl:i=vars.length:=by omega
     rw[jd (by rw[cS];exact ar _)];go_wp2;go_ret2;exact⟨by rw[HA.o];rfl,hB⟩
theorem A9 {l:List Nat} (h:i<l.length):l.getD i 0=l[i]:=by simp[List.getD,h]
theorem Ph {sizes vars:List Int} (h:countB sizes vars=true):eH sizes/\Up vars sizes.length:=by
 rw[countB,ia] at h;exact⟨UT h.1,Al h.2⟩
theorem aix (a:Option Addr) (cap:Nat) (l:List Int) (w:World) (h:aaK w a l) (hn:l.length<=140737488355328):
  Calls Tryz.prog 80 #[.slice a l.length cap] w fun e w'=>e=.returned (.bool (ab5 l))/\Below w.heap.size w w':=by
 have HF:=hid h;clear h;by_cases hl:1<=l.length/\l.length<=8
 ·have HB:Hid (ab5 l=l.all Ax):=by show _=_;rw[ab5,cJ hl];rfl
  obtain⟨hl1,hl2⟩:=hl;generalize ab5 l=fb at *;go_enter Tryz.func80,Tryz.ntmps80;go_wp2_with fail
  go_loopw [15] (fun iv wr=>∃i:Nat,i<=l.length/\iv=.int .i64 i/\Hid ((l.take i).all Ax=true)/\Below w.heap.size w wr) (fun iv _=>l.length - (intOf iv).toNat)
  case atStart=>exact⟨0,aU _,rfl,rfl,au _ _⟩
  case round=>
   obtain⟨i,hi,rfl,HI,hB⟩:=hrel;by_cases hlt:i<l.length
   ·obtain⟨g,o,rfl,hg,c0⟩:=(HF.o.aa hB) i hlt;by_cases e:1<=l[i]/\l[i]<=4
    ·have HS:=hid (ac1 hlt HI.o (p:=Ax) (cJ e));obtain⟨e1,e2⟩:=e;generalize l[i]=x at *;go_wp2;go_roundw
     case rel=>exact⟨i+1,by omega,by go_num,HS.o,hB⟩
     case measure=>simp[intOf];omega
    ·have HE:Hid (fb=false):=by show _=_;rw[HB.o];exact ac2 hlt (abg e)
     rcases (show l[i]<1∨(1<=l[i]/\4<l[i]) by omega) with h3 |⟨h3,h4⟩
     all_goals
      clear e;generalize l[i]=x at *;go_wp2;go_ret;exact⟨by rw[HE.o];rfl,hB⟩
   ·have HE:Hid (fb=true):=by
     show _=_;rw[HB.o];have:=HI.o;rwa [jd (by omega)] at this
    go_wp2;go_ret;exact⟨by rw[HE.o];rfl,hB⟩
 ·have HE:Hid (ab5 l=false):=by show _=_;rw[ab5,abg hl];rfl
  generalize ab5 l=fb at *;go_enter Tryz.func80,Tryz.ntmps80;rcases (show l.length<1∨(1<=l.length/\8<l.length) by omega) with h3 |⟨h3,h4⟩
  all_goals
   go_wp2;go_ret;exact⟨by rw[HE.o];rfl,au _ _⟩
def least (l:List Int) (i:Nat):Int:=if i=0 then 0 else l.getD (i - 1) 0+1
theorem aaI (h:i<l.length):least l (i+1)=l[i]+1:=by
 rw[least,aaO (by omega),ML,getD_eq h]
theorem Z2 {n:Int} (hi:i<l.length) (h:(List.range i).all (lu l n)=true):lu l n i=decide (least l i<=l[i]/\l[i]<n)/\0<=least l i:=by
 rw[lu,getD_eq hi,least];by_cases h0:i=0
 ·subst h0;refine⟨?_,by simp⟩;simp
 ·have hp:=eJ.1 h (i - 1) (bG.2 (by omega));rw[lu,ei,getD_eq (by omega)] at hp;rw[aaO h0,getD_eq (by omega)];refine⟨?_,by omega⟩;rw[zP];constructor
  ·intro ⟨_,h2,h3⟩;have:=h3 (by omega);exact⟨by omega,h2⟩
  ·intro ⟨h1,h2⟩;exact⟨by omega,h2,fun _=>by omega⟩
theorem afC (a:Option Addr) (cap:Nat) (l:List Int) (n:Int) (w:World) (h:aaK w a l) (hn:l.length<=140737488355328) (nB:n<=140737488355328):
  Calls Tryz.prog 81 #[.slice a l.length cap,.int .i64 n] w fun e w'=>e=.returned (.bool (dD l n))/\Below w.heap.size w w':=by
 have HF:=hid h;clear h;have HB:=hid (fun i h e=>RA (l:=l) (n:=n) (i:=i) h e);have HT:Hid ((List.range l.length).all (lu l n)=true ->dD l n=true):=id;generalize dD l n=rb at *;go_enter Tryz.func81,Tryz.ntmps81;go_wp2_with fail
 go_loopw [5,10] (fun lv iv wr=>∃i:Nat,i<=l.length/\iv=.int .i64 i/\lv=.int .i64 (least l i)/\Hid ((List.range i).all (lu l n)=true)/\Below w.heap.size w wr) (fun _ iv _=>l.length - (intOf iv).toNat)
 case atStart=>exact⟨0,aU _,rfl,rfl,rfl,au _ _⟩
 case round=>
  obtain⟨i,hi,rfl,rfl,HI,hB⟩:=hrel;by_cases hlt:i<l.length
  ·obtain⟨g,o,rfl,hg,c0⟩:=(HF.o.aa hB) i hlt;obtain⟨aM,hl0⟩:=Z2 hlt HI.o;have vT:=hid (aaI hlt);have zE:=hid aM;clear aM;generalize least l i=m at *;generalize l[i]=x at *;by_cases e:m<=x/\x<n
   ·have HS:=hid (Nl HI.o (by rw[zE.o];exact cJ e));obtain⟨e1,e2⟩:=e;go_wp2;go_roundw
    case rel=>exact⟨i+1,by omega,by go_num,by rw[vT.o],HS.o,hB⟩
    case measure=>simp[intOf];omega
   ·have HE:=hid (HB.o i hlt (by rw[zE.o];exact abg e));rcases (show x<m∨(m<=x/\n<=x) by omega) with h3 |⟨h3,h4⟩
    all_goals
     clear e;go_wp2;go_ret;exact⟨by rw[HE.o];rfl,hB⟩
  ·obtain rfl:i=l.length:=by omega
   have HE:=hid (HT.o HI.o);go_wp2;go_ret;exact⟨by rw[HE.o];rfl,hB⟩
theorem acx (a b:Option Addr) (ca cb:Nat) (sizes vars:List Int) (w:World) (hs:aaK w a sizes) (hv:aaK w b vars) (aJ:eH sizes) (aX:Up vars sizes.length):
  Calls Tryz.prog 82 #[.slice a sizes.length ca,.slice b vars.length cb] w fun e w'=>e=.returned (.int .i64 (cnt (ag sizes) (ag vars):Nat))/\Below w.heap.size w w':=by
 have HS:=hid hs;have HV:=hid hv;have nD:=aJ.eight;have hvl:=aX.length;have HFI:=hid aJ;have gz:=hid aX;clear hs hv aJ aX;have tj:Hid (cnt (ag sizes) ((ag vars).take vars.length)=cnt (ag sizes) (ag vars)):=by show _=_;rw[jd (by rw[cS];exact ar _)]
 go_enter Tryz.func82,Tryz.ntmps82;go_wp2_with fail
 go_loopw [5,10] (fun nv iv wr=>∃i:Nat,i<=vars.length/\iv=.int .i64 i/\nv=.int .i64 (cnt (ag sizes) ((ag vars).take i):Nat)/\Below w.heap.size w wr) (fun _ iv _=>vars.length - (intOf iv).toNat)
 case atStart=>exact⟨0,aU _,rfl,rfl,au _ _⟩
 case round=>
  obtain⟨i,hi,rfl,rfl,hB⟩:=hrel;by_cases hlt:i<vars.length
  ·obtain⟨g,o,rfl,hg,c0⟩:=(HV.o.aa hB) i hlt;obtain⟨gO,gH⟩:=gz.o.nat hlt
   have hst:cnt (ag sizes) ((ag vars).take (i+1))=cnt (ag sizes) ((ag vars).take i)*sz (ag sizes) vars[i].toNat:=by
    rw[acz _ _ (by rw[cS];exact hlt),o6 hlt]
   have hsm:cnt (ag sizes) ((ag vars).take (i+1))<=65536:=pw HFI.o.sz_le (by rw[eZ,cS];omega);generalize hV:vars[i].toNat=v at *;rw[<- gO] at c0;obtain⟨g',o',rfl,iK,c1⟩:=(HS.o.aa hB) v gH;rw[<- HFI.o.sz_eq gH] at c1;rw[hst] at hsm;have eN:((cnt (ag sizes) ((ag vars).take i):Nat):Int)*((sz (ag sizes) v:Nat):Int)=((cnt (ag sizes) ((ag vars).take i)*sz (ag sizes) v:Nat):Int):=(iH _ _).symm;have HST:=hid hst;clear hst gO hV;generalize cnt (ag sizes) ((ag vars).take i)=X at *;generalize sz (ag sizes) v=Y at *;(have vr:0<=(X:Int)*(Y:Int):=by rw[eN];omega);(have CJ:(X:Int)*(Y:Int)<=65536:=by rw[eN];omega);have q8:=hid eN;clear eN;go_wp2;go_roundw
   case rel=>exact⟨i+1,by omega,by go_num,by rw[HST.o, <- q8.o],hB⟩
   case measure=>simp[intOf];omega
  ·obtain rfl:i=vars.length:=by omega
   rw[tj.o];go_wp2;go_ret;exact⟨rfl,hB⟩
theorem Nc (a b:Option Addr) (ca cb:Nat) (sizes vars:List Int) (w:World) (hs:aaK w a sizes) (hv:aaK w b vars) (hn:sizes.length<=140737488355328) (hm:vars.length<=140737488355328):
  Calls Tryz.prog 37 #[.slice a sizes.length ca,.slice b vars.length cb] w fun e w'=>e=.returned (.tuple #[.int .i64 (gm sizes vars).1,.int .i64 (gm sizes vars).2])/\Below w.heap.size w w':=by
 have HS:=hid hs;have HV:=hid hv;clear hs hv;have x5:=hid (fun V h=>aix a ca sizes V h hn);have zA:=hid (fun V h=>afC b cb vars sizes.length V h hm (by omega));cases hf:ab5 sizes with
 |false=>
  have HA:=hid (Fm (sizes:=sizes) (vars:=vars) (by rw[countB,hf];rfl));rw[hf] at x5;generalize gm sizes vars=r at *;go_enter Tryz.func37,Tryz.ntmps37;go_wp2_with fail
  refine(x5.o _ HS.o).ae ?_;rintro e w1 ⟨rfl,hb1⟩;go_wp2;go_ret2;exact⟨by rw[HA.o];rfl,hb1⟩
 |true=>
  rw[hf] at x5;cases hr:dD vars sizes.length with
  |false=>
   have HA:=hid (Fm (sizes:=sizes) (vars:=vars) (by rw[countB,hr,Bool.and_false]));rw[hr] at zA;generalize gm sizes vars=r at *;go_enter Tryz.func37,Tryz.ntmps37;go_wp2_with fail
   refine(x5.o _ HS.o).ae ?_;rintro e w1 ⟨rfl,hb1⟩;go_wp2_with fail
   refine(zA.o _ (HV.o.aa hb1)).ae ?_;rintro e w2 ⟨rfl,hb2⟩;have hB2:=hb1.trans (hb2.ae hb1.size);go_wp2;go_ret2;exact⟨by rw[HA.o];rfl,hB2⟩
  |true=>
   have HA:=hid (Fl (sizes:=sizes) (vars:=vars) (by rw[countB,hf,hr];rfl));rw[hr] at zA;have ye:=hid (fun V h1 h2=>acx a b ca cb sizes vars V h1 h2 (UT hf) (Al hr));generalize gm sizes vars=r at *;go_enter Tryz.func37,Tryz.ntmps37;go_wp2_with fail
   refine(x5.o _ HS.o).ae ?_;rintro e w1 ⟨rfl,hb1⟩;go_wp2_with fail
   refine(zA.o _ (HV.o.aa hb1)).ae ?_;rintro e w2 ⟨rfl,hb2⟩;have hB2:=hb1.trans (hb2.ae hb1.size);go_wp2_with fail
   refine(ye.o _ (HS.o.aa hB2) (HV.o.aa hB2)).ae ?_;rintro e w3 ⟨rfl,hb3⟩;go_wp2;go_ret2;exact⟨by rw[HA.o];rfl,hB2.trans (hb3.ae hB2.size)⟩
theorem aiM (a:Option Addr) (ca:Nat) (sizes:List Int) (v:Nat) (x:Int) (w:World) (hs:aaK w a sizes) (aJ:eH sizes) (hv:v<sizes.length):
  Calls Tryz.prog 154 #[.slice a sizes.length ca,.int .i64 (v:Nat),.int .i64 x] w fun e w'=>e=.returned (.bool (decide (0<=x/\x<(sz (ag sizes) v:Int))))/\Below w.heap.size w w':=by
 obtain⟨g,o,rfl,hg,c0⟩:=hs v hv;rw[<- aJ.sz_eq hv] at c0;have nD:=aJ.eight;generalize sz (ag sizes) v=Y at *;by_cases e:0<=x/\x<(Y:Int)
 ·rw[cJ e];obtain⟨e1,e2⟩:=e;go_enter Tryz.func154,Tryz.ntmps154;go_wp2;go_ret;exact⟨rfl,au _ _⟩
 ·rw[abg e];rcases (show x<0∨(0<=x/\(Y:Int)<=x) by omega) with h3 |⟨h3,h4⟩
  all_goals
   clear e;go_enter Tryz.func154,Tryz.ntmps154;go_wp2;go_ret
   first
    |exact⟨rfl,au _ _⟩
    |exact⟨bR (fun b=>Ending.returned (Value.bool b)) (abg (by omega)),au _ _⟩
def aA:List Nat ->Nat
 |[]=>0
 |v::l=>aA l |||2^v
theorem rD (l:List Nat) (v:Nat):(aA l).testBit v=decide (v∈l):=by
 induction l with
 |nil=>simp[aA]
 |cons u l ih=>
  rw[aA,Nat.testBit_or,ih,Nat.testBit_two_pow];by_cases h:u=v
  ·subst h;simp
  ·have h':¬v=u:=fun e=>h e.symm;simp[h,h']
theorem SB {a b:List Nat} (h:∀x,x∈a↔x∈b):aA a=aA b:=by
 apply MK;intro i;rw[rD,rD];exact zP.2 (h i)
theorem uT:∀ {l:List Nat},(∀v∈l,v<8) ->aA l<256
 |[],_=>by decide
 |v::l,h=>by
  have h1:=uT (l:=l) fun u hu=>h u (eE _ hu);have h2:2^v<2^8:=QF (by decide) (h v dJ);exact Nat.or_lt_two_pow (n:=8) h1 h2
theorem amt (s v:Nat):(s/2^v&&&1=1)↔s.testBit v=true:=by
 rw[Nat.testBit_eq_decide_div_mod_eq,ei,Nat.and_one_is_mod]
theorem ajm {s p:Nat} (hs:s<256) (hp:p<256):(p&&&(4294967295 - s)=0)↔∀v,p.testBit v=true ->s.testBit v=true:=by
 have e:4294967295 - s=2^32 - (s+1):=by omega
 have hs':s<2^32:=by omega
 rw[e];constructor
 ·intro h v hv;have h1:(p&&&(2^32 - (s+1))).testBit v=false:=by rw[h];simp
  rw[aps,hv,QD hs',Jj] at h1
  have hlt:v<32:=by
   rcases cD v 32 with h2 |h2
   ·exact h2
   ·have:=Nat.testBit_lt_two_pow (x:=p) (i:=v) (aR (show p<2^32 by omega) (lW (by decide) h2));rw[this] at hv;cases hv
  simpa [hlt] using h1
 ·intro h;apply MK;intro i;rw[aps,QD hs',Nat.zero_testBit];cases hp':p.testBit i
  ·rfl
  ·rw[h i hp'];simp
theorem GW (l:List Nat) (v:Nat) (w:World) (hl:∀u∈l,u<8) (hv:v<8):
  Calls Tryz.prog 143 #[.int .u32 (aA l:Nat),.int .i64 (v:Nat)] w fun e w'=>e=.returned (.int .u32 (aA (v::l):Nat))/\w'=w:=by
 have hs:=uT hl;have h2:2^v<256:=show 2^v<2^8 from QF (by decide) hv
 have HE:Hid (bits BinOp.or IntKind.u32 (aA l:Nat) (2^v % 4294967296)=((aA (v::l):Nat):Int)):=by
  show _=_
  have e:((2:Int)^v % 4294967296)=((2^v:Nat):Int):=by
   (have e2:((2:Int)^v)=((2^v:Nat):Int):=by rw[Int.natCast_pow];rfl);rw[e2];generalize (2^v:Nat)=q at *;omega
  rw[e,u32_or_nat _ _ (by omega) (by omega)];rfl
 generalize aA (v::l)=r at *;generalize aA l=s at *;go_enter Tryz.func143,Tryz.ntmps143;go_wp2;go_ret;exact⟨by rw[HE.o];rfl,rfl⟩
theorem Ry (l:List Nat) (v:Nat) (w:World) (hl:∀u∈l,u<8) (hv:v<8):
  Calls Tryz.prog 129 #[.int .u32 (aA l:Nat),.int .i64 (v:Nat)] w fun e w'=>e=.returned (.bool (decide (v∈l)))/\w'=w:=by
 have hs:=uT hl
 have HE:Hid ((bits BinOp.and IntKind.u32 ((aA l:Nat)/2^v) 1==1)=decide (v∈l)):=by
  show _=_;have e:(((aA l:Nat):Int)/2^v)=((aA l/2^v:Nat):Int):=by rw[tC,Int.natCast_pow];rfl
  have hle:aA l/2^v<=aA l:=wh _ _;rw[e,show (1:Int)=((1:Nat):Int) from rfl,u32_and_nat _ _ (by omega) (by omega), <- rD,ac6, <- amt,rp];omega
 generalize decide (v∈l)=r at *;generalize aA l=s at *;go_enter Tryz.func129,Tryz.ntmps129;go_wp2;go_ret;exact⟨by rw[HE.o];rfl,rfl⟩
theorem afw (l p:List Nat) (w:World) (hl:∀u∈l,u<8) (hp:∀u∈p,u<8):
  Calls Tryz.prog 173 #[.int .u32 (aA l:Nat),.int .u32 (aA p:Nat)] w fun e w'=>e=.returned (.bool (decide (∀v∈p,v∈l)))/\w'=w:=by
 have hs:=uT hl;have hq:=uT hp
 have HE:Hid ((bits BinOp.andNot IntKind.u32 (aA p:Nat) (aA l:Nat)==0)=decide (∀v∈p,v∈l)):=by
  show _=_;have hi:=ajm hs hq;simp only[rD,QA] at hi;rw[u32_andNot_nat _ _ (by omega) (by omega),ac6,rp,ei, <- hi];omega
 generalize decide (∀v∈p,v∈l)=r at *;generalize aA l=s at *;generalize aA p=t at *;go_enter Tryz.func173,Tryz.ntmps173;go_wp2;go_ret;exact⟨by rw[HE.o];rfl,rfl⟩
theorem YZ (hn:n<=8) (h:(List.range i).all (lu l n)=true) (hi:i<=l.length):∀u∈ag (l.take i),u<8:=by
 intro u hu;obtain⟨x,hx,rfl⟩:=aaQ.1 hu;obtain⟨j,hj,rfl⟩:=iE hx;rw[eZ] at hj;have h1:=eJ.1 h j (bG.2 (by omega));rw[lu,ei,getD_eq (by omega)] at h1;rw[Aa];omega
def setA (l:List Int) (n:Nat):Nat:=if dD l n=true then aA (ag l) else 0
theorem YI (a:Option Addr) (cap:Nat) (l:List Int) (n:Nat) (w:World) (h:aaK w a l) (hn:l.length<=140737488355328) (nB:n<=8):
  Calls Tryz.prog 125 #[.slice a l.length cap,.int .i64 (n:Nat)] w fun e w'=>e=.returned (.tuple #[.int .u32 (setA l n:Nat),.bool (dD l n)])/\w'=w:=by
 have HF:=hid h;clear h;have HB:=hid (fun i h e=>RA (l:=l) (n:=n) (i:=i) h e);have HT:Hid ((List.range l.length).all (lu l n)=true ->dD l n=true):=id;have HA1:Hid (dD l n=true ->setA l n=aA (ag l)):=fun h=>aaf h;have BX:Hid (dD l n=false ->setA l n=0):=fun h=>aaO (by rw[h];decide);generalize dD l n=rb at *;generalize setA l n=ra at *;go_enter Tryz.func125,Tryz.ntmps125;go_wp2_with fail
 go_loopw [6,7,12] (fun sv lv iv wr=>∃i:Nat,i<=l.length/\iv=.int .i64 i/\lv=.int .i64 (least l i)/\sv=.int .u32 (aA (ag (l.take i)):Nat)/\Hid ((List.range i).all (lu l n)=true)/\wr=w) (fun _ _ iv _=>l.length - (intOf iv).toNat)
 case atStart=>exact⟨0,aU _,rfl,rfl,rfl,rfl,rfl⟩
 case round=>
  obtain⟨i,hi,rfl,rfl,rfl,HI,rfl⟩:=hrel;by_cases hlt:i<l.length
  ·obtain⟨g,o,rfl,hg,c0⟩:=HF.o i hlt;obtain⟨aM,hl0⟩:=Z2 hlt HI.o;have vT:=hid (aaI hlt);have zE:=hid aM;have Iu:=hid (YZ nB HI.o hi)
   have HST:Hid (∀x:Nat,(x:Int)=l[i] ->aA (x::ag (l.take i))=aA (ag (l.take (i+1)))):=fun x hx=>SB fun z=>by
    rw[fR hlt, <- hx,ag,ag,fY];simp only[dK,aa5,gQ,ld,qG,acA,pT];exact or_comm
   clear aM;generalize hs1:aA (ag (l.take (i+1)))=s1 at *;have j5:=hid hs1;clear hs1;generalize ag (l.take i)=pre at *;generalize least l i=m at *;generalize l[i]=x at *;by_cases e:m<=x/\x<n
   ·have HS:=hid (Nl HI.o (by rw[zE.o];exact cJ e));obtain⟨e1,e2⟩:=e;obtain⟨X,rfl⟩:∃X:Nat,x=X:=⟨x.toNat,by omega⟩;have hst:=HST.o X rfl;go_wp2_with fail
    refine(GW pre X _ Iu.o (by omega)).ae ?_;rintro e w1 ⟨rfl,rfl⟩;rw[hst];go_wp2;go_roundw
    case rel=>exact⟨i+1,by omega,by go_num,by rw[vT.o],by rw[j5.o],HS.o,trivial⟩
    case measure=>simp[intOf];omega
   ·have HE:=hid (HB.o i hlt (by rw[zE.o];exact abg e));rcases (show x<m∨(m<=x/\(n:Int)<=x) by omega) with h3 |⟨h3,h4⟩
    all_goals
     clear e;go_wp2;go_ret2;exact⟨by rw[BX.o HE.o,HE.o];rfl,rfl⟩
  ·obtain rfl:i=l.length:=by omega
   have HE:=hid (HT.o HI.o);have HA:=hid (HA1.o HE.o);rw[fJ];go_wp2;go_ret2;exact⟨by rw[HA.o,HE.o];rfl,rfl⟩
theorem GQ {α:Type} {P:List α ->Prop} (h0:P []) (h1:∀l a,P l ->P (l++[a])) (l:List α):P l:=by
 have h:∀m:List α,P m.reverse:=by
  intro m;induction m with
  |nil=>exact h0
  |cons a m ih=>rw[List.reverse_cons];exact h1 _ _ ih
 have:=h l.reverse;rwa [List.reverse_reverse] at this
def nb (l:List UInt8):Nat:=l.foldl (fun n c=>n*256+c.toNat) 0
theorem Ev:nb []=0:=rfl
theorem yF (l:List UInt8) (c:UInt8):nb (l++[c])=nb l*256+c.toNat:=by simp[nb]
theorem Cx (a b:List UInt8):nb (a++b)=nb a*256^b.length+nb b:=by
 induction b using GQ with
 |h0=>simp[Ev]
 |h1 l c ih=>
  rw[<- rW,yF,ih,yF,dM,MO,jc,fW,il,yo]
theorem ahR (c:UInt8):nb [c]=c.toNat:=by simp[nb]
theorem Ew (c:UInt8) (l:List UInt8):nb (c::l)=c.toNat*256^l.length+nb l:=by
 have:=Cx [c] l;rwa [List.singleton_append,ahR] at this
theorem tH (l:List UInt8):nb l<256^l.length:=by
 induction l using GQ with
 |h0=>simp[Ev]
 |h1 l c ih=>
  rw[yF,dM,MO,jc];have:=c.toNat_lt;omega
def bn (n:Nat):List UInt8:=if _h:n=0 then[] else bn (n/256)++[UInt8.ofNat (n % 256)]
theorem qj:bn 0=[]:=by rw[bn];simp
theorem qm (n:Nat) (h:n≠0):bn n=bn (n/256)++[UInt8.ofNat (n % 256)]:=by rw[bn];simp[h]
theorem ofNat_toNat (n:Nat):(UInt8.ofNat (n % 256)).toNat=n % 256:=by simp
theorem Sz (n:Nat):nb (bn n)=n:=by
 induction n using Nat.strongRecOn with
 |ind n ih=>
  by_cases h:n=0
  ·subst h;simp[qj,Ev]
  ·rw[qm n h,yF,ih (n/256) (by omega),ofNat_toNat];omega
theorem amr (n:Nat) (c:UInt8) (h:n≠0∨c.toNat≠0):bn (n*256+c.toNat)=bn n++[c]:=by
 have hc:=c.toNat_lt;rw[qm _ (by omega),show (n*256+c.toNat)/256=n by omega,show (n*256+c.toNat) % 256=c.toNat by omega];simp
theorem Vf (l:List UInt8):bn (nb l)=l.dropWhile (·==0):=by
 induction l using GQ with
 |h0=>simp[Ev,qj]
 |h1 l c ih=>
  rw[yF];by_cases h:nb l≠0∨c.toNat≠0
  ·rw[amr _ _ h,ih];by_cases hl:l.dropWhile (·==0)=[]
   ·have hz:nb l=0:=by rw[<- Sz (nb l),ih,hl,Ev]
    (have hc:c≠0:=by intro e;subst e;simp[hz] at h);rw[hl,List.dropWhile_append,hl];simp[hc]
   ·rw[List.dropWhile_append];simp[hl]
  ·have h1:nb l=0:=by omega
   (have h2:c.toNat=0:=by omega);(have hc:c=0:=by simpa [<- MH] using h2);rw[h1,h2];rw[h1,qj] at ih;rw[List.dropWhile_append, <- ih];simp[hc,qj]
theorem Vg {a b:Nat} (h:a<=b):(bn a).length<=(bn b).length:=by
 induction a using Nat.strongRecOn generalizing b with
 |ind a ih=>
  by_cases ha:a=0
  ·subst ha;simp[qj]
  ·rw[qm a ha,qm b (by omega)];have:= @ih (a/256) (by omega) (b/256) (by omega);simp;omega
def W:Nat:=4294967296
theorem gW:W=4294967296:=rfl
theorem lM:0<W:=by decide
def nw:List Nat ->Nat
 |[]=>0
 |x::r=>x+W*nw r
theorem nh:nw []=0:=rfl
theorem kH (x:Nat) (r:List Nat):nw (x::r)=x+W*nw r:=rfl
theorem Ay (a b:List Nat):nw (a++b)=nw a+W^a.length*nw b:=by
 induction a with
 |nil=>simp[nh]
 |cons x a ih=>rw[fg,kH,kH,ih,eU,jc,mO];rw[abr (W^a.length) W,il];omega
theorem Cv (a:List Nat) (x:Nat):nw (a++[x])=nw a+W^a.length*x:=by rw[Ay,kH,nh];simp
def Small (l:List Nat):Prop:=∀x∈l,x<W
theorem uQ (l:List Nat) (h:Small l):nw l<W^l.length:=by
 induction l with
 |nil=>simp[nh]
 |cons x r ih=>
  have h1:=ih (fun y hy=>h y (eE _ hy));have h2:=h x (dJ);rw[kH,eU,jc];have:W*(nw r+1)<=W*W^r.length:=kZ _ h1;rw[abr (W^r.length) W];rw[mO] at this;omega
def words (n:Nat):List Nat:=if _h:n=0 then[] else(n % 4294967296)::words (n/4294967296)
theorem wy:words 0=[]:=by rw[words,dif_pos rfl]
theorem Ah (n:Nat) (h:n≠0):words n=(n % W)::words (n/W):=by rw[words,dif_neg h,gW]
theorem Pg (h:n≠0):n/W<n:=Nat.div_lt_self (lX h) (by decide)
theorem kF (n:Nat):nw (words n)=n:=by
 induction n using Nat.strongRecOn with
 |ind n ih=>
  by_cases h:n=0
  ·subst h;simp[wy,nh]
  ·rw[Ah n h,kH,ih _ (Pg h)];exact Nat.mod_add_div n W
theorem mX (n:Nat):Small (words n):=by
 induction n using Nat.strongRecOn with
 |ind n ih=>
  by_cases h:n=0
  ·subst h;simp[wy,Small]
  ·rw[Ah n h];intro x hx;rcases dK.1 hx with rfl |hx
   ·exact jL _ lM
   ·exact ih _ (Pg h) x hx
theorem M5 (n:Nat):words n=[]↔n=0:=by
 constructor
 ·intro h;rw[<- kF n,h,nh]
 ·rintro rfl;exact wy
theorem Xt (n:Nat) (h:words n≠[]):(words n).getLast h≠0:=by
 induction n using Nat.strongRecOn with
 |ind n ih=>
  have hn:n≠0:=fun e=>h ((M5 n).2 e);by_cases h2:words (n/W)=[]
  ·have hz:=(M5 _).1 h2
   have:(words n).getLast h=n % W:=by
    have hw:=Ah n hn;rw[h2] at hw;simp[hw]
   rw[this];intro hm;have:=Nat.mod_add_div n W;rw[hm,hz] at this;simp at this;exact hn this.symm
  ·have:(words n).getLast h=(words (n/W)).getLast h2:=by
    have hw:=Ah n hn;simp only[hw];rw[List.getLast_cons h2]
   rw[this];exact ih _ (Pg hn) h2
theorem adO (l:List Nat) (hs:Small l) (hl:∀h:l≠[],l.getLast h≠0):words (nw l)=l:=by
 induction l with
 |nil=>simp[nh,wy]
 |cons x r ih=>
  have hx:=hs x (dJ);have hr:words (nw r)=r:=ih (fun y hy=>hs y (eE _ hy)) (fun h=>by have:=hl (by simp);rwa [List.getLast_cons h] at this)
  have hne:nw (x::r)≠0:=by
   intro h;rw[kH] at h;(have hx0:x=0:=by omega)
   have Kf:nw r=0:=by
    (have:W*nw r=0:=by omega);rcases Nat.mul_eq_zero.1 this with h |h
    ·simp[W] at h
    ·exact h
   rw[Kf,wy] at hr;subst hr;exact hl (by simp) (by simpa using hx0)
  rw[Ah _ hne,kH,Xd,jM hx,Nat.add_mul_div_left _ _ lM,ym hx,bT,hr]
theorem M6 (n:Nat):(words n).length=((bn n).length+3)/4:=by
 induction n using Nat.strongRecOn with
 |ind n ih=>
  by_cases h:n=0
  ·subst h;simp[wy,qj]
  ·rw[Ah n h,eU,ih _ (Pg h)];by_cases h1:n/256=0
   ·rw[qm n h,h1,qj,show n/W=0 by simp only[W];omega,qj];simp
   ·by_cases h2:n/256/256=0
    ·rw[qm n h,qm _ h1,h2,qj,show n/W=0 by simp only[W];omega,qj];simp
    ·by_cases h3:n/256/256/256=0
     ·rw[qm n h,qm _ h1,qm _ h2,h3,qj,show n/W=0 by simp only[W];omega,qj];simp
     ·rw[qm n h,qm _ h1,qm _ h2,qm _ h3,show n/256/256/256/256=n/W by simp only[W];omega];simp;omega
def part (n i:Nat):Nat:=n/W^i % W
theorem agO (n:Nat):part n 0=n % W:=by rw[part,apd,Ce]
theorem agP (n i:Nat):part n (Nat.succ i)=part (n/W) i:=by rw[part,part,Nat.succ_eq_add_one,jc,abr,QI]
theorem adQ (i:Nat):∀n,i<(words n).length ->(words n)[i]? =some (part n i):=by
 induction i with
 |zero=>
  intro n h;have hn:n≠0:=by rintro rfl;rw[wy] at h;simp at h
  rw[Ah n hn,agO];rfl
 |succ i ih=>
  intro n h;have hn:n≠0:=by rintro rfl;rw[wy] at h;simp at h
  rw[Ah n hn,eU] at h;rw[Ah n hn,List.getElem?_cons_succ,ih _ (Nat.lt_of_succ_lt_succ h), <- agP]
theorem adR (n:Nat):words n=(List.range (words n).length).map (part n):=by
 apply Gu;intro i;rw[oh];by_cases h:i<(words n).length
 ·rw[adQ i n h,List.getElem?_range h];rfl
 ·rw[iF (by omega),iF (by simpa using h)];rfl
theorem am1 (i:Nat):W^i=256^(4*i):=by rw[Nat.pow_mul];rfl
theorem agQ (l:List UInt8) (i:Nat) (h:4*i<=l.length):nb ((l.take (l.length - 4*i)).drop (l.length - 4*i - 4))=part (nb l) i:=by
 have e1:nb (l.take (l.length - 4*i))=nb l/W^i:=by
  have aje:=zZ (l.length - 4*i) l;have hn:=Cx (l.take (l.length - 4*i)) (l.drop (l.length - 4*i));rw[aje] at hn;have hlen:(l.drop (l.length - 4*i)).length=4*i:=by simp;omega
  rw[hlen] at hn;have hlt:=tH (l.drop (l.length - 4*i));rw[hlen] at hlt;have hp:0<256^(4*i):=tB (by decide);rw[am1,hn,Cf,QK _ _ hp,ym hlt,bT]
 rw[part, <- e1];generalize hm:l.take (l.length - 4*i)=m;have hml:m.length=l.length - 4*i:=by rw[<- hm];simp
 rw[<- hml];have hn:=Cx (m.take (m.length - 4)) (m.drop (m.length - 4));rw[zZ] at hn;by_cases h4:4<=m.length
 ·have hlen:(m.drop (m.length - 4)).length=4:=by simp;omega
  have hlt:=tH (m.drop (m.length - 4));rw[hlen] at hn hlt;rw[hn,show (256:Nat)^4=W from rfl,Cf,QJ];exact(jM hlt).symm
 ·have hz:m.length - 4=0:=by omega
  rw[hz,yq];have hlt:=tH m;have:256^m.length<=256^4:=lW (by decide) (by omega);exact(jM (by show nb m<256^4;omega)).symm
theorem Sq (l:List Nat) (k:Nat) (h:k<l.length):nw (l.take (k+1))=nw (l.take k)+W^k*l[k]:=by
 rw[fR h,Cv,eZ,uG (uH h)]
theorem GR {l:List Nat} (h:Small l) (k:Nat):Small (l.take k):=fun x hx=>h x (List.mem_of_mem_take hx)
theorem QW (l:List Nat) (hs:Small l) (k:Nat) (hk:k<=l.length) (hn:nw (l.take k)=nw l) (hl:k=0∨l[k - 1]?.getD 0≠0):words (nw l)=l.take k:=by
 rw[<- hn];refine adO _ (GR hs k) fun h=>?_;rcases hl with rfl |hl
 ·simp at h
 ·have hk0:k≠0:=by rintro rfl;simp at h
  rw[List.getLast_eq_getElem];simp only[eZ,uG hk,Aa];rwa [af (by omega)] at hl
theorem M4 (l:List Nat) (hs:Small l):∃k,k<=l.length/\words (nw l)=l.take k:=by
 induction l using GQ with
 |h0=>exact⟨0,ar _,by rw[nh,wy];rfl⟩
 |h1 l a ih=>
  by_cases ha:a=0
  ·subst ha;obtain⟨k,hk,e⟩:=ih (fun x hx=>hs x (QM _ hx));refine⟨k,by simp;omega,?_⟩;rw[Cv,kY,fH,e,aqv hk]
  ·refine⟨(l++[a]).length,ar _,?_⟩;exact QW _ hs _ (ar _) (by rw[fJ]) (Or.inr (by simpa using ha))
theorem aen (l q:List Nat) (m y:Nat) (h:m<l.length):(l.take (m+1)++q).set m y=l.take m++y::q:=by
 rw[fR h,rW];have e:(l.take m).length=m:=by simp;omega
 rw[Ed _ _ (by omega),e,qE];rfl
section
open Go.Shelf
attribute [local go_sem] Oper.semAt_some
variable {Bn:Nat}
def N (s:ByteArray):Nat:=nb s.data.toList
def B (n:Nat):ByteArray:=⟨(bn n).toArray⟩
theorem bQ (n:Nat):N (B n)=n:=Sz n
theorem mK (n:Nat):(B n).size=(bn n).length:=by simp[B,ByteArray.size]
theorem ad7 (s:ByteArray):(⟨(Lib.trimLeftB s.data.toList 0).toArray⟩:ByteArray)=B (N s):=by
 rw[B,N,Vf];rfl
theorem Ao {k:IntKind} {a b:Int} (h:a=b):Ending.returned (.int k a)=.returned (.int k b):=by rw[h]
theorem int_eq {k:IntKind} {a b:Int} (h:a=b):Value.int k a=.int k b:=by rw[h]
theorem Dk (s:ByteArray) (w:World):
  Calls Tryz.prog 210 #[.string s] w fun e w'=>e=.returned (.string (B (N s)))/\w'=w:=by
 rw[<- ad7];go_enter Tryz.func210,Tryz.ntmps210;go_wp2_with (go_at_call 238;refine(Tryz.strings_TrimLeft_one _ 0 (by decide) _).ae ?_;rintro e w' ⟨rfl,rfl⟩)
 go_ret;exact⟨rfl,rfl⟩
theorem acw (s:ByteArray) (w:World) (hs:s.size<=140737488355328):
  Calls Tryz.prog 219 #[.string s] w fun e w'=>e=.returned (.int .i64 ((s.size+3)/4:Nat))/\w'=w:=by
 go_enter Tryz.func219,Tryz.ntmps219;go_wp2;go_ret;exact⟨Ao (by omega),rfl⟩
theorem ahj (p c:Nat) (hp:p<16777216) (hc:c<256):bits .or .u32 ((p:Int)*256) (c:Int)=((p*256+c:Nat):Int):=by
 have e1:(p:Int)*256=((p*256:Nat):Int):=by omega
 rw[e1,u32_or_nat _ _ (by omega) (by omega),nat_join 8 _ _ (by omega) hc]
theorem Jw (s:ByteArray) (k:Nat) (h:k<s.size):s.data.toList.take (k+1)=s.data.toList.take k++[s[k]]:=by
 rw[fR (by simpa using h)];rfl
theorem ahS (l:List UInt8) (k:Nat) (h:l.length<=k):nb l<256^k:=
 aR (tH l) (lW (by decide) h)
theorem afG (s:ByteArray) (w:World) (hs:s.size<=4):
  Calls Tryz.prog 245 #[.string s] w fun e w'=>e=.returned (.int .u32 (N s))/\w'=w:=by
 go_enter Tryz.func245,Tryz.ntmps245;go_wp2;go_loop [3,7] (fun n i=>∃k:Nat,k<=s.size/\i=.int .i64 k/\n=.int .u32 (nb (s.data.toList.take k))) (fun _ i=>s.size - (intOf i).toNat)
 case atStart=>exact⟨0,aU _,rfl,rfl⟩
 case round=>
  obtain⟨k,hk,rfl,rfl⟩:=hrel;by_cases hlt:k<s.size
  ·have hb:nb (s.data.toList.take k)<16777216:=ahS _ 3 (by simp;omega);have hc:=s[k].toNat_lt;(have HS:Hid (nb (s.data.toList.take (k+1))=nb (s.data.toList.take k)*256+s[k].toNat):=by rw[Jw s k hlt,yF];rfl);have HO:Hid (bits .or .u32 ((nb (s.data.toList.take k):Int)*256) (s[k].toNat:Int)=((nb (s.data.toList.take k)*256+s[k].toNat:Nat):Int)):=ahj _ _ hb hc;generalize nb (s.data.toList.take k)=p at *;go_wp2;go_round
   case rel=>exact⟨k+1,by omega,by go_num,by rw[HS.o];exact int_eq HO.o⟩
   case measure=>simp[intOf];omega
  ·go_wp2;go_ret;exact⟨Ao (by rw[N,jd (by simp;omega)]),rfl⟩
def nR (Bn:Nat) (V V':World):Prop:=V'.cell? ⟨Bn,0,none⟩=V.cell? ⟨Bn,0,none⟩
theorem nR.t {A B C:World} (h:nR Bn A B) (k:nR Bn B C):nR Bn A C:=Eq.trans k h
theorem nR.b (hn:Bn<w.heap.size) (V:World) (l:Nat) (o o':Obj) (hl:w.heap.size<=l) (_:V.heap[l]? =some o) (_:o.isCells=false) (_:o.isWalk=false):nR Bn V (V.putObj l o'):=
 kA (yh (show Bn≠l by omega))
def upto (n k:Nat):List Nat:=(List.range k).map (part n)
theorem XG (n k:Nat):upto n (k+1)=upto n k++[part n k]:=by simp[upto,rT]
theorem ad1 (n k:Nat):(upto n k).length=k:=by simp[upto]
theorem agN (s:ByteArray) (k:Nat) (h:4*k<=s.size):N (s.extract (s.size - 4*k - 4) (s.size - 4*k))=part (N s) k:=by
 rw[N,N, <- agQ _ _ (by simpa using h)];congr 1
 rw[ByteArray.data_extract];simp[List.drop_take]
theorem afF (s:ByteArray) (k:Nat) (w:World) (h:4*k<=s.size):
  Calls Tryz.prog 245 #[.string (s.extract (max 0 ((s.size:Int) - (k:Int)*4 - 4)).toNat (s.size - k*4))] w fun e w'=>e=.returned (.int .u32 (part (N s) k:Nat))/\w'=w:=by
 have e1:(max 0 ((s.size:Int) - (k:Int)*4 - 4)).toNat=s.size - 4*k - 4:=by omega
 have e2:s.size - k*4=s.size - 4*k:=by omega
 rw[e1,e2, <- agN s k h];exact afG _ w (by rw[ByteArray.size_extract];omega)
theorem akG (n:Nat) (hn:1<=n) (l Bn:Nat) (s:ByteArray) (hs:s.size<=140737488355328) (J Jx:List Nat ->World ->Prop)
  (hY:∀pre x V,J pre V ->pre.length<(s.size+3)/4 ->YieldAt Fence.wide (n - 1) Tryz.prog l #[.int .u32 (x:Nat)] V fun e V'=>
   (e=.returned (.bool true)/\J (pre++[x]) V'/\nR Bn V V')∨(e=.returned (.bool false)/\Jx (pre++[x]) V'))
  (V:World) (Fe:V.cell? ⟨Bn,0,none⟩=some (.string s)) (h0:J [] V):
  CallsIn Fence.wide n Tryz.prog 244 #[.func (.yield l) #[] #[],.pointer (some ⟨Bn,0,none⟩)] V fun e V'=>(∃v,e=.returned v)/\
   ((∃ys,ys=upto (N s) ((s.size+3)/4)/\J ys V')∨(∃pre,(∃k,k<=(s.size+3)/4/\pre=upto (N s) k)/\Jx pre V')):=by
 refine Gj Tryz.func244 rfl trivial ?_ rfl;simp only[Tryz.ntmps244,mP,eU,lg,Nat.reduceAdd,Nat.reduceSub,mV,mU,mQ,lZ,iD,fg];gi_wp2_with (refine⟨trivial,?_⟩;gi_at_call 219;refine(gZ.2 (acw _ _ hs)).ae ?_;rintro e w' ⟨rfl,rfl⟩)
 gi_loopw [7] (fun i wr=>∃k:Nat,k<=(s.size+3)/4/\i=.int .i64 k/\J (upto (N s) k) wr/\wr.cell? ⟨Bn,0,none⟩=some (.string s))
  (fun i _=>(s.size+3)/4 - (intOf i).toNat)
 case atStart=>exact⟨0,aU _,rfl,h0,Fe⟩
 case round=>
  obtain⟨k,hk,rfl,hJs,bW⟩:=hrel;by_cases hlt:k<(s.size+3)/4
  ·obtain⟨fn,tmps,assign,body,hy,hR⟩:=hY _ (part (N s) k) wr hJs (by rw[ad1];exact hlt);gi_wp2_with (refine⟨trivial,?_⟩;gi_at_call 245;refine(gZ.2 (afF s k _ (by omega))).ae ?_;rintro e w' ⟨rfl,rfl⟩)
   refine hR.ae ?_;rintro e W3 (⟨rfl,hJ3,hk3⟩ |⟨rfl,hJx3⟩)
   ·have TR:W3.cell? ⟨Bn,0,none⟩=some (.string s):=Eq.trans hk3 bW;gi_wp2
    go_roundw
    case rel=>exact⟨k+1,by omega,by simp,by rw[XG];exact hJ3,TR⟩
    case measure=>simp[intOf];omega
   ·gi_wp2
    refine bB (results_none rfl _ _ _) rfl ?_;exact⟨⟨_,rfl⟩,.inr ⟨_,⟨k+1,by omega,(XG _ _).symm⟩,hJx3⟩⟩
  ·obtain rfl:k=(s.size+3)/4:=by omega
   gi_wp2
   go_end0
   exact⟨⟨_,rfl⟩,.inl ⟨_,rfl,hJs⟩⟩
theorem akF (n:Nat) (s:ByteArray) (w:World):
  CallsIn Fence.wide n Tryz.prog 220 #[.string s] w fun e w'=>e=.returned (.func (.func 244) #[] #[.pointer (some ⟨w.heap.size,0,none⟩)])/\w'=w.alloc (.cells #[.string s] 30):=by
 refine Gj Tryz.func220 rfl trivial ?_ rfl;simp only[Tryz.ntmps220,mP,eU,lg,Nat.reduceAdd,Nat.reduceSub,mV,mU,mQ,lZ,iD,fg];gi_wp2
 go_ret;exact⟨rfl,rfl⟩
theorem akE (n:Nat) (hn:1<=n) (Bn:Nat) (s:ByteArray) (hs:s.size<=140737488355328) (w:World) (Fe:Bn<w.heap.size) (hc:w.cell? ⟨Bn,0,none⟩=some (.string s)):
  SeqStopsK Fence.wide n Tryz.prog 244 #[.pointer (some ⟨Bn,0,none⟩)] (fun x:Nat=> #[Value.int .u32 (x:Nat)]) (nR Bn) (fun ys=>ys=upto (N s) ((s.size+3)/4)) (fun pre=>∃k,k<=(s.size+3)/4/\pre=upto (N s) k) ((s.size+3)/4) w:=fun l J Jx V hV _ _ hY h0=>
 akG n hn l Bn s hs J Jx hY V ((hV.cell (p:=⟨Bn,0,none⟩) Fe).trans hc) h0
theorem Tryz.infoU32:(Tryz.prog.info? 114).map (fun i=>(i.zero,i.size,i.bytes))=some (some (.int .u32 0),1,4):=by kernel_rfl
def u32 (x:Nat):Value:=.int .u32 (x:Nat)
theorem ad0 (n:Nat):upto n (((B n).size+3)/4)=words n:=by
 rw[mK, <- M6,upto, <- adR]
end
section
open Go.Shelf
attribute [local go_sem] Oper.semAt_some
theorem ju (s:ByteArray):(B (N s)).size<=s.size:=by
 rw[mK,N,Vf];have:(s.data.toList.dropWhile (·==0)).length<=s.data.toList.length:=(List.dropWhile_sublist _).length_le;simpa using this
end
def lenOf:Value ->Nat |.slice _ n _=>n |_=>0
theorem Ni (b off cap:Nat) (l:List Nat) (w:World) (hs:Small l) (sB:l.length<=cap) (hlen:l.length<=140737488355328)
  (hc:∀j,j<l.length ->w.cell? ⟨b,off+j,none⟩=some (.int .u32 (l[j]?.getD 0:Nat))):
  Calls Tryz.prog 217 #[.slice (some ⟨b,off,none⟩) l.length cap] w fun e w'=>e=.returned (.slice (some ⟨b,off,none⟩) (words (nw l)).length cap)/\w'=w:=by
 go_enter Tryz.func217,Tryz.ntmps217;go_wp2;go_loop [0] (fun v=>∃k:Nat,k<=l.length/\v=.slice (some ⟨b,off,none⟩) k cap/\nw (l.take k)=nw l) (fun v=>lenOf v)
 case atStart=>exact⟨l.length,ar _,rfl,by rw[fJ]⟩
 case round=>
  obtain⟨k,hk,rfl,hn⟩:=hrel;have HN:Hid (nw (l.take k)=nw l):=hn;clear hn;by_cases h0:k=0
  ·subst h0;have e:=QW l hs 0 (aU _) HN.o (Or.inl rfl);(have HE:Hid ((words (nw l)).length=0):=by rw[e];rfl);clear e;go_wp2;go_ret;exact⟨by rw[HE.o];rfl,rfl⟩
  ·have hck:=hc (k - 1) (by omega);by_cases hz:l[k - 1]?.getD 0=0
   ·have fA:Hid (nw (l.take (k - 1))=nw l):=by
     have e:=Sq l (k - 1) (by omega);rw[show k - 1+1=k by omega,HN.o] at e;rw[af (by omega)] at hz;simp only[zV] at hz;rw[hz,kY,fH] at e;exact e.symm
    rw[hz] at hck;go_wp2;go_round
    case rel=>exact⟨k - 1,by omega,rfl,fA.o⟩
    case measure=>simp[lenOf];omega
   ·have e:=QW l hs k hk HN.o (Or.inr hz);(have HE:Hid ((words (nw l)).length=k):=by rw[e,eZ];exact uG hk);clear e;go_wp2;go_ret;exact⟨by rw[HE.o];rfl,rfl⟩
theorem afa (w:World):
  Calls Tryz.prog 217 #[.slice none 0 0] w fun e w'=>e=.returned (.slice none 0 0)/\w'=w:=by
 go_enter Tryz.func217,Tryz.ntmps217;go_wp2;refine I1 1 ?_;rw[qD];go_wp2;go_ret;exact⟨rfl,rfl⟩
def bS (x k:Nat):Int:=((x/256^k % 256:Nat):Int)
theorem amp (x:Nat) (hx:x<18446744073709551616):bS x 7=(x:Int)/72057594037927936/\bS x 6=(x:Int)/281474976710656 % 256/\bS x 5=(x:Int)/1099511627776 % 256/\bS x 4=(x:Int)/4294967296 % 256/\
  bS x 3=(x:Int)/16777216 % 256/\bS x 2=(x:Int)/65536 % 256/\bS x 1=(x:Int)/256 % 256/\bS x 0=(x:Int) % 256:=by
 unfold bS;simp only[Nat.reducePow];omega
theorem acL (x:Nat) (w:World) (hx:x<18446744073709551616):
  Calls Tryz.prog 216 #[.int .u64 (x:Nat)] w fun e w'=>e=.returned (.agg #[.int .u8 (bS x 7),.int .u8 (bS x 6),.int .u8 (bS x 5),.int .u8 (bS x 4),.int .u8 (bS x 3),.int .u8 (bS x 2),.int .u8 (bS x 1),.int .u8 (bS x 0)])/\Below w.heap.size w w':=by
 obtain⟨e7,e6,e5,e4,e3,e2,e1,e0⟩:=amp x hx;rw[e7,e6,e5,e4,e3,e2,e1,e0];clear e7 e6 e5 e4 e3 e2 e1 e0;go_enter Tryz.func216,Tryz.ntmps216;go_wp2;refine I1 9 ?_;rw[qD];go_wp2;rw[qD];go_wp2;rw[qD];go_wp2;rw[qD];go_wp2;rw[qD];go_wp2;rw[qD];go_wp2;rw[qD];go_wp2;rw[qD];go_wp2;rw[qD];go_wp2;refine bB (v:=.agg #[.int .u8 ((x:Int)/72057594037927936),.int .u8 ((x:Int)/281474976710656 % 256),.int .u8 ((x:Int)/1099511627776 % 256),.int .u8 ((x:Int)/4294967296 % 256),.int .u8 ((x:Int)/16777216 % 256),.int .u8 ((x:Int)/65536 % 256),.int .u8 ((x:Int)/256 % 256),.int .u8 ((x:Int) % 256)]) (by simp[results,Tryz.results216,go_sem]) rfl ⟨rfl,?_⟩;exact(((au _ _).alloc (ar _) _).alloc (by simp) _)
theorem Dg (x c:Nat):x/(c*256)*256+x/c % 256=x/c:=by rw[<- QI];exact Nat.div_add_mod' _ _
theorem aln (x:Nat) (hx:x<18446744073709551616):0*256+x/72057594037927936 % 256=x/72057594037927936:=by omega
theorem acs (x:Nat):x/256*256+x/1 % 256=x:=by omega
theorem ahV (x:Nat) (hx:x<18446744073709551616):N (strOfNums [bS x 7,bS x 6,bS x 5,bS x 4,bS x 3,bS x 2,bS x 1,bS x 0])=x:=by
 have h6:=Dg x 281474976710656;have h5:=Dg x 1099511627776;have h4:=Dg x 4294967296;have h3:=Dg x 16777216;have h2:=Dg x 65536;have h1:=Dg x 256;simp only[Nat.reduceMul] at h6 h5 h4 h3 h2 h1;simp only[N,I4,gQ,ld,bS,pT,nb,Ef,List.foldl_nil,UInt8.toNat_ofNat',Nat.reducePow,Nat.mod_mod];rw[aln x hx,h6,h5,h4,h3,h2,h1,acs]
theorem adU (x:Nat) (t:TypeId) (w:World):∀i,i< 8 ->(w.alloc (.cells #[.int .u8 (bS x 7),.int .u8 (bS x 6),.int .u8 (bS x 5),.int .u8 (bS x 4),.int .u8 (bS x 3),.int .u8 (bS x 2),.int .u8 (bS x 1),.int .u8 (bS x 0)] t)).cell? ⟨w.heap.size,0+i,none⟩=
  some (.int .u8 (([bS x 7,bS x 6,bS x 5,bS x 4,bS x 3,bS x 2,bS x 1,bS x 0]:List Int).getD i 0)):=by
 intro i hi;rcases (show i=0∨i=1∨i=2∨i=3∨i=4∨i=5∨i=6∨i=7 by omega) with rfl |rfl |rfl |rfl |rfl |rfl |rfl |rfl<;>simp
theorem Z3 (x:Nat) (w:World) (hx:x<18446744073709551616):
  Calls Tryz.prog 167 #[.int .u64 (x:Nat)] w fun e w'=>e=.returned (.string (B x))/\Below w.heap.size w w':=by
 have E4:=fun (w1:World)=>I5 (P:=Tryz.prog) (w1.alloc (.cells #[.int .u8 (bS x 7),.int .u8 (bS x 6),.int .u8 (bS x 5),.int .u8 (bS x 4),.int .u8 (bS x 3),.int .u8 (bS x 2),.int .u8 (bS x 1),.int .u8 (bS x 0)] 232)) 152 5 Tryz.underlying152 Tryz.underlying5 w1.heap.size 0 8 8 _ rfl (adU x _ w1) 30 Tryz.underlying30;have HN:Hid (N (strOfNums [bS x 7,bS x 6,bS x 5,bS x 4,bS x 3,bS x 2,bS x 1,bS x 0])=x):=ahV x hx;go_enter Tryz.func167,Tryz.ntmps167
 go_wp2_with (first
  |(go_at_call 216;refine(acL x _ hx).ae ?_;rintro e w1 ⟨rfl,hb1⟩)
  |(go_at_call 210;refine(Dk _ _).ae ?_;rintro e w2 ⟨rfl,rfl⟩;rw[HN.o]))
 go_ret;exact⟨rfl,hb1.alloc hb1.size _⟩
variable {xs:List Value} {g:Nat}
def sN (x:Nat):List Int:=[bS x 3,bS x 2,bS x 1,bS x 0]
def oz:List Nat ->List Int
 |[]=>[]
 |x::r=>oz r++sN x
theorem aiA (a:List Nat) (y:Nat):oz (a++[y])=sN y++oz a:=by
 induction a with
 |nil=>simp[oz]
 |cons x a ih=>rw[fg,oz,ih,oz,rW]
theorem SN (a:List Nat):(oz a).length=4*a.length:=by
 induction a with
 |nil=>rfl
 |cons x a ih=>rw[oz,dM,ih];simp[sN];omega
theorem alm (x:Nat) (hx:x<4294967296):0*256+x/16777216 % 256=x/16777216:=by omega
theorem ahW (x:Nat) (hx:x<W):nb ((sN x).map fun n=>UInt8.ofNat n.toNat)=x:=by
 rw[gW] at hx;have h3:=alm x hx;have h2:=Dg x 65536;have h1:=Dg x 256;simp only[Nat.reduceMul] at h2 h1;simp only[sN,gQ,ld,bS,pT,nb,Ef,List.foldl_nil,UInt8.toNat_ofNat',Nat.reducePow,Nat.mod_mod];rw[h3,h2,h1,acs]
theorem am9 (l:List Nat) (hs:Small l):N (strOfNums (oz l))=nw l:=by
 rw[N,I4];induction l with
 |nil=>rfl
 |cons x r ih=>
  rw[oz,fY,Cx,ih (fun y hy=>hs y (eE _ hy)),ahW x (hs x dJ),kH,c5];show nw r*256^4+x=x+W*nw r;rw[abr,Cf];rfl
def p5 (l:List Nat) (k:Nat):List Int:=List.replicate (4*(l.length - k)) 0++oz (l.take k)
theorem ahc (l:List Nat):p5 l 0=List.replicate (4*l.length) 0:=by simp[p5,oz]
theorem ahf (l:List Nat):p5 l l.length=oz l:=by simp[p5]
theorem ahe (l:List Nat) (k:Nat) (hk:k<=l.length):(p5 l k).length=4*l.length:=by
 rw[p5,dM,Gs,SN,eZ,uG hk];omega
theorem ahd (l:List Nat) (k:Nat) (hk:k<l.length):splice (p5 l k) (4*l.length - 4*k - 4) (sN (l[k]?.getD 0))=p5 l (k+1):=by
 rw[af hk,zV];have e1:4*(l.length - k)=(4*l.length - 4*k - 4)+4:=by omega
 have e2:4*(l.length - (k+1))=4*l.length - 4*k - 4:=by omega
 rw[p5,p5,fR hk,aiA,e1,e2, <- List.replicate_append_replicate,splice];generalize 4*l.length - 4*k - 4=m;have h4:(sN l[k]).length=4:=rfl;rw[h4]
 have e3:(List.replicate m (0:Int)++List.replicate 4 0++oz (l.take k)).take m=List.replicate m 0:=by
  rw[rW,aqv (by simp)];simp
 have e4:(List.replicate m (0:Int)++List.replicate 4 0++oz (l.take k)).drop (m+4)=oz (l.take k):=by
  rw[List.drop_append_of_le_length (by simp)];simp
 rw[e3,e4]
theorem Ys {α β:Type} (f:α ->β) (L:List α) (o:Nat) (cs:List α):splice (L.map f) o (cs.map f)=(splice L o cs).map f:=by
 simp[splice,List.map_take,List.map_drop]
def u8 (x:Int):Value:=.int .u8 x
theorem Tryz.infoByte:(Tryz.prog.info? 5).map (fun i=>(i.zero,i.size,i.bytes))=some (some (.int .u8 0),1,1):=by kernel_rfl
theorem adS (l:List Nat) (hs:Small l):(words (nw l)).length<=l.length/\∀j,j<(words (nw l)).length ->(words (nw l))[j]?.getD 0=l[j]?.getD 0:=by
 obtain⟨k,hk,e⟩:=M4 l hs;rw[e];refine⟨by simp;omega,fun j hj=>?_⟩;rw[rV,aaf (by simp at hj;omega)]
theorem pC {base:Nat} {t:TypeId} (h:w.ownsRow base t 1 (.slice (some ⟨g,0,none⟩) n n) n xs):w.heap[g]? =some (.cells xs.toArray t (0,0)):=by
 rcases h.2 with ⟨h',_⟩ |⟨g',cap',cur,h',_,hg,CL,_,hsz,lA⟩
 ·cases h'
 ·cases h';rw[hg, <- lA,jd (by simp;omega)]
theorem aay (n:Nat):(madeCells (Value.int .u8 0).cells (n*1)).toList=(List.replicate n (0:Int)).map u8:=by
 rw[show (Value.int .u8 0).cells= #[Value.int .u8 0] from rfl,I3,mN,MN];rfl
theorem amA (x:Nat) (t:TypeId) (w:World):∀j v,((sN x).map u8)[j]? =some v ->(w.alloc (.cells #[.int .u8 (bS x 7),.int .u8 (bS x 6),.int .u8 (bS x 5),.int .u8 (bS x 4),.int .u8 (bS x 3),.int .u8 (bS x 2),.int .u8 (bS x 1),.int .u8 (bS x 0)] t)).cell? ((⟨w.heap.size,4,none⟩:Addr).add j)=some v:=by
 intro j v hj
 have hj4:j<4:=by
  rcases cD j 4 with h |h
  ·exact h
  ·rw[iF (by simpa [sN] using h)] at hj;cases hj
 have hadd:(⟨w.heap.size,4,none⟩:Addr).add j=⟨w.heap.size,4+j,none⟩:=by unfold Addr.add;split<;>simp_all
 rw[hadd];rcases (show j=0∨j=1∨j=2∨j=3 by omega) with rfl |rfl |rfl |rfl<;>simp[sN,u8] at hj<;>subst hj<;>simp
theorem UH (g cap:Nat) (l:List Nat) (w:World) (hs:Small l) (sB:l.length<=cap) (hlen:l.length<=35184372088832) (hg:g<w.heap.size)
  (hc:∀j,j<l.length ->w.cell? ⟨g,0+j,none⟩=some (.int .u32 (l[j]?.getD 0:Nat))):
  Calls Tryz.prog 168 #[.slice (some ⟨g,0,none⟩) l.length cap] w fun e w'=>e=.returned (.string (B (nw l)))/\Below w.heap.size w w':=by
 obtain⟨i0,hi,hz0,hz1,hz2⟩:=eT Tryz.infoByte;have wL:=Ni g 0 cap l w hs sB (by omega) hc;obtain⟨hwl,hwc⟩:=adS l hs;have hsw:=mX (nw l);have HB:Hid (N (strOfNums (oz (words (nw l))))=nw l):=by show _=_;rw[am9 _ hsw,kF]
 have hcw:∀j,j<(words (nw l)).length ->w.cell? ⟨g,j,none⟩=some (.int .u32 ((words (nw l))[j]?.getD 0:Nat)):=fun j hj=>by
  have:=hc j (by omega);rw[bT] at this;rw[this,hwc j hj]
 generalize words (nw l)=ws at *;have HC:Hid (∀j,j<ws.length ->w.cell? ⟨g,j,none⟩=some (.int .u32 (ws[j]?.getD 0:Nat))):=hcw;have HS:Hid (Calls Tryz.prog 217 #[.slice (some ⟨g,0,none⟩) l.length cap] w fun e w'=>e=.returned (.slice (some ⟨g,0,none⟩) ws.length cap)/\w'=w):=wL;clear hc hwc hcw wL;go_enter Tryz.func168,Tryz.ntmps168
 go_wp2_with (first
  |(go_at_call 217;refine(HS.o).ae ?_;rintro e w1 ⟨rfl,hw1⟩;subst hw1)
  |(at_make;refine mL _ rfl _ _ 152 rfl w1.heap.size 5 i0 (.int .u8 0) 1 Tryz.underlying152 hi hz0 hz1 .i64 .i64 _ _ (4*ws.length) rfl rfl (by omega) (by omega) (by rw[hz2];omega) (by unfold maxLen;omega) (ar _) ?_;intro w2 hown2 hgrow2))
 have hb2:=pC hown2;rw[aay, <- ahc] at hb2;have hB2:Below w1.heap.size w1 w2:=(au _ w1).grown hgrow2 (ar _) (fun k e=>by cases e);have HI:Hid (w2.heap[w1.heap.size]? =some (.cells ((p5 ws 0).map u8).toArray 5 (0,0))):=hb2;clear hown2 hgrow2 hb2 HS
 go_loopw [16] (fun i wr=>∃k:Nat,k<=ws.length/\i=.int .i64 k/\Hid (wr.heap[w1.heap.size]? =some (.cells ((p5 ws k).map u8).toArray 5 (0,0)))/\Below w1.heap.size w1 wr)
  (fun i _=>ws.length - (intOf i).toNat)
 case atStart=>exact⟨0,aU _,rfl,HI,hB2⟩
 case round=>
  obtain⟨k,hk,rfl,HR,cE⟩:=hrel;clear HI hB2;by_cases hlt:k<ws.length
  ·have hck:wr.cell? ⟨g,k,none⟩=some (.int .u32 (ws[k]?.getD 0:Nat)):=(cE.cell (p:=⟨g,k,none⟩) hg).trans (HC.o k hlt)
   have uV:ws[k]?.getD 0<4294967296:=by
    rw[af hlt];exact hsw _ (bH hlt)
   have HP:Hid (splice (p5 ws k) (4*ws.length - 4*k - 4) (sN (ws[k]?.getD 0))=p5 ws (k+1)):=ahd ws k hlt;have ER:=ahe ws k hk;generalize ws[k]?.getD 0=x at *;go_wp2_with (go_at_call 216;refine(acL x _ (by omega)).ae ?_;rintro e w3 ⟨rfl,hb3⟩)
   have bU:Below w1.heap.size w1 w3:=cE.trans (hb3.ae cE.size)
   have hx3:∀o,(w3.alloc o).heap[w1.heap.size]? =some (.cells ((p5 ws k).map u8).toArray 5 (0,0)):=fun o=>by
    have Ov:w1.heap.size<wr.heap.size:=(eL.1 HR.o).1;rw[rY _ _ _ (aR Ov hb3.size),hb3.block _ Ov];exact HR.o
   have HX:Hid (∀o,(w3.alloc o).heap[w1.heap.size]? =some (.cells ((p5 ws k).map u8).toArray 5 (0,0))):=hx3;clear hx3 hck;obtain⟨E,hE⟩:∃E,E=4*ws.length - 4*k - 4:=⟨_,rfl⟩;(have f1:IntKind.i64.wrap (4*(ws.length:Int) - (k:Int)*4 - 4)=(E:Int):=by rw[eo];omega);(have f2:(k:Int)*4<=4*(ws.length:Int):=by omega);(have f3:4*(ws.length:Int) - (k:Int)*4<=4*(ws.length:Int):=by omega);(have f4:(E:Int)<=4*(ws.length:Int) - (k:Int)*4:=by omega);(have f6:¬4*ws.length=E:=by omega);(have f7:(4*(ws.length:Int) - (k:Int)*4).toNat - E=4:=by omega);(have hEl:E+4<=4*ws.length:=by omega);rw[<- hE] at HP;clear hE;go_region_law (refine step_copy_splice rfl (.tmp 33) (.tmp 34) 152 152 rfl 5 Tryz.underlying152 (by kernel_rfl) _ _ _ _ _ _ rfl rfl w1.heap.size E ((p5 ws k).map u8) 5 (by exact HX.o _) ((sN x).map u8) rfl (fun _=>⟨rfl,_,rfl,by exact amA x _ w3⟩) (by simp[sN];omega) (by simp[sN,u8,Value.oneCell']) w1.heap.size w1 (by exact(bU.alloc bU.size _).drew) (ar _) ?_;intro w4 hg4 hb4)
   clear f1 f2 f3 f4 f6 f7 HX;go_wp2;go_roundw
   case rel=>exact⟨k+1,by omega,by go_num,by rw[Ys,HP.o] at hg4;exact hg4,hb4⟩
   case measure=>simp[intOf];omega
  ·obtain rfl:k=ws.length:=by omega
   have E4:=I5 (P:=Tryz.prog) wr 152 5 Tryz.underlying152 Tryz.underlying5 w1.heap.size 0 (4*ws.length) (4*ws.length) (oz ws) (SN ws) (fun i hi=>by
    have e:=cC wr w1.heap.size (0+i) _ _ _ HR.o;rw[e,ahf];(have jB:i<(oz ws).length:=by rw[SN];exact hi);simp[u8,af jB,b7]) 30 Tryz.underlying30
   clear HR;go_wp2_with (go_at_call 210;refine(Dk _ _).ae ?_;rintro e w3 ⟨rfl,hw1⟩;subst hw1)
   go_ret;exact⟨by rw[HB.o];rfl,cE⟩
variable {l':List Nat} {cap g' j m off':Nat}
def bt (w:World) (g off:Nat) (l:List Nat):Prop:=
 ∃cur,w.heap[g]? =some (.cells cur 114 (0,0))/\off+l.length<=cur.size/\∀j,j<l.length ->cur[off+j]? =some (u32 (l[j]?.getD 0))
theorem bt.cell {off:Nat} {l:List Nat} (h:bt w g off l) (j:Nat) (hj:j<l.length):w.cell? ⟨g,off+j,none⟩=some (.int .u32 (l[j]?.getD 0:Nat)):=by
 obtain⟨cur,hg,_,hc⟩:=h;rw[cC w g (off+j) cur _ (0,0) hg];exact hc j hj
theorem bt.frozen {off:Nat} {l:List Nat} (h:bt w g off l) (j:Nat):w.frozen? ⟨g,j,none⟩=false:=by
 obtain⟨cur,hg,_,_⟩:=h;exact pN w g j cur _ hg
theorem bt.lt {off:Nat} {l:List Nat} (h:bt w g off l):g<w.heap.size:=by
 obtain⟨cur,hg,_,_⟩:=h;exact(eL.1 hg).1
theorem bt.of_block {off:Nat} {l:List Nat} (h:bt w g off l) (e:w'.heap[g]? =w.heap[g]?):bt w' g off l:=by
 obtain⟨cur,hg,h1,h2⟩:=h;exact⟨cur,e.trans hg,h1,h2⟩
theorem bt.aa {off B:Nat} {l:List Nat} (h:bt w g off l) (hb:Below B w w') (hB:g<B):bt w' g off l:=h.of_block (hb.block g hB)
theorem bt.grown {off:Nat} {row:Option Nat} {l:List Nat} (h:bt w g off l) (hb:w.grownBy w' row) (hne:some g≠row):bt w' g off l:=h.of_block (hb.block g h.lt hne)
theorem bt.piece {off:Nat} {l:List Nat} (h:bt w g off l) (a n:Nat) (ha:a+n<=l.length):bt w g (off+a) ((l.drop a).take n):=by
 obtain⟨cur,hg,h1,h2⟩:=h;have hl:((l.drop a).take n).length=n:=by simp;omega
 refine⟨cur,hg,by omega,fun j hj=>?_⟩;rw[yo,h2 (a+j) (by omega),rV,aaf (by omega),Jh]
structure cF (g off n:Nat) (w w':World):Prop where
 grown:w.grownBy w' (some g)
 inside:∀cur,w.heap[g]? =some (.cells cur 114 (0,0)) ->∃cur',w'.heap[g]? =some (.cells cur' 114 (0,0))/\cur'.size=cur.size/\∀i,(i<off∨off+n<=i) ->cur'[i]? =cur[i]?
theorem cF.refl (g off n:Nat) (w:World):cF g off n w w:=⟨World.grownBy.refl _ _,fun cur h=>⟨cur,h,rfl,fun _ _=>rfl⟩⟩
theorem cF.trans {off:Nat} {a b c:World} (h:cF g off n a b) (k:cF g off n b c):cF g off n a c:=
 ⟨h.grown.trans k.grown,fun cur hc=>by
  obtain⟨c1,g1,s1,e1⟩:=h.inside cur hc;obtain⟨c2,g2,s2,e2⟩:=k.inside c1 g1;exact⟨c2,g2,s2.trans s1,fun i hi=>(e2 i hi).trans (e1 i hi)⟩⟩
theorem cF.ae {off n':Nat} (h:cF g off n w w') (h1:off'<=off) (h2:off+n<=off'+n'):cF g off' n' w w':=
 ⟨h.grown,fun cur hc=>by
  obtain⟨c1,g1,s1,e1⟩:=h.inside cur hc;exact⟨c1,g1,s1,fun i hi=>e1 i (by omega)⟩⟩
theorem cF.aa {off B:Nat} {a:World} (hb:Below B a w) (h:cF g off n w w') (hB:B<=g) (hs:B<=w.heap.size):Below B a w':=
 hb.grown h.grown hs (fun k e=>by cases e;exact hB)
theorem Kv (w:World) (g j:Nat) (cur:Array Value) (t:TypeId) (u:Value) (hg:w.heap[g]? =some (.cells cur t (0,0))):(w.setCell ⟨g,j,none⟩ u).heap[g]? =some (.cells (cur.setIfInBounds j u) t (0,0)):=
 mM w g j cur t u hg
theorem cF.setCell {off:Nat} (h1:off<=j) (h2:j<off+n) (u:Value):cF g off n w (w.setCell ⟨g,j,none⟩ u):=by
 refine⟨⟨rfl,rfl,rfl,by simp[World.setCell],fun k _ hk=>je _ _ _ _ (by rintro rfl;exact hk rfl)⟩,fun cur hc=>?_⟩;refine⟨_,Kv w g j cur _ u hc,by simp,fun i hi=>?_⟩;rw[Array.getElem?_setIfInBounds_ne (by omega)]
theorem bt.set {off:Nat} {l:List Nat} (h:bt w g off l) (j:Nat) (hj:j<l.length) (x:Nat):bt (w.setCell ⟨g,off+j,none⟩ (.int .u32 (x:Nat))) g off (l.set j x):=by
 obtain⟨cur,hg,h1,h2⟩:=h;refine⟨_,Kv w g (off+j) cur _ _ hg,by simpa using h1,fun i hi=>?_⟩;rw[rU] at hi;by_cases e:i=j
 ·subst e;rw[Array.getElem?_setIfInBounds_self_of_lt (by omega)];simp[hj,u32]
 ·rw[Array.getElem?_setIfInBounds_ne (by omega),h2 i hi,QN (by omega)]
theorem bt.beside {off:Nat} {l:List Nat} (h:bt w g off l) (hu:cF g off' n w w') (hd:off+l.length<=off'∨off'+n<=off):bt w' g off l:=by
 obtain⟨cur,hg,h1,h2⟩:=h;obtain⟨c1,g1,s1,e1⟩:=hu.inside cur hg;exact⟨c1,g1,by omega,fun j hj=>(e1 (off+j) (by omega)).trans (h2 j hj)⟩
theorem bt.apart {off:Nat} {l:List Nat} (h:bt w g off l) (hu:cF g' off' n w w') (hd:g≠g'):bt w' g off l:=
 h.grown hu.grown (by simp[hd])
theorem bt.append {off:Nat} {a b:List Nat} (ha:bt w g off a) (hb:bt w g (off+a.length) b):bt w g off (a++b):=by
 obtain⟨cur,hg,h1,h2⟩:=ha;obtain⟨cur',iK,h3,h4⟩:=hb;rw[hg] at iK;cases iK;refine⟨cur,hg,by simp;omega,fun j hj=>?_⟩;rw[dM] at hj;by_cases e:j<a.length
 ·rw[List.getElem?_append_left e,h2 j e]
 ·rw[MR (by omega)];have:=h4 (j - a.length) (by omega);rwa [show off+a.length+(j - a.length)=off+j by omega] at this
theorem Cs {base:Nat} {l:List Nat} (h:w.ownsRow base 114 1 (.slice (some ⟨g,0,none⟩) n cap) n (l.map u32)):n=l.length/\l.length<=cap/\base<=g/\bt w g 0 l:=by
 have hn:n=l.length:=by have:=h.1;simp at this;exact this.symm
 rcases h.2 with ⟨h',_⟩ |⟨g',cap',cur,h',hb,hg,CL,_,hsz,lA⟩
 ·cases h'
 ·cases h';refine⟨hn,by omega,hb,cur,hg,by omega,fun j hj=>?_⟩;have e:(cur.toList.take (n*1))[j]? =(l.map u32)[j]?:=by rw[lA]
  rw[rV,aaf (by omega),oh,af hj] at e;rw[bT,af hj];simpa using e
theorem ZE {base:Nat} {l:List Nat} (h:w.ownsRow base 114 1 (.slice (some ⟨g,0,none⟩) n cap) n (l.map u32)) (hu:cF g 0 m w w') (hl:bt w' g 0 l') (hlen:l'.length=n):w'.ownsRow base 114 1 (.slice (some ⟨g,0,none⟩) n cap) n (l'.map u32):=by
 refine⟨by simp[hlen],?_⟩;rcases h.2 with ⟨h',_⟩ |⟨g',cap',cur,h',hb,hg,CL,hm,hsz,lA⟩
 ·cases h'
 ·cases h';obtain⟨c1,g1,s1,_⟩:=hu.inside cur hg;obtain⟨c2,g2,h1,h2⟩:=hl;rw[g1] at g2;cases g2;refine .inr ⟨g,cap,c1,rfl,hb,g1,CL,hm,by omega,?_⟩;apply Gu;intro i;rw[rV,oh];by_cases hi:i<l'.length
  ·have:=h2 i hi;rw[bT,af hi] at this;rw[aaf (by omega),af hi,wm,this];rfl
  ·rw[aaO (by omega),iF (by omega)];rfl
theorem ag2 {base:Nat} {v:Value} {l:List Nat} (h:w.ownsRow base 114 1 v n (l.map u32)):n=l.length:=by have:=h.1;simp at this;exact this.symm
theorem NG {base B:Nat} {e:TypeId} {size:Nat} {v:Value} (h:w.ownsRow base e size v n xs) (hb:Below B w w') (hB:w.heap.size<=B):w'.ownsRow base e size v n xs:=by
 refine⟨h.1,?_⟩;rcases h.2 with h' |⟨g,cap,cur,r1,r2,r3,r4⟩
 ·exact .inl h'
 ·exact .inr ⟨g,cap,cur,r1,r2,(hb.block g (aR (eL.1 r3).1 hB)).trans r3,r4⟩
theorem JQ {base:Nat} {l:List Nat} (cur:Array Value) (hg:w.heap[g]? =some (.cells cur 114 (0,0))) (hs:cur.size=cap) (hb:base<=g) (hm:cap<=maxLen) (hc:l.length<=cap) (hl:bt w g 0 l):w.ownsRow base 114 1 (.slice (some ⟨g,0,none⟩) l.length cap) l.length (l.map u32):=by
 refine⟨by simp,.inr ⟨g,cap,cur,rfl,hb,hg,hc,hm,by omega,?_⟩⟩;obtain⟨c2,g2,h1,h2⟩:=hl;rw[hg] at g2;cases g2;apply Gu;intro i;rw[rV,oh];by_cases hi:i<l.length
 ·have:=h2 i hi;rw[bT,af hi] at this;rw[aaf (by omega),af hi,wm,this];rfl
 ·rw[aaO (by omega),iF (by omega)];rfl
def Has (w:World) (base:Nat) (v:Value) (l:List Nat):Prop:=w.ownsRow base 114 1 v l.length (l.map u32)
theorem Has.cases {base:Nat} {v:Value} {l:List Nat} (h:Has w base v l):(v=.slice none 0 0/\l=[])∨∃g cap,v=.slice (some ⟨g,0,none⟩) l.length cap/\l.length<=cap/\base<=g/\bt w g 0 l:=by
 rcases h.2 with ⟨hv,hn⟩ |⟨g,cap,cur,hv,r⟩
 ·exact .inl ⟨hv,Xj hn⟩
 ·subst hv;obtain⟨_,h1,h2,h3⟩:=Cs h;exact .inr ⟨g,cap,rfl,h1,h2,h3⟩
theorem Has.aa {base B:Nat} {v:Value} {l:List Nat} (h:Has w base v l) (hb:Below B w w') (hB:w.heap.size<=B):Has w' base v l:=NG h hb hB
theorem alx {base:Nat} {l:List Nat} (k:Nat) (hk:k<=l.length) (h:w.ownsRow base 114 1 (.slice (some ⟨g,0,none⟩) n cap) n (l.map u32)):w.ownsRow base 114 1 (.slice (some ⟨g,0,none⟩) k cap) k ((l.take k).map u32):=by
 have hn:=ag2 h;refine⟨by simp;omega,?_⟩;rcases h.2 with ⟨h',_⟩ |⟨g',cap',cur,h',hb,hg,CL,hm,hsz,lA⟩
 ·cases h'
 ·cases h';refine .inr ⟨g,cap,cur,rfl,hb,hg,by omega,hm,hsz,?_⟩;rw[List.map_take, <- lA,List.take_take,uG (by omega),mN]
theorem akh (w:World):Calls Tryz.prog 168 #[.slice none 0 0] w fun e w'=>e=.returned (.string (B 0))/\Below w.heap.size w w':=by
 obtain⟨i0,hi,hz0,hz1,hz2⟩:=eT Tryz.infoByte;have E4:=fun (w2:World)=>I5 (P:=Tryz.prog) w2 152 5 Tryz.underlying152 Tryz.underlying5 w.heap.size 0 0 0 [] rfl (fun i hi=>absurd hi (Cc _)) 30 Tryz.underlying30;have HB:Hid (N (strOfNums [])=0):=rfl;go_enter Tryz.func168,Tryz.ntmps168
 go_wp2_with (first
  |(go_at_call 217;refine(afa _).ae ?_;rintro e w1 ⟨rfl,hw1⟩;subst hw1)
  |(at_make;refine mL _ rfl _ _ 152 rfl w1.heap.size 5 i0 (.int .u8 0) 1 Tryz.underlying152 hi hz0 hz1 .i64 .i64 _ _ 0 rfl rfl rfl rfl (by omega) (by unfold maxLen;omega) (ar _) ?_;intro w2 hown2 hgrow2))
 refine I1 1 ?_;rw[qD];go_wp2_with (go_at_call 210;refine(Dk _ _).ae ?_;rintro e w3 ⟨rfl,hw1⟩;subst hw1)
 go_ret;exact⟨by rw[HB.o];rfl,(au _ w1).grown hgrow2 (ar _) (fun k e=>by cases e)⟩
theorem O0 (base:Nat) (v:Value) (l:List Nat) (w:World) (hs:Small l) (hlen:l.length<=35184372088832) (h:Has w base v l):
  Calls Tryz.prog 168 #[v] w fun e w'=>e=.returned (.string (B (nw l)))/\Below w.heap.size w w':=by
 rcases h.cases with ⟨rfl,rfl⟩ |⟨g,cap,rfl,sB,hb,hl⟩
 ·rw[nh];exact akh w
 ·exact UH g cap l w hs sB hlen hl.lt (fun j hj=>hl.cell j hj)
theorem ZV (r x:Nat) (hr:r<4294967296) (hx:x<4294967296):bits .or .u64 ((r:Int)*4294967296) (x:Int)=((r*4294967296+x:Nat):Int):=by
 have e1:(r:Int)*4294967296=((r*4294967296:Nat):Int):=by omega
 rw[e1,u64_or_nat _ _ (by omega) (by omega),nat_join 32 _ _ (by omega) (by omega)]
def G:Nat:=1000000000
theorem aB {p:Prop} (h:p):Hid p:=h
theorem Has.upd {base:Nat} {l:List Nat} (h:Has w base (.slice (some ⟨g,0,none⟩) n cap) l) (hu:cF g 0 m w w') (hl:bt w' g 0 l') (hlen:l'.length=l.length):Has w' base (.slice (some ⟨g,0,none⟩) n cap) l':=by
 have hn:n=l.length:=by
  rcases h.2 with ⟨h',_⟩ |⟨g',cap',cur,h',_⟩
  ·cases h'
  ·cases h';rfl
 subst hn;have:=ZE h hu hl hlen;rw[Has,hlen];exact this
theorem Pe (q l:List Nat) (k y:Nat) (hq:q.length=k) (hk:k<l.length):(q++l.drop k).set k y=q++[y]++l.drop (k+1):=by
 rw[Ed _ _ (by omega),hq,qE,mS hk,Ec,rW];rfl
variable {k:Nat} {f:Nat ->Nat}
def jl (f:Nat ->Nat):Nat ->Nat
 |0=>0
 |k+1=>jl f k+W^k*f k
theorem Z7 (f g:Nat ->Nat) (k:Nat):jl (fun j=>f j+g j) k=jl f k+jl g k:=by
 induction k with
 |zero=>rfl
 |succ k ih=>simp only[jl,ih,mO];omega
theorem Z5 (c:Nat) (f:Nat ->Nat) (k:Nat):jl (fun j=>c*f j) k=c*jl f k:=by
 induction k with
 |zero=>rfl
 |succ k ih=>simp only[jl,ih,mO];congr 1;rw[<- il,abr (W^k) c,il]
theorem Ha (l:List Nat) (k:Nat):jl (fun j=>l[j]?.getD 0) k=nw (l.take k):=by
 induction k with
 |zero=>simp[jl,nh]
 |succ k ih=>
  rw[jl,ih];by_cases h:k<l.length
  ·rw[Sq l k h,af h];rfl
  ·rw[iF (by omega),jd (by omega:l.length<=k),jd (by omega:l.length<=k+1)];simp
theorem Z6 (l:List Nat) (k:Nat) (h:l.length<=k):jl (fun j=>l[j]?.getD 0) k=nw l:=by rw[Ha,jd h]
theorem ahC {g:Nat ->Nat} (h:∀j,j< k ->f j=g j):jl f k=jl g k:=by
 induction k with
 |zero=>rfl
 |succ k ih=>rw[jl,jl,ih (fun j hj=>h j (by omega)),h k (by omega)]
def acc (f:Nat ->Nat):Nat ->List Nat×Nat
 |0=>([],0)
 |k+1=>((acc f k).1++[((acc f k).2+f k) % W],((acc f k).2+f k)/W)
theorem Ln (f:Nat ->Nat) (k:Nat):(acc f k).1.length=k:=by
 induction k with
 |zero=>rfl
 |succ k ih=>simp[acc,ih]
theorem Vt (f:Nat ->Nat) (k:Nat):Small (acc f k).1:=by
 induction k with
 |zero=>intro x hx;simp[acc] at hx
 |succ k ih=>
  intro x hx;rw[acc] at hx;rcases aa5.1 hx with hx |hx
  ·exact ih x hx
  ·simp at hx;subst hx;exact jL _ lM
theorem Vu (f:Nat ->Nat) (k:Nat):nw (acc f k).1+W^k*(acc f k).2=jl f k:=by
 induction k with
 |zero=>simp[acc,jl,nh]
 |succ k ih=>
  rw[acc,jl,Cv,Ln, <- ih,jc,il];have e:=Nat.mod_add_div ((acc f k).2+f k) W
  have:W^k*(((acc f k).2+f k) % W)+W^k*(W*(((acc f k).2+f k)/W))=W^k*(acc f k).2+W^k*f k:=by
   rw[<- mO,e,mO]
  show nw (acc f k).1+W^k*(((acc f k).2+f k) % W)+W^k*(W*(((acc f k).2+f k)/W))=_;omega
theorem Vv (f:Nat ->Nat) (b:Nat) (k:Nat) (h:∀j,j< k ->f j+b<(b+1)*W):(acc f k).2<=b:=by
 induction k with
 |zero=>exact aU _
 |succ k ih=>
  have h1:=ih (fun j hj=>h j (by omega));have h2:=h k (by omega);rw[acc];have:((acc f k).2+f k)/W<b+1:=Gn (by rw[abr];omega);omega
theorem YK (a q l:List Nat) (i k y:Nat) (ha:a.length=i) (hq:q.length=k) (hk:i+k<l.length):(a++q++l.drop (i+k)).set (i+k) y=a++(q++[y])++l.drop (i+(k+1)):=by
 rw[Ed _ _ (by rw[dM];omega),dM,ha,hq,qE,mS hk,Ec];simp[rW,yo]
theorem afn (a q l:List Nat) (i k:Nat) (ha:a.length=i) (hq:q.length=k):(a++q++l.drop (i+k))[i+k]?.getD 0=l[i+k]?.getD 0:=by
 rw[MR (by rw[dM];omega),dM,ha,hq,qE,Jh,fH]
theorem getD_lt {l:List Nat} (h:Small l) (j:Nat):l[j]?.getD 0<W:=by
 by_cases hj:j<l.length
 ·rw[af hj];exact h _ (bH hj)
 ·rw[iF (by omega)];exact lM
theorem yB {a b:List Nat} (ha:Small a) (hb:Small b):Small (a++b):=fun x hx=>(aa5.1 hx).elim (ha x) (hb x)
theorem JA {l:List Nat} (h:Small l) (k:Nat):Small (l.drop k):=fun x hx=>h x (List.mem_of_mem_drop hx)
theorem ahB (l:List Nat) (k:Nat):nw l=nw (l.take k)+W^(min k l.length)*nw (l.drop k):=by
 have:=Ay (l.take k) (l.drop k);rwa [zZ,eZ] at this
theorem r6 (l:List Nat) (k:Nat) (h:k<=l.length):nw l=nw (l.take k)+W^k*nw (l.drop k):=by
 have:=ahB l k;rwa [uG h] at this
theorem Sp (n:Nat):nw (List.replicate n 0)=0:=by
 induction n with
 |zero=>rfl
 |succ n ih=>rw[Jc,kH,ih];simp
theorem Yv (n:Nat):Small (List.replicate n 0):=fun x hx=>by rw[(List.mem_replicate.1 hx).2];exact lM
def fZ (xs ys:List Nat) (j:Nat):Nat:=xs[j]?.getD 0+ys[j]?.getD 0
theorem Yk (xs ys:List Nat) (k:Nat):jl (fZ xs ys) k=nw (xs.take k)+nw (ys.take k):=by
 rw[show fZ xs ys=fun j=>(fun j=>xs[j]?.getD 0) j+(fun j=>ys[j]?.getD 0) j from rfl,Z7,Ha,Ha]
theorem aeK (xs ys:List Nat) (hx:Small xs) (hy:Small ys) (k:Nat):(acc (fZ xs ys) k).2<=1:=by
 refine Vv _ 1 k fun j _=>?_;have h1:=getD_lt hx j;have h2:=getD_lt hy j;unfold fZ;omega
theorem RV (g off cap b JT ja:Nat) (xs ys:List Nat) (w:World) (ix:Small xs) (jm:Small ys) (hlen:xs.length<=35184372088832) (AL:ys.length<=xs.length) (hx:bt w g off xs) (hy:bt w b JT ys) (hgb:b≠g):
  Calls Tryz.prog 218 #[.slice (some ⟨g,off,none⟩) xs.length cap,.slice (some ⟨b,JT,none⟩) ys.length ja] w fun e w'=>∃(c:Bool) (l':List Nat),e=.returned (.bool c)/\l'.length=xs.length/\Small l'/\nw l'+(if c then W^xs.length else 0)=nw xs+nw ys/\bt w' g off l'/\cF g off xs.length w w':=by
 go_enter Tryz.func218,Tryz.ntmps218;go_wp2
 go_loopw [5,9] (fun c i wr=>∃k:Nat,k<=xs.length/\i=.int .i64 k/\c=.int .u64 ((acc (fZ xs ys) k).2:Nat)/\bt wr g off ((acc (fZ xs ys) k).1++xs.drop k)/\cF g off xs.length w wr)
  (fun _ i _=>xs.length - (intOf i).toNat)
 case atStart=>exact⟨0,aU _,rfl,rfl,by simpa [acc] using hx,cF.refl _ _ _ _⟩
 case round=>
  obtain⟨k,hk,rfl,rfl,cZ,ig⟩:=hrel;have wX:=aeK xs ys ix jm k;have dN:=Ln (fZ xs ys) k;have o9:=Vt (fZ xs ys) k;have HQ:=aB (Vu (fZ xs ys) k);by_cases hlt:k<xs.length
  ·have ij:k<((acc (fZ xs ys) k).1++xs.drop k).length:=by rw[dM,dN,mR];omega
   have hcell:=cZ.cell k ij;have hfz:=cZ.frozen (off+k);have cO:=fun y=>cZ.set k ij y;simp only[Pe _ xs k _ dN hlt] at cO
   have sk:((acc (fZ xs ys) k).1++xs.drop k)[k]?.getD 0=xs[k]?.getD 0:=by
    rw[MR (by omega),dN,qE,Jh,fH]
   rw[sk] at hcell;have HG:Hid (acc (fZ xs ys) (k+1)=((acc (fZ xs ys) k).1++[((acc (fZ xs ys) k).2+fZ xs ys k) % W],((acc (fZ xs ys) k).2+fZ xs ys k)/W)):=rfl;have uV:=getD_lt ix k;have EB:=getD_lt jm k;rw[gW] at uV EB;by_cases Tz:k<ys.length
   focus
    have ajM:=(hy.apart ig hgb).cell k Tz;have HF:Hid (fZ xs ys k=xs[k]?.getD 0+ys[k]?.getD 0):=rfl;generalize (acc (fZ xs ys) k).2=c at *;generalize (acc (fZ xs ys) k).1=q at *;generalize fZ xs ys k=s at *;generalize xs[k]?.getD 0=x at *;generalize ys[k]?.getD 0=y at *;have kS:=aB cO;clear cO sk ij cZ HQ;go_wp2;have hv:Value.int .u32 (((c:Int)+(x:Int)+(y:Int)) % 4294967296)=.int .u32 (((c+s) % W:Nat):Int):=int_eq (by rw[gW,HF.o];omega);have hv2:Value.int .u64 (((c:Int)+(x:Int)+(y:Int))/4294967296)=.int .u64 (((c+s)/W:Nat):Int):=int_eq (by rw[gW,HF.o];omega)
   rotate_left
   focus
    (have J6:ys[k]?.getD 0=0:=by rw[iF (by omega)];rfl);by_cases hc0:(acc (fZ xs ys) k).2=0
    ·have HE:Hid (nw ((acc (fZ xs ys) k).1++xs.drop k)=nw xs+nw ys):=by
      show _=_;have e:=HQ.o;rw[hc0,kY,fH,Yk,jd (show ys.length<=k by omega)] at e;rw[Ay,dN,e,r6 xs k hk];omega
     have hsm:=yB o9 (JA ix k);(have dh:((acc (fZ xs ys) k).1++xs.drop k).length=xs.length:=by rw[dM,dN,mR];omega);rw[hc0];generalize (acc (fZ xs ys) k).1++xs.drop k=q at *;clear cO hcell hfz HG sk ij HQ;go_wp2;go_ret;exact⟨false,q,rfl,dh,hsm,by rw[HE.o];rfl,cZ,ig⟩
    focus
     (have HF:Hid (fZ xs ys k=xs[k]?.getD 0):=by show _=_;rw[fZ,J6,fH]);(have hcb:(((acc (fZ xs ys) k).2:Int)==0)=false:=by rw[zQ];omega);generalize (acc (fZ xs ys) k).2=c at *;generalize (acc (fZ xs ys) k).1=q at *;generalize fZ xs ys k=s at *;generalize xs[k]?.getD 0=x at *;have kS:=aB cO;clear cO sk ij cZ HQ J6 hc0;go_wp2;have hv:Value.int .u32 (((c:Int)+(x:Int)) % 4294967296)=.int .u32 (((c+s) % W:Nat):Int):=int_eq (by rw[gW,HF.o];omega);have hv2:Value.int .u64 (((c:Int)+(x:Int))/4294967296)=.int .u64 (((c+s)/W:Nat):Int):=int_eq (by rw[gW,HF.o];omega)
   all_goals
    rw[hv,hv2];have hq:=kS.o ((c+s) % W);go_roundw
    case rel=>exact⟨k+1,by omega,by go_num,by rw[HG.o],by rw[HG.o];exact hq,ig.trans (cF.setCell (MJ _ _) (by omega) _)⟩
    case measure=>simp[intOf];omega
  ·obtain rfl:k=xs.length:=by omega
   rw[List.drop_length,Eg] at cZ
   have HE:Hid (nw (acc (fZ xs ys) xs.length).1+W^xs.length*(acc (fZ xs ys) xs.length).2=nw xs+nw ys):=by
    show _=_;rw[HQ.o,Yk,fJ,jd AL]
   generalize (acc (fZ xs ys) xs.length).1=q at *;generalize (acc (fZ xs ys) xs.length).2=c at *;clear HQ;rcases (show c=0∨c=1 by omega) with rfl |rfl
   ·go_wp2;go_ret;exact⟨false,q,rfl,dN,o9,by have:=HE.o;simpa using this,cZ,ig⟩
   ·go_wp2;go_ret;exact⟨true,q,rfl,dN,o9,by have:=HE.o;simpa using this,cZ,ig⟩
section
open Go.Shelf
attribute [local go_sem] Oper.semAt_some
theorem yA (s:ByteArray) (w:World) (hs:s.size<=140737488355328):
  Calls Tryz.prog 170 #[.string s] w fun e w'=>∃g cap,e=.returned (.slice (some ⟨g,0,none⟩) (words (N s)).length cap)/\Has w' w.heap.size (.slice (some ⟨g,0,none⟩) (words (N s)).length cap) (words (N s))/\Below w.heap.size w w':=by
 refine(gZ (n:=6)).1 ?_;have KD:(B (N s)).size<=140737488355328:=aS (ju s) hs;have aX:=ad0 (N s);have hN:=bQ (N s);generalize hm:N s=m at *;obtain⟨i0,hi,hz0,hz1,hz2⟩:=eT Tryz.infoU32;refine tz Tryz.func170 rfl trivial ?_ rfl;simp only[Tryz.ntmps170,mP,eU,lg,Nat.reduceAdd,Nat.reduceSub,mV,mU,mQ,lZ,iD,fg];have HM:Hid (N s=m):=hm;have HN:Hid (N (B m)=m):=hN;have HU:Hid (upto m (((B m).size+3)/4)=words m):=aX;clear hm hN aX
 gi_wp2_with (first
  |(refine⟨trivial,?_⟩;gi_at_call 210;refine(gZ.2 (Dk _ _)).ae ?_;rintro e w' ⟨rfl,rfl⟩;rw[HM.o])
  |(refine⟨trivial,?_⟩;gi_at_call 219;refine(gZ.2 (acw _ _ KD)).ae ?_;rintro e w' ⟨rfl,rfl⟩)
  |(gi_at_make;refine wpListIn_make_own _ rfl _ _ 198 rfl w'.heap.size 114 i0 (.int .u32 0) 1 Tryz.underlying198 hi hz0 hz1 .i64 .i64 _ (((B m).size+3)/4) rfl rfl (by omega) (by rw[hz2];omega) (by unfold maxLen;omega) (ar _) ?_;intro w1 hown1 Ks)
  |(refine⟨trivial,?_⟩;gi_at_call 220;refine(akF _ _ _).ae ?_;rintro e w2 ⟨rfl,rfl⟩))
 have Hk:=Ks.size;have hB1:Below w'.heap.size w' w1:=(au _ w').grown Ks (ar _) (fun k e=>by cases e);have bO:=a7 w1 198 (.slice (some ⟨w'.heap.size,0,none⟩) 0 (((B m).size+3)/4));have bN:=a7 (w1.alloc (.cells #[.slice (some ⟨w'.heap.size,0,none⟩) 0 (((B m).size+3)/4)] 198)) 30 (.string (B m));rw[cN] at bN;have hB0:Below w'.heap.size w' ((w1.alloc (.cells #[.slice (some ⟨w'.heap.size,0,none⟩) 0 (((B m).size+3)/4)] 198)).alloc (.cells #[.string (B m)] 30)):=(hB1.alloc Hk _).alloc (by simp;omega) _
 refine I2 (α:=Nat) rfl (by omega) (gf:=244) (lb:= #[.pointer (some ⟨w1.heap.size+1,0,none⟩)]) rfl trivial (enters_of Tryz.func244 (by kernel_rfl) rfl)
  (akE 5 (by omega) (w1.heap.size+1) (B m) KD _ (by simp) bN.cell) nR.t (nR.b (by simp)) (au _ _) (fun _=>rfl)
  (fun (pre:List Nat) V=>((∃v,Boxed V w1.heap.size 198 v/\V.ownsRow w'.heap.size 114 1 v pre.length (pre.map u32)/\v≠.slice none 0 0)/\Below w'.heap.size w' V)/\Boxed V (w1.heap.size+1) 30 (.string (B m)))
  (fun _ _ _=>False)
  (eI (eI (fG (holdsRow_own w'.heap.size w1.heap.size 198 114 1 (fun pre:List Nat=>pre.length) (fun pre=>pre.map u32) (fun _ v=>v≠.slice none 0 0)) _) (yg (ar _) (by simp;omega))) (fG (iC _ _ (fun _=>.string (B m))) _))
  (fun _ _ _ _ _ hs _ _=>hs)
  ⟨⟨⟨_,bO.alloc _,(hown1.alloc _).alloc _,by simp⟩,hB0⟩,bN⟩
  (fun x=> {tmps:= #[.string (B m),undef,.slice none 0 0,.pointer (some ⟨w1.heap.size,0,none⟩),.int .u32 (x:Nat),.string s,.string (B m),.string (B m),.int .i64 (((B m).size+3)/4),.slice (some ⟨w'.heap.size,0,none⟩) 0 (((B m).size+3)/4),.string (B m),.func (.func 244) #[] #[.pointer (some ⟨w1.heap.size+1,0,none⟩)],.int .u32 (x:Nat),undef,undef,undef,undef,undef],defers:=[]}) ?assign ?body ?done ?stop
 case assign=>
  intro l x V K hK;gi_wp2
  exact hK
 case body=>
  rintro l pre x V ⟨⟨⟨v,hv,hrow,_⟩,hB⟩,hb⟩ hlt;have hc:=hv.cell;gi_wp2_with (gi_at_builtin;refine wpListIn_append_own _ rfl _ _ 198 rfl w'.heap.size 114 i0 (.int .u32 0) 1 4 Tryz.underlying198 hi hz0 hz1 hz2 rfl (by decide) _ _ _ rfl (hrow.alloc _) ⟨V.heap.size,0,none⟩ 1 1 [.int .u32 (x:Nat)] rfl rfl (cell_one_new _ _ _) (by simp[Value.oneCell']) (by unfold maxLen;omega) (by omega) (by have:=hB.size;simp;omega) ?_;intro v' w3 hown' hgrow _;obtain⟨g',cap',rfl⟩:=ownsRow_succ hown';obtain⟨ny,hv2,hr2,hk2,hb2⟩:=hv.appended (by decide) hrow hB.size Hk hown' hgrow;have hb3:=(hb.alloc _).kept hgrow (hb.not_row (by decide) hrow);have hc1:=ny.cell;have EY:=ny.frozen)
  have hb4:=hb3.other (B':=w1.heap.size) (by omega) (.slice (some ⟨g',0,none⟩) (pre.length+1) cap');exact⟨hk2.from _,hb4.cell.trans hb.cell.symm,⟨⟨_,hv2,by simpa [u32] using hr2,by simp⟩,hB.trans hb2⟩,hb4⟩
 case done=>
  rintro D ys V hD rfl ⟨⟨⟨v,hv,hrow,nB⟩,hB⟩,hb⟩ hK;have hc:=hv.cell;rw[HN.o,HU.o] at hrow;gi_wp2
  refine⟨by simp,.inl ⟨_,_,rfl,zN hK,?_⟩⟩
  obtain⟨g,cap,rfl⟩:∃g cap,v=.slice (some ⟨g,0,none⟩) (words m).length cap:=by
   rcases hrow.2 with ⟨e,_⟩ |⟨g,cap,_,e,_⟩
   ·exact absurd e nB
   ·exact⟨g,cap,e⟩
  refine⟨_,zO rfl _ _ _,g,cap,rfl,?_,hB.trans (tA (w:=w') (ar _) V D _ _ (by simp at hD;omega) hK rfl rfl)⟩;exact ownsRow_putObj hrow _ hK rfl
 case stop=>
  rintro D c pre V _ _ h _;exact h.elim
end
theorem JY (n:Nat):(madeCells (Value.int .u32 0).cells (n*1)).toList=(List.replicate n 0).map u32:=by
 rw[show (Value.int .u32 0).cells= #[Value.int .u32 0] from rfl,I3,mN,MN];rfl
theorem N6 {l:List Nat} (h:w.heap[g]? =some (.cells (l.map u32).toArray 114 (0,0))):bt w g 0 l:=
 ⟨_,h,by simp,fun j hj=>by simp[af hj]⟩
theorem Yt (l:List Nat):splice ((List.replicate (l.length+1) 0).map u32) 0 (l.map u32)=(l++[0]).map u32:=by
 rw[Ys,splice,List.take_zero,iD,bT,List.drop_replicate];simp
theorem acG {l:List Nat} (h:bt w g 0 l):∀j v,(l.map u32)[j]? =some v ->w.cell? ((⟨g,0,none⟩:Addr).add j)=some v:=by
 intro j v hj
 have oH:j<l.length:=by
  rcases cD j l.length with h |h
  ·exact h
  ·rw[iF (by simpa using h)] at hj;cases hj
 rw[Lib.add_plain,h.cell j oH];rw[oh,af oH] at hj;rw[af oH];exact hj
theorem ZY (l:List Nat):∀v∈l.map u32,v.oneCell'=true:=by
 intro v hv;obtain⟨x,_,rfl⟩:=aaQ.1 hv;rfl
theorem Ya {xs ys:List Nat} (hx:Small xs) (hy:Small ys) (h:ys.length<=xs.length):nw xs+nw ys<W^(xs.length+1):=by
 have h1:=uQ xs hx;have h2:=uQ ys hy;have h3:W^ys.length<=W^xs.length:=lW lM h;have h4:W^(xs.length+1)=W^xs.length*W:=jc ..;have h5:W^xs.length*2<=W^xs.length*W:=kZ _ (by decide);omega
theorem agE (gx kO gy ja:Nat) (xs ys:List Nat) (w:World) (ix:Small xs) (jm:Small ys) (hlen:xs.length<=17592186044416) (AL:ys.length<=xs.length) (hx:bt w gx 0 xs) (hy:bt w gy 0 ys):
  Calls Tryz.prog 169 #[.slice (some ⟨gx,0,none⟩) xs.length kO,.slice (some ⟨gy,0,none⟩) ys.length ja] w fun e w'=>∃v l,e=.returned v/\Has w' w.heap.size v l/\Small l/\l.length=xs.length+1/\nw l=nw xs+nw ys/\Below w.heap.size w w':=by
 obtain⟨i0,hi,hz0,hz1,hz2⟩:=eT Tryz.infoU32;have hnl:¬xs.length<ys.length:=by omega
 have hgx:=hx.lt;have EW:=hy.lt;go_enter Tryz.func169,Tryz.ntmps169
 go_wp2_with (first
  |(at_make;refine mL _ rfl _ _ 198 rfl w.heap.size 114 i0 (.int .u32 0) 1 Tryz.underlying198 hi hz0 hz1 .i64 .i64 _ _ (xs.length+1) rfl rfl (by omega) (by omega) (by rw[hz2];omega) (by unfold maxLen;omega) (ar _) ?_;intro w2 hown2 hgrow2;have hb2:=pC hown2;rw[JY] at hb2;have bc:=aB hb2;have hB2:Below w.heap.size w w2:=(au _ w).grown hgrow2 (ar _) (fun k e=>by cases e);have hx2:=hx.aa hB2 hgx;clear hown2 hgrow2 hb2)
  |(refine wpList_copy_splice rfl (.tmp 17) (.tmp 18) 198 198 rfl 114 Tryz.underlying198 (by kernel_rfl) _ _ _ _ _ _ rfl rfl w.heap.size 0 ((List.replicate (xs.length+1) 0).map u32) 114 (by exact bc.o) (xs.map u32) (by rw[c5];exact(uG (Nat.le_succ _)).symm) (fun _=>⟨rfl,_,rfl,acG hx2⟩) (by simp) (ZY xs) w.heap.size w hB2 (ar _) ?_;intro w3 hg3 bU))
 rw[Yt] at hg3;have hl3:=N6 hg3.o;have S3:=hy.aa bU EW;have e1:(xs++[0]).length=xs.length+1:=by simp
 have hs1:Small (xs++[0]):=yB ix (fun x hx=>by simp at hx;subst hx;exact lM);have wP:=RV w.heap.size 0 (xs.length+1) gy 0 ja (xs++[0]) ys w3 hs1 jm (by omega) (by omega) hl3 S3 (by omega);rw[e1,Cv,kY,fH] at wP;refine wP.ae ?_;rintro e w4 ⟨c,l4,rfl,hl4,eM,CM,Kl,vg⟩;have dY:Below w.heap.size w w4:=cF.aa bU vg (ar _) bU.size;obtain⟨cur,hc4,hcs,_⟩:=vg.inside _ hg3.o;have p9:=JQ (base:=w.heap.size) (cap:=xs.length+1) cur hc4 (by rw[hcs];simp) (ar _) (by unfold maxLen;omega) (by omega) Kl
 have HN:Hid (nw l4=nw xs+nw ys):=by
  show _=_;cases c with
  |false=>simpa using CM
  |true=>
   have hf:=Ya ix jm AL;simp only[if_true] at CM;omega
 have HL:=aB hl4;rw[hl4] at p9;clear CM hl4 hc4 hcs wP hg3 Kl vg;go_wp2;go_ret;exact⟨_,l4,rfl,by rw[Has,HL.o];exact p9,eM,HL.o,HN.o,dY⟩
theorem agD (gx kO gy ja:Nat) (xs ys:List Nat) (w:World) (ix:Small xs) (jm:Small ys) (hlen:xs.length<=17592186044416) (hlt:ys.length<xs.length) (hx:bt w gx 0 xs) (hy:bt w gy 0 ys):
  Calls Tryz.prog 169 #[.slice (some ⟨gy,0,none⟩) ys.length ja,.slice (some ⟨gx,0,none⟩) xs.length kO] w fun e w'=>∃v l,e=.returned v/\Has w' w.heap.size v l/\Small l/\l.length=xs.length+1/\nw l=nw xs+nw ys/\Below w.heap.size w w':=by
 obtain⟨i0,hi,hz0,hz1,hz2⟩:=eT Tryz.infoU32;have AL:ys.length<=xs.length:=by omega
 have hgx:=hx.lt;have EW:=hy.lt;go_enter Tryz.func169,Tryz.ntmps169
 go_wp2_with (first
  |(at_make;refine mL _ rfl _ _ 198 rfl w.heap.size 114 i0 (.int .u32 0) 1 Tryz.underlying198 hi hz0 hz1 .i64 .i64 _ _ (xs.length+1) rfl rfl (by omega) (by omega) (by rw[hz2];omega) (by unfold maxLen;omega) (ar _) ?_;intro w2 hown2 hgrow2;have hb2:=pC hown2;rw[JY] at hb2;have bc:=aB hb2;have hB2:Below w.heap.size w w2:=(au _ w).grown hgrow2 (ar _) (fun k e=>by cases e);have hx2:=hx.aa hB2 hgx;clear hown2 hgrow2 hb2)
  |(refine wpList_copy_splice rfl (.tmp 17) (.tmp 18) 198 198 rfl 114 Tryz.underlying198 (by kernel_rfl) _ _ _ _ _ _ rfl rfl w.heap.size 0 ((List.replicate (xs.length+1) 0).map u32) 114 (by exact bc.o) (xs.map u32) (by rw[c5];exact(uG (Nat.le_succ _)).symm) (fun _=>⟨rfl,_,rfl,acG hx2⟩) (by simp) (ZY xs) w.heap.size w hB2 (ar _) ?_;intro w3 hg3 bU))
 rw[Yt] at hg3;have hl3:=N6 hg3.o;have S3:=hy.aa bU EW;have e1:(xs++[0]).length=xs.length+1:=by simp
 have hs1:Small (xs++[0]):=yB ix (fun x hx=>by simp at hx;subst hx;exact lM);have wP:=RV w.heap.size 0 (xs.length+1) gy 0 ja (xs++[0]) ys w3 hs1 jm (by omega) (by omega) hl3 S3 (by omega);rw[e1,Cv,kY,fH] at wP;refine wP.ae ?_;rintro e w4 ⟨c,l4,rfl,hl4,eM,CM,Kl,vg⟩;have dY:Below w.heap.size w w4:=cF.aa bU vg (ar _) bU.size;obtain⟨cur,hc4,hcs,_⟩:=vg.inside _ hg3.o;have p9:=JQ (base:=w.heap.size) (cap:=xs.length+1) cur hc4 (by rw[hcs];simp) (ar _) (by unfold maxLen;omega) (by omega) Kl
 have HN:Hid (nw l4=nw xs+nw ys):=by
  show _=_;cases c with
  |false=>simpa using CM
  |true=>
   have hf:=Ya ix jm AL;simp only[if_true] at CM;omega
 have HL:=aB hl4;rw[hl4] at p9;clear CM hl4 hc4 hcs wP hg3 Kl vg;go_wp2;go_ret;exact⟨_,l4,rfl,by rw[Has,HL.o];exact p9,eM,HL.o,HN.o,dY⟩
theorem agF (gx kO gy ja:Nat) (xs ys:List Nat) (w:World) (ix:Small xs) (jm:Small ys) (hlx:xs.length<=17592186044416) (Nr:ys.length<=17592186044416) (hx:bt w gx 0 xs) (hy:bt w gy 0 ys):
  Calls Tryz.prog 169 #[.slice (some ⟨gx,0,none⟩) xs.length kO,.slice (some ⟨gy,0,none⟩) ys.length ja] w fun e w'=>∃v l,e=.returned v/\Has w' w.heap.size v l/\Small l/\l.length<=17592186044417/\nw l=nw xs+nw ys/\Below w.heap.size w w':=by
 by_cases h:ys.length<=xs.length
 ·refine(agE gx kO gy ja xs ys w ix jm hlx h hx hy).ae ?_;rintro e w' ⟨v,l,rfl,h1,h2,h3,h4,h5⟩;exact⟨v,l,rfl,h1,h2,by omega,h4,h5⟩
 ·refine(agD gy ja gx kO ys xs w jm ix Nr (by omega) hy hx).ae ?_;rintro e w' ⟨v,l,rfl,h1,h2,h3,h4,h5⟩;exact⟨v,l,rfl,h1,h2,by omega,by omega,h5⟩
theorem xg {base:Nat} {l:List Nat} (h:Has w base (.slice (some ⟨g,0,none⟩) n cap) l) (hb:Below w.heap.size w w'):bt w' g 0 l:=by
 rcases h.cases with ⟨e,_⟩ |⟨g',cap',e,_,_,hl⟩
 ·cases e
 ·cases e;exact hl.aa hb hl.lt
theorem yw (s:ByteArray) (k:Nat) (h:s.size<=4*k):(words (N s)).length<=k:=by
 rw[M6, <- mK];have:=ju s;omega
theorem adF (a b:ByteArray) (w:World) (ha:a.size<=1099511627776) (hb:b.size<=1099511627776):
  Calls Tryz.prog 111 #[.string a,.string b] w fun e w'=>e=.returned (.string (B (N a+N b)))/\Below w.heap.size w w':=by
 have lF:=yw a 274877906944 (by omega);have lD:=yw b 274877906944 (by omega);go_enter Tryz.func111,Tryz.ntmps111;go_wp2_with fail
 refine(yA a _ (by omega)).ae ?_;rintro e w1 ⟨g1,c1,rfl,h1,hb1⟩;go_wp2_with fail
 refine(yA b _ (by omega)).ae ?_;rintro e w2 ⟨g2,c2,rfl,h2,hb2⟩;have hl1:=xg h1 hb2;have hl2:=xg h2 (au _ _);have hB2:Below w.heap.size w w2:=hb1.trans (hb2.ae hb1.size);go_wp2_with fail
 refine(agF g1 c1 g2 c2 _ _ _ (mX _) (mX _) (by omega) (by omega) hl1 hl2).ae ?_;rintro e w3 ⟨v,l,rfl,h3,hs3,yS,hv3,hb3⟩;have bU:Below w.heap.size w w3:=hB2.trans (hb3.ae hB2.size);have HV:=aB hv3;clear hv3;go_wp2_with fail
 refine(O0 _ _ _ _ hs3 (by omega) h3).ae ?_;rintro e w4 ⟨rfl,hb4⟩;go_wp2;go_ret;exact⟨by rw[HV.o,kF,kF];rfl,bU.trans (hb4.ae bU.size)⟩
theorem toList_data (s:ByteArray):s.toList=s.data.toList:=by
 obtain⟨⟨l⟩⟩:=s;simp
theorem afE {a b:Bool} (h:a=b):Ending.returned (.bool a)=.returned (.bool b):=by rw[h]
def jq (m n:Nat):Int:=if m<n then -1 else if m=n then 0 else 1
theorem aaG:∀(l m:List UInt8),l.length=m.length ->Op.bytesLess l m=decide (nb l<nb m)
 |[],[],_=>rfl
 |x::l,y::m,h=>by
  have hl:l.length=m.length:=by simpa using h
  have ih:=aaG l m hl;have h1:=tH l;have h2:=tH m;rw[Ew,Ew, <- hl];rw[<- hl] at h2;rw[Op.bytesLess];rcases QG x.toNat y.toNat with e |e |e
  ·have wG:(decide (x<y))=true:=by simpa [UInt8.lt_iff_toNat_lt] using e
   have:(x.toNat+1)*256^l.length<=y.toNat*256^l.length:=jK _ e;rw[fW] at this;rw[wG,Bool.true_or];symm;rw[QA];omega
  ·have wG:x=y:=MH.1 e;subst wG;(have h3:(decide (x<x))=false:=by simp);rw[h3,Bool.false_or,beq_self_eq_true,Jj,ih];congr 1
   apply propext;omega
  ·have h3:(decide (x<y))=false:=by simp[UInt8.lt_iff_toNat_lt];omega
   (have h4:(x==y)=false:=by rw[zQ];rintro rfl;omega);have:(y.toNat+1)*256^l.length<=x.toNat*256^l.length:=jK _ e;rw[fW] at this;rw[h3,h4,Bool.false_or,Bool.false_and];symm;rw[QB];omega
theorem aak:∀(l m:List UInt8),l.length=m.length ->nb l=nb m ->l=m
 |[],[],_,_=>rfl
 |x::l,y::m,h,e=>by
  have hl:l.length=m.length:=by simpa using h
  have h1:=tH l;have h2:=tH m;rw[Ew,Ew, <- hl] at e;rw[<- hl] at h2;have hp:0<256^l.length:=tB (by decide)
  have hx:x.toNat=y.toNat:=by
   rcases QG x.toNat y.toNat with c |c |c
   ·have:(x.toNat+1)*256^l.length<=y.toNat*256^l.length:=jK _ c;rw[fW] at this;omega
   ·exact c
   ·have:(y.toNat+1)*256^l.length<=x.toNat*256^l.length:=jK _ c;rw[fW] at this;omega
  rw[hx] at e;rw[MH.1 hx,aak l m hl (by omega)]
theorem anP (a b:ByteArray) (w:World) (h:a.size=b.size):
  Calls Tryz.prog 212 #[.string a,.string b] w fun e w'=>e=.returned (.int .i64 (jq (N a) (N b)))/\w'=w:=by
 have hlt:=aaG a.data.toList b.data.toList (by rw[yu,yu];exact h);rcases QG (N a) (N b) with h1 |h1 |h1
 ·have hL:Op.bytesLess a.toList b.toList=true:=by rw[toList_data,toList_data,hlt];simpa [N] using h1
  have HR:Hid (jq (N a) (N b)= -1):=by show _=_;rw[jq,aaf h1]
  clear hlt h1;go_enter Tryz.func212,Tryz.ntmps212;go_wp2;go_ret;exact⟨Ao HR.o.symm,rfl⟩
 ·have hL:Op.bytesLess a.toList b.toList=false:=by rw[toList_data,toList_data,hlt];simp only[N] at h1;rw[QB];omega
  have hE:(a.toList==b.toList)=true:=by
   rw[toList_data,toList_data,aak a.data.toList b.data.toList (by rw[yu,yu];exact h) h1];simp
  have HR:Hid (jq (N a) (N b)=0):=by show _=_;rw[jq,aaO (by omega),aaf h1]
  clear hlt h1;go_enter Tryz.func212,Tryz.ntmps212;go_wp2;go_ret;exact⟨Ao HR.o.symm,rfl⟩
 ·have hL:Op.bytesLess a.toList b.toList=false:=by rw[toList_data,toList_data,hlt];simp only[N] at h1;rw[QB];omega
  have hE:(a.toList==b.toList)=false:=by
   rw[toList_data,toList_data,zQ];intro e;rw[N,N,e] at h1;omega
  have HR:Hid (jq (N a) (N b)=1):=by show _=_;rw[jq,aaO (by omega),aaO (by omega)]
  clear hlt h1;go_enter Tryz.func212,Tryz.ntmps212;go_wp2;go_ret;exact⟨Ao HR.o.symm,rfl⟩
theorem Xa (a b:ByteArray) (w:World):
  Calls Tryz.prog 164 #[.string a,.string b] w fun e w'=>e=.returned (.int .i64 (jq (N a) (N b)))/\w'=w:=by
 by_cases h:(B (N a)).size=(B (N b)).size
 ·have hc:=fun V=>anP (B (N a)) (B (N b)) V h;simp only[bQ] at hc;have HC:=aB hc;have hne:(((B (N a)).size:Int) !=((B (N b)).size:Int))=false:=by rw[h];simp
  clear hc h;go_enter Tryz.func164,Tryz.ntmps164;go_wp2_with fail
  refine(Dk _ _).ae ?_;rintro e w1 ⟨rfl,hw⟩;subst hw;go_wp2_with fail
  refine(Dk _ _).ae ?_;rintro e w2 ⟨rfl,hw⟩;subst hw;go_wp2_with fail
  refine(HC.o _).ae ?_;rintro e w3 ⟨rfl,hw⟩;subst hw;go_wp2;go_ret;exact⟨rfl,rfl⟩
 ·have hne:(((B (N a)).size:Int) !=((B (N b)).size:Int))=true:=by rw[bne_iff_ne];omega
  have HR:Hid (Lib.compareInt (((B (N a)).size:Nat):Int) (((B (N b)).size:Nat):Int)=jq (N a) (N b)):=by
   show _=_;rw[mK,mK] at h⊢;unfold Lib.compareInt jq;rcases cD (N a) (N b) with c |c
   ·have:=Vg (uH c);rw[aaf (by omega),aaf c]
   ·have:=Vg c;rw[aaO (by omega),aaf (by omega),aaO (by omega),aaO (by intro e;rw[e] at h;exact h rfl)]
  clear h;go_enter Tryz.func164,Tryz.ntmps164;go_wp2_with fail
  refine(Dk _ _).ae ?_;rintro e w1 ⟨rfl,hw⟩;subst hw;go_wp2_with fail
  refine(Dk _ _).ae ?_;rintro e w2 ⟨rfl,hw⟩;subst hw;go_wp2_with fail
  refine(Tryz.cmp_Compare_int _ _ _).ae ?_;rintro e w3 ⟨rfl,hw⟩;subst hw;go_wp2;go_ret;exact⟨Ao HR.o,rfl⟩
def sbm (xs ys:List Nat) (f:Nat):Nat ->List Nat×Nat×Nat
 |0=>([],0,0)
 |k+1=>((sbm xs ys f k).1++[(xs[k]?.getD 0+2*W - ((sbm xs ys f k).2.1+ys[k]?.getD 0*f) % W - (sbm xs ys f k).2.2) % W],
   ((sbm xs ys f k).2.1+ys[k]?.getD 0*f)/W,if xs[k]?.getD 0<((sbm xs ys f k).2.1+ys[k]?.getD 0*f) % W+(sbm xs ys f k).2.2 then 1 else 0)
theorem YP (xs ys:List Nat) (f k:Nat):(sbm xs ys f k).1.length=k:=by
 induction k with
 |zero=>rfl
 |succ k ih=>simp[sbm,ih]
theorem afr (xs ys:List Nat) (f k:Nat):Small (sbm xs ys f k).1:=by
 induction k with
 |zero=>intro x hx;simp[sbm] at hx
 |succ k ih=>
  intro x hx;rw[sbm] at hx;rcases aa5.1 hx with hx |hx
  ·exact ih x hx
  ·simp only[fX] at hx;subst hx;exact jL _ lM
theorem YQ (xs ys:List Nat) (f k:Nat):(sbm xs ys f k).2.2<=1:=by
 cases k with
 |zero=>exact aU _
 |succ k=>
  rw[sbm];show (if _ then 1 else 0)<=1;split<;>omega
theorem aft (xs ys:List Nat) (f:Nat) (hy:Small ys) (hf:f<W) (k:Nat):(sbm xs ys f k).2.1<W:=by
 induction k with
 |zero=>exact lM
 |succ k ih=>
  rw[sbm];refine Gn ?_;have h1:=getD_lt hy k;have h2:ys[k]?.getD 0*f<=(W - 1)*(W - 1):=iW (by omega) (by omega);have h3:(W - 1)*(W - 1)+W<=W*W:=by decide
  omega
theorem afq (x c t b:Nat) (hx:x<W) (hb:b<=1):
  (x+2*W - (c+t) % W - b) % W+t+b+c=x+W*((c+t)/W+if x<(c+t) % W+b then 1 else 0):=by
 have e:=Nat.mod_add_div (c+t) W;have hlo:=jL (c+t) lM;generalize (c+t) % W=lo at *;generalize (c+t)/W=q at *;rw[mO];by_cases h:x<lo+b
 ·rw[aaf h]
  have:(x+2*W - lo - b) % W=x+W - lo - b:=by
   rw[show x+2*W - lo - b=(x+W - lo - b)+W by omega,Nat.add_mod_right];exact jM (by omega)
  omega
 ·rw[aaO h]
  have:(x+2*W - lo - b) % W=x - lo - b:=by
   rw[show x+2*W - lo - b=(x - lo - b)+W+W by omega,Nat.add_mod_right,Nat.add_mod_right];exact jM (by omega)
  omega
theorem afs (xs ys:List Nat) (f:Nat) (hx:Small xs) (k:Nat):
  nw (sbm xs ys f k).1+f*nw (ys.take k)=nw (xs.take k)+W^k*((sbm xs ys f k).2.1+(sbm xs ys f k).2.2):=by
 rw[<- Ha xs k, <- Ha ys k];induction k with
 |zero=>simp[sbm,jl,nh]
 |succ k ih=>
  have hb:=YQ xs ys f k;have st:=afq (xs[k]?.getD 0) (sbm xs ys f k).2.1 (ys[k]?.getD 0*f) (sbm xs ys f k).2.2 (getD_lt hx k) hb
  have e3:f*(jl (fun j=>ys[j]?.getD 0) k+W^k*ys[k]?.getD 0)=f*jl (fun j=>ys[j]?.getD 0) k+W^k*(ys[k]?.getD 0*f):=by
   rw[mO,zW,abr f (ys[k]?.getD 0)]
  rw[sbm,jl,jl,Cv,YP,e3];show _=_+W^(k+1)*(_+if _ then 1 else 0);rw[jc,il];generalize (xs[k]?.getD 0+2*W - ((sbm xs ys f k).2.1+ys[k]?.getD 0*f) % W - (sbm xs ys f k).2.2) % W=d at *;generalize (((sbm xs ys f k).2.1+ys[k]?.getD 0*f)/W+if xs[k]?.getD 0<((sbm xs ys f k).2.1+ys[k]?.getD 0*f) % W+(sbm xs ys f k).2.2 then 1 else 0)=z at *;generalize (sbm xs ys f k).2.1=c at *;generalize (sbm xs ys f k).2.2=b at *;generalize ys[k]?.getD 0*f=t at *;have:=bR (W^k*·) st;simp only[mO] at this ih⊢;omega
theorem Vo (t:Nat) (ht:t<18446744073709551616):bits .and .u64 (t:Int) 4294967295=((t % 4294967296:Nat):Int):=by
 have e:(4294967295:Int)=((4294967295:Nat):Int):=rfl;rw[e,u64_and_nat t 4294967295 ht (by omega)];congr 1
 exact Nat.and_two_pow_sub_one_eq_mod t 32
theorem Ro (x lo b:Nat) (hx:x<4294967296) (hlo:lo<4294967296) (hb:b<=1):
  IntKind.u64.wrap (IntKind.u64.wrap ((x:Int) - (lo:Int)) - (b:Int))/9223372036854775808=((if x<lo+b then 1 else 0:Nat):Int)/\
  IntKind.u64.wrap (IntKind.u64.wrap ((x:Int) - (lo:Int)) - (b:Int)) % 4294967296=(((x+2*W - lo - b) % W:Nat):Int):=by
 rw[MV,MV,gW];by_cases h:x<lo+b
 ·rw[aaf h];have e:(((x:Int) - (lo:Int)) % 18446744073709551616 - (b:Int)) % 18446744073709551616=(x:Int) - (lo:Int) - (b:Int)+18446744073709551616:=by omega
  rw[e];omega
 ·rw[aaO h];have e:(((x:Int) - (lo:Int)) % 18446744073709551616 - (b:Int)) % 18446744073709551616=(x:Int) - (lo:Int) - (b:Int):=by omega
  rw[e];omega
theorem XZ (g off cap b JT ja:Nat) (xs ys:List Nat) (f:Nat) (w:World) (ix:Small xs) (jm:Small ys) (hf:f<W) (hlen:xs.length<=35184372088832) (AL:ys.length<=xs.length) (hx:bt w g off xs) (hy:bt w b JT ys) (hgb:b≠g):
  Calls Tryz.prog 209 #[.slice (some ⟨g,off,none⟩) xs.length cap,.slice (some ⟨b,JT,none⟩) ys.length ja,.int .u32 (f:Nat)] w fun e w'=>∃(s:Nat) (l':List Nat),e=.returned (.bool (decide (s≠0)))/\l'.length=xs.length/\Small l'/\nw l'+f*nw ys=nw xs+W^xs.length*s/\bt w' g off l'/\cF g off xs.length w w':=by
 have hf2:f<4294967296:=hf;go_enter Tryz.func209,Tryz.ntmps209;go_wp2
 go_loopw [7,8,13] (fun c bo i wr=>∃k:Nat,k<=xs.length/\i=.int .i64 k/\c=.int .u64 ((sbm xs ys f k).2.1:Nat)/\bo=.int .u64 ((sbm xs ys f k).2.2:Nat)/\bt wr g off ((sbm xs ys f k).1++xs.drop k)/\cF g off xs.length w wr)
  (fun _ _ i _=>xs.length - (intOf i).toNat)
 case atStart=>exact⟨0,aU _,rfl,rfl,rfl,by simpa [sbm] using hx,cF.refl _ _ _ _⟩
 case round=>
  obtain⟨k,hk,rfl,rfl,rfl,cZ,ig⟩:=hrel;have wX:=aft xs ys f jm hf k;have OJ:=YQ xs ys f k;have dN:=YP xs ys f k;have o9:=afr xs ys f k;have HQ:=aB (afs xs ys f ix k);rw[gW] at wX;by_cases hlt:k<xs.length
  ·have ij:k<((sbm xs ys f k).1++xs.drop k).length:=by rw[dM,dN,mR];omega
   have hcell:=cZ.cell k ij;have hfz:=cZ.frozen (off+k);have cO:=fun y=>cZ.set k ij y;simp only[Pe _ xs k _ dN hlt] at cO
   have sk:((sbm xs ys f k).1++xs.drop k)[k]?.getD 0=xs[k]?.getD 0:=by
    rw[MR (by omega),dN,qE,Jh,fH]
   rw[sk] at hcell
   have HG:Hid (sbm xs ys f (k+1)=((sbm xs ys f k).1++[(xs[k]?.getD 0+2*W - ((sbm xs ys f k).2.1+ys[k]?.getD 0*f) % W - (sbm xs ys f k).2.2) % W],
    ((sbm xs ys f k).2.1+ys[k]?.getD 0*f)/W,if xs[k]?.getD 0<((sbm xs ys f k).2.1+ys[k]?.getD 0*f) % W+(sbm xs ys f k).2.2 then 1 else 0)):=rfl
   have uV:=getD_lt ix k;have EB:=getD_lt jm k;have Kg:ys[k]?.getD 0*f<=4294967295*4294967295:=iW (by rw[gW] at EB;omega) (by rw[gW] at hf;omega);rw[gW] at uV EB;by_cases Tz:k<ys.length
   ·have ajM:=(hy.apart ig hgb).cell k Tz;generalize (sbm xs ys f k).2.1=c at *;generalize (sbm xs ys f k).2.2=bo at *;generalize (sbm xs ys f k).1=q at *;generalize xs[k]?.getD 0=x at *;generalize ys[k]?.getD 0=y at *;(have CJ:(y:Int)*(f:Int)<=18446744065119617025:=by rw[<- iH];omega);(have vr:0<=(y:Int)*(f:Int):=by rw[<- iH];omega);obtain⟨lo,hlo⟩:∃lo,lo=(c+y*f) % 4294967296:=⟨_,rfl⟩
    have hand:bits .and .u64 ((c:Int)+(y:Int)*(f:Int)) 4294967295=(lo:Int):=by
     have:=Vo (c+y*f) (by omega);rw[<- hlo] at this;rw[<- this,ru,iH]
    (have ajr:lo<4294967296:=by omega);have Wn:=aB hlo;have kS:=aB cO;clear cO sk ij cZ HQ hlo Kg;go_wp2;obtain⟨v1,v2⟩:=Ro x lo bo uV ajr OJ;rw[v1,v2];have hv2:Value.int .u64 (((c:Int)+(y:Int)*(f:Int))/4294967296)=.int .u64 (((c+y*f)/W:Nat):Int):=int_eq (by rw[gW,tC,ru,iH];rfl);rw[hv2];have hq:=kS.o ((x+2*W - lo - bo) % W);have rh:Hid ((c+y*f) % W=lo):=Wn.o.symm;have j8:=HG.o;rw[rh.o] at j8;go_roundw
    case rel=>exact⟨k+1,by omega,by go_num,by rw[j8],by rw[j8],by rw[j8];exact hq,ig.trans (cF.setCell (MJ _ _) (by omega) _)⟩
    case measure=>simp[intOf];omega
   ·have J6:ys[k]?.getD 0=0:=by rw[iF (by omega)];rfl
    by_cases hc0:(sbm xs ys f k).2.1=0/\(sbm xs ys f k).2.2=0
    ·obtain⟨hc1,hc2⟩:=hc0
     have HE:Hid (nw ((sbm xs ys f k).1++xs.drop k)+f*nw ys=nw xs):=by
      show _=_;have e:=HQ.o;rw[hc1,hc2,kY,fH,jd (show ys.length<=k by omega)] at e;have e2:=r6 xs k hk;rw[Ay,dN];omega
     have hsm:=yB o9 (JA ix k);(have dh:((sbm xs ys f k).1++xs.drop k).length=xs.length:=by rw[dM,dN,mR];omega);rw[hc1,hc2];generalize (sbm xs ys f k).1++xs.drop k=q at *;clear cO hcell hfz HG sk ij HQ Kg;go_wp2;go_ret;exact⟨0,q,rfl,dh,hsm,by rw[HE.o,kY,fH],cZ,ig⟩
    ·have j8:=HG.o;simp only[J6,jw,fH] at j8;generalize (sbm xs ys f k).2.1=c at *;generalize (sbm xs ys f k).2.2=bo at *;generalize (sbm xs ys f k).1=q at *;generalize xs[k]?.getD 0=x at *;have hcm:c % W=c:=jM wX;simp only[hcm] at j8
     have hand:bits .and .u64 (c:Int) 4294967295=(c:Int):=by
      have:=Vo c (by omega);rwa [jM wX] at this
     have ri:=aB j8;have kS:=aB cO;clear cO sk ij cZ HQ J6 Kg HG j8 hcm;by_cases KC:c=0
     ·subst KC;(have hb1:bo=1:=by omega);subst hb1;clear hc0;go_wp2;obtain⟨v1,v2⟩:=Ro x 0 1 uV (by omega) (by omega);have hz:bits .and .u64 0 4294967295=((0:Nat):Int):=Vo 0 (by omega);rw[hz,show IntKind.u64.wrap (IntKind.u64.wrap ((x:Int) - ((0:Nat):Int)) - 1)=IntKind.u64.wrap (IntKind.u64.wrap ((x:Int) - ((0:Nat):Int)) - ((1:Nat):Int)) from rfl,v1,v2];have hq:=kS.o ((x+2*W - 0 - 1) % W);go_roundw
      case rel=>exact⟨k+1,by omega,by go_num,by rw[ri.o];rfl,by rw[ri.o],by rw[ri.o];exact hq,ig.trans (cF.setCell (MJ _ _) (by omega) _)⟩
      case measure=>simp[intOf];omega
     ·have hcb:((c:Int)==0)=false:=by rw[zQ];omega
      clear hc0;go_wp2;obtain⟨v1,v2⟩:=Ro x c bo uV wX OJ;rw[v1,v2];have hv2:Value.int .u64 ((c:Int)/4294967296)=.int .u64 ((c/W:Nat):Int):=int_eq (by rw[gW];omega);have hq:=kS.o ((x+2*W - c - bo) % W);rw[hv2];go_roundw
      case rel=>exact⟨k+1,by omega,by go_num,by rw[ri.o],by rw[ri.o],by rw[ri.o];exact hq,ig.trans (cF.setCell (MJ _ _) (by omega) _)⟩
      case measure=>simp[intOf];omega
  ·obtain rfl:k=xs.length:=by omega
   rw[List.drop_length,Eg] at cZ
   have HE:Hid (nw (sbm xs ys f xs.length).1+f*nw ys=nw xs+W^xs.length*((sbm xs ys f xs.length).2.1+(sbm xs ys f xs.length).2.2)):=by
    show _=_;have e:=HQ.o;rwa [fJ,jd AL] at e
   generalize (sbm xs ys f xs.length).1=q at *;generalize (sbm xs ys f xs.length).2.1=c at *;generalize (sbm xs ys f xs.length).2.2=bo at *;clear HQ;by_cases KC:c=0
   ·subst KC;rcases (show bo=0∨bo=1 by omega) with rfl |rfl
    ·go_wp2;go_ret;exact⟨0,q,rfl,dN,o9,HE.o,cZ,ig⟩
    ·go_wp2;go_ret;exact⟨1,q,rfl,dN,o9,HE.o,cZ,ig⟩
   ·have hcb:((c:Int) !=0)=true:=by rw[bne_iff_ne];omega
    go_wp2;go_ret;exact⟨c+bo,q,afE (by symm;rw[QA];omega),dN,o9,HE.o,cZ,ig⟩
theorem adP (h:m<=n):(words m).length<=(words n).length:=by
 rw[M6,M6];have:=Vg h;omega
theorem am4 (a b:ByteArray) (w:World) (h:N a<N b):
  Calls Tryz.prog 163 #[.string a,.string b] w fun e w'=>e=.returned (.tuple #[.string ⟨#[]⟩,.bool false])/\Below w.heap.size w w':=by
 have hc:jq (N a) (N b)= -1:=by rw[jq,aaf h]
 have hC:=fun V=>Xa a b V;simp only[hc] at hC;have HC:=aB hC;clear hC hc;go_enter Tryz.func163,Tryz.ntmps163;go_wp2_with fail
 refine(HC.o _).ae ?_;rintro e w1 ⟨rfl,hw⟩;subst hw;go_wp2;go_ret2;exact⟨rfl,au _ _⟩
theorem am2 (a b:ByteArray) (w:World) (ha:a.size<=1099511627776) (hb:b.size<=1099511627776) (h:N b<=N a):
  Calls Tryz.prog 163 #[.string a,.string b] w fun e w'=>e=.returned (.tuple #[.string (B (N a - N b)),.bool true])/\Below w.heap.size w w':=by
 have hc:0<=jq (N a) (N b):=by
  rw[jq,aaO (by omega)];split<;>omega
 have hC:=fun V=>Xa a b V;generalize jq (N a) (N b)=ci at *;have HC:=aB hC;clear hC;have lF:=yw a 274877906944 (by omega);have lD:=yw b 274877906944 (by omega);go_enter Tryz.func163,Tryz.ntmps163;go_wp2_with fail
 refine(HC.o _).ae ?_;rintro e w0 ⟨rfl,hw⟩;subst hw;go_wp2_with fail
 refine(yA a _ (by omega)).ae ?_;rintro e w1 ⟨g1,c1,rfl,h1,hb1⟩;go_wp2_with fail
 refine(yA b _ (by omega)).ae ?_;rintro e w2 ⟨g2,c2,rfl,h2,hb2⟩;have hl1:=xg h1 hb2;have hl2:=xg h2 (au _ _);have vE:=h1.aa hb2 (ar _);have hg1:g1<w1.heap.size:=(xg h1 (au _ _)).lt
 have hg2:w1.heap.size<=g2:=by
  rcases h2.cases with ⟨e,_⟩ |⟨g',cap',e,_,hbg,_⟩
  ·cases e
  ·cases e;exact hbg
 have hg0:w0.heap.size<=g1:=by
  rcases h1.cases with ⟨e,_⟩ |⟨g',cap',e,_,hbg,_⟩
  ·cases e
  ·cases e;exact hbg
 have hB2:Below w0.heap.size w0 w2:=hb1.trans (hb2.ae hb1.size);go_wp2_with fail
 refine(XZ g1 0 c1 g2 0 c2 _ _ 1 _ (mX _) (mX _) (by decide) (by omega) (adP h) hl1 hl2 (by omega)).ae ?_;rintro e w3 ⟨s,l,rfl,dh,hsm,hn,Km,hu⟩
 have hs0:s=0:=by
  have hlt:=uQ l hsm;rw[dh] at hlt;rw[kF,kF] at hn;rcases zY s with e |e
  ·exact e
  ·have:W^(words (N a)).length*1<=W^(words (N a)).length*s:=kZ _ e;omega
 have HN:Hid (nw l=N a - N b):=by
  show _=_;rw[kF,kF,hs0] at hn;omega
 have hH:=vE.upd hu Km dh;have bU:Below w0.heap.size w0 w3:=cF.aa hB2 hu hg0 hB2.size;have pJ:=aB dh;clear hn dh hl1 hl2 vE Km hu h1 h2 hs0;go_wp2_with fail
 refine(O0 _ _ _ _ hsm (by rw[pJ.o];omega) hH).ae ?_;rintro e w4 ⟨rfl,hb4⟩;go_wp2;go_ret2;exact⟨by rw[HN.o];rfl,bU.trans (hb4.ae bU.size)⟩
def iq (x:Nat) (ys p:List Nat) (i j:Nat):Nat:=x*ys[j]?.getD 0+p[i+j]?.getD 0
theorem YV (x:Nat) (ys p:List Nat) (i:Nat) (hx:x<W) (hy:Small ys) (hp:Small p) (k:Nat):(acc (iq x ys p i) k).2<W:=by
 have h:=Vv (iq x ys p i) (W - 1) k fun j _=>by
  have h1:=getD_lt hy j;have h2:=getD_lt hp (i+j);have h3:x*ys[j]?.getD 0<=(W - 1)*(W - 1):=iW (by omega) (by omega);have h4:(W - 1)*(W - 1)+W+W<=W*W+1:=by decide
  unfold iq;rw[QE lM];omega
 have:=lM;omega
theorem afy (x:Nat) (ys p:List Nat) (i:Nat):jl (iq x ys p i) ys.length=x*nw ys+nw ((p.drop i).take ys.length):=by
 rw[show iq x ys p i=fun j=>(fun j=>x*(fun j=>ys[j]?.getD 0) j) j+(fun j=>p[i+j]?.getD 0) j from rfl,Z7,Z5,Z6 ys _ (ar _)];congr 1
 rw[<- Ha];exact ahC fun j _=>by rw[Jh]
def yI (x:Nat) (ys p:List Nat) (i:Nat):List Nat:=p.take i++((acc (iq x ys p i) ys.length).1++[(acc (iq x ys p i) ys.length).2])++p.drop (i+(ys.length+1))
theorem adu (p:List Nat) (k:Nat) (h:∀j,k<=j ->p[j]?.getD 0=0):nw (p.drop k)=0:=by
 have:p.drop k=List.replicate (p.drop k).length 0:=by
  apply pS
  ·simp
  ·intro j h1 h2;have:=h (k+j) (by omega);rw[mR] at h1;rw[af (by omega)] at this;simpa using this
 rw[this,Sp]
theorem aia (x:Nat) (ys p:List Nat) (i:Nat) (hx:x<W) (hy:Small ys) (hp:Small p) (hi:i+ys.length<p.length) (hz:∀j,i+ys.length<=j ->p[j]?.getD 0=0):
  (yI x ys p i).length=p.length/\Small (yI x ys p i)/\nw (yI x ys p i)=nw p+W^i*(x*nw ys)/\∀j,i+1+ys.length<=j ->(yI x ys p i)[j]?.getD 0=0:=by
 have hl:=Ln (iq x ys p i) ys.length;have AR:(p.take i).length=i:=by rw[eZ];omega
 have abd:(p.take i++((acc (iq x ys p i) ys.length).1++[(acc (iq x ys p i) ys.length).2])).length=i+(ys.length+1):=by
  rw[dM,dM,AR,hl];rfl
 refine⟨?_,?_,?_,?_⟩
 ·rw[yI,dM,abd,mR];omega
 ·refine yB (yB (GR hp i) (yB (Vt _ _) ?_)) (JA hp _);intro z hz';simp only[fX] at hz';subst hz';exact YV x ys p i hx hy hp _
 ·have e1:=Vu (iq x ys p i) ys.length;rw[afy] at e1;have e2:=r6 p i (by omega);have e3:=r6 (p.drop i) ys.length (by rw[mR];omega);rw[List.drop_drop,adu p (i+ys.length) hz,kY,fH] at e3;have e4:=adu p (i+(ys.length+1)) (fun j hj=>hz j (by omega));rw[yI,Ay,e4,kY,fH,Ay,AR,Cv,hl,e1,e2,e3,mO];omega
 ·intro j hj;rw[yI,MR (by omega),abd,Jh];exact hz _ (by omega)
theorem cF.drewN {off:Nat} {a b:World} (h:cF g off n a b) (k:Nat):cF g off n a (b.drewN k):=⟨⟨h.grown.os,h.grown.tape,h.grown.output,h.grown.size,h.grown.block⟩,h.inside⟩
theorem bt.drewN {off:Nat} {l:List Nat} (h:bt w g off l) (k:Nat):bt (w.drewN k) g off l:=h
theorem aeg (gx kO gy ja:Nat) (xs ys:List Nat) (w:World) (ix:Small xs) (jm:Small ys) (hlx:xs.length<=8796093022208) (Nr:ys.length<=8796093022208) (hx:bt w gx 0 xs) (hy:bt w gy 0 ys):
  Calls Tryz.prog 193 #[.slice (some ⟨gx,0,none⟩) xs.length kO,.slice (some ⟨gy,0,none⟩) ys.length ja] w fun e w'=>∃v l,e=.returned v/\Has w' w.heap.size v l/\Small l/\l.length=xs.length+ys.length/\nw l=nw xs*nw ys/\Below w.heap.size w w':=by
 obtain⟨i0,hi,hz0,hz1,hz2⟩:=eT Tryz.infoU32;have hgx:=hx.lt;have EW:=hy.lt;go_enter Tryz.func193,Tryz.ntmps193
 go_wp2_with (first
  |(at_make;refine mL _ rfl _ _ 198 rfl w.heap.size 114 i0 (.int .u32 0) 1 Tryz.underlying198 hi hz0 hz1 .i64 .i64 _ _ (xs.length+ys.length) rfl rfl (by omega) (by omega) (by rw[hz2];omega) (by unfold maxLen;omega) (ar _) ?_;intro w2 hown2 hgrow2;have hb2:=pC hown2;rw[JY] at hb2;have bc:=aB hb2;have hB2:Below w.heap.size w w2:=(au _ w).grown hgrow2 (ar _) (fun k e=>by cases e);have hx2:=hx.aa hB2 hgx;have hy2:=hy.aa hB2 EW;clear hown2 hgrow2 hb2))
 have hl2:=N6 bc.o
 go_loopw [17] (fun i wr=>∃(k:Nat) (p:List Nat),k<=xs.length/\i=.int .i64 k/\p.length=xs.length+ys.length/\Small p/\Hid (nw p=nw (xs.take k)*nw ys)/\Hid (∀j,k+ys.length<=j ->p[j]?.getD 0=0)/\bt wr w.heap.size 0 p/\cF w.heap.size 0 (xs.length+ys.length) w2 wr)
  (fun i _=>xs.length - (intOf i).toNat)
 case atStart=>exact⟨0,_,aU _,rfl,by simp,Yv _,by show _=_;rw[Sp];simp[nh],fun j _=>by rw[QO];split<;>rfl,hl2,cF.refl _ _ _ _⟩
 case round=>
  obtain⟨k,p,hk,rfl,hpl,df,Hm,Om,cZ,ig⟩:=hrel;obtain⟨wo,rfl⟩:∃wo:World,wo=wr:=⟨_,rfl⟩;by_cases hlt:k<xs.length
  ·have sA:=fun V (hV:cF w.heap.size 0 (xs.length+ys.length) w2 V)=>(hx2.apart hV (by omega)).cell k hlt;have uV:=getD_lt ix k;have aaW:=aia (xs[k]?.getD 0) ys p k uV jm df (by omega) Om.o
   have HX:Hid (nw (xs.take (k+1))=nw (xs.take k)+W^k*xs[k]?.getD 0):=by
    show _=_;rw[Sq xs k hlt,af hlt];rfl
   generalize xs[k]?.getD 0=x at *;have HXC:=aB sA;have Vc:=aB aaW;(have hfr:bt wo w.heap.size 0 (p.take k++(acc (iq x ys p k) 0).1++p.drop (k+0)):=by simpa [acc] using cZ);clear sA aaW;go_wp2
   go_loopw [7,22] (fun c j wr=>∃m:Nat,m<=ys.length/\j=.int .i64 m/\c=.int .u64 ((acc (iq x ys p k) m).2:Nat)/\bt wr w.heap.size 0 (p.take k++(acc (iq x ys p k) m).1++p.drop (k+m))/\cF w.heap.size 0 (xs.length+ys.length) w2 wr)
    (fun _ j _=>ys.length - (intOf j).toNat)
   case atStart=>exact⟨0,aU _,rfl,rfl,hfr,ig⟩
   case round=>
    obtain⟨m,hm,rfl,rfl,CN,Od⟩:=hrel;have wX:=YV x ys p k uV jm df m;have dN:=Ln (iq x ys p k) m;(have lA:(p.take k).length=k:=by rw[eZ];omega);rw[gW] at wX;by_cases Tt:m<ys.length
    ·have ij:k+m<(p.take k++(acc (iq x ys p k) m).1++p.drop (k+m)).length:=by rw[dM,dM,lA,dN,mR];omega
     have hcell:=CN.cell (k+m) ij;have hfz:=CN.frozen (k+m);rw[afn _ _ _ k m lA dN,bT] at hcell;have cO:=fun z n=>(CN.drewN n).set (k+m) ij z;simp only[YK _ _ p k m _ lA dN (by omega),bT] at cO;have ajN:=HXC.o wr Od;rw[bT] at ajN;have ajL:=(hy2.apart Od (by omega)).cell m Tt;rw[bT] at ajL;have EB:=getD_lt jm m;have jn:=getD_lt df (k+m);have HG:Hid (acc (iq x ys p k) (m+1)=((acc (iq x ys p k) m).1++[((acc (iq x ys p k) m).2+iq x ys p k m) % W],((acc (iq x ys p k) m).2+iq x ys p k m)/W)):=rfl;have HF:Hid (iq x ys p k m=x*ys[m]?.getD 0+p[k+m]?.getD 0):=rfl;have Kg:x*ys[m]?.getD 0<=4294967295*4294967295:=iW (by rw[gW] at uV;omega) (by rw[gW] at EB;omega);rw[gW] at EB jn;have anY:x<4294967296:=uV;generalize (acc (iq x ys p k) m).2=c at *;generalize (acc (iq x ys p k) m).1=q at *;generalize iq x ys p k m=s at *;generalize ys[m]?.getD 0=y at *;generalize p[k+m]?.getD 0=z at *;(have CJ:(x:Int)*(y:Int)<=18446744065119617025:=by rw[<- iH];omega);(have vr:0<=(x:Int)*(y:Int):=by rw[<- iH];omega);(have hkI:(k:Int)<(xs.length:Int):=by omega);(have hmI:(m:Int)<(ys.length:Int):=by omega);(have aoe:(k:Int)+(m:Int)<(xs.length:Int)+(ys.length:Int):=by omega);(have aod:((k:Int)+(m:Int)).toNat=k+m:=by omega);have kS:=aB cO;clear cO ij CN Kg;go_wp2_with fail
     go_quiet (fail)
     go_wp2;have hv:Value.int .u32 (((c:Int)+((x:Int)*(y:Int)+(z:Int))) % 4294967296)=.int .u32 (((c+s) % W:Nat):Int):=int_eq (by rw[gW,HF.o,Af,ru,ru,iH];rfl);have hv2:Value.int .u64 (((c:Int)+((x:Int)*(y:Int)+(z:Int)))/4294967296)=.int .u64 (((c+s)/W:Nat):Int):=int_eq (by rw[gW,HF.o,tC,ru,ru,iH];rfl);rw[hv,hv2];have hq:=kS.o ((c+s) % W) nq;go_roundw
     case rel=>exact⟨m+1,by omega,by go_num,by rw[HG.o],by rw[HG.o];exact hq,(Od.drewN nq).trans (cF.setCell (aU _) (by omega) _)⟩
     case measure=>simp[intOf];omega
    ·obtain rfl:m=ys.length:=by omega
     (have ij:k+ys.length<(p.take k++(acc (iq x ys p k) ys.length).1++p.drop (k+ys.length)).length:=by rw[dM,dM,lA,dN,mR];omega);have hcell:=CN.cell (k+ys.length) ij;have hfz:=CN.frozen (k+ys.length);rw[bT] at hcell;have cO:=CN.set (k+ys.length) ij (acc (iq x ys p k) ys.length).2;rw[YK _ _ p k ys.length _ lA dN (by omega),bT] at cO;change bt _ _ _ (yI x ys p k) at cO
     have kS:=aB cO;(have NY:((k:Int)+(ys.length:Int)).toNat=k+ys.length:=by omega);generalize (p.take k++(acc (iq x ys p k) ys.length).1++p.drop (k+ys.length))[k+ys.length]?.getD 0=old at *;generalize (acc (iq x ys p k) ys.length).2=c at *;obtain⟨s1,s2,s3,s4⟩:=Vc.o
     have Bz:Hid (nw (yI x ys p k)=nw (xs.take (k+1))*nw ys):=by
      show _=_;rw[s3,Hm.o,HX.o,fW,il]
     have j5:=aB s1;have iR:=aB s2;have HS4:=aB s4;generalize yI x ys p k=p2 at *;clear cO ij CN Vc s1 s2 s3 s4 HX hfr cZ;go_wp2;go_roundw
     case rel=>exact⟨k+1,p2,by omega,by go_num,by rw[j5.o,hpl],iR.o,Bz,fun j hj=>HS4.o j (by omega),kS.o,Od.trans (cF.setCell (aU _) (by omega) _)⟩
     case measure=>simp[intOf];omega
  ·obtain rfl:k=xs.length:=by omega
   obtain⟨cur,hc4,hcs,_⟩:=ig.inside _ bc.o;have p9:=JQ (base:=w.heap.size) (cap:=xs.length+ys.length) cur hc4 (by rw[hcs];simp) (ar _) (by unfold maxLen;omega) (by omega) cZ;have dY:Below w.heap.size w wo:=cF.aa hB2 ig (ar _) hB2.size;have mC:=aB hpl;rw[hpl] at p9;clear hpl hc4 hcs cZ ig;go_wp2;go_ret;exact⟨_,p,rfl,by rw[Has,mC.o];exact p9,df,mC.o,by have:=Hm.o;rwa [fJ] at this,dY⟩
theorem Lu (a b:ByteArray) (w:World) (ha:a.size<=1099511627776) (hb:b.size<=1099511627776):
  Calls Tryz.prog 142 #[.string a,.string b] w fun e w'=>e=.returned (.string (B (N a*N b)))/\Below w.heap.size w w':=by
 have lF:=yw a 274877906944 (by omega);have lD:=yw b 274877906944 (by omega);go_enter Tryz.func142,Tryz.ntmps142;go_wp2_with fail
 refine(yA a _ (by omega)).ae ?_;rintro e w1 ⟨g1,c1,rfl,h1,hb1⟩;go_wp2_with fail
 refine(yA b _ (by omega)).ae ?_;rintro e w2 ⟨g2,c2,rfl,h2,hb2⟩;have hl1:=xg h1 hb2;have hl2:=xg h2 (au _ _);have hB2:Below w.heap.size w w2:=hb1.trans (hb2.ae hb1.size);go_wp2_with fail
 refine(aeg g1 c1 g2 c2 _ _ _ (mX _) (mX _) (by omega) (by omega) hl1 hl2).ae ?_;rintro e w3 ⟨v,l,rfl,h3,hs3,yS,hv3,hb3⟩;have bU:Below w.heap.size w w3:=hB2.trans (hb3.ae hB2.size);have HV:=aB hv3;have HN:=aB yS;clear hv3 yS;go_wp2_with fail
 refine(O0 _ _ _ _ hs3 (by rw[HN.o];omega) h3).ae ?_;rintro e w4 ⟨rfl,hb4⟩;go_wp2;go_ret;exact⟨by rw[HV.o,kF,kF];rfl,bU.trans (hb4.ae bU.size)⟩
theorem adb (n:Int) (w:World) (h0: -9223372036854775808<=n) (h1:n<=9223372036854775807):
  Calls Tryz.prog 110 #[.int .i64 n] w fun e w'=>e=.returned (.string (B n.toNat))/\Below w.heap.size w w':=by
 have hO:=fun V=>Z3 n.toNat V (by omega);by_cases hn:0<=n
 ·obtain⟨m,rfl⟩:=Int.eq_ofNat_of_zero_le hn;rw[pT] at hO⊢;have HO:=aB hO;have hmx:max (m:Int) 0=(m:Int):=by omega
  clear hO;go_enter Tryz.func110,Tryz.ntmps110;go_wp2_with fail
  refine(HO.o _).ae ?_;rintro e w1 ⟨rfl,hb⟩;go_wp2;go_ret;exact⟨rfl,hb⟩
 ·have e0:n.toNat=0:=by omega
  rw[e0] at hO⊢;have HO:=aB hO;have hmx:max n 0=0:=by omega
  clear hO e0;go_enter Tryz.func110,Tryz.ntmps110;go_wp2_with fail
  refine(HO.o _).ae ?_;rintro e w1 ⟨rfl,hb⟩;go_wp2;go_ret;exact⟨rfl,hb⟩
theorem akg (a b:Nat) (w:World) (ha:a<18446744073709551616) (hb:b<18446744073709551616):
  Calls Tryz.prog 214 #[.int .u64 (a:Nat),.int .u64 (b:Nat)] w fun e w'=>e=.returned (.int .u64 (Nat.gcd a b:Nat))/\Below w.heap.size w w':=by
 go_enter Tryz.func214,Tryz.ntmps214;go_wp2;go_loopw [0,1] (fun x y wr=>∃m n:Nat,x=.int .u64 m/\y=.int .u64 n/\m<18446744073709551616/\n<18446744073709551616/\Hid (Nat.gcd m n=Nat.gcd a b)/\Below w.heap.size w wr) (fun _ y _=>(intOf y).toNat)
 case atStart=>exact⟨a,b,rfl,rfl,ha,hb,rfl,au _ _⟩
 case round=>
  obtain⟨m,n,rfl,rfl,hm,hn,hg,hbr⟩:=hrel;by_cases h0:n=0
  ·subst h0;go_wp2;go_ret;exact⟨Ao (by rw[<- hg.o,Nat.gcd_zero_right]),hbr⟩
  ·have jA:((n:Int) !=0)=true:=by rw[bne_iff_ne];omega
   (have hne:((n:Int)==0)=false:=by rw[zQ];omega);(have iy:¬(n:Int)=0:=by omega);(have kJ:0<n:=by omega);have hr:m % n<n:=jL _ kJ;(have HG:Hid (Nat.gcd n (m % n)=Nat.gcd a b):=by show _=_;rw[<- hg.o, <- Jb (m % n) n, <- Nat.gcd_rec,Jb]);go_wp2_with fail
   go_region
   all_goals go_wp2
   rw[show ((m:Int) % (n:Int))=((m % n:Nat):Int) from (Af m n).symm];go_roundw
   case rel=>exact⟨n,m % n,rfl,rfl,hn,by omega,HG,hbr.drew⟩
   case measure=>simp[intOf];omega
theorem ahk (a b:Nat) (ha:a<4294967296) (hb:b<4294967296):bits .or .u64 (a:Int) ((b:Int)*4294967296)=((a+b*4294967296:Nat):Int):=by
 have e1:(b:Int)*4294967296=((b*4294967296:Nat):Int):=by omega
 rw[e1,u64_or_nat _ _ (by omega) (by omega)];congr 1
 have:=nat_join 32 (b*4294967296) a (by omega) (by omega);have e2:a |||b*4294967296=b*4294967296 |||a:=Nat.or_comm _ _;omega
theorem or_zero (a:Nat) (ha:a<4294967296):bits .or .u64 0 (a:Int)=(a:Int):=by
 have:=u64_or_nat 0 a (by omega) (by omega);rw[show ((0:Nat):Int)=0 from rfl] at this;rw[this,Nat.zero_or]
theorem Xw (g cap:Nat) (l:List Nat) (w:World) (hs:Small l) (hlen:l.length<=2) (hl:bt w g 0 l):
  Calls Tryz.prog 215 #[.slice (some ⟨g,0,none⟩) l.length cap] w fun e w'=>e=.returned (.int .u64 (nw l:Nat))/\w'=w:=by
 match l,hlen with
 |[],_=>
  go_enter Tryz.func215,Tryz.ntmps215;go_wp2;refine I1 1 ?_;rw[qD];go_wp2;go_ret;exact⟨rfl,rfl⟩
 |[a],_=>
  have h0:=hl.cell 0 (by simp);have ha:a<4294967296:=hs a (by simp);have ho:=or_zero a ha;simp only[bT,List.getElem?_cons_zero,zV] at h0;go_enter Tryz.func215,Tryz.ntmps215;go_wp2;refine I1 2 ?_;rw[qD];go_wp2;rw[qD];go_wp2;go_ret;exact⟨Ao (by simp[kH,nh]),rfl⟩
 |[a,b],_=>
  have h0:=hl.cell 0 (by simp);have h1:=hl.cell 1 (by simp);have ha:a<4294967296:=hs a (by simp);have hb:b<4294967296:=hs b (by simp);have ho:=or_zero a ha;have ho2:=ahk a b ha hb;simp only[bT,List.getElem?_cons_zero,List.getElem?_cons_succ,zV] at h0 h1;go_enter Tryz.func215,Tryz.ntmps215;go_wp2;refine I1 3 ?_;rw[qD];go_wp2;rw[qD];go_wp2;rw[qD];go_wp2;go_ret;exact⟨Ao (by simp only[kH,nh,gW];omega),rfl⟩
def jh (xs:List Nat) (s j:Nat):Nat:=2^s*xs[j]?.getD 0
theorem afg (xs:List Nat) (s:Nat):jl (jh xs s) xs.length=2^s*nw xs:=by
 rw[show jh xs s=fun j=>2^s*(fun j=>xs[j]?.getD 0) j from rfl,Z5,Z6 xs _ (ar _)]
theorem YC (xs:List Nat) (hx:Small xs) (s k:Nat):(acc (jh xs s) k).2<2^s:=by
 have hp:0<2^s:=tB (by decide)
 have h:=Vv (jh xs s) (2^s - 1) k fun j _=>by
  have h1:=getD_lt hx j;have h2:2^s*(xs[j]?.getD 0+1)<=2^s*W:=kZ _ h1;rw[mO] at h2;unfold jh;rw[QE hp];omega
 omega
theorem Nu {s:Nat} (hs:s<32):2^s<=2147483648:=by
 have:2^s<=2^31:=lW (by decide) (by omega);simpa using this
theorem afb (c x s:Nat) (hs:s<32) (hc:c<2^s) (hx:x<4294967296):bits .or .u64 (c:Int) (IntKind.u64.wrap ((x:Int)*2^s))=((c+2^s*x:Nat):Int):=by
 have hp:=Nu hs;have hm:x*2^s<=4294967295*2147483648:=iW (by omega) hp
 have e1:IntKind.u64.wrap ((x:Int)*2^s)=((x*2^s:Nat):Int):=by
  rw[MV,show ((x:Int)*2^s)=((x*2^s:Nat):Int) by simp];omega
 rw[e1,u64_or_nat _ _ (by omega) (by omega),Nat.or_comm,nat_join s _ _ (Nat.mul_mod_left _ _) hc];congr 1
 rw[abr];omega
theorem YA (gx kO:Nat) (xs:List Nat) (s:Nat) (w:World) (ix:Small xs) (hs:s<32) (hlx:xs.length<=8796093022208) (hx:bt w gx 0 xs):
  Calls Tryz.prog 241 #[.slice (some ⟨gx,0,none⟩) xs.length kO,.int .i64 (s:Nat)] w fun e w'=>∃v l,e=.returned v/\Has w' w.heap.size v l/\Small l/\l.length=xs.length+1/\nw l=2^s*nw xs/\Below w.heap.size w w':=by
 obtain⟨i0,hi,hz0,hz1,hz2⟩:=eT Tryz.infoU32;have hgx:=hx.lt;go_enter Tryz.func241,Tryz.ntmps241
 go_wp2_with (first
  |(at_make;refine mL _ rfl _ _ 198 rfl w.heap.size 114 i0 (.int .u32 0) 1 Tryz.underlying198 hi hz0 hz1 .i64 .i64 _ _ (xs.length+1) rfl rfl (by omega) (by omega) (by rw[hz2];omega) (by unfold maxLen;omega) (ar _) ?_;intro w2 hown2 hgrow2;have hb2:=pC hown2;rw[JY] at hb2;have bc:=aB hb2;have hB2:Below w.heap.size w w2:=(au _ w).grown hgrow2 (ar _) (fun k e=>by cases e);have hx2:=hx.aa hB2 hgx;clear hown2 hgrow2 hb2))
 have hl2:=N6 bc.o
 go_loopw [6,15] (fun c i wr=>∃k:Nat,k<=xs.length/\i=.int .i64 k/\c=.int .u64 ((acc (jh xs s) k).2:Nat)/\bt wr w.heap.size 0 ((acc (jh xs s) k).1++(List.replicate (xs.length+1) 0).drop k)/\cF w.heap.size 0 (xs.length+1) w2 wr)
  (fun _ i _=>xs.length - (intOf i).toNat)
 case atStart=>exact⟨0,aU _,rfl,rfl,by simpa [acc] using hl2,cF.refl _ _ _ _⟩
 case round=>
  obtain⟨k,hk,rfl,rfl,cZ,ig⟩:=hrel;have dN:=Ln (jh xs s) k;by_cases hlt:k<xs.length
  ·have sA:=(hx2.apart ig (by omega)).cell k hlt;rw[bT] at sA;(have ij:k<((acc (jh xs s) k).1++(List.replicate (xs.length+1) 0).drop k).length:=by rw[dM,dN,mR,Gs];omega);have hcell:=cZ.cell k ij;have hfz:=cZ.frozen k;have cO:=fun y=>cZ.set k ij y;rw[bT] at hcell;simp only[Pe _ (List.replicate (xs.length+1) 0) k _ dN (by simp;omega),bT] at cO;have hxb:=getD_lt ix k;have hcs:=YC xs ix s k;have HG:Hid (acc (jh xs s) (k+1)=((acc (jh xs s) k).1++[((acc (jh xs s) k).2+jh xs s k) % W],((acc (jh xs s) k).2+jh xs s k)/W)):=rfl;have HF:Hid (jh xs s k=2^s*xs[k]?.getD 0):=rfl;rw[gW] at hxb;have yP:=afb (acc (jh xs s) k).2 (xs[k]?.getD 0) s hs hcs hxb;have hm:2^s*xs[k]?.getD 0<=2147483648*4294967295:=iW (Nu hs) (by omega);have hp:=Nu hs;rw[<- HF.o] at yP hm;generalize jh xs s k=f at *;generalize (acc (jh xs s) k).2=c at *;generalize (acc (jh xs s) k).1=q at *;generalize xs[k]?.getD 0=x at *;generalize (q++(List.replicate (xs.length+1) 0).drop k)[k]?.getD 0=old at *;obtain⟨t,ht⟩:∃t,t=c+f:=⟨_,rfl⟩;rw[<- ht] at yP;(have CB:t<18446744073709551615:=by omega);have HT:=aB ht;have kS:=aB cO;(have abw:c<4294967296:=by omega);clear cO ij cZ ht hm hp hcs HF;go_wp2;have hv:Value.int .u32 ((t:Int) % 4294967296)=.int .u32 (((c+f) % W:Nat):Int):=int_eq (by rw[gW, <- HT.o];omega);have hv2:Value.int .u64 ((t:Int)/4294967296)=.int .u64 (((c+f)/W:Nat):Int):=int_eq (by rw[gW, <- HT.o];omega);rw[hv,hv2];have hq:=kS.o ((c+f) % W);go_roundw
   case rel=>exact⟨k+1,by omega,by go_num,by rw[HG.o],by rw[HG.o];exact hq,ig.trans (cF.setCell (aU _) (by omega) _)⟩
   case measure=>simp[intOf];omega
  ·obtain rfl:k=xs.length:=by omega
   (have ij:xs.length<((acc (jh xs s) xs.length).1++(List.replicate (xs.length+1) 0).drop xs.length).length:=by rw[dM,dN,mR,Gs];omega);have hcell:=cZ.cell xs.length ij;have hfz:=cZ.frozen xs.length;have cO:=cZ.set xs.length ij (acc (jh xs s) xs.length).2;rw[Pe _ (List.replicate (xs.length+1) 0) xs.length _ dN (by simp),Gv (by simp),Eg,bT] at cO;rw[bT] at hcell;have hcs:=YC xs ix s xs.length;have hp:=Nu hs;have HE:=aB (Vu (jh xs s) xs.length);have o9:=Vt (jh xs s) xs.length;have HF:=aB (afg xs s);obtain⟨cur,hc4,KC,_⟩:=ig.inside _ bc.o;generalize ((acc (jh xs s) xs.length).1++(List.replicate (xs.length+1) 0).drop xs.length)[xs.length]?.getD 0=old at *;generalize (acc (jh xs s) xs.length).2=c at *;generalize (acc (jh xs s) xs.length).1=q at *;(have abw:c<4294967296:=by omega);have Ta:cF w.heap.size 0 (xs.length+1) w2 (wr.setCell ⟨w.heap.size,xs.length,none⟩ (.int .u32 (c:Nat))):=ig.trans (cF.setCell (aU _) (by omega) _);obtain⟨aly,hc5,abv,_⟩:=Ta.inside _ bc.o;(have aa4:(q++[c]).length=xs.length+1:=by rw[dM,dN];rfl);have p9:=JQ (base:=w.heap.size) (cap:=xs.length+1) aly hc5 (by rw[abv];simp) (ar _) (by unfold maxLen;omega) (by omega) cO;have dY:=cF.aa hB2 Ta (ar _) hB2.size;have HO:=aB p9;have V8:=aB aa4;have IA:=aB dN;clear cO ij cZ hc4 KC hc5 abv p9 Ta aa4 dN hp hcs;go_wp2;go_ret;refine⟨_,q++[c],rfl,?_,?_,V8.o,?_,dY⟩
   ·rw[Has,V8.o];have:=HO.o;rwa [V8.o] at this
   ·exact yB o9 (fun z hz=>by simp at hz;subst hz;exact abw)
   ·rw[Cv,IA.o,HE.o,HF.o]
def ou (s:Nat):List Nat ->List Nat
 |[]=>[]
 |x::r=>(x+W*r[0]?.getD 0)/2^s % W::ou s r
theorem aff (s:Nat) (l:List Nat):(ou s l).length=l.length:=by
 induction l with
 |nil=>rfl
 |cons x r ih=>rw[ou,eU,ih,eU]
theorem YB (s:Nat) (l:List Nat):Small (ou s l):=by
 induction l with
 |nil=>intro x hx;simp[ou] at hx
 |cons x r ih=>
  intro y hy;rw[ou] at hy;rcases dK.1 hy with rfl |hy
  ·exact jL _ lM
  ·exact ih y hy
theorem ahA (l:List Nat) (h:Small l):nw l % W=l[0]?.getD 0:=by
 cases l with
 |nil=>rfl
 |cons x r=>rw[kH,Xd];exact jM (h x dJ)
theorem am0 {s:Nat} (hs:s<=32):W=2^s*2^(32 - s):=by rw[<- Cb,show s+(32 - s)=32 by omega];rfl
theorem afe (s:Nat) (hs:s<=32) (l:List Nat) (hl:Small l):nw (ou s l)=nw l/2^s:=by
 induction l with
 |nil=>simp[ou,nh]
 |cons x r ih=>
  have hr:Small r:=fun y hy=>hl y (eE _ hy);have hx:=hl x dJ;have hp:0<2^s:=tB (by decide);rw[ou,kH,kH,ih hr, <- ahA r hr];generalize nw r=n;have e1:=Nat.div_add_mod n (2^s);have hb:=jL n hp;generalize hq:n/2^s=a at *;generalize gI:n % 2^s=b at *
  have ajJ:(x+W*b)/2^s<W:=by
   refine Gn ?_;have:W*(b+1)<=W*2^s:=kZ _ hb;rw[mO,abr W (2^s)] at this;omega
  have e2:(x+W*n)/2^s=(x+W*b)/2^s+W*a:=by
   rw[<- e1,mO, <- yo,Nat.add_right_comm,show W*(2^s*a)=2^s*(W*a) by rw[zW],Nat.add_mul_div_left _ _ hp]
  have e3:(x+W*(n % W))/2^s % W=(x+W*b)/2^s:=by
   have hW:=am0 hs;(have hmm:n % W % 2^s=b:=by rw[<- gI,hW,Nat.mod_mul_right_mod]);have e4:=Nat.div_add_mod (n % W) (2^s);rw[hmm] at e4;generalize n % W/2^s=c at *;rw[<- e4,mO, <- yo,Nat.add_right_comm,show W*(2^s*c)=2^s*(W*c) by rw[zW],Nat.add_mul_div_left _ _ hp,Xd];exact jM ajJ
  rw[e2,e3]
theorem afc (a x:Nat) (hx:x<4294967296):bits .or .u64 (IntKind.u64.wrap ((a:Int)*4294967296)) (x:Int)=((a % 4294967296*4294967296+x:Nat):Int):=by
 have e:IntKind.u64.wrap ((a:Int)*4294967296)=((a % 4294967296:Nat):Int)*4294967296:=by rw[MV];omega
 rw[e];exact ZV (a % 4294967296) x (by omega) hx
theorem afd (g cap:Nat) (l:List Nat) (s:Nat) (w:World) (bJ:Small l) (hs:s<32) (hlen:l.length<=35184372088832) (hl:bt w g 0 l):
  Calls Tryz.prog 243 #[.slice (some ⟨g,0,none⟩) l.length cap,.int .i64 (s:Nat)] w fun e w'=>e=.returned (.tuple #[])/\bt w' g 0 (ou s l)/\cF g 0 l.length w w':=by
 go_enter Tryz.func243,Tryz.ntmps243;go_wp2
 go_loopw [4,9] (fun a i wr=>∃k ab:Nat,k<=l.length/\i=.int .i64 k/\a=.int .u64 (ab:Nat)/\ab<18446744073709551616/\Hid (ab % 4294967296=(l.drop (l.length - k))[0]?.getD 0)/\bt wr g 0 (l.take (l.length - k)++ou s (l.drop (l.length - k)))/\cF g 0 l.length w wr)
  (fun _ i _=>l.length - (intOf i).toNat)
 case atStart=>exact⟨0,0,aU _,rfl,rfl,by omega,by show _=_;simp,by simpa [ou] using hl,cF.refl _ _ _ _⟩
 case round=>
  obtain⟨k,ab,hk,rfl,rfl,hab,TY,cZ,ig⟩:=hrel;by_cases hlt:k<l.length
  ·obtain⟨m,hm⟩:∃m,m+1=l.length - k:=⟨l.length - k - 1,by omega⟩;(have hml:m<l.length:=by omega);(have e1:l.length - (k+1)=m:=by omega);have hd:l.drop m=l[m]::l.drop (m+1):=mS hml;have hx:=bJ _ (bH hml);rw[<- hm] at cZ TY;(have ij:m<(l.take (m+1)++ou s (l.drop (m+1))).length:=by simp;omega);have hcell:=cZ.cell m ij;have hfz:=cZ.frozen (0+m);have cO:=fun y=>cZ.set m ij y;simp only[aen l _ m _ hml] at cO
   have sk:(l.take (m+1)++ou s (l.drop (m+1)))[m]?.getD 0=l[m]:=by
    rw[List.getElem?_append_left (by simp;omega),rV,aaf (by omega),af hml];rfl
   rw[sk] at hcell;rw[bT] at hcell hfz;(have HG:Hid (ou s (l.drop m)=(l[m]+W*(l.drop (m+1))[0]?.getD 0)/2^s % W::ou s (l.drop (m+1))):=by show _=_;rw[hd];rfl);(have HH:Hid ((l.drop m)[0]?.getD 0=l[m]):=by show _=_;rw[hd];rfl);rw[gW] at hx;rw[<- TY.o] at HG;generalize ou s (l.drop (m+1))=q at *;generalize l[m]=x at *;obtain⟨t,ht⟩:∃t,t=ab % 4294967296*4294967296+x:=⟨_,rfl⟩;(have yP:bits .or .u64 (IntKind.u64.wrap ((ab:Int)*4294967296)) (x:Int)=(t:Int):=by rw[ht];exact afc ab x hx);(have CB:t<18446744073709551616:=by omega);(have Hi:t % 4294967296=x:=by omega);have BM:=aB Hi;have HT:=aB ht;(have hmk:(l.length:Int) - 1 - (k:Int)=(m:Int):=by omega);have kS:=aB cO;clear ht sk cO hd ij cZ TY Hi;go_wp2
   have hv:Value.int .u32 ((t:Int)/2^s % 4294967296)=.int .u32 (((x+W*(ab % 4294967296))/2^s % W:Nat):Int):=int_eq (by
    (have e:x+W*(ab % 4294967296)=t:=by rw[HT.o,gW,abr];omega);rw[e,gW,Af,tC,Int.natCast_pow];rfl)
   rw[hv];have hq:=kS.o ((x+W*(ab % 4294967296))/2^s % W);rw[bT] at hq;go_roundw
   case rel=>exact⟨k+1,t,by omega,by go_num,rfl,CB,by show _=_;rw[e1,HH.o];exact BM.o,by rw[e1,HG.o];exact hq,ig.trans (cF.setCell (aU _) (by omega) _)⟩
   case measure=>simp[intOf];omega
  ·obtain rfl:k=l.length:=by omega
   go_wp2;go_end0
   refine⟨rfl,?_,ig⟩;simpa using cZ
theorem aj7 (xs ys:List Nat) (hl:xs.length=ys.length+1) (hx:Small xs) (kJ:0<ys.length) (tT:ys[ys.length - 1]?.getD 0≠0) (hlt:nw xs<W*nw ys):
  nw xs/nw ys<=min ((xs[ys.length]?.getD 0*W+xs[ys.length - 1]?.getD 0)/ys[ys.length - 1]?.getD 0) (W - 1):=by
 obtain⟨d,hd⟩:∃d,ys.length=d+1:=⟨ys.length - 1,by omega⟩;rw[hd,ML] at tT⊢
 have hny:0<nw ys:=by
  have:=r6 ys d (by omega)
  have h2:ys.drop d=[ys[d]?.getD 0]:=by
   rw[mS (by omega),Gv (by omega),af (by omega)];rfl
  rw[h2,kH,nh,kY,fH] at this;have:0<W^d*ys[d]?.getD 0:=Nat.mul_pos (tB lM) (lX tT);omega
 have hq:nw xs/nw ys<W:=Gn (by rw[abr];exact hlt);have hle:=Nat.div_mul_le_self (nw xs) (nw ys);generalize nw xs/nw ys=q at *;refine Nat.le_min.2 ⟨?_,by omega⟩;rw[Nat.le_div_iff_mul_le (lX tT)];have ey:=r6 ys d (by omega)
 have hy2:ys.drop d=[ys[d]?.getD 0]:=by
  rw[mS (by omega),Gv (by omega),af (by omega)];rfl
 rw[hy2,kH,nh,kY,fH] at ey;have ex:=r6 xs d (by omega)
 have hx2:xs.drop d=[xs[d]?.getD 0,xs[d+1]?.getD 0]:=by
  rw[mS (by omega),mS (by omega),Gv (by omega),af (by omega),af (by omega)];rfl
 have ai6:=uQ (xs.take d) (GR hx d);rw[eZ,uG (by omega)] at ai6;rw[hx2,kH,kH,nh,kY,fH] at ex;generalize ys[d]?.getD 0=y at *;generalize xs[d]?.getD 0=x0 at *;generalize xs[d+1]?.getD 0=x1 at *;have h1:q*(W^d*y)<=q*nw ys:=kZ _ (by omega)
 have h2:W^d*(q*y)<W^d*(x1*W+x0+1):=by
  rw[zW] at h1;rw[mO,mN,Cf (x1*W) x0,abr x1 W];omega
 have:=Nat.lt_of_mul_lt_mul_left h2;omega
theorem aep (g off cap b ja:Nat) (xs ys:List Nat) (w:World) (hl:xs.length=ys.length+1) (ix:Small xs) (jm:Small ys) (hlen:xs.length<=35184372088832) (kJ:0<ys.length) (tT:ys[ys.length - 1]?.getD 0≠0) (hlt:nw xs<W*nw ys) (hx:bt w g off xs) (hy:bt w b 0 ys) (hgb:b≠g):
  Calls Tryz.prog 242 #[.slice (some ⟨g,off,none⟩) xs.length cap,.slice (some ⟨b,0,none⟩) ys.length ja] w fun e w'=>∃l',e=.returned (.int .u32 (nw xs/nw ys:Nat))/\l'.length=xs.length/\Small l'/\nw l'=nw xs % nw ys/\bt w' g off l'/\cF g off xs.length w w':=by
 have Ot:=aj7 xs ys hl ix kJ tT hlt;have hc1:=hx.cell ys.length (by omega);have hc2:=hx.cell (ys.length - 1) (by omega);have hc3:=hy.cell (ys.length - 1) (by omega);rw[bT] at hc3;have hb1:=getD_lt ix ys.length;have hb2:=getD_lt ix (ys.length - 1);have hb3:=getD_lt jm (ys.length - 1);have F5:=aB Ot;have HL:=aB hl;have Qc:=aB hlt;rw[gW] at hb1 hb2 hb3;have J7:ys.length<xs.length:=by omega
 have yP:=ZV (xs[ys.length]?.getD 0) (xs[ys.length - 1]?.getD 0) hb1 hb2;rw[gW] at F5;generalize xs[ys.length]?.getD 0=x1 at *;generalize xs[ys.length - 1]?.getD 0=x0 at *;generalize ys[ys.length - 1]?.getD 0=y1 at *;obtain⟨t,ht⟩:∃t,t=x1*4294967296+x0:=⟨_,rfl⟩;rw[<- ht] at yP F5;have CB:t<18446744073709551616:=by omega
 have jQ:(ys.length:Int) - 1<(xs.length:Int):=by omega
 have jP:(ys.length:Int)<(xs.length:Int):=by omega
 have sj:0<=(ys.length:Int) - 1:=by omega
 have Oy:((ys.length:Int) - 1).toNat=ys.length - 1:=by omega
 have Kq:IntKind.i64.wrap ((ys.length:Int) - 1+1)=(ys.length:Int):=by rw[eo];omega
 clear ht hl hlt Ot;go_enter Tryz.func242,Tryz.ntmps242;go_wp2_with fail
 go_quiet (fail)
 go_wp2_with fail
 obtain⟨gs,nE⟩:∃gs,gs=min (t/y1) 4294967295:=⟨_,rfl⟩;have hty:t/y1<=t:=wh _ _
 have yV:min (IntKind.u64.wrap ((t:Int)/(y1:Int))) 4294967295 % 4294967296=(gs:Int):=by
  rw[MV, <- tC,nE];generalize t/y1=z at *;omega
 rw[yV];have abn:gs<4294967296:=by omega
 have HQ:Hid (nw xs/nw ys<=gs):=by show _<=_;rw[nE];exact F5.o
 clear yV nE F5 yP hc1 hc2 hc3;refine(XZ g off cap b 0 ja xs ys gs _ ix jm abn hlen (by omega) (hx.drewN nq) (hy.drewN nq) hgb).ae ?_;rintro e w2 ⟨s,l,rfl,dh,hsm,hn,Km,hu⟩;have Mi:cF g off xs.length w w2:=((cF.refl g off xs.length w).drewN nq).trans hu;have abf:=uQ l hsm;rw[dh] at abf
 have ajH:gs*nw ys<W^xs.length:=by
  have h1:=uQ ys jm;have h2:gs*nw ys<=(W - 1)*nw ys:=jK _ (by rw[gW];omega);have h3:W*nw ys<=W*W^ys.length:=kZ _ (uH h1);have h4:(W - 1)*nw ys<=W*nw ys:=jK _ (by omega);have h5:W^xs.length=W*W^ys.length:=by rw[HL.o,jc,abr]
  have h6:0<W^ys.length:=tB lM;have h7:(W - 1)*nw ys<=(W - 1)*W^ys.length:=kZ _ (uH h1)
  have h8:(W - 1)*W^ys.length+W^ys.length=W*W^ys.length:=by
   (have:(W - 1+1)*W^ys.length=W*W^ys.length:=by rw[QE lM]);rwa [fW,kB] at this
  omega
 have hs1:s=0∨s=1:=by
  rcases cD s 2 with h |h
  ·omega
  ·have:W^xs.length*2<=W^xs.length*s:=kZ _ h;omega
 have aaV:Hid ((decide (s≠0)=false/\nw l+gs*nw ys=nw xs)∨(decide (s≠0)=true/\nw l+gs*nw ys=nw xs+W^xs.length/\nw xs<gs*nw ys)):=by
  rcases hs1 with rfl |rfl
  ·exact .inl ⟨rfl,by rw[hn];omega⟩
  ·refine .inr ⟨rfl,by rw[hn];omega,?_⟩;omega
 generalize decide (s≠0)=be at *;clear hn abf ajH hs1 hu;go_wp2;go_loopg [7,8] gs (fun r gu be wr=>∃(l:List Nat) (bb:Bool),gu=.int .u32 (r:Nat)/\be=.bool bb/\l.length=xs.length/\Small l/\bt wr g off l/\cF g off xs.length w wr/\Hid (nw xs/nw ys<=r)/\r<4294967296/\Hid ((bb=false/\nw l+r*nw ys=nw xs)∨(bb=true/\nw l+r*nw ys=nw xs+W^xs.length/\nw xs<r*nw ys)))
 case atStart=>exact⟨l,be,rfl,rfl,dh,hsm,Km,Mi,HQ,abn,aaV⟩
 case round=>
  obtain⟨l2,bb,rfl,rfl,abi,Oi,cZ,ig,lB,an4,CS⟩:=hrel;clear aaV Km Mi HQ;have pJ:=aB abi;clear abi;cases bb with
  |false=>
   have hc:nw l2+gk*nw ys=nw xs:=by
    rcases CS.o with ⟨_,h⟩ |⟨h,_⟩
    ·exact h
    ·cases h
   have hyp:0<nw ys:=by
    rcases zY (nw ys) with e |e
    ·have:=Qc.o;rw[e,kY] at this;omega
    ·exact e
   have TE:gk=nw xs/nw ys:=by
    have h1:gk<=nw xs/nw ys:=(Nat.le_div_iff_mul_le hyp).2 (by omega);have:=lB.o;omega
   have HR:Hid (nw l2=nw xs % nw ys):=by
    show _=_;have h1:=Nat.div_add_mod' (nw xs) (nw ys);rw[<- TE] at h1;omega
   have HG:=aB TE;clear hc TE CS;go_wp2;go_ret;exact⟨l2,by rw[<- HG.o];rfl,pJ.o,Oi,HR.o,cZ,ig⟩
  |true=>
   obtain⟨hc1,hc2⟩:nw l2+gk*nw ys=nw xs+W^xs.length/\nw xs<gk*nw ys:=by
    rcases CS.o with ⟨h,_⟩ |⟨_,h⟩
    ·cases h
    ·exact h
   have hr1:1<=gk:=by
    rcases zY gk with e |e
    ·rw[e,jw] at hc2;omega
    ·exact e
   have Mz:=aB hc1;have My:=aB hc2;have LW:=(hy.apart ig hgb);clear hc1 hc2 CS;go_wp2_with fail
   have wP:=RV g off cap b 0 ja l2 ys wr Oi jm (by rw[pJ.o];exact hlen) (by rw[pJ.o];omega) cZ LW hgb;rw[pJ.o] at wP;refine wP.ae ?_;rintro e w3 ⟨c,l3,rfl,Tw,aaZ,yS,ajt,eG⟩;have abe:=uQ l3 aaZ;rw[Tw] at abe
   have hmul:gk*nw ys=(gk - 1)*nw ys+nw ys:=by
    (have:(gk - 1+1)*nw ys=gk*nw ys:=by rw[QE hr1]);rw[<- this,fW,kB]
   have mE:Hid (((!c)=false/\nw l3+(gk - 1)*nw ys=nw xs)∨((!c)=true/\nw l3+(gk - 1)*nw ys=nw xs+W^xs.length/\nw xs<(gk - 1)*nw ys)):=by
    have h1:=Mz.o;cases c with
    |true=>simp only[if_true] at yS;exact .inl ⟨rfl,by omega⟩
    |false=>simp only[Bool.false_eq_true,if_false,fH] at yS;exact .inr ⟨rfl,by omega,by omega⟩
   have uu:Hid (nw xs/nw ys<=gk - 1):=by
    show _<=_
    have hyp:0<nw ys:=by
     rcases zY (nw ys) with e |e
     ·have:=Qc.o;rw[e,kY] at this;omega
     ·exact e
    have:=(Nat.div_lt_iff_lt_mul hyp).2 My.o;omega
   have Me:=aB Tw;clear yS abe hmul wP Tw cZ LW Mz My;go_wp2;go_roundg (gk - 1)
   case measure=>omega
   case rel=>exact⟨l3,!c,int_eq (by omega),rfl,Me.o,aaZ,ajt,ig.trans eG,uu,by omega,mE⟩
variable {lf ql:List Nat}
theorem ahz (l:List Nat) (i y:Nat) (hi:i<l.length):nw (l.set i y)+W^i*l[i]?.getD 0=nw l+W^i*y:=by
 have e1:=r6 l i (by omega);have e2:=r6 (l.set i y) i (by rw[rU];omega);have e3:(l.set i y).take i=l.take i:=List.take_set_of_le (ar _)
 have e4:(l.set i y).drop i=y::l.drop (i+1):=by
  rw[List.drop_set,aaO (by omega),qE,mS hi,Ec]
 have e5:l.drop i=l[i]?.getD 0::l.drop (i+1):=by rw[mS hi,af hi];rfl
 rw[e3,e4,kH,mO] at e2;rw[e5,kH,mO] at e1;omega
structure acO (X Y L:Nat) (lf ql:List Nat) (j:Nat):Prop where
 qlen:ql.length=L
 qs:Small ql
 ls:Small lf
 zero:∀t,t< j ->ql[t]?.getD 0=0
 eq:nw ql*Y+nw lf=X
 lt:nw (lf.drop j)<Y
theorem acO.seg {X Y L:Nat} (h:acO X Y L lf ql (i+1)) (hY:Y<=W^m) (hl:i+m+1<=lf.length):
  nw ((lf.drop i).take (m+1))<W*Y/\nw (lf.drop i)=nw ((lf.drop i).take (m+1))/\nw (lf.drop (i+(m+1)))=0:=by
 have e5:lf.drop i=lf[i]?.getD 0::lf.drop (i+1):=by rw[mS (by omega),af (by omega)];rfl
 have hd:nw (lf.drop i)<W*Y:=by
  have h1:=h.lt;have h2:=getD_lt h.ls i;have h3:W*(nw (lf.drop (i+1))+1)<=W*Y:=kZ _ h1;rw[mO] at h3;rw[e5,kH];omega
 have hc:=r6 (lf.drop i) (m+1) (by rw[mR];omega);rw[List.drop_drop] at hc
 have hz:nw (lf.drop (i+(m+1)))=0:=by
  rcases zY (nw (lf.drop (i+(m+1)))) with e |e
  ·exact e
  ·have h4:W^(m+1)*1<=W^(m+1)*nw (lf.drop (i+(m+1))):=kZ _ e;(have h5:W*Y<=W^(m+1):=by rw[jc,abr];exact jK _ hY);omega
 rw[hz,kY,fH] at hc;exact⟨by omega,hc,hz⟩
theorem acO.step {X Y L:Nat} {seg:List Nat} (h:acO X Y L lf ql (i+1)) (hY:Y<=W^m) (hl:i+m+1<=lf.length) (hi:i<L) (cj:0<Y)
  (bJ:seg.length=m+1) (Mu:Small seg) (MD:nw seg=nw ((lf.drop i).take (m+1)) % Y):
  acO X Y L (lf.take i++seg++lf.drop (i+(m+1))) (ql.set i (nw ((lf.drop i).take (m+1))/Y)) i:=by
 obtain⟨s1,s2,s3⟩:=h.seg hY hl;have AR:(lf.take i).length=i:=by rw[eZ];omega
 generalize hS:nw ((lf.drop i).take (m+1))=S at *;have hq:S/Y<W:=Gn (by rw[abr];exact s1);have cO:=ahz ql i (S/Y) (by rw[h.qlen];exact hi);rw[h.zero i (by omega),kY,fH] at cO;have hdm:=Nat.div_add_mod' S Y;have hcut:=r6 lf i (by omega)
 have hnl:nw (lf.take i++seg++lf.drop (i+(m+1)))=nw (lf.take i)+W^i*(S % Y):=by
  rw[Ay,s3,kY,fH,Ay,AR,MD]
 refine⟨by rw[rU];exact h.qlen,?_,?_,?_,?_,?_⟩
 ·intro x hx;rcases Xe hx with hx |rfl
  ·exact h.qs x hx
  ·exact hq
 ·exact yB (yB (GR h.ls i) Mu) (JA h.ls _)
 ·intro t ht;rw[QN (by omega)];exact h.zero t (by omega)
 ·rw[cO,hnl,fW, <- h.eq,hcut,s2];have:W^i*S=W^i*(S/Y)*Y+W^i*(S % Y):=by rw[il, <- mO,hdm]
  omega
 ·rw[rW,List.drop_append,AR,qE,Gv (by omega),iD,yq,Ay,s3,kY,fH,MD];exact jL _ cj
theorem acO.start {X Y s:Nat} {xs:List Nat} (hm:0<m) (hmn:m<=n) (hs:Small lf) (hxn:xs.length=n) (S4:Small xs) (hX:X=2^s*nw xs) (wQ:nw lf=X) (dh:lf.length=n+1) (hY:2^s*W^(m - 1)<=Y):
  acO X Y (n - m+1) lf (List.replicate (n - m+1) 0) (n - m+1):=by
 refine⟨by simp,Yv _,hs,fun t _=>by rw[QO];split<;>rfl,by rw[Sp,jw,bT,wQ],?_⟩;have hc:=r6 lf (n - m+1) (by omega);have hlt:nw xs<W^n:=by rw[<- hxn];exact uQ xs S4
 have hp:0<2^s:=tB (by decide);have h1:2^s*nw xs<2^s*W^n:=Nat.mul_lt_mul_of_pos_left hlt hp;have h2:W^n=W^(n - m+1)*W^(m - 1):=by rw[<- Cb];congr 1;omega
 have h3:W^(n - m+1)*nw (lf.drop (n - m+1))<W^(n - m+1)*(2^s*W^(m - 1)):=by
  rw[zW, <- h2];omega
 exact aR (Nat.lt_of_mul_lt_mul_left h3) hY
theorem acO.stop {X Y L:Nat} (h:acO X Y L lf ql 0):nw ql=X/Y/\nw lf=X % Y:=by
 have h1:=h.lt;rw[yq] at h1;have h2:=h.eq;have hY:0<Y:=by omega
 constructor
 ·rw[<- h2,Cf,QK _ _ hY,ym h1,bT]
 ·rw[<- h2,Cf,QJ,jM h1]
theorem amv (k:Nat):∀x,x<2^k ->k<=32 ->Lib.bitLen x<=k/\x<2^Lib.bitLen x:=by
 induction k with
 |zero=>
  intro x h _;have:x=0:=by simpa using h
  subst this;exact⟨ar _,by decide⟩
 |succ k ih=>
  intro x h hk;by_cases h0:x=0
  ·subst h0;exact⟨aU _,by decide⟩
  ·have S5:x<2^64:=aR h (lW (by decide) (by omega));have e:=Lib.bitLen_half x h0 S5;obtain⟨i1,i2⟩:=ih (x/2) (Gn (by rw[jc] at h;omega)) (by omega);rw[e];refine⟨by omega,?_⟩;rw[Cf,jc];omega
theorem amu (x:Nat) (h0:x≠0) (h:x<4294967296):1<=Lib.bitLen x:=by
 have:=Lib.bitLen_half x h0 (by omega);omega
theorem acM (ys:List Nat) (s:Nat) (hs:Small ys) (kJ:0<ys.length) (tT:ys[ys.length - 1]?.getD 0≠0) (oJ:2^s*(ys[ys.length - 1]?.getD 0+1)<=W):
  (words (2^s*nw ys)).length=ys.length/\2^s*W^(ys.length - 1)<=2^s*nw ys/\2^s*nw ys<=W^ys.length:=by
 obtain⟨d,hd⟩:∃d,ys.length=d+1:=⟨ys.length - 1,by omega⟩;rw[hd,ML] at tT oJ⊢;have ey:=r6 ys d (by omega)
 have hy2:ys.drop d=[ys[d]?.getD 0]:=by
  rw[mS (by omega),Gv (by omega),af (by omega)];rfl
 rw[hy2,kH,nh,kY,fH] at ey;have hlt:=uQ (ys.take d) (GR hs d);rw[eZ,uG (by omega)] at hlt;generalize ys[d]?.getD 0=y at *;have hp:0<2^s:=tB (by decide);have h1:W^d*1<=W^d*y:=kZ _ (lX tT);have Tv:W^d<=nw ys:=by omega
 have ajv:nw ys<W^d*(y+1):=by rw[mO];omega
 have h2:2^s*nw ys<2^s*(W^d*(y+1)):=Nat.mul_lt_mul_of_pos_left ajv hp;have h3:2^s*(W^d*(y+1))<=W^d*W:=by rw[zW];exact kZ _ oJ
 have h4:2^s*nw ys<W^(d+1):=by rw[jc];omega
 have h5:W^d<=2^s*nw ys:=aS Tv (zX _ hp);refine⟨?_,kZ _ Tv,by omega⟩;have hw:=kF (2^s*nw ys);have hsm:=mX (2^s*nw ys);have EG:=uQ _ hsm;rw[hw] at EG
 have lD:(words (2^s*nw ys)).length<=d+1:=by
  obtain⟨k,hk,e⟩:=M4 (words (2^s*nw ys)++List.replicate 0 0) (by simpa using hsm);have hne:words (2^s*nw ys)≠[]:=fun e=>by rw[M5] at e;have:0<W^d:=tB lM;omega
  have hl:=Xt _ hne;rcases cD (d+1) (words (2^s*nw ys)).length with c |c
  ·exfalso
   generalize words (2^s*nw ys)=l at *;obtain⟨z,hz⟩:∃z,l.length=z+1:=⟨l.length - 1,by omega⟩;have ec:=r6 l z (by omega);rw[List.getLast_eq_getElem] at hl;(have hz2:l.drop z=[l[z]'(by omega)]:=by rw[mS (by omega),Gv (by omega)]);simp only[hz,ML] at hl;rw[hz2,kH,nh,kY,fH] at ec;have h6:W^z*1<=W^z*l[z]'(by omega):=kZ _ (lX hl);have h7:W^(d+1)<=W^z:=lW lM (by omega);omega
  ·exact c
 rcases cD (words (2^s*nw ys)).length (d+1) with c |c
 ·have:W^(words (2^s*nw ys)).length<=W^d:=lW lM (by omega);omega
 ·omega
theorem alj (vx:Option Addr) (n kO:Nat) (vy:Option Addr) (m ja:Nat) (w:World) (h:n<m):
  Calls Tryz.prog 213 #[.slice vx n kO,.slice vy m ja] w fun e w'=>e=.returned (.tuple #[.slice none 0 0,.slice vx n kO])/\w'=w:=by
 go_enter Tryz.func213,Tryz.ntmps213;go_wp2;go_ret2;exact⟨rfl,rfl⟩
theorem Has.slice {base:Nat} {v:Value} {l:List Nat} (h:Has w base v l) (hl:0<l.length):∃g cap,v=.slice (some ⟨g,0,none⟩) l.length cap/\l.length<=cap/\base<=g/\bt w g 0 l:=by
 rcases h.cases with ⟨_,rfl⟩ |h
 ·simp at hl
 ·exact h
theorem QZ (n:Nat) (h:0<(words n).length):(words n)[(words n).length - 1]?.getD 0≠0:=by
 have hne:words n≠[]:=apt.1 h;have:=Xt n hne;rw[List.getLast_eq_getElem] at this;rwa [af (by omega)]
def oT (w:World) (base g n cap:Nat) (l:List Nat):Prop:=w.ownsRow base 114 1 (.slice (some ⟨g,0,none⟩) n cap) n (l.map u32)
theorem oT.lies {base:Nat} {l:List Nat} (h:oT w base g n cap l):bt w g 0 l:=(Cs h).2.2.2
theorem oT.len {base:Nat} {l:List Nat} (h:oT w base g n cap l):n=l.length:=(Cs h).1
theorem oT.upd {base off:Nat} {l:List Nat} (h:oT w base g n cap l) (hu:cF g off m w w') (hl:bt w' g 0 l') (hlen:l'.length=n):oT w' base g n cap l':=
 ZE h (hu.ae (off':=0) (n':=off+m) (aU _) (by omega)) hl hlen
theorem oT.apart {base off:Nat} {l:List Nat} (h:oT w base g n cap l) (hu:cF g' off m w w') (hd:g≠g'):oT w' base g n cap l:=by
 refine⟨h.1,?_⟩;rcases h.2 with ⟨h',_⟩ |⟨g1,aos,cur,r1,r2,r3,r4⟩
 ·cases h'
 ·cases r1;exact .inr ⟨g,cap,cur,rfl,r2,(hu.grown.block g (eL.1 r3).1 (by simp[hd])).trans r3,r4⟩
theorem oT.lies_le {base:Nat} {l:List Nat} (h:oT w base g n cap l):l.length<=cap:=(Cs h).2.1
theorem oT.words {base:Nat} {l:List Nat} (h:oT w base g n cap l) (hs:Small l):Has w base (.slice (some ⟨g,0,none⟩) (words (nw l)).length cap) (words (nw l)):=by
 obtain⟨k,hk,hw⟩:=M4 l hs;have dX:(Proofs.YtdnhgjeihdllbaaGreatDoor.words (nw l)).length=k:=by rw[hw];simp;omega
 have:=alx k hk h;rw[<- hw] at this;rw[Has,dX];exact this
theorem bt.patch {at':Nat} {seg:List Nat} (h:bt w g 0 lf) (hu:cF g at' n w w') (hs:bt w' g at' seg) (hn:seg.length=n) (hl:at'+n<=lf.length):bt w' g 0 (lf.take at'++seg++lf.drop (at'+n)):=by
 have h1:bt w g 0 (lf.take at'):=by have:=h.piece 0 at' (by omega);rwa [yq] at this
 have h2:=h.piece (at'+n) (lf.length - (at'+n)) (by omega);rw[jd (by simp)] at h2;have AR:(lf.take at').length=at':=by rw[eZ];omega
 refine((h1.beside hu (by rw[AR];omega)).append (by rw[AR,bT];exact hs)).append ?_;rw[dM,AR,hn];exact h2.beside hu (by omega)
theorem alk (gx kO gy ja:Nat) (xs ys:List Nat) (w:World) (ix:Small xs) (jm:Small ys) (hlx:xs.length<=4398046511104) (kJ:0<ys.length) (tT:ys[ys.length - 1]?.getD 0≠0) (AL:ys.length<=xs.length) (hx:bt w gx 0 xs) (hy:bt w gy 0 ys):
  Calls Tryz.prog 213 #[.slice (some ⟨gx,0,none⟩) xs.length kO,.slice (some ⟨gy,0,none⟩) ys.length ja] w fun e w'=>
   ∃gq cq gr cr,e=.returned (.tuple #[.slice (some ⟨gq,0,none⟩) (words (nw xs/nw ys)).length cq,.slice (some ⟨gr,0,none⟩) (words (nw xs % nw ys)).length cr])/\
    Has w' w.heap.size (.slice (some ⟨gq,0,none⟩) (words (nw xs/nw ys)).length cq) (words (nw xs/nw ys))/\Has w' w.heap.size (.slice (some ⟨gr,0,none⟩) (words (nw xs % nw ys)).length cr) (words (nw xs % nw ys))/\Below w.heap.size w w':=by
 obtain⟨i0,hi,hz0,hz1,hz2⟩:=eT Tryz.infoU32;have hgx:=hx.lt;have EW:=hy.lt;have wX:=hy.cell (ys.length - 1) (by omega);rw[bT] at wX;have hyb:=getD_lt jm (ys.length - 1);rw[gW] at hyb;obtain⟨bl1,RL⟩:=amv 32 (ys[ys.length - 1]?.getD 0) (by simpa using hyb) (by omega);have bl0:=amu _ tT hyb;obtain⟨s,hs⟩:∃s,s=32 - Lib.bitLen (ys[ys.length - 1]?.getD 0):=⟨_,rfl⟩;have Tj:s<32:=by omega
 have oJ:2^s*(ys[ys.length - 1]?.getD 0+1)<=W:=by
  have h1:2^s*(ys[ys.length - 1]?.getD 0+1)<=2^s*2^Lib.bitLen (ys[ys.length - 1]?.getD 0):=kZ _ RL;rw[<- Cb,show s+Lib.bitLen (ys[ys.length - 1]?.getD 0)=32 by omega] at h1;exact h1
 have abx:=acM ys s jm kJ tT oJ;have DN:=aB abx;have Ou:=fun V=>Tryz.bits_LeadingZeros32 ((ys[ys.length - 1]?.getD 0:Nat):Int) V (by omega) (by omega);simp only[pT] at Ou;have r8:(32:Int) - (Lib.bitLen (ys[ys.length - 1]?.getD 0):Int)=(s:Int):=by omega
 simp only[r8] at Ou;have HLZ:=aB Ou;have aot:=aB tT;generalize ys[ys.length - 1]?.getD 0=y1 at *;have hnl:¬xs.length<ys.length:=by omega
 clear bl1 RL bl0 hs oJ abx Ou r8 tT;go_enter Tryz.func213,Tryz.ntmps213;go_wp2_with fail
 refine(HLZ.o _).ae ?_;rintro e w0 ⟨rfl,hw0⟩;subst hw0;go_wp2_with fail
 refine(YA gx kO xs s _ ix Tj (by omega) hx).ae ?_;rintro e w1 ⟨v1,l1,rfl,h1,hs1,hl1,gh,hb1⟩;obtain⟨g1,c1,rfl,hc1,adB,abj⟩:=h1.slice (by omega);have BF:=aB hl1;have sZ:=aB gh;have aoc:l1.length<=4398046511105:=by omega
 have aol:xs.length+1<=c1:=by omega
 clear hl1 gh;have hy1:=hy.aa hb1 EW;go_wp2_with fail
 refine(YA gy ja ys s _ jm Tj (by omega) hy1).ae ?_;rintro e w2 ⟨v2,l2,rfl,h2,hs2,hl2,dm,hb2⟩;obtain⟨g2,c2,rfl,hc2,aon,Ow⟩:=h2.slice (by omega);have fA:=aB dm;have aob:l2.length<=4398046511105:=by omega
 clear hl2 dm;go_wp2_with fail
 have wL:=Ni g2 0 c2 l2 w2 hs2 hc2 (by omega) (fun j hj=>Ow.cell j hj);rw[fA.o,DN.o.1] at wL;refine wL.ae ?_;rintro e w3 ⟨rfl,hw3⟩;subst hw3;have Mf:∃k,k<=l2.length/\words (nw l2)=l2.take k:=M4 l2 hs2
 have lD:bt w3 g2 0 (words (2^s*nw ys)):=by
  obtain⟨k,hk,e⟩:=Mf;have:=Ow.piece 0 k (by omega);rwa [yq, <- e,fA.o] at this
 have vE:=h1.aa hb2 (ar _);have hB2:Below w0.heap.size w0 w3:=hb1.trans (hb2.ae hb1.size);have aok:g1<w1.heap.size:=abj.lt;have aoj:g2<w3.heap.size:=Ow.lt;have EI:=hB2.size;have an2:=hb2.size;have Xm:=aB vE;have DJ:=aB lD;clear wL Mf lD vE abj Ow h1 h2 hy1;go_wp2_with (at_make;refine mL _ rfl _ _ 198 rfl w0.heap.size 114 i0 (.int .u32 0) 1 Tryz.underlying198 hi hz0 hz1 .i64 .i64 _ _ (xs.length - ys.length+1) rfl rfl (by omega) (by omega) (by rw[hz2];omega) (by unfold maxLen;omega) (by omega) ?_;intro w4 p9 EX)
 have hb4:=pC p9;rw[JY] at hb4;have fV:=aB hb4;have dY:Below w0.heap.size w0 w4:=hB2.grown EX (by omega) (fun k e=>by cases e);have uw:Hid (oT w4 w0.heap.size g1 l1.length c1 l1):=Has.aa Xm.o (B:=w3.heap.size) ((au _ w3).grown EX (ar _) (fun k e=>by cases e)) (ar _)
 have VE:Hid (oT w4 w0.heap.size w3.heap.size (xs.length - ys.length+1) (xs.length - ys.length+1) (List.replicate (xs.length - ys.length+1) 0)):=by
  have:=JQ (base:=w0.heap.size) (cap:=xs.length - ys.length+1) (l:=List.replicate (xs.length - ys.length+1) 0) _ hb4 (by simp) (by omega) (by unfold maxLen;omega) (by simp) ⟨_,hb4,by simp,fun j hj=>by simp at hj;simp[hj]⟩;rw[Gs] at this;exact this
 have rh:Hid (bt w4 g2 0 (words (2^s*nw ys))):=(DJ.o).grown EX (by simp);have HI:Hid (acO (2^s*nw xs) (2^s*nw ys) (xs.length - ys.length+1) l1 (List.replicate (xs.length - ys.length+1) 0) (xs.length - ys.length+1)):=acO.start kJ AL hs1 rfl ix rfl sZ.o BF.o DN.o.2.1;have kT:=aB dY;clear hb4 p9 EX Xm DJ hB2 dY
 go_loopw [40] (fun i wr=>∃(k:Nat) (lf ql:List Nat),k<=xs.length - ys.length+1/\i=.int .i64 k/\Hid (acO (2^s*nw xs) (2^s*nw ys) (xs.length - ys.length+1) lf ql (xs.length - ys.length+1 - k))/\Hid (oT wr w0.heap.size g1 l1.length c1 lf)/\Hid (oT wr w0.heap.size w3.heap.size (xs.length - ys.length+1) (xs.length - ys.length+1) ql)/\Hid (bt wr g2 0 (words (2^s*nw ys)))/\Hid (Below w0.heap.size w0 wr))
  (fun i _=>xs.length - ys.length+1 - (intOf i).toNat)
 case atStart=>exact⟨0,l1,_,aU _,rfl,HI,uw,VE,rh,kT⟩
 case round=>
  obtain⟨k,lf,ql,hk,rfl,BI,HOr,LR,LC,BS⟩:=hrel;clear HI uw VE rh kT;by_cases hlt:k<xs.length - ys.length+1
  ·go_wp2_with fail
   obtain⟨p,hp⟩:∃p,p=xs.length - ys.length - k:=⟨_,rfl⟩;(have hn:xs.length - ys.length - k+ys.length+1 - (xs.length - ys.length - k)=ys.length+1:=by omega);rw[hn, <- hp];(have abk:lf.length=xs.length+1:=by have:=HOr.o.len;have:=BF.o;omega);(have bJ:((lf.drop p).take (ys.length+1)).length=ys.length+1:=by rw[eZ,mR];omega)
   have HD:Hid (acO (2^s*nw xs) (2^s*nw ys) (xs.length - ys.length+1) lf ql (p+1)):=by
    have:=BI.o;rwa [show xs.length - ys.length+1 - k=p+1 by omega] at this
   have Te:=HD.o.seg DN.o.2.2 (by omega);have Hi:=aep g1 p (c1 - p) g2 c2 ((lf.drop p).take (ys.length+1)) (words (2^s*nw ys)) wr (by rw[bJ,DN.o.1]) (GR (JA HD.o.ls _) _) (mX _) (by rw[bJ];omega) (by rw[DN.o.1];exact kJ) (QZ _ (by rw[DN.o.1];exact kJ)) (by rw[kF];exact Te.1) (by have:=HOr.o.lies.piece p (ys.length+1) (by omega);rwa [bT] at this) LC.o (by omega);rw[bJ,DN.o.1,kF] at Hi;refine Hi.ae ?_;clear Hi;rintro e w5 ⟨seg,rfl,Td,ajd,aaY,Ko,yN⟩;(have hpL:p<xs.length - ys.length+1:=by omega);have HST:=aB (HD.o.step DN.o.2.2 (by omega) hpL (by have:=Te.1;rcases zY (2^s*nw ys) with e |e;(rw[e,kY] at this;omega);exact e) Td ajd aaY);have Tu:=HOr.o.lies.patch yN Ko Td (by omega);have FT:Hid (oT w5 w0.heap.size g1 l1.length c1 (lf.take p++seg++lf.drop (p+(ys.length+1)))):=HOr.o.upd yN Tu (by have:=BF.o;simp;omega);have xQ:=aB (LR.o.apart yN (by omega));have VH:=aB (LC.o.apart yN (by omega));have eD:=aB (cF.aa BS.o yN adB BS.o.size);(have aa3:p<ql.length:=by have:=LR.o.len;omega);have hcell:=xQ.o.lies.cell p aa3;have hfz:=xQ.o.lies.frozen p;rw[bT] at hcell;have cO:=xQ.o.lies.set p aa3 (nw ((lf.drop p).take (ys.length+1))/(2^s*nw ys));rw[bT] at cO;have kS:=aB cO;have Qd:=aB abk;generalize hqv:nw ((lf.drop p).take (ys.length+1))/(2^s*nw ys)=qv at *;generalize ql[p]?.getD 0=old at *;clear cO Tu Te bJ Td aaY Ko abk BI HOr LR LC BS HD hn hqv;subst hp;go_wp2;go_roundw
   case rel=>
    have Og:cF w3.heap.size (xs.length - ys.length - k) 1 w5 (w5.setCell ⟨w3.heap.size,xs.length - ys.length - k,none⟩ (.int .u32 (qv:Nat))):=cF.setCell (ar _) (by omega) _;refine⟨k+1,_,_,by omega,by go_num,?_,aB (FT.o.apart Og (by omega)),aB (xQ.o.upd Og kS.o (by have:=xQ.o.len;rw[rU];omega)),aB (VH.o.apart Og (by omega)),aB (cF.aa eD.o Og EI eD.o.size)⟩;have e:=HST.o;show acO _ _ _ _ _ _;rwa [show xs.length - ys.length+1 - (k+1)=xs.length - ys.length - k by omega]
   case measure=>simp[intOf];omega
  ·obtain rfl:k=xs.length - ys.length+1:=by omega
   have hD:=BI.o;rw[qE] at hD;have tM:0<2^s:=tB (by decide);obtain⟨hq,hr⟩:=hD.stop;rw[Nat.mul_div_mul_left _ _ tM] at hq;rw[Nat.mul_mod_mul_left] at hr;(have hr2:nw (ou s lf)=nw xs % nw ys:=by rw[afe s (by omega) lf hD.ls,hr,Nat.mul_div_cancel_left _ tM]);have tS:=hD.ls;have o9:=hD.qs;have Vl:=aB hq;have P6:=aB hr2;have Th:=afd g1 c1 lf s wr tS Tj (by have:=HOr.o.len;omega) HOr.o.lies;rw[<- HOr.o.len] at Th;have dT:=aB Th;clear hq hr hr2 hD BI Th;go_wp2_with fail
   refine dT.o.ae ?_;rintro e w5 ⟨rfl,Ko,yN⟩;have FT:=aB (HOr.o.upd yN Ko (by rw[aff];exact HOr.o.len.symm));have xQ:=aB (LR.o.apart yN (by omega));have eD:=aB (cF.aa BS.o yN adB BS.o.size);have hs1:=Ni w3.heap.size 0 (xs.length - ys.length+1) ql w5 o9 (by rw[<- xQ.o.len];omega) (by rw[<- xQ.o.len];omega) (fun j hj=>xQ.o.lies.cell j hj);rw[<- xQ.o.len,Vl.o] at hs1;have hs2:=Ni g1 0 c1 (ou s lf) w5 (YB s lf) FT.o.lies_le (by rw[<- FT.o.len];omega) (fun j hj=>FT.o.lies.cell j hj);rw[<- FT.o.len,P6.o] at hs2;have j5:=aB hs1;have iR:=aB hs2;clear hs1 hs2 Ko yN dT HOr LR BS;go_wp2_with fail
   refine j5.o.ae ?_;rintro e w6 ⟨rfl,hw6⟩;subst hw6;go_wp2_with fail
   refine iR.o.ae ?_;rintro e w7 ⟨rfl,hw7⟩;subst hw7;go_wp2;go_ret2;have EY:=xQ.o.words o9;have hf2:=FT.o.words (YB s lf);rw[Vl.o] at EY;rw[P6.o] at hf2;exact⟨_,_,_,_,rfl,EY,hf2,eD.o⟩
theorem QX (h:n≠0):0<(words n).length:=by
 rcases zY (words n).length with e |e
 ·exact absurd ((M5 n).1 (Xj e)) h
 ·exact e
theorem aaz {x y:Nat} (h:(words x).length<(words y).length):x<y:=by
 have kJ:0<(words y).length:=by omega
 have hb:=getD_lt (mX y) ((words y).length - 1);have h1:=(acM (words y) 0 (mX y) kJ (QZ y kJ) (by rw[apd,kB];exact hb)).2.1;rw[apd,kB,kB,kF] at h1;have h2:=uQ (words x) (mX x);rw[kF] at h2;have h3:W^(words x).length<=W^((words y).length - 1):=lW lM (by omega);omega
theorem QY {x y:Nat} (h:x<=y):(words x).length<=(words y).length:=by
 rcases cD (words y).length (words x).length with c |c
 ·have:=aaz c;omega
 ·exact c
theorem aaA {x:Nat} (h:(words x).length<=2):x<18446744073709551616:=by
 have h2:=uQ (words x) (mX x);rw[kF] at h2;have h3:W^(words x).length<=W^2:=lW lM h;have h4:W^2=18446744073709551616:=by rw[gW]
 omega
theorem acr (gx kO gy ja x y:Nat) (w:World) (oA:y≠0) (hlx:(words x).length<=4398046511104) (sA:(words x).length<=kO) (hx:bt w gx 0 (words x)) (hy:bt w gy 0 (words y)):
  Calls Tryz.prog 213 #[.slice (some ⟨gx,0,none⟩) (words x).length kO,.slice (some ⟨gy,0,none⟩) (words y).length ja] w fun e w'=>
   ∃vq gr cr,e=.returned (.tuple #[vq,.slice (some ⟨gr,0,none⟩) (words (x % y)).length cr])/\Has w' w.heap.size vq (words (x/y))/\(words (x % y)).length<=cr/\bt w' gr 0 (words (x % y))/\Below w.heap.size w w':=by
 rcases cD (words x).length (words y).length with c |c
 ·have hlt:=aaz c;refine(alj _ _ kO _ _ ja w c).ae ?_;rintro e w' ⟨rfl,rfl⟩;refine⟨_,gx,kO,by rw[jM hlt],?_,by rw[jM hlt];exact sA,by rw[jM hlt];exact hx,au _ _⟩;rw[ym hlt,wy];exact⟨rfl,.inl ⟨rfl,rfl⟩⟩
 ·have hp:=QX oA;have:=alk gx kO gy ja (words x) (words y) w (mX _) (mX _) hlx hp (QZ y hp) c hx hy;rw[kF,kF] at this;refine this.ae ?_;rintro e w' ⟨gq,cq,gr,cr,rfl,h1,h2,h3⟩;obtain⟨_,h4,_,h5⟩:=Cs h2;exact⟨_,gr,cr,rfl,h1,h4,h5,h3⟩
theorem anO (a b:ByteArray) (w:World) (ha:a.size<=1099511627776) (hb:b.size<=1099511627776) (h0:N b≠0):
  Calls Tryz.prog 166 #[.string a,.string b] w fun e w'=>e=.returned (.tuple #[.string (B (N a/N b)),.string (B (N a % N b)),.bool true])/\Below w.heap.size w w':=by
 have lF:=yw a 274877906944 (by omega);have lD:=yw b 274877906944 (by omega);have kJ:=QX h0;have hne:¬(((words (N b)).length:Int)=0):=by omega
 have hlq:(words (N a/N b)).length<=274877906944:=aS (QY (wh _ _)) lF;have cZ:(words (N a % N b)).length<=274877906944:=aS (QY (Nat.mod_le _ _)) lF;go_enter Tryz.func166,Tryz.ntmps166;go_wp2_with fail
 refine(yA b _ (by omega)).ae ?_;rintro e w1 ⟨g1,c1,rfl,h1,hb1⟩;go_wp2_with fail
 refine(yA a _ (by omega)).ae ?_;rintro e w2 ⟨g2,c2,rfl,h2,hb2⟩;have hl1:=xg h1 hb2;have hl2:=xg h2 (au _ _);have hB2:Below w.heap.size w w2:=hb1.trans (hb2.ae hb1.size);go_wp2_with fail
 refine(acr g2 c2 g1 c1 (N a) (N b) _ h0 (by omega) (Cs h2).2.1 hl2 hl1).ae ?_;rintro e w3 ⟨vq,gr,cr,rfl,hq,hcr,hr,hb3⟩;have bU:Below w.heap.size w w3:=hB2.trans (hb3.ae hB2.size);go_wp2_with fail
 refine(O0 _ _ _ _ (mX _) (by omega) hq).ae ?_;rintro e w4 ⟨rfl,hb4⟩;have hr4:=hr.aa hb4 hr.lt;have dY:Below w.heap.size w w4:=bU.trans (hb4.ae bU.size);rw[kF];go_wp2_with fail
 refine(UH gr cr _ _ (mX _) hcr (by omega) hr4.lt (fun j hj=>hr4.cell j hj)).ae ?_;rintro e w5 ⟨rfl,hb5⟩;rw[kF];go_wp2;go_ret3
 exact⟨rfl,dY.trans (hb5.ae dY.size)⟩
theorem anN (a b:ByteArray) (w:World) (ha:a.size<=1099511627776) (hb:b.size<=1099511627776):
  Calls Tryz.prog 165 #[.string a,.string b] w fun e w'=>e=.returned (.string (B (Nat.gcd (N a) (N b))))/\Below w.heap.size w w':=by
 have lF:=yw a 274877906944 (by omega);have lD:=yw b 274877906944 (by omega);go_enter Tryz.func165,Tryz.ntmps165;go_wp2_with fail
 refine(yA a _ (by omega)).ae ?_;rintro e w1 ⟨g1,c1,rfl,h1,hb1⟩;go_wp2_with fail
 refine(yA b _ (by omega)).ae ?_;rintro e w2 ⟨g2,c2,rfl,h2,hb2⟩;have hl1:=xg h1 hb2;have hl2:=xg h2 (au _ _);have hB2:Below w.heap.size w w2:=hb1.trans (hb2.ae hb1.size);have hc1:=(Cs h1).2.1;have hc2:=(Cs h2).2.1;go_wp2_with fail
 go_loopg [5,6] (N b) (fun r vx vy wr=>∃(x gx cx gy cy:Nat),vx=.slice (some ⟨gx,0,none⟩) (words x).length cx/\vy=.slice (some ⟨gy,0,none⟩) (words r).length cy/\(words x).length<=cx/\(words r).length<=cy/\(words x).length<=274877906944/\(words r).length<=274877906944/\Hid (bt wr gx 0 (words x))/\Hid (bt wr gy 0 (words r))/\Hid (Nat.gcd x r=Nat.gcd (N a) (N b))/\Hid (Below w.heap.size w wr))
 case atStart=>exact⟨_,_,_,_,_,rfl,rfl,hc1,hc2,lF,lD,hl1,hl2,rfl,hB2⟩
 case round=>
  obtain⟨x,gx,cx,gy,cy,rfl,rfl,sA,wX,J7,Ge,hxw,Oa,hg,hB⟩:=hrel;clear hl1 hl2 hB2 hc1 hc2 h1 h2 hb1 hb2;by_cases oA:gk=0
  ·subst oA;rw[wy] at *;go_wp2_with fail
   refine(UH gx cx _ _ (mX _) sA (by omega) hxw.o.lt (fun j hj=>hxw.o.cell j hj)).ae ?_;rintro e w5 ⟨rfl,hb5⟩;rw[kF];go_wp2;go_ret;exact⟨by rw[<- hg.o,Nat.gcd_zero_right];rfl,hB.o.trans (hb5.ae hB.o.size)⟩
  ·have kJ:=QX oA;(have hne:¬(((words gk).length:Int)=0):=by omega);by_cases hbig:2<(words x).length
   focus
    go_wp2_with fail
   rotate_left
   focus
    by_cases abA:2<(words gk).length
    focus
     go_wp2_with fail
    rotate_left
    ·have S5:=aaA (Nat.le_of_not_lt hbig);have aaS:=aaA (Nat.le_of_not_lt abA);go_wp2_with fail
     refine(Xw gx cx _ _ (mX _) (Nat.le_of_not_lt hbig) hxw.o).ae ?_;rintro e w5 ⟨rfl,hw⟩;subst hw;rw[kF];go_wp2_with fail
     refine(Xw gy cy _ _ (mX _) (Nat.le_of_not_lt abA) Oa.o).ae ?_;rintro e w6 ⟨rfl,hw⟩;subst hw;rw[kF];go_wp2_with fail
     refine(akg x gk _ S5 aaS).ae ?_;rintro e w7 ⟨rfl,bK⟩;have mo:=hB.o.trans (bK.ae hB.o.size);rw[hg.o];(have ajE:Nat.gcd (N a) (N b)<18446744073709551616:=by rw[<- hg.o];exact QH (Nat.gcd_le_right _ (lX oA)) aaS);go_wp2_with fail
     refine(Z3 _ _ ajE).ae ?_;rintro e w8 ⟨rfl,jS⟩;go_wp2;go_ret;exact⟨rfl,mo.trans (jS.ae mo.size)⟩
   all_goals
    refine(acr gx cx gy cy x gk _ oA (by omega) sA hxw.o Oa.o).ae ?_;rintro e w5 ⟨vq,gr,cr,rfl,_,hcr,hr,hb5⟩;have cZ:(words (x % gk)).length<=274877906944:=aS (QY (Nat.mod_le _ _)) J7;have HR:=aB hr;have VH:=aB (Oa.o.aa hb5 Oa.o.lt);have eD:=aB (hB.o.trans (hb5.ae hB.o.size));(have x4:Hid (Nat.gcd gk (x % gk)=Nat.gcd (N a) (N b)):=by show _=_;rw[<- hg.o,Jb x gk,Nat.gcd_rec gk x,Jb]);go_wp2;go_roundg (x % gk)
    case measure=>exact jL _ (lX oA)
    case rel=>exact⟨gk,gy,cy,gr,cr,rfl,rfl,wX,hcr,Ge,cZ,VH,HR,x4,eD⟩
variable {w0:World}
theorem qT (k:Nat):∀n,n<256^k ->(bn n).length<=k:=by
 induction k with
 |zero=>
  intro n h;have:n=0:=by simpa using h
  subst this;simp[qj]
 |succ k ih=>
  intro n h;by_cases e:n=0
  ·subst e;simp[qj]
  ·rw[qm n e,dM,MO];have:=ih (n/256) (Gn (by rw[jc] at h;omega));omega
theorem Gf (n:Nat):n<256^(B n).size:=by
 have:=tH (bn n);rwa [Sz, <- mK] at this
theorem kj (h:m<=n):(B m).size<=(B n).size:=by
 rw[mK m];exact qT _ _ (QH h (Gf n))
theorem ac7 (m n:Nat):(B (m*n)).size<=(B m).size+(B n).size:=by
 rw[mK (m*n)];refine qT _ _ ?_;rw[Cb];exact I9 (Gf m) (Gf n)
theorem X4 (m n:Nat):(B (m+n)).size<=(B m).size+(B n).size+1:=by
 rw[mK (m+n)];refine qT _ _ ?_;have h1:=Gf m;have h2:=Gf n;have h3:256^(B m).size<=256^((B m).size+(B n).size):=lW (by decide) (by omega);have h4:256^(B n).size<=256^((B m).size+(B n).size):=lW (by decide) (by omega);rw[jc];omega
theorem DX:B 0=⟨#[]⟩:=by rw[B,qj]
theorem ade:N ⟨#[]⟩=0:=rfl
theorem adE (h:B m=B n):m=n:=by rw[<- bQ m,h,bQ]
theorem Gg (h:n≠0):(B n).toList.isEmpty=false:=by
 cases e:(B n).toList with
 |cons=>rfl
 |nil=>
  rw[Lib.toList_data] at e;have h2:(B n).size=0:=by rw[ByteArray.size, <- yu,e];rfl
  have h3:=Gf n;rw[h2] at h3;omega
theorem vI (s:ByteArray):s.data.toList.length=s.size:=by rw[yu];rfl
theorem MB:(B 1).size<=1:=by rw[mK];exact qT 1 1 (by decide)
theorem under {P:Program} {f:FuncId} {args:Array Value} {X:Ending} (hB:Below w0.heap.size w0 w) (h:Calls P f args w fun e w'=>e=X/\Below w.heap.size w w'):Calls P f args w fun e w'=>e=X/\Below w0.heap.size w0 w':=
 h.ae fun _ _ ⟨h1,h2⟩=>⟨h1,hB.trans (h2.ae hB.size)⟩
theorem anM {a b:ByteArray} (n:Nat) (hB:Below w0.heap.size w0 w) (h:Nat.gcd (N a) (N b)=n) (ha:a.size<=1099511627776) (hb:b.size<=1099511627776):
  Calls Tryz.prog 165 #[.string a,.string b] w fun e w'=>e=.returned (.string (B n))/\Below w0.heap.size w0 w':=by
 subst h;exact under hB (anN a b w ha hb)
theorem Lt {x:Int} (n:Nat) (hB:Below w0.heap.size w0 w) (h:x=(n:Int)) (hx:x<=9223372036854775807):
  Calls Tryz.prog 110 #[.int .i64 x] w fun e w'=>e=.returned (.string (B n))/\Below w0.heap.size w0 w':=by
 have:=under hB (adb x w (by omega) hx);rwa [show x.toNat=n by omega] at this
theorem ac9 {a b:ByteArray} (n:Nat) (hB:Below w0.heap.size w0 w) (h:N a=N b+n) (ha:a.size<=1099511627776) (hb:b.size<=1099511627776):
  Calls Tryz.prog 163 #[.string a,.string b] w fun e w'=>e=.returned (.tuple #[.string (B n),.bool true])/\Below w0.heap.size w0 w':=by
 have:=under hB (am2 a b w ha hb (by omega));rwa [show N a - N b=n by omega] at this
theorem am3 {a b:ByteArray} (hB:Below w0.heap.size w0 w) (h:N a<N b):
  Calls Tryz.prog 163 #[.string a,.string b] w fun e w'=>e=.returned (.tuple #[.string ⟨#[]⟩,.bool false])/\Below w0.heap.size w0 w':=under hB (am4 a b w h)
theorem adD {a b:ByteArray} (q r:Nat) (hB:Below w0.heap.size w0 w) (hq:N a/N b=q) (hr:N a % N b=r) (h0:N b≠0) (ha:a.size<=1099511627776) (hb:b.size<=1099511627776):
  Calls Tryz.prog 166 #[.string a,.string b] w fun e w'=>e=.returned (.tuple #[.string (B q),.string (B r),.bool true])/\Below w0.heap.size w0 w':=by
 subst hq hr;exact under hB (anO a b w ha hb h0)
def nd:List Nat ->Nat
 |[]=>0
 |x::r=>x+256*nd r
theorem Eu (x:Nat) (r:List Nat):nd (x::r)=x+256*nd r:=rfl
theorem Sy (n:Nat):nd (List.replicate n 0)=0:=by
 induction n with
 |zero=>rfl
 |succ n ih=>rw[Jc,Eu,ih]
theorem NV (l:List Nat):∀(j y:Nat) (h:j<l.length),nd (l.set j y)+l[j]*256^j=nd l+y*256^j:=by
 induction l with
 |nil=>intro j y h;exact absurd h (Cc _)
 |cons x r ih=>
  intro j y h;cases j with
  |zero=>simp only[Ec,Eu,List.getElem_cons_zero,apd,mN];omega
  |succ j=>
   (have hj:j<r.length:=by simpa using h);have:=ih j y hj;simp only[List.set_cons_succ,Eu,apU,jc];(have e1:r[j]*(256^j*256)=256*(r[j]*256^j):=by rw[<- il,abr]);(have e2:y*(256^j*256)=256*(y*256^j):=by rw[<- il,abr]);rw[e1,e2];omega
def rk (l:List Nat):Prop:=∀x∈l,x<256
theorem U4 (n:Nat):rk (List.replicate n 0):=fun x hx=>by rw[(List.mem_replicate.1 hx).2];decide
theorem Le {l:List Nat} (h:rk l) (j y:Nat) (hy:y<256):rk (l.set j y):=fun x hx=>by
 rcases Xe hx with h1 |h1
 ·exact h x h1
 ·rw[h1];exact hy
theorem ahN (l:List Nat) (h:rk l):nd l<256^l.length:=by
 induction l with
 |nil=>decide
 |cons x r ih=>
  have h1:=ih fun y hy=>h y (eE _ hy);have h2:=h x dJ;rw[Eu,eU,jc];omega
def rb (l:List Nat):List UInt8:=l.reverse.map UInt8.ofNat
theorem ahQ (l:List Nat) (h:rk l):nb (rb l)=nd l:=by
 induction l with
 |nil=>rfl
 |cons x r ih=>
  have h1:=ih fun y hy=>h y (eE _ hy);have h2:=h x dJ;have:rb (x::r)=rb r++[UInt8.ofNat x]:=by simp[rb]
  rw[this,yF,h1,Eu];have:(UInt8.ofNat x).toNat=x:=by simp;omega
  omega
theorem ahU (l:List UInt8) (i:Nat) (h:i<l.length):nb l/256^i % 256=(l[l.length - 1 - i]'(by omega)).toNat:=by
 have e:l=l.take (l.length - 1 - i)++(l[l.length - 1 - i]'(by omega)::l.drop (l.length - i)):=by
  have h1:=zZ (l.length - 1 - i) l;have h2:l.drop (l.length - 1 - i)=l[l.length - 1 - i]'(by omega)::l.drop (l.length - 1 - i+1):=mS (by omega);rw[h2,show l.length - 1 - i+1=l.length - i by omega] at h1;exact h1.symm
 have hl:(l.drop (l.length - i)).length=i:=by rw[mR];omega
 have hlt:=tH (l.drop (l.length - i));rw[hl] at hlt
 have hn:nb l=(nb (l.take (l.length - 1 - i))*256+(l[l.length - 1 - i]'(by omega)).toNat)*256^i+nb (l.drop (l.length - i)):=by
  conv=>lhs;rw[e]
  rw[Cx,Ew,eU,hl,jc,fW,il,abr 256 (256^i),yo]
 generalize (l[l.length - 1 - i]'(by omega))=c at *;generalize nb (l.take (l.length - 1 - i))=p at *;have hc:=c.toNat_lt;rw[hn,abr,Nat.mul_add_div (tB (by decide)),ym hlt,fH];omega
theorem ahT (l:List UInt8) (i:Nat) (h:l.length<=i):nb l/256^i % 256=0:=by
 rw[ym (aR (tH l) (lW (by decide) h))]
theorem ald (l:List UInt8):∀k,k<=l.length ->(l.take k).all (·==0)=true ->(∀h:k<l.length,l[k]≠0) ->l.dropWhile (·==0)=l.drop k:=by
 induction l with
 |nil=>intro k _ _ _;simp
 |cons x r ih=>
  intro k hk h0 h1;cases k with
  |zero=>
   have:x≠0:=h1 (by simp);rw[List.dropWhile_cons,aaO (by simpa using this),yq]
  |succ k=>
   simp only[List.take_succ_cons,List.all_cons,ia] at h0;rw[List.dropWhile_cons,aaf h0.1,List.drop_succ_cons];exact ih k (by simpa using hk) h0.2 (fun h=>by have:=h1 (by simpa using h);simpa using this)
theorem Hd (n k:Nat):n % 256^(k+1)=n % 256^k+256^k*(n/256^k % 256):=by
 rw[jc,Nat.mod_mul]
theorem XV (s:ByteArray) (k:Nat) (hk:k<=s.size) (h0:(s.data.toList.take k).all (·==0)=true) (h1:∀h:k<s.size,s[k].toNat≠0):s.extract k s.size=B (N s):=by
 have e:s.data.toList.dropWhile (·==0)=s.data.toList.drop k:=ald _ k (by simpa using hk) h0 (fun h hz=>h1 (by simpa using h) (by
  have:s[k]'(by simpa using h)=s.data.toList[k]:=rfl;rw[this,hz];rfl))
 apply apu;apply apv.1;rw[B,N,Vf,e];show (s.extract k s.size).data.toList=_;rw[ByteArray.data_extract,Array.toList_extract];simp[jd]
theorem ow (s:ByteArray) (w:World) (hs:s.size<=140737488355328):
  Calls Tryz.prog 116 #[.string s] w fun e w'=>e=.returned (.string (B (N s)))/\w'=w:=by
 go_enter Tryz.func116,Tryz.ntmps116;go_wp2;go_loop [3] (fun i=>∃k:Nat,k<=s.size/\i=.int .i64 k/\(s.data.toList.take k).all (·==0)=true) (fun i=>s.size - (intOf i).toNat)
 case atStart=>exact⟨0,aU _,rfl,rfl⟩
 case round=>
  obtain⟨k,hk,rfl,hall⟩:=hrel;have HA:Hid ((s.data.toList.take k).all (·==0)=true):=hall;clear hall;by_cases hlt:k<s.size
  ·by_cases hc:s[k].toNat=0
   ·have HS:Hid ((s.data.toList.take (k+1)).all (·==0)=true):=by
     show _=_;rw[Jw s k hlt,List.all_append,HA.o];have:s[k]=0:=MH.1 hc;simp[this]
    go_wp2;go_round
    case rel=>exact⟨k+1,by omega,by go_num,HS.o⟩
    case measure=>simp[intOf];omega
   ·have HE:=aB (XV s k hk HA.o fun _=>hc);go_wp2;go_ret;exact⟨by rw[<- HE.o];rfl,rfl⟩
  ·have HE:=aB (XV s k hk HA.o fun h=>absurd h hlt);go_wp2;go_ret;exact⟨by rw[<- HE.o];rfl,rfl⟩
theorem Xp (n:Nat) (h:n<256):wrap64 (n:Int)=(n:Int):=by
 rw[wrap64];omega
theorem H7 (s:ByteArray) (i:Nat) (w:World) (hs:s.size<=140737488355328) (hi:i<=9223372036854775807):
  Calls Tryz.prog 118 #[.string s,.int .i64 (i:Int)] w fun e w'=>e=.returned (.int .i64 ((N s/256^i % 256:Nat):Int))/\w'=w:=by
 go_enter Tryz.func118,Tryz.ntmps118;by_cases hlt:i<s.size
 ·have HD:Hid (N s/256^i % 256=(s[s.size - 1 - i]'(by omega)).toNat):=by
   show _=_;rw[N,ahU _ i (by simpa using hlt)];simp;rfl
  have hx:0<=(s.size:Int) - 1 - i:=by omega
  have hw:=Xp _ (s[s.size - 1 - i]'(by omega)).toNat_lt;have HW:=aB hw;clear hw;go_wp2;go_ret;exact⟨by rw[HD.o];exact bR (fun z=>Ending.returned (Value.int .i64 z)) HW.o,rfl⟩
 ·have HD:Hid (N s/256^i % 256=0):=ahT _ i (by simp;omega);go_wp2;go_ret;exact⟨by rw[HD.o];rfl,rfl⟩
def iv (x:Nat):Value:=.int .i64 (x:Int)
def bV (w:World) (g:Nat) (l:List Nat):Prop:=w.heap[g]? =some (.cells (l.map iv).toArray 3 (0,0))
theorem bV.cell {l:List Nat} (h:bV w g l) (j:Nat) (hj:j<l.length):w.cell? ⟨g,j,none⟩=some (.int .i64 (l[j]:Nat)):=by
 rw[cC w g j _ _ (0,0) h];simp[iv,hj]
theorem bV.fz {l:List Nat} (h:bV w g l) (j:Nat):w.frozen? ⟨g,j,none⟩=false:=pN w g j _ _ h
theorem bV.lt {l:List Nat} (h:bV w g l):g<w.heap.size:=(eL.1 h).1
theorem bV.aa {b:Nat} {l:List Nat} (h:bV w g l) (hb:Below b w w') (hg:g<b):bV w' g l:=(hb.block g hg).trans h
theorem bV.set {l:List Nat} (h:bV w g l) (j y:Nat):bV (w.setCell ⟨g,j,none⟩ (.int .i64 (y:Int))) g (l.set j y):=by
 have:=mM w g j _ _ (.int .i64 (y:Int)) h;rw[bV,Gr];simpa [iv] using this
def rB (l:List Nat) (k:Nat):List Int:=List.replicate (l.length - k) 0++((l.take k).reverse.map Int.ofNat)
theorem agW (l:List Nat):rB l 0=List.replicate l.length 0:=by simp[rB]
theorem agY (l:List Nat) (k:Nat) (hk:k<=l.length):(rB l k).length=l.length:=by simp[rB];omega
theorem agX (l:List Nat) (k:Nat) (hk:k<l.length):(rB l k).set (l.length - 1 - k) (l[k]:Int)=rB l (k+1):=by
 have h1:l.length - k=(l.length - 1 - k)+1:=by omega
 have h2:List.replicate (l.length - k) (0:Int)=List.replicate (l.length - 1 - k) 0++[0]:=by rw[h1,List.replicate_succ']
 have h3:l.length - (k+1)=l.length - 1 - k:=by omega
 rw[rB,rB,h2,rW,Ed _ _ (by simp),h3];rw[Gs,qE,fg,iD,Ec,fR hk,List.reverse_append,List.reverse_singleton,fY];rfl
theorem agZ (l:List Nat):rB l l.length=l.reverse.map Int.ofNat:=by simp[rB]
theorem am7 (l:List Nat) (h:rk l):N (strOfNums (l.reverse.map Int.ofNat))=nd l:=by
 rw[N,I4, <- ahQ l h,rb];congr 1
 simp[Function.comp_def]
theorem AB (n:Nat):(madeCells (Value.int .i64 0).cells (n*1)).toList=(List.replicate n (0:Nat)).map iv:=by
 rw[show (Value.int .i64 0).cells= #[Value.int .i64 0] from rfl,I3,mN,MN];rfl
theorem Tryz.infoInt:(Tryz.prog.info? 3).map (fun i=>(i.zero,i.size,i.bytes))=some (some (.int .i64 0),1,8):=by kernel_rfl
theorem R9 (g:Nat) (l:List Nat) (w:World) (hd:rk l) (hlen:l.length<=140737488355328) (h:bV w g l):
  Calls Tryz.prog 119 #[.slice (some ⟨g,0,none⟩) l.length l.length] w fun e w'=>e=.returned (.string (B (nd l)))/\Below w.heap.size w w':=by
 obtain⟨i0,hi,hz0,hz1,hz2⟩:=eT Tryz.infoByte;have ajz:=h.lt;have nU:Hid (bV w g l):=h;have HN:Hid (N (strOfNums (l.reverse.map Int.ofNat))=nd l):=am7 l hd;have HD:Hid (rk l):=hd;clear h hd;go_enter Tryz.func119,Tryz.ntmps119
 go_wp2_with (first
  |(at_make;refine mL _ rfl _ _ 152 rfl w.heap.size 5 i0 (.int .u8 0) 1 Tryz.underlying152 hi hz0 hz1 .i64 .i64 _ _ l.length rfl rfl (by omega) (by omega) (by rw[hz2];omega) (by unfold maxLen;omega) (ar _) ?_;intro w2 hown2 hgrow2))
 have hb2:=pC hown2;rw[aay, <- agW] at hb2;have hB2:Below w.heap.size w w2:=(au _ w).grown hgrow2 (ar _) (fun k e=>by cases e);have HI:Hid (w2.heap[w.heap.size]? =some (.cells ((rB l 0).map u8).toArray 5 (0,0))):=hb2;clear hown2 hgrow2 hb2
 go_loopw [4] (fun i wr=>∃k:Nat,k<=l.length/\i=.int .i64 k/\Hid (wr.heap[w.heap.size]? =some (.cells ((rB l k).map u8).toArray 5 (0,0)))/\Below w.heap.size w wr)
  (fun i _=>l.length - (intOf i).toNat)
 case atStart=>exact⟨0,aU _,rfl,HI,hB2⟩
 case round=>
  obtain⟨k,hk,rfl,HR,cE⟩:=hrel;clear HI hB2;by_cases hlt:k<l.length
  ·have hck:wr.cell? ⟨g,k,none⟩=some (.int .i64 (l[k]:Nat)):=(nU.o.aa cE ajz).cell k hlt;have hx:=HD.o l[k] (bH hlt);have cO:=aB (agX l k hlt);obtain⟨E,hE⟩:∃E,E=l.length - 1 - k:=⟨_,rfl⟩;rw[<- hE] at cO;(have f1:(l.length:Int) - 1 - (k:Int)=(E:Int):=by omega);(have f2:E<l.length:=by omega)
   have hcd:wr.cell? ⟨w.heap.size,E,none⟩=some (.int .u8 ((rB l k)[E]?.getD 0)):=by
    rw[cC wr _ E _ _ (0,0) HR.o];(have:E<(rB l k).length:=by rw[agY l k hk];exact f2);simp[Go.Proofs.YtdnhgjeihdllbaaGreatDoor.u8,af this]
   have hfz:=pN wr w.heap.size E _ _ HR.o;have hput:=aB (fun u=>mM wr w.heap.size E _ _ u HR.o);generalize l[k]=x at *;generalize (rB l k)[E]?.getD 0=z at *;clear hE;go_wp2;have hrow:=hput.o (.int .u8 (x:Int));go_roundw
   case rel=>
    refine⟨k+1,by omega,by go_num,?_,cE.setCell (ar _) _⟩;show _=_;rw[hrow, <- cO.o,Gr];simp[Go.Proofs.YtdnhgjeihdllbaaGreatDoor.u8]
   case measure=>simp[intOf];omega
  ·obtain rfl:k=l.length:=by omega
   have CH:=agZ l;(have hml:(l.reverse.map Int.ofNat).length=l.length:=by simp);have P8:=HN.o;clear HN nU HD;generalize l.reverse.map Int.ofNat=m at *;have HN:=aB P8;clear P8
   have E4:=I5 (P:=Tryz.prog) wr 152 5 Tryz.underlying152 Tryz.underlying5 w.heap.size 0 l.length l.length m hml (fun i hi=>by
    have e:=cC wr w.heap.size (0+i) _ _ _ HR.o;rw[e,CH];(have jB:i<m.length:=by omega);simp[Go.Proofs.YtdnhgjeihdllbaaGreatDoor.u8,af jB,b7]) 30 Tryz.underlying30
   clear HR CH
   have hsz:(strOfNums m).size<=140737488355328:=by
    rw[<- vI,I4,c5];omega
   go_wp2_with (go_at_call 116;refine(ow _ _ hsz).ae ?_;rintro e w3 ⟨rfl,hw1⟩;subst hw1)
   go_ret;exact⟨by rw[HN.o];rfl,cE⟩
variable {A D c:Nat}
theorem acK (v P:Nat):v % 256*P+v/256*(P*256)=v*P:=by
 have h:v=v/256*256+v % 256:=by omega
 conv=>rhs;rw[h,fW,il,abr 256 P]
 omega
theorem amP {p:List Nat} (hk:k<p.length) (h0:p[k]?.getD 0=0) (h:nd p+c*256^k=A % 256^k+D % 256^k):
  nd (p.set k ((c+A/256^k % 256+D/256^k % 256) % 256))+(c+A/256^k % 256+D/256^k % 256)/256*256^(k+1)=A % 256^(k+1)+D % 256^(k+1):=by
 have s:=NV p k ((c+A/256^k % 256+D/256^k % 256) % 256) hk;have H3:p[k]=0:=by rwa [af hk] at h0
 rw[H3,jw,fH] at s;rw[s,Hd,Hd D,jc];have:=acK (c+A/256^k % 256+D/256^k % 256) (256^k)
 have e:(c+A/256^k % 256+D/256^k % 256)*256^k=c*256^k+256^k*(A/256^k % 256)+256^k*(D/256^k % 256):=by
  rw[fW,fW,abr (A/256^k % 256),abr (D/256^k % 256)]
 omega
theorem Rx {p:List Nat} {y:Nat} (h:∀j,k<=j ->p[j]?.getD 0=0):∀j,k+1<=j ->(p.set k y)[j]?.getD 0=0:=fun j hj=>by
 rw[QN (by omega)];exact h j (by omega)
theorem amQ {p:List Nat} (hA:A<256^n) (hD:D<256^n) (h:nd p+c*256^(n+1)=A % 256^(n+1)+D % 256^(n+1)):nd p=A+D:=by
 have hp:256^(n+1)=256*256^n:=by rw[jc,abr]
 rw[jM (by omega),jM (by omega)] at h
 have hc:c=0:=by
  rcases zY c with h0 |h0
  ·exact h0
  ·have:1*256^(n+1)<=c*256^(n+1):=jK _ h0;omega
 rw[hc] at h;omega
theorem Dm (s:ByteArray):N s<256^s.size:=by
 have:=tH s.data.toList;rwa [vI] at this
theorem Ze (a b:ByteArray) (w:World) (ha:a.size<=1000000) (hb:b.size<=1000000):
  Calls Tryz.prog 67 #[.string a,.string b] w fun e w'=>e=.returned (.string (B (N a+N b)))/\Below w.heap.size w w':=by
 obtain⟨i0,hi,hz0,hz1,hz2⟩:=eT Tryz.infoInt;obtain⟨n,hn⟩:∃n,n=max a.size b.size:=⟨_,rfl⟩;have hna:a.size<=n:=by omega
 have jA:b.size<=n:=by omega
 have gh:n<=1000000:=by omega
 have CS:(b.size<=a.size/\a.size=n)∨(a.size<b.size/\b.size=n):=by omega
 clear hn;have FY:Hid (N a<256^n):=aR (Dm a) (lW (by decide) hna);have DJ:Hid (N b<256^n):=aR (Dm b) (lW (by decide) jA);have IV:=aB (fun (k:Nat) (V:World) (h:k<=9223372036854775807)=>H7 a k V (by omega) h);have IU:=aB (fun (k:Nat) (V:World) (h:k<=9223372036854775807)=>H7 b k V (by omega) h);generalize hA:N a=A at *;generalize hD:N b=D at *;clear hA hD;go_enter Tryz.func67,Tryz.ntmps67;rcases CS with ⟨hc1,hc2⟩ |⟨hc1,hc2⟩
 all_goals
  go_wp2_with (first
   |(at_make;refine mL _ rfl _ _ 27 rfl w.heap.size 3 i0 (.int .i64 0) 1 Tryz.underlying27 hi hz0 hz1 .i64 .i64 _ _ (n+1) rfl rfl (by go_num) (by go_num) (by rw[hz2];omega) (by unfold maxLen;omega) (ar _) ?_;intro w2 hown2 hgrow2))
  have hb2:=pC hown2;rw[AB] at hb2;have hB2:Below w.heap.size w w2:=(au _ w).grown hgrow2 (ar _) (fun k e=>by cases e);have HI:Hid (bV w2 w.heap.size (List.replicate (n+1) 0)):=hb2;clear hown2 hgrow2 hb2 hc1 hc2
  go_loopw [7,8] (fun cv iv wr=>∃(k c:Nat) (p:List Nat),k<=n+1/\iv=.int .i64 k/\cv=.int .i64 c/\c<=1/\p.length=n+1/\Hid (rk p)/\Hid (∀j,k<=j ->p[j]?.getD 0=0)/\Hid (nd p+c*256^k=A % 256^k+D % 256^k)/\Hid (bV wr w.heap.size p)/\Below w.heap.size w wr)
   (fun _ i _=>n+1 - (intOf i).toNat)
  case atStart=>exact⟨0,0,List.replicate (n+1) 0,aU _,rfl,rfl,aU _,by simp,U4 _,(fun j _=>by rw[QO];split<;>rfl),(show _=_ by rw[Sy];simp[Nat.mod_one]),HI,hB2⟩
  case round=>
   obtain⟨k,c,p,hk,rfl,rfl,hc,hpl,rj,HZ,HE,HR,cE⟩:=hrel;clear HI hB2;by_cases hlt:k<n+1
   ·have Kp:k<p.length:=by omega
    have hstep:=aB (amP Kp (HZ.o k (ar _)) HE.o);have HX:=aB (fun V=>IV.o k V (by omega));have HY:=aB (fun V=>IU.o k V (by omega));have hx:A/256^k % 256<256:=jL _ (by decide);have hy:D/256^k % 256<256:=jL _ (by decide);generalize A/256^k % 256=x at *;generalize D/256^k % 256=y at *;have hcell:=HR.o.cell k Kp;have hfz:=HR.o.fz k;have cO:=aB (fun z=>HR.o.set k z);generalize p[k]=pk at *;clear HE
    go_wp2_with (first
     |(have hdone:=hx1;go_at_call 118;refine(HY.o _).ae ?_;rintro e w3 ⟨rfl,hw3⟩;subst hw3)
     |(go_at_call 118;refine(HX.o _).ae ?_;rintro e w3 ⟨rfl,hw3⟩;subst hw3;have hx1:True:=trivial))
    have hv:Value.int .i64 (((c:Int)+(x:Int)+(y:Int)) % 256)=.int .i64 (((c+x+y) % 256:Nat):Int):=int_eq (by omega);have hv2:Value.int .i64 (((c:Int)+(x:Int)+(y:Int))/256)=.int .i64 (((c+x+y)/256:Nat):Int):=int_eq (by omega);rw[hv,hv2];go_roundw
    case rel=>exact⟨k+1,(c+x+y)/256,p.set k ((c+x+y) % 256),by omega,by go_num,rfl,by omega,by rw[rU];exact hpl,Le rj.o _ _ (jL _ (by decide)),Rx HZ.o,hstep.o,cO.o _,cE.setCell (ar _) _⟩
    case measure=>simp[intOf];omega
   ·obtain rfl:k=n+1:=by omega
    have jn:=R9 w.heap.size p wr rj.o (by omega) HR.o;rw[hpl,amQ FY.o DJ.o HE.o] at jn;have LV:=aB jn;clear jn;go_wp2_with (go_at_call 119;refine(LV.o).ae ?_;rintro e w3 ⟨rfl,hb3⟩)
    go_ret;exact⟨rfl,cE.trans (hb3.ae cE.size)⟩
theorem Pu {b:Nat} {v u:World} (h:Below b v u) (k:Nat):Below b v (u.drewN k):=⟨h.os,h.tape,h.output,h.size,h.block⟩
theorem aaC (a b:ByteArray) (k:Nat) (ha:k<a.size) (hb:k<b.size) (hl:a.size=b.size) (hp:a.data.toList.take k=b.data.toList.take k) (h:a[k].toNat<b[k].toNat):N a<N b:=by
 have ea:a.data.toList=a.data.toList.take k++(a[k]::a.data.toList.drop (k+1)):=by
  have hd:a.data.toList.drop k=a[k]::a.data.toList.drop (k+1):=mS (l:=a.data.toList) (i:=k) (by simpa using ha);rw[<- hd,zZ]
 have eb:b.data.toList=b.data.toList.take k++(b[k]::b.data.toList.drop (k+1)):=by
  have hd:b.data.toList.drop k=b[k]::b.data.toList.drop (k+1):=mS (l:=b.data.toList) (i:=k) (by simpa using hb);rw[<- hd,zZ]
 rw[N,N,ea,eb,hp,Cx,Cx,Ew,Ew];have l1:(a.data.toList.drop (k+1)).length=a.size - (k+1):=by rw[mR,vI]
 have l2:(b.data.toList.drop (k+1)).length=a.size - (k+1):=by rw[mR,vI,hl]
 have b1:=tH (a.data.toList.drop (k+1));rw[l1] at b1;rw[eU,eU,l1,l2];have hm:(a[k].toNat+1)*256^(a.size - (k+1))<=b[k].toNat*256^(a.size - (k+1)):=jK _ h;rw[fW,kB] at hm;omega
theorem aaB (h:(B m).size<(B n).size):m<n:=by
 rcases cD m n with h1 |h1
 ·exact h1
 ·have:=kj h1;omega
theorem Va (h:m<n):jq m n= -1:=aaf h
theorem acD (h:n<m):jq m n=1:=by rw[jq,aaO (by omega),aaO (by omega)]
theorem alO (h:m=n):jq m n=0:=by rw[jq,aaO (by omega),aaf h]
theorem ak8 (hl:(B m).size=(B n).size) (hp:(B m).data.toList.take (B m).size=(B n).data.toList.take (B m).size):m=n:=by
 rw[jd (by rw[vI];exact ar _),jd (by rw[vI,hl];exact ar _)] at hp;exact adE (apu (apv.1 hp))
theorem Zb (a b:ByteArray) (w:World) (ha:a.size<=1000000) (hb:b.size<=1000000):
  Calls Tryz.prog 171 #[.string a,.string b] w fun e w'=>e=.returned (.int .i64 (jq (N a) (N b)))/\Below w.heap.size w w':=by
 have qY:=aB (ow a w (by omega));have dB:=aB (ow b w (by omega));have sa:=aS (ju a) ha;have sb:=aS (ju b) hb;have BF:=aB (fun h=>Va (aaB (m:=N a) (n:=N b) h));have rh:=aB (fun h=>acD (aaB (m:=N b) (n:=N a) h));have Me:=aB (fun hl hp=>alO (ak8 (m:=N a) (n:=N b) hl hp));have E0:=aB (fun k h1 h2 hl hp h=>Va (m:=N a) (n:=N b) (by have:=aaC (B (N a)) (B (N b)) k h1 h2 hl hp h;rwa [bQ,bQ] at this));have HL5:=aB (fun k h1 h2 hl hp h=>acD (m:=N a) (n:=N b) (by have:=aaC (B (N b)) (B (N a)) k h1 h2 hl hp h;rwa [bQ,bQ] at this));generalize jq (N a) (N b)=r at *;generalize B (N a)=x at *;generalize B (N b)=y at *;go_enter Tryz.func171,Tryz.ntmps171;go_wp2_with fail
 refine(qY.o).ae ?_;rintro e w1 ⟨rfl,hw⟩;subst hw;go_wp2_with fail
 refine(dB.o).ae ?_;rintro e w1 ⟨rfl,hw⟩;subst hw;clear qY dB;rcases (show x.size<y.size∨y.size<x.size∨x.size=y.size by omega) with hs |hs |hs
 ·go_wp2;go_ret;exact⟨by rw[BF.o hs];rfl,au _ _⟩
 ·go_wp2;go_ret;exact⟨by rw[rh.o hs];rfl,au _ _⟩
 ·clear BF rh;go_wp2;go_loopw [5] (fun i wr=>∃k:Nat,k<=x.size/\i=.int .i64 k/\Hid (x.data.toList.take k=y.data.toList.take k)/\Below w1.heap.size w1 wr) (fun i _=>x.size - (intOf i).toNat)
  case atStart=>exact⟨0,aU _,rfl,rfl,au _ _⟩
  case round=>
   obtain⟨k,hk,rfl,HP,cE⟩:=hrel;by_cases hlt:k<x.size
   ·have tR:k<y.size:=by omega
    rcases (show x[k].toNat<y[k].toNat∨y[k].toNat<x[k].toNat∨x[k].toNat=y[k].toNat by omega) with hc |hc |hc
    ·have HF:=aB (E0.o k hlt tR hs HP.o hc);go_wp2_with fail
     go_quiet (fail)
     go_wp2;go_ret;exact⟨by rw[HF.o];rfl,Pu cE _⟩
    ·have HF:=aB (HL5.o k tR hlt hs.symm HP.o.symm hc);go_wp2_with fail
     go_quiet (fail)
     go_wp2_with fail
     go_quiet (fail)
     go_wp2;go_ret;exact⟨by rw[HF.o];rfl,Pu (Pu cE _) _⟩
    ·have HS:Hid (x.data.toList.take (k+1)=y.data.toList.take (k+1)):=by
      show _=_;rw[Jw x k hlt,Jw y k tR,HP.o,MH.1 hc]
     go_wp2_with fail
     go_quiet (fail)
     go_wp2_with fail
     go_quiet (fail)
     go_wp2;go_roundw
     case rel=>exact⟨k+1,by omega,by go_num,HS.o,Pu cE _⟩
     case measure=>simp[intOf];omega
   ·obtain rfl:k=x.size:=by omega
    have HF:=aB (Me.o hs HP.o);go_wp2;go_ret;exact⟨by rw[HF.o];rfl,cE⟩
theorem aeL {y:Nat} {p:List Nat} (hk:k<p.length) (h0:p[k]?.getD 0=0) (h:nd p+D % 256^k=A % 256^k+c*256^k) (c':Nat) (hy:A/256^k % 256+c'*256=y+D/256^k % 256+c):
  nd (p.set k y)+D % 256^(k+1)=A % 256^(k+1)+c'*256^(k+1):=by
 have s:=NV p k y hk;have H3:p[k]=0:=by rwa [af hk] at h0
 rw[H3,jw,fH] at s;rw[s,Hd,Hd A,jc];have e:=bR (fun z=>z*256^k) hy;simp only[fW] at e;have e1:c'*256*256^k=c'*(256^k*256):=by rw[il,abr 256]
 rw[e1] at e;rw[abr (256^k) (D/256^k % 256),abr (256^k) (A/256^k % 256)];omega
theorem alN (h:n<=m):0<=jq m n:=by
 rw[jq,aaO (by omega)];split<;>decide
theorem aeM {p:List Nat} (hA:A<256^n) (hD:D<=A) (hp:nd p<256^n) (h:nd p+D % 256^n=A % 256^n+c*256^n):nd p=A - D:=by
 rw[jM hA,jM (by omega)] at h
 have hc:c=0:=by
  rcases zY c with h0 |h0
  ·exact h0
  ·have:1*256^n<=c*256^n:=jK _ h0;omega
 rw[hc] at h;omega
theorem adV (a b:ByteArray) (w:World) (ha:a.size<=1000000) (hb:b.size<=1000000) (h:N a<N b):
  Calls Tryz.prog 122 #[.string a,.string b] w fun e w'=>e=.returned (.tuple #[.string ⟨#[]⟩,.bool false])/\Below w.heap.size w w':=by
 have hc:=Zb a b w ha hb;rw[Va h] at hc;have HC:=aB hc;clear hc h;go_enter Tryz.func122,Tryz.ntmps122;go_wp2_with fail
 refine(HC.o).ae ?_;rintro e w1 ⟨rfl,hb1⟩;go_wp2;go_ret2;exact⟨rfl,hb1⟩
theorem RH (a b:ByteArray) (w:World) (ha:a.size<=1000000) (hb:b.size<=1000000) (h:N b<=N a):
  Calls Tryz.prog 122 #[.string a,.string b] w fun e w'=>e=.returned (.tuple #[.string (B (N a - N b)),.bool true])/\Below w.heap.size w w':=by
 obtain⟨i0,hi,hz0,hz1,hz2⟩:=eT Tryz.infoInt;have hc:=Zb a b w ha hb;have hcr:∃r:Int,jq (N a) (N b)=r/\0<=r:=⟨_,rfl,alN h⟩;obtain⟨r,hcr,hr⟩:=hcr;rw[hcr] at hc;have HC:=aB hc;have HT:=aB (fun V=>ow b V (by omega));have sb:=aS (ju b) hb;have FY:=aB (Dm a);have zH:=aB h;have IV:=aB (fun (k:Nat) (V:World) (h:k<=9223372036854775807)=>H7 a k V (by omega) h);have KA:=fun (k:Nat) (V:World) (h:k<=9223372036854775807)=>H7 (B (N b)) k V (by omega) h;rw[bQ] at KA;have IU:=aB KA;clear hc hcr KA h;generalize B (N b)=y' at *;generalize hA:N a=A at *;generalize hD:N b=D at *;clear hA hD;generalize hn:a.size=n at *;go_enter Tryz.func122,Tryz.ntmps122;go_wp2_with fail
 refine(HC.o).ae ?_;rintro e w1 ⟨rfl,hb1⟩;clear HC;go_wp2_with fail
 refine(HT.o _).ae ?_;rintro e w9 ⟨rfl,hw9⟩;subst hw9;clear HT
 go_wp2_with (first
  |(at_make;refine mL _ rfl _ _ 27 rfl w9.heap.size 3 i0 (.int .i64 0) 1 Tryz.underlying27 hi hz0 hz1 .i64 .i64 _ _ n rfl rfl (by go_num) (by go_num) (by rw[hz2];omega) (by unfold maxLen;omega) (ar _) ?_;intro w2 hown2 hgrow2))
 have hb2:=pC hown2;rw[AB] at hb2;have hB2:Below w9.heap.size w9 w2:=(au _ w9).grown hgrow2 (ar _) (fun k e=>by cases e);have HI:Hid (bV w2 w9.heap.size (List.replicate n 0)):=hb2;clear hown2 hgrow2 hb2
 go_loopw [8,9] (fun cv iv wr=>∃(k c:Nat) (p:List Nat),k<=n/\iv=.int .i64 k/\cv=.int .i64 c/\c<=1/\p.length=n/\Hid (rk p)/\Hid (∀j,k<=j ->p[j]?.getD 0=0)/\Hid (nd p+D % 256^k=A % 256^k+c*256^k)/\Hid (bV wr w9.heap.size p)/\Below w9.heap.size w9 wr)
  (fun _ i _=>n - (intOf i).toNat)
 case atStart=>exact⟨0,0,List.replicate n 0,aU _,rfl,rfl,aU _,by simp,U4 _,(fun j _=>by rw[QO];split<;>rfl),(show _=_ by rw[Sy];simp[Nat.mod_one]),HI,hB2⟩
 case round=>
  obtain⟨k,c,p,hk,rfl,rfl,hc,hpl,rj,HZ,HE,HR,cE⟩:=hrel;clear HI hB2;by_cases hlt:k<n
  ·have Kp:k<p.length:=by omega
   have hstep:=aB (fun y c'=>aeL (y:=y) Kp (HZ.o k (ar _)) HE.o c');have HX:=aB (fun V=>IV.o k V (by omega));have HY:=aB (fun V=>IU.o k V (by omega));have hx:A/256^k % 256<256:=jL _ (by decide);have hy:D/256^k % 256<256:=jL _ (by decide);generalize A/256^k % 256=x at *;generalize D/256^k % 256=y at *;have hcell:=HR.o.cell k Kp;have hfz:=HR.o.fz k;have cO:=aB (fun z=>HR.o.set k z);generalize p[k]=pk at *;clear HE;by_cases Tv:(x:Int) - y - c<0
   ·go_wp2_with (first
     |(have hdone:=hx1;go_at_call 118;refine(HY.o _).ae ?_;rintro e w3 ⟨rfl,hw3⟩;subst hw3)
     |(go_at_call 118;refine(HX.o _).ae ?_;rintro e w3 ⟨rfl,hw3⟩;subst hw3;have hx1:True:=trivial))
    have hv:Value.int .i64 ((x:Int) - (y:Int) - (c:Int)+256)=.int .i64 ((x+256 - y - c:Nat):Int):=int_eq (by omega);rw[hv];go_roundw
    case rel=>exact⟨k+1,1,p.set k (x+256 - y - c),by omega,by go_num,rfl,by omega,by rw[rU];exact hpl,Le rj.o _ _ (by omega),Rx HZ.o,hstep.o _ 1 (by omega),cO.o _,cE.setCell (ar _) _⟩
    case measure=>simp[intOf];omega
   ·go_wp2_with (first
     |(have hdone:=hx1;go_at_call 118;refine(HY.o _).ae ?_;rintro e w3 ⟨rfl,hw3⟩;subst hw3)
     |(go_at_call 118;refine(HX.o _).ae ?_;rintro e w3 ⟨rfl,hw3⟩;subst hw3;have hx1:True:=trivial))
    have hv:Value.int .i64 ((x:Int) - (y:Int) - (c:Int))=.int .i64 ((x - y - c:Nat):Int):=int_eq (by omega);rw[hv];go_roundw
    case rel=>exact⟨k+1,0,p.set k (x - y - c),by omega,by go_num,rfl,by omega,by rw[rU];exact hpl,Le rj.o _ _ (by omega),Rx HZ.o,hstep.o _ 0 (by omega),cO.o _,cE.setCell (ar _) _⟩
    case measure=>simp[intOf];omega
  ·obtain rfl:k=n:=by omega
   have jn:=R9 w9.heap.size p wr rj.o (by omega) HR.o;have Hm:=ahN p rj.o;rw[hpl] at Hm;rw[hpl,aeM FY.o zH.o Hm HE.o] at jn;have LV:=aB jn;clear jn Hm;go_wp2_with (go_at_call 119;refine(LV.o).ae ?_;rintro e w3 ⟨rfl,hb3⟩)
   go_ret2;exact⟨rfl,(hb1.trans (cE.ae hb1.size)).trans (hb3.ae (hb1.trans (cE.ae hb1.size)).size)⟩
theorem JH (n:Int) (w:World) (h0: -9223372036854775808<=n) (h1:n<=9223372036854775807):
  Calls Tryz.prog 62 #[.int .i64 n] w fun e w'=>e=.returned (.string (B n.toNat))/\Below w.heap.size w w':=by
 go_enter Tryz.func62,Tryz.ntmps62;go_wp2;go_loopw [0,3] (fun v a wr=>∃(z:Int) (s:ByteArray),v=.int .i64 z/\a=.string s/\ -9223372036854775808<=z/\z<=9223372036854775807/\Hid (bn z.toNat++s.data.toList=bn n.toNat)/\Below w.heap.size w wr) (fun v _ _=>(intOf v).toNat)
 case atStart=>exact⟨n,⟨#[]⟩,rfl,rfl,h0,h1,(show _=_ by simp),au _ _⟩
 case round=>
  obtain⟨z,s,rfl,rfl,hz0,hz1,HS,cE⟩:=hrel;by_cases hz:0<z
  ·have E4:=I5 (P:=Tryz.prog) (wr.alloc (.cells #[.int .u8 (z % 256)] 5)) 152 5 Tryz.underlying152 Tryz.underlying5 wr.heap.size 0 1 1 [z % 256] rfl (fun i hi=>by
    (obtain rfl:i=0:=by omega);rw[cC _ wr.heap.size (0+0) _ _ (0,0) (kd _ _)];rfl) 30 Tryz.underlying30
   have iR:Hid (bn (z/256).toNat++(strOfNums [z % 256]++s).data.toList=bn n.toNat):=by
    show _=_;rw[<- HS.o,qm z.toNat (by omega),ByteArray.data_append,Array.toList_append,I4,show (z/256).toNat=z.toNat/256 by omega,rW];(have:UInt8.ofNat (z % 256).toNat=UInt8.ofNat (z.toNat % 256):=by congr 1;omega);simp[this]
   have CE:s.size<=8:=by
    have e:=bR List.length HS.o;rw[dM,vI] at e;have:=qT 8 n.toNat (by show n.toNat<18446744073709551616;omega);omega
   have hs1:(strOfNums [z % 256]).size=1:=strOfNums_size _;go_wp2;go_roundw
   case rel=>exact⟨z/256,strOfNums [z % 256]++s,rfl,rfl,by omega,by omega,iR.o,cE.alloc cE.size _⟩
   case measure=>simp[intOf];omega
  ·have HE:Hid (s=B n.toNat):=by
    show s=_;have:=HS.o;rw[show z.toNat=0 by omega,qj,iD] at this;apply apu;apply apv.1;rw[this,B]
   go_wp2;go_ret;exact⟨by rw[<- HE.o];rfl,cE⟩
theorem ahP (l:List UInt8) (k:Nat):nb (l.take k)<=nb l:=by
 conv=>rhs;rw[<- zZ k l,Cx]
 have:nb (l.take k)*1<=nb (l.take k)*256^(l.drop k).length:=kZ _ (tB (by decide));omega
theorem aai (s:ByteArray) (k:Nat) (h:k<s.size):nb (s.data.toList.take (k+1))=nb (s.data.toList.take k)*256+s[k].toNat:=by
 rw[Jw s k h,yF]
theorem aaj (s:ByteArray):nb (s.data.toList.take s.size)=N s:=by
 rw[jd (by rw[vI];exact ar _),N]
theorem GU (s:ByteArray) (w:World) (hs:s.size<=7):
  Calls Tryz.prog 120 #[.string s] w fun e w'=>e=.returned (.tuple #[.int .i64 (N s:Nat),.bool true])/\w'=w:=by
 have hN:N s<72057594037927936:=aR (Dm s) (lW (by decide) hs);have HA:=aB (aaj s);go_enter Tryz.func120,Tryz.ntmps120;go_wp2;go_loop [4,5] (fun v i=>∃k:Nat,k<=s.size/\i=.int .i64 k/\v=.int .i64 (nb (s.data.toList.take k):Nat)) (fun _ i=>s.size - (intOf i).toNat)
 case atStart=>exact⟨0,aU _,rfl,rfl⟩
 case round=>
  obtain⟨k,hk,rfl,rfl⟩:=hrel;by_cases hlt:k<s.size
  ·have hwr:=Xp _ s[k].toNat_lt;have hst:=aai s k hlt;have hle:=ahP s.data.toList (k+1);rw[hst] at hle;have an9:nb (s.data.toList.take k)*256+s[k].toNat<72057594037927936:=QH hle hN;have HST:=aB hst;clear hst hle hN;generalize nb (s.data.toList.take k)=m at *;go_wp2;go_round
   case rel=>exact⟨k+1,by omega,by go_num,by rw[HST.o];exact int_eq (by omega)⟩
   case measure=>simp[intOf];omega
  ·obtain rfl:k=s.size:=by omega
   rw[HA.o];go_wp2;go_ret2;exact⟨rfl,rfl⟩
theorem Yz (s:ByteArray) (w:World) (h1:7<s.size) (hs:s.size<=1000000):
  Calls Tryz.prog 120 #[.string s] w fun e w'=>e=.returned (.tuple #[.int .i64 0,.bool false])/\w'=w:=by
 go_enter Tryz.func120,Tryz.ntmps120;go_wp2;go_ret2;exact⟨rfl,rfl⟩
theorem Yw (m:Nat) (h:(B m).size<=7):m<72057594037927936:=aR (Gf m) (lW (by decide) h)
theorem ah6 {M x y:Nat} {p:List Nat} (hk:k+m<p.length) (h:nd p+c*256^(k+m)=M+x*256^k*(D % 256^m)) (hy:D/256^m % 256=y):
  nd (p.set (k+m) ((c+p[k+m]+x*y) % 256))+(c+p[k+m]+x*y)/256*256^(k+(m+1))=M+x*256^k*(D % 256^(m+1)):=by
 have s:=NV p (k+m) ((c+p[k+m]+x*y) % 256) hk;have t:=acK (c+p[k+m]+x*y) (256^(k+m));have e:(c+p[k+m]+x*y)*256^(k+m)=c*256^(k+m)+p[k+m]*256^(k+m)+x*y*256^(k+m):=by rw[fW,fW]
 have f:x*256^k*(D % 256^(m+1))=x*256^k*(D % 256^m)+x*y*256^(k+m):=by
  rw[Hd,hy,mO,Cb];congr 1
  rw[il,il,abr y,il]
 rw[f,show k+(m+1)=k+m+1 by omega,jc];omega
theorem ahO (l:List Nat):∀(j:Nat) (h:j<l.length),l[j]*256^j<=nd l:=by
 induction l with
 |nil=>intro j h;exact absurd h (Cc _)
 |cons x r ih=>
  intro j h;cases j with
  |zero=>simp only[List.getElem_cons_zero,apd,mN,Eu];omega
  |succ j=>
   (have hj:j<r.length:=by simpa using h);have:=ih j hj;rw[apU,Eu,jc, <- il];omega
theorem ah7 {lb x:Nat} {p:List Nat} (hk:k+lb<p.length) (hD:D<256^lb) (hx:A/256^k % 256=x) (h:nd p+c*256^(k+lb)=A % 256^k*D+x*256^k*(D % 256^lb)):
  nd (p.set (k+lb) (p[k+lb]+c))=A % 256^(k+1)*D/\p[k+lb]+c<256:=by
 have s:=NV p (k+lb) (p[k+lb]+c) hk;rw[jM hD] at h;have f:A % 256^(k+1)*D=A % 256^k*D+x*256^k*D:=by rw[Hd,hx,fW,abr (256^k) x]
 have e:(p[k+lb]+c)*256^(k+lb)=p[k+lb]*256^(k+lb)+c*256^(k+lb):=fW _ _ _;have hn:nd (p.set (k+lb) (p[k+lb]+c))=A % 256^(k+1)*D:=by rw[f];omega
 refine⟨hn,?_⟩;have g:=ahO (p.set (k+lb) (p[k+lb]+c)) (k+lb) (by rw[rU];exact hk);rw[hn,List.getElem_set_self] at g;have hb:A % 256^(k+1)*D<256^(k+1)*256^lb:=I9 (jL _ (tB (by decide))) hD;rcases cD (p[k+lb]+c) 256 with h1 |h1
 ·exact h1
 ·have h2:256*256^(k+lb)<=(p[k+lb]+c)*256^(k+lb):=jK _ h1;have h3:256^(k+1)*256^lb=256*256^(k+lb):=by rw[<- Cb, <- Nat.pow_succ',show k+1+lb=k+lb+1 by omega]
  omega
theorem afY (a b:ByteArray) (w:World) (ha:a.size<=1000000) (hb:b.size<=1000000):
  Calls Tryz.prog 69 #[.string a,.string b] w fun e w'=>e=.returned (.string (B (N a*N b)))/\Below w.heap.size w w':=by
 obtain⟨i0,hi,hz0,hz1,hz2⟩:=eT Tryz.infoInt;have qY:=aB (ow a w (by omega));have dB:=aB (ow b w (by omega));have sa:=aS (ju a) ha;have sb:=aS (ju b) hb;have DC:N (B (N a))=N a:=bQ _;have Dz:N (B (N b))=N b:=bQ _;generalize B (N a)=x at *;generalize B (N b)=y at *;have FY:=aB (Dm x);have DJ:=aB (Dm y);have IV:=aB (fun (k:Nat) (V:World) (h:k<=9223372036854775807)=>H7 x k V (by omega) h);have IU:=aB (fun (k:Nat) (V:World) (h:k<=9223372036854775807)=>H7 y k V (by omega) h);have HSA:=aB (fun (h:x.size<=7) (V:World)=>GU x V h);have zz:=aB (fun (h:y.size<=7) (V:World)=>GU y V h);rw[DC] at FY IV HSA;rw[Dz] at DJ IU zz;clear DC Dz;generalize hA:N a=A at *;generalize hD:N b=D at *;clear hA hD ha hb;go_enter Tryz.func69,Tryz.ntmps69;go_wp2_with fail
 refine(qY.o).ae ?_;rintro e w1 ⟨rfl,hw⟩;subst hw;go_wp2_with fail
 refine(dB.o).ae ?_;rintro e w1 ⟨rfl,hw⟩;subst hw;clear qY dB;by_cases hsm:x.size+y.size<=7
 ·have hp:A*D<72057594037927936:=by
   have h1:A*D<256^x.size*256^y.size:=I9 FY.o DJ.o;rw[<- Cb] at h1;exact aR h1 (lW (by decide) hsm)
  have vr:(0:Int)<=(A:Int)*(D:Int):=Int.mul_nonneg (by omega) (by omega)
  have CJ:(A:Int)*(D:Int)<72057594037927936:=by
   (have h2:((A*D:Nat):Int)<72057594037927936:=by omega);rwa [iH] at h2
  have HO:=aB (fun V=>JH ((A:Int)*(D:Int)) V (by omega) (by omega));have Mr:((A:Int)*(D:Int)).toNat=A*D:=by rw[<- iH,pT]
  rw[Mr] at HO;have ano:=aB (fun V=>HSA.o (by omega) V);have ann:=aB (fun V=>zz.o (by omega) V);have zD:=aB vr;have lS:=aB CJ;have hsi:(x.size:Int)+(y.size:Int)<=7:=by omega
  clear HSA zz Mr hp vr CJ hsm;go_wp2_with fail
  refine(ano.o _).ae ?_;rintro e w2 ⟨rfl,hw⟩;subst hw;go_wp2_with fail
  refine(ann.o _).ae ?_;rintro e w2 ⟨rfl,hw⟩;subst hw
  have hwr:IntKind.i64.wrap ((A:Int)*(D:Int))=(A:Int)*(D:Int):=by
   have h1:=zD.o;have h2:=lS.o;rw[eo];omega
  have anZ:wrap64 ((A:Int)*(D:Int))=(A:Int)*(D:Int):=by
   have h1:=zD.o;have h2:=lS.o;rw[wrap64];omega
  clear zD lS;go_wp2_with fail
  refine(HO.o _).ae ?_;rintro e w3 ⟨rfl,hb3⟩;go_wp2;go_ret;exact⟨rfl,hb3⟩
 ·clear HSA zz
  go_wp2_with (first
   |(at_make;refine mL _ rfl _ _ 27 rfl w1.heap.size 3 i0 (.int .i64 0) 1 Tryz.underlying27 hi hz0 hz1 .i64 .i64 _ _ (x.size+y.size+1) rfl rfl (by go_num) (by go_num) (by rw[hz2];omega) (by unfold maxLen;omega) (ar _) ?_;intro w2 hown2 hgrow2))
  have hb2:=pC hown2;rw[AB] at hb2;have hB2:Below w1.heap.size w1 w2:=(au _ w1).grown hgrow2 (ar _) (fun k e=>by cases e);have HI:Hid (bV w2 w1.heap.size (List.replicate (x.size+y.size+1) 0)):=hb2;clear hown2 hgrow2 hb2
  go_loopw [10] (fun iv wr=>∃(k:Nat) (p:List Nat),k<=x.size/\iv=.int .i64 k/\p.length=x.size+y.size+1/\Hid (rk p)/\Hid (nd p=A % 256^k*D)/\Hid (bV wr w1.heap.size p)/\Below w1.heap.size w1 wr)
   (fun i _=>x.size - (intOf i).toNat)
  case atStart=>exact⟨0,List.replicate (x.size+y.size+1) 0,aU _,rfl,by simp,U4 _,(show _=_ by rw[Sy];simp[Nat.mod_one]),HI,hB2⟩
  case round=>
   obtain⟨k,p,hk,rfl,hpl,rj,HE,HR,cE⟩:=hrel;clear HI hB2;obtain⟨wo,hwo⟩:∃wo:World,wo=wr:=⟨_,rfl⟩;by_cases hlt:k<x.size
   ·have HX:=aB (fun V=>IV.o k V (by omega));have hx:A/256^k % 256<256:=jL _ (by decide);have hrow:=aB (fun (c:Nat) (q:List Nat) (hq:k+y.size<q.length)=>ah7 (A:=A) (D:=D) (k:=k) (lb:=y.size) (c:=c) (p:=q) hq DJ.o rfl);generalize A/256^k % 256=xd at *;go_wp2_with (go_at_call 118;refine(HX.o _).ae ?_;rintro e w3 ⟨rfl,hw3⟩;subst hw3)
    go_loopw [12,13] (fun cv jv wr=>∃(m c:Nat) (q:List Nat),m<=y.size/\jv=.int .i64 m/\cv=.int .i64 c/\c<=255/\q.length=x.size+y.size+1/\Hid (rk q)/\Hid (nd q+c*256^(k+m)=A % 256^k*D+xd*256^k*(D % 256^m))/\Hid (bV wr w1.heap.size q)/\Below w1.heap.size w1 wr)
     (fun _ j _=>y.size - (intOf j).toNat)
    case atStart=>
     refine⟨0,0,p,aU _,rfl,rfl,aU _,hpl,rj.o,?_,HR,cE⟩;show _=_;rw[HE.o];simp[Nat.mod_one]
    case round=>
     obtain⟨m,c,q,hm,rfl,rfl,hc,dN,WL,HEq,Iy,iN⟩:=hrel;clear HR cE rj HE;by_cases Tt:m<y.size
     ·have gi:k+m<q.length:=by omega
      have HY:=aB (fun V=>IU.o m V (by omega));have Ge:D/256^m % 256<256:=jL _ (by decide);have hstep:=ah6 (y:=D/256^m % 256) gi HEq.o rfl;have hcell:=Iy.o.cell (k+m) gi;have hqd:=WL.o q[k+m] (bH gi);have hfz:=Iy.o.fz (k+m);have cO:=aB (fun z=>Iy.o.set (k+m) z);generalize D/256^m % 256=yd at *;generalize q[k+m]=qk at *;have HST:=aB hstep;have zj:xd*yd<=255*255:=iW (by omega) (by omega);have aji:(0:Int)<=(xd:Int)*(yd:Int):=Int.mul_nonneg (by omega) (by omega)
      have ajh:(xd:Int)*(yd:Int)<=65025:=by
       (have h2:((xd*yd:Nat):Int)<=65025:=by omega);rwa [iH] at h2
      clear hstep HEq;go_wp2_with (go_at_call 118;refine(HY.o _).ae ?_;rintro e w3 ⟨rfl,hw3⟩;subst hw3)
      have wG:(xd:Int)*(yd:Int)=((xd*yd:Nat):Int):=(iH _ _).symm;rw[wG];clear aji ajh wG;generalize xd*yd=t at *;have hv:Value.int .i64 (((c:Int)+(qk:Int)+(t:Int)) % 256)=.int .i64 (((c+qk+t) % 256:Nat):Int):=int_eq (by omega);have hv2:Value.int .i64 (((c:Int)+(qk:Int)+(t:Int))/256)=.int .i64 (((c+qk+t)/256:Nat):Int):=int_eq (by omega);rw[hv,hv2];go_roundw
      case rel=>exact⟨m+1,(c+qk+t)/256,q.set (k+m) ((c+qk+t) % 256),by omega,by go_num,rfl,by omega,by rw[rU];exact dN,Le WL.o _ _ (jL _ (by decide)),HST.o,cO.o _,iN.setCell (ar _) _⟩
      case measure=>simp[intOf];omega
     ·obtain rfl:m=y.size:=by omega
      (have gi:k+y.size<q.length:=by omega);obtain⟨eA,Oi⟩:=hrow.o c q gi HEq.o;have hcell:=Iy.o.cell (k+y.size) gi;have hfz:=Iy.o.fz (k+y.size);have cO:=aB (fun z=>Iy.o.set (k+y.size) z);generalize q[k+y.size]=qk at *;have HFN:=aB eA;clear eA HEq;go_wp2;have hv:Value.int .i64 ((qk:Int)+(c:Int))=.int .i64 ((qk+c:Nat):Int):=int_eq (by omega);rw[hv];go_roundw
      case rel=>exact⟨k+1,q.set (k+y.size) (qk+c),by omega,by go_num,by rw[rU];exact dN,Le WL.o _ _ Oi,HFN.o,cO.o _,iN.setCell (ar _) _⟩
      case measure=>simp[intOf];omega
   ·obtain rfl:k=x.size:=by omega
    have jn:=R9 w1.heap.size p wr rj.o (by omega) HR.o;rw[hpl,HE.o,jM FY.o] at jn;have LV:=aB jn;clear jn;go_wp2_with (go_at_call 119;refine(LV.o).ae ?_;rintro e w3 ⟨rfl,hb3⟩)
    go_ret;exact⟨rfl,cE.trans (hb3.ae cE.size)⟩
variable {d:Nat}
def bv (d:Nat):Value:=.int .u8 (d:Int)
def Ig (w:World) (base:Nat) (v:Value) (l:List Nat):Prop:=w.ownsRow base 5 1 v l.length (l.map bv)
def qn (l:List Nat):Nat:=l.foldl (fun n d=>n*256+d) 0
theorem Zg (l:List Nat) (d:Nat):qn (l++[d])=qn l*256+d:=by simp[qn]
theorem als {l:List Nat} (h:rk l) (hd:d<256):rk (l++[d]):=fun x hx=>by
 rcases aa5.1 hx with h1 |h1
 ·exact h x h1
 ·simp at h1;omega
theorem am6 (l:List Nat):rk l ->N (strOfNums (l.map Int.ofNat))=qn l:=by
 induction l using GQ with
 |h0=>intro _;rfl
 |h1 l d ih=>
  intro h;have h1:=ih fun x hx=>h x (QM _ hx);have h2:=h d (aoH _ (fX.2 rfl));rw[N,I4] at h1⊢;rw[fY,fY,gQ,ld,gQ,ld,yF,h1,Zg];have:(UInt8.ofNat (Int.ofNat d).toNat).toNat=d:=by simp;omega
  rw[this]
theorem alo {P:Nat} (hD:0<D):(P*256+c)/D=P/D*256+(P % D*256+c)/D/\(P*256+c) % D=(P % D*256+c) % D:=by
 have e:P*256+c=P % D*256+c+P/D*256*D:=by
  have:=Nat.div_add_mod P D;have f:P/D*256*D=D*(P/D)*256:=by rw[Nat.mul_right_comm,abr (P/D) D]
  omega
 rw[e,QK _ _ hD,QJ];exact⟨Cf _ _,rfl⟩
theorem am8 (s x:ByteArray) (k:Nat) (h:k<x.size):N (s++x.extract k (k+1))=N s*256+x[k].toNat:=by
 have e:(x.extract k (k+1)).data.toList=[x[k]]:=by
  rw[ByteArray.data_extract,Array.toList_extract,List.extract_eq_take_drop,show k+1 - k=1 by omega,mS (by rw[vI];exact h)];rfl
 rw[N,ByteArray.data_append,Array.toList_append,e,yF];rfl
theorem ahv (x:ByteArray) (k:Nat) (h:k<x.size):(x.extract k (k+1)).size=1:=by
 rw[ByteArray.size_extract];omega
theorem af9 (a b:ByteArray) (w:World) (ha:a.size<=1000000) (hb:b.size<=1000000) (h:N b≠0) (h1:(B (N a)).size<=7) (h2:(B (N b)).size<=7):
  Calls Tryz.prog 117 #[.string a,.string b] w fun e w'=>e=.returned (.tuple #[.string (B (N a/N b)),.string (B (N a % N b)),.bool true])/\Below w.heap.size w w':=by
 have qY:=aB (ow a w (by omega));have dB:=aB (ow b w (by omega));have DC:N (B (N a))=N a:=bQ _;have Dz:N (B (N b))=N b:=bQ _;have hne:=Gg h;have hA:=Yw _ h1;have hD:=Yw _ h2;generalize B (N a)=x at *;generalize B (N b)=y at *;have HSA:=aB (fun (V:World)=>GU x V h1);have zz:=aB (fun (V:World)=>GU y V h2);rw[DC] at HSA;rw[Dz] at zz;clear DC Dz;generalize hA':N a=A at *;generalize Da:N b=D at *;clear hA' Da ha hb h1 h2
 have pj:(A:Int)/(D:Int)<=A:=by
  rw[<- tC];have:=wh A D;omega
 have kK:0<=(A:Int)/(D:Int):=Int.ediv_nonneg (by omega) (by omega)
 have hr1:(A:Int) % (D:Int)<=A:=by
  rw[<- Af];have:=Nat.mod_le A D;omega
 have Kf:0<=(A:Int) % (D:Int):=Int.emod_nonneg _ (by omega);have hq:=fun V=>JH ((A:Int)/(D:Int)) V (by omega) (by omega);have hr:=fun V=>JH ((A:Int) % (D:Int)) V (by omega) (by omega);rw[<- tC,pT,tC] at hq;rw[<- Af,pT,Af] at hr;have HQ:=aB hq;have HR:=aB hr;clear hq hr;have OU:0<D:=lX h;go_enter Tryz.func117,Tryz.ntmps117;go_wp2_with fail
 refine(qY.o).ae ?_;rintro e w1 ⟨rfl,hw⟩;subst hw;go_wp2_with fail
 refine(dB.o).ae ?_;rintro e w1 ⟨rfl,hw⟩;subst hw;go_wp2_with fail
 refine(HSA.o _).ae ?_;rintro e w2 ⟨rfl,hw⟩;subst hw;go_wp2_with fail
 refine(zz.o _).ae ?_;rintro e w2 ⟨rfl,hw⟩;subst hw;go_upto_region 8 with fail
 have hz:¬(D:Int)=0:=by omega
 have hw1:IntKind.i64.wrap ((A:Int)/(D:Int))=(A:Int)/(D:Int):=by rw[eo];omega
 have hw2:IntKind.i64.wrap ((A:Int) % (D:Int))=(A:Int) % (D:Int):=by rw[eo];omega
 have hB0:=(au w2.heap.size w2).drew
 go_region_held3 (fun V=>Hid (Below w2.heap.size w2 V))
  (first |exact dY |exact bU |exact hB0)
  (first
   |(have abE:=bU;go_at_call 62;refine(HR.o _).ae ?_;rintro e w4 ⟨rfl,hb4⟩;have dY:=abE.trans (hb4.ae abE.size))
   |(go_at_call 62;refine(HQ.o _).ae ?_;rintro e w3 ⟨rfl,hb3⟩;have bU:=hB0.trans (hb3.ae hB0.size)))
 go_wp2;go_ret3
 exact⟨rfl,dY⟩
theorem Ig.cases {base:Nat} {v:Value} {l:List Nat} (h:Ig w base v l):(v=.slice none 0 0/\l=[])∨∃g cap,v=.slice (some ⟨g,0,none⟩) l.length cap/\∀j,j<l.length ->w.cell? ⟨g,j,none⟩=some (.int .u8 (l[j]?.getD 0:Nat)):=by
 rcases h.2 with ⟨hv,hn⟩ |⟨g,cap,cur,hv,r⟩
 ·exact .inl ⟨hv,Xj hn⟩
 ·subst hv;refine .inr ⟨g,cap,rfl,fun j hj=>?_⟩;rw[World.ownsRow.cellAt h j (by omega),oh,af hj];rfl
theorem acu {R:Nat} {y:ByteArray} (hy:N y=D) (hR:R<256*D) (hs:y.size<=500000) (d:Nat):(B (R - d*D)).size<=1000000:=by
 have h1:=kj (aS (Nat.sub_le R (d*D)) (uH hR));have h2:=ac7 256 D;have h3:=ju y;rw[hy] at h3;have h4:(B 256).size<=2:=by rw[mK];exact qT 2 256 (by decide)
 omega
theorem alp {R:Nat} (hD:0<D) (h1:d*D<=R) (h2:¬D<=R - d*D):R/D=d/\R % D=R - d*D:=by
 have e:R=(R - d*D)+d*D:=by omega
 constructor
 ·rw[e,QK _ _ hD,ym (by omega)];omega
 ·conv=>lhs;rw[e]
  rw[QJ,jM (by omega)]
theorem aga (a b:ByteArray) (w:World) (ha:a.size<=500000) (hb:b.size<=500000) (h:N b≠0) (abh:¬((B (N a)).size<=7/\(B (N b)).size<=7)):
  Calls Tryz.prog 117 #[.string a,.string b] w fun e w'=>e=.returned (.tuple #[.string (B (N a/N b)),.string (B (N a % N b)),.bool true])/\Below w.heap.size w w':=by
 obtain⟨i0,hi,hz0,hz1,hz2⟩:=eT Tryz.infoByte;have qY:=aB (ow a w (by omega));have dB:=aB (ow b w (by omega));have DC:N (B (N a))=N a:=bQ _;have Dz:N (B (N b))=N b:=bQ _;have hne:=Gg h;have sa:=aS (ju a) ha;have sb:=aS (ju b) hb;generalize B (N a)=x at *;generalize hy:B (N b)=y at *;have Ij:=aB Dz;have HX:=aB (aaj x);rw[DC] at HX;have OU:0<N b:=lX h;clear DC Dz;have HSA:=aB (fun (V:World)=>if h7:x.size<=7 then Exists.intro (p:=fun r:Value×Value=>r.2=.bool (decide (x.size<=7))/\Calls Tryz.prog 120 #[.string x] V fun e w'=>e=.returned (.tuple #[r.1,r.2])/\w'=V) (.int .i64 (N x:Nat),.bool true) ⟨by simp[h7],GU x V h7⟩ else⟨(.int .i64 0,.bool false),by simp[h7],Yz x V (by omega) (by omega)⟩);have zz:=aB (fun (V:World)=>if h7:y.size<=7 then Exists.intro (p:=fun r:Value×Value=>r.2=.bool (decide (y.size<=7))/\Calls Tryz.prog 120 #[.string y] V fun e w'=>e=.returned (.tuple #[r.1,r.2])/\w'=V) (.int .i64 (N y:Nat),.bool true) ⟨by simp[h7],GU y V h7⟩ else⟨(.int .i64 0,.bool false),by simp[h7],Yz y V (by omega) (by omega)⟩);generalize hA':N a=A at *;generalize Da:N b=D at *;clear hA' Da ha hb hy;go_enter Tryz.func117,Tryz.ntmps117;go_wp2_with fail
 refine(qY.o).ae ?_;rintro e w1 ⟨rfl,hw⟩;subst hw;go_wp2_with fail
 refine(dB.o).ae ?_;rintro e w1 ⟨rfl,hw⟩;subst hw;clear qY dB;obtain⟨⟨p1,p2⟩,tM,Mz⟩:=HSA.o w1;obtain⟨⟨q1,q2⟩,lB,My⟩:=zz.o w1;simp only at tM lB;subst tM lB;have adA:=aB Mz;have adz:=aB My;clear Mz My HSA zz
 have ajQ:(decide (x.size<=7)=false)∨(decide (x.size<=7)=true/\decide (y.size<=7)=false):=by
  by_cases h7:x.size<=7
  ·exact .inr ⟨cJ h7,abg fun h8=>abh ⟨h7,h8⟩⟩
  ·exact .inl (abg h7)
 clear abh;generalize decide (x.size<=7)=t1 at *;generalize decide (y.size<=7)=t2 at *;go_wp2_with fail
 refine(adA.o).ae ?_;rintro e w2 ⟨rfl,hw⟩;subst hw;go_wp2_with fail
 refine(adz.o).ae ?_;rintro e w2 ⟨rfl,hw⟩;subst hw;clear adA adz;rcases ajQ with rfl |⟨rfl,rfl⟩
 all_goals
  go_wp2
  go_loopw [11,12,13] (fun qv rv iv wr=>∃(k:Nat) (ql:List Nat),k<=x.size/\iv=.int .i64 k/\rv=.string (B (nb (x.data.toList.take k) % D))/\ql.length=k/\Hid (rk ql)/\Hid (qn ql=nb (x.data.toList.take k)/D)/\Hid (Ig wr w2.heap.size qv ql)/\Below w2.heap.size w2 wr)
   (fun _ _ i _=>x.size - (intOf i).toNat)
  case atStart=>exact⟨0,[],aU _,rfl,(by rw[List.take_zero,Ev,Nat.zero_mod,DX]),rfl,(fun x hx=>by cases hx),(show _=_ by rw[List.take_zero,Ev,Nat.zero_div];rfl),World.ownsRow_nil _ _ _ _,au _ _⟩
  case round=>
   obtain⟨k,ql,hk,rfl,rfl,dN,rj,HE,HH,cE⟩:=hrel;by_cases hlt:k<x.size
   ·have hsz:=ahv x k hlt;have gh:=am8 (B (nb (x.data.toList.take k) % D)) x k hlt;rw[bQ] at gh;have hst:=aai x k hlt;obtain⟨TJ,TI⟩:=alo (P:=nb (x.data.toList.take k)) (D:=D) (c:=x[k].toNat) OU;rw[<- hst] at TJ TI;have hrl:nb (x.data.toList.take k) % D<D:=jL _ OU;have hcl:=x[k].toNat_lt;have hsr:(B (nb (x.data.toList.take k) % D)).size<=500000:=aS (kj (uH hrl)) (by have:=ju y;rw[Ij.o] at this;omega);(have gA:Hid (nb (x.data.toList.take (k+1))/D=qn ql*256+(nb (x.data.toList.take k) % D*256+x[k].toNat)/D):=by show _=_;rw[TJ,HE.o]);have ur:=aB TI;(have hR:nb (x.data.toList.take k) % D*256+x[k].toNat<256*D:=by omega);clear hst TJ TI HE hcl hrl;generalize nb (x.data.toList.take k) % D*256+x[k].toNat=R at *;generalize B (nb (x.data.toList.take k) % D)=rs at *;(have ajO:(rs++x.extract k (k+1)).size<=1000001:=by rw[ByteArray.size_append,hsz];omega);have HT:=aB (fun V=>ow (rs++x.extract k (k+1)) V (by omega));rw[gh] at HT;clear gh ajO
    have Vb:=aB (fun (d:Nat) (V:World) (h1:d*D<=R) (h2:D<=R - d*D)=>by
     have hs:=RH (B (R - d*D)) y V (acu Ij.o hR sb d) (by omega) (by rw[bQ,Ij.o];exact h2);rw[bQ,Ij.o,show R - d*D - D=R - (d+1)*D by rw[fW,kB];omega] at hs;exact hs)
    have Ir:=aB (fun (d:Nat) (V:World) (h2:¬D<=R - d*D)=>adV (B (R - d*D)) y V (acu Ij.o hR sb d) (by omega) (by rw[bQ,Ij.o];omega));go_wp2_with (go_at_call 116;refine(HT.o _).ae ?_;rintro e w3 ⟨rfl,hw3⟩;subst hw3)
    clear HT;go_loopw [12,14] (fun rv dv wi=>∃d:Nat,d*D<=R/\rv=.string (B (R - d*D))/\dv=.int .i64 d/\Below w3.heap.size w3 wi) (fun _ dv _=>256 - (intOf dv).toNat)
    case atStart=>exact⟨0,by omega,by rw[jw,Nat.sub_zero],rfl,au _ _⟩
    case round=>
     obtain⟨d,hd,rfl,rfl,KZ⟩:=hrel
     have ajK:d<256:=by
      rcases cD d 256 with h1 |h1
      ·exact h1
      ·have:=jK D h1;omega
     by_cases hle:D<=R - d*D
     ·have i7:(d+1)*D<=R:=by rw[fW,kB];omega
      have HC:=aB (fun V=>Vb.o d V hd hle);clear hd hle;go_wp2_with fail
      refine(HC.o _).ae ?_;rintro e w4 ⟨rfl,hb4⟩;go_wp2;go_roundw
      case rel=>exact⟨d+1,i7,rfl,by go_num,KZ.trans (hb4.ae KZ.size)⟩
      case measure=>simp[intOf];omega
     ·have HC:=aB (fun V=>Ir.o d V hle);obtain⟨hq,hr⟩:=alp OU hd hle;(have fp:Hid (qn (ql++[d])=nb (x.data.toList.take (k+1))/D):=by show _=_;rw[Zg,gA.o,hq]);(have iT:Hid (R - d*D=nb (x.data.toList.take (k+1)) % D):=by show _=_;rw[ur.o,hr]);clear hq hr hd hle Vb Ir ur gA;go_wp2_with fail
      refine(HC.o _).ae ?_;rintro e w4 ⟨rfl,hb4⟩;have Wv:Ig w4 w2.heap.size _ ql:=NG (NG HH.o KZ (ar _)) hb4 (ar _);have dY:=(cE.trans (KZ.ae cE.size)).trans (hb4.ae (cE.trans (KZ.ae cE.size)).size);have eM:=dY.size;rw[iT.o];clear iT HC;go_wp2_with (at_builtin;refine Qz _ rfl _ _ 152 rfl w2.heap.size 5 i0 (.int .u8 0) 1 1 Tryz.underlying152 hi hz0 hz1 hz2 rfl (by decide) _ _ _ rfl (I7 Wv _) ⟨w4.heap.size,0,none⟩ 1 1 [.int .u8 (d:Nat)] rfl rfl (cell_one_new _ _ _) (by simp[Value.oneCell']) (by unfold maxLen;omega) (by omega) (by simp;omega) ?_;intro v' w5 Oo OA _)
      have qP:Below w2.heap.size w2 w5:=(dY.alloc dY.size _).grown OA (by simp;omega) (fun k hk=>(World.ownsRow.lt Wv k hk).1);go_wp2;go_roundw
      case rel=>
       refine⟨k+1,ql++[d],by omega,by go_num,rfl,by rw[dM,dN];rfl,als rj.o ajK,fp.o,?_,qP⟩;(have e:(ql++[d]).length=ql.length+1:=by simp);show Ig _ _ _ _;rw[Ig,e];simpa [bv] using Oo
      case measure=>simp[intOf];omega
   ·obtain rfl:k=x.size:=by omega
    rw[HX.o] at HE⊢;have Ki:=am6 ql rj.o;rw[HE.o] at Ki;rcases HH.o.cases with ⟨rfl,rfl⟩ |⟨g,cap,rfl,hcs⟩
    ·have HT:=aB (fun V=>ow ⟨#[]⟩ V (by show 0<=_;omega));have abb:N ⟨#[]⟩=A/D:=Ki;rw[abb] at HT;have E4:=run_convert_bytes_nil (P:=Tryz.prog) wr 152 5 Tryz.underlying152 Tryz.underlying5 0 0 30 Tryz.underlying30;rw[show ByteArray.empty=⟨#[]⟩ from rfl] at E4;clear Ki abb HH rj HE dN;go_wp2_with (go_at_call 116;refine(HT.o _).ae ?_;rintro e w3 ⟨rfl,hw3⟩;subst hw3)
     go_ret3
     exact⟨rfl,cE⟩
    ·have hmap:(ql.map Int.ofNat).length=ql.length:=by simp
     have hcm:∀i,i<ql.length ->wr.cell? ⟨g,0+i,none⟩=some (.int .u8 ((ql.map Int.ofNat).getD i 0)):=fun i hi=>by
      rw[bT,hcs i hi];simp[b7,af hi]
     have E4:=I5 (P:=Tryz.prog) wr 152 5 Tryz.underlying152 Tryz.underlying5 g 0 ql.length cap (ql.map Int.ofNat) hmap hcm 30 Tryz.underlying30
     have hsz:(strOfNums (ql.map Int.ofNat)).size<=140737488355328:=by
      rw[strOfNums_size,hmap];omega
     clear hmap dN;have HT:=aB (fun V=>ow (strOfNums (ql.map Int.ofNat)) V hsz);rw[Ki] at HT;clear Ki HH rj HE hcs hcm;go_wp2_with (go_at_call 116;refine(HT.o _).ae ?_;rintro e w3 ⟨rfl,hw3⟩;subst hw3)
     go_ret3
     exact⟨rfl,cE⟩
theorem agb (a b:ByteArray) (w:World) (ha:a.size<=500000) (hb:b.size<=500000) (h:N b≠0):
  Calls Tryz.prog 117 #[.string a,.string b] w fun e w'=>e=.returned (.tuple #[.string (B (N a/N b)),.string (B (N a % N b)),.bool true])/\Below w.heap.size w w':=by
 by_cases hs:(B (N a)).size<=7/\(B (N b)).size<=7
 ·exact af9 a b w (by omega) (by omega) h hs.1 hs.2
 ·exact aga a b w ha hb h hs
theorem RM (m n:Nat) (w:World) (hm:(B m).size<=500000) (hn:(B n).size<=500000) (h:n≠0):
  Calls Tryz.prog 117 #[.string (B m),.string (B n)] w fun e w'=>e=.returned (.tuple #[.string (B (m/n)),.string (B (m % n)),.bool true])/\Below w.heap.size w w':=by
 have:=agb (B m) (B n) w hm hn (by rw[bQ];exact h);rwa [bQ,bQ] at this
theorem af6 (a b:ByteArray) (w:World) (ha:a.size<=500000) (hb:b.size<=500000):
  Calls Tryz.prog 121 #[.string a,.string b] w fun e w'=>e=.returned (.string (B (Nat.gcd (N a) (N b))))/\Below w.heap.size w w':=by
 have qY:=aB (ow a w (by omega));have dB:=aB (ow b w (by omega));have sa:=aS (ju a) ha;have sb:=aS (ju b) hb;generalize hA':N a=A at *;generalize Da:N b=D at *;clear hA' Da ha hb;go_enter Tryz.func121,Tryz.ntmps121;go_wp2_with fail
 refine(qY.o).ae ?_;rintro e w1 ⟨rfl,hw⟩;subst hw;go_wp2_with fail
 refine(dB.o).ae ?_;rintro e w1 ⟨rfl,hw⟩;subst hw;clear qY dB;go_wp2;go_loopg [0,1] D (fun r vx vy wr=>∃m:Nat,vx=.string (B m)/\vy=.string (B r)/\(B m).size<=500000/\(B r).size<=500000/\Hid (Nat.gcd m r=Nat.gcd A D)/\Below w1.heap.size w1 wr)
 case atStart=>exact⟨A,rfl,rfl,sa,sb,rfl,au _ _⟩
 case round=>
  obtain⟨m,rfl,rfl,hm,hr,HG,cE⟩:=hrel;by_cases h0:gk=0
  ·subst h0;rw[DX];(have HE:Hid (m=Nat.gcd A D):=by show _=_;rw[<- HG.o,Nat.gcd_zero_right]);go_wp2;go_ret;exact⟨by rw[<- HE.o];rfl,cE⟩
  ·have hne:=Gg h0;have HD:=aB (fun V=>RM m gk V hm hr h0);have hmod:=jL m (lX h0);have hsz:=aS (kj (uH hmod)) hr;(have j8:Hid (Nat.gcd gk (m % gk)=Nat.gcd A D):=by show _=_;rw[<- HG.o,Jb m gk,Nat.gcd_rec gk m,Jb]);go_wp2_with fail
   refine(HD.o _).ae ?_;rintro e w2 ⟨rfl,hb2⟩;go_wp2;go_roundg (m % gk)
   case measure=>exact hmod
   case rel=>exact⟨gk,rfl,rfl,hr,hsz,j8.o,cE.trans (hb2.ae cE.size)⟩
variable {neg:Bool} {den num:ByteArray}
def sg (neg:Bool) (n:Nat):Int:=if neg then -(n:Int) else(n:Int)
theorem Nj (neg:Bool) (n:Nat):(sg neg n).natAbs=n:=by cases neg<;>simp[sg]
theorem YD (neg:Bool):sg neg 0=0:=by cases neg<;>rfl
theorem afh (neg:Bool) (n:Nat):sg (!neg) n= -sg neg n:=by cases neg<;>simp[sg]
theorem afi (a b:Bool) (m n:Nat):sg (a !=b) (m*n)=sg a m*sg b n:=by cases a<;>cases b<;>simp[sg,Int.neg_mul,Int.mul_neg]
theorem YG (a:Bool) (m n:Nat):sg a m*(n:Int)=sg a (m*n):=by cases a<;>simp[sg,Int.neg_mul]
theorem afj:sg neg n=0↔n=0:=by cases neg<;>simp[sg]
theorem afk (neg:Bool) (n g:Nat) (h:g∣n):sg neg n/(g:Int)=sg neg (n/g):=by
 cases neg
 ·simp[sg]
 ·simp only[sg,if_true];rw[Int.neg_ediv_of_dvd (Int.natCast_dvd_natCast.2 h)];simp
theorem N2 {n:Int} (hd:d≠0):mkRat n d=Rat.normalize n d hd:=by rw[mkRat,dif_neg hd]
theorem aat {n:Int} (hd:d≠0):(mkRat n d).num=n/(Nat.gcd n.natAbs d:Int):=by rw[N2 hd,Rat.normalize_eq]
theorem ais {n:Int} (hd:d≠0):(mkRat n d).den=d/Nat.gcd n.natAbs d:=by rw[N2 hd,Rat.normalize_eq]
theorem air (neg:Bool) (a d:Nat) (ha:a≠0) (hd:d≠0):decide ((mkRat (sg neg a) d).num<0)=neg/\(mkRat (sg neg a) d).num.natAbs=a/Nat.gcd a d/\(mkRat (sg neg a) d).den=d/Nat.gcd a d:=by
 have hg:Nat.gcd a d∣a:=Nat.gcd_dvd_left _ _;have gj:0<Nat.gcd a d:=Nat.gcd_pos_of_pos_left _ (lX ha);rw[aat hd,ais hd,Nj,afk neg a _ hg,Nj];refine⟨?_,rfl,rfl⟩;have hq:0<a/Nat.gcd a d:=Nat.div_pos (Nat.le_of_dvd (lX ha) hg) gj;cases neg
 ·simp only[sg];simp;omega
 ·simp only[sg];simp;omega
def val (neg:Bool) (num den:ByteArray):Rat:=mkRat (sg neg (N num)) (N den)
theorem XE (h:N num=0):val neg num den=0:=by rw[val,h,YD,D7]
theorem Jo (h:N den=0):val neg num den=0:=by rw[val,h,Rat.mkRat_zero]
theorem Jn:val neg num den=0↔N num=0∨N den=0:=by
 constructor
 ·intro h;by_cases hd:N den=0
  ·exact .inr hd
  ·rw[val,Rat.mkRat_eq_zero hd,afj] at h;exact .inl h
 ·rintro(h |h)
  ·exact XE h
  ·exact Jo h
theorem XF (neg:Bool) (num den:ByteArray):val (!neg) num den= -val neg num den:=by rw[val,val,afh,Rat.neg_mkRat]
theorem val_mul (a b:Bool) (x y u v:ByteArray):mkRat (sg (a !=b) (N x*N u)) (N y*N v)=val a x y*val b u v:=by rw[val,val,Rat.mkRat_mul_mkRat,afi]
theorem val_add (a b:Bool) (x y u v:ByteArray) (hy:N y≠0) (hv:N v≠0):mkRat (sg a (N x*N v)+sg b (N u*N y)) (N y*N v)=val a x y+val b u v:=by
 rw[val,val,Rat.mkRat_add_mkRat _ _ hy hv,YG,YG]
theorem Q6 (neg:Bool) (x y:ByteArray) (hx:N x≠0) (hy:N y≠0):val neg y x=(val neg x y)⁻¹:=by
 have h:val neg x y*val neg y x=1:=by
  rw[<- val_mul];have:sg (neg !=neg) (N x*N y)=((N x*N y:Nat):Int)*1:=by cases neg<;>simp[sg]
  rw[this,abr (N y) (N x), <- mN (N x*N y),iH (N x*N y) 1,Int.natCast_one,Int.mul_one,Rat.mkRat_mul_left (Eb hx hy)];rfl
 grind
def C (q:Rat):Value:=.agg #[.bool (decide (q.num<0)),.string (B q.num.natAbs),.string (B q.den)]
theorem DW:C 0=.agg #[.bool false,.string ⟨#[]⟩,.string (B 1)]:=by
 show Value.agg #[_,.string (B 0),.string (B 1)]=_;rw[DX];rfl
theorem adZ (q:Rat):val (decide (q.num<0)) (B q.num.natAbs) (B q.den)=q:=by
 rw[val,bQ,bQ]
 have:sg (decide (q.num<0)) q.num.natAbs=q.num:=by
  by_cases h:q.num<0
  ·simp[sg,h];omega
  ·simp[sg,h];omega
 rw[this,Rat.mkRat_self]
theorem Qx (neg:Bool) (a d:Nat) (ha:a≠0) (hd:d≠0):C (mkRat (sg neg a) d)=.agg #[.bool neg,.string (B (a/Nat.gcd a d)),.string (B (d/Nat.gcd a d))]:=by
 obtain⟨h1,h2,h3⟩:=air neg a d ha hd;rw[C,h1,h2,h3]
def qw (q:Rat):Nat:=(B q.num.natAbs).size+(B q.den).size
theorem RS {n:Int} (hd:d≠0):qw (Rat.normalize n d hd)<=(B n.natAbs).size+(B d).size:=by
 rw[Rat.normalize_eq]
 have h1:(n/(Nat.gcd n.natAbs d:Int)).natAbs<=n.natAbs:=by
  have hg:((Nat.gcd n.natAbs d:Nat):Int)∣n:=by have h:=Int.natCast_dvd_natCast.2 (Nat.gcd_dvd_left n.natAbs d);rwa [Int.dvd_natAbs] at h
  rw[Int.natAbs_ediv_of_dvd hg];exact wh _ _
 have s1:=kj h1;have s2:=kj (wh d (Nat.gcd n.natAbs d));simp only[qw];omega
theorem GZ:qw 0<=1:=by
 show (B 0).size+(B 1).size<=1;rw[DX];have:=MB;have:(⟨#[]⟩:ByteArray).size=0:=rfl;omega
theorem Cq (neg:Bool) (num den:ByteArray):qw (val neg num den)<=num.size+den.size+1:=by
 by_cases hd:N den=0
 ·rw[Jo hd];have:=GZ;omega
 ·rw[val,N2 hd];have:=RS (n:=sg neg (N num)) hd;rw[Nj] at this;have:=ju num;have:=ju den;omega
def cQ (p q:Rat):Int:=if p<q then -1 else if p=q then 0 else 1
theorem aiq (neg:Bool) (n d:Nat) (hd:d≠0) (hn:n≠0):(neg=true ->mkRat (sg neg n) d<0)/\(neg=false ->0<mkRat (sg neg n) d):=by
 have hp:∀m:Nat,m≠0 ->0<mkRat (m:Int) d:=fun m hm=>by
  have h1:0<=mkRat (m:Int) d:=by
   rw[<- Rat.num_nonneg,aat hd];exact Int.ediv_nonneg (by omega) (by omega)
  have h2:mkRat (m:Int) d≠0:=by rw[Ne,Rat.mkRat_eq_zero hd];omega
  grind
 constructor
 ·rintro rfl;have h:=hp n hn;have e:mkRat (sg true n) d= -mkRat (n:Int) d:=by rw[Rat.neg_mkRat];rfl
  rw[e];grind
 ·rintro rfl;exact hp n hn
variable {fn:Func}
theorem wE (a:ByteArray) (w:World):
  Calls Tryz.prog 108 #[.string a] w fun e w'=>e=.returned (.bool (decide (N a=0)))/\w'=w:=by
 have hc:(jq (N a) (N ⟨#[]⟩)==0)=decide (N a=0):=by
  rw[ade,jq];by_cases h:N a=0
  ·simp[h]
  ·simp[h]
 have HC:=aB hc;clear hc;go_enter Tryz.func108,Tryz.ntmps108;go_wp2_with fail
 refine(Xa a ⟨#[]⟩ _).ae ?_;rintro e w1 ⟨rfl,hw⟩;subst hw;go_wp2;go_ret;exact⟨by rw[<- HC.o];rfl,rfl⟩
def aC (w:World) (g:Nat) (neg:Bool) (num den:ByteArray):Prop:=w.heap[g]? =some (.cells #[.bool neg,.string num,.string den] 32 (0,0))
theorem aC.c0 (h:aC w g neg num den):w.cell? ⟨g,0,none⟩=some (.bool neg):=by rw[cC w g 0 _ _ (0,0) h];rfl
theorem aC.c1 (h:aC w g neg num den):w.cell? ⟨g,1,none⟩=some (.string num):=by rw[cC w g 1 _ _ (0,0) h];rfl
theorem aC.c2 (h:aC w g neg num den):w.cell? ⟨g,2,none⟩=some (.string den):=by rw[cC w g 2 _ _ (0,0) h];rfl
theorem aC.fz (h:aC w g neg num den) (j:Nat):w.frozen? ⟨g,j,none⟩=false:=pN w g j _ _ h
theorem aC.lt (h:aC w g neg num den):g<w.heap.size:=(eL.1 h).1
theorem aC.of_block (h:aC w g neg num den) (e:w'.heap[g]? =w.heap[g]?):aC w' g neg num den:=e.trans h
theorem aC.aa {B:Nat} (h:aC w g neg num den) (hb:Below B w w') (hB:g<B):aC w' g neg num den:=h.of_block (hb.block g hB)
theorem aC.new (w:World) (neg:Bool) (num den:ByteArray):aC (w.alloc (.cells #[.bool neg,.string num,.string den] 32)) w.heap.size neg num den:=by
 exact kd _ _
theorem aC.alloc (h:aC w g neg num den) (o:Obj):aC (w.alloc o) g neg num den:=h.of_block (rY w o g h.lt)
theorem aC.drew (h:aC w g neg num den):aC w.drew g neg num den:=h
theorem aC.facts (h:aC w g neg num den):w.cell? ⟨g,0,none⟩=some (.bool neg)/\w.cell? ⟨g,1,none⟩=some (.string num)/\w.cell? ⟨g,2,none⟩=some (.string den)/\w.frozen? ⟨g,0,none⟩=false/\w.frozen? ⟨g,1,none⟩=false/\w.frozen? ⟨g,2,none⟩=false:=
 ⟨h.c0,h.c1,h.c2,h.fz 0,h.fz 1,h.fz 2⟩
theorem aC.put (h:aC w g neg num den) (n:Bool) (x y:ByteArray):aC (((w.setCell ⟨g,0,none⟩ (.bool n)).setCell ⟨g,1,none⟩ (.string x)).setCell ⟨g,2,none⟩ (.string y)) g n x y:=by
 have h1:=mM w g 0 _ _ (.bool n) h;have h2:=mM _ g 1 _ _ (.string x) h1;have h3:=mM _ g 2 _ _ (.string y) h2;exact h3
theorem aC.far (h:aC w g neg num den) (hg:g≠g') (u:Value):aC (w.setCell ⟨g',j,none⟩ u) g neg num den:=h.of_block (je w _ u g hg)
theorem bF {B:Nat} {a:World} (h:Below B a w) (hg:B<=g) (u v x:Value):Below B a (((w.setCell ⟨g,0,none⟩ u).setCell ⟨g,1,none⟩ v).setCell ⟨g,2,none⟩ x):=
 ((h.setCell hg u).setCell hg v).setCell hg x
theorem aC.result (h:aC w g neg num den) {p:Tmp} (hr:fn.results= #[.cell p 32]) (tmps:Array Value) (hp:tmps.getD p undef=.pointer (some ⟨g,0,none⟩)):
  (results fn tmps).run Tryz.prog w=.ok (.agg #[.bool neg,.string num,.string den]) w:=
 Gi hr tmps w g _ _ _ _ hp h Tryz.underlying32 rfl (by kernel_rfl)
theorem Ss (w:World):
  Calls Tryz.prog 140 #[] w fun e w'=>e=.returned (C 0)/\Below w.heap.size w w':=by
 go_enter Tryz.func140,Tryz.ntmps140;have bW:=aC.new w false ⟨#[]⟩ ⟨#[]⟩;have hB0:Below w.heap.size w (w.alloc (.cells #[.bool false,.string ⟨#[]⟩,.string ⟨#[]⟩] 32)):=(au _ w).alloc (ar _) _;go_wp2_with fail
 refine(adb 1 _ (by omega) (by omega)).ae ?_;rintro e w1 ⟨rfl,hb1⟩;have hB1:Below w.heap.size w w1:=hB0.trans (hb1.ae hB0.size);have hx1:=bW.aa hb1 bW.lt;obtain⟨k0,k1,k2,f0,f1,f2⟩:=hx1.facts;clear bW hB0;go_wp2;refine bB ((hx1.put _ _ _).result rfl _ rfl) rfl ?_;exact⟨by rw[DW],bF hB1 (ar _) _ _ _⟩
abbrev FC (n:Bool) (x y:ByteArray):Obj:=.cells #[.bool n,.string x,.string y] 32
theorem aC.at (hg:w.heap.size=g) (n:Bool) (x y:ByteArray):aC (w.alloc (FC n x y)) g n x y:=by
 subst hg;exact aC.new w n x y
theorem ahl (n:Bool) (x y:ByteArray) (w:World):
  Calls Tryz.prog 107 #[.agg #[.bool n,.string x,.string y]] w fun e w'=>e=.returned (.agg #[.bool (!n),.string x,.string y])/\Below w.heap.size w w':=by
 go_enter Tryz.func107,Tryz.ntmps107;go_wp2;refine bB ((aC.at (w:=w.alloc (FC n x y)) (g:=w.heap.size+1) (by simp) (!n) x y).result rfl _ rfl) rfl ?_;exact⟨rfl,((au _ w).alloc (ar _) _).alloc (by simp) _⟩
theorem ali (n:Bool) (x y:ByteArray) (w:World) (h:N y=0):
  Calls Tryz.prog 162 #[.agg #[.bool n,.string x,.string y]] w fun e w'=>e=.returned (C 0)/\Below w.heap.size w w':=by
 have hN:=fun V=>wE y V;simp only[h,decide_true] at hN;have HN:=aB hN;clear hN;go_enter Tryz.func162,Tryz.ntmps162;have bW:=aC.at (w:=w.alloc (FC n x y)) (g:=w.heap.size+1) (by simp) false ⟨#[]⟩ ⟨#[]⟩;have hB0:Below w.heap.size w ((w.alloc (FC n x y)).alloc (FC false ⟨#[]⟩ ⟨#[]⟩)):=((au _ w).alloc (ar _) _).alloc (by simp) _;go_wp2_with fail
 refine(HN.o _).ae ?_;rintro e w1 ⟨rfl,hw⟩;subst hw;go_wp2_with fail
 refine(Ss _).ae ?_;rintro e w1 ⟨rfl,hb1⟩;have hx1:=bW.aa hb1 bW.lt;have hB1:Below w.heap.size w w1:=hB0.trans (hb1.ae hB0.size);obtain⟨k0,k1,k2,f0,f1,f2⟩:=hx1.facts;clear bW hB0;rw[DW];go_wp2;refine bB ((hx1.put _ _ _).result rfl _ rfl) rfl ?_;exact⟨by rw[DW],bF hB1 (by omega) _ _ _⟩
theorem alh (n:Bool) (x y:ByteArray) (w:World) (h:N y≠0):
  Calls Tryz.prog 162 #[.agg #[.bool n,.string x,.string y]] w fun e w'=>e=.returned (.agg #[.bool n,.string x,.string y])/\Below w.heap.size w w':=by
 have hN:=fun V=>wE y V;simp only[h,decide_false] at hN;have HN:=aB hN;clear hN;go_enter Tryz.func162,Tryz.ntmps162;go_wp2_with fail
 refine(HN.o _).ae ?_;rintro e w1 ⟨rfl,hw⟩;subst hw;go_wp2;refine bB ((aC.at (w:=w.alloc (FC n x y)) (g:=w.heap.size+1) (by simp) n x y).result rfl _ rfl) rfl ?_;exact⟨rfl,((au _ w).alloc (ar _) _).alloc (by simp) _⟩
theorem ana (n:Bool) (x y:ByteArray) (w:World) (h:N x=0∨N y=0):
  Calls Tryz.prog 109 #[.bool n,.string x,.string y] w fun e w'=>e=.returned (C 0)/\Below w.heap.size w w':=by
 have hX:=fun V=>wE x V;have hY:=fun V=>wE y V;have HX:=aB hX;have HY:=aB hY;clear hX hY;go_enter Tryz.func109,Tryz.ntmps109;have bW:=aC.at (w:=w) rfl false ⟨#[]⟩ ⟨#[]⟩;have hB0:Below w.heap.size w (w.alloc (FC false ⟨#[]⟩ ⟨#[]⟩)):=(au _ w).alloc (ar _) _;by_cases h0:N x=0
 focus
  go_wp2_with fail
  refine(HX.o _).ae ?_;rintro e w1 ⟨rfl,hw⟩;subst hw;rw[cJ h0]
 rotate_left
 focus
  have h1:N y=0:=h.resolve_left h0;go_wp2_with fail
  refine(HX.o _).ae ?_;rintro e w1 ⟨rfl,hw⟩;subst hw;rw[abg h0];go_wp2_with fail
  refine(HY.o _).ae ?_;rintro e w1 ⟨rfl,hw⟩;subst hw;rw[cJ h1]
 all_goals
  go_wp2_with fail
  refine(Ss _).ae ?_;rintro e w1 ⟨rfl,hb1⟩;have hx1:=bW.aa hb1 bW.lt;have hB1:Below w.heap.size w w1:=hB0.trans (hb1.ae hB0.size);obtain⟨k0,k1,k2,f0,f1,f2⟩:=hx1.facts;clear bW hB0;rw[DW];go_wp2;refine bB ((hx1.put _ _ _).result rfl _ rfl) rfl ?_;exact⟨by rw[DW],bF hB1 (by omega) _ _ _⟩
theorem anb (n:Bool) (x y:ByteArray) (w:World) (h0:N x≠0) (h1:N y≠0) (hx:x.size<=1099511627776) (hy:y.size<=1099511627776):
  Calls Tryz.prog 109 #[.bool n,.string x,.string y] w fun e w'=>e=.returned (C (val n x y))/\Below w.heap.size w w':=by
 have hX:=fun V=>wE x V;have hY:=fun V=>wE y V;have HX:=aB hX;have HY:=aB hY;have gj:Nat.gcd (N x) (N y)≠0:=fun h=>h0 (Nat.gcd_eq_zero_iff.1 h).1;have Rw:=aS (kj (Nat.gcd_le_left (N y) (lX h0))) (ju x);clear hX hY;go_enter Tryz.func109,Tryz.ntmps109;have bW:=aC.at (w:=w) rfl false ⟨#[]⟩ ⟨#[]⟩;have hB0:Below w.heap.size w (w.alloc (FC false ⟨#[]⟩ ⟨#[]⟩)):=(au _ w).alloc (ar _) _;go_wp2_with fail
 refine(HX.o _).ae ?_;rintro e w1 ⟨rfl,hw⟩;subst hw;rw[abg h0];go_wp2_with fail
 refine(HY.o _).ae ?_;rintro e w1 ⟨rfl,hw⟩;subst hw;rw[abg h1];have hB:=au (w.alloc (FC false ⟨#[]⟩ ⟨#[]⟩)).heap.size (w.alloc (FC false ⟨#[]⟩ ⟨#[]⟩));go_wp2_with fail
 refine(anM (Nat.gcd (N x) (N y)) hB rfl hx hy).ae ?_;rintro e w1 ⟨rfl,hB⟩;go_wp2_with fail
 refine(adD (N x/Nat.gcd (N x) (N y)) 0 hB (by rw[bQ]) (by rw[bQ];exact Nat.mod_eq_zero_of_dvd (Nat.gcd_dvd_left _ _)) (by rw[bQ];exact gj) hx (by omega)).ae ?_;rintro e w1 ⟨rfl,hB⟩;go_wp2_with fail
 refine(adD (N y/Nat.gcd (N x) (N y)) 0 hB (by rw[bQ]) (by rw[bQ];exact Nat.mod_eq_zero_of_dvd (Nat.gcd_dvd_right _ _)) (by rw[bQ];exact gj) hy (by omega)).ae ?_;rintro e w1 ⟨rfl,hb1⟩;have hx1:=bW.aa hb1 bW.lt;have hB1:Below w.heap.size w w1:=hB0.trans (hb1.ae hB0.size);obtain⟨k0,k1,k2,f0,f1,f2⟩:=hx1.facts;clear bW hB0;go_wp2;refine bB ((hx1.put _ _ _).result rfl _ rfl) rfl ?_;exact⟨by rw[val,Qx n _ _ h0 h1],bF hB1 (by omega) _ _ _⟩
theorem Lv (n:Bool) (x y:ByteArray) (w:World) (hx:x.size<=1099511627776) (hy:y.size<=1099511627776):
  Calls Tryz.prog 109 #[.bool n,.string x,.string y] w fun e w'=>e=.returned (C (val n x y))/\Below w.heap.size w w':=by
 by_cases h:N x=0∨N y=0
 ·have:=ana n x y w h;rwa [<- Jn.2 h] at this
 ·exact anb n x y w (fun e=>h (.inl e)) (fun e=>h (.inr e)) hx hy
theorem acq (n:Bool) (x y:ByteArray) (hx:x.size<=1099511627776) (hy:y.size<=1099511627776):∃(n':Bool) (x' y':ByteArray),N y'≠0/\val n' x' y'=val n x y/\x'.size<=1099511627776/\y'.size<=1099511627776/\x'.size+y'.size<=x.size+y.size+1/\∀V:World,
  Calls Tryz.prog 162 #[.agg #[.bool n,.string x,.string y]] V fun e w'=>e=.returned (.agg #[.bool n',.string x',.string y'])/\Below V.heap.size V w':=by
 have h1:=MB;by_cases h:N y=0
 ·refine⟨false,⟨#[]⟩,B 1,by rw[bQ];decide,?_,?_,?_,?_,fun V=>?_⟩
  ·rw[XE ade,Jo h]
  ·show 0<=_;omega
  ·omega
  ·show 0+_<=_;omega
  ·have:=ali n x y V h;rwa [DW] at this
 ·exact⟨n,x,y,h,rfl,hx,hy,by omega,fun V=>alh n x y V h⟩
theorem YH (a:Bool) (m n:Nat):sg a (m+n)=sg a m+sg a n:=by cases a<;>simp[sg,Int.neg_add]
theorem YF {a b:Bool} (h:¬a=b) (e:m=n+k):sg a k=sg a m+sg b n:=by
 cases a<;>cases b<;>simp[sg] at h⊢<;>omega
theorem YE {a b:Bool} (h:¬a=b) (e:n=m+k):sg b k=sg a m+sg b n:=by
 cases a<;>cases b<;>simp[sg] at h⊢<;>omega
theorem ZZ {n:Bool} {x y:ByteArray} (h1:aC w' g n x y) (h3:Below w.heap.size w w'):w'.cell? ⟨g,0,none⟩=some (.bool n)/\Hid (aC w' g n x y/\Below w.heap.size w w'):=
 ⟨h1.c0,h1,h3⟩
theorem Q9 {h:Nat} {n m:Bool} {x y u v:ByteArray} (h1:aC w' g n x y) (h2:aC w' h m u v) (h3:Below w.heap.size w w'):(w'.cell? ⟨g,1,none⟩=some (.string x)/\w'.cell? ⟨g,2,none⟩=some (.string y)/\w'.cell? ⟨h,1,none⟩=some (.string u)/\w'.cell? ⟨h,2,none⟩=some (.string v))/\Hid (aC w' g n x y/\aC w' h m u v/\Below w.heap.size w w'):=
 ⟨⟨h1.c1,h1.c2,h2.c1,h2.c2⟩,h1,h2,h3⟩
theorem XW (na nb:Bool) (xa ya xb yb:ByteArray) (w:World) (AP:xa.size<=137438953472) (AO:ya.size<=137438953472) (hxb:xb.size<=137438953472) (hyb:yb.size<=137438953472):
  Calls Tryz.prog 106 #[.agg #[.bool na,.string xa,.string ya],.agg #[.bool nb,.string xb,.string yb]] w fun e w'=>
   ∃(n:Bool) (x d:Nat),e=.returned (.tuple #[.bool n,.string (B x),.string (B d)])/\d≠0/\mkRat (sg n x) d=val na xa ya+val nb xb yb/\(B x).size<=1099511627776/\(B d).size<=1099511627776/\Below w.heap.size w w':=by
 obtain⟨yG,l5,jf,ED,uW,YO,X8,YU,HA⟩:=acq na xa ya (by omega) (by omega);obtain⟨Ex,mW,jx,EC,tK,YN,X7,YR,HB⟩:=acq nb xb yb (by omega) (by omega);have BX:=aB HA;have bc:=aB HB;clear HA HB;go_enter Tryz.func106,Tryz.ntmps106;have gS:=((aC.at (w:=w) rfl na xa ya).alloc (FC nb xb yb)).drew;have gI:=(aC.at (w:=w.alloc (FC na xa ya)) (g:=w.heap.size+1) (by simp) nb xb yb).drew;have hB0:Below w.heap.size w ((w.alloc (FC na xa ya)).alloc (FC nb xb yb)).drew:=(((au _ w).alloc (ar _) _).alloc (by simp) _).drew;go_upto_region 1 with fail
 go_cut [] from 11 to 14 (fun wx=>aC wx w.heap.size yG l5 jf/\aC wx (w.heap.size+1) Ex mW jx/\Below w.heap.size w wx)
 case first=>
  go_region_with (first
   |(have xe:=kM;go_at_call 162;refine(bc.o _).ae ?_;rintro e w2 ⟨rfl,hb2⟩;have nI:=aC.aa xe hb2 xe.lt;have acv:=aC.aa iz hb2 iz.lt;have hB2:=hB1.trans (hb2.ae hB1.size);obtain⟨k0,k1,k2,f0,f1,f2⟩:=nI.facts;obtain⟨j0,j1,j2,i0,i1,i2⟩:=acv.facts)
   |(go_at_call 162;refine(BX.o _).ae ?_;rintro e w1 ⟨rfl,hb1⟩;have kM:=aC.aa gS hb1 gS.lt;have iz:=aC.aa gI hb1 gI.lt;have hB1:=hB0.trans (hb1.ae hB0.size);obtain⟨k0,k1,k2,f0,f1,f2⟩:=kM.facts;obtain⟨j0,j1,j2,i0,i1,i2⟩:=iz.facts))
  all_goals go_wp2_with fail
  all_goals go_meet
  all_goals exact⟨((((nI.put _ _ _).far (by omega) _).far (by omega) _).far (by omega) _),(((acv.far (by omega) _).far (by omega) _).far (by omega) _).put _ _ _,bF (bF hB2 (ar _) _ _ _) (by omega) _ _ _⟩
 case rest=>
  obtain⟨gS,gI,hB⟩:=hcut;obtain⟨k0,k1,k2,f0,f1,f2⟩:=gS.facts;obtain⟨j0,j1,j2,i0,i1,i2⟩:=gI.facts;clear BX bc;have Zd:=ac7 (N l5) (N jx);have Zc:=ac7 (N mW) (N jf);have Y8:=ac7 (N jf) (N jx);have b1:=ju l5;have b2:=ju jf;have b3:=ju mW;have b4:=ju jx;go_upto_region 2 with fail
  go_cut [7,8] from 15 to 24 (fun s7 s8 wx=>s7=.string (B (N l5*N jx))/\s8=.string (B (N mW*N jf))/\aC wx w.heap.size yG l5 jf/\aC wx (w.heap.size+1) Ex mW jx/\Below w.heap.size w wx)
  case first=>
   clear uW tK ED EC YU YR b1 b2 b3 b4 Zd Zc Y8 k0 k1 k2 f0 f1 f2 j0 j1 j2 i0 i1 i2 AP AO hxb hyb
   go_region_held3 (fun w'=>(w'.cell? ⟨w.heap.size,1,none⟩=some (.string l5)/\w'.cell? ⟨w.heap.size,2,none⟩=some (.string jf)/\w'.cell? ⟨w.heap.size+1,1,none⟩=some (.string mW)/\w'.cell? ⟨w.heap.size+1,2,none⟩=some (.string jx))/\Hid (aC w' w.heap.size yG l5 jf/\aC w' (w.heap.size+1) Ex mW jx/\Below w.heap.size w w'))
    (first |exact Q9 nI acv hB2 |exact Q9 kM iz hB1 |exact Q9 gS.drew gI.drew hB.drew)
    (first
     |(have xe:=kM;go_at_call 142;refine(Lu mW jf _ YN X8).ae ?_;rintro e w2 ⟨rfl,hb2⟩;have nI:=xe.aa hb2 xe.lt;have acv:=iz.aa hb2 iz.lt;have hB2:=hB1.trans (hb2.ae hB1.size))
     |(go_at_call 142;refine(Lu l5 jx _ YO X7).ae ?_;rintro e w1 ⟨rfl,hb1⟩;have kM:=gS.drew.aa hb1 gS.lt;have iz:=gI.drew.aa hb1 gI.lt;have hB1:=hB.drew.trans (hb1.ae hB.size)))
   go_wp2_with fail
   go_meet
   exact⟨rfl,rfl,nI,acv,hB2⟩
  case rest=>
   obtain⟨rfl,rfl,gS,gI,hB⟩:=hcut;obtain⟨k0,k1,k2,f0,f1,f2⟩:=gS.facts;obtain⟨j0,j1,j2,i0,i1,i2⟩:=gI.facts;go_wp2_with fail
   refine(Lu jf jx _ X8 X7).ae ?_;rintro e w3 ⟨rfl,hb3⟩;have qd:=gS.aa hb3 gS.lt;have sD:=gI.aa hb3 gI.lt;have bU:=hB.trans (hb3.ae hB.size);clear gS gI hB k0 k1 k2 f0 f1 f2 j0 j1 j2 i0 i1 i2 hb3;obtain⟨k0,k1,k2,f0,f1,f2⟩:=qd.facts;obtain⟨j0,j1,j2,i0,i1,i2⟩:=sD.facts;(have sl:(B (N l5*N jx)).size<=1099511627776:=by omega);(have sr:(B (N mW*N jf)).size<=1099511627776:=by omega);(have sd:(B (N jf*N jx)).size<=1099511627776:=by omega);have sa:=X4 (N l5*N jx) (N mW*N jf);have sm:=kj (Nat.sub_le (N l5*N jx) (N mW*N jf));have sn:=kj (Nat.sub_le (N mW*N jf) (N l5*N jx));by_cases hn:yG=Ex
   ·subst hn;go_upto_region 5 with fail
    go_region_held3 (fun w'=>w'.cell? ⟨w.heap.size,0,none⟩=some (.bool yG)/\Hid (aC w' w.heap.size yG l5 jf/\Below w.heap.size w w'))
     (first |exact ZZ TU dY |exact ZZ qd.drew bU.drew)
     (first
      |(go_at_call 111;refine(adF _ _ _ sl sr).ae ?_;rintro e w4 ⟨rfl,hb4⟩;have TU:=qd.drew.aa hb4 qd.lt;have dY:=bU.drew.trans (hb4.ae bU.size)))
    go_wp2;go_ret3
    refine⟨yG,N l5*N jx+N mW*N jf,N jf*N jx,by rw[bQ,bQ];rfl,Eb ED EC,?_,by omega,by omega,dY⟩;rw[<- uW, <- tK,YH,val_add _ _ _ _ _ _ ED EC]
   ·have Ra:=au w3.heap.size w3;(have gh:(yG==Ex)=false:=by simp[hn]);have dm:decide (yG=Ex)=false:=abg hn;by_cases hle:N mW*N jf<=N l5*N jx
    ·go_wp2_with fail
     refine(ac9 (N l5*N jx - N mW*N jf) Ra (by rw[bQ,bQ];omega) sl sr).ae ?_;rintro e w4 ⟨rfl,hb4⟩;have TU:=qd.aa hb4 qd.lt;have dY:=bU.trans (hb4.ae bU.size);obtain⟨k0,k1,k2,f0,f1,f2⟩:=TU.facts;go_wp2;go_ret3
     refine⟨yG,N l5*N jx - N mW*N jf,N jf*N jx,rfl,Eb ED EC,?_,by omega,by omega,dY⟩;rw[<- uW, <- tK,YF hn (m:=N l5*N jx) (n:=N mW*N jf) (by omega),val_add _ _ _ _ _ _ ED EC]
    ·go_wp2_with fail
     refine(am3 Ra (by rw[bQ,bQ];omega)).ae ?_;rintro e w4 ⟨rfl,hb4⟩;have abC:=sD.aa hb4 sD.lt;have dY:=bU.trans (hb4.ae bU.size);have aj1:=au w4.heap.size w4;go_wp2_with fail
     refine(ac9 (N mW*N jf - N l5*N jx) aj1 (by rw[bQ,bQ];omega) sr sl).ae ?_;rintro e w5 ⟨rfl,hb5⟩;have ajT:=abC.aa hb5 abC.lt;have qP:=dY.trans (hb5.ae dY.size);obtain⟨j0,j1,j2,i0,i1,i2⟩:=ajT.facts;go_wp2;go_ret3
     refine⟨Ex,N mW*N jf - N l5*N jx,N jf*N jx,rfl,Eb ED EC,?_,by omega,by omega,qP⟩;rw[<- uW, <- tK,YE hn (m:=N l5*N jx) (n:=N mW*N jf) (by omega),val_add _ _ _ _ _ _ ED EC]
def aH (q:Rat):Bool:=decide (q.num<0)
def nu (q:Rat):ByteArray:=B q.num.natAbs
def de (q:Rat):ByteArray:=B q.den
theorem j9 (q:Rat):C q=.agg #[.bool (aH q),.string (nu q),.string (de q)]:=rfl
theorem gC (q:Rat):val (aH q) (nu q) (de q)=q:=adZ q
theorem ng (q:Rat):(nu q).size+(de q).size=qw q:=rfl
theorem anQ (n:Bool) (x y:ByteArray) (w:World) (hx:x.size<=1099511627776) (hy:y.size<=1099511627776):
  Calls Tryz.prog 103 #[.agg #[.bool n,.string x,.string y]] w fun e w'=>e=.returned (C (val n x y))/\Below w.heap.size w w':=by
 go_enter Tryz.func103,Tryz.ntmps103;have bW:=aC.at (w:=w.alloc (FC n x y)) (g:=w.heap.size+1) (by simp) false ⟨#[]⟩ ⟨#[]⟩;have hB0:Below w.heap.size w ((w.alloc (FC n x y)).alloc (FC false ⟨#[]⟩ ⟨#[]⟩)):=((au _ w).alloc (ar _) _).alloc (by simp) _;go_wp2_with fail
 refine(Lv n x y _ hx hy).ae ?_;rintro e w1 ⟨rfl,hb1⟩;have hx1:=bW.aa hb1 bW.lt;have hB1:Below w.heap.size w w1:=hB0.trans (hb1.ae hB0.size);obtain⟨k0,k1,k2,f0,f1,f2⟩:=hx1.facts;clear bW hB0;rw[j9];go_wp2;refine bB ((hx1.put _ _ _).result rfl _ rfl) rfl ?_;exact⟨rfl,bF hB1 (by omega) _ _ _⟩
theorem acg (na nb:Bool) (xa ya xb yb:ByteArray) (w:World) (AP:xa.size<=137438953472) (AO:ya.size<=137438953472) (hxb:xb.size<=137438953472) (hyb:yb.size<=137438953472):
  Calls Tryz.prog 141 #[.agg #[.bool na,.string xa,.string ya],.agg #[.bool nb,.string xb,.string yb]] w fun e w'=>e=.returned (C (val na xa ya+val nb xb yb))/\Below w.heap.size w w':=by
 go_enter Tryz.func141,Tryz.ntmps141;have bW:=aC.at (w:=(w.alloc (FC na xa ya)).alloc (FC nb xb yb)) (g:=w.heap.size+2) (by simp) false ⟨#[]⟩ ⟨#[]⟩;have hB0:Below w.heap.size w (((w.alloc (FC na xa ya)).alloc (FC nb xb yb)).alloc (FC false ⟨#[]⟩ ⟨#[]⟩)):=(((au _ w).alloc (ar _) _).alloc (by simp) _).alloc (by simp;omega) _;go_wp2_with fail
 refine(XW na nb xa ya xb yb _ AP AO hxb hyb).ae ?_;rintro e w1 ⟨n,x,d,rfl,hd,hv,sx,sd,hb1⟩;have hx1:=bW.aa hb1 bW.lt;have hB1:Below w.heap.size w w1:=hB0.trans (hb1.ae hB0.size);clear bW hB0;go_wp2_with fail
 refine(Lv n (B x) (B d) _ sx sd).ae ?_;rintro e w2 ⟨rfl,hb2⟩;have hx2:=hx1.aa hb2 hx1.lt;have hB2:Below w.heap.size w w2:=hB1.trans (hb2.ae hB1.size);have hq:val n (B x) (B d)=val na xa ya+val nb xb yb:=by rw[<- hv,val,bQ,bQ]
 rw[hq];clear hx1 hB1 hq hv;obtain⟨k0,k1,k2,f0,f1,f2⟩:=hx2.facts;rw[j9];go_wp2;refine bB ((hx2.put _ _ _).result rfl _ rfl) rfl ?_;exact⟨rfl,bF hB2 (by omega) _ _ _⟩
theorem aC.far3 (h:aC w g neg num den) (hg:g≠g') (u v x:Value):aC (((w.setCell ⟨g',0,none⟩ u).setCell ⟨g',1,none⟩ v).setCell ⟨g',2,none⟩ x) g neg num den:=
 ((h.far hg u).far hg v).far hg x
theorem Cp {h:Nat} {n m:Bool} {x y u v:ByteArray} (h1:aC w' g n x y) (h2:aC w' h m u v) (h3:Below w.heap.size w w'):(w'.cell? ⟨g,0,none⟩=some (.bool n)/\w'.cell? ⟨g,1,none⟩=some (.string x)/\w'.cell? ⟨g,2,none⟩=some (.string y)/\w'.cell? ⟨h,0,none⟩=some (.bool m)/\w'.cell? ⟨h,1,none⟩=some (.string u)/\w'.cell? ⟨h,2,none⟩=some (.string v))/\Hid (aC w' g n x y/\aC w' h m u v/\Below w.heap.size w w'):=
 ⟨⟨h1.c0,h1.c1,h1.c2,h2.c0,h2.c1,h2.c2⟩,h1,h2,h3⟩
theorem ace (na nb:Bool) (xa ya xb yb:ByteArray) (w:World) (AP:xa.size<=137438953472) (AO:ya.size<=137438953472) (hxb:xb.size<=137438953472) (hyb:yb.size<=137438953472):
  Calls Tryz.prog 91 #[.agg #[.bool na,.string xa,.string ya],.agg #[.bool nb,.string xb,.string yb]] w fun e w'=>e=.returned (C (val na xa ya*val nb xb yb))/\Below w.heap.size w w':=by
 have sx:(B (N xa*N xb)).size<=1099511627776:=by have:=ac7 (N xa) (N xb);have:=ju xa;have:=ju xb;omega
 have sy:(B (N ya*N yb)).size<=1099511627776:=by have:=ac7 (N ya) (N yb);have:=ju ya;have:=ju yb;omega
 have hq:val (na !=nb) (B (N xa*N xb)) (B (N ya*N yb))=val na xa ya*val nb xb yb:=by rw[<- val_mul,val,bQ,bQ]
 have HQ:=aB hq;clear hq;have ai8:xa.size<=1099511627776:=by omega
 have ai5:ya.size<=1099511627776:=by omega
 have ai7:xb.size<=1099511627776:=by omega
 have ai4:yb.size<=1099511627776:=by omega
 clear AP AO hxb hyb;go_enter Tryz.func91,Tryz.ntmps91;have gS:=(((aC.at (w:=w) rfl na xa ya).alloc (FC nb xb yb)).alloc (FC false ⟨#[]⟩ ⟨#[]⟩)).drew;have gI:=((aC.at (w:=w.alloc (FC na xa ya)) (g:=w.heap.size+1) (by simp) nb xb yb).alloc (FC false ⟨#[]⟩ ⟨#[]⟩)).drew;have hbr:=(aC.at (w:=(w.alloc (FC na xa ya)).alloc (FC nb xb yb)) (g:=w.heap.size+2) (by simp) false ⟨#[]⟩ ⟨#[]⟩).drew;have hB0:Below w.heap.size w (((w.alloc (FC na xa ya)).alloc (FC nb xb yb)).alloc (FC false ⟨#[]⟩ ⟨#[]⟩)).drew:=((((au _ w).alloc (ar _) _).alloc (by simp) _).alloc (by simp;omega) _).drew;go_upto_region 1 with fail
 go_region_held3 (fun w'=>(w'.cell? ⟨w.heap.size,0,none⟩=some (.bool na)/\w'.cell? ⟨w.heap.size,1,none⟩=some (.string xa)/\w'.cell? ⟨w.heap.size,2,none⟩=some (.string ya)/\w'.cell? ⟨w.heap.size+1,0,none⟩=some (.bool nb)/\w'.cell? ⟨w.heap.size+1,1,none⟩=some (.string xb)/\w'.cell? ⟨w.heap.size+1,2,none⟩=some (.string yb))/\Hid (aC w' w.heap.size na xa ya/\aC w' (w.heap.size+1) nb xb yb/\Below w.heap.size w w'))
  (first
   |exact Cp (qd.far3 (by omega) _ _ _) (sD.far3 (by omega) _ _ _) (bF bU (by omega) _ _ _)
   |exact Cp qd sD bU |exact Cp nI acv hB2 |exact Cp kM iz hB1 |exact Cp gS gI hB0)
  (first
   |(have abD:=nI;go_at_call 109;refine(Lv _ _ _ _ sx sy).ae ?_;rintro e w3 ⟨rfl,hb3⟩;have qd:=abD.aa hb3 abD.lt;have sD:=acv.aa hb3 acv.lt;have wZ:=CU.aa hb3 CU.lt;have bU:=hB2.trans (hb3.ae hB2.size);obtain⟨k0,k1,k2,f0,f1,f2⟩:=wZ.facts;rw[j9])
   |(have xe:=kM;go_at_call 142;refine(Lu ya yb _ ai5 ai4).ae ?_;rintro e w2 ⟨rfl,hb2⟩;have nI:=xe.aa hb2 xe.lt;have acv:=iz.aa hb2 iz.lt;have CU:=jC.aa hb2 jC.lt;have hB2:=hB1.trans (hb2.ae hB1.size))
   |(go_at_call 142;refine(Lu xa xb _ ai8 ai7).ae ?_;rintro e w1 ⟨rfl,hb1⟩;have kM:=gS.aa hb1 gS.lt;have iz:=gI.aa hb1 gI.lt;have jC:=hbr.aa hb1 hbr.lt;have hB1:=hB0.trans (hb1.ae hB0.size)))
 go_wp2;refine bB ((wZ.put _ _ _).result rfl _ rfl) rfl ?_;exact⟨by rw[<- HQ.o];rfl,bF bU (by omega) _ _ _⟩
variable {p q:Rat}
theorem aC.result2 (h:aC w g neg num den) {p u:Tmp} (hr:fn.results= #[.cell p 32,.tmp u]) (tmps:Array Value) (hp:tmps.getD p undef=.pointer (some ⟨g,0,none⟩)):
  (results fn tmps).run Tryz.prog w=.ok (.tuple #[.agg #[.bool neg,.string num,.string den],tmps.getD u undef]) w:=by
 rw[results_cell_tmp hr,hp];simp only[asAddr,DZ,zR];rw[run_loadVar_row w g _ 32 _ _ _ h Tryz.underlying32 rfl (by kernel_rfl)];simp only[zR]
theorem alJ {n:Bool} {x:Nat} (hd:d≠0) (h:mkRat (sg n x) d=p - q):cQ p q=if x=0 then 0 else if n=true then -1 else 1:=by
 by_cases hx:x=0
 ·rw[aaf hx];rw[hx,YD,D7] at h;have:p=q:=by grind
  subst this;rw[cQ,aaO (by grind),aaf rfl]
 ·rw[aaO hx];obtain⟨h1,h2⟩:=aiq n x d hd hx;cases n
  ·have:=h2 rfl;rw[h] at this;rw[aaO (by decide),cQ,aaO (by grind),aaO (by grind)]
  ·have:=h1 rfl;rw[h] at this;rw[aaf rfl,cQ,aaf (by grind)]
theorem acf (na nb:Bool) (xa ya xb yb:ByteArray) (w:World) (AP:xa.size<=137438953472) (AO:ya.size<=137438953472) (hxb:xb.size<=137438953472) (hyb:yb.size<=137438953472):
  Calls Tryz.prog 52 #[.agg #[.bool na,.string xa,.string ya],.agg #[.bool nb,.string xb,.string yb]] w fun e w'=>e=.returned (.int .i64 (cQ (val na xa ya) (val nb xb yb)))/\Below w.heap.size w w':=by
 have hq:val na xa ya+val (!nb) xb yb=val na xa ya - val nb xb yb:=by rw[XF,Rat.sub_eq_add_neg]
 have HQ:=aB hq;clear hq;go_enter Tryz.func52,Tryz.ntmps52;have gS:=((aC.at (w:=w) rfl na xa ya).alloc (FC nb xb yb)).drew;have gI:=(aC.at (w:=w.alloc (FC na xa ya)) (g:=w.heap.size+1) (by simp) nb xb yb).drew;have hB0:Below w.heap.size w ((w.alloc (FC na xa ya)).alloc (FC nb xb yb)).drew:=(((au _ w).alloc (ar _) _).alloc (by simp) _).drew;go_upto_region 1 with fail
 go_region_held3 (fun w'=>(w'.cell? ⟨w.heap.size,0,none⟩=some (.bool na)/\w'.cell? ⟨w.heap.size,1,none⟩=some (.string xa)/\w'.cell? ⟨w.heap.size,2,none⟩=some (.string ya)/\w'.cell? ⟨w.heap.size+1,0,none⟩=some (.bool nb)/\w'.cell? ⟨w.heap.size+1,1,none⟩=some (.string xb)/\w'.cell? ⟨w.heap.size+1,2,none⟩=some (.string yb))/\Hid (aC w' w.heap.size na xa ya/\aC w' (w.heap.size+1) nb xb yb/\Below w.heap.size w w'))
  (first
   |exact Cp nI acv hB2 |exact Cp kM iz hB1 |exact Cp gS gI hB0)
  (first
   |(have xe:=kM;go_at_call 106;refine(XW na (!nb) xa ya xb yb _ AP AO hxb hyb).ae ?_;rintro e w2 ⟨n,x,d,rfl,hd,hv,sx,sd,hb2⟩;have nI:=xe.aa hb2 xe.lt;have acv:=iz.aa hb2 iz.lt;have hB2:=hB1.trans (hb2.ae hB1.size);have TN:=aB (alJ hd (hv.trans HQ.o));clear hv)
   |(go_at_call 107;refine(ahl nb xb yb _).ae ?_;rintro e w1 ⟨rfl,hb1⟩;have kM:=gS.aa hb1 gS.lt;have iz:=gI.aa hb1 gI.lt;have hB1:=hB0.trans (hb1.ae hB0.size)))
 have hN:∀V:World,Calls Tryz.prog 108 #[.string (B x)] V fun e w'=>e=.returned (.bool (decide (x=0)))/\w'=V:=fun V=>by
  have:=wE (B x) V;rwa [bQ] at this
 have HN:=aB hN;clear hN;go_wp2_with fail
 refine(HN.o _).ae ?_;rintro e w3 ⟨rfl,hw⟩;subst hw;by_cases h0:x=0
 ·rw[cJ h0];go_wp2;go_ret;exact⟨by rw[TN.o,aaf h0];rfl,hB2⟩
 ·rw[abg h0];cases n
  ·go_wp2;go_ret;exact⟨by rw[TN.o,aaO h0];rfl,hB2⟩
  ·go_wp2;go_ret;exact⟨by rw[TN.o,aaO h0];rfl,hB2⟩
theorem acb (n:Nat) (w:World) (h:n<=9223372036854775807):
  Calls Tryz.prog 53 #[.int .i64 (n:Int)] w fun e w'=>e=.returned (C (n:Rat))/\Below w.heap.size w w':=by
 have hq:val false (B n) (B 1)=(n:Rat):=by
  rw[val,bQ,bQ];show mkRat (n:Int) 1=_;rw[Rat.mkRat_one];rfl
 have s1:=MB
 have s2:(B n).size<=1099511627776:=by
  have:=qT 8 n (by show n<18446744073709551616;omega);rw[<- mK n] at this;omega
 go_enter Tryz.func53,Tryz.ntmps53;have hbr:=aC.at (w:=w) rfl false ⟨#[]⟩ ⟨#[]⟩;have hB0:Below w.heap.size w (w.alloc (FC false ⟨#[]⟩ ⟨#[]⟩)):=(au _ w).alloc (ar _) _;have hB:=au (w.alloc (FC false ⟨#[]⟩ ⟨#[]⟩)).heap.size (w.alloc (FC false ⟨#[]⟩ ⟨#[]⟩));go_wp2_with fail
 refine(Lt n hB rfl (by omega)).ae ?_;rintro e w1 ⟨rfl,hB⟩;go_wp2_with fail
 refine(Lt 1 hB rfl (by omega)).ae ?_;rintro e w1 ⟨rfl,hB⟩;go_wp2_with fail
 refine(Lv false (B n) (B 1) _ s2 (by omega)).ae ?_;rintro e w2 ⟨rfl,hb2⟩;rw[hq];have hx1:=(hbr.aa hB hbr.lt).aa hb2 (hbr.aa hB hbr.lt).lt;have hB1:Below w.heap.size w w2:=(hB0.trans (hB.ae hB0.size)).trans (hb2.ae (hB0.trans (hB.ae hB0.size)).size);obtain⟨k0,k1,k2,f0,f1,f2⟩:=hx1.facts;clear hbr hB0 hB;rw[j9];go_wp2;refine bB ((hx1.put _ _ _).result rfl _ rfl) rfl ?_;exact⟨rfl,bF hB1 (by omega) _ _ _⟩
theorem below_drewN {B:Nat} {a b:World} (h:Below B a b) (k:Nat):Below B a (b.drewN k):=⟨h.os,h.tape,h.output,h.size,h.block⟩
theorem ak7 {n m:Bool} {x y u v:ByteArray} (r:Rat) (hp:val n x y=p) (hq:val m u v=q) (h:p+q=r) (s1:x.size+y.size<=100000) (s2:u.size+v.size<=100000):
  Calls Tryz.prog 141 #[.agg #[.bool n,.string x,.string y],.agg #[.bool m,.string u,.string v]] w fun e w'=>e=.returned (.agg #[.bool (aH r),.string (nu r),.string (de r)])/\Below w.heap.size w w':=by
 subst hp hq h;exact acg n m x y u v w (by omega) (by omega) (by omega) (by omega)
theorem acd {n m:Bool} {x y u v:ByteArray} (r:Rat) (hp:val n x y=p) (hq:val m u v=q) (h:p*q=r) (s1:x.size+y.size<=100000) (s2:u.size+v.size<=100000):
  Calls Tryz.prog 91 #[.agg #[.bool n,.string x,.string y],.agg #[.bool m,.string u,.string v]] w fun e w'=>e=.returned (.agg #[.bool (aH r),.string (nu r),.string (de r)])/\Below w.heap.size w w':=by
 subst hp hq h;exact ace n m x y u v w (by omega) (by omega) (by omega) (by omega)
theorem O9 {n m:Bool} {x y u v:ByteArray} (k:Int) (hp:val n x y=p) (hq:val m u v=q) (h:cQ p q=k) (s1:x.size+y.size<=100000) (s2:u.size+v.size<=100000):
  Calls Tryz.prog 52 #[.agg #[.bool n,.string x,.string y],.agg #[.bool m,.string u,.string v]] w fun e w'=>e=.returned (.int .i64 k)/\Below w.heap.size w w':=by
 subst hp hq h;exact acf n m x y u v w (by omega) (by omega) (by omega) (by omega)
theorem Qw {n:Bool} {x y:ByteArray} (r:Rat) (hp:val n x y=r) (s1:x.size+y.size<=100000):
  Calls Tryz.prog 103 #[.agg #[.bool n,.string x,.string y]] w fun e w'=>e=.returned (.agg #[.bool (aH r),.string (nu r),.string (de r)])/\Below w.heap.size w w':=by
 subst hp;exact anQ n x y w (by omega) (by omega)
theorem Lb {k:Int} (r:Rat) (n:Nat) (hk:k=(n:Int)) (hn:n<=1) (h:(n:Rat)=r):
  Calls Tryz.prog 53 #[.int .i64 k] w fun e w'=>e=.returned (.agg #[.bool (aH r),.string (nu r),.string (de r)])/\Below w.heap.size w w':=by
 subst h hk;exact acb n w (by omega)
theorem MC:B 1=⟨#[1]⟩:=by
 rw[B,qm 1 (by decide),show 1/256=0 from rfl,qj];rfl
theorem ahM (h:¬n=1):((B n).toList==[1])=false:=zQ.2 fun e=>h (adE (by
 rw[MC];rw[Lib.toList_data] at e;exact apu (apv.1 e)))
theorem afZ (n:Bool) (x y:ByteArray) (w:World) (h:N x=0∨N y=0) (hx:x.size<=500000) (hy:y.size<=500000):
  Calls Tryz.prog 70 #[.bool n,.string x,.string y] w fun e w'=>e=.returned (C 0)/\Below w.heap.size w w':=by
 have HX:=aB (fun V=>ow x V (by omega));have HY:=aB (fun V=>ow y V (by omega));go_enter Tryz.func70,Tryz.ntmps70;by_cases h0:N x=0
 focus
  rw[h0,DX] at HX
 rotate_left
 focus
  have h1:N y=0:=h.resolve_left h0;have hne:=Gg h0;rw[h1,DX] at HY
 all_goals
  go_wp2_with fail
  refine(HX.o _).ae ?_;rintro e w1 ⟨rfl,hw⟩;subst hw;go_wp2_with fail
  refine(HY.o _).ae ?_;rintro e w1 ⟨rfl,hw⟩;subst hw;go_wp2;refine bB ((aC.at (w:=w) rfl false ⟨#[]⟩ ⟨#[1]⟩).result rfl _ rfl) rfl ?_;exact⟨by rw[DW,MC],(au _ w).alloc (ar _) _⟩
theorem af0 (n:Bool) (x y:ByteArray) (w:World) (h0:N x≠0) (h1:N y≠0) (hx:x.size<=500000) (hy:y.size<=500000):
  Calls Tryz.prog 70 #[.bool n,.string x,.string y] w fun e w'=>e=.returned (C (val n x y))/\Below w.heap.size w w':=by
 have HX:=aB (fun V=>ow x V (by omega));have HY:=aB (fun V=>ow y V (by omega));have HC:=aB (Qx n _ _ h0 h1);have sx:=aS (ju x) hx;have sy:=aS (ju y) hy;have hg:=aB (fun V=>af6 (B (N x)) (B (N y)) V sx sy);rw[bQ,bQ] at hg;have Rw:=aS (kj (Nat.gcd_le_left (N y) (lX h0))) sx;have gj:Nat.gcd (N x) (N y)≠0:=fun h=>h0 (Nat.gcd_eq_zero_iff.1 h).1;have HD1:=aB (fun V=>RM (N x) _ V sx Rw gj);have vW:=aB (fun V=>RM (N y) _ V sy Rw gj);have an6:=Gg h0;have abc:=Gg h1;rw[val];clear h0 h1 gj;generalize mkRat (sg n (N x)) (N y)=q at *;generalize N x=X at *;generalize N y=Y at *;generalize Nat.gcd X Y=g at *;go_enter Tryz.func70,Tryz.ntmps70;have bW:=aC.at (w:=w) rfl false ⟨#[]⟩ ⟨#[]⟩;have hB0:Below w.heap.size w (w.alloc (FC false ⟨#[]⟩ ⟨#[]⟩)):=(au _ w).alloc (ar _) _;go_wp2_with fail
 refine(HX.o _).ae ?_;rintro e w1 ⟨rfl,hw⟩;subst hw;go_wp2_with fail
 refine(HY.o _).ae ?_;rintro e w1 ⟨rfl,hw⟩;subst hw;go_wp2_with fail
 refine(hg.o _).ae ?_;rintro e w1 ⟨rfl,hb1⟩;have hx1:=bW.aa hb1 bW.lt;have hB1:Below w.heap.size w w1:=hB0.trans (hb1.ae hB0.size);clear bW hB0 hb1 HX HY hg;by_cases h1:g=1
 ·subst h1;rw[Ce,Ce] at HC;rw[MC];obtain⟨k0,k1,k2,f0,f1,f2⟩:=hx1.facts;go_wp2;refine bB ((hx1.put _ _ _).result rfl _ rfl) rfl ?_;exact⟨by rw[HC.o],bF hB1 (by omega) _ _ _⟩
 ·have gh:=ahM h1;go_wp2_with fail
  refine(HD1.o _).ae ?_;rintro e w2 ⟨rfl,hb2⟩;have hx2:=hx1.aa hb2 hx1.lt;have hB2:Below w.heap.size w w2:=hB1.trans (hb2.ae hB1.size);go_wp2_with fail
  refine(vW.o _).ae ?_;rintro e w3 ⟨rfl,hb3⟩;have hx3:=hx2.aa hb3 hx2.lt;have bU:Below w.heap.size w w3:=hB2.trans (hb3.ae hB2.size);obtain⟨k0,k1,k2,f0,f1,f2⟩:=hx3.facts;go_wp2;refine bB ((hx3.put _ _ _).result rfl _ rfl) rfl ?_;exact⟨by rw[HC.o],bF bU (by omega) _ _ _⟩
theorem JL (n:Bool) (x y:ByteArray) (w:World) (hx:x.size<=500000) (hy:y.size<=500000):
  Calls Tryz.prog 70 #[.bool n,.string x,.string y] w fun e w'=>e=.returned (C (val n x y))/\Below w.heap.size w w':=by
 by_cases h:N x=0∨N y=0
 ·have:=afZ n x y w h hx hy;rwa [<- Jn.2 h] at this
 ·exact af0 n x y w (fun e=>h (.inl e)) (fun e=>h (.inr e)) hx hy
theorem GY (n:Bool) (x y:ByteArray) (w:World) (hx:x.size<=500000) (hy:y.size<=500000):
  Calls Tryz.prog 68 #[.agg #[.bool n,.string x,.string y]] w fun e w'=>e=.returned (C (val n x y))/\Below w.heap.size w w':=by
 go_enter Tryz.func68,Tryz.ntmps68;have bW:=aC.at (w:=w.alloc (FC n x y)) (g:=w.heap.size+1) (by simp) false ⟨#[]⟩ ⟨#[]⟩;have hB0:Below w.heap.size w ((w.alloc (FC n x y)).alloc (FC false ⟨#[]⟩ ⟨#[]⟩)):=((au _ w).alloc (ar _) _).alloc (by simp) _;go_wp2_with fail
 refine(JL n x y _ hx hy).ae ?_;rintro e w1 ⟨rfl,hb1⟩;have hx1:=bW.aa hb1 bW.lt;have hB1:Below w.heap.size w w1:=hB0.trans (hb1.ae hB0.size);obtain⟨k0,k1,k2,f0,f1,f2⟩:=hx1.facts;clear bW hB0;rw[j9];go_wp2;refine bB ((hx1.put _ _ _).result rfl _ rfl) rfl ?_;exact⟨rfl,bF hB1 (by omega) _ _ _⟩
variable {U V:World}
theorem JK {a b:ByteArray} (n:Nat) (hB:Below w0.heap.size w0 w) (h:N a*N b=n) (ha:a.size<=1000000) (hb:b.size<=1000000):
  Calls Tryz.prog 69 #[.string a,.string b] w fun e w'=>e=.returned (.string (B n))/\Below w0.heap.size w0 w':=by
 subst h;exact under hB (afY a b w (by omega) (by omega))
theorem uk (q:Rat):N (nu q)=q.num.natAbs:=bQ _
theorem mA (q:Rat):N (de q)=q.den:=bQ _
def Lq (w V:World) (p q:Rat) (n:Bool) (x y:ByteArray):Prop:=aC V w.heap.size (aH p) (nu p) (de p)/\aC V (w.heap.size+1) (aH q) (nu q) (de q)/\aC V (w.heap.size+2) n x y/\Below w.heap.size w V
theorem Lq.step {n:Bool} {x y:ByteArray} (h:Lq w V p q n x y) (hb:Below V.heap.size V U):Lq w U p q n x y:=by
 obtain⟨h1,h2,h3,h4⟩:=h;exact⟨h1.aa hb h1.lt,h2.aa hb h2.lt,h3.aa hb h3.lt,h4.trans (hb.ae h4.size)⟩
theorem Za (na nb:Bool) (xa ya xb yb:ByteArray) (w:World) (ha:xa.size+ya.size<=50000) (hb:xb.size+yb.size<=50000):
  Calls Tryz.prog 26 #[.agg #[.bool na,.string xa,.string ya],.agg #[.bool nb,.string xb,.string yb]] w fun e w'=>e=.returned (C (val na xa ya*val nb xb yb))/\Below w.heap.size w w':=by
 have HA:=aB (fun V=>GY na xa ya V (by omega) (by omega));have HB:=aB (fun V=>GY nb xb yb V (by omega) (by omega));have q1:=Cq na xa ya;have q2:=Cq nb xb yb;generalize val na xa ya=p at *;generalize val nb xb yb=q at *;have z1:=ng p;have z2:=ng q;have s1:=ac7 p.num.natAbs q.num.natAbs;have s3:=ac7 p.den q.den;have e1:(B p.num.natAbs).size=(nu p).size:=rfl;have e2:(B p.den).size=(de p).size:=rfl;have e3:(B q.num.natAbs).size=(nu q).size:=rfl;have e4:(B q.den).size=(de q).size:=rfl
 have HS:Hid (val (aH p !=aH q) (B (p.num.natAbs*q.num.natAbs)) (B (p.den*q.den))=p*q):=by
  show _=_;have e:=val_mul (aH p) (aH q) (nu p) (de p) (nu q) (de q);rw[gC,gC,uk,uk,mA,mA] at e;rw[val,bQ,bQ,e]
 have zG:=aB (fun (V:World)=>JK (w:=V) (p.num.natAbs*q.num.natAbs) (au _ V) (by rw[uk,uk]) (show (nu p).size<=_ by omega) (show (nu q).size<=_ by omega));have Md:=aB (fun (V:World)=>JK (w:=V) (p.den*q.den) (au _ V) (by rw[mA,mA]) (show (de p).size<=_ by omega) (show (de q).size<=_ by omega));generalize p*q=r at *;generalize p.num.natAbs*q.num.natAbs=X at *;generalize p.den*q.den=D at *;have t1:(B X).size<=200000:=by omega
 have t3:(B D).size<=200000:=by omega
 clear s1 s3 e1 e2 e3 e4 z1 z2 q1 q2 ha hb;go_enter Tryz.func26,Tryz.ntmps26;have gS:=((aC.at (w:=w) rfl na xa ya).alloc (FC nb xb yb)).alloc (FC false ⟨#[]⟩ ⟨#[]⟩);have gI:=(aC.at (w:=w.alloc (FC na xa ya)) (g:=w.heap.size+1) (by simp) nb xb yb).alloc (FC false ⟨#[]⟩ ⟨#[]⟩);have hbr:=aC.at (w:=(w.alloc (FC na xa ya)).alloc (FC nb xb yb)) (g:=w.heap.size+2) (by simp) false ⟨#[]⟩ ⟨#[]⟩;have hB0:Below w.heap.size w (((w.alloc (FC na xa ya)).alloc (FC nb xb yb)).alloc (FC false ⟨#[]⟩ ⟨#[]⟩)):=(((au _ w).alloc (ar _) _).alloc (by simp) _).alloc (by simp;omega) _;go_wp2_with fail
 refine(HA.o _).ae ?_;rintro e w1 ⟨rfl,hb1⟩;have kM:=gS.aa hb1 gS.lt;have iz:=(gI.aa hb1 gI.lt).far3 (g':=w.heap.size) (by omega) (.bool (aH p)) (.string (nu p)) (.string (de p));have jC:=(hbr.aa hb1 hbr.lt).far3 (g':=w.heap.size) (by omega) (.bool (aH p)) (.string (nu p)) (.string (de p));have hB1:=bF (hB0.trans (hb1.ae hB0.size)) (ar _) (.bool (aH p)) (.string (nu p)) (.string (de p));have nI:=kM.put (aH p) (nu p) (de p);obtain⟨k0,k1,k2,f0,f1,f2⟩:=kM.facts;obtain⟨c0,c1,c2,_,_,_⟩:=iz.facts;rw[j9];clear gS gI hbr hB0 kM hb1;go_wp2_with fail
 clear k0 k1 k2 f0 f1 f2 c0 c1 c2;refine(HB.o _).ae ?_;rintro e w2 ⟨rfl,hb2⟩;have acv:=iz.aa hb2 iz.lt;have qd:=(nI.aa hb2 nI.lt).far3 (g':=w.heap.size+1) (by omega) (.bool (aH q)) (.string (nu q)) (.string (de q));have wZ:=(jC.aa hb2 jC.lt).far3 (g':=w.heap.size+1) (by omega) (.bool (aH q)) (.string (nu q)) (.string (de q));have bU:=bF (hB1.trans (hb2.ae hB1.size)) (g:=w.heap.size+1) (by omega) (.bool (aH q)) (.string (nu q)) (.string (de q));have sD:=acv.put (aH q) (nu q) (de q);obtain⟨k0,k1,k2,f0,f1,f2⟩:=acv.facts;have ht:Lq w _ p q false ⟨#[]⟩ ⟨#[]⟩:=⟨qd,sD,wZ,bU⟩;obtain⟨c0,c1,c2,_,_,_⟩:=qd.facts;obtain⟨d0,d1,d2,_,_,_⟩:=sD.facts;rw[j9];clear nI iz jC hB1 acv qd wZ bU sD hb2 HA HB;go_wp2_with fail
 refine(zG.o _).ae ?_;rintro e w3 ⟨rfl,hb3⟩;clear c0 c1 c2 d0 d1 d2 k0 k1 k2 f0 f1 f2;have vh:=ht.step hb3;clear ht hb3 zG;obtain⟨c0,c1,c2,_,_,_⟩:=vh.1.facts;obtain⟨d0,d1,d2,_,_,_⟩:=vh.2.1.facts;go_wp2_with fail
 refine(Md.o _).ae ?_;rintro e w4 ⟨rfl,hb4⟩;clear c0 c1 c2 d0 d1 d2;have wJ:=vh.step hb4;clear vh hb4 Md;obtain⟨c0,c1,c2,_,_,_⟩:=wJ.1.facts;obtain⟨d0,d1,d2,_,_,_⟩:=wJ.2.1.facts;go_wp2_with fail
 refine(JL (aH p !=aH q) (B X) (B D) _ (by omega) (by omega)).ae ?_;rintro e w7 ⟨rfl,bK⟩;have tL:=wJ.step bK;obtain⟨g0,g1,g2,i0,i1,i2⟩:=tL.2.2.1.facts;rw[HS.o,j9];go_wp2;refine bB ((tL.2.2.1.put _ _ _).result rfl _ rfl) rfl ?_;exact⟨rfl,bF tL.2.2.2 (by omega) _ _ _⟩
theorem Z8 (h:q=0):nu q=⟨#[]⟩:=by subst h;exact DX
theorem Z9 (h:¬q=0):(nu q).toList.isEmpty=false:=Gg (by rw[Ne,Int.natAbs_eq_zero,Rat.num_eq_zero];exact h)
theorem RF (n:Bool) (x y:ByteArray) (w:World) (hx:x.size+y.size<=50000):
  Calls Tryz.prog 115 #[.agg #[.bool n,.string x,.string y]] w fun e w'=>e=.returned (.bool (decide (val n x y=0)))/\Below w.heap.size w w':=by
 have HC:=aB (fun V=>GY n x y V (by omega) (by omega));generalize val n x y=q at *
 have hz:(q=0/\decide (q=0)=true)∨(¬q=0/\decide (q=0)=false):=by
  by_cases h:q=0
  ·exact .inl ⟨h,cJ h⟩
  ·exact .inr ⟨h,abg h⟩
 have HZ:=aB hz;clear hz;generalize decide (q=0)=t at *;go_enter Tryz.func115,Tryz.ntmps115;have bW:=aC.at (w:=w) rfl n x y;have hB0:Below w.heap.size w (w.alloc (FC n x y)):=(au _ w).alloc (ar _) _;go_wp2_with fail
 refine(HC.o _).ae ?_;rintro e w1 ⟨rfl,hb1⟩;have hx1:=bW.aa hb1 bW.lt;have hB1:=bF (hB0.trans (hb1.ae hB0.size)) (ar _) (.bool (aH q)) (.string (nu q)) (.string (de q));obtain⟨k0,k1,k2,f0,f1,f2⟩:=hx1.facts;rw[j9];rcases HZ.o with ⟨h,rfl⟩ |⟨h,rfl⟩
 ·have hn:=Z8 h;clear h HZ;generalize nu q=nq at *;subst hn;go_wp2;go_ret;exact⟨rfl,hB1⟩
 ·have hn:=Z9 h;clear h HZ;go_wp2;go_ret;exact⟨rfl,hB1⟩
theorem agc (na nb:Bool) (xa ya xb yb:ByteArray) (w:World) (h:¬val nb xb yb=0) (ha:xa.size+ya.size<=40000) (hb:xb.size+yb.size<=40000):
  Calls Tryz.prog 92 #[.agg #[.bool na,.string xa,.string ya],.agg #[.bool nb,.string xb,.string yb]] w fun e w'=>e=.returned (.tuple #[C (val na xa ya/val nb xb yb),.int .i64 0])/\Below w.heap.size w w':=by
 have HZ:=aB (fun V=>RF nb xb yb V (by omega));rw[abg h] at HZ;have HC:=aB (fun V=>GY nb xb yb V (by omega) (by omega));have q2:=Cq nb xb yb;generalize val nb xb yb=q at *;have z2:=ng q;have HM:=aB (fun V=>Za na (aH q) xa ya (de q) (nu q) V (by omega) (by omega))
 have hi:val (aH q) (de q) (nu q)=q⁻¹:=by
  rw[Q6 (aH q) (nu q) (de q) (by rw[uk,Ne,Int.natAbs_eq_zero,Rat.num_eq_zero];exact h) (by rw[mA];exact q.den_nz),gC]
 rw[hi, <- D8] at HM;generalize val na xa ya/q=r at *;clear hi h z2 q2 ha hb;go_enter Tryz.func92,Tryz.ntmps92;have gS:=((aC.at (w:=w) rfl na xa ya).alloc (FC nb xb yb)).alloc (FC false ⟨#[]⟩ ⟨#[]⟩);have gI:=(aC.at (w:=w.alloc (FC na xa ya)) (g:=w.heap.size+1) (by simp) nb xb yb).alloc (FC false ⟨#[]⟩ ⟨#[]⟩);have hbr:=aC.at (w:=(w.alloc (FC na xa ya)).alloc (FC nb xb yb)) (g:=w.heap.size+2) (by simp) false ⟨#[]⟩ ⟨#[]⟩;have hB0:Below w.heap.size w (((w.alloc (FC na xa ya)).alloc (FC nb xb yb)).alloc (FC false ⟨#[]⟩ ⟨#[]⟩)):=(((au _ w).alloc (ar _) _).alloc (by simp) _).alloc (by simp;omega) _;go_wp2_with fail
 refine(HZ.o _).ae ?_;rintro e w1 ⟨rfl,hb1⟩;have kM:=gS.aa hb1 gS.lt;have iz:=gI.aa hb1 gI.lt;have jC:=hbr.aa hb1 hbr.lt;have hB1:=hB0.trans (hb1.ae hB0.size);obtain⟨c0,c1,c2,_,_,_⟩:=iz.facts;clear gS gI hbr hB0 hb1;go_wp2_with fail
 refine(HC.o _).ae ?_;rintro e w2 ⟨rfl,hb2⟩;have nI:=(kM.aa hb2 kM.lt).far3 (g':=w.heap.size+1) (by omega) (.bool (aH q)) (.string (nu q)) (.string (de q));have acv:=iz.aa hb2 iz.lt;have CU:=(jC.aa hb2 jC.lt).far3 (g':=w.heap.size+1) (by omega) (.bool (aH q)) (.string (nu q)) (.string (de q));have hB2:=bF (hB1.trans (hb2.ae hB1.size)) (g:=w.heap.size+1) (by omega) (.bool (aH q)) (.string (nu q)) (.string (de q));clear c0 c1 c2 kM iz jC hB1 hb2;obtain⟨k0,k1,k2,f0,f1,f2⟩:=acv.facts;obtain⟨d0,d1,d2,_,_,_⟩:=nI.facts;rw[j9];go_wp2_with fail
 refine(HM.o _).ae ?_;rintro e w3 ⟨rfl,hb3⟩;have wZ:=CU.aa hb3 CU.lt;have bU:=hB2.trans (hb3.ae hB2.size);clear k0 k1 k2 f0 f1 f2 d0 d1 d2;obtain⟨k0,k1,k2,f0,f1,f2⟩:=wZ.facts;rw[j9];go_wp2;refine bB ((wZ.put _ _ _).result2 rfl _ rfl) rfl ?_;exact⟨rfl,bF bU (by omega) _ _ _⟩
theorem ahy {k:Int} (h:k<0):C (mkRat k 1)=.agg #[.bool true,.string (B ((-(k+1)).toNat+1)),.string (B 1)]:=by
 have e:k=sg true ((-(k+1)).toNat+1):=by simp only[sg,if_true];omega
 have h1:=Qx true ((-(k+1)).toNat+1) 1 (by omega) (by decide);rw[<- e,Nat.gcd_one_right,Ce,Ce] at h1;exact h1
theorem ahx (n:Nat):C (mkRat (n:Int) 1)=.agg #[.bool false,.string (B n),.string (B 1)]:=by
 by_cases h:n=0
 ·subst h;rw[show ((0:Nat):Int)=0 from rfl,D7,DW,DX]
 ·have h1:=Qx false n 1 h (by decide);rw[Nat.gcd_one_right,Ce,Ce] at h1;exact h1
theorem Np (k:Int) (w:World) (h0: -9223372036854775808<=k) (h1:k<=9223372036854775807):
  Calls Tryz.prog 22 #[.int .i64 k] w fun e w'=>e=.returned (C (mkRat k 1))/\Below w.heap.size w w':=by
 by_cases hk:k<0
 ·rw[ahy hk];have HO:=aB (fun V=>JH (-(k+1)) V (by omega) (by omega));have s1:(B (-(k+1)).toNat).size<=8:=by rw[mK];exact qT 8 _ (by show _<18446744073709551616;omega)
  have HA:=aB (fun V=>Ze (B (-(k+1)).toNat) ⟨#[1]⟩ V (by omega) (by show 1<=_;omega));rw[bQ,show N ⟨#[1]⟩=1 from rfl] at HA;rw[MC];generalize (-(k+1)).toNat=n at *;go_enter Tryz.func22,Tryz.ntmps22;have hbr:=aC.at (w:=w) rfl false ⟨#[]⟩ ⟨#[]⟩;have hB0:Below w.heap.size w (w.alloc (FC false ⟨#[]⟩ ⟨#[]⟩)):=(au _ w).alloc (ar _) _;go_wp2_with fail
  refine(HO.o _).ae ?_;rintro e w1 ⟨rfl,hb1⟩;have jC:=hbr.aa hb1 hbr.lt;have hB1:=hB0.trans (hb1.ae hB0.size);go_wp2_with fail
  refine(HA.o _).ae ?_;rintro e w2 ⟨rfl,hb2⟩;have CU:=jC.aa hb2 jC.lt;have hB2:=hB1.trans (hb2.ae hB1.size);obtain⟨k0,k1,k2,f0,f1,f2⟩:=CU.facts;go_wp2;refine bB ((CU.put _ _ _).result rfl _ rfl) rfl ?_;exact⟨rfl,bF hB2 (by omega) _ _ _⟩
 ·obtain⟨n,rfl⟩:∃n:Nat,k=n:=⟨k.toNat,by omega⟩;rw[ahx n];have HO:=aB (fun V=>JH (n:Int) V (by omega) (by omega));rw[pT] at HO;rw[MC];go_enter Tryz.func22,Tryz.ntmps22;have hbr:=aC.at (w:=w) rfl false ⟨#[]⟩ ⟨#[]⟩;have hB0:Below w.heap.size w (w.alloc (FC false ⟨#[]⟩ ⟨#[]⟩)):=(au _ w).alloc (ar _) _;go_wp2_with fail
  refine(HO.o _).ae ?_;rintro e w1 ⟨rfl,hb1⟩;have jC:=hbr.aa hb1 hbr.lt;have hB1:=hB0.trans (hb1.ae hB0.size);obtain⟨k0,k1,k2,f0,f1,f2⟩:=jC.facts;go_wp2;refine bB ((jC.put _ _ _).result rfl _ rfl) rfl ?_;exact⟨rfl,bF hB1 (by omega) _ _ _⟩
def Fits (m:Nat) (q:Rat):Prop:=∃(A:Int) (D:Nat),D≠0/\q=mkRat A D/\D<256^m/\A.natAbs<256^m
theorem O7 (h:Fits m q):qw q<=2*m:=by
 obtain⟨A,D,hD,rfl,h1,h2⟩:=h;rw[N2 hD];have:=RS (n:=A) hD;have a1:(B A.natAbs).size<=m:=by rw[mK];exact qT m _ h2
 have a2:(B D).size<=m:=by rw[mK];exact qT m _ h1
 omega
theorem G6 (h:m<=n):256^m<=256^n:=lW (by decide) h
theorem UQ (n:Bool) (x y:ByteArray):Fits (x.size+y.size+1) (val n x y):=by
 by_cases h:N y=0
 ·refine⟨0,1,by decide,by rw[Jo h,D7],?_,?_⟩
  ·exact aR (by decide:1<256^1) (G6 (by omega))
  ·exact tB (by decide)
 ·refine⟨sg n (N x),N y,h,rfl,aR (Dm y) (G6 (by omega)),?_⟩;rw[Nj];exact aR (Dm x) (G6 (by omega))
theorem ab8 (hp:Fits m p) (hq:Fits k q):Fits (m+k+1) (p+q):=by
 obtain⟨A,D,hD,rfl,h1,h2⟩:=hp;obtain⟨A',D',Da,rfl,h3,h4⟩:=hq;refine⟨A*D'+A'*D,D*D',Eb hD Da,Rat.mkRat_add_mkRat _ _ hD Da,?_,?_⟩
 ·have:D*D'<256^m*256^k:=I9 h1 h3;rw[<- Cb] at this;exact aR this (G6 (by omega))
 ·have e1:A.natAbs*D'<256^m*256^k:=I9 h2 h3;have e2:A'.natAbs*D<256^k*256^m:=I9 h4 h1;rw[abr (256^k)] at e2;rw[<- Cb] at e1 e2
  have e3:(A*D'+A'*D).natAbs<=A.natAbs*D'+A'.natAbs*D:=by
   refine aS (Int.natAbs_add_le _ _) ?_;rw[Int.natAbs_mul,Int.natAbs_mul];exact ar _
  rw[jc];omega
abbrev Fr:Type:=Bool×ByteArray×ByteArray
def H5 (f:Fr):Rat:=val f.1 f.2.1 f.2.2
def fw:List Fr ->Nat
 |[]=>0
 |f::l=>f.2.1.size+f.2.2.size+2+fw l
def aV (l:List Fr):Rat:=l.foldl (fun s f=>s+H5 f) 0
theorem O3 (l:List Fr) (f:Fr):aV (l++[f])=aV l+H5 f:=by simp[aV]
theorem UK (a b:List Fr):fw (a++b)=fw a+fw b:=by
 induction a with
 |nil=>simp[fw]
 |cons f a ih=>simp only[fg,fw,ih];omega
theorem UJ (l:List Fr) (k:Nat):fw (l.take k)<=fw l:=by
 have:=UK (l.take k) (l.drop k);rw[zZ] at this;omega
theorem O1 {l:List Fr} {f:Fr} (h:f∈l):f.2.1.size+f.2.2.size+2<=fw l:=by
 induction l with
 |nil=>cases h
 |cons g l ih=>
  rcases dK.1 h with rfl |h
  ·simp only[fw];omega
  ·have:=ih h;simp only[fw];omega
theorem UR (l:List Fr):Fits (fw l+1) (aV l):=by
 induction l using GQ with
 |h0=>exact⟨0,1,by decide,(D7 _).symm,by decide,by decide⟩
 |h1 l f ih=>
  rw[O3,UK];have:=ab8 ih (UQ f.1 f.2.1 f.2.2);have e:fw l+1+(f.2.1.size+f.2.2.size+1)+1=fw l+fw [f]+1:=by simp only[fw];omega
  rwa [e] at this
theorem take_one {l:List Fr} (h:k<l.length):aV (l.take (k+1))=aV (l.take k)+H5 l[k]:=by
 rw[fR h,O3]
def bZ (w:World) (a:Option Addr) (l:List Fr):Prop:=∀k (h:k<l.length),∃g o,a=some ⟨g,o,none⟩/\g<w.heap.size/\w.cell? ⟨g,o+k*3,none⟩=some (.bool l[k].1)/\w.cell? ⟨g,o+k*3+1,none⟩=some (.string l[k].2.1)/\w.cell? ⟨g,o+k*3+2,none⟩=some (.string l[k].2.2)
theorem bZ.aa {l:List Fr} (h:bZ w a l) (hb:Below w.heap.size w w'):bZ w' a l:=fun k hk=>by
 obtain⟨g,o,h1,h2,h3,h4,h5⟩:=h k hk;exact⟨g,o,h1,aR h2 hb.size,(hb.cell (p:=⟨g,_,none⟩) h2).trans h3,(hb.cell (p:=⟨g,_,none⟩) h2).trans h4,(hb.cell (p:=⟨g,_,none⟩) h2).trans h5⟩
theorem UZ (a:Option Addr) (cap:Nat) (l:List Fr) (w:World) (h:bZ w a l) (hl:∀k (h:k<l.length),l[k].2.1.size+l[k].2.2.size<=40000) (hq:∀k,k<=l.length ->qw (aV (l.take k))<=40000) (hn:l.length<=10000):
  Calls Tryz.prog 88 #[.slice a l.length cap] w fun e w'=>e=.returned (C (aV l))/\Below w.heap.size w w':=by
 have HF:=aB h;have HL:=aB hl;have HQ:=aB hq;clear h hl hq;have tj:Hid (aV (l.take l.length)=aV l):=by show _=_;rw[fJ]
 go_enter Tryz.func88,Tryz.ntmps88;have hbr:=aC.at (w:=w) rfl false ⟨#[]⟩ ⟨#[]⟩;have hB0:Below w.heap.size w (w.alloc (FC false ⟨#[]⟩ ⟨#[]⟩)):=(au _ w).alloc (ar _) _;go_wp2_with fail
 refine(Ss _).ae ?_;rintro e w1 ⟨rfl,hb1⟩;have hr1:=hbr.aa hb1 hbr.lt;have hB1:Below w.heap.size w w1:=hB0.trans (hb1.ae hB0.size);clear hbr hB0 hb1;rw[j9];go_wp2_with fail
 have Kk:=hr1.lt;go_loopw [9] (fun iv wr=>∃k:Nat,k<=l.length/\iv=.int .i64 k/\Hid (aC wr w1.heap.size (aH (aV (l.take k))) (nu (aV (l.take k))) (de (aV (l.take k))))/\Hid (aC wr w.heap.size false ⟨#[]⟩ ⟨#[]⟩)/\Below w.heap.size w wr) (fun iv _=>l.length - (intOf iv).toNat)
 case atStart=>exact⟨0,aU _,rfl,aC.at rfl _ _ _,hr1.alloc _,hB1.alloc hB1.size _⟩
 case round=>
  obtain⟨k,hk,rfl,HS,HR,cE⟩:=hrel;by_cases hlt:k<l.length
  ·obtain⟨g,o,rfl,hg,c0,c1,c2⟩:=(HF.o.aa cE) k hlt;have hstep:=take_one hlt;have hmem:=HL.o k hlt;have oJ:=HQ.o k hk;have hz:=ng (aV (l.take k));have DU:=aB (fun V=>acg (aH (aV (l.take k))) l[k].1 (nu (aV (l.take k))) (de (aV (l.take k))) l[k].2.1 l[k].2.2 V (by omega) (by omega) (by omega) (by omega));rw[gC,show val l[k].1 l[k].2.1 l[k].2.2=H5 l[k] from rfl, <- hstep] at DU;have kL:=HS.o;clear HS hstep hmem oJ hz;generalize l[k].1=fn at *;generalize l[k].2.1=fx at *;generalize l[k].2.2=fy at *;obtain⟨k0,k1,k2,f0,f1,f2⟩:=kL.facts;have cH:=kL.lt;go_wp2_with fail
   refine(DU.o _).ae ?_;rintro e w2 ⟨rfl,hb2⟩;have hs2:=(kL.alloc (FC fn fx fy)).aa hb2 (kL.alloc (FC fn fx fy)).lt;have hr2:=(HR.o.alloc (FC fn fx fy)).aa hb2 (HR.o.alloc (FC fn fx fy)).lt;have abN:=cE.alloc cE.size (FC fn fx fy);have hB2:Below w.heap.size w w2:=abN.trans (hb2.ae abN.size);clear k0 k1 k2 f0 f1 f2 c0 c1 c2;obtain⟨k0,k1,k2,f0,f1,f2⟩:=hs2.facts;rw[j9];go_wp2;go_roundw
   case rel=>exact⟨k+1,by omega,by go_num,hs2.put _ _ _,hr2.far3 (by omega) _ _ _,bF hB2 hB1.size _ _ _⟩
   case measure=>simp[intOf];omega
  ·obtain rfl:k=l.length:=by omega
   have kL:=HS.o;rw[tj.o] at kL;obtain⟨k0,k1,k2,f0,f1,f2⟩:=kL.facts;obtain⟨j0,j1,j2,i0,i1,i2⟩:=HR.o.facts;go_wp2;refine bB ((HR.o.put _ _ _).result rfl _ rfl) rfl ?_;exact⟨rfl,bF cE (ar _) _ _ _⟩
theorem ak1 (a:Option Addr) (cap:Nat) (l:List Fr) (w:World) (h:bZ w a l) (hl:fw l<=10000) (hn:l.length<=10000):
  Calls Tryz.prog 88 #[.slice a l.length cap] w fun e w'=>e=.returned (C (aV l))/\Below w.heap.size w w':=
 UZ a cap l w h (fun k hk=>by have:=O1 (bH hk);omega) (fun k _=>by have:=O7 (UR (l.take k));have:=UJ l k;omega) hn
def jr (sizes vars:List Int) (m:Nat):Int:=if countB sizes vars=true then(if m=cnt (ag sizes) (ag vars) then 0 else 8) else 11
theorem alW {sizes vars:List Int} (h:countB sizes vars=false):jr sizes vars m=11:=aaO (by rw[h];decide)
theorem alX {sizes vars:List Int} (h:countB sizes vars=true) (h1:¬m=cnt (ag sizes) (ag vars)):jr sizes vars m=8:=by rw[jr,aaf h,aaO h1]
theorem Po {sizes vars:List Int} (h:countB sizes vars=true) (h1:m=cnt (ag sizes) (ag vars)):jr sizes vars m=0:=by rw[jr,aaf h,aaf h1]
abbrev TC (u v:Value):Obj:=.cells #[u,v] 39
def bh (w:World) (g:Nat) (u v:Value):Prop:=w.heap[g]? =some (.cells #[u,v] 39 (0,0))
theorem bh.c0 {u v:Value} (h:bh w g u v):w.cell? ⟨g,0,none⟩=some u:=by rw[cC w g 0 _ _ (0,0) h];rfl
theorem bh.c1 {u v:Value} (h:bh w g u v):w.cell? ⟨g,1,none⟩=some v:=by rw[cC w g 1 _ _ (0,0) h];rfl
theorem bh.lt {u v:Value} (h:bh w g u v):g<w.heap.size:=(eL.1 h).1
theorem bh.aa {B:Nat} {u v:Value} (h:bh w g u v) (hb:Below B w w') (hB:g<B):bh w' g u v:=(hb.block g hB).trans h
theorem bh.at (hg:w.heap.size=g) (u v:Value):bh (w.alloc (TC u v)) g u v:=by
 subst hg;exact kd _ _
theorem bh.alloc {u v:Value} (h:bh w g u v) (o:Obj):bh (w.alloc o) g u v:=(rY w o g h.lt).trans h
theorem Cm (a b c:Option Addr) (ca cb cc m:Nat) (sizes vars:List Int) (w:World) (hs:aaK w a sizes) (hv:aaK w b vars) (hn:sizes.length<=140737488355328) (hm:vars.length<=140737488355328):
  Calls Tryz.prog 86 #[.slice a sizes.length ca,.agg #[.slice b vars.length cb,.slice c m cc]] w fun e w'=>e=.returned (.int .i64 (jr sizes vars m))/\Below w.heap.size w w':=by
 have HS:=hid hs;have HV:=hid hv;have HC:=hid (fun V h1 h2=>Nc a b ca cb sizes vars V h1 h2 hn hm);clear hs hv;have hB0:Below w.heap.size w (w.alloc (TC (.slice b vars.length cb) (.slice c m cc))):=(au _ w).alloc (ar _) _;have bW:=bh.at (w:=w) rfl (.slice b vars.length cb) (.slice c m cc);cases hcb:countB sizes vars with
 |false=>
  have HA:=hid (alW (m:=m) hcb);rw[Fm hcb] at HC;simp only at HC;generalize jr sizes vars m=r at *;go_enter Tryz.func86,Tryz.ntmps86;go_wp2_with fail
  refine(HC.o _ (HS.o.aa hB0) (HV.o.aa hB0)).ae ?_;rintro e w1 ⟨rfl,hb1⟩;have hB1:=hB0.trans (hb1.ae hB0.size);go_wp2;go_ret;exact⟨by rw[HA.o];rfl,hB1⟩
 |true=>
  have HN:=hid (fun h=>alX (m:=m) hcb h);have HY:=hid (fun h=>Po (m:=m) hcb h);rw[Fl hcb] at HC;simp only at HC;obtain⟨aJ,aX⟩:=Ph hcb;have hsm:cnt (ag sizes) (ag vars)<=65536:=pw aJ.sz_le (by rw[cS];have:=aJ.eight;have:=aX.length;omega);clear hcb aJ aX;generalize jr sizes vars m=r at *;generalize cnt (ag sizes) (ag vars)=N0 at *;go_enter Tryz.func86,Tryz.ntmps86;go_wp2_with fail
  refine(HC.o _ (HS.o.aa hB0) (HV.o.aa hB0)).ae ?_;rintro e w1 ⟨rfl,hb1⟩;have hB1:=hB0.trans (hb1.ae hB0.size);have hx1:=bW.aa hb1 bW.lt;have k0:=hx1.c0;have k1:=hx1.c1;by_cases h:m=N0
  ·have HE:=hid (HY.o h);subst h;go_wp2;go_ret;exact⟨by rw[HE.o];rfl,hB1⟩
  ·have HE:=hid (HN.o h);(have hb:((m:Int)==(N0:Int))=false:=by simp;omega);(have hi:¬(m:Int)=(N0:Int):=by omega);go_wp2;go_ret;exact⟨by rw[HE.o];rfl,hB1⟩
def kD (l:List Nat) (i:Nat):List Nat:=l.take i++List.replicate (l.length - i) 0
theorem Ny (l:List Nat):kD l 0=List.replicate l.length 0:=by simp[kD]
theorem Aw (l:List Nat) (h:i<=l.length):(kD l i).length=l.length:=by simp[kD];omega
theorem NA (l:List Nat):kD l l.length=l:=by simp[kD]
theorem Nz (l:List Nat) (h:i<l.length):(kD l i).set i l[i]=kD l (i+1):=by
 rw[kD,kD,Ed _ _ (by simp;omega),fR h];have e:l.length - i=(l.length - (i+1))+1:=by omega
 rw[e,Jc,eZ,uG (by omega),qE,Ec,rW];rfl
def iL (l:List Nat):List Int:=l.map fun x:Nat=>(x:Int)
theorem ba (l:List Nat):(iL l).length=l.length:=by simp[iL]
theorem ew (l:List Nat):ag (iL l)=l:=by simp[ag,iL,Function.comp_def]
theorem bV.ints {l:List Nat} (h:bV w g l):aaK w (some ⟨g,0,none⟩) (iL l):=fun k hk=>by
 rw[ba] at hk;refine⟨g,0,rfl,h.lt,?_⟩;rw[bT,h.cell k hk];simp[iL]
end Go.Proofs.YtdnhgjeihdllbaaGreatDoor
