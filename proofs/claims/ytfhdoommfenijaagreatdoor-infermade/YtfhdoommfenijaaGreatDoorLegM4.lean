/- Part4: part 4. -/
import Derived.Test.YtfhdoommfenijaaGreatDoorLegM3
set_option maxRecDepth 100000
set_option maxHeartbeats 400000000
set_option linter.unusedSimpArgs false
set_option linter.unusedVariables false
namespace Go.Proofs.YtfhdoommfenijaaGreatDoor
open Go.RowKit Go.Shelf
variable {S us vs ws:List Nat} {K k u v:Nat} {ok:Nat ->Bool} {f h:Nat ->Nat}
theorem acC (p q:Rat):p<=Gj true p q/\q<=Gj true p q:=by
 simp only[Gj,if_true];by_cases h:p<q
 ·rw[aA h];exact⟨Rat.le_of_lt h,BZ⟩
 ·rw[aB h];exact⟨BZ,BW.1 h⟩
theorem Qi (g:Nat ->Rat):∀ {k x:Nat},x<=k ->g x<=j9 true g k
 |0,x,h=>by rw[Nat.le_zero.1 h];exact BZ
 |k+1,x,h=>by
  rw[j9];rcases cF k x with a |a
  ·rw[show x=k+1 from by omega];exact(acC _ _).2
  ·exact DT (Qi g a) (acC _ _).1
theorem Jl (g:Nat ->Rat):∀k,∃x,x<=k/\j9 true g k=g x
 |0=>⟨0,ar _,rfl⟩
 |k+1=>by
  obtain⟨x,a,e⟩:=Jl g k;rw[j9];simp only[Gj,if_true];by_cases h:j9 true g k<g (k+1)
  ·rw[aA h];exact⟨k+1,ar _,rfl⟩
  ·rw[aB h];exact⟨x,al,e⟩
theorem akf {A:Rat} (a:0<=A) (g:Nat ->Rat) (k:Nat):j9 true (fun x=>A*g x) k=A*j9 true g k:=by
 refine Rat.le_antisymm ?_ ?_
 ·obtain⟨x,h,e⟩:=Jl (fun x=>A*g x) k;rw[e];exact Rat.mul_le_mul_of_nonneg_left (Qi g h) a
 ·obtain⟨x,h,e⟩:=Jl g k;rw[e];exact Qi (fun x=>A*g x) h
theorem aac (f:Nat ->Nat) (v:Nat):aV f v (f v)=f:=by
 funext u;rw[aV];by_cases h:u=v
 ·rw[aA h,h]
 ·rw[aB h]
theorem Pr (f:Nat ->Nat) (v x:Nat):aV f v x v=x:=by rw[aV,aA rfl]
theorem K4 (f:Nat ->Nat) (x:Nat) (h:u≠v):aV f v x u=f u:=by rw[aV,aB h]
def Mx (S vs:List Nat) (F:(Nat ->Nat) ->Rat) (f:Nat ->Nat) (m:Rat):Prop:=
 (∃g,Fit S g/\(∀u,¬u∈vs ->g u=f u)/\F g=m)/\∀g,Fit S g ->(∀u,¬u∈vs ->g u=f u) ->F g<=m
theorem Mx.unique {F:(Nat ->Nat) ->Rat} {m n:Rat} (h:Mx S vs F f m) (l:Mx S vs F f n):m=n:=by
 obtain⟨⟨g,a,b,c⟩,d⟩:=h;obtain⟨⟨g',e,i,j⟩,k⟩:=l;exact Rat.le_antisymm (c▸k g a b) (j▸d g' e i)
theorem Mx.same {F:(Nat ->Nat) ->Rat} {m:Rat} (h:Mx S vs F f m) (e:∀u,u∈vs↔u∈ws):Mx S ws F f m:=by
 obtain⟨⟨g,a,b,c⟩,d⟩:=h;exact⟨⟨g,a,fun u i=>b u fun h=>i ((e u).1 h),c⟩,fun g a b=>d g a fun u i=>b u fun h=>i ((e u).2 h)⟩
def elimM (S:List Nat):List Nat ->((Nat ->Nat) ->Rat) ->(Nat ->Nat) ->Rat
 |[],F=>F
 |v::vs,F=>elimM S vs fun f=>j9 true (fun x=>F (aV f v x)) (sz S v - 1)
theorem afg (p:Pos S):∀(vs:List Nat) (F:(Nat ->Nat) ->Rat) (f:Nat ->Nat),Fit S f ->Mx S vs F f (elimM S vs F f)
 |[],F,f,hf=>⟨⟨f,hf,fun _ _=>rfl,rfl⟩,fun g _ h=>by rw[show g=f from funext fun u=>h u l8];exact BZ⟩
 |v::vs,F,f,hf=>by
  have s:=iM p v;obtain⟨⟨g,j,o,e⟩,t⟩:=afg p vs (fun f=>j9 true (fun x=>F (aV f v x)) (sz S v - 1)) f hf;rw[elimM];refine⟨?_,fun k d Q=>?_⟩
  ·obtain⟨x,l,i⟩:=Jl (fun x=>F (aV g v x)) (sz S v - 1);refine⟨aV g v x,j.with al,fun u a=>?_,?_⟩
   ·rw[dR,not_or] at a;rw[K4 g x a.1];exact o u a.2
   ·rw[<- e];exact i.symm
  ·have b:=t (aV k v (f v)) (d.with (hf v)) (fun u a=>by
    by_cases h:u=v
    ·rw[h,Pr]
    ·rw[K4 k _ h];exact Q u (by rw[dR,not_or];exact⟨h,a⟩))
   have c:=Qi (fun x=>F (aV (aV k v (f v)) v x)) (k:=sz S v - 1) (x:=k v) (by have:=d v;omega);simp only[aab,aac] at b c;exact DT c b
theorem aj6 {P:List (List Nat×List Fr)} {q r:List Nat×List Fr} (p:Pos S) (c:∀g,Fit S g ->tQ S q g=pQ S g (P.filter fun t=>decide (v∈t.1))) (d:∀g,Fit S g ->tQ S r g=j9 true (fun x=>tQ S q (aV g v x)) (sz S v - 1)) (n:∀g,Fit S g ->∀t∈P,0<=tQ S t g) (a:Fit S f):
  pQ S f ((P.filter fun t=>!decide (v∈t.1))++[r])=j9 true (fun x=>pQ S (aV f v x) P) (sz S v - 1):=by
 have z:=iM p v
 have o:∀Q:List (List Nat×List Fr),(∀t∈Q,t∈P) ->0<=pQ S f Q:=fun Q=>by
  induction Q with
  |nil=>intro _;rw[pQ];decide
  |cons t Q ih=>intro h;rw[pQ];exact OY (n f a t (h t dQ)) (ih fun s e=>h s (eH _ e))
 rw[Uz,pQ,pQ,BX,d f a, <- akf (o _ fun t b=>(dB.1 b).1)];refine Qj true fun x i=>?_;have U:=Uy (S:=S) (f:=f) (v:=v) (x:=x) (P:=P.filter fun t=>!decide (v∈t.1)) (fun t b=>by simpa using (dB.1 b).2);rw[Ux S (aV f v x) (fun t=>decide (v∈t.1)) P,c _ (a.with al),U]
theorem akg {g:Nat ->Rat} (h:∀x,x<=k ->0<=g x):0<=j9 true g k:=by
 obtain⟨x,a,e⟩:=Jl g k;rw[e];exact h x a
structure tT (S us:List Nat) (A:Nat ->Bool) (F:(Nat ->Nat) ->Rat) (f h:Nat ->Nat):Prop where
 fit:Fit S h
 far:∀u,¬u∈us.filter A ->h u=f u
 top:∀g,Fit S g ->(∀u,¬u∈us.filter A ->g u=f u) ->F g<=F h
 low:∀g,Fit S g ->(∀u,¬u∈us.filter A ->g u=f u) ->F g=F h ->pos S h us<=pos S g us
theorem tT.nil {A:Nat ->Bool} {F:(Nat ->Nat) ->Rat} (a:Fit S f):tT S [] A F f f where
 fit:=a
 far _ _:=rfl
 top g _ h:=by rw[show g=f from funext fun u=>h u aE];exact BZ
 low _ _ _ _:=ar _
theorem tT.Mx {A:Nat ->Bool} {F:(Nat ->Nat) ->Rat} (H:tT S us A F f h):Mx S (us.filter A) F f (F h):=⟨⟨h,H.fit,H.far,rfl⟩,H.top⟩
theorem tT.known {A:Nat ->Bool} {F:(Nat ->Nat) ->Rat} (H:tT S us A F f h) (d:A v=false):tT S (v::us) A F f h:=by
 have e:(v::us).filter A=us.filter A:=Cg (by simp[d]);have n:¬v∈us.filter A:=fun h=>by simp[dB,d] at h
 refine⟨H.fit,by rw[e];exact H.far,by rw[e];exact H.top,by rw[e];intro g a b c;rw[Jj,Jj,b v n,H.far v n];exact Nat.add_le_add_left (H.low g a b c) _⟩
theorem tT.chosen {A:Nat ->Bool} {F:(Nat ->Nat) ->Rat} {x:Nat} {M:Nat ->Rat} (i:∀y,y<sz S v ->Go.Proofs.YtfhdoommfenijaaGreatDoor.Mx S (us.filter A) F (aV f v y) (M y)) (q:x<sz S v) (h1:∀y,y<sz S v ->M y<=M x) (k:∀y,y< x ->M y<M x) (o:¬v∈us) (H:tT S us A F (aV f v x) h) (p:A v=true):tT S (v::us) A F f h:=by
 have e:(v::us).filter A=v::us.filter A:=Cf p;have r:¬v∈us.filter A:=fun h=>o (dB.1 h).1;have j:h v=x:=by rw[H.far v r,Pr]
 have m:F h=M x:=H.Mx.unique (i x q)
 have J:∀g:Nat ->Nat,(∀u,¬u∈v::us.filter A ->g u=f u) ->∀u,¬u∈us.filter A ->g u=aV f v (g v) u:=fun g b u d=>by
  by_cases h:u=v
  ·rw[h,Pr]
  ·rw[K4 f _ h];exact b u (by rw[dR,not_or];exact⟨h,d⟩)
 refine⟨H.fit,?_,?_,?_⟩
 ·rw[e];intro u d;rw[dR,not_or] at d;rw[H.far u d.2,K4 f _ d.1]
 ·rw[e];intro g a b;rw[m];exact DT ((i (g v) (a v)).2 g a (J g b)) (h1 _ (a v))
 ·rw[e];intro g a b c;have n:M x<=M (g v):=by rw[<- m, <- c];exact(i (g v) (a v)).2 g a (J g b)
  rw[Jj,Jj,j];rcases S6 (g v) x with l |l |l
  ·exact absurd n (Rat.not_le.2 (k _ l))
  ·rw[l];refine Nat.add_le_add_left (H.low g a (fun u d=>?_) c) _;have:=J g b u d;rwa [l] at this
  ·have s:=rq (S:=S) h H.fit us;(have t:x*cnt S us+cnt S us<=g v*cnt S us:=by rw[<- Nat.succ_mul];exact j6 _ l);omega
theorem afK (l:List Fr):∀k,(∀y,y<=k ->aW (bG l y)<=aW (bG l (ig l k)))/\∀y,y<ig l k ->aW (bG l y)<aW (bG l (ig l k))
 |0=>⟨fun y h=>by rw[Nat.le_zero.1 h];exact BZ,fun y h=>absurd h (DW _)⟩
 |k+1=>by
  obtain⟨d,f⟩:=afK l k;rw[ig];by_cases h:c5 (aW (bG l (ig l k))) (aW (bG l (k+1)))<0
  ·rw[aA h];have t:=RN.1 h;have e:∀y,y<=k ->aW (bG l y)<aW (bG l (k+1)):=fun y b=>Rat.not_le.1 fun c=>Rat.not_le.2 t (DT c (d y b));refine⟨fun y b=>?_,fun y b=>e y al⟩;rcases cF k y with a |a
   ·rw[show y=k+1 from by omega];exact BZ
   ·exact Rat.le_of_lt (e y a)
  ·rw[aB h];refine⟨fun y b=>?_,f⟩;rcases cF k y with a |a
   ·rw[show y=k+1 from by omega];exact BW.1 fun c=>h (RN.2 c)
   ·exact d y a
def ud (ok:Nat ->Bool) (p:Nat ->Rat):Nat ->Option Nat×Rat
 |0=>(none,0)
 |k+1=>if ok k&&decide ((ud ok p k).2<p k) then(some k,p k) else ud ok p k
theorem abh {p:Nat ->Rat} {m:Rat} (a:0<m):∀ {k:Nat},(∀i,i< k ->ok i=true ->p i<m) ->(ud ok p k).2<m
 |0,_=>a
 |k+1,h=>by
  rw[ud];by_cases c:(ok k&&decide ((ud ok p k).2<p k))=true
  ·rw[aA c];exact h k (KR _) (by simpa using (Bool.and_eq_true_iff.1 c).1)
  ·rw[aB c];exact abh a fun i b=>h i al
theorem abf {p:Nat ->Rat}:∀ {k:Nat},(∀i,i< k ->ok i=true ->p i<=0) ->ud ok p k=(none,0)
 |0,_=>rfl
 |k+1,h=>by
  have b:=abf (k:=k) fun i d=>h i al;rw[ud,b];by_cases a:ok k=true
  ·rw[aB];rw[gX,eR];exact fun c=>BW.2 (h k (KR _) a) c.2
  ·rw[aB];rw[gX];exact fun c=>a c.1
theorem abg {p:Nat ->Rat} (b:ok K=true) (m:0<p K) (a:∀i,i< K ->ok i=true ->p i<p K):∀ {k:Nat},K< k ->(∀i,i< k ->ok i=true ->p i<=p K) ->ud ok p k=(some K,p K)
 |0,h,_=>absurd h (DW _)
 |k+1,h,h1=>by
  rw[ud];rcases cF K k with d |d
  ·rw[abg b m a d fun i f=>h1 i al,aB];rw[gX,eR];exact fun c=>BW.2 (h1 k (KR _) c.1) c.2
  ·have e:k=K:=al
   rw[e,aA];rw[gX,eR];exact⟨b,abh m a⟩
variable {R:List (List Fr)} {L:List (List Int)} {V:List Vr} {n:Nat}
theorem P6 (p:Pos S):∀ {vs:List Nat} {k:Nat},vs.Nodup ->k<cnt S vs ->pos S (aT S vs k) vs=k
 |[],k,_,h=>by
  have:k<1:=h;rw[show k=0 from by omega];rfl
 |u::vs,k,hn,h=>by
  rw[q7] at hn;have c:0<cnt S vs:=S7 (aS _) (rq (S:=S) (fun _=>0) (fun u=>iM p u) vs)
  have e:pos S (aT S (u::vs) k) vs=pos S (aT S vs (k % cnt S vs)) vs:=Al S fun v a=>by
   rw[aT,aB];exact fun e=>hn.1 (e▸a)
  rw[Jj,e,P6 p hn.2 (iw _ c),aT,aA rfl,dJ];exact Nat.div_add_mod _ _
theorem Qy (h0:aY V L R=0) (c:v<V.length) (d:Fit (ah V) f):0<=aW (ei V L R f v):=by
 have Q:=gD h0;have e:v<L.length:=by rw[Q.len];exact c
 have k:v<R.length:=by rw[Q.lenR];exact c
 have g:=Q.rows v e k;have p:=rq f d (ag L[v])
 have o:gY (eJ R[v] (sz (ah V) v) (pos (ah V) f (ag L[v])))=true:=by
  have b:js (iX (ah V) L R) V.length=0:=by
   rw[aY] at h0;by_cases b:L.length=V.length/\R.length=V.length
   ·rw[aA b] at h0;by_cases h:bH L=0
    ·rw[aA h] at h0;by_cases a:jB V=0
     ·rwa [aA a] at h0
     ·rw[aB a] at h0;exact absurd h0 a
    ·rw[aB h] at h0;exact absurd h0 h
   ·rw[aB b] at h0;exact absurd h0 a6
  have h:=M9 b v c;rw[iX,List.getD_eq_getElem?_getD,List.getElem?_eq_getElem k,List.getD_eq_getElem?_getD,List.getElem?_eq_getElem e] at h;simp only[zY] at h;rw[aA g] at h;by_cases a:((List.range (cnt (ah V) (ag L[v]))).all fun i=>gY (eJ R[v] (sz (ah V) v) i))=true
  ·rw[gW] at a;exact a _ (bJ.2 p)
  ·rw[aB a] at h;exact absurd h a6
 rw[gY,gX,gW] at o;have u:(pos (ah V) f (ag L[v])+1)*sz (ah V) v<=R[v].length:=by rw[g];exact j6 _ p
 have j:(pos (ah V) f (ag L[v])+1)*sz (ah V) v=pos (ah V) f (ag L[v])*sz (ah V) v+sz (ah V) v:=by rw[gC,kO]
 have q:(eJ R[v] (sz (ah V) v) (pos (ah V) f (ag L[v]))).length=sz (ah V) v:=by
  rw[eJ,eX,mY];omega
 have r:=d v;have m:=o.1 _ (bB (l:=eJ R[v] (sz (ah V) v) (pos (ah V) f (ag L[v]))) (n:=f v) al);rw[LQ e k,rA,qM al];have:=BW.1 (tW m);simpa only[eJ,Ce,KX] using this
theorem adu (h0:aY V L R=0) (a:Fit (ah V) f):∀ {n:Nat},n<=V.length ->0<=jQ V L R f n
 |0,_=>by rw[jQ];decide
 |n+1,h=>by rw[jQ];exact OY (adu h0 a al) (Qy h0 al a)
theorem anH (h0:aY V L R=0) (a:v<V.length) (h:Fit (ah V) f):0<=tQ (ah V) (ag (gU L v),gL V L R v) f:=by
 rw[TI h0 a h];exact Qy h0 a h
def tG (l:List (Nat×Nat)) (g:Nat ->Nat):Bool:=l.all fun p=>g p.1==p.2
theorem MA:∀(l:List (Nat×Nat)) (g:Nat ->Nat),kC l g=if tG l g then 1 else 0
 |[],_=>rfl
 |p::l,g=>by
  rw[kC,MA l g,CC,tG,tG,List.all_cons];by_cases h:g p.1=p.2
  ·rw[aA h,yf,sU.2 h,K0]
  ·rw[aB h,IH,BU.2 h,Bool.false_and];rfl
theorem Ek:∀ {l:List (Nat×Nat)},¬u∈l.map (·.1) ->∀g,dw l g u=g u
 |[],_,_=>rfl
 |p::l,h,g=>by
  rw[gV,dR,not_or] at h;rw[dw,Ek h.2,K4 g _ h.1]
theorem Jg {p:Nat×Nat}:∀ {l:List (Nat×Nat)},(l.map (·.1)).Nodup ->p∈l ->∀g,dw l g p.1=p.2
 |q::l,hn,h,g=>by
  rw[gV,q7] at hn;rcases dR.1 h with rfl |h
  ·rw[dw,Ek hn.1,Pr]
  ·exact Jg hn.2 h _
theorem PW:∀ {l:List (Nat×Nat)},(∀p∈l,p.2<sz S p.1) ->∀ {g:Nat ->Nat},Fit S g ->Fit S (dw l g)
 |[],_,_,hg=>hg
 |_::_,h,_,hg=>PW (fun q a=>h q (eH _ a)) (hg.with (h _ dQ))
theorem aio (a:Pos S) {F:(Nat ->Nat) ->Rat} {l:List (Nat×Nat)} (w:(l.map (·.1)).Nodup) (y:∀p∈l,p.1<n) (H:tT S (List.range n) (fun v=>!(l.map (·.1)).contains v) F (dw l fun _=>0) h):
  aT S (List.range n) (pos S h (List.range n))=h/\ud (fun k=>tG l (aT S (List.range n) k)) (fun k=>F (aT S (List.range n) k)) (cnt S (List.range n))=if 0<F h then(some (pos S h (List.range n)),F h) else(none,0):=by
 have s:∀u,u∈(List.range n).filter (fun v=>!(l.map (·.1)).contains v)↔u<n/\¬u∈l.map (·.1):=fun u=>by
  rw[dB,bJ,Ac, <- Ad,mh]
 have U:∀u,¬u< n ->dw l (fun _=>0) u=0:=fun u b=>Ek (fun m=>by
  obtain⟨p,a,e⟩:=bc.1 m;exact b (e▸y p a)) _
 have c:aT S (List.range n) (pos S h (List.range n))=h:=funext fun u=>by
  by_cases b:u<n
  ·exact Fh a H.fit qZ u (bJ.2 b)
  ·rw[Dd fun m=>b (bJ.1 m),H.far u fun m=>b ((s u).1 m).1,U u b]
 have J:∀k,tG l (aT S (List.range n) k)=true ->∀u,¬u∈(List.range n).filter (fun v=>!(l.map (·.1)).contains v) ->aT S (List.range n) k u=dw l (fun _=>0) u:=fun k q u b=>by
  by_cases f:u<n
  ·have x:u∈l.map (·.1):=Eb fun j=>b ((s u).2 ⟨f,j⟩);obtain⟨p,a,rfl⟩:=bc.1 x;rw[Jg w a];exact eq_of_beq (gW.1 q p a)
  ·rw[Dd fun m=>f (bJ.1 m),U u f]
 have I:∀k,k<cnt S (List.range n) ->Fit S (aT S (List.range n) k):=fun k q u=>o6 a _ _ u q;have z:=rq (S:=S) h H.fit (List.range n)
 have A:tG l h=true:=gW.2 fun p a=>by
  rw[H.far p.1 fun m=>((s _).1 m).2 (bc.2 ⟨p,a,rfl⟩),Jg w a];exact beq_self_eq_true _
 refine⟨c,?_⟩;have t:∀i,i<cnt S (List.range n) ->tG l (aT S (List.range n) i)=true ->F (aT S (List.range n) i)<=F h:=fun i d o=>H.top _ (I i d) (J i o);by_cases g:0<F h
 ·rw[aA g]
  have:=abg (ok:=fun k=>tG l (aT S (List.range n) k)) (p:=fun k=>F (aT S (List.range n) k)) (K:=pos S h (List.range n)) (by show tG l (aT S _ _)=true;rw[c];exact A) (by show 0<F (aT S _ _);rw[c];exact g) (fun i d o=>by
   show F _<F (aT S _ (pos S h (List.range n)));rw[c];refine Rat.not_le.1 fun j=>?_;(have r:i<cnt S (List.range n):=al);have f:=H.low _ (I i r) (J i o) (Rat.le_antisymm (t i r o) j);rw[P6 a qZ r] at f;omega) z (fun i d o=>by show F _<=F (aT S _ (pos S h (List.range n)));rw[c];exact t i d o)
  rw[this,c]
 ·rw[aB g];exact abf fun i d o=>DT (t i d o) (BW.1 g)
theorem aqa {A:Nat ->Prop}:∀ {l:List (Nat×Nat)},(∀p∈l,A p.1) ->zm A (kC l)
 |[],_=>fun _ _ _ _=>rfl
 |p::l,h=>fun v b g x=>by
  have n:∀q∈p::l,q.1≠v:=fun q a e=>b (e▸h q a);exact Yg n g
theorem aqc (h0:aY V L R=0) {s:List Nat} (n:s.Nodup) (t:∀v∈s,v<V.length) (j:mS L (·∈s)) {G:(Nat ->Nat) ->Rat} (i:zm (·∈s) G):
  bq (fun k=>G (aT (ah V) (List.range V.length) k)*jQ V L R (aT (ah V) (List.range V.length) k) V.length) (cnt (ah V) (List.range V.length))=fE (ah V) s (fun g=>G g*dT V L R g s) (fun _=>0):=by
 have c:=gD h0;have d:Pos (ah V):=by have:=c.fine.pos;rwa [eM] at this
 obtain⟨Q,_⟩:=acS h0 L.length (UG h0) (ar _)
 have p:(aZ (aL L) L.length).Perm (List.range V.length):=by
  rw[<- c.len];refine ab9 L.length _ Q (fun x m=>?_) (UG h0);have:=Gi (aL L) L.length x m;rwa [kW] at this
 have z:Fit (ah V) (fun _:Nat=>0):=fun u=>iM d u;have e:=acV (S:=ah V) (fun g=>G g*jQ V L R g V.length) (List.range V.length) (fun _=>0) qZ;rw[ny (h:=fun k=>G (aT (ah V) (List.range V.length) k)*jQ V L R (aT (ah V) (List.range V.length) k) V.length) fun k _=>by rw[aka]] at e
 have f:((aZ (aL L) L.length).filter fun v=>decide (v∈s)).Perm s:=by
  refine(KU (Q.filter _) n).2 fun v=>?_;rw[dB,eR];refine⟨fun h=>h.2,fun h=>⟨p.mem_iff.2 (bJ.2 (t v h)),h⟩⟩
 rw[e, <- LM _ p Q,Gk (G:=fun g=>G g*dT V L R g (aZ (aL L) L.length)) (fun g _=>by rw[LA,Un p]) _ _ z,Yi (b:=fun v=>decide (v∈s)) h0 (fun v a u l=>cY (j v (tW a) u l)) L.length (UG h0) (ar _) G (fun v a g x=>i v (fun h=>a (cY h)) g x) _ z,LM _ f (Q.filter _)];refine Gk (fun g _=>?_) _ _ z;rw[Un f]
theorem aju (h0:aY V L R=0) {s:List Nat} {l:List (Nat×Nat)} (n:s.Nodup) (t:∀v∈s,v<V.length) (c:mS L (·∈s)) (h:s.Perm (l.map (·.1)++ws)) (x:∀p∈l,p.2<sz (ah V) p.1):
  bq (fun k=>kC l (aT (ah V) (List.range V.length) k)*jQ V L R (aT (ah V) (List.range V.length) k) V.length) (cnt (ah V) (List.range V.length))=fE (ah V) ws (fun g=>dT V L R (dw l g) s) (fun _=>0):=by
 rw[aqc h0 n t c (aqa fun p a=>h.mem_iff.2 (dh.2 (.inl (bc.2 ⟨p,a,rfl⟩))))];exact acU l (fun g=>dT V L R g s) h n x _
variable {free:List Nat}
abbrev Tb:=List Int×List Fr
def tN (t:Tb):List Nat×List Fr:=(ag t.1,t.2)
structure dH (S:List Nat) (n:Nat) (t:Tb):Prop where
 up:Up t.1 n
 len:t.2.length=cnt S (ag t.1)
def Ar (S:List Nat) (a t:Tb):Tb:=(kT a.1 t.1,wL S (ag a.1) (ag t.1) (ag (kT a.1 t.1)) a.2 t.2)
def En:Tb:=([],[qF 1])
def allT (S:List Nat) (P:List Tb):Tb:=P.foldl (Ar S) En
def outT (S:List Nat) (v:Nat) (most:Bool) (t:Tb):Tb:=(bC t.1 v,sk S (ag t.1) (ag (bC t.1 (v:Int))) v most t.2)
def ie (S:List Nat) (v x:Nat) (t:Tb):Tb:=(bC t.1 v,y5 S (ag t.1) (ag (bC t.1 (v:Int))) v x t.2)
theorem Pu {a b:List Int}:∀u,u∈ag (kT a b)↔u∈ag a∨u∈ag b:=fun u=>by
 obtain⟨_,h⟩:=Lf a b;simp only[ag,bc];constructor
 ·rintro⟨x,c,e⟩;rcases (h x).1 c with h |h
  ·exact .inl ⟨x,h,e⟩
  ·exact .inr ⟨x,h,e⟩
 ·rintro(⟨x,c,e⟩ |⟨x,c,e⟩)
  ·exact⟨x,(h x).2 (.inl c),e⟩
  ·exact⟨x,(h x).2 (.inr c),e⟩
theorem Vf {a:List Int} (h:Up a n):∀u,u∈ag (bC a (v:Int))↔u∈ag a/\u≠v:=fun u=>by
 constructor
 ·intro b;refine⟨?_,fun e=>QA h (e▸b)⟩;obtain⟨x,c,e⟩:=bc.1 b;exact bc.2 ⟨x,(dB.1 c).1,e⟩
 ·rintro⟨b,d⟩;rcases Er h v u b with rfl |h
  ·exact absurd rfl d
  ·exact h
theorem dH.mul {a t:Tb} (h:dH S n a) (b:dH S n t):dH S n (Ar S a t):=⟨I0 h.up b.up,abZ ..⟩
theorem dH.one (S:List Nat) (n:Nat):dH S n En:=⟨il.2 ⟨fun _ h=>absurd h l8,List.Pairwise.nil⟩,rfl⟩
theorem dH.o {t:Tb} (h:dH S n t) (v:Nat) (m:Bool):dH S n (outT S v m t):=⟨vB h.up _,UC ..⟩
theorem dH.fix {t:Tb} (h:dH S n t) (v x:Nat):dH S n (ie S v x t):=⟨vB h.up _,ae4 ..⟩
theorem alb {a t:Tb} (p:Pos S) (b:dH S n a) (d:dH S n t) (c:Fit S f):tQ S (tN (Ar S a t)) f=tQ S (tN a) f*tQ S (tN t) f:=
 ahw p (I0 b.up d.up).nodup (fun u h=>(Pu u).2 (.inl h)) (fun u h=>(Pu u).2 (.inr h)) _ _ c
theorem ae0 (p:Pos S):∀ {P:List Tb} {a:Tb},dH S n a ->(∀t∈P,dH S n t) ->dH S n (P.foldl (Ar S) a)/\(∀u,u∈ag (P.foldl (Ar S) a).1↔u∈ag a.1∨∃t∈P,u∈ag t.1)/\∀f,Fit S f ->tQ S (tN (P.foldl (Ar S) a)) f=tQ S (tN a) f*pQ S f (P.map tN)
 |[],a,ha,_=>⟨ha,fun u=>⟨.inl,fun h=>h.elim id fun ⟨_,c,_⟩=>absurd c l8⟩,fun f _=>by rw[lx,pQ,BX];rfl⟩
 |t::P,a,ha,h=>by
  have c:=h t dQ;obtain⟨g,i,j⟩:=ae0 p (ha.mul c) (fun s b=>h s (eH _ b)) (P:=P);refine⟨g,fun u=>?_,fun f d=>?_⟩
  ·rw[Ea,i u];show u∈ag (kT a.1 t.1)∨_↔_;rw[Pu,or_assoc];refine or_congr Iff.rfl ⟨?_,?_⟩
   ·rintro(h |⟨s,b,h⟩)
    ·exact⟨t,dQ,h⟩
    ·exact⟨s,eH _ b,h⟩
   ·rintro⟨s,b,e⟩;rcases dR.1 b with rfl |b
    ·exact .inl e
    ·exact .inr ⟨s,b,e⟩
  ·rw[Ea,j f d,alb p ha c d,gV,pQ,zX]
theorem zg (p:Pos S) {P:List Tb} (h:∀t∈P,dH S n t):dH S n (allT S P)/\(∀u,u∈ag (allT S P).1↔∃t∈P,u∈ag t.1)/\∀f,Fit S f ->tQ S (tN (allT S P)) f=pQ S f (P.map tN):=by
 obtain⟨a,b,c⟩:=ae0 p (dH.one S n) h;refine⟨a,fun u=>(b u).trans ⟨fun h=>h.elim (fun h=>absurd h l8) id,.inr⟩,fun f d=>?_⟩;rw[allT,c f d];have:tQ S (tN En) f=1:=qJ 1;rw[this,yf]
def ml (S:List Nat) (v:Nat) (most:Bool) (P:List Tb):List Tb:=(P.filter fun t=>!decide (v∈ag t.1))++[outT S v most (allT S (P.filter fun t=>decide (v∈ag t.1)))]
structure PI (S:List Nat) (n:Nat) (free:List Nat) (P:List Tb) (F:(Nat ->Nat) ->Rat):Prop where
 ok:∀t∈P,dH S n t
 sub:∀t∈P,∀u∈ag t.1,u∈free
 sup:∀u∈free,∃t∈P,u∈ag t.1
 val:∀g,Fit S g ->pQ S g (P.map tN)=F g
def NN (S:List Nat) (P:List Tb):Prop:=∀t∈P,∀g,Fit S g ->0<=tQ S (tN t) g
theorem ach {g:Nat ->Nat} (a:Fit S g):∀ {P:List Tb},NN S P ->0<=pQ S g (P.map tN)
 |[],_=>by rw[lx,pQ];decide
 |t::P,h=>by rw[gV,pQ];exact OY (h t dQ g a) (ach a fun s b=>h s (eH _ b))
theorem PI.parts {P:List Tb} {F:(Nat ->Nat) ->Rat} (j:Pos S) (h:PI S n free P F) (v:Nat) (m:Bool):
  (∀t∈ml S v m P,dH S n t)/\(∀t∈ml S v m P,∀u∈ag t.1,u∈free.filter fun u=>!(u==v))/\∀u∈free.filter (fun u=>!(u==v)),∃t∈ml S v m P,u∈ag t.1:=by
 obtain⟨f,g,_⟩:=zg j (P:=P.filter fun t=>decide (v∈ag t.1)) (n:=n) fun t a=>h.ok t (dB.1 a).1;have i:∀u,u∈free.filter (fun u=>!(u==v))↔u∈free/\u≠v:=fun u=>by simp[dB]
 have r:=Vf (v:=v) f.up;refine⟨fun t a=>?_,fun t a u b=>?_,fun u b=>?_⟩
 ·rcases dh.1 a with a |a
  ·exact h.ok t (dB.1 a).1
  ·rw[dX.1 a];exact f.o v m
 ·rw[i];rcases dh.1 a with a |a
  ·obtain⟨a,c⟩:=dB.1 a;exact⟨h.sub t a u b,fun e=>by simp[<- e,b] at c⟩
  ·rw[dX.1 a] at b;obtain⟨b,d⟩:=(r u).1 b;obtain⟨s,k,b⟩:=(g u).1 b;exact⟨h.sub s (dB.1 k).1 u b,d⟩
 ·obtain⟨b,d⟩:=(i u).1 b;obtain⟨t,a,p⟩:=h.sup u b;by_cases c:v∈ag t.1
  ·exact⟨_,dh.2 (.inr (dX.2 rfl)),(r u).2 ⟨(g u).2 ⟨t,dB.2 ⟨a,cY c⟩,p⟩,d⟩⟩
  ·exact⟨t,dh.2 (.inl (dB.2 ⟨a,by simp[c]⟩)),p⟩
theorem PI.o {P:List Tb} {F:(Nat ->Nat) ->Rat} (p:Pos S) (h:PI S n free P F) (v:Nat):
  PI S n (free.filter fun u=>!(u==v)) (ml S v false P) (fun g=>bq (fun x=>F (aV g v x)) (sz S v)):=by
 obtain⟨a,b,c⟩:=h.parts p v false;obtain⟨e,w,m⟩:=zg p (P:=P.filter fun t=>decide (v∈ag t.1)) (n:=n) fun t o=>h.ok t (dB.1 o).1;refine⟨a,b,c,fun g i=>?_⟩;have j:(P.map tN).filter (fun t=>!decide (v∈t.1))=(P.filter fun t=>!decide (v∈ag t.1)).map tN:=by rw[O9];rfl
 have l:(P.map tN).filter (fun t=>decide (v∈t.1))=(P.filter fun t=>decide (v∈ag t.1)).map tN:=by rw[O9];rfl
 have y:=aj3 (S:=S) (f:=g) (v:=v) (P:=P.map tN) (q:=tN (allT S (P.filter fun t=>decide (v∈ag t.1)))) (r:=tN (outT S v false (allT S (P.filter fun t=>decide (v∈ag t.1))))) (fun k d=>by rw[l];exact m k d) (fun k d=>aay p (vB e.up _).nodup (Er e.up v) _ d) i;rw[j] at y;rw[ml,fg,List.map_singleton,y];exact ny fun x s=>h.val _ (i.with s)
theorem PI.most {P:List Tb} {F:(Nat ->Nat) ->Rat} (p:Pos S) (h:PI S n free P F) (j:NN S P) (v:Nat):
  PI S n (free.filter fun u=>!(u==v)) (ml S v true P) (fun g=>j9 true (fun x=>F (aV g v x)) (sz S v - 1))/\NN S (ml S v true P):=by
 obtain⟨a,b,c⟩:=h.parts p v true;obtain⟨o,E,w⟩:=zg p (P:=P.filter fun t=>decide (v∈ag t.1)) (n:=n) fun t d=>h.ok t (dB.1 d).1;have H:=iM p v;have z:(P.map tN).filter (fun t=>!decide (v∈t.1))=(P.filter fun t=>!decide (v∈ag t.1)).map tN:=by rw[O9];rfl
 have A:(P.map tN).filter (fun t=>decide (v∈t.1))=(P.filter fun t=>decide (v∈ag t.1)).map tN:=by rw[O9];rfl
 have m:∀k,Fit S k ->tQ S (tN (outT S v true (allT S (P.filter fun t=>decide (v∈ag t.1))))) k=j9 true (fun x=>tQ S (tN (allT S (P.filter fun t=>decide (v∈ag t.1)))) (aV k v x)) (sz S v - 1):=fun k i=>aaz p (vB o.up _).nodup (Er o.up v) _ i;refine⟨⟨a,b,c,fun g e=>?_⟩,fun t d g e=>?_⟩
 ·have y:=aj6 (S:=S) (f:=g) (v:=v) (P:=P.map tN) (q:=tN (allT S (P.filter fun t=>decide (v∈ag t.1)))) (r:=tN (outT S v true (allT S (P.filter fun t=>decide (v∈ag t.1))))) p (fun k i=>by rw[A];exact w k i) m (fun k i t d=>by
   obtain⟨s,l,rfl⟩:=bc.1 d;exact j s l k i) e
  rw[z] at y;rw[ml,fg,List.map_singleton,y];exact Qj true fun x D=>h.val _ (e.with al)
 ·rcases dh.1 d with d |d
  ·exact j t (dB.1 d).1 g e
  ·rw[dX.1 d,m g e];refine akg fun x D=>?_;rw[w _ (e.with al)];exact ach (e.with al) fun s l=>j s (dB.1 l).1
theorem PI.fix {P:List Tb} {F:(Nat ->Nat) ->Rat} (p:Pos S) (h:PI S n free P F) {x:Nat} (j:x<sz S v):
  PI S n (free.filter fun u=>!(u==v)) (P.map (ie S v x)) (fun g=>F (aV g v x)):=by
 have f:∀u,u∈free.filter (fun u=>!(u==v))↔u∈free/\u≠v:=fun u=>by simp[dB]
 refine⟨fun t c=>?_,fun t c u a=>?_,fun u a=>?_,fun g i=>?_⟩
 ·obtain⟨s,b,rfl⟩:=bc.1 c;exact(h.ok s b).fix v x
 ·obtain⟨s,b,rfl⟩:=bc.1 c;obtain⟨a,e⟩:=(Vf (h.ok s b).up u).1 a;exact(f u).2 ⟨h.sub s b u a,e⟩
 ·obtain⟨a,e⟩:=(f u).1 a;obtain⟨t,c,R⟩:=h.sup u a;exact⟨_,bc.2 ⟨t,c,rfl⟩,(Vf (h.ok t c).up u).2 ⟨R,e⟩⟩
 ·rw[<- h.val _ (i.with j)]
  have:∀ {Q:List Tb},(∀t∈Q,dH S n t) ->pQ S g ((Q.map (ie S v x)).map tN)=pQ S (aV g v x) (Q.map tN):=fun {Q}=>by
   induction Q with
   |nil=>intro _;rfl
   |cons t Q ih=>
    intro d;rw[gV,gV,gV,pQ,pQ,ih fun s b=>d s (eH _ b)];congr 1
    exact TJ p (vB (d t dQ).up _).nodup (Er (d t dQ).up v) _ i
  exact this h.ok
theorem NN.fix {P:List Tb} (p:Pos S) (o:∀t∈P,dH S n t) (h:NN S P) {x:Nat} (d:x<sz S v):NN S (P.map (ie S v x)):=fun t c g b=>by
 obtain⟨s,a,rfl⟩:=bc.1 c;have e:tQ S (tN (ie S v x s)) g=tQ S (tN s) (aV g v x):=TJ p (vB (o s a).up _).nodup (Er (o s a).up v) _ b;rw[e];exact h s a _ (b.with d)
variable {Q:List (Value×Value)} {l:List Int} {P:List Tb} {cb cc m:Nat} {a:Option Addr} {v' x y:Value} {W' w w':World}
def di (w:World) (x y:Value) (t:Tb):Prop:=∃b c cb cc,x=.slice b t.1.length cb/\y=.slice c t.2.length cc/\az w b t.1/\cG w c t.2/\(b=none ->cb=0)
theorem di.aa {t:Tb} (h:di w x y t) (a:c8 w w'):di w' x y t:=by
 obtain⟨b,c,cb,cc,d,e,f,g,i⟩:=h;exact⟨b,c,cb,cc,d,e,f.aa a,g.aa a,i⟩
def eC (w:World) (a:Option Addr) (P:List Tb):Prop:=∀k (h:k<P.length),∃g o x y,a=some ⟨g,o,none⟩/\g<w.heap.size/\w.cell? ⟨g,o+k*2,none⟩=some x/\w.cell? ⟨g,o+k*2+1,none⟩=some y/\di w x y P[k]
theorem eC.aa (h:eC w a P) (b:c8 w w'):eC w' a P:=fun k j=>by
 obtain⟨g,o,x,y,d,c,e,f,i⟩:=h k j;exact⟨g,o,x,y,d,aU c b.size,(b.cell (p:=⟨g,_,none⟩) c).trans e,(b.cell (p:=⟨g,_,none⟩) c).trans f,i.aa b⟩
def eI:List (Value×Value) ->List Value
 |[]=>[]
 |p::l=>p.1::p.2::eI l
theorem I4:∀l,(eI l).length=l.length*2
 |[]=>rfl
 |p::l=>by
  show (eI l).length+1+1=(l.length+1)*2;rw[I4 l];omega
theorem Lh (m:List (Value×Value)):∀l,eI (l++m)=eI l++eI m
 |[]=>rfl
 |q::l=>by
  show _::_::eI (l++m)=_::_::(eI l++eI m);rw[Lh m l]
theorem Lg:∀(l:List (Value×Value)) (k:Nat) (h:k<l.length),(eI l)[k*2]? =some l[k].1/\(eI l)[k*2+1]? =some l[k].2
 |p::l,0,_=>⟨rfl,rfl⟩
 |p::l,k+1,h=>by
  have:=Lg l k (by simpa using h);rw[show (k+1)*2=k*2+1+1 by omega];exact this
def fV (R:Nat) (t:Tb) (p:Value×Value):Prop:=(∀g o n c,p.1=.slice (some ⟨g,o,none⟩) n c ->t.1≠[] ->g≠R)/\∀g o n c,p.2=.slice (some ⟨g,o,none⟩) n c ->t.2≠[] ->g≠R
structure lg (w:World) (B:Nat) (v:Value) (Q:List (Value×Value)) (P:List Tb):Prop where
 len:Q.length=P.length
 own:w.ownsRow B 58 2 v P.length (eI Q)
 val:∀k (h:k<P.length) (h':k<Q.length),di w Q[k].1 Q[k].2 P[k]
 far:∀R,v.ownBlock=some R ->∀k (h:k<P.length) (h':k<Q.length),fV R P[k] Q[k]
theorem lg.nil (w:World) (B:Nat):lg w B (.slice none 0 0) [] []:=⟨rfl,⟨rfl,.inl ⟨rfl,rfl⟩⟩,(fun k h=>absurd h aE),fun R e=>by cases e⟩
theorem lg.row {B:Nat} {v:Value} (h:lg w B v Q P):∃a c,v=.slice a P.length c/\eC w a P:=by
 rcases h.own.2 with ⟨d,i⟩ |⟨g,cap,x,d,i,l,p,r,s,n⟩
 ·exact⟨none,0,by rw[d,i],fun k b=>absurd b al⟩
 ·refine⟨_,cap,d,fun k b=>?_⟩;have f:k<Q.length:=by rw[h.len];exact b
  obtain⟨q,o⟩:=Lg Q k f;have y:=I4 Q
  have m:∀j u,(eI Q)[j]? =some u ->w.cell? ⟨g,j,none⟩=some u:=fun j u e=>by
   rw[bZ w g j _ _ (0,0) l];have t:=(mZ.1 e).1;rw[<- n,r7,aA (by have:=h.len;omega),vr] at e;exact e
  exact⟨g,0,_,_,rfl,(dS.1 l).1,by rw[bM];exact m _ _ q,by rw[bM];exact m _ _ o,h.val k b f⟩
theorem Jt {W:World} {R:Option Nat} {b:Option Addr} (h:az W b l) (n:∀g o,b=some ⟨g,o,none⟩ ->l≠[] ->some g≠R) (a:W.grownBy W' R):az W' b l:=fun k O=>by
 obtain⟨g,o,e,c,d⟩:=h k O;have f:=n g o e (fun e=>by rw[e] at O;exact absurd O aE);exact⟨g,o,e,aU c a.size,(lu (a.block g c f)).trans d⟩
theorem an4 {W:World} {R:Option Nat} {b:Option Addr} {l:List Fr} (h:cG W b l) (n:∀g o,b=some ⟨g,o,none⟩ ->l≠[] ->some g≠R) (f:W.grownBy W' R):cG W' b l:=fun k O=>by
 obtain⟨g,o,e,d,i,j,m⟩:=h k O;have p:=n g o e (fun e=>by rw[e] at O;exact absurd O aE);have c:=f.block g d p;exact⟨g,o,e,aU d f.size,(lu (a:=⟨g,_,none⟩) c).trans i,(lu (a:=⟨g,_,none⟩) c).trans j,(lu (a:=⟨g,_,none⟩) c).trans m⟩
theorem di.keepR {W:World} {R:Option Nat} {t:Tb} (h:di W x y t) (f:∀r,R=some r ->fV r t (x,y)) (d:W.grownBy W' R):di W' x y t:=by
 obtain⟨b,c,cb,cc,rfl,rfl,i,j,k⟩:=h;refine⟨b,c,cb,cc,rfl,rfl,Jt i (fun g o e n a=>?_) d,an4 j (fun g o e n a=>?_) d,k⟩
 ·exact(f g a.symm).1 g o _ _ (by rw[e]) n rfl
 ·exact(f g a.symm).2 g o _ _ (by rw[e]) n rfl
theorem di.lt {t:Tb} (h:di w x y t) {R:Nat} (p:w.heap.size<=R):fV R t (x,y):=by
 obtain⟨b,c,cb,cc,rfl,rfl,i,j,m⟩:=h;refine⟨fun g o n f e d k=>?_,fun g o n f e d k=>?_⟩
 ·injection e with e1 _ _;obtain⟨g',o',a,A,_⟩:=i 0 (by cases ht:t.1 with |nil=>exact absurd ht d |cons x l=>simp);rw[e1] at a;cases a;omega
 ·injection e with e1 _ _;obtain⟨g',o',a,A,_⟩:=j 0 (by cases ht:t.2 with |nil=>exact absurd ht d |cons x l=>simp);rw[e1] at a;cases a;omega
theorem lg.push {B:Nat} {v:Value} {t:Tb} (h:lg w B v Q P) (c:di w x y t) (f:∀R,v.ownBlock=some R ->fV R t (x,y)) (o:w'.ownsRow B 58 2 v' (P.length+1) (eI Q++[x,y])) (b:w.grownBy w' v.ownBlock) (n:v'.ownBlock=v.ownBlock∨∀k,v'.ownBlock=some k ->w.heap.size<=k):lg w' B v' (Q++[(x,y)]) (P++[t]):=by
 have d:(P++[t]).length=P.length+1:=aE
 refine⟨by simp[h.len],by rw[d,Lh];exact o,fun k i z=>?_,fun R a k i z=>?_⟩
 ·by_cases e:k<P.length
  ·have g:k<Q.length:=by rw[h.len];exact e
   rw[r6 g,r6 e];exact(h.val k e g).keepR (fun r j=>h.far r j k e g) b
  ·have g:¬k<Q.length:=by rw[h.len];exact e
   rw[vo al,vo al];simp only[O7];exact c.keepR f b
 ·by_cases e:k<P.length
  ·have g:k<Q.length:=by rw[h.len];exact e
   rw[r6 g,r6 e];rcases n with n |n
   ·exact h.far R (by rw[<- n];exact a) k e g
   ·exact(h.val k e g).lt (n R a)
  ·have g:¬k<Q.length:=by rw[h.len];exact e
   rw[vo al,vo al];simp only[O7];rcases n with n |n
   ·exact f R (by rw[<- n];exact a)
   ·exact c.lt (n R a)
theorem lg.under {B:Nat} {v:Value} (h:lg w B v Q P) (b:c8 w w'):lg w' B v Q P:=
 ⟨h.len,Jk h.own (Dg.aa b),fun k a c=>(h.val k a c).aa b,h.far⟩
theorem lg.lt {B:Nat} {v:Value} (h:lg w B v Q P):∀R,v.ownBlock=some R ->B<=R/\R<w.heap.size:=fun R a=>by
 rcases h.own.2 with ⟨b,c⟩ |⟨g,cap,r,b,c,d,_⟩
 ·rw[b] at a;cases a
 ·rw[b] at a;cases a;exact⟨c,(dS.1 d).1⟩
theorem fV.new {B R:Nat} {t:Tb} {b c:Option Addr} (h:eV B b cb) (d:eV B c cc) (i:R<B):fV R t (.slice b n cb,.slice c m cc):=
 ⟨fun g o f a e _=>by
  injection e with e1 _ _;have:=h.2 g o e1;omega,fun g o f a e _=>by
  injection e with e1 _ _;have:=d.2 g o e1;omega⟩
theorem Tryz.infoTable:(Tryz.prog.info? 58).map (fun i=>(i.zero,i.size,i.bytes))=some (some (.agg #[.slice none 0 0,.slice none 0 0]),2,48):=ao
variable {i j:Nat}
def sq (l M:List Int):List Int:=l.filter fun x=>!gJ x M
theorem alA {M:List Int} (h:i<l.length):sq (l.take (i+1)) M=sq (l.take i) M++if gJ l[i] M=true then[] else[l[i]]:=by
 rw[fL h,sq,sq,Ch];congr 1
 cases e:gJ l[i] M
 ·simp[e]
 ·simp[e]
theorem ai8 (a b:Option Addr) (ca cb:Nat) (l M:List Int) (w:World) (v:az w a l) (n:az w b M) (U:l.length<=1000) (ab:M.length<=1000):
  c6 8 #[.slice a l.length ca,.slice b M.length cb] w fun e w'=>∃x,e=.returned x/\bA w' w.heap.size x (sq l M)/\c8 w w':=by
 obtain⟨X,O,ad,ae,ai⟩:=dW Tryz.infoInt;have E:=hid v;have z:=hid (fun (k:Int) (V:World) (h:az V b M)=>PQ k b cb M V h al);have A:=hid n;have j:=hid (fun (i:Nat) (h:i<l.length)=>alA (M:=M) h);have t:=hid (fun i=>show (sq (l.take i) M).length<=l.length from aR (pJ _ _) (by rw[eX];omega));have s:sq (l.take l.length) M=sq l M:=by rw[fD]
 have y:sq (l.take 0) M=[]:=by rw[List.take_zero];rfl
 rw[<- s];clear v n s;generalize d:(fun i=>sq (l.take i) M)=F at *;have m:∀i,sq (l.take i) M=F i:=fun i=>by rw[<- d]
 simp only[m] at j t y⊢;clear d m;go_enter Tryz.func8,Tryz.ntmps8;go_wp2_with fail
 go_loopw [5,6] (fun xv iv wr=>∃i:Nat,i<=l.length/\iv=.int .i64 i/\Hid (bA wr w.heap.size xv (F i))/\Hid (c8 w wr)) (fun _ iv _=>l.length - (intOf iv).toNat)
 case atStart=>exact⟨0,aS _,rfl,by rw[y];exact⟨rfl,.inl ⟨rfl,rfl⟩⟩,aw _ _⟩
 case round=>
  obtain⟨i,Q,rfl,R,H⟩:=hrel;by_cases q:i<l.length
  ·obtain⟨g,o,rfl,d,P⟩:=(E.o.aa H.o) i q;have T:=j.o i q;have Z:=t.o i;generalize l[i]=u at *;go_wp2_with fail
   refine(z.o u _ (A.o.aa H.o)).af ?_;rintro e f ⟨rfl,rfl⟩;cases hin:gJ u M with
   |true=>
    rw[hin,aA rfl,F9] at T;have D:=hid T;clear T hin;go_wp2;go_roundw
    case rel=>exact⟨i+1,al,bd,by rw[D.o];exact R,H⟩
    case measure=>simp[intOf];omega
   |false=>
    rw[hin,aB a6] at T;have D:=hid T;have L:=hid R.o.own;have J:Hid (bA (f.alloc (.cells #[.int .i64 u] 3)) w.heap.size _ (F i)):=F0 R.o _;have c:=hid (H.o.alloc H.o.size (.cells #[.int .i64 u] 3));have S:=hid (UR f u);clear T hin;go_wp2_with (at_builtin;refine wI rfl _ _ rfl w.heap.size _ (F i) [u] rfl J.o (some ⟨f.heap.size,0,none⟩) 1 rfl S.o (fun e=>by cases e) (by simp;omega) c.o.size ?_;intro v' Y r p)
    have K:=hid r;have I:=hid (c.o.grown p c.o.size L.o);clear r p;go_roundw
    case rel=>exact⟨i+1,al,bd,by rw[D.o];exact K,I⟩
    case measure=>simp[intOf];omega
  ·obtain rfl:i=l.length:=al
   go_wp2;go_ret;exact⟨_,rfl,R.o,H.o⟩
theorem ag7 (n:Nat):Up [] n:=il.2 ⟨fun x h=>(by cases h),List.Pairwise.nil⟩
theorem Up.wider {L:List Int} (h:Up L i) (S:i<=j):Up L j:=il.2 ⟨fun x a=>by have:=(il.1 h).1 x a;omega,(il.1 h).2⟩
theorem Up.snoc {L:List Int} (h:Up L i):Up (L++[(i:Int)]) (i+1):=by
 refine il.2 ⟨fun x a=>?_,?_⟩
 ·rcases dh.1 a with a |a
  ·have:=(il.1 h).1 x a;omega
  ·have:=dX.1 a;omega
 ·rw[List.pairwise_append];refine⟨(il.1 h).2,O2 _ _,fun x a y b=>?_⟩;have:=(il.1 h).1 x a;have:=dX.1 b;omega
theorem aiU (a:Option Addr) (ca n:Nat) (l:List Int) (w:World) (v:az w a l) (r:∀x∈l, -9223372036854775808<=x/\x<=9223372036854775807) (O:l.length<=140737488355328) (X:1<=n) (ae:n<=1000):
  c6 5 #[.slice a l.length ca,.int .i64 (n:Nat)] w fun e w'=>∃x L,e=.returned x/\bA w' w.heap.size x L/\Up L n/\c8 w w':=by
 obtain⟨Q,E,ai,aj,ak⟩:=dW Tryz.infoInt;have V:=hid v;have R:=hid r;clear v r;go_enter Tryz.func5,Tryz.ntmps5;go_wp2_with fail
 go_loopw [5,6] (fun xv iv wr=>∃(i:Nat) (L:List Int),i<=n/\iv=.int .i64 i/\Hid (Up L i)/\Hid (bA wr w.heap.size xv L)/\Hid (c8 w wr)) (fun _ iv _=>n - (intOf iv).toNat)
 case atStart=>exact⟨0,[],aS _,rfl,ag7 0,⟨rfl,.inl ⟨rfl,rfl⟩⟩,aw _ _⟩
 case round=>
  obtain⟨i,L,J,rfl,U,H,d⟩:=hrel;by_cases ad:i<n
  ·go_wp2_with fail
   have I:Hid (bA wr w.heap.size u5 L):=H;go_loopw [7,8] (fun bv jv wq=>∃(j:Nat) (b:Bool),j<=l.length/\jv=.int .i64 j/\bv=.bool b/\Hid (bA wq w.heap.size u5 L)/\Hid (c8 w wq)) (fun _ jv _=>l.length - (intOf jv).toNat)
   case atStart=>exact⟨0,false,aS _,rfl,rfl,H,d⟩
   case round=>
    obtain⟨j,b,M,rfl,rfl,K,c⟩:=hrel;clear H d I;by_cases f:j<l.length
    ·cases b with
     |true=>
      go_wp2;go_roundw
      case rel=>exact⟨j+1,true,al,bd,rfl,K,c⟩
      case measure=>simp[intOf];omega
     |false=>
      obtain⟨g,o,rfl,F,q⟩:=(V.o.aa c.o) j f;have p:=R.o l[j] (bB f);generalize l[j]=z at *;go_wp2_with fail
      refine(PO z n _ p.1 p.2 al al).af ?_;rintro e Y ⟨rfl,h⟩;generalize wM z n=P at *;have D:=hid (K.o.aa h);have s:=hid (c.o.trans (h.af c.o.size));clear K c h q;go_wp2;go_roundw
      case rel=>exact⟨j+1,_,al,bd,rfl,D,s⟩
      case measure=>simp[intOf];omega
    ·obtain rfl:j=l.length:=al
     cases b with
     |false=>
      go_wp2;go_roundw
      case rel=>exact⟨i+1,L,al,bd,U.o.wider al,K,c⟩
      case measure=>simp[intOf];omega
     |true=>
      have ab:=U.o.length;have A:=hid K.o.own;have u:Hid (bA (wr.alloc (.cells #[.int .i64 (i:Nat)] 3)) w.heap.size _ L):=F0 K.o _;have T:=hid (c.o.alloc c.o.size (.cells #[.int .i64 (i:Nat)] 3));have S:=hid (UR wr (i:Nat));go_wp2_with (at_builtin;refine wI rfl _ _ rfl w.heap.size _ L [((i:Nat):Int)] rfl u.o (some ⟨wr.heap.size,0,none⟩) 1 rfl S.o (fun e=>by cases e) (by simp;omega) T.o.size ?_;intro v' Z m k)
      have y:=hid m;have t:=hid (T.o.grown k T.o.size A.o);clear m k;go_roundw
      case rel=>exact⟨i+1,_,al,bd,U.o.snoc,y,t⟩
      case measure=>simp[intOf];omega
  ·obtain rfl:i=n:=al
   go_wp2;go_ret;exact⟨_,L,rfl,H.o,U.o,d.o⟩
structure af5 (n:Nat) (ord:Nat ->Nat) (nr:Nat ->Nat ->Nat ->Prop):Prop where
 all:∀v,v< n ->∃i,i<n/\ord i=v
 inj:∀i j,i< n ->j< n ->ord i=ord j ->i=j
 lt:∀u w,nr 0 u w ->u<n/\w<n
 self:∀u,¬nr 0 u u
 symm:∀u w,nr 0 u w ->nr 0 w u
 step:∀i,i< n ->∀u w,nr (i+1) u w↔u≠ord i/\w≠ord i/\u≠w/\(nr i u w∨nr i u (ord i)/\nr i (ord i) w)
variable {s:List Nat}
theorem Qq:∀ {l m:List Nat},l.Nodup ->(∀x∈l,x∈m) ->l.length<=m.length
 |[],_,_,_=>aS _
 |a::l,m,hn,hs=>by
  have b:a∈m:=hs a (dQ ..);have h:=q7.1 hn;have:=Qq (l:=l) (m:=m.erase a) h.2 (fun x c=>(List.mem_erase_of_ne (fun e=>h.1 (by rw[<- e];exact c))).2 (hs x (eH _ c)));rw[Tf b] at this;have p:=List.length_pos_of_mem b;show l.length+1<=m.length;omega
def lD (P:List (List Nat)) (n i:Nat):Nat:=kz (bF P n i).nei (bF P n i).lft
theorem aeU:∀ {k x:Nat},x< k ->x∈s ->∃b m,kf f s k=some (b,m)
 |k+1,x,hx,hs=>by
  rw[kf];by_cases a:k∈s
  ·rw[aA a];cases kf f s k with
   |none=>exact⟨_,_,rfl⟩
   |some p=>
    obtain⟨b,m⟩:=p;simp only;split
    ·exact⟨_,_,rfl⟩
    ·exact⟨_,_,rfl⟩
  ·rw[aB a];exact aeU (by rcases cF x k with h |h;exact h;exact absurd (by rw[show k=x by omega];exact hs) a) hs
theorem aou {P:List (List Nat)} {x:Nat} (a:x<8) (h:x∈s):kz P s∈s:=by
 obtain⟨b,m,e⟩:=aeU (f:=rB P) a h;rw[kz,e];exact Rx e
structure FI (P:List (List Nat)) (n k:Nat):Prop where
 left:∀x,x∈(bF P n k).lft↔x<n/\∀i,i< k ->lD P n i≠x
 inj:∀i j,i< k ->j< k ->lD P n i=lD P n j ->i=j
 lt:∀i,i< k ->lD P n i<n
 sym:∀u,u∈(bF P n k).lft ->∀w,w∈(bF P n k).nei.getD u [] ->w∈(bF P n k).lft/\u∈(bF P n k).nei.getD w []/\u≠w
theorem FI.here {P:List (List Nat)} (h:FI P n k) (f:k<n) (d:n<=8):lD P n k∈(bF P n k).lft:=by
 have c:∃x,x∈(bF P n k).lft:=by
  refine Eb fun o=>?_
  have l:∀x∈List.range n,x∈(List.range k).map (lD P n):=fun x a=>by
   refine Eb fun m=>o ⟨x,(h.left x).2 ⟨bJ.1 a,fun i b e=>m (bc.2 ⟨i,bJ.2 b,e⟩)⟩⟩
  have:=Qq qZ l;rw[ly,dD,ly] at this;omega
 obtain⟨x,a⟩:=c;exact aou (by have:=((h.left x).1 a).1;omega) a
theorem aht {P:List (List Nat)} (h:u<P.length):(ub P v).getD u []=if u<8/\u∈P.getD v [] then Ao P v u else P.getD u []:=by
 rw[List.getD_eq_getElem?_getD,List.getElem?_eq_getElem (by rw[ub,I2];exact h)];simp[ub,iK]
theorem FI.next {P:List (List Nat)} (j:uH n P) (h:FI P n k) (l:k<n) (i:n<=8) {w:Nat} (f:u∈(bF P n k).lft) (_hne:u≠lD P n k):w∈(bF P n (k+1)).nei.getD u []↔w≠lD P n k/\u≠w/\(w∈(bF P n k).nei.getD u []∨lD P n k∈(bF P n k).nei.getD u []/\w∈(bF P n k).nei.getD (lD P n k) []):=by
 have m:=(RA j k).1;have I:u<n:=((h.left u).1 f).1;have v:=h.here l i;show w∈(ub (bF P n k).nei (lD P n k)).getD u []↔_;rw[aht (by rw[m.len];exact I)];by_cases d:u∈(bF P n k).nei.getD (lD P n k) []
 ·rw[aA ⟨al,d⟩,UT];have s:=(h.sym _ v u d).2.1;exact⟨fun ⟨a,b,c⟩=>⟨c,fun e=>b e.symm,a.imp id fun a=>⟨s,a⟩⟩,fun ⟨a,b,c⟩=>⟨c.imp id fun c=>c.2,fun e=>b e.symm,a⟩⟩
 ·rw[aB fun e=>d e.2];constructor
  ·intro g;have s:=h.sym u f w g;exact⟨fun e=>d (by rw[<- e];exact s.2.1),s.2.2,.inl g⟩
  ·rintro⟨_,_,c |c⟩
   ·exact c
   ·exact absurd (h.sym u f _ c.1).2.1 d
theorem FI.step {P:List (List Nat)} (q:uH n P) (h:FI P n k) (o:k<n) (l:n<=8):FI P n (k+1):=by
 have v:=h.here o l
 have V:∀x,x∈(bF P n (k+1)).lft↔x∈(bF P n k).lft/\x≠lD P n k:=fun x=>by
  show x∈(bF P n k).lft.filter (fun u=>decide (u≠lD P n k))↔_;rw[dB,eR]
 have s:∀i,i< k ->lD P n i≠lD P n k:=((h.left _).1 v).2;refine⟨fun x=>?_,fun i j m y e=>?_,fun i m=>?_,fun u d w t=>?_⟩
 ·rw[V,h.left];constructor
  ·rintro⟨⟨a,b⟩,c⟩;refine⟨a,fun i m e=>?_⟩;rcases cF i k with p |p
   ·exact b i p e
   ·exact c (by rw[<- e,show i=k by omega])
  ·rintro⟨a,b⟩;exact⟨⟨a,fun i m=>b i al⟩,fun e=>b k al e.symm⟩
 ·rcases cF i k with f |f
  ·rcases cF j k with g |g
   ·exact h.inj i j f g e
   ·exact absurd (by rw[e,show j=k by omega]) (s i f)
  ·rcases cF j k with g |g
   ·exact absurd (by rw[<- e,show i=k by omega]) (s j g)
   ·omega
 ·rcases cF i k with f |f
  ·exact h.lt i f
  ·rw[show i=k by omega];exact((h.left _).1 v).1
 ·rw[V] at d;obtain⟨a,b,c⟩:=(h.next q o l d.1 d.2).1 t
  have r:w∈(bF P n k).lft:=by
   rcases c with c |c
   ·exact(h.sym u d.1 w c).1
   ·exact(h.sym _ v w c.2).1
  refine⟨(V w).2 ⟨r,a⟩,(h.next q o l r a).2 ⟨d.2,fun e=>b e.symm,?_⟩,b⟩;rcases c with c |c
  ·exact .inl (h.sym u d.1 w c).2.1
  ·exact .inr ⟨(h.sym _ v w c.2).2.1,(h.sym u d.1 _ c.1).2.1⟩
theorem FI.all {P:List (List Nat)} (b:uH n P) (s:∀u,u< n ->∀w,w∈P.getD u [] ->u∈P.getD w []) (d:n<=8):∀k,k<=n ->FI P n k
 |0,_=>⟨fun x=>⟨fun h=>⟨Ck.1 h,fun i a=>absurd a (DW _)⟩,fun h=>Ck.2 h.1⟩,fun i _ a=>absurd a (DW _),fun i a=>absurd a (DW _),fun u f w c=>by
  have z:u<n:=Ck.1 f;exact⟨Ck.2 (b.at u w c),s u z w c,fun e=>b.self u (by rw[<- e] at c;exact c)⟩⟩
 |k+1,hk=>(FI.all b s d k al).step b al d
def nrO (P:List (List Nat)) (n i u w:Nat):Prop:=u∈(bF P n i).lft/\w∈(bF P n i).nei.getD u []
theorem aor {P:List (List Nat)} (k:uH n P) (t:∀u,u< n ->∀w,w∈P.getD u [] ->u∈P.getD w []) (o:n<=8):af5 n (lD P n) (nrO P n):=by
 have F:=FI.all k t o;refine⟨fun v p=>?_,fun i j f H e=>(F n (ar _)).inj i j f H e,fun u w l=>⟨Ck.1 l.1,k.at u w l.2⟩,fun u J=>k.self u J.2,fun u w l=>⟨Ck.2 (k.at u w l.2),t u (Ck.1 l.1) w l.2⟩,fun i f u w=>?_⟩
 ·refine Eb fun M=>?_
  have K:(v::(List.range n).map (lD P n)).Nodup:=by
   refine q7.2 ⟨fun I=>?_,?_⟩
   ·obtain⟨i,f,e⟩:=bc.1 I;exact M ⟨i,bJ.1 f,e⟩
   ·refine IK.2 (qZ.imp_of_mem fun {a b} D E L e=>L ((F n (ar _)).inj a b (bJ.1 D) (bJ.1 E) e))
  have:=Qq K (m:=List.range n) fun x q=>by
   rcases dR.1 q with rfl |q
   ·exact bJ.2 p
   ·obtain⟨i,f,e⟩:=bc.1 q;rw[<- e];exact bJ.2 ((F n (ar _)).lt i (bJ.1 f))
  rw[eA,dD,ly] at this;omega
 ·have h:=F i al;have p:=h.here f o
  have s:u∈(bF P n (i+1)).lft↔u∈(bF P n i).lft/\u≠lD P n i:=by
   show u∈(bF P n i).lft.filter (fun u=>decide (u≠lD P n i))↔_;rw[dB,eR]
  constructor
  ·rintro⟨a,b⟩;obtain⟨g,r⟩:=s.1 a;obtain⟨y,z,A⟩:=(h.next k f o g r).1 b;exact⟨r,y,z,A.imp (fun c=>⟨g,c⟩) fun c=>⟨⟨g,c.1⟩,⟨p,c.2⟩⟩⟩
  ·rintro⟨a,b,c,d⟩;have g:u∈(bF P n i).lft:=d.elim (fun d=>d.1) fun d=>d.1.1;exact⟨s.2 ⟨g,a⟩,(h.next k f o g a).2 ⟨b,c,d.imp (fun d=>d.2) fun d=>⟨d.1.2,d.2.2⟩⟩⟩
theorem ae1 (P:List (List Nat)) (n:Nat):∀k,(bF P n k).ord=(List.range k).map (lD P n)
 |0=>rfl
 |k+1=>by rw[sV,fg, <- ae1 P n k];rfl
theorem akL (g:gB L=true):vz L=true↔∀v u,v<L.length ->u<L.length ->(decide (u∈(aL L).getD v [])=decide (v∈(aL L).getD u [])):=by
 rw[vz,g,K0,eR,Js];have l:∀v,v<L.length ->v<(aL L).length:=fun v a=>by rw[kW];exact a
 have m:=LC g
 have t:∀v,v<L.length ->∀u,u∈(aL L).getD v [] ->u<L.length:=fun v a u b=>by
  rw[List.getD_eq_getElem?_getD,List.getElem?_eq_getElem (l v a)] at b;exact m _ (bB (l v a)) u b
 have k:∀v,v<L.length ->((((aL L).map aC)[v]? =((mI (aL L) L.length L.length).map aC)[v]?)↔∀u,u<L.length ->(decide (u∈(aL L).getD v [])=decide (v∈(aL L).getD u []))):=fun v a=>by
  have d:((aL L).map aC)[v]? =some (aC ((aL L).getD v [])):=by rw[pL,List.getD_eq_getElem?_getD,List.getElem?_eq_getElem (l v a)];rfl
  have f:((mI (aL L) L.length L.length).map aC)[v]? =some (aC (oZ (aL L) v L.length)):=by simp[mI,a]
  rw[d,f];constructor
  ·intro e u b;have c:=mW e;have i:=tu ((aL L).getD v []) u;have j:=tu (oZ (aL L) v L.length) u;rw[<- i,c,j,BS,Nl];exact⟨fun h=>h.2,fun h=>⟨b,h⟩⟩
  ·intro h;congr 1
   refine UY fun u=>?_;rw[Nl];constructor
   ·intro b;have:=t v a u b;exact⟨this,(BS.1 (h u this)).1 b⟩
   ·exact fun b=>(BS.1 (h u b.1)).2 b.2
 constructor
 ·intro e v u a b;exact(k v a).1 (by rw[e]) u b
 ·intro h;refine IQ fun v=>?_;rcases cF v L.length with a |a
  ·exact(k v a).2 fun u b=>h v u a b
  ·rw[iV (by rw[dD,kW];exact a),iV (by rw[dD,afB];exact a)]
variable {Pa:Nat ->Nat ->Prop}
def lY (Pa:Nat ->Nat ->Prop) (u v:Nat):Prop:=∀M:Nat ->Prop,(∀v,Pa u v ->M v) ->(∀v w,M v ->Pa v w ->M w) ->M v
theorem lY.one (h:Pa u v):lY Pa u v:=fun _ a _=>a _ h
theorem lY.more {w:Nat} (h:lY Pa u v) (p:Pa v w):lY Pa u w:=fun M b a=>a _ _ (h M b a) p
theorem lY.ind {M:∀v,lY Pa u v ->Prop} (one:∀ {v:Nat} (h:Pa u v),M v (.one h)) (more:∀ {v w:Nat} (h:lY Pa u v) (p:Pa v w),M v h ->M w (h.more p)):∀ {v:Nat} (h:lY Pa u v),M v h:=fun {_} h=>by
 obtain⟨_,k⟩:=h (fun v=>∃h,M v h) (fun _ p=>⟨_,one p⟩) (fun _ _ ⟨_,i⟩ p=>⟨_,more _ p i⟩);exact k
theorem lY.last {w:Nat} (h:lY Pa u w):Pa u w∨∃v,lY Pa u v/\Pa v w:=by
 induction h using lY.ind with
 |one hp=>exact .inl hp
 |more h hp _=>exact .inr ⟨_,h,hp⟩
section
attribute [local go_sem] Oper.semAt_some
variable {c lo:Nat}
def pZ (P:List (List Nat)) (t:List Nat) (k:Nat):List Nat:=t++(gi t k).flatMap fun v=>P.getD v []
theorem aql (P:List (List Nat)) (t:List Nat):pZ P t 0=t:=by simp[pZ,gi]
theorem aqm {P:List (List Nat)} {t:List Nat} (h:k∈t):pZ P t (k+1)=pZ P t k++P.getD k []:=by rw[pZ,U5 h,List.flatMap_append, <- sX,pZ];simp
theorem aqn {P:List (List Nat)} {t:List Nat} (h:¬k∈t):pZ P t (k+1)=pZ P t k:=by rw[pZ,Qw h,pZ]
def iC (P:List (List Nat)) (s:List Nat):Nat ->List Nat
 |0=>s
 |r+1=>pZ P (iC P s r) 8
theorem af0 {P:List (List Nat)} {t:List Nat} (b:∀v,∀u∈P.getD v [],u<n) (c:∀u∈t,u<n) (k:Nat):∀u∈pZ P t k,u<n:=fun u d=>by
 rcases dh.1 d with h |h
 ·exact c u h
 ·obtain⟨v,_,a⟩:=List.mem_flatMap.1 h;exact b v u a
theorem Nv {P:List (List Nat)} (h:∀v,∀u∈P.getD v [],u<n) (a:∀u∈s,u<n):∀r,∀u∈iC P s r,u<n
 |0=>a
 |r+1=>af0 h (Nv h a r) 8
def x8 (w:World) (G n c m:Nat) (W:World):Prop:=Boxed W w.heap.size 149 (.slice (some ⟨G,0,none⟩) n c)/\Boxed W (w.heap.size+1) 153 (.int .u32 (m:Nat))/\c8 w W
theorem x8.shut {G:Nat} (l:w.heap.size+1<lo) (W:World) (r:Nat) (h:x8 w G n c m W) (a:lo<=r) (d:W.heap[r]? =some (.deferred (some []))):x8 w G n c m (W.putObj r (.deferred none)):=
 ⟨(zW al).trans h.1,(zW al).trans h.2.1,h.2.2.trans (uZ (w:=w) (ar _) W r _ _ al d rfl rfl)⟩
theorem x8.own {β:Type} {G B:Nat} (f:β ->Nat) (h:w.heap.size<=B):OwnFrom B (fun (s:β) W=>x8 w G n c (f s) W):=
 eZ (fY (jh _ _ (fun _=>_)) _) (eZ (fY (jh _ _ (fun s:β=>.int .u32 (f s:Nat))) _) (zV (ar _) h))
theorem aqi (G n c:Nat) (P:List (List Nat)) (s:List Nat) (w:World) (hn:P.length=n) (h8:n<=8) (U:cS w G (P.map aC)) (T:∀p∈P,∀u∈p,u<n) (J:∀u∈s,u<n):
  c6 120 #[.slice (some ⟨G,0,none⟩) n c,.int .u32 (aC s:Nat)] w fun e  w'=>e=.returned (.int .u32 (aC (iC P s n):Nat))/\c8 w w':=by
 refine(iG (n:=6)).1 ?_;have hG:=U.lt
 have M:∀v,∀u∈P.getD v [],u<n:=fun v u b=>by
  by_cases L:v<P.length
  ·rw[List.getD_eq_getElem?_getD,List.getElem?_eq_getElem L] at b;exact T _ (bB L) u b
  ·rw[List.getD_eq_getElem?_getD,iV al] at b;simp at b
 have wD:Hid (∀(V:World) (v:Nat),c8 w V ->v< n ->V.cell? ⟨G,v,none⟩=some (.int .u32 (aC (P.getD v []):Nat))):=fun V v hB L=>by
  have:=(U.aa hB hG).cell v (by rw[dD];omega);rwa [Gr al] at this
 have Sy:=hid (fun r=>Nv M J r);have N9:=hid (fun (r k:Nat)=>Ya (pZ P (iC P s r) k) (P.getD k []) (fun u b=>by have:=af0 M (Nv M J r) k u b;omega) (fun u b=>by have:=M k u b;omega));have HY:=hid (fun (r k:Nat) (h:k∈iC P s r)=>aqm (P:=P) h);have HN:=hid (fun (r k:Nat) (h:¬k∈iC P s r)=>aqn (P:=P) h);have HZ:=hid (fun (r:Nat)=>aql P (iC P s r));have jw:Hid (∀r,pZ P (iC P s r) 8=iC P s (r+1)):=fun r=>rfl;have a:iC P s 0=s:=rfl;clear U T M J;refine uY Tryz.func120 rfl trivial ?_ rfl;simp only[Tryz.ntmps120,od,eA,mg,Nat.reduceAdd,Nat.reduceSub,oz,ow,oh,ng,iI,fM];obtain⟨q,m⟩:∃q,q=(w.alloc (.cells #[.slice (some ⟨G,0,none⟩) n c] 149)).alloc (.cells #[.int .u32 (aC s:Nat)] 153):=⟨_,rfl⟩
 have Q:x8 w G n c (aC (iC P s 0)) q:=by
  rw[m,a];refine⟨(bh w _ _).alloc _,?_,((aw _ w).alloc (ar _) _).alloc aE _⟩;have h:=bh (w.alloc (.cells #[.slice (some ⟨G,0,none⟩) n c] 149)) 153 (.int .u32 (aC s:Nat));rwa [cU] at h
 have f:=Q.1.cell;rw[m] at f;gi_wp2
 rw[<- m];have aN:q.heap.size=w.heap.size+2:=by rw[m];simp
 have sP:=hid Q;clear m Q f a;generalize hab:iC P s=y at *;have DM:=hid hab;clear hab;generalize aC s=ad at *;refine wpIn_loop (fun x w'=>∃(r:Nat) (ds:List Deferred) (u9 u10 u11 IZ:Value),x= {tmps:= #[.slice (some ⟨G,0,none⟩) n c,.int .u32 (ad:Nat),.pointer (some ⟨w.heap.size,0,none⟩),.pointer (some ⟨w.heap.size+1,0,none⟩),.int .u32 0,undef,.slice (some ⟨G,0,none⟩) n c,.int .i64 (n:Nat),.int .i64 (r:Nat),u9,u10,u11,undef,undef,undef,undef,undef,undef,undef,IZ,undef],defers:=ds}/\r<=n/\Hid (x8 w G n c (aC (y r)) w')/\Hid (Shut (w.heap.size+2) w'.heap.size ds w')) (fun x _=>n - (intOf (x.tmps.getD 8 undef)).toNat) ?_ ?_
 ·exact⟨0,[],_,_,_,_,rfl,aS _,sP,trivial⟩
 intro x wr av;obtain⟨r,ds,u9,u10,u11,IZ,rfl,hr,g,po⟩:=av;clear sP;by_cases aM:r<n
 ·have X:=Sy.o r;have NP:=hid (HY.o r);have Ku:=hid (HN.o r);have ae:=hid (N9.o r);have aj:=HZ.o r;have ai:=jw.o r;have dA:w.heap.size+1<wr.heap.size:=g.o.2.1.lt;have A:=g.o.2.1.cell;have LX:∀u∈y r,u<8:=fun u b=>by have:=X u b;omega
  generalize y r=t at *;gi_wp2
  clear A;have R:=g.o;rw[<- aj] at R
  refine Gc al t LX rfl rfl
   (fun k V=>x8 w G n c (aC (pZ P t k)) V/\(wr.heap.size<=V.heap.size/\Shut (w.heap.size+2) wr.heap.size ds V))
   (eZ (x8.own (fun k:Nat=>aC (pZ P t k)) al) TX)
   ⟨R,ar _,po.o⟩
   (fun k=> {tmps:= #[.slice (some ⟨G,0,none⟩) n c,.int .u32 (ad:Nat),.pointer (some ⟨w.heap.size,0,none⟩),.pointer (some ⟨w.heap.size+1,0,none⟩),.int .u32 0,.int .i64 (k:Nat),.slice (some ⟨G,0,none⟩) n c,.int .i64 (n:Nat),.int .i64 (r:Nat),.bool true,.int .u32 (aC t:Nat),.func (.func 130) #[.int .u32 (aC t:Nat)] #[],.int .i64 (k:Nat),undef,undef,undef,undef,undef,undef,IZ,undef],defers:=[]}) ?assign ?body ?skip ?done
  case assign=>
   intro l k W K d;gi_wp2
   exact d
  case body=>
   rintro l k V hk z ⟨a,O,i⟩;have an:=X k z;have f:=a.1.cell;have Y:=wD.o V k a.2.2 an;have aG:=ae.o k;have Di:=hid (NP.o k z);have A:=a.2.1.cell;have S:=a.2.1.frozen;generalize hm1:aC (pZ P t k++P.getD k [])=m1 at *;have BD:=hid hm1;clear hm1;generalize aC (pZ P t k)=Z at *;generalize aC (P.getD k [])=mu at *;generalize aC t=mt at *;gi_wp2_with fail
   refine wK (fun u=>u.cell? ⟨w.heap.size,0,none⟩=some (.slice (some ⟨G,0,none⟩) n c)/\u.cell? ⟨G,k,none⟩=some (.int .u32 (mu:Nat))) ao ao (fun ⟨_,_,h⟩=>h) ⟨f,Y⟩ ?_;intro H;have I:KeepsOthers V V.drew:=yg V;have E:x8 w G n c Z V.drew:=⟨a.1,a.2.1,a.2.2.drew⟩;have qS:Shut (w.heap.size+2) wr.heap.size ds V.drew:=i.keep fun _ _=>rfl;have qz:wr.heap.size<=V.drew.heap.size:=O;have aO:V.drew.cell? ⟨w.heap.size+1,0,none⟩=some (.int .u32 (Z:Nat)):=A;have ay:V.drew.frozen? ⟨w.heap.size+1,0,none⟩=false:=S;clear f Y A S a i O R;generalize V.drew=U0 at *;refine au 1 (.slice (some ⟨G,0,none⟩) n c) ?_;refine au 2 (.int .i64 (k:Nat)) ?_;refine au 3 (.pointer (some ⟨G,k,none⟩)) ?_;refine au 4 (.int .u32 (mu:Nat)) ?_;refine aI [0] (cA ?_ aH);intro F j;go_simp;refine j.o _ _ H (fun ak=>?_);clear j F ak;refine au 5 (.int .u32 (m1:Nat)) ?_;refine aI [6] (cA ?_ aH);intro F j;go_simp;refine j.o _ _ ⟨(kh E.1 (w.heap.size+1) 0 _ al).cell,(cD _ _ _ _ (fun e=>(show ¬w.heap.size+1=G by omega) (bU Addr.block e))).trans H.2⟩ (fun _=>dC ao ?_ _);clear j F H;gi_wp2
   exact⟨(I.trans (jk U0 _ _)).from _,⟨kh E.1 (w.heap.size+1) 0 _ al,by rw[Di.o,BD.o];exact E.2.1.set _,E.2.2.setCell (p:=⟨w.heap.size+1,0,none⟩) aE _⟩,by simpa using qz,qS.putAt al _⟩
  case skip=>
   rintro k V hk z h;rw[Ku.o k z];exact h
  case done=>
   rintro D V I ⟨a,O,i⟩ d;rw[ai] at a;have C7:D<V.heap.size:=(dS.1 d).1;have Hz:Hid (Shut (w.heap.size+2) V.heap.size ({target:=.collected D,args:= #[]}::ds) V):=⟨D,al,C7,rfl,d,i.af I⟩;have Ij:=hid a;clear a i d;gi_wp2
   refine⟨⟨r+1,_,_,_,_,_,rfl,al,Ij,Hz⟩,?_⟩;simp[intOf];omega
 ·obtain rfl:r=n:=al
  have kc:=g.o.2.1.cell;gi_wp2
  refine Gs (lo:=w.heap.size+2) (K:=x8 w G r c (aC (y r))) (x8.shut al) (fun ax hZ=>⟨_,BR rfl _ _ _,by rw[DM.o];rfl,hZ.2.2⟩) _ wr.heap.size wr po.o g.o
end
def AbR (L:List (List Int)) (l:List Int) (e:Ending) (w':World):Prop:=
 (bH L≠0/\e=.returned (.tuple #[.slice none 0 0,.int .i64 (bH L)]))∨
 (bH L=0/\dY l L.length=false/\e=.returned (.tuple #[.slice none 0 0,.int .i64 11]))∨
 (bH L=0/\dY l L.length=true/\∃d cd,e=.returned (.tuple #[.slice d (im (iC (aL L) (ag l) L.length)).length cd,.int .i64 0])/\az w' d (im (iC (aL L) (ag l) L.length)))
theorem vS (h:bH L=0):gB L=true:=by
 rw[bH] at h;by_cases e:gB L=true
 ·exact e
 ·rw[aB e] at h;exact absurd h a6
theorem anT (a b:Option Addr) (ca cb:Nat) (L:List (List Int)) (l:List Int) (w:World) (h:fN w a L) (Q:∀l∈L,l.length<=140737488355328) (O:az w b l) (cN:l.length<=140737488355328):
  c6 72 #[.slice a L.length ca,.slice b l.length cb] w fun e w'=>AbR L l e w'/\c8 w w':=by
 have HR:=hid (XB a ca L w h Q);have Z:=hid O;have t:=hid (fun (U:World) (f:az U b l) (hn:L.length<=8)=>abc b cb l L.length U f cN hn)
 have D:Hid (bH L=0 ->dY l L.length=true ->∀(G c:Nat) (U:World),cS U G (ko L) ->c6 120 #[.slice (some ⟨G,0,none⟩) L.length c,.int .u32 (aC (ag l):Nat)] U fun e w'=>e=.returned (.int .u32 (aC (iC (aL L) (ag l) L.length):Nat))/\c8 U w'):=fun g r G c U f=>by
  rw[Js] at f;have k:=vS g
  exact aqi G L.length c (aL L) (ag l) U (kW L) (rJ k).2.1 f (LC k) (fun u i=>by
   obtain⟨x,A,rfl⟩:=bc.1 i;obtain⟨j,y,rfl⟩:=ij A;have:=(Cm r).each j y;omega)
 have z:Hid (bH L=0 ->dY l L.length=true ->∀U:World,c6 121 #[.int .u32 (aC (iC (aL L) (ag l) L.length):Nat)] U fun e w'=>∃v,e=.returned v/\bA w' U.heap.size v (iL (gi (iC (aL L) (ag l) L.length) 8))/\c8 U w'):=fun g r U=>ado _ U (fun u i=>by
  have k:=vS g;have J:=(rJ k).2.1
  have:=Nv (n:=L.length) (P:=aL L) (s:=ag l) (fun v u i=>(Jp k).at v u i) (fun u i=>by
   obtain⟨x,A,rfl⟩:=bc.1 i;obtain⟨j,y,rfl⟩:=ij A;have:=(Cm r).each j y;omega) L.length u i
  omega)
 have q:Hid (dY l L.length=true ->setA l L.length=aC (ag l)):=abd;clear h Q O;go_enter Tryz.func72,Tryz.ntmps72;go_wp2_with fail
 refine HR.o.af ?_;rintro e w1 ⟨p,⟨g,G,rfl,hG,f⟩ |⟨g,rfl⟩⟩
 ·have J:=(rJ (vS g)).2.1;have H:=hid (t.o w1 (Z.o.aa p) J);have HU:=hid f;have m:=hid p;have K:=hid g;clear f p t g;cases r:dY l L.length with
  |false=>
   rw[r] at H;have X:=hid r;clear r D z q;generalize setA l L.length=sa at *;go_wp2_with fail
   refine H.o.af ?_;rintro e w2 ⟨rfl,E⟩;subst E;go_wp2;go_ret2;exact⟨.inr (.inl ⟨K.o,X.o,rfl⟩),m.o⟩
  |true=>
   rw[r,q.o r] at H;have ad:=hid r;have Y:=hid (D.o K.o r G L.length);have HL:=hid (z.o K.o r);clear r D z q;generalize hab:iC (aL L) (ag l) L.length=ab at *;have S:=hid hab;clear hab;generalize aC (ag l)=m0 at *;go_wp2_with fail
   refine H.o.af ?_;rintro e w2 ⟨rfl,E⟩;subst E;go_wp2_with fail
   refine(Y.o _ HU.o).af ?_;rintro e w3 ⟨rfl,T⟩;have F:=hid (m.o.trans (T.af m.o.size));clear T;go_wp2_with fail
   refine(HL.o _).af ?_;rintro e w4 ⟨v,rfl,R,V⟩;obtain⟨d,cd,rfl,M⟩:=R.ints;have HI:=hid M;have eL:=hid (F.o.trans (V.af F.o.size));clear R M V;go_wp2;go_ret2;exact⟨.inr (.inr ⟨K.o,ad.o,d,cd,by rw[S.o];rfl,by rw[S.o];exact HI.o⟩),eL.o⟩
 ·have Zm:=hid g;have m:=hid p;have k:(bH L==0)=false:=by simpa using g
  clear g p D z q t;generalize hge:bH L=ge at *;have I:=hid hge;clear hge;go_wp2;go_ret2;exact⟨.inl ⟨by rw[I.o];exact Zm.o,by rw[I.o];rfl⟩,m.o⟩
section
attribute [local go_sem] Oper.semAt_some
variable {r:Nat} {o':Obj}
def jt (P:List (List Nat)) (v:Nat):List Nat:=v::P.getD v []
def jD (P:List (List Nat)) (u:Nat):Nat ->List Nat
 |0=>[]
 |v+1=>if u∈jt P v then jD P u v++(jt P v).filter (fun x=>decide (x≠u)) else jD P u v
def mr (P:List (List Nat)) (n v k:Nat):List (List Nat):=(List.range n).map fun u=>if u<k/\u∈jt P v then jD P u v++(jt P v).filter (fun x=>decide (x≠u)) else jD P u v
def oI (P:List (List Nat)) (n v:Nat):List (List Nat):=(List.range n).map fun u=>jD P u v
theorem ali (P:List (List Nat)) (n v:Nat):mr P n v 0=oI P n v:=by simp[mr,oI]
theorem alo {P:List (List Nat)} (h:n<=8):mr P n v 8=oI P n (v+1):=by
 apply wG;intro u b;have:=bJ.1 b;rw[jD];by_cases a:u∈jt P v
 ·rw[aA ⟨al,a⟩,aA a]
 ·rw[aB (fun e=>a e.2),aB a]
theorem alj {P:List (List Nat)} (m:k∈jt P v):mr P n v (k+1)=(mr P n v k).set k (jD P k v++(jt P v).filter (fun x=>decide (x≠k))):=by
 apply qh (by simp[mr]);intro i c d;rw[KW];simp only[mr,om,r5];by_cases h:k=i
 ·subst h;rw[aA ⟨al,m⟩,aA rfl]
 ·rw[aB h];have e:(i<k+1/\i∈jt P v)↔(i<k/\i∈jt P v):=⟨fun ⟨a,b⟩=>⟨al,b⟩,fun ⟨a,b⟩=>⟨al,b⟩⟩;simp only[e]
theorem alk {P:List (List Nat)} (m:¬k∈jt P v):mr P n v (k+1)=mr P n v k:=by
 apply wG;intro i c;have e:(i<k+1/\i∈jt P v)↔(i<k/\i∈jt P v):=⟨fun ⟨a,b⟩=>⟨by rcases cF i k with h |h;exact h;exact absurd (show i=k by omega) (fun e=>m (e▸b)),b⟩,fun ⟨a,b⟩=>⟨al,b⟩⟩;simp only[e]
theorem aln {P:List (List Nat)} (a:u<n) (h:¬u<k):(mr P n v k)[u]? =some (jD P u v):=by
 simp[mr,a,h]
theorem alm (P:List (List Nat)) (n v k:Nat):(mr P n v k).length=n:=by simp[mr]
theorem ac8 (P:List (List Nat)) (n v:Nat):(oI P n v).length=n:=by simp[oI]
theorem RB {P:List (List Nat)} (a:∀v,∀u∈P.getD v [],u<n) (c:v<n):∀u∈jt P v,u<n:=fun u b=>by
 rcases dR.1 b with rfl |h
 ·exact c
 ·exact a v u h
theorem Qt {P:List (List Nat)} (b:∀v,∀u∈P.getD v [],u<n) (u:Nat):∀v,v<=n ->∀x∈jD P u v,x<n
 |0,_,x,hx=>by simp[jD] at hx
 |v+1,hv,x,hx=>by
  rw[jD] at hx;by_cases h:u∈jt P v
  ·rw[aA h] at hx;rcases dh.1 hx with a |a
   ·exact Qt b u v al x a
   ·exact RB b al x (dB.1 a).1
  ·rw[aB h] at hx;exact Qt b u v al x hx
theorem afD {W:World} {p:Addr} {o:Obj} (h:W.cell? p=some x) (a:W.heap[r]? =some o) (c:o.isCells=false):(W.putObj r o').cell? p=some x:=by
 have n:p.block≠r:=fun e=>by
  rw[World.cell?,e,a] at h;cases o<;>simp_all [Obj.isCells]
 rw[<- h];exact lu (zW n)
theorem az.putObj {W:World} {d:Option Addr} {o:Obj} (h:az W d l) (i:W.heap[r]? =some o) (e:o.isCells=false):az (W.putObj r o') d l:=fun k f=>by
 obtain⟨g,q,a,b,c⟩:=h k f;exact⟨g,q,a,by simpa using b,afD c i e⟩
theorem fN.putObj {W:World} {o:Obj} (h:fN W a L) (e:W.heap[r]? =some o) (d:o.isCells=false):fN (W.putObj r o') a L:=fun k m=>by
 obtain⟨g,q,b,c,f,i,j,l⟩:=h k m;exact⟨g,q,b,c,f,by simpa using i,afD j e d,l.putObj e d⟩
def A7 (w:World) (R n:Nat) (l:List Nat) (W:World):Prop:=cS W R l/\Boxed W (R+1) 149 (.slice (some ⟨R,0,none⟩) n n)/\Below R w W
theorem A7.own {β:Type} {R B:Nat} (f:β ->List Nat) (a:R<=B) (b:R<=w.heap.size):OwnFrom B (fun (s:β) W=>A7 w R n (f s) W):=
 eZ (fY (PJ _ f) _) (eZ (fY (jh _ _ (fun _=>_)) _) (fun _ _ _ _ h g r=>h.grown g (aR b h.size) (fun k e=>aR a (r k e).1)))
theorem A7.aa {W:World} {R:Nat} {l:List Nat} (h:A7 w R n l W) (b:c8 W W'):A7 w R n l W':=⟨h.1.aa b h.1.lt,zb h.2.1 b h.2.1.lt,h.2.2.trans (b.af (vk h.1.lt))⟩
def MoR (L:List (List Int)) (e:Ending) (w':World):Prop:=
 (bH L≠0/\e=.returned (.tuple #[.slice none 0 0,.int .i64 (bH L)]))∨
 (bH L=0/\∃G,e=.returned (.tuple #[.slice (some ⟨G,0,none⟩) L.length L.length,.int .i64 0])/\fN w' (some ⟨G,0,none⟩) ((oI (aL L) L.length L.length).map im))
theorem anM (a:Option Addr) (ca:Nat) (L:List (List Int)) (w:World) (h:fN w a L) (hl:∀l∈L,l.length<=140737488355328):
  c6 88 #[.slice a L.length ca] w fun e w'=>MoR L e w'/\c8 w w':=by
 refine(iG (n:=6)).1 ?_;obtain⟨i0,b6,bo,bp,br⟩:=dW Tryz.infoSet;have HR:=hid (XB a ca L w h hl);have hn:(aL L).length=L.length:=kW L;have Kq:Hid (bH L=0 ->∀v,∀u∈(aL L).getD v [],u<L.length):=fun d v u f=>(Jp (vS d)).at v u f;have uO:Hid (bH L=0 ->L.length<=8):=fun d=>(rJ (vS d)).2.1;have aj:Hid (ko L=(aL L).map aC):=Js L;have aM:Hid (∀e w',MoR L e w'=((bH L≠0/\e=.returned (.tuple #[.slice none 0 0,.int .i64 (bH L)]))∨(bH L=0/\∃G,e=.returned (.tuple #[.slice (some ⟨G,0,none⟩) L.length L.length,.int .i64 0])/\fN w' (some ⟨G,0,none⟩) ((oI (aL L) L.length L.length).map im)))):=fun _ _=>rfl;generalize aL L=P at *;clear h hl;by_cases d:bH L=0
 case neg=>
  have Zm:=hid d;have bk:(bH L==0)=false:=by simpa using d
  refine uY Tryz.func88 rfl trivial ?_ rfl;simp only[Tryz.ntmps88,od,eA,mg,Nat.reduceAdd,Nat.reduceSub,oz,ow,oh,ng,iI,fM];gi_wp2_with (refine⟨trivial,?_⟩;gi_at_call 118;refine(iG.2 HR.o).af ?_;rintro e b ⟨ad,AE⟩;obtain rfl:=(AE.resolve_left fun h=>d h.1).2)
  exact⟨_,results_tmp2 rfl _ _ _,.inl ⟨Zm.o,rfl⟩,ad⟩
 case pos=>
  have h8:=uO.o d;have a1:=fun V=>OQ (P:=Tryz.prog) 149 153 (.int .u32 0) 4 Tryz.underlying149 Tryz.infoSet rfl .i64 .i64 L.length al al V;refine uY Tryz.func88 rfl trivial ?_ rfl;simp only[Tryz.ntmps88,od,eA,mg,Nat.reduceAdd,Nat.reduceSub,oz,ow,oh,ng,iI,fM];gi_wp2_with (refine⟨trivial,?_⟩;gi_at_call 118;refine(iG.2 HR.o).af ?_;rintro e b ⟨ad,AE⟩;obtain⟨-,G,rfl,hG,hU⟩:=AE.resolve_right fun h=>h.1 d)
  clear a1;have M:=Kq.o d;rw[aj.o] at hU;have G8:=hU.lt;have KB:=hid d;have dN:=hid ad
  have wD:Hid (∀(V:World) (v:Nat),c8 b V ->v<L.length ->V.cell? ⟨G,v,none⟩=some (.int .u32 (aC (P.getD v []):Nat))):=fun V v I t=>by
   have:=(hU.aa I G8).cell v (by rw[dD];omega);rwa [Gr al] at this
  have Iu:Hid (∀v,v<L.length ->∀u∈jt P v,u<L.length):=fun v t=>RB M t;have Hs:=hid (fun (v:Nat) (t:v<L.length) (U:World)=>Jb (P.getD v []) v U (fun u f=>by have:=M v u f;omega) al);have ay:Hid (∀v,v::P.getD v []=jt P v):=fun v=>rfl;have ll:=hid (fun (v:Nat) (t:v<L.length) (u:Nat) (f:u<8) (U:World)=>Ln (jt P v) u U (fun x O=>by have:=RB M t x O;omega) f);have N9:=hid (fun (v u:Nat) (t:v<L.length)=>Ya (jD P u v) ((jt P v).filter fun x=>decide (x≠u)) (fun x O=>by have:=Qt M u v al x O;omega) (Nb (fun x O=>by have:=RB M t x O;omega) _))
  have Iy:Hid (∀(V:World) (g v k u:Nat),u<L.length ->¬u< k ->cS V g ((mr P L.length v k).map aC) ->V.cell? ⟨g,u,none⟩=some (.int .u32 (aC (jD P u v):Nat))/\V.frozen? ⟨g,u,none⟩=false):=fun V g v k u f a6 E=>by
   (have h1:u<(mr P L.length v k).length:=by rw[alm];exact f);have h2:=E.cell u (by rw[dD];exact h1);obtain⟨h3,A⟩:=mZ.1 (aln (P:=P) (v:=v) f a6);rw[om,A] at h2;exact⟨h2,E.fz u⟩
  have lR:Hid (∀(V:World) (g v k:Nat),k∈jt P v ->cS V g ((mr P L.length v k).map aC) ->cS (V.setCell ⟨g,k,none⟩ (.int .u32 (aC (jD P k v++(jt P v).filter (fun x=>decide (x≠k))):Nat))) g ((mr P L.length v (k+1)).map aC)):=fun V g v k F E=>by
   have:=E.set k (aC (jD P k v++(jt P v).filter (fun x=>decide (x≠k))));rwa [alj F,F8]
  have fC:Hid (∀v k,¬k∈jt P v ->mr P L.length v (k+1)=mr P L.length v k):=fun v k h=>alk h;have HZ:=hid (fun v=>ali P L.length v);have HA:=hid (fun v=>alo (P:=P) (v:=v) h8)
  have hz:(oI P L.length 0).map aC=List.replicate L.length 0:=by
   apply qh (by simp[oI]);intro i h1 h2;simp[oI,jD,aC]
  have xX:Hid (∀(R:Nat) (U:World),cS U R ((oI P L.length L.length).map aC) ->c6 132 #[.slice (some ⟨R,0,none⟩) L.length L.length] U fun e w'=>∃G,e=.returned (.slice (some ⟨G,0,none⟩) L.length L.length)/\U.heap.size<=G/\fN w' (some ⟨G,0,none⟩) ((oI P L.length L.length).map im)/\c8 U w'):=fun R U E=>by
   have:=adn (some ⟨R,0,none⟩) L.length (oI P L.length L.length) U (fun p hp u f=>by
    obtain⟨x,_,rfl⟩:=bc.1 hp;have:=Qt M x L.length (ar _) u f
    omega) (by rw[ac8];omega) (fun k hk=>⟨R,0,rfl,E.lt,by
     have:=E.cell k (by rw[dD];exact hk);rw[bM,this,om]⟩)
   rwa [ac8] at this
  clear hU d ad Kq uO aj M HR;generalize L.length=n at *;obtain⟨Y,ab⟩:∃Y,Y=(b.alloc (.cells (madeCells #[.int .u32 0] n) 153)).alloc (.cells #[.slice (some ⟨b.heap.size,0,none⟩) n n] 149):=⟨_,rfl⟩
  have av:A7 b b.heap.size n ((oI P n 0).map aC) Y:=by
   rw[ab,hz];refine⟨?_,?_,((aw _ b).alloc (ar _) _).alloc aE _⟩
   ·have h:=jg b (.cells (madeCells #[.int .u32 0] n) 153)
    have e:(madeCells #[.int .u32 0] n).toList=(List.replicate n (0:Nat)).map uv:=by
     have:=U8 n;rwa [pI] at this
    (have e2:madeCells #[Value.int .u32 0] n=((List.replicate n (0:Nat)).map uv).toArray:=by rw[<- e]);rw[cS,r8 _ _ _ aE,h,e2]
   ·have h:=bh (b.alloc (.cells (madeCells #[.int .u32 0] n) 153)) 149 (.slice (some ⟨b.heap.size,0,none⟩) n n);rwa [cU] at h
  rw[<- ab];have bl:Y.heap.size=b.heap.size+2:=by rw[ab];simp
  have sP:=hid av;clear ab av hz;refine wpIn_loop (fun Z w'=>∃(v:Nat) (ds:List Deferred) (u7 u8 u24 Lc u26 Lb u28 Cl La K9 u32 IY:Value),Z= {tmps:= #[.slice a n ca,undef,.slice none 0 0,.int .i64 0,.slice (some ⟨G,0,none⟩) n n,.int .i64 0,.pointer (some ⟨b.heap.size+1,0,none⟩),u7,u8,undef,.tuple #[.slice (some ⟨G,0,none⟩) n n,.int .i64 0],.slice a n ca,.tuple #[.slice (some ⟨G,0,none⟩) n n,.int .i64 0],.slice (some ⟨G,0,none⟩) n n,.int .i64 0,.int .i64 0,.bool false,undef,.slice (some ⟨G,0,none⟩) n n,.int .i64 (n:Nat),.slice (some ⟨b.heap.size,0,none⟩) n n,.slice (some ⟨G,0,none⟩) n n,.int .i64 (n:Nat),.int .i64 (v:Nat),u24,Lc,u26,Lb,u28,Cl,La,K9,u32,undef,undef,undef,undef,undef,undef,undef,undef,undef,undef,IY,undef,undef],defers:=ds}/\v<=n/\Hid (A7 b b.heap.size n ((oI P n v).map aC) w')/\Hid (Shut (b.heap.size+2) w'.heap.size ds w')) (fun Z _=>n - (intOf (Z.tmps.getD 23 undef)).toNat) ?_ ?_
  ·exact⟨0,[],_,_,_,_,_,_,_,_,_,_,_,_,rfl,aS _,sP,trivial⟩
  intro Z wr a8;obtain⟨v,ds,u7,u8,u24,Lc,u26,Lb,u28,Cl,La,K9,u32,IY,rfl,t,y,po⟩:=a8;clear sP;by_cases T:v<n
  ·have kv:=wD.o wr v y.o.2.2 T;have hs:=Iu.o v T;(have Ex:∀u∈jt P v,u<8:=fun u f=>by have:=hs u f;omega);have an:=hid (Hs.o v T);rw[ay.o v] at an;have aN:=hid (ll.o v T);have aO:=hid (fun u=>N9.o v u T);have Zx:=hid (fun V g k u=>Iy.o V g v k u);have YL:=hid (fun V g k=>lR.o V g v k);have Y1:=hid (fun k=>fC.o v k);have WJ:=HZ.o v;have Xp:=HA.o v;have dA:b.heap.size+1<wr.heap.size:=y.o.2.1.lt;generalize aC (P.getD v [])=mp at *;generalize jt P v=m at *;gi_wp2_with (refine⟨trivial,?_⟩;gi_at_call 129;refine(iG.2 (an.o _)).af ?_;rintro e w4 ⟨rfl,a7⟩;subst a7)
   obtain⟨j,S⟩:∃j,j=wr.alloc (.cells #[.int .u32 (aC m:Nat)] 153):=⟨_,rfl⟩;(have b8:Boxed j wr.heap.size 153 (.int .u32 (aC m:Nat)):=by rw[S];exact bh wr _ _);(have ai:c8 wr j:=by rw[S];exact(aw _ wr).alloc (ar _) _);(have bm:j.heap.size=wr.heap.size+1:=by rw[S];simp);rw[<- S];have ae:=y.o.aa ai;have ME:=(po.o.aa ai).af (show wr.heap.size<=j.heap.size by omega);rw[<- WJ] at ae;clear S kv y po
   refine Gc al m Ex rfl rfl
    (fun k V=>A7 b b.heap.size n ((mr P n v k).map aC) V/\Boxed V wr.heap.size 153 (.int .u32 (aC m:Nat))/\(j.heap.size<=V.heap.size/\Shut (b.heap.size+2) j.heap.size ds V))
    (eZ (A7.own (fun k:Nat=>(mr P n v k).map aC) al (ar _)) (eZ (fY (jh _ _ (fun _=>_)) _) TX))
    ⟨ae,b8,ar _,ME⟩
    (fun k=> {tmps:= #[.slice a n ca,undef,.slice none 0 0,.int .i64 0,.slice (some ⟨G,0,none⟩) n n,.int .i64 0,.pointer (some ⟨b.heap.size+1,0,none⟩),.int .i64 (v:Nat),.pointer (some ⟨wr.heap.size,0,none⟩),.int .i64 (k:Nat),.tuple #[.slice (some ⟨G,0,none⟩) n n,.int .i64 0],.slice a n ca,.tuple #[.slice (some ⟨G,0,none⟩) n n,.int .i64 0],.slice (some ⟨G,0,none⟩) n n,.int .i64 0,.int .i64 0,.bool false,undef,.slice (some ⟨G,0,none⟩) n n,.int .i64 (n:Nat),.slice (some ⟨b.heap.size,0,none⟩) n n,.slice (some ⟨G,0,none⟩) n n,.int .i64 (n:Nat),.int .i64 (v:Nat),.bool true,.int .i64 (v:Nat),.pointer (some ⟨G,v,none⟩),.int .u32 (mp:Nat),.int .u32 (mp:Nat),.int .i64 (v:Nat),.int .u32 (aC m:Nat),.int .u32 (aC m:Nat),.func (.func 130) #[.int .u32 (aC m:Nat)] #[],.int .i64 (k:Nat),undef,undef,undef,undef,undef,undef,undef,undef,undef,IY,undef,undef],defers:=[]}) ?assign ?body ?skip ?done
   case assign=>
    intro l k W K J;gi_wp2
    exact J
   case body=>
    rintro l k V hk F ⟨q,A,yD,Q⟩;have aQ:=hs k F;have k1:=q.2.1.cell;have k4:=A.cell;obtain⟨kU,fU⟩:=Zx.o V b.heap.size k k aQ al q.1;have uI:=hid (aN.o k hk);have bg:=aO.o k;have xT:=hid (fun W hW=>YL.o W b.heap.size k F hW);generalize aC (jD P k v++m.filter (fun x=>decide (x≠k)))=m1 at *;generalize aC (m.filter fun x=>decide (x≠k))=m2 at *;generalize aC (jD P k v)=m0 at *;generalize aC m=mf at *;gi_wp2_with fail
    refine wK (fun u=>u.cell? ⟨b.heap.size+1,0,none⟩=some (.slice (some ⟨b.heap.size,0,none⟩) n n)/\u.cell? ⟨wr.heap.size,0,none⟩=some (.int .u32 (mf:Nat))) ao ao (fun ⟨_,_,h⟩=>h) ⟨k1,k4⟩ ?_;intro H;have hD:KeepsOthers V V.drew:=yg V;have q0:A7 b b.heap.size n ((mr P n v k).map aC) V.drew:=⟨q.1,q.2.1,q.2.2.drew⟩;have q4:Boxed V.drew wr.heap.size 153 (.int .u32 (mf:Nat)):=A;have qS:Shut (b.heap.size+2) j.heap.size ds V.drew:=Q.keep fun _ _=>rfl;have qz:j.heap.size<=V.drew.heap.size:=yD;have bu:V.drew.cell? ⟨b.heap.size,k,none⟩=some (.int .u32 (m0:Nat)):=kU;have bd:V.drew.frozen? ⟨b.heap.size,k,none⟩=false:=fU;clear k1 k4 kU fU q A Q yD b8 ai ae ME;generalize V.drew=X at *;refine au 0 (.slice (some ⟨b.heap.size,0,none⟩) n n) ?_;refine au 1 (.int .i64 (k:Nat)) ?_;refine au 2 (.pointer (some ⟨b.heap.size,k,none⟩)) ?_;refine au 4 (.int .u32 (mf:Nat)) ?_;refine au 5 (.int .i64 (k:Nat)) ?_;refine aI [3,6] (cA ?_ (cA ?_ aH))
    focus
     intro s c;go_simp;refine c.o _ _ H (fun z=>?_);clear c s z;refine aI [6] (cA ?_ aH);intro s c;go_simp;refine(uI.o _).af ?_;rintro e U1 ⟨rfl,gw⟩;subst gw;refine c.o _ _ H (fun z=>?_);clear c s z;generalize U1=X at *
    rotate_left
    focus
     intro s c;go_simp;refine(uI.o _).af ?_;rintro e U1 ⟨rfl,gw⟩;subst gw;refine c.o _ _ H (fun z=>?_);clear c s z;generalize U1=X at *;refine aI [3] (cA ?_ aH);intro s c;go_simp;refine c.o _ _ H (fun z=>?_);clear c s z
    all_goals
     refine au 7 (.int .u32 (m1:Nat)) ?_;refine au 8 (.pointer (some ⟨b.heap.size,k,none⟩)) ?_;refine aI [9] (cA ?_ aH);intro s c;go_simp;refine c.o _ _ ⟨(kh q0.2.1 b.heap.size k _ al).cell,(kh q4 b.heap.size k _ al).cell⟩ (fun _=>dC ao ?_ _);clear c s H;gi_wp2
     exact⟨(hD.trans (jk X _ _)).from _,⟨xT.o X q0.1,kh q0.2.1 b.heap.size k _ al,q0.2.2.setCell (p:=⟨b.heap.size,k,none⟩) (ar _) _⟩,kh q4 b.heap.size k _ al,by simpa using qz,qS.putAt al _⟩
   case skip=>
    rintro k V hk F h;rw[Y1.o k F];exact h
   case done=>
    rintro D V hD ⟨q,A,yD,Q⟩ J;rw[Xp] at q;have C7:D<V.heap.size:=(dS.1 J).1;have Hz:Hid (Shut (b.heap.size+2) V.heap.size ({target:=.collected D,args:= #[]}::ds) V):=⟨D,al,C7,rfl,J,Q.af hD⟩;have Ij:=hid q;clear q A Q J;gi_wp2
    refine⟨⟨v+1,_,_,_,_,_,_,_,_,_,_,_,_,_,rfl,al,Ij,Hz⟩,?_⟩;simp[intOf];omega
  ·obtain rfl:v=n:=al
   have kc:=y.o.2.1.cell;have aG:=hid (xX.o b.heap.size wr y.o.1);have dA:b.heap.size+1<wr.heap.size:=y.o.2.1.lt;gi_wp2_with (refine⟨trivial,?_⟩;gi_at_call 132;refine(iG.2 aG.o).af ?_;rintro e w5 ⟨G5,rfl,bf,Xd,ax⟩)
   have qI:c8 w w5:=(dN.o.trans (y.o.2.2.af dN.o.size)).trans (ax.af (aR dN.o.size (vk (Nat.lt_trans (KR _) dA))));refine Gs (lo:=b.heap.size+2) (K:=fun W=>fN W (some ⟨G5,0,none⟩) ((oI P v v).map im)/\c8 w W) ?_ ?_ _ wr.heap.size w5 (po.o.aa ax) ⟨Xd,qI⟩
   ·rintro W r ⟨hL,I⟩ hr hd;exact⟨hL.putObj hd rfl,I.trans (uZ (w:=w) (ar _) W r _ _ (by have:=dN.o.size;omega) hd rfl rfl)⟩
   ·rintro bb ⟨hL,I⟩;refine⟨_,results_tmp2 rfl _ _ _,?_,I⟩;rw[aM.o];exact .inr ⟨KB.o,G5,rfl,hL⟩
end
theorem UF {P:List (List Nat)} (h:nD P (aZ P k)=some v):¬v∈aZ P k/\∀u∈P.getD v [],u∈aZ P k:=by
 have:=List.find?_some h;rw[gz,gX,Ac,OW,eR] at this;exact this
theorem UE (P:List (List Nat)):∀k,(aZ P k).Nodup
 |0=>List.nodup_nil
 |k+1=>by
  rw[aZ];cases e:nD P (aZ P k) with
  |none=>exact UE P k
  |some v=>
   refine IL.2 ⟨UE P k,aE,fun a h b d=>?_⟩;rw[dX.1 d];exact fun c=>(UF e).1 (c▸h)
theorem UD {P:List (List Nat)}:∀k,v∈aZ P k ->∃A B,aZ P k=A++v::B/\¬v∈A/\∀u∈P.getD v [],u∈A
 |0,h=>by cases h
 |k+1,h=>by
  rw[aZ] at h⊢;cases e:nD P (aZ P k) with
  |none=>
   rw[e] at h;exact UD k h
  |some w=>
   rw[e] at h;show ∃A B,aZ P k++[w]=A++v::B/\_;rcases dh.1 h with h |h
   ·obtain⟨A,B,a,b,c⟩:=UD k h;exact⟨A,B++[w],by rw[a];simp,b,c⟩
   ·obtain rfl:=dX.1 h;exact⟨aZ P k,[],rfl,(UF e).1,(UF e).2⟩
def yq (P:List (List Nat)) (v:Nat):Nat:=(aZ P P.length).idxOf v
theorem aiB {P:List (List Nat)} (e:v∈aZ P P.length) (d:u∈P.getD v []):yq P u<yq P v:=by
 obtain⟨A,B,a,b,c⟩:=UD P.length e;have h:=c u d;rw[yq,yq,a,List.idxOf_append,List.idxOf_append,aA h,aB b,List.idxOf_cons_self,bM];exact List.idxOf_lt_length_of_mem h
theorem Rt (h:bH L=0):gB L=true/\∀v,v<L.length ->v∈aZ (aL L) (aL L).length:=by
 have g:=vS h;refine⟨g,fun v b=>?_⟩;rw[bH,aA g] at h;have d:¬(aZ (aL L) L.length).length<L.length:=fun c=>by rw[aA c] at h;cases h
 rw[kW];refine Eb fun n=>?_
 have:=Qq (l:=v::aZ (aL L) L.length) (m:=List.range L.length) (q7.2 ⟨n,UE _ _⟩) fun x a=>by
  rcases dR.1 a with rfl |a
  ·exact bJ.2 b
  ·have:=Gi (aL L) L.length x a;rw[kW] at this;exact bJ.2 this
 rw[eA,ly] at this;omega
theorem acg (g:gB L=true) (h:u∈(aL L).getD v []):u<L.length/\v<L.length:=by
 have b:v<L.length:=by
  rcases cF v L.length with a |a
  ·exact a
  ·rw[List.getD_eq_getElem?_getD,iV (by rw[kW];exact a)] at h;cases h
 refine⟨?_,b⟩;rw[List.getD_eq_getElem?_getD,List.getElem?_eq_getElem (by rw[kW];exact b)] at h;exact LC g _ (bB _) u h
theorem T2 (h:bH L=0) (a:u∈(aL L).getD v []):yq (aL L) u<yq (aL L) v:=
 aiB ((Rt h).2 v (acg (Rt h).1 a).2) a
theorem aiA (h:bH L=0) (c:v<L.length):yq (aL L) v<L.length:=by
 have a:=List.idxOf_lt_length_of_mem ((Rt h).2 v c);have b:=Em (aL L) (aL L).length;rw[kW] at b;rw[yq];rw[kW] at a⊢;omega
theorem aqg (h:bH L=0) (a:lY (fun u v=>u∈(aL L).getD v []) u v):yq (aL L) u<yq (aL L) v:=by
 induction a using lY.ind with
 |one hp=>exact T2 h hp
 |more _ hp ih=>exact Nat.lt_trans ih (T2 h hp)
theorem Yo {P:List (List Nat)}:∀ {r:Nat} (d:Nat),u∈iC P s r ->u∈iC P s (r+d)
 |_,0,h=>h
 |r,d+1,h=>by
  show u∈pZ P (iC P s (r+d)) 8;exact Te _ (Yo d h)
theorem aqk (h:bH L=0) (i:L.length<=8):∀m j v,yq (aL L) v<=m ->v<L.length ->v∈iC (aL L) s j ->∀a,lY (fun u v=>u∈(aL L).getD v []) a v ->a∈iC (aL L) s (j+m):=fun m=>by
 induction m with
 |zero=>
  intro j v d _ _ a b;have:=aqg h b;omega
 |succ m ih=>
  intro j v d k f a b;have e:∀w,w∈(aL L).getD v [] ->w∈iC (aL L) s (j+1):=fun w g=>List.mem_append_right _ (List.mem_flatMap.2 ⟨v,Jr.2 ⟨al,f⟩,g⟩);rcases lY.last b with p |⟨w,c,p⟩
  ·rw[show j+(m+1)=(j+1)+m by omega];exact Yo m (e a p)
  ·have:=T2 h p;rw[show j+(m+1)=(j+1)+m by omega];exact ih (j+1) w al (acg (Rt h).1 p).1 (e w p) a c
theorem afZ (h:bH L=0) (g:L.length<=8) (f:∀v∈s,v<L.length) (a:Nat):a∈iC (aL L) s L.length↔∃b∈s,a=b∨lY (fun u v=>u∈(aL L).getD v []) a b:=by
 constructor
 ·have:∀r a,a∈iC (aL L) s r ->∃b∈s,a=b∨lY (fun u v=>u∈(aL L).getD v []) a b:=fun r=>by
   induction r with
   |zero=>exact fun a c=>⟨a,c,.inl rfl⟩
   |succ r ih=>
    intro a c;rcases dh.1 c with c |c
    ·exact ih a c
    ·obtain⟨v,i,p⟩:=List.mem_flatMap.1 c;obtain⟨b,d,e⟩:=ih v (Jr.1 i).2;refine⟨b,d,.inr ?_⟩;rcases e with rfl |e
     ·exact .one p
     ·clear d;induction e using lY.ind with
      |one h2=>exact .more (.one p) h2
      |more _ h2 Vm=>exact .more Vm h2
  exact this _ a
 ·rintro⟨b,d,rfl |c⟩
  ·have:=Yo (P:=aL L) (s:=s) (r:=0) L.length d;rwa [bM] at this
  ·have e:=aiA h (f b d);have:=aqk h g L.length 0 b al (f b d) d a c;rwa [bM] at this
def UZ (P:List (List Nat)) (n v u:Nat):Bool:=(decide (u∈P.getD v []) ||decide (v∈P.getD u [])) ||(List.range n).any fun w=>decide (u∈P.getD w [])&&decide (v∈P.getD w [])
theorem LO {P:List (List Nat)} {u x:Nat}:∀ {n:Nat},x∈jD P u n↔x≠u/\∃v,v<n/\u∈jt P v/\x∈jt P v
 |0=>by simp[jD]
 |n+1=>by
  have i:=LO (P:=P) (u:=u) (x:=x) (n:=n);rw[jD];by_cases h:u∈jt P n
  ·rw[aA h,dh,i,dB,eR];constructor
   ·rintro(⟨a,v,b,c⟩ |⟨a,b⟩)
    ·exact⟨a,v,al,c⟩
    ·exact⟨b,n,al,h,a⟩
   ·rintro⟨a,v,b,c,d⟩;rcases cF v n with e |e
    ·exact .inl ⟨a,v,e,c,d⟩
    ·rw[show v=n by omega] at d;exact .inr ⟨d,a⟩
  ·rw[aB h,i];refine and_congr_right fun _=>⟨fun ⟨v,a,b⟩=>⟨v,al,b⟩,fun ⟨v,a,b,c⟩=>⟨v,?_,b,c⟩⟩;rcases cF v n with e |e
   ·exact e
   ·rw[show v=n by omega] at b;exact absurd b h
theorem alh {P:List (List Nat)} (c:u<n) (d:v<n):u∈jD P v n↔(UZ P n v u&&decide (u≠v))=true:=by
 rw[LO,gX,eR,UZ,Bool.or_eq_true,Bool.or_eq_true,eR,eR,tX];constructor
 ·rintro⟨e,w,b,h,a⟩;refine⟨?_,e⟩;rcases dR.1 h with rfl |h
  ·rcases dR.1 a with rfl |a
   ·exact absurd rfl e
   ·exact .inl (.inl a)
  ·rcases dR.1 a with rfl |a
   ·exact .inl (.inr h)
   ·exact .inr ⟨w,bJ.2 b,by rw[cY a,cY h];rfl⟩
 ·rintro⟨(h |h) |⟨w,b,h⟩,e⟩
  ·exact⟨e,v,d,dQ,eH _ h⟩
  ·exact⟨e,u,c,eH _ h,dQ⟩
  ·rw[gX,eR,eR] at h;exact⟨e,w,bJ.1 b,eH _ h.2,eH _ h.1⟩
def mrR (P:List (List Nat)) (n v u:Nat):List Nat:=(List.range u).filter fun u=>UZ P n v u&&decide (u≠v)
theorem alg {P:List (List Nat)} (b:∀v,∀u∈P.getD v [],u<n/\v<n) (j:n<=8) (f:v<n):iL (mrR P n v n)=im (jD P v n):=by
 have l:∀x,x∈jD P v n ->x<n:=fun x i=>by
  obtain⟨_,w,g,_,h⟩:=LO.1 i;rcases dR.1 h with rfl |h
  ·exact g
  ·exact(b _ _ h).1
 have e:∀d,gi (jD P v n) (n+d)=gi (jD P v n) n:=fun d=>by
  induction d with
  |zero=>rfl
  |succ d ih=>
   rw[show n+(d+1)=(n+d)+1 by omega,Qw,ih];intro m;have:=l _ m;omega
 have a:=e (8 - n);rw[show n+(8 - n)=8 by omega] at a;rw[im,a,mrR,gi];congr 1
 refine List.filter_congr fun u c=>td.2 ?_;rw[<- alh (bJ.1 c) f,eR]
theorem aiE (p:Nat ->Bool) (n:Nat):dY (iL ((List.range n).filter p)) n=true:=by
 have s:((List.range n).filter p).Pairwise (·<·):=List.Pairwise.filter _ List.pairwise_lt_range;refine gW.2 fun i a=>?_;have h:i<((List.range n).filter p).length:=by rw[bJ,ba] at a;exact a
 have g:∀j (b:j<((List.range n).filter p).length),(iL ((List.range n).filter p)).getD j 0=(((List.range n).filter p)[j]:Int):=fun j b=>by
  rw[List.getD_eq_getElem?_getD,iL,pL,List.getElem?_eq_getElem b];rfl
 refine cY ⟨?_,?_,fun c=>?_⟩
 ·rw[g i h];omega
 ·rw[g i h];have:=bJ.1 (dB.1 (bB h)).1;omega
 ·rw[g i h,g (i - 1) al];have:=(DZ.1 s) (i - 1) i al h al;omega
def oJ (L:List (List Int)):List (List Int):=(oI (aL L) L.length L.length).map im
theorem Cz (L:List (List Int)):(oJ L).length=L.length:=by simp[oJ,oI]
theorem alr (h:v<L.length):(aL (oJ L)).getD v []=gi (jD (aL L) v L.length) 8:=by
 rw[List.getD_eq_getElem?_getD,aL,pL,oJ,pL,oI,pL,Ti h];show ag (im _)=_;rw[im,eM]
theorem U3 (g:gB L=true):∀v,∀u∈(aL L).getD v [],u<L.length/\v<L.length:=fun v u a=>by
 refine⟨(Jp g).at v u a,?_⟩;by_cases h:v<L.length
 ·exact h
 ·rw[List.getD_eq_getElem?_getD,iV (by rw[kW];omega)] at a;cases a
theorem Qu (b:L.length<=8) (a:v<L.length) (c:u<L.length):u∈(aL (oJ L)).getD v []↔u≠v/\∃x,x<L.length/\v∈jt (aL L) x/\u∈jt (aL L) x:=by
 rw[alr a,Jr,LO];exact⟨fun h=>h.2,fun h=>⟨al,h⟩⟩
theorem ac9 (g:gB L=true) (h1:1<=L.length) (a:L.length<=8):gB (oJ L)=true:=by
 refine aeO (by rw[Cz];exact h1) (by rw[Cz];exact a) fun i b=>?_;have c:i<L.length:=by rwa [Cz] at b
 have e:(oJ L)[i]=im (jD (aL L) i L.length):=by simp[oJ,oI]
 rw[e,Cz];refine⟨?_,?_⟩
 ·rw[<- alg (U3 g) a c];exact aiE _ _
 ·rw[im,eM,Jr,LO];exact fun h=>h.2.1 rfl
theorem alq (i:gB L=true) (h1:1<=L.length) (d:L.length<=8):vz (oJ L)=true:=by
 refine(akL (ac9 i h1 d)).2 fun v u g f=>?_;rw[Cz] at g f;rw[BS,Qu d g f,Qu d f g];exact⟨fun ⟨h,x,a,b,c⟩=>⟨fun e=>h e.symm,x,a,c,b⟩,fun ⟨h,x,a,b,c⟩=>⟨fun e=>h e.symm,x,a,c,b⟩⟩
def iY (L:List (List Int)):List Nat:=(bF (aL (oJ L)) (oJ L).length (oJ L).length).ord
theorem acz (k:gB L=true) (h1:1<=L.length) (d:L.length<=8):af5 L.length (lD (aL (oJ L)) L.length) (nrO (aL (oJ L)) L.length):=by
 have g:uH L.length (aL (oJ L)):=by have:=Jp (ac9 k h1 d);rwa [Cz] at this
 refine aor g (fun u i w f=>?_) d;have j:=g.at u w f;rw[Qu d i j] at f;rw[Qu d j i];obtain⟨h,x,a,b,c⟩:=f;exact⟨fun e=>h e.symm,x,a,c,b⟩
theorem Qm (L:List (List Int)):iY L=(List.range L.length).map (lD (aL (oJ L)) L.length):=by rw[iY,Cz,ae1]
theorem UH (g:gB L=true) (h1:1<=L.length) (h:L.length<=8):(iY L).Nodup:=by
 rw[Qm,List.Nodup,IK];refine List.Pairwise.imp_of_mem (fun {i j} a b c e=>?_) (qZ (n:=L.length));exact c ((acz g h1 h).inj i j (bJ.1 a) (bJ.1 b) e)
theorem UI (g:gB L=true) (h1:1<=L.length) (h:L.length<=8) (b:v<L.length):v∈iY L:=by
 obtain⟨i,a,e⟩:=(acz g h1 h).all v b;rw[Qm];exact bc.2 ⟨i,bJ.2 a,e⟩
variable {D E c d:Nat} {p q:Rat}
def fB (D:Nat) (q:Rat):Prop:=∃z:Int,q=mkRat z D
theorem fB.own (q:Rat):fB q.den q:=⟨q.num,(Rat.mkRat_self q).symm⟩
theorem fB.zero (D:Nat):fB D 0:=⟨0,aE⟩
theorem fB.one:fB 1 1:=⟨1,rfl⟩
theorem fB.add (h:fB D p) (a:fB D q):fB D (p+q):=by
 obtain⟨x,rfl⟩:=h;obtain⟨y,rfl⟩:=a;refine⟨x+y,?_⟩;rw[Rat.mkRat_eq_div,Rat.mkRat_eq_div,Rat.mkRat_eq_div,vg,vg,vg, <- Rat.add_mul,Rat.intCast_add]
theorem fB.mul (h:fB D p) (a:fB E q):fB (D*E) (p*q):=by
 obtain⟨x,rfl⟩:=h;obtain⟨y,rfl⟩:=a;exact⟨x*y,Rat.mkRat_mul_mkRat ..⟩
theorem fB.times (a:D≠0) (h:fB D q) (b:E≠0):fB (D*E) q:=by
 obtain⟨x,rfl⟩:=h;refine⟨x*E,?_⟩;rw[Rat.mkRat_eq_iff a (F5 a b),jl,Int.mul_assoc,Int.mul_comm (E:Int)]
theorem fB.dvd (a:D≠0) (h:fB D q):q.den∣D:=by
 obtain⟨x,rfl⟩:=h;rw[<- Rat.normalize_eq_mkRat a,Rat.normalize_eq];exact Nat.div_dvd_of_dvd (Nat.gcd_dvd_right _ _)
def lX (c:Nat) (q:Rat):Prop:=0<=q/\q<=(c:Rat)
theorem fB.size (b:D≠0) (h:fB D q) (d:lX c q):qw q<=2*(B D).size+(B c).size:=by
 have e:=Nat.le_of_dvd (lZ b) (h.dvd b);have a:=(Rat.le_iff _ _).1 d.2;have i:=Rat.num_nonneg.2 d.1
 have j:q.num.natAbs<=c*D:=by
  have f:((c:Nat):Rat).num=(c:Int):=rfl;have g:((c:Nat):Rat).den=1:=rfl;rw[f,g] at a;have k:(c:Int)*(q.den:Int)<=(c:Int)*(D:Int):=Int.mul_le_mul_of_nonneg_left (Int.ofNat_le.2 e) (Tj c)
  have l:q.num<=(c:Int)*(D:Int):=by
   (have:q.num*((1:Nat):Int)=q.num:=aE);rw[this] at a;exact Int.le_trans a k
  have m:((q.num.natAbs:Nat):Int)=q.num:=Int.natAbs_of_nonneg i;have n:((q.num.natAbs:Nat):Int)<=((c*D:Nat):Int):=by rw[m,jl];exact l
  exact Int.ofNat_le.1 n
 have s:=j8 j;have o:=tj c D;have p:=j8 e;simp only[qw];omega
theorem lX.mul (h:lX c p) (a:lX d q):lX (c*d) (p*q):=by
 refine⟨OY h.1 a.1,?_⟩;rw[Rat.natCast_mul];exact DT (Rat.mul_le_mul_of_nonneg_right h.2 a.1) (Rat.mul_le_mul_of_nonneg_left a.2 (DT h.1 h.2))
theorem lX.add (h:lX c p) (a:lX d q):lX (c+d) (p+q):=by
 refine⟨Rat.add_nonneg h.1 a.1,?_⟩;rw[Rat.natCast_add];exact DT (Rat.add_le_add_right.2 h.2) (Rat.add_le_add_left.2 a.2)
theorem fB.sum {g:Nat ->Rat}:∀ {k:Nat},(∀x,x< k ->fB D (g x)) ->fB D (bq g k)
 |0,_=>fB.zero D
 |k+1,h=>by rw[bq];exact(fB.sum fun x a=>h x al).add (h k (KR k))
theorem lX.sum {g:Nat ->Rat}:∀ {k:Nat},(∀x,x< k ->lX c (g x)) ->lX (k*c) (bq g k)
 |0,_=>by rw[bq,mX];exact⟨BZ,BZ⟩
 |k+1,h=>by rw[bq,Nat.succ_mul];exact(lX.sum fun x a=>h x al).add (h k (KR k))
def kY (S:List Nat):List (Nat×Nat) ->List Tb ->List Tb
 |[],P=>P
 |p::l,P=>kY S l (P.map (ie S p.1 p.2))
def fT (free:List Nat):List (Nat×Nat) ->List Nat
 |[]=>free
 |p::l=>fT (free.filter fun u=>!(u==p.1)) l
theorem Aw:∀ {l:List (Nat×Nat)} {free:List Nat},u∈fT free l↔u∈free/\¬u∈l.map (·.1)
 |[],free=>⟨fun h=>⟨h,l8⟩,fun h=>h.1⟩
 |p::l,free=>by
  rw[fT,Aw,gV,dR,not_or,dB,and_assoc];refine and_congr Iff.rfl (and_congr ?_ Iff.rfl);simp
theorem LR:∀ {l:List (Nat×Nat)} {free:List Nat},free.Nodup ->(fT free l).Nodup
 |[],_,h=>h
 |p::l,free,h=>by rw[fT];exact LR (h.filter _)
theorem PI.fixes (b:Pos S):∀ {l:List (Nat×Nat)} {free:List Nat} {P:List Tb} {F:(Nat ->Nat) ->Rat},(l.map (·.1)).Nodup ->(∀p∈l,p.2<sz S p.1) ->PI S n free P F ->PI S n (fT free l) (kY S l P) (fun g=>F (dw l g))
 |[],_,_,_,_,_,h=>h
 |p::l,free,P,F,hn,hx,h=>by
  rw[gV,q7] at hn;have o:∀q∈l,q.1≠p.1:=fun q a e=>hn.1 (by rw[<- e];exact bc.2 ⟨q,a,rfl⟩);have:=PI.fixes b hn.2 (fun q a=>hx q (eH _ a)) (h.fix b (hx p dQ));refine⟨this.ok,this.sub,this.sup,fun g c=>?_⟩;rw[kY,this.val g c];show F (aV (dw l g) p.1 p.2)=F (dw l (aV g p.1 p.2));rw[PX o]
theorem NN.fixes (a:Pos S):∀ {l:List (Nat×Nat)} {P:List Tb},(∀p∈l,p.2<sz S p.1) ->(∀t∈P,dH S n t) ->NN S P ->NN S (kY S l P)
 |[],_,_,_,h=>h
 |p::l,P,hx,ho,h=>by
  rw[kY]
  exact NN.fixes a (fun q b=>hx q (eH _ b)) (fun t d=>by
   obtain⟨s,c,rfl⟩:=bc.1 d;exact(ho s c).fix _ _) (h.fix a ho (hx p dQ))
def jC (S:List Nat) (most:Bool) (keep:Nat ->Bool):List Nat ->List Tb ->List Tb
 |[],P=>P
 |v::vs,P=>jC S most keep vs (if keep v then P else ml S v most P)
theorem aco:u∈free.filter (fun u=>!(u==v))↔u∈free/\u≠v:=by simp[dB]
theorem PI.outs (p:Pos S) (k:Nat ->Bool):∀(vs:List Nat) {free:List Nat} {P:List Tb} {F:(Nat ->Nat) ->Rat},PI S n free P F ->∃f,(∀u,u∈f↔u∈free/\(u∈vs ->k u=true))/\PI S n f (jC S false k vs P) (JV S (vs.filter fun v=>!k v) F)
 |[],free,P,F,h=>⟨free,fun u=>⟨fun h=>⟨h,fun e=>absurd e l8⟩,fun h=>h.1⟩,h⟩
 |v::vs,free,P,F,h=>by
  cases hk:k v with
  |true=>
   obtain⟨f,b,c⟩:=PI.outs p k vs h;refine⟨f,fun u=>(b u).trans (and_congr Iff.rfl ⟨fun h a=>?_,fun h a=>h (eH _ a)⟩),?_⟩
   ·rcases dR.1 a with rfl |a
    ·exact hk
    ·exact h a
   ·rw[jC,aA hk,Cg (by simp[hk])];exact c
  |false=>
   obtain⟨f,b,c⟩:=PI.outs p k vs (h.o p v);refine⟨f,fun u=>(b u).trans ?_,?_⟩
   ·rw[aco,and_assoc];refine and_congr Iff.rfl ⟨fun h a=>?_,fun h=>⟨fun e=>?_,fun a=>h (eH _ a)⟩⟩
    ·rcases dR.1 a with e |a
     ·exact absurd e h.1
     ·exact h.2 a
    ·have:=h (by rw[e];exact dQ);rw[e,hk] at this;exact absurd this a6
   ·rw[jC,aB (by simp[hk]),Cf (by simp[hk])];exact c
theorem PI.mosts (p:Pos S) (k:Nat ->Bool):∀(vs:List Nat) {free:List Nat} {P:List Tb} {F:(Nat ->Nat) ->Rat},PI S n free P F ->NN S P ->∃f,(∀u,u∈f↔u∈free/\(u∈vs ->k u=true))/\PI S n f (jC S true k vs P) (elimM S (vs.filter fun v=>!k v) F)/\NN S (jC S true k vs P)
 |[],free,P,F,h,hn=>⟨free,fun u=>⟨fun h=>⟨h,fun e=>absurd e l8⟩,fun h=>h.1⟩,h,hn⟩
 |v::vs,free,P,F,h,hn=>by
  cases hk:k v with
  |true=>
   obtain⟨f,b,c⟩:=PI.mosts p k vs h hn;refine⟨f,fun u=>(b u).trans (and_congr Iff.rfl ⟨fun h a=>?_,fun h a=>h (eH _ a)⟩),?_⟩
   ·rcases dR.1 a with rfl |a
    ·exact hk
    ·exact h a
   ·rw[jC,aA hk,Cg (by simp[hk])];exact c
  |false=>
   obtain⟨f,b,c⟩:=PI.mosts p k vs (h.most p hn v).1 (h.most p hn v).2;refine⟨f,fun u=>(b u).trans ?_,?_⟩
   ·rw[aco,and_assoc];refine and_congr Iff.rfl ⟨fun h a=>?_,fun h=>⟨fun e=>?_,fun a=>h (eH _ a)⟩⟩
    ·rcases dR.1 a with e |a
     ·exact absurd e h.1
     ·exact h.2 a
    ·have:=h (by rw[e];exact dQ);rw[e,hk] at this;exact absurd this a6
   ·rw[jC,aB (by simp[hk]),Cf (by simp[hk])];exact c
def Low (l:List Fr):Prop:=∀f∈l,f=qF (aW f)
theorem Yj (S:List Nat) (P:List Tb):Low (allT S P).2:=by
 have:∀(P:List Tb) (a:Tb),Low a.2 ->Low (P.foldl (Ar S) a).2:=fun P=>by
  induction P with
  |nil=>exact fun _ h=>h
  |cons t P ih=>
   intro a _;refine ih _ fun f b=>?_;obtain⟨K,_,rfl⟩:=bc.1 b;rw[qJ]
 exact this P En fun f b=>by rw[dX.1 b,qJ]
theorem TF (p:Pos S) {t:Tb} (a:dH S n t) (l:Low t.2):t.2=(List.range (cnt S (ag t.1))).map fun K=>qF (tQ S (tN t) (aT S (ag t.1) K)):=by
 refine qh (by rw[a.len];simp) fun K h c=>?_;have b:K<cnt S (ag t.1):=by rw[<- a.len];exact h
 have e:tQ S (tN t) (aT S (ag t.1) K)=aW (bG t.2 (pos S (aT S (ag t.1) K) (ag t.1))):=rfl;rw[om,r5,e,P6 p a.up.nodup b,qM h];exact l _ (bB h)
theorem PI.net (h0:aY V L R=0) (l:∀v∈ws,v<V.length) (j:mS L (·∈ws)):PI (ah V) V.length ws (ws.map fun v=>(gU L v,gL V L R v)) (fun g=>dT V L R g ws):=by
 have Q:=gD h0
 have f:∀v,v<V.length ->Up (gU L v) V.length:=fun v a=>by
  have e:v<L.length:=by rw[Q.len];exact a
  have d:L.getD v []=L[v]:=by rw[List.getD_eq_getElem?_getD,List.getElem?_eq_getElem e];rfl
  rw[gU,d];exact I0 (Q.up v e) (Tx a)
 have i:∀v u,u∈ag (gU L v)↔u∈ag (L.getD v [])∨u=v:=fun v u=>by
  rw[gU,Pu];refine or_congr Iff.rfl ?_;simp[ag]
 refine⟨fun t c=>?_,fun t c u b=>?_,fun u b=>?_,fun g k=>?_⟩
 ·obtain⟨v,a,rfl⟩:=bc.1 c;exact⟨f v (l v a),by simp[gL]⟩
 ·obtain⟨v,a,rfl⟩:=bc.1 c;rcases (i v u).1 b with h |rfl
  ·exact j v a u h
  ·exact a
 ·exact⟨_,bc.2 ⟨u,b,rfl⟩,(i u u).2 (.inr rfl)⟩
 ·have:∀ {vs:List Nat},(∀v∈vs,v<V.length) ->pQ (ah V) g ((vs.map fun v=>((gU L v,gL V L R v):Tb)).map tN)=dT V L R g vs:=fun {vs}=>by
   induction vs with
   |nil=>intro _;rfl
   |cons v vs ih=>
    intro h;rw[gV,gV,pQ,dT,ih fun u b=>h u (eH _ b)];congr 1
    exact TI h0 (h v dQ) k
  exact this l
theorem NN.net (h0:aY V L R=0) (l:∀v∈ws,v<V.length):NN (ah V) (ws.map fun v=>(gU L v,gL V L R v)):=fun t a g h=>by
 obtain⟨v,b,rfl⟩:=bc.1 a;exact anH h0 (l v b) h
theorem acR:∀(l:List (Nat×Nat)) (F:(Nat ->Nat) ->Rat) (f:Nat ->Nat),(∀p∈l,¬p.1∈ws) ->fE S ws F (dw l f)=fE S ws (fun g=>F (dw l g)) f
 |[],_,_,_=>rfl
 |p::l,F,f,h=>by
  rw[dw,acR l F _ fun q a=>h q (eH _ a),UL _ ws f (h p dQ)];rfl
theorem afT:∀(a b:List (Nat×Nat)) (g:Nat ->Nat),kC (a++b) g=kC a g*kC b g
 |[],b,g=>by rw[iI,kC,yf]
 |p::a,b,g=>by rw[fM,kC,kC,afT a b g,zX]
theorem PY:∀(a b:List (Nat×Nat)) (g:Nat ->Nat),dw (a++b) g=dw b (dw a g)
 |[],_,_=>rfl
 |p::a,b,g=>by rw[fM,dw,PY a b];rfl
def qV (S q:List Nat) (K:Nat):List (Nat×Nat):=q.map fun v=>(v,aT S q K v)
theorem Uk (S q:List Nat) (K:Nat):(qV S q K).map (·.1)=q:=by
 rw[qV,D7];exact List.map_id' q
theorem ajp {q:List Nat} (n:q.Nodup) (K:Nat):dw (qV S q K) (fun _=>0)=aT S q K:=funext fun u=>by
 by_cases h:u∈q
 ·exact Jg (p:=(u,aT S q K u)) ((Uk S q K).symm▸n) (bc.2 ⟨u,h,rfl⟩) _
 ·rw[Ek (by rw[Uk];exact h),Dd h]
theorem ajq {q:List Nat} (b:Pos S) (n:q.Nodup) (c:K<cnt S q) {g:Nat ->Nat} (d:Fit S g):tG (qV S q K) g=decide (pos S g q=K):=by
 rw[td,eR,tG,gW];constructor
 ·intro h;rw[<- P6 b n c];refine Al S fun u a=>?_;exact eq_of_beq (h (u,aT S q K u) (bc.2 ⟨u,a,rfl⟩))
 ·rintro rfl p m;obtain⟨u,a,rfl⟩:=bc.1 m;exact sU.2 (Fh b d n u a).symm
theorem alN (h0:aY V L R=0) {q:List Nat} {l:List (Nat×Nat)} (n:ws.Nodup) (z:∀v∈ws,v<V.length) (t:mS L (·∈ws)) (w:(l.map (·.1)).Nodup) (M:∀p∈l,p.1∈ws) (y:∀p∈l,p.2<sz (ah V) p.1) (m:q.Nodup) (P:∀v∈q,v∈ws/\¬v∈l.map (·.1)) (s:K<cnt (ah V) q):
  JV (ah V) ((fT ws l).filter fun v=>!q.contains v) (fun g=>dT V L R (dw l g) ws) (aT (ah V) q K)=bq (fun k=>kC (qV (ah V) q K++l) (aT (ah V) (List.range V.length) k)*jQ V L R (aT (ah V) (List.range V.length) k) V.length) (cnt (ah V) (List.range V.length)):=by
 have o:Pos (ah V):=by have:=(gD h0).fine.pos;rwa [eM] at this
 have S:∀u,u∈(fT ws l).filter (fun v=>!q.contains v)↔(u∈ws/\¬u∈l.map (·.1))/\¬u∈q:=fun u=>by
  rw[dB,Aw,Ac, <- Ad,mh]
 have r:((fT ws l).filter fun v=>!q.contains v).Nodup:=(LR n).filter _
 have A:ws.Perm ((qV (ah V) q K++l).map (·.1)++(fT ws l).filter fun v=>!q.contains v):=by
  rw[fg,Uk];refine(KU n ?_).2 fun u=>?_
  ·refine IL.2 ⟨IL.2 ⟨m,w,fun a d b j e=>(P a d).2 (e▸j)⟩,r,fun a d b j e=>?_⟩;obtain⟨⟨_,f⟩,i⟩:=(S b).1 j;rcases dh.1 d with d |d
   ·exact i (e▸d)
   ·exact f (e▸d)
  ·rw[dh,dh,S];constructor
   ·intro h;by_cases f:u∈q
    ·exact .inl (.inl f)
    ·by_cases i:u∈l.map (·.1)
     ·exact .inl (.inr i)
     ·exact .inr ⟨⟨h,i⟩,f⟩
   ·rintro((h |h) |h)
    ·exact(P u h).1
    ·obtain⟨p,c,rfl⟩:=bc.1 h;exact M p c
    ·exact h.1.1
 rw[aju h0 n z t A (fun p c=>by
  rcases dh.1 c with c |c
  ·obtain⟨u,_,rfl⟩:=bc.1 c;exact o6 o q K u s
  ·exact y p c),aoH (List.Perm.refl _) r, <- ajp m K,acR _ _ _ fun p c=>?_]
 ·simp only[PY]
 ·obtain⟨u,x,rfl⟩:=bc.1 c;exact fun h=>((S u).1 h).2 x
structure p5 (S:List Nat) (t:Tb) (D c:Nat):Prop where
 nz:D≠0
 one:1<=c
 isD:∀g,Fit S g ->fB D (tQ S (tN t) g)
 btw:∀g,Fit S g ->lX c (tQ S (tN t) g)
def PD (S:List Nat) (P:List Tb) (D c:Nat):Prop:=∀M:List Tb ->Nat ->Nat ->Prop,M [] 1 1 ->(∀t P D c E d,p5 S t D c ->M P E d ->M (t::P) (D*E) (c*d)) ->M P D c
theorem PD.nil:PD S [] 1 1:=fun _ h _=>h
theorem PD.cons {t:Tb} (h:p5 S t D c) (p:PD S P E d):PD S (t::P) (D*E) (c*d):=fun M b a=>a _ _ _ _ _ _ h (p M b a)
theorem PD.ind {M:∀P D c,PD S P D c ->Prop} (nil:M [] 1 1 .nil) (cons:∀ {t:Tb} {P:List Tb} {D c E d:Nat} (h:p5 S t D c) (p:PD S P E d),M P E d p ->M (t::P) (D*E) (c*d) (.cons h p)):∀ {P:List Tb} {D c:Nat} (h:PD S P D c),M P D c h:=fun {_ _ _} h=>by
 obtain⟨_,k⟩:=h (fun P D c=>∃h,M P D c h) ⟨_,nil⟩ (fun _ _ _ _ _ _ a ⟨_,i⟩=>⟨_,cons a _ i⟩);exact k
theorem PD.nz (h:PD S P D c):D≠0/\1<=c:=by
 induction h using PD.ind with
 |nil=>exact⟨a6,a6⟩
 |cons ht _ ih=>exact⟨F5 ht.nz ih.1,iH ht.one ih.2⟩
theorem PD.append {Q:List Tb} (h:PD S P D c) (q:PD S Q E d):PD S (P++Q) (D*E) (c*d):=by
 induction h using PD.ind with
 |nil=>rw[kO,kO];exact q
 |cons ht _ ih=>rw[iU,iU];exact PD.cons ht ih
theorem PD.single {t:Tb} (h:p5 S t D c):PD S [t] D c:=by
 have:=PD.cons h (PD.nil (S:=S));rwa [pI,pI] at this
theorem PD.parts (p:Tb ->Bool) (h:PD S P D c):∃a e b f,PD S (P.filter fun t=>!p t) a e/\PD S (P.filter p) b f/\a*b=D/\e*f=c:=by
 induction h using PD.ind with
 |nil=>exact⟨1,1,1,1,.nil,.nil,rfl,rfl⟩
 | @cons t P D c E d ht _ ih=>
  obtain⟨a,e,b,f,g,i,rfl,rfl⟩:=ih;cases hp:p t with
  |false=>
   refine⟨D*a,c*e,b,f,?_,?_,iU ..,iU ..⟩
   ·rw[Cf (by simp[hp])];exact .cons ht g
   ·rw[Cg (by simp[hp])];exact i
  |true=>
   refine⟨a,e,D*b,c*f,?_,?_,B3 ..,B3 ..⟩
   ·rw[Cg (by simp[hp])];exact g
   ·rw[Cf hp];exact .cons ht i
theorem PD.prod (h:PD S P D c) {g:Nat ->Nat} (a:Fit S g):fB D (pQ S g (P.map tN))/\lX c (pQ S g (P.map tN)):=by
 induction h using PD.ind with
 |nil=>exact⟨fB.one,by rw[lx,pQ];exact⟨a6,a6⟩⟩
 |cons ht _ ih=>rw[gV,pQ];exact⟨(ht.isD g a).mul ih.1,(ht.btw g a).mul ih.2⟩
theorem PD.all (p:Pos S) (o:∀t∈P,dH S n t) (h:PD S P D c):p5 S (allT S P) D c:=by
 obtain⟨_,_,b⟩:=zg p o;exact⟨h.nz.1,h.nz.2,fun g a=>by rw[b g a];exact(h.prod a).1,fun g a=>by rw[b g a];exact(h.prod a).2⟩
theorem p5.o (p:Pos S) {t:Tb} (o:dH S n t) (h:p5 S t D c) (v:Nat):p5 S (outT S v false t) D (sz S v*c):=by
 have e:∀g,Fit S g ->tQ S (tN (outT S v false t)) g=bq (fun x=>tQ S (tN t) (aV g v x)) (sz S v):=fun g a=>aay p (vB o.up _).nodup (Er o.up v) _ a;refine⟨h.nz,iH (iM p v) h.one,fun g a=>?_,fun g a=>?_⟩
 ·rw[e g a];exact fB.sum fun x b=>h.isD _ (a.with b)
 ·rw[e g a];exact lX.sum fun x b=>h.btw _ (a.with b)
theorem p5.most (p:Pos S) {t:Tb} (o:dH S n t) (h:p5 S t D c) (v:Nat):p5 S (outT S v true t) D c:=by
 have s:=iM p v
 have e:∀g,Fit S g ->∃x,x<sz S v/\tQ S (tN (outT S v true t)) g=tQ S (tN t) (aV g v x):=fun g a=>by
  have d:tQ S (tN (outT S v true t)) g=j9 true (fun x=>tQ S (tN t) (aV g v x)) (sz S v - 1):=aaz p (vB o.up _).nodup (Er o.up v) _ a;obtain⟨x,b,f⟩:=Jl (fun x=>tQ S (tN t) (aV g v x)) (sz S v - 1);exact⟨x,al,d.trans f⟩
 refine⟨h.nz,h.one,fun g a=>?_,fun g a=>?_⟩
 ·obtain⟨x,b,e⟩:=e g a;rw[e];exact h.isD _ (a.with b)
 ·obtain⟨x,b,e⟩:=e g a;rw[e];exact h.btw _ (a.with b)
theorem p5.fix (p:Pos S) {t:Tb} (o:dH S n t) (h:p5 S t D c) {x:Nat} (b:x<sz S v):p5 S (ie S v x t) D c:=by
 have e:∀g,Fit S g ->tQ S (tN (ie S v x t)) g=tQ S (tN t) (aV g v x):=fun g a=>TJ p (vB o.up _).nodup (Er o.up v) _ a;exact⟨h.nz,h.one,fun g a=>by rw[e g a];exact h.isD _ (a.with b),fun g a=>by rw[e g a];exact h.btw _ (a.with b)⟩
theorem PD.o (p:Pos S) (e:∀t∈P,dH S n t) (h:PD S P D c) (v:Nat):PD S (ml S v false P) D (sz S v*c):=by
 obtain⟨g,j,i,k,b,d,rfl,rfl⟩:=h.parts fun t=>decide (v∈ag t.1);have a:∀t∈P.filter (fun t=>decide (v∈ag t.1)),dH S n t:=fun t f=>e t (dB.1 f).1;have:=b.append (PD.single ((d.all p a).o p (zg p a).1 v));rw[B3] at this;exact this
theorem PD.most (p:Pos S) (d:∀t∈P,dH S n t) (h:PD S P D c) (v:Nat):PD S (ml S v true P) D c:=by
 obtain⟨f,i,g,j,a,b,rfl,rfl⟩:=h.parts fun t=>decide (v∈ag t.1);have o:∀t∈P.filter (fun t=>decide (v∈ag t.1)),dH S n t:=fun t e=>d t (dB.1 e).1;exact a.append (PD.single ((b.all p o).most p (zg p o).1 v))
theorem PD.fix (p:Pos S) (h:PD S P D c) (o:∀t∈P,dH S n t) {x:Nat} (a:x<sz S v):PD S (P.map (ie S v x)) D c:=by
 induction h using PD.ind with
 |nil=>exact .nil
 |cons ht _ ih=>exact .cons (ht.fix p (o _ dQ) a) (ih fun t h=>o t (eH _ h))
theorem p5.size {t:Tb} (h:p5 S t D c) {g:Nat ->Nat} (a:Fit S g):qw (tQ S (tN t) g)<=2*(B D).size+(B c).size:=(h.isD g a).size h.nz (h.btw g a)
def xI:List Fr ->Nat
 |[]=>1
 |f::l=>(aW f).den*xI l
theorem Nf:∀l,xI l≠0
 |[]=>a6
 |f::l=>F5 (aW f).den_nz (Nf l)
theorem afk:∀ {l:List Fr} {f:Fr},f∈l ->fB (xI l) (aW f)
 |g::l,f,h=>by
  rcases dR.1 h with rfl |h
  ·exact(fB.own _).times (aW f).den_nz (Nf l)
  ·rw[xI,dJ];exact(afk h).times (Nf l) (aW g).den_nz
def fp (R:List (List Fr)):List Nat ->Nat
 |[]=>1
 |v::vs=>xI (R.getD v [])*fp R vs
theorem alP (h0:aY V L R=0) (l:v<V.length) (b:Fit (ah V) f):aW (ei V L R f v)<=1:=by
 have n:=row_one h0 l b
 have r:∀ {g:Nat ->Rat} {k x:Nat},x< k ->(∀y,y< k ->0<=g y) ->g x<=bq g k:=fun {g k x} p i=>by
  have M:∀j,j<=k ->0<=bq g j:=fun j=>by
   induction j with
   |zero=>intro _;exact BZ
   |succ j ih=>intro o;rw[bq];exact Rat.add_nonneg (ih al) (i j al)
  have:∀j,x< j ->j<=k ->g x<=bq g j:=fun j=>by
   induction j with
   |zero=>intro h;omega
   |succ j ih=>
    intro h o;rw[bq];rcases cF x j with m |m
    ·have a:=(Rat.add_le_add_left (c:=bq g j)).2 (i j al);rw[F4] at a;exact DT (ih m al) a
    ·have e:x=j:=al
     have a:=(Rat.add_le_add_right (c:=g j)).2 (M j al);rw[Rat.zero_add] at a;rw[e];exact a
  exact this k p (ar _)
 have d:=r (g:=fun x=>aW (ei V L R (aV f v x) v)) (k:=sz (ah V) v) (b v) fun y q=>Qy h0 l (b.with q);rw[n] at d;simpa only[aac] using d
theorem PD.net (h0:aY V L R=0):∀ {ws:List Nat},(∀v∈ws,v<V.length) ->PD (ah V) (ws.map fun v=>(gU L v,gL V L R v)) (fp R ws) 1
 |[],_=>.nil
 |v::ws,h=>by
  have b:=h v dQ;have Q:=gD h0;have o:v<L.length:=by rw[Q.len];exact b
  have k:v<R.length:=by rw[Q.lenR];exact b
  have t:p5 (ah V) (gU L v,gL V L R v) (xI (R.getD v [])) 1:=by
   have e:∀g,Fit (ah V) g ->tQ (ah V) (tN (gU L v,gL V L R v)) g=aW (ei V L R g v):=fun g a=>TI h0 b a;refine⟨Nf _,ar _,fun g a=>?_,fun g a=>?_⟩
   ·rw[e g a,ei,bG];cases hk:(R.getD v [])[rA (ah V) (ag (L.getD v [])) g v]? with
    |none=>exact⟨0,by rw[Option.getD_none];show aW AZ=_;rw[show aW AZ=0 from K7 rfl];simp⟩
    |some f=>exact afk (Td hk)
   ·rw[e g a];exact⟨Qy h0 b a,alP h0 b a⟩
  exact PD.cons t (PD.net h0 fun u c=>h u (eH _ c))
theorem aoj (S:List Nat) (v x:Nat) (t:Tb):Low (ie S v x t).2:=fun f h=>by
 obtain⟨K,_,rfl⟩:=bc.1 h;rw[qJ]
theorem akc (S:List Nat) (v:Nat) (m:Bool) (t:Tb):Low (outT S v m t).2:=fun f h=>by
 obtain⟨K,_,rfl⟩:=bc.1 h;rw[qJ]
theorem anN (V:List Vr) (L:List (List Int)) (R:List (List Fr)) (v:Nat):Low (gL V L R v):=fun f h=>by
 obtain⟨K,_,rfl⟩:=bc.1 h;rw[qJ]
structure fH (S:List Nat) (n:Nat) (P:List Tb) (D c:Nat):Prop where
 ok:∀t∈P,dH S n t
 pd:PD S P D c
 low:∀t∈P,Low t.2
theorem PD.each (h:PD S P D c):∀t∈P,∃E d,p5 S t E d/\E<=D/\d<=c:=by
 induction h using PD.ind with
 |nil=>intro t g;cases g
 | @cons t P D c E d h1 h2 ih=>
  have n:=h2.nz;have f:=lZ n.1;intro u a;rcases dR.1 a with rfl |a
  ·exact⟨D,c,h1,Nat.le_mul_of_pos_right D f,Nat.le_mul_of_pos_right c n.2⟩
  ·obtain⟨b,e,k,i,j⟩:=ih u a;exact⟨b,e,k,aR i (B6 E (lZ h1.nz)),aR j (B6 d h1.one)⟩
theorem PD.take (h:PD S P D c):∀k,∃E d,PD S (P.take k) E d/\E<=D/\d<=c:=by
 induction h using PD.ind with
 |nil=>intro k;exact⟨1,1,by rw[List.take_nil];exact .nil,ar _,ar _⟩
 | @cons t P D c E d h1 h2 ih=>
  have n:=h2.nz;intro k;cases k with
  |zero=>
   exact⟨1,1,.nil,Nat.mul_pos (lZ h1.nz) (lZ n.1),Nat.mul_pos h1.one n.2⟩
  |succ k=>
   obtain⟨a,b,e,f,g⟩:=ih k;exact⟨D*a,c*b,.cons h1 e,l6 _ f,l6 _ g⟩
theorem PD.filter (h:PD S P D c) (p:Tb ->Bool):∃E d,PD S (P.filter p) E d/\E<=D/\d<=c:=by
 obtain⟨j,k,b,e,i,a,f,g⟩:=h.parts p;have n:=i.nz;have l:=a.nz;exact⟨b,e,a,by rw[<- f];exact B6 _ (lZ n.1),by rw[<- g];exact B6 _ n.2⟩
theorem aax (p:Pos S) {t:Tb} (i:dH S n t) (o:Low t.2) (h:p5 S t E d) (j:E<=D) (l:d<=c) (s:2*(B D).size+(B c).size+2<=m):Cw m t.2:=fun k a=>by
 have f:k<cnt S (ag t.1):=by rw[<- i.len];exact a
 have e:bG t.2 k=qF (tQ S (tN t) (aT S (ag t.1) k)):=by
  rw[qM a];have:=TF p i o;have b:t.2[k]? =((List.range (cnt S (ag t.1))).map fun K=>qF (tQ S (tN t) (aT S (ag t.1) K)))[k]?:=by rw[<- this]
  rw[List.getElem?_eq_getElem a,pL,Ti f] at b;exact mW b
 have w:=h.size (g:=aT S (ag t.1) k) (fun u=>o6 p _ k u f);have q:=j8 j;have r:=j8 l;rw[e];show (nu _).size+(de _).size+2<=m;have v:(nu (tQ S (tN t) (aT S (ag t.1) k))).size+(de (tQ S (tN t) (aT S (ag t.1) k))).size=qw (tQ S (tN t) (aT S (ag t.1) k)):=rfl;omega
theorem fH.cw (p:Pos S) (h:fH S n P D c) (b:2*(B D).size+(B c).size+2<=m):∀t∈P,Cw m t.2:=fun t a=>by
 obtain⟨E,d,k,e,f⟩:=h.pd.each t a;exact aax p (h.ok t a) (h.low t a) k e f b
theorem fH.part (p:Pos S) (h:fH S n P D c) (b:2*(B D).size+(B c).size+2<=m) (k:Nat):dH S n (allT S (P.take k))/\Cw m (allT S (P.take k)).2:=by
 obtain⟨E,d,f,g,i⟩:=h.pd.take k;have o:∀t∈P.take k,dH S n t:=fun t e=>h.ok t (O3 e);have a:=(zg p o).1;exact⟨a,aax p a (Yj S _) (PD.all p o f) g i b⟩
theorem fH.filter (h:fH S n P D c) (p:Tb ->Bool):∃E d,fH S n (P.filter p) E d/\E<=D/\d<=c:=by
 obtain⟨E,d,k,b,e⟩:=h.pd.filter p;exact⟨E,d,⟨fun t a=>h.ok t (dB.1 a).1,k,fun t a=>h.low t (dB.1 a).1⟩,b,e⟩
theorem fH.fix (p:Pos S) (h:fH S n P D c) {x:Nat} (d:x<sz S v):fH S n (P.map (ie S v x)) D c:=
 ⟨fun t a=>by
  obtain⟨u,b,rfl⟩:=bc.1 a;exact(h.ok u b).fix v x,h.pd.fix p h.ok d,fun t a=>by
  obtain⟨u,_,rfl⟩:=bc.1 a;exact aoj S v x u⟩
theorem acr (p:Pos S) (h:∀t∈P,dH S n t) (v:Nat) (m:Bool):∀t∈ml S v m P,dH S n t:=fun t a=>by
 rcases dh.1 a with a |a
 ·exact h t (dB.1 a).1
 ·rw[dX.1 a];exact((zg p fun u b=>h u (dB.1 b).1).1).o v m
theorem acs (h:∀t∈P,Low t.2) (v:Nat) (m:Bool):∀t∈ml S v m P,Low t.2:=fun t a=>by
 rcases dh.1 a with a |a
 ·exact h t (dB.1 a).1
 ·rw[dX.1 a];exact akc S v m _
theorem fH.o (p:Pos S) (h:fH S n P D c) (v:Nat):fH S n (ml S v false P) D (sz S v*c):=⟨acr p h.ok v false,h.pd.o p h.ok v,acs h.low v false⟩
theorem fH.most (p:Pos S) (h:fH S n P D c) (v:Nat):fH S n (ml S v true P) D c:=⟨acr p h.ok v true,h.pd.most p h.ok v,acs h.low v true⟩
theorem ahE (a b c:Option Addr) (ca cb cc:Nat) (sizes vars:List Int) (l:List Fr) (w:World) (hs:az w a sizes) (hv:az w b vars) (O:cG w c l) (hn:sizes.length<=140737488355328) (hm:vars.length<=140737488355328) (A:jZ sizes vars l.length=0) (P:Cw 100000 l) (cN:l.length<=10000):
  c6 54 #[.slice a sizes.length ca,.agg #[.slice b vars.length cb,.slice c l.length cc]] w fun e w'=>∃(d:Option Addr) (cd:Nat),e=.returned (.tuple #[.slice d (bX (ag sizes) (ag vars) (ig l (l.length - 1))).length cd,dM (qF (aW (bG l (ig l (l.length - 1))))),.int .i64 0])/\az w' d (iL (bX (ag sizes) (ag vars) (ig l (l.length - 1))))/\c8 w w':=by
 obtain⟨aM,a8,an⟩:=y9 A;have jm:=apv A;have ay:=J5 l (l.length - 1);have Q:=fun V v x=>Ef a b c ca cb cc l.length sizes vars V v x hn hm;rw[A] at Q;have Q:=hid Q;have X:=hid (fun V B v x h3=>apV c cc l V B v x h3 jm P cN);have HA:=hid (fun V v x=>ap4 a b ca cb sizes vars (ig l (l.length - 1)) V v x aM a8 al);have M:ig l (l.length - 1)<l.length:=al
 have av:=P _ M;obtain⟨g,o,rfl,s,j,k,m⟩:=O _ M;rw[<- qM M] at j k m;have T:=hid (fun V:World=>SY (w:=V) (aW (bG l (ig l (l.length - 1)))) rfl (show (bG l (ig l (l.length - 1))).2.1.size+(bG l (ig l (l.length - 1))).2.2.size<=100000 by omega));rw[M3];generalize aW (bG l (ig l (l.length - 1)))=r at *;generalize bG l (ig l (l.length - 1))=f at *;generalize ig l (l.length - 1)=K at *;generalize bX (ag sizes) (ag vars) K=ds at *;obtain⟨fn,J,L⟩:=f;simp only at j k m T;have Y:=hid hs;have Z:=hid hv;have U:=hid O;clear hs hv hn hm O A a8 aM an av P;have h:BH w ((w.alloc (TC (.slice b vars.length cb) (.slice (some ⟨g,o,none⟩) l.length cc))).alloc (FC false ⟨#[]⟩ ⟨#[]⟩)) (.slice b vars.length cb) (.slice (some ⟨g,o,none⟩) l.length cc):=⟨(bs.at (w:=w) rfl _ _).alloc _,aF.at (w:=w.alloc (TC (.slice b vars.length cb) (.slice (some ⟨g,o,none⟩) l.length cc))) aE _ _ _,((aw _ w).alloc (ar _) _).alloc aE _⟩;have c0:=h.1.c0;have c1:=h.1.c1;go_enter Tryz.func54,Tryz.ntmps54;go_wp2_with fail
 generalize ((w.alloc (TC (.slice b vars.length cb) (.slice (some ⟨g,o,none⟩) l.length cc))).alloc (FC false ⟨#[]⟩ ⟨#[]⟩))=W at *;refine(Q.o _ (Y.o.aa h.2.2) (Z.o.aa h.2.2)).af ?_;rintro e w1 ⟨rfl,ae⟩;replace h:=h.step ae;clear c0 c1 ae;have E:=h.drew;go_upto_region 4 with fail
 go_region_held3 (fun u=>(u.cell? ⟨w.heap.size,0,none⟩=some (.slice b vars.length cb)/\u.cell? ⟨w.heap.size,1,none⟩=some (.slice (some ⟨g,o,none⟩) l.length cc))/\Hid (BH w u (.slice b vars.length cb) (.slice (some ⟨g,o,none⟩) l.length cc)))
  (first |exact I.of |exact F.of |exact E.of)
  (first
   |(have H:=F;go_at_call 94;refine(X.o _ _ LV ak (U.o.aa H.2.2)).af ?_;rintro e w3 ⟨rfl,aj⟩;have I:=H.step aj)
   |(have H:=E;go_at_call 95;refine(aop _ _ _ _).af ?_;rintro e w2 ⟨rfl,LV,ak,ai⟩;have F:=H.step ai))
 clear h E F aj ai LV ak;have h:=I.drew;clear I X Q U;go_upto_region 5 with fail
 refine iu (S:=fun u=>u.cell? ⟨w.heap.size,0,none⟩=some (.slice b vars.length cb)/\u.cell? ⟨w.heap.size,1,none⟩=some (.slice (some ⟨g,o,none⟩) l.length cc)/\u.cell? ⟨g,o+K*3,none⟩=some (.bool fn)/\u.cell? ⟨g,o+K*3+1,none⟩=some (.string J)/\u.cell? ⟨g,o+K*3+2,none⟩=some (.string L)) ao (h.ofF s j k m).1 (fun q=>?_);generalize w3.drew=u0 at *;refine au 0 (.slice a sizes.length ca) ?_;refine au 1 (.pointer (some ⟨w.heap.size,0,none⟩)) ?_;refine au 2 (.slice b vars.length cb) ?_;refine au 3 (.int .i64 (K:Nat)) ?_;refine au 5 (.pointer (some ⟨w.heap.size,1,none⟩)) ?_;refine au 6 (.slice (some ⟨g,o,none⟩) l.length cc) ?_;refine au 7 (.int .i64 (K:Nat)) ?_;refine au 8 (.pointer (some ⟨g,o+K*3,none⟩)) ?_;refine au 9 (.agg #[.bool fn,.string J,.string L]) ?_;refine aI [4] (cA ?_ aH);intro t i;go_simp;refine(HA.o _ (Y.o.aa h.2.2) (Z.o.aa h.2.2)).af ?_;rintro e u1 ⟨d,cd,rfl,y,n⟩;replace h:=h.step n;clear q;refine i.o _ _ (h.ofF s j k m).1 (fun q=>?_);clear i t n;refine aI [10] (cA ?_ aH);intro t i;go_simp;refine(T.o _).af ?_;rintro e u2 ⟨rfl,n⟩;replace h:=h.step n;replace y:=y.aa n;clear q;refine i.o _ _ (h.ofF s j k m).1 (fun q=>?_);clear i t n;refine au 11 (.slice d ds.length cd) ?_;have R:=h.2.1;obtain⟨k0,k1,k2,f0,f1,f2⟩:=R.facts;refine aI [12] (cA ?_ aH);intro t i;go_simp;have ax:=R.put (aJ r) (nu r) (de r);replace y:=y.put3 R (aJ r) (nu r) (de r)
 have D:=bL h.2.2 (g:=w.heap.size+1) al (.bool (aJ r)) (.string (nu r)) (.string (de r));have ad:=((h.1.off (w.heap.size+1) 0 (.bool (aJ r)) al).off (w.heap.size+1) 1 (.string (nu r)) al).off (w.heap.size+1) 2 (.string (de r)) al;generalize (((u2.setCell ⟨w.heap.size+1,0,none⟩ (.bool (aJ r))).setCell ⟨w.heap.size+1,1,none⟩ (.string (nu r))).setCell ⟨w.heap.size+1,2,none⟩ (.string (de r)))=z at *;have ab:z.cell? ⟨w.heap.size,0,none⟩=some (.slice b vars.length cb)/\z.cell? ⟨w.heap.size,1,none⟩=some (.slice (some ⟨g,o,none⟩) l.length cc)/\z.cell? ⟨g,o+K*3,none⟩=some (.bool fn)/\z.cell? ⟨g,o+K*3+1,none⟩=some (.string J)/\z.cell? ⟨g,o+K*3+2,none⟩=some (.string L):=⟨ad.c0,ad.c1,(D.cell (p:=⟨g,_,none⟩) s).trans j,(D.cell (p:=⟨g,_,none⟩) s).trans k,(D.cell (p:=⟨g,_,none⟩) s).trans m⟩;clear q;refine i.o _ _ ab (fun q=>?_);clear i t ab;refine au 13 (.int .i64 0) ?_;try simp only[gE,aP]
 refine dC ao ?_ _;go_wp2;refine bD (Gh ax rfl _ rfl) rfl ?_;exact⟨d,cd,rfl,y,D⟩
theorem alS (w:World):
  c6 39 #[.agg #[.bool false,.string ⟨#[]⟩,.string ⟨#[]⟩]] w (da w (.bool true)):=by
 go_enter Tryz.func39,Tryz.ntmps39;have h:c8 w (w.alloc (FC false ⟨#[]⟩ ⟨#[]⟩)):=(aw _ w).alloc (ar _) _;go_wp2_with fail
 go_quiet (fail)
 go_wp2;go_ret;exact⟨rfl,below_drewN h _⟩
theorem acH (n:Bool) (x y:ByteArray) (w:World):
  c6 19 #[.agg #[.bool n,.string x,.string y],.int .i64 0,.agg #[.bool n,.string x,.string y],.int .i64 0] w (da w (.bool true)):=by
 go_enter Tryz.func19,Tryz.ntmps19;have h:c8 w ((w.alloc (FC n x y)).alloc (FC n x y)):=((aw _ w).alloc (ar _) _).alloc aE _;go_wp2;go_ret;exact⟨rfl,h⟩
theorem acI (k:Int) (a:¬k=0) (w:World):
  c6 19 #[.agg #[.bool false,.string ⟨#[]⟩,.string ⟨#[]⟩],.int .i64 k,.agg #[.bool false,.string ⟨#[]⟩,.string ⟨#[]⟩],.int .i64 k] w (da w (.bool true)):=by
 have f:(k==0)=false:=BU.2 a;go_enter Tryz.func19,Tryz.ntmps19;have h:c8 w ((w.alloc (FC false ⟨#[]⟩ ⟨#[]⟩)).alloc (FC false ⟨#[]⟩ ⟨#[]⟩)):=((aw _ w).alloc (ar _) _).alloc aE _;go_wp2_with fail
 refine(alS _).af ?_;rintro e d ⟨rfl,c⟩;have b:=h.trans (c.af h.size);go_wp2;go_ret;exact⟨rfl,b⟩
theorem abl (a b:Option Addr) (ca cb:Nat) (l:List Int) (w:World) (h:az w a l) (c:az w b l) (n:l.length<=100000):
  c6 25 #[.slice a l.length ca,.slice b l.length cb] w (da w (.bool true)):=by
 have A:=hid h;have d:=hid c;clear h c;go_enter Tryz.func25,Tryz.ntmps25;go_wp2_with fail
 go_loopw [5] (fun iv wr=>∃i:Nat,i<=l.length/\iv=.int .i64 i/\Hid (c8 w wr)) (fun iv _=>l.length - (intOf iv).toNat)
 case atStart=>exact⟨0,aS _,rfl,aw _ _⟩
 case round=>
  obtain⟨i,m,rfl,H⟩:=hrel;by_cases t:i<l.length
  ·obtain⟨g,o,rfl,k,e⟩:=(A.o.aa H.o) i t;obtain⟨j,p,rfl,q,f⟩:=(d.o.aa H.o) i t;generalize l[i]=x at *;go_wp2_with fail
   go_quiet (fail)
   go_wp2;go_roundw
   case rel=>exact⟨i+1,al,bd,Hn H.o _⟩
   case measure=>simp[intOf];omega
  ·obtain rfl:i=l.length:=al
   go_wp2;go_ret;exact⟨rfl,H.o⟩
theorem aiv (a b:Option Addr) (ca cb:Nat) (l:List Fr) (w:World) (h:cG w a l) (c:cG w b l) (u:l.length<=100000):
  c6 49 #[.slice a l.length ca,.slice b l.length cb] w (da w (.bool true)):=by
 have A:=hid h;have d:=hid c;clear h c;go_enter Tryz.func49,Tryz.ntmps49;go_wp2_with fail
 go_loopw [5] (fun iv wr=>∃i:Nat,i<=l.length/\iv=.int .i64 i/\Hid (c8 w wr)) (fun iv _=>l.length - (intOf iv).toNat)
 case atStart=>exact⟨0,aS _,rfl,aw _ _⟩
 case round=>
  obtain⟨i,s,rfl,H⟩:=hrel;by_cases t:i<l.length
  ·obtain⟨g,o,rfl,r,e,j,k⟩:=(A.o.aa H.o) i t;obtain⟨q,v,rfl,z,m,n,p⟩:=(d.o.aa H.o) i t;generalize l[i]=f at *;obtain⟨fn,x,y⟩:=f;simp only at e j k m n p;go_wp2_with fail
   go_quiet (fail)
   go_wp2;go_roundw
   case rel=>exact⟨i+1,al,bd,Hn H.o _⟩
   case measure=>simp[intOf];omega
  ·obtain rfl:i=l.length:=al
   go_wp2;go_ret;exact⟨rfl,H.o⟩
theorem aiu (a b c d:Option Addr) (ca cb cc cd:Nat) (vars:List Int) (l:List Fr) (w:World) (k:az w a vars) (m:cG w b l) (n:az w c vars) (p:cG w d l) (u:vars.length<=100000) (t:l.length<=100000):
  c6 22 #[.agg #[.slice a vars.length ca,.slice b l.length cb],.agg #[.slice c vars.length cc,.slice d l.length cd]] w (da w (.bool true)):=by
 have A:=hid k;have H:=hid m;have s:=hid n;have D:=hid p;clear k m n p;have h:c8 w ((w.alloc (TC (.slice a vars.length ca) (.slice b l.length cb))).alloc (TC (.slice c vars.length cc) (.slice d l.length cd))):=((aw _ w).alloc (ar _) _).alloc aE _;have f:=(bs.at (w:=w) rfl (.slice a vars.length ca) (.slice b l.length cb)).alloc (TC (.slice c vars.length cc) (.slice d l.length cd));have i:=bs.at (w:=w.alloc (TC (.slice a vars.length ca) (.slice b l.length cb))) (g:=w.heap.size+1) aE (.slice c vars.length cc) (.slice d l.length cd);have q:=f.c0;have r:=i.c0;go_enter Tryz.func22,Tryz.ntmps22;go_wp2_with fail
 generalize ((w.alloc (TC (.slice a vars.length ca) (.slice b l.length cb))).alloc (TC (.slice c vars.length cc) (.slice d l.length cd)))=W at *;refine(abl a c ca cc vars _ (A.o.aa h) (s.o.aa h) u).af ?_;rintro e x ⟨rfl,j⟩;replace h:=h.trans (j.af h.size);replace f:=f.aa j f.lt;replace i:=i.aa j i.lt;clear q r j;have q:=f.c1;have r:=i.c1;go_wp2_with fail
 refine(aiv b d cb cd l _ (H.o.aa h) (D.o.aa h) t).af ?_;rintro e y ⟨rfl,v⟩;go_wp2;go_ret;exact⟨rfl,h.trans (v.af h.size)⟩
variable {g:Nat} {x':Value}
theorem cG.farT {V:World} {c:Option Addr} {l:List Fr} (h:cG V c l) (n:bs V g x y) (q:cP x) (r:cP y) (j:Nat) (u:Value):cG (V.setCell ⟨g,j,none⟩ u) c l:=fun k p=>by
 obtain⟨g',o,rfl,t,a,b,d⟩:=h k p;obtain⟨v,D,z,rfl⟩:=q;obtain⟨w,E,A,rfl⟩:=r
 have s:¬g'=g:=fun e=>by
  subst e;rw[bZ V g' _ _ _ (0,0) n] at a;match hm:o+k*3 with
  |0=>rw[hm] at a;simp at a
  |1=>rw[hm] at a;simp at a
  |m+2=>rw[hm] at a;simp at a
 have f:∀i,(V.setCell ⟨g,j,none⟩ u).cell? ⟨g',i,none⟩=V.cell? ⟨g',i,none⟩:=fun i=>cD _ _ _ _ (fun e=>s (bU Addr.block e).symm);exact⟨g',o,rfl,aU t (jk V _ _).size,(f _).trans a,(f _).trans b,(f _).trans d⟩
theorem cG.putT {V:World} {c:Option Addr} {l:List Fr} (h:cG V c l) (b:bs V g x y) (e:cP x) (a:cP y) (i:cP x') (f:Value):cG ((V.setCell ⟨g,0,none⟩ x').setCell ⟨g,1,none⟩ f) c l:=by
 have d:bs (V.setCell ⟨g,0,none⟩ x') g x' y:=kM V g 0 _ _ x' b;exact(h.farT b e a 0 _).farT d i a 1 _
section
attribute [local go_sem] Oper.semAt_some
theorem ap3 (a b:Option Addr) (ca cb:Nat) (sizes vars:List Int) (K:Nat) (w:World) (hs:az w a sizes) (hv:az w b vars) (R:eW sizes) (a8:Up vars sizes.length) (A:K<cnt (ag sizes) (ag vars)):
  c6 97 #[.slice a sizes.length ca,.slice b vars.length cb,.int .i64 (K:Nat)] w fun e w'=>∃(g:Nat) (cc:Nat),e=.returned (.slice (some ⟨g,0,none⟩) (bX (ag sizes) (ag vars) K).length cc)/\w.heap.size<=g/\cC w' g (bX (ag sizes) (ag vars) K)/\c8 w w':=by
 refine(iG (n:=6)).1 ?_;have oO:=R.eight;have i6:=a8.length;have av:cnt (ag sizes) (ag vars)<=65536:=qL R.sz_le (by rw[cV];omega);have an:=fun V=>OQ (P:=Tryz.prog) 22 3 (.int .i64 0) 8 Tryz.underlying22 Tryz.infoInt rfl .i64 .i64 vars.length al al V;have HS:=hid hs;have HV:=hid hv;have T:=hid R;have gP:=hid a8;have qC:(bX (ag sizes) (ag vars) K).length=vars.length:=by rw[vT,cV]
 have rX:=hid (afS A);rw[cV] at rX;rw[qC];clear hs hv R a8;refine uY Tryz.func97 rfl trivial ?_ rfl;simp only[Tryz.ntmps97,od,eA,mg,Nat.reduceAdd,Nat.reduceSub,oz,ow,oh,ng,iI,fM];gi_wp2_with ((refine⟨trivial,?_⟩;gi_at_call 145;refine(RZ _ _ _ _ _).af ?_;rintro e w2 ⟨rfl,rfl⟩))
 obtain⟨m,q⟩:∃m,m=(((((w.alloc (.cells #[.slice a sizes.length ca] 22)).alloc (.cells #[.int .i64 (K:Nat)] 3)).alloc (.cells (madeCells #[.int .i64 0] vars.length) 3)).alloc (.cells #[.slice (some ⟨w.heap.size+1+1,0,none⟩) vars.length vars.length] 22)).alloc (.cells #[.slice b vars.length cb] 22)):=⟨_,rfl⟩;have xo:m.heap.size=w.heap.size+1+1+1+1+1:=by rw[q];simp
 have b0:Boxed m w.heap.size 22 (.slice a sizes.length ca):=by rw[q];exact((((bh w _ _).alloc _).alloc _).alloc _).alloc _
 have b1:Boxed m (w.heap.size+1) 3 (.int .i64 (K:Nat)):=by
  have h:=((((bh (w.alloc (.cells #[.slice a sizes.length ca] 22)) 3 (.int .i64 (K:Nat))).alloc (.cells (madeCells #[.int .i64 0] vars.length) 3)).alloc (.cells #[.slice (some ⟨w.heap.size+1+1,0,none⟩) vars.length vars.length] 22)).alloc (.cells #[.slice b vars.length cb] 22));rw[cU] at h;rw[q];exact h
 have r2:cC m (w.heap.size+1+1) (List.replicate vars.length 0):=by
  have h:=((Va ((w.alloc (.cells #[.slice a sizes.length ca] 22)).alloc (.cells #[.int .i64 (K:Nat)] 3)) vars.length).alloc (.cells #[.slice (some ⟨w.heap.size+1+1,0,none⟩) vars.length vars.length] 22)).alloc (.cells #[.slice b vars.length cb] 22);rw[cU,cU] at h;rw[q];exact h
 have b3:Boxed m (w.heap.size+1+1+1) 22 (.slice (some ⟨w.heap.size+1+1,0,none⟩) vars.length vars.length):=by
  have h:=(bh (((w.alloc (.cells #[.slice a sizes.length ca] 22)).alloc (.cells #[.int .i64 (K:Nat)] 3)).alloc (.cells (madeCells #[.int .i64 0] vars.length) 3)) 22 (.slice (some ⟨w.heap.size+1+1,0,none⟩) vars.length vars.length)).alloc (.cells #[.slice b vars.length cb] 22);rw[cU,cU,cU] at h;rw[q];exact h
 have b4:Boxed m (w.heap.size+1+1+1+1) 22 (.slice b vars.length cb):=by
  have h:=bh ((((w.alloc (.cells #[.slice a sizes.length ca] 22)).alloc (.cells #[.int .i64 (K:Nat)] 3)).alloc (.cells (madeCells #[.int .i64 0] vars.length) 3)).alloc (.cells #[.slice (some ⟨w.heap.size+1+1,0,none⟩) vars.length vars.length] 22)) 22 (.slice b vars.length cb);rw[cU,cU,cU,cU] at h;rw[q];exact h
 have ae:c8 w m:=by
  rw[q];exact(((((aw _ w).alloc (ar _) _).alloc aE _).alloc (by simp;omega) _).alloc (by simp;omega) _).alloc (by simp;omega) _
 rw[<- q];clear q
 refine KJ (α:=At vars) rfl al (gf:=189) (lb:= #[.pointer (some ⟨w.heap.size+1+1+1+1,0,none⟩)]) rfl trivial (enters_of Tryz.func189 ao rfl)
  (RY 5 al (w.heap.size+1+1+1+1) w.heap.size b cb vars al m al al b4.cell (HV.o.toB.aa ae)) sK.t (sK.b al al) (aw _ _) (fun _=>rfl)
  (fun (d:List (At vars)) V=>Boxed V w.heap.size 22 (.slice a sizes.length ca)/\Boxed V (w.heap.size+1) 3 (.int .i64 ((kj (ag sizes) (ag vars) K vars.length (d.map (·.1))).1:Nat))/\cC V (w.heap.size+1+1) (kj (ag sizes) (ag vars) K vars.length (d.map (·.1))).2/\Boxed V (w.heap.size+1+1+1) 22 (.slice (some ⟨w.heap.size+1+1,0,none⟩) vars.length vars.length)/\Boxed V (w.heap.size+1+1+1+1) 22 (.slice b vars.length cb)/\c8 w V)
  (fun _ _ _=>False)
  (eZ (fY (jh _ _ (fun _=>_)) _) (eZ (fY (jh _ _ (fun d:List (At vars)=>.int .i64 ((kj (ag sizes) (ag vars) K vars.length (d.map (·.1))).1:Nat))) _) (eZ (fY (Jc _ (fun d:List (At vars)=>(kj (ag sizes) (ag vars) K vars.length (d.map (·.1))).2)) _) (eZ (fY (jh _ _ (fun _=>_)) _) (eZ (fY (jh _ _ (fun _=>_)) _) (zV (ar _) al))))))
  (fun _ _ _ _ _ hs _ _=>hs)
  ⟨b0,b1,r2,b3,b4,ae⟩
  (fun x=> {tmps:= #[.slice a sizes.length ca,.slice b vars.length cb,.int .i64 (K:Nat),.pointer (some ⟨w.heap.size,0,none⟩),undef,.pointer (some ⟨w.heap.size+1,0,none⟩),.slice none 0 0,.pointer (some ⟨w.heap.size+1+1+1,0,none⟩),.int .i64 (x.1:Nat),.int .i64 (vars[x.1]'x.2),.slice b vars.length cb,.int .i64 (vars.length:Nat),.slice (some ⟨w.heap.size+1+1,0,none⟩) vars.length vars.length,.slice b vars.length cb,.func (.func 189) #[] #[.pointer (some ⟨w.heap.size+1+1+1+1,0,none⟩)],.int .i64 (x.1:Nat),.int .i64 (vars[x.1]'x.2),undef,undef,undef,undef,undef,undef,undef,undef,undef,undef,undef,undef,undef,undef,undef,undef],defers:=[]}) ?assign ?body ?done ?stop
 case assign=>
  intro l x V K A;gi_wp2
  exact A
 case body=>
  rintro l d ⟨i,Z⟩ V ⟨h0,Q,J,L,h4,Y⟩ aQ;obtain⟨iq,ia⟩:=gP.o.nat Z
  have ab:Hid (kj (ag sizes) (ag vars) K vars.length ((d++[(⟨i,Z⟩:At vars)]).map (·.1))=((kj (ag sizes) (ag vars) K vars.length (d.map (·.1))).1/sz (ag sizes) vars[i].toNat,(kj (ag sizes) (ag vars) K vars.length (d.map (·.1))).2.set i ((kj (ag sizes) (ag vars) K vars.length (d.map (·.1))).1 % sz (ag sizes) vars[i].toNat))):=by
   show _=_;rw[fg,gV,lx,Yf,Ff,C9 (show i<(ag vars).length by rw[cV];exact Z),qj Z]
  obtain⟨jV,ai⟩:=afQ (ag sizes) (ag vars) K vars.length (d.map (·.1));have hz:=iM T.o.pos vars[i].toNat;have vD:=T.o.sz_le vars[i].toNat;generalize hV:vars[i].toNat=v at *;rw[<- iq];obtain⟨g',o',rfl,iA,X⟩:=(HS.o.aa Y) v ia;rw[<- T.o.sz_eq ia] at X
  have aN:g'<w.heap.size:=by
   obtain⟨g3,o3,e3,L,_⟩:=HS.o v ia;cases e3;exact L
  clear iq hV;generalize kj (ag sizes) (ag vars) K vars.length (d.map (·.1))=st at *;obtain⟨p,ad⟩:=st;simp only at Q J jV ai ab;generalize sz (ag sizes) v=s at *;have bd:=J.cell i al;have aG:=J.fz i;have k0:=h0.cell;have k1:=Q.cell;have k3:=L.cell;have f1:=Q.frozen;have tA:(p:Int) % (s:Int)=((p % s:Nat):Int):=(sY _ _).symm;have mz:(p:Int)/(s:Int)=((p/s:Nat):Int):=(vp _ _).symm;have a1:p % s<=65536:=aR (II _ _) al;have bw:p/s<=65536:=aR (wF _ _) al;generalize p % s=mm at *;generalize p/s=dd at *;have bb:¬(s:Int)=0:=al
  have ax:¬w.heap.size+1+1=w.heap.size+1:=al
  have ay:¬w.heap.size+1=w.heap.size+1+1:=al
  have fj:i<ad.length:=al
  generalize ad[i]=z at *;have a6:IntKind.i64.wrap ((p:Int) % (s:Int))=(p:Int) % (s:Int):=by rw[tA,dE];omega
  have a7:IntKind.i64.wrap ((p:Int)/(s:Int))=(p:Int)/(s:Int):=by rw[mz,dE];omega
  have gR:=hid tA;have fP:=hid mz;clear tA mz an b0 b1 r2 b3 b4 ae xo qC rX gP T HV av A ai;gi_wp2_with fail
  refine wK (fun u=>u.cell? ⟨w.heap.size+1+1+1,0,none⟩=some (.slice (some ⟨w.heap.size+1+1,0,none⟩) vars.length vars.length)/\u.cell? ⟨w.heap.size+1,0,none⟩=some (.int .i64 (p:Nat))/\u.cell? ⟨w.heap.size,0,none⟩=some (.slice (some ⟨g',o',none⟩) sizes.length ca)/\u.cell? ⟨g',o'+v,none⟩=some (.int .i64 (s:Nat))) ao ao (fun ⟨_,_,h⟩=>h) ⟨k3,k1,k0,X⟩ ?_;intro S;refine cM 0 (.slice (some ⟨w.heap.size+1+1,0,none⟩) vars.length vars.length) ?_ ?_
  ·intro u O;obtain⟨E,F,f,k⟩:=O;simp only[gE];go_simp
  simp only[gE,aP];refine cM 1 (.int .i64 (i:Nat)) ?_ ?_
  ·intro u O;obtain⟨E,F,f,k⟩:=O;simp only[gE];go_simp
  simp only[gE,aP];refine cM 2 (.int .i64 (p:Nat)) ?_ ?_
  ·intro u O;obtain⟨E,F,f,k⟩:=O;simp only[gE];go_simp
  simp only[gE,aP];refine cM 3 (.slice (some ⟨g',o',none⟩) sizes.length ca) ?_ ?_
  ·intro u O;obtain⟨E,F,f,k⟩:=O;simp only[gE];go_simp
  simp only[gE,aP];refine cM 4 (.int .i64 (v:Nat)) ?_ ?_
  ·intro u O;obtain⟨E,F,f,k⟩:=O;simp only[gE];go_simp
  simp only[gE,aP];refine cM 5 (.pointer (some ⟨g',o'+v,none⟩)) ?_ ?_
  ·intro u O;obtain⟨E,F,f,k⟩:=O;simp only[gE];go_simp
  simp only[gE,aP];refine cM 6 (.int .i64 (s:Nat)) ?_ ?_
  ·intro u O;obtain⟨E,F,f,k⟩:=O;simp only[gE];go_simp
  simp only[gE,aP];refine cM 7 (.int .i64 ((p:Int) % (s:Int))) ?_ ?_
  ·intro u O;obtain⟨E,F,f,k⟩:=O;simp only[gE];go_simp;rw[aB (show ¬s=0 by omega),ZV (Tj _)]
  simp only[gE,aP];refine cM 8 (.pointer (some ⟨w.heap.size+1+1,i,none⟩)) ?_ ?_
  ·intro u O;obtain⟨E,F,f,k⟩:=O;simp only[gE];go_simp
  simp only[gE,aP];refine aI [9] (cA ?_ aH);intro M I;simp only[gE];go_simp;have H:∀(b j:Nat) (y:Value),¬w.heap.size+1+1=b ->(V.setCell ⟨w.heap.size+1+1,i,none⟩ y).drew.cell? ⟨b,j,none⟩=V.cell? ⟨b,j,none⟩:=fun b j y hb=>cD _ _ _ _ (fun e=>hb (by cases e;rfl));refine I.o _ _ ⟨(H _ _ _ al).trans k3,(H _ _ _ al).trans k1,(H _ _ _ al).trans k0,(H _ _ _ al).trans X⟩ (fun _=>dC ao ?_ _);clear I M S;have m0:=(H w.heap.size 0 (.int .i64 ((p:Int) % (s:Int))) al).trans k0;have m1:=(H (w.heap.size+1) 0 (.int .i64 ((p:Int) % (s:Int))) al).trans k1;have m2:=(H g' (o'+v) (.int .i64 ((p:Int) % (s:Int))) al).trans X;have aj:=J.set i mm;rw[<- gR.o] at aj;have q0:Boxed (V.setCell ⟨w.heap.size+1+1,i,none⟩ (.int .i64 ((p:Int) % (s:Int)))).drew w.heap.size 22 (.slice (some ⟨g',o',none⟩) sizes.length ca):=fA h0 _ i _ al;have q1:Boxed (V.setCell ⟨w.heap.size+1+1,i,none⟩ (.int .i64 ((p:Int) % (s:Int)))).drew (w.heap.size+1) 3 (.int .i64 (p:Nat)):=fA Q _ i _ al;have q3:Boxed (V.setCell ⟨w.heap.size+1+1,i,none⟩ (.int .i64 ((p:Int) % (s:Int)))).drew (w.heap.size+1+1+1) 22 (.slice (some ⟨w.heap.size+1+1,0,none⟩) vars.length vars.length):=fA L _ i _ al;have q4:Boxed (V.setCell ⟨w.heap.size+1+1,i,none⟩ (.int .i64 ((p:Int) % (s:Int)))).drew (w.heap.size+1+1+1+1) 22 (.slice b vars.length cb):=fA h4 _ i _ al
  have q2:cC (V.setCell ⟨w.heap.size+1+1,i,none⟩ (.int .i64 ((p:Int) % (s:Int)))).drew (w.heap.size+1+1) (ad.set i mm):=aj;have qB:c8 w (V.setCell ⟨w.heap.size+1+1,i,none⟩ (.int .i64 ((p:Int) % (s:Int)))).drew:=(Y.setCell (p:=⟨w.heap.size+1+1,i,none⟩) (by simp;omega) _).drew;have qK:Below w.heap.size V (V.setCell ⟨w.heap.size+1+1,i,none⟩ (.int .i64 ((p:Int) % (s:Int)))).drew:=((aw w.heap.size V).setCell (p:=⟨w.heap.size+1+1,i,none⟩) (by simp;omega) _).drew;have qO:KeepsOthers V (V.setCell ⟨w.heap.size+1+1,i,none⟩ (.int .i64 ((p:Int) % (s:Int)))).drew:=(jk V _ _).trans (yg _);have fU:=q1.frozen;have j4:pg (w.heap.size+1+1+1+1) V (V.setCell ⟨w.heap.size+1+1,i,none⟩ (.int .i64 ((p:Int) % (s:Int)))).drew:=q4.cell.trans h4.cell.symm;clear H;generalize (V.setCell ⟨w.heap.size+1+1,i,none⟩ (.int .i64 ((p:Int) % (s:Int)))).drew=U at *;gi_wp2_with fail
  refine wK (fun u=>u.cell? ⟨w.heap.size,0,none⟩=some (.slice (some ⟨g',o',none⟩) sizes.length ca)/\u.cell? ⟨g',o'+v,none⟩=some (.int .i64 (s:Nat))) ao ao (fun ⟨_,_,h⟩=>h) ⟨m0,m2⟩ ?_;intro S;refine cM 1 (.slice (some ⟨g',o',none⟩) sizes.length ca) ?_ ?_
  ·intro u O;obtain⟨f,k⟩:=O;simp only[gE];go_simp
  simp only[gE,aP];refine cM 2 (.int .i64 (v:Nat)) ?_ ?_
  ·intro u O;obtain⟨f,k⟩:=O;simp only[gE];go_simp
  simp only[gE,aP];refine cM 3 (.pointer (some ⟨g',o'+v,none⟩)) ?_ ?_
  ·intro u O;obtain⟨f,k⟩:=O;simp only[gE];go_simp
  simp only[gE,aP];refine cM 4 (.int .i64 (s:Nat)) ?_ ?_
  ·intro u O;obtain⟨f,k⟩:=O;simp only[gE];go_simp
  simp only[gE,aP];refine aI [0] (cA ?_ aH);intro M I;simp only[gE];go_simp;refine I.o _ _ S (fun _=>?_);clear I M;refine cM 5 (.int .i64 ((p:Int)/(s:Int))) ?_ ?_
  ·intro u O;obtain⟨f,k⟩:=O;simp only[gE];go_simp;omega
  simp only[gE,aP];refine aI [6] (cA ?_ aH);intro M I;simp only[gE];go_simp;refine I.o _ _ ⟨(fA q0 (w.heap.size+1) 0 _ al).cell,(cD _ _ _ _ (fun e=>(show ¬w.heap.size+1=g' by omega) (bU Addr.block e))).trans m2⟩ (fun _=>dC ao ?_ _);clear I M S;gi_wp2
  rw[fP.o];refine⟨(qO.trans ((jk U _ _).trans (yg _))).from _,⟨j4.t ((fA q4 (w.heap.size+1) 0 (.int .i64 (dd:Nat)) al).cell.trans q4.cell.symm),(qK.setCell (p:=⟨w.heap.size+1,0,none⟩) aE _).drew⟩,?_⟩;refine⟨fA q0 _ 0 _ al,?_,?_,fA q3 _ 0 _ al,fA q4 _ 0 _ al,(qB.setCell (p:=⟨w.heap.size+1,0,none⟩) aE _).drew⟩
  ·rw[ab.o];exact q1.set _
  ·rw[ab.o];exact q2.off _ 0 _ al
 case done=>
  rintro D ys V hD Ax ⟨h0,Q,J,L,h4,Y⟩ A;rw[Ax,rX.o] at J;have hc:=L.cell;gi_wp2
  refine⟨aE,.inl ⟨_,_,rfl,BQ A,?_⟩⟩;refine⟨_,BR rfl _ _ _,?_⟩;refine⟨w.heap.size+1+1,⟨vars.length,rfl⟩,al,?_,Y.trans (uZ (w:=w) (ar _) V D _ _ al A rfl rfl)⟩;have ak:cC (V.putObj D (.deferred none)) (w.heap.size+1+1) (bX (ag sizes) (ag vars) K):=Jc (w.heap.size+1+1) (fun (_:Unit)=>bX (ag sizes) (ag vars) K) () V _ (some D) J (OV V D _) (fun r e=>by cases e;exact⟨_,A,rfl⟩);exact ak
 case stop=>
  rintro D c d V _ _ h _;exact h.elim
theorem ahu (a b:Option Addr) (ca cb K:Nat) (sizes vars:List Int) (w:World) (s:az w a sizes) (v:az w b vars) (M:eW sizes) (d:Up vars sizes.length) (m:K<cnt (ag sizes) (ag vars)):
  c6 136 #[.slice a sizes.length ca,.slice b vars.length cb,.int .i64 (K:Nat)] w fun e w'=>∃(g:Nat) (cc:Nat),e=.returned (.tuple #[.slice (some ⟨g,0,none⟩) vars.length cc,.int .i64 0])/\w.heap.size<=g/\cC w' g (bX (ag sizes) (ag vars) K)/\c8 w w':=by
 have O:=M.eight;have r:=d.length;have S:=hid s;have j:=hid v;have k:countB sizes vars=true:=Hi M d;have H:=hid (fun V f i=>Px a b ca cb sizes vars V f i al al);rw[Hj k] at H;simp only at H;have A:=hid (fun V f i=>ap3 a b ca cb sizes vars K V f i M d m);have q:(bX (ag sizes) (ag vars) K).length=vars.length:=by rw[vT,cV]
 rw[q] at A;clear s v k M d q;generalize bX (ag sizes) (ag vars) K=ds at *;generalize cnt (ag sizes) (ag vars)=l at *;have z:(0:Int)<=(K:Int):=al
 have x:(K:Int)<(l:Int):=al
 go_enter Tryz.func136,Tryz.ntmps136;go_wp2_with fail
 refine(H.o _ S.o j.o).af ?_;rintro e t ⟨rfl,h⟩;go_wp2_with fail
 refine(A.o _ (S.o.aa h) (j.o.aa h)).af ?_;rintro e u ⟨c,cc,rfl,y,n,p⟩;have D:=h.size;go_wp2;go_ret2;exact⟨c,cc,rfl,al,n,h.trans (p.af h.size)⟩
end
open Go.Sort Go.Lib
variable {la:List Int} {A:List Nat} {Ab:Nat} {z:Value} {wr wr':World}
theorem ahZ {a:Addr} (i:az w (some a) la):∀j u,(la.map (Value.int .i64))[j]? =some u ->w.cell? (a.add j)=some u:=by
 intro j u h;rw[pL] at h;cases hq:la[j]? with
 |none=>rw[hq] at h;cases h
 |some z=>
  rw[hq] at h;cases h;obtain⟨E,J⟩:=mZ.1 hq;obtain⟨g,o',e,_,c⟩:=i j E;cases e;rw[<- J];rw[Addr.add];by_cases b:j=0
  ·subst b;simpa using c
  ·simpa [b] using c
theorem adZ {c:Array Value} (h:w.heap[g]? =some (.cells c 3 (0,0))) (b:∀j (a:j<l.length),c[j]? =some (.int .i64 l[j])):Holds (Value.int .i64) w g 0 l.toArray:=fun j a=>by
 have d:j<l.length:=by simpa using a
 refine⟨?_,lr w g (0+j) _ _ h⟩;rw[bM,bZ w g j _ _ (0,0) h,b j d,KM l.toArray j a];simp
theorem agL {o:Oper} {a:Act} {K:Act ->World ->Prop} {Q:Exit ->Act ->World ->Prop} (s x:Operand)
  (r:o.op=.call {callee:=.builtin .append,args:= #[s,x],argTypes:= #[22,22]}) (b:Nat) (z:Int) (la:List Int) (t:a.eval s=.slice (some ⟨b,0,none⟩) 1 1) (f:w.heap[b]? =some (.cells #[.int .i64 z] 3 (0,0))) (p:Option Addr) (ca:Nat) (v:a.eval x=.slice p la.length ca) (A:az w p la) (J:p=none ->ca=0) (U:la.length<=100000)
  (h:∀D cap w',(D=b∨w.heap.size<=D) ->D<w'.heap.size ->Holds (Value.int .i64) w' D 0 ([z]++la).toArray ->w.grownBy w' (some b) ->K (a.put o.dst (.slice (some ⟨D,0,none⟩) ([z]++la).length cap)) w'):o.wp Tryz.prog a w K Q:=by
 obtain⟨i,q,M,E,O⟩:=dW Tryz.infoInt;have L:b<w.heap.size:=(dS.1 f).1
 have H:Holds (Value.int .i64) w b 0 ([z]++[]).toArray:=adZ f fun j c=>by
  have:j=0:=by simp at c;omega
  subst this;rfl
 have F:∀(m:la=[]),K (a.put o.dst (.slice (some ⟨b,0,none⟩) 1 1)) w:=fun m=>by
  subst m;exact h b 1 w (.inl rfl) L H ⟨rfl,rfl,rfl,ar _,fun _ _ _=>rfl⟩
 cases p with
 |none=>
  have d:la=[]:=by
   cases la with
   |nil=>rfl
   |cons x l=>obtain⟨g,o,e,_⟩:=A 0 aE;cases e
  have I:=J rfl;have k:=F d;subst d I;have R:w.ownsRow b 3 1 (.slice (some ⟨b,0,none⟩) 1 1) 1 [.int .i64 z]:=⟨rfl,.inr ⟨b,1,_,rfl,ar _,f,ar _,by unfold maxLen;omega,rfl,rfl⟩⟩;have n:=run_append_owned_none (P:=Tryz.prog) (w:=w) b 22 o.type 3 i 1 Tryz.underlying22 q (.slice (some ⟨b,0,none⟩) 1 1) 1 _ R;unfold Oper.wp;simp[execOp,r,resolve,invoke,builtin,t,v,n,Result.andThen];exact k
 |some ad=>
  have S:=ahZ A;have d:(la.map (Value.int .i64)).length=la.length*i.size:=by rw[E];simp
  by_cases m:la=[]
  ·have k:=F m;subst m;have n:=run_append_room_cells (P:=Tryz.prog) (w:=w) 22 o.type 3 i Tryz.underlying22 q b 0 1 1 ad 0 ca [] aE aE aE (ar _) aE aE;unfold Oper.wp execOp;simp only[r,resolve,invoke,builtin,KN,F2,BV,KV,gV,lx,t,v,mg,n];exact k
  ·have T:0<la.length:=List.length_pos_iff.2 m
   have n:=run_append_grow (P:=Tryz.prog) w 22 o.type 3 i (.int .i64 0) Tryz.underlying22 q M ⟨b,0,none⟩ 1 1 [.int .i64 z] (by rw[E];rfl) (fun j u c=>by
    match j,c with
    |0,c=>cases c;rw[show (⟨b,0,none⟩:Addr).add 0=⟨b,0,none⟩ from rfl,bZ w b 0 _ _ (0,0) f];rfl
    |j+1,c=>simp at c) ad la.length ca (la.map (Value.int .i64)) d S al al (OS al (by rw[O];omega))
   unfold Oper.wp execOp;simp only[r,resolve,invoke,builtin,KN,F2,BV,KV,gV,lx,t,v,n];have y:=h w.heap.size (grownCap w (1+la.length) 1 3) (w.drew.alloc (.cells ([Value.int .i64 z].toArray++(la.map (Value.int .i64)).toArray++Builtin.zeroCells (Value.int .i64 0).cells (grownCap w (1+la.length) 1 3 - (1+la.length))) 3)) (.inr (ar _)) aE ?_ ⟨rfl,rfl,rfl,aE,fun _ k _=>r8 w.drew _ _ k⟩
   ·have e:([z]++la).length=1+la.length:=by simp;omega
    rw[e] at y;exact y
   ·refine adZ (jg w.drew _) fun j c=>?_;rw[Array.getElem?_append_left (by simp at c⊢;omega)];simp only[ng,List.getElem?_toArray];rw[show [Value.int .i64 z]++la.map (Value.int .i64)=([z]++la).map (Value.int .i64) by simp,pL,List.getElem?_eq_getElem c];rfl
theorem aiC (g cap:Nat) (l:List Int) (w:World) (b:Holds (Value.int .i64) w g 0 l.toArray) (h:g<w.heap.size) (p:l.length<=100000):
  c6 135 #[.slice (some ⟨g,0,none⟩) l.length cap] w fun e w'=>e=.returned (.slice (some ⟨g,0,none⟩) l.length cap)/\az w' (some ⟨g,0,none⟩) (l.mergeSort fun x y=>decide (x<=y))/\w.grownBy w' (some g):=by
 have O:=hid (Tryz.slices_Sort_int g 0 cap l w b h al);have m:(l.mergeSort fun x y=>decide (x<=y)).length=l.length:=O6 _;generalize (l.mergeSort fun x y=>decide (x<=y))=s at *;have H:=hid b;clear b;go_enter Tryz.func135,Tryz.ntmps135;go_wp2_with fail
 refine O.o.af ?_;rintro e i ⟨rfl,q,a,rfl⟩;have z:s.toArray.size=l.toArray.size:=by simp;exact m
 have E:Holds (Value.int .i64) (grow (putRow (Value.int .i64) (Sort.ahead w q) g 0 s.toArray) a) g 0 s.toArray:=fun j c=>by
  obtain⟨d,f⟩:=holds_putRow (Value.int .i64) (Sort.ahead w q) g 0 _ s.toArray H.o z j c;have K:g<(putRow (Value.int .i64) (Sort.ahead w q) g 0 s.toArray).heap.size:=by rw[size_putRow];exact h
  refine⟨(cell?_grow _ _ _ K).trans d,?_⟩;rw[frozen?_grow _ _ _ K];exact f
 have r:=OU (w:=w) (g:=g) (n:=q) (os:=a) s.toArray;have M:g<(grow (putRow (Value.int .i64) (Sort.ahead w q) g 0 s.toArray) a).heap.size:=aU h r.size;generalize grow (putRow (Value.int .i64) (Sort.ahead w q) g 0 s.toArray) a=i at *;have k:=hid E;clear E;go_wp2;go_ret;exact⟨rfl,EB k.o M (fun j c=>⟨by simpa using c,aE⟩),r⟩
structure GV (w:World) (x y z:Value) (G D C Ab:Nat) (S:List Nat) (U:List Int) (wr:World) (F:List Fr) (A:List Nat):Prop where
 gk:GK w wr x y z
 szs:cC wr G S
 us:az wr (some ⟨D,0,none⟩) U
 cs:kD wr C F
 vs:cC wr Ab A
 oG:w.heap.size+2<=G
 oD:w.heap.size+2<=D
 oGC:G<C
 oDC:D<C
 oCA:C<Ab
theorem GV.step {G C:Nat} {U:List Int} {F:List Fr} (h:GV w x y z G D C Ab S U wr F A) (b:c8 wr wr'):GV w x y z G D C Ab S U wr' F A:=
 ⟨h.gk.step b,h.szs.aa b h.szs.lt,h.us.aa b,h.cs.aa b h.cs.lt,h.vs.aa b h.vs.lt,h.oG,h.oD,h.oGC,h.oDC,h.oCA⟩
theorem az.far {o:Nat} (h:az w (some ⟨g,o,none⟩) l) (b j:Nat) (y:Value) (n:g≠b):az (w.setCell ⟨b,j,none⟩ y) (some ⟨g,o,none⟩) l:=fun k d=>by
 obtain⟨g',o',e,a,c⟩:=h k d;cases e;exact⟨g,o,rfl,by simpa using a,(cD _ _ _ _ (fun e=>n (by cases e;rfl))).trans c⟩
theorem GK.far {V:World} (h:GK w V x y z) (b j:Nat) (u:Value) (a:w.heap.size+2<=b):GK w (V.setCell ⟨b,j,none⟩ u) x y z:=
 ⟨⟨(iJ V ⟨b,j,none⟩ u w.heap.size (by show w.heap.size≠b;omega)).trans h.1.1,h.1.2.setCell (p:=⟨b,j,none⟩) (by show w.heap.size<=b;omega) u⟩,h.2.off b j u al⟩
theorem GV.setA {G C:Nat} {U:List Int} {F:List Fr} (h:GV w x y z G D C Ab S U wr F A) (j k:Nat):GV w x y z G D C Ab S U (wr.setCell ⟨Ab,j,none⟩ (.int .i64 (k:Nat))) F (A.set j k):=by
 have:=h.oG;have:=h.oD;have:=h.oGC;have:=h.oDC;have:=h.oCA;exact⟨h.gk.far _ _ _ al,h.szs.off _ _ _ al,h.us.far _ _ _ al,h.cs.off _ _ _ al,h.vs.set _ _,h.oG,h.oD,h.oGC,h.oDC,h.oCA⟩
theorem GV.setC {G C:Nat} {U:List Int} {F:List Fr} (h:GV w x y z G D C Ab S U wr F A) (k:Nat) (f:Fr):GV w x y z G D C Ab S U (((wr.setCell ⟨C,k*3,none⟩ (.bool f.1)).setCell ⟨C,k*3+1,none⟩ (.string f.2.1)).setCell ⟨C,k*3+2,none⟩ (.string f.2.2)) (F.set k f) A:=by
 have:=h.oG;have:=h.oD;have:=h.oGC;have:=h.oDC;have:=h.oCA;exact⟨((h.gk.far _ _ _ al).far _ _ _ al).far _ _ _ al,((h.szs.off _ _ _ al).off _ _ _ al).off _ _ _ al,((h.us.far _ _ _ al).far _ _ _ al).far _ _ _ al,h.cs.put k f,((h.vs.off _ _ _ al).off _ _ _ al).off _ _ _ al,h.oG,h.oD,h.oGC,h.oDC,h.oCA⟩
variable {fn:Func}
theorem dH.check {t:Tb} (h:dH S S.length t) (f:eW (iL S)):jZ (iL S) t.1 t.2.length=0:=RQ (Hi f (by rw[ba];exact h.up)) (by rw[eM];exact h.len)
theorem dH.small {t:Tb} (h:dH S S.length t) (f:eW (iL S)):t.1.length<=8:=by
 have b:=h.up.length;have a:=f.eight;rw[ba] at a;omega
def De (B:Nat) (t:Tb) (e:Ending) (w':World):Prop:=∃x y,e=.returned (.tuple #[.agg #[x,y],.int .i64 0])/\di w' x y t/\∀R,R< B ->fV R t (x,y)
theorem vV.tb {B:Nat} {t:Tb} {e:Ending} (h:vV B t.1 t.2 0 e w'):De B t e w':=by
 obtain⟨b,c,cb,cc,d,f,g,a,i⟩:=h;exact⟨_,_,d,⟨b,c,cb,cc,rfl,rfl,f,g,a.1⟩,fun R j=>fV.new a i j⟩
theorem ala (a:Option Addr) (ca:Nat) (S:List Nat) (x y x' f:Value) (s t:Tb) (w:World) (M:eW (iL S)) (r:az w a (iL S)) (h:di w x y s) (m:di w x' f t) (o:dH S S.length s) (g:dH S S.length t) (u:Cw 100000 s.2) (D:Cw 100000 t.2):
  c6 147 #[.slice a S.length ca,.agg #[x,y],.agg #[x',f]] w fun e w'=>De w.heap.size (Ar S s t) e w'/\c8 w w':=by
 obtain⟨b,c,cb,cc,rfl,rfl,n,p,q⟩:=h;obtain⟨i,j,l,Z,rfl,rfl,v,z,A⟩:=m;have k:=M.eight;rw[ba] at k;have E:=o.small M;have F:=g.small M;have:=ahy a b c i j ca cb cc l Z (iL S) s.1 t.1 s.2 t.2 w r n v p z (by rw[ba];omega) al al q A (o.check M) (g.check M) u D;rw[ba,eM] at this;exact this.af fun e w' d=>⟨vV.tb (t:=Ar S s t) d.1,d.2⟩
theorem akv (w:World):di (w.alloc (.cells #[.bool (aJ 1),.string (nu 1),.string (de 1)] 53)) (.slice none 0 0) (.slice (some ⟨w.heap.size,0,none⟩) 1 1) En:=by
 have e:=jg w (.cells #[.bool (aJ 1),.string (nu 1),.string (de 1)] 53);refine⟨none,_,0,1,rfl,rfl,(fun k h=>absurd h (by simp[En])),fun k h=>?_,fun _=>rfl⟩;obtain rfl:k=0:=by simp[En] at h;omega
 exact⟨_,0,rfl,(dS.1 e).1,(bZ _ _ 0 _ _ (0,0) e).trans rfl,(bZ _ _ 1 _ _ (0,0) e).trans rfl,(bZ _ _ 2 _ _ (0,0) e).trans rfl⟩
theorem di.putT {V:World} {u v:Value} {t:Tb} (h:di V x y t) (d:bs V g u v) (e:cP u) (f:cP v) (i:cP x') (a:Value):di ((V.setCell ⟨g,0,none⟩ x').setCell ⟨g,1,none⟩ a) x y t:=by
 obtain⟨b,c,cb,cc,j,k,l,m,n⟩:=h;exact⟨b,c,cb,cc,j,k,l.putT d e f i a,m.putT d e f i a,n⟩
theorem di.slices {t:Tb} (h:di w x y t):cP x/\cP y:=by
 obtain⟨b,c,cb,cc,rfl,rfl,_⟩:=h;exact⟨slv _ _ _,slv _ _ _⟩
theorem bs.result1 (h:bs w g x y) {p:Tmp} (r:fn.results= #[.cell p 58]) (m:Array Value) (a:m.getD p undef=.pointer (some ⟨g,0,none⟩)):
  (results fn m).run Tryz.prog w=.ok (.agg #[x,y]) w:=FY r m w g _ _ _ _ a h Tryz.underlying58 rfl ao
theorem abW (a b:Option Addr) (ca cb:Nat) (S:List Nat) (P:List Tb) (D c:Nat) (w:World) (z:eW (iL S)) (hs:az w a (iL S)) (hP:eC w b P) (Q:fH S S.length P D c) (aO:P.length<=1000) (R:2*(B D).size+(B c).size+2<=8192):
  c6 100 #[.slice a S.length ca,.slice b P.length cb] w fun e w'=>∃x y,e=.returned (.agg #[x,y])/\di w' x y (allT S P)/\c8 w w':=by
 have K:Pos S:=by have:=z.pos;rwa [eM] at this
 have uN:Hid (∀U:World,c6 57 #[.int .i64 1] U fun e w'=>e=.returned (.agg #[.bool (aJ 1),.string (nu 1),.string (de 1)])/\c8 U w'):=fun U=>Nc (k:=1) (w:=U) 1 1 rfl a6 rfl
 have ae:Hid (∀(k:Nat) (m:k<P.length) (x y x' r:Value) (U:World),c8 w U ->di U x y (allT S (P.take k)) ->di U x' r P[k] ->c6 147 #[.slice a S.length ca,.agg #[x,y],.agg #[x',r]] U fun e w'=>De U.heap.size (allT S (P.take (k+1))) e w'/\c8 U w'):=fun k m x y x' r U hU h1 h2=>by
  have h3:=Q.part K R k;have h4:=Q.cw K R P[k] (bB m);have e:allT S (P.take (k+1))=Ar S (allT S (P.take k)) P[k]:=by rw[allT,fL m,List.foldl_append];rfl
  rw[e];exact ala a ca S x y x' r _ _ U z (hs.aa hU) h1 h2 h3.1 (Q.ok _ (bB m)) (h3.2.up a6) (h4.up a6)
 have HP:=hid hP;have H0:Hid (allT S (P.take 0)=En):=rfl;clear hs hP Q z K R;obtain⟨T,O⟩:∃T:Nat ->Tb,∀k,allT S (P.take k)=T k:=⟨fun k=>allT S (P.take k),fun _=>rfl⟩;have rQ:Hid (T P.length=allT S P):=by show _=_;rw[<- O,fD]
 simp only[O] at ae H0;clear O;go_enter Tryz.func100,Tryz.ntmps100;go_wp2_with fail
 have Z:=(aw w.heap.size w).alloc (ar _) (TC (.slice none 0 0) (.slice none 0 0));have J:=bs.at (w:=w) rfl (.slice none 0 0) (.slice none 0 0);refine(uN.o _).af ?_;rintro e d ⟨rfl,ad⟩;have ab:=Z.trans (ad.af Z.size);have u:=J.aa ad J.lt;have X:=ab.alloc ab.size (.cells #[.bool (aJ 1),.string (nu 1),.string (de 1)] 53);have AG:=akv d;have an:(d.alloc (.cells #[.bool (aJ 1),.string (nu 1),.string (de 1)] 53)).heap.size=d.heap.size+1:=aE
 have M:=u.alloc (.cells #[.bool (aJ 1),.string (nu 1),.string (de 1)] 53);have ky:=X.alloc X.size (TC (.slice none 0 0) (.slice (some ⟨d.heap.size,0,none⟩) 1 1));have WV:=M.alloc (TC (.slice none 0 0) (.slice (some ⟨d.heap.size,0,none⟩) 1 1));have EM:=bs.at (w:=d.alloc (.cells #[.bool (aJ 1),.string (nu 1),.string (de 1)] 53)) an (.slice none 0 0) (.slice (some ⟨d.heap.size,0,none⟩) 1 1);have ak:=AG.aa ((aw _ _).alloc (ar _) (TC (.slice none 0 0) (.slice (some ⟨d.heap.size,0,none⟩) 1 1)));have aN:=u.lt;have L:=hid ky;have xR:=hid WV;have Dj:=hid EM;have Ib:=hid ak;clear Z J ad ab u X AG an M ky WV EM ak;go_wp2_with fail
 go_loopw [13] (fun iv wr=>∃(i:Nat) (x y:Value),i<=P.length/\iv=.int .i64 i/\Hid (bs wr (d.heap.size+1) x y)/\Hid (di wr x y (T i))/\Hid (bs wr w.heap.size (.slice none 0 0) (.slice none 0 0))/\Hid (c8 w wr)) (fun iv _=>P.length - (intOf iv).toNat)
 case atStart=>exact⟨0,_,_,aS _,rfl,Dj,by rw[H0.o];exact Ib,xR,L⟩
 case round=>
  obtain⟨i,x,y,hi,rfl,HX,V,l,H⟩:=hrel;clear Dj Ib xR L;obtain⟨aj,ai⟩:=V.o.slices;obtain⟨x0,x1,ax,ay⟩:=HX.o.facts;by_cases ao:i<P.length
  ·obtain⟨g,aG,p,q,rfl,hg,k0,k1,o⟩:=(HP.o.aa H.o) i ao;have A:=(aw wr.heap.size wr).alloc (ar _) (TC p q);have I:=hid (H.o.trans (A.af H.o.size));have Y:=hid (HX.o.alloc (TC p q));have sM:=hid (l.o.alloc (TC p q));have F:=bs.at (w:=wr) rfl p q;obtain⟨aq,av,_,_⟩:=Y.o.facts;have b0:=F.c0;have b1:=F.c1;have HM:=hid (ae.o i ao x y p q _ I.o (V.o.aa A) (o.aa A));obtain⟨ps,pn,pc,rfl⟩:=o.slices.1;obtain⟨qs,qn,qc,rfl⟩:=o.slices.2;clear o A F x0 x1 ax ay;go_wp2_with fail
   refine HM.o.af ?_;rintro e w3 ⟨⟨x2,y2,rfl,v,_⟩,t⟩;have E:=Y.o.aa t Y.o.lt;have M:=sM.o.aa t sM.o.lt;have cj:=I.o.trans (t.af I.o.size);obtain⟨c0,c1,f0,f1⟩:=E.facts;obtain⟨xs,n,f,rfl⟩:=v.slices.1;obtain⟨s,j,h,rfl⟩:=v.slices.2;have rP:=hid (E.put (.slice xs n f) (.slice s j h));have Sk:=hid (v.putT E aj ai (slv xs n f) (.slice s j h));have Ki:Hid (bs ((w3.setCell ⟨d.heap.size+1,0,none⟩ (.slice xs n f)).setCell ⟨d.heap.size+1,1,none⟩ (.slice s j h)) w.heap.size (.slice none 0 0) (.slice none 0 0)):=(M.off _ _ _ al).off _ _ _ al;have eE:=hid (nN (g:=d.heap.size+1) cj al (.slice xs n f) (.slice s j h));clear v t E M cj HM aq av b0 b1 k0 k1;go_wp2;go_roundw
   case rel=>exact⟨i+1,_,_,al,bd,rP,Sk,Ki,eE⟩
   case measure=>simp[intOf];omega
  ·obtain rfl:i=P.length:=al
   rw[rQ.o] at V;obtain⟨t0,t1,f0,f1⟩:=l.o.facts;obtain⟨xs,n,f,rfl⟩:=aj;obtain⟨s,j,h,rfl⟩:=ai;have sO:=hid (l.o.put (.slice xs n f) (.slice s j h));have Dk:=hid (V.o.putT l.o (slv _ _ _) (slv _ _ _) (slv xs n f) (.slice s j h));have L:=hid (nN H.o (ar _) (.slice xs n f) (.slice s j h));go_wp2;refine bD (sO.o.result1 rfl _ rfl) rfl ?_;exact⟨_,_,rfl,Dk.o,L.o⟩
def Ho (x y z:Value):Obj:=.cells #[x,y,z] 93
def bt (w:World) (g:Nat) (x y z:Value):Prop:=w.heap[g]? =some (.cells #[x,y,z] 93 (0,0))
theorem bt.at (h:w.heap.size=g) (x y z:Value):bt (w.alloc (Ho x y z)) g x y z:=by subst h;exact jg w _
theorem bt.lt (h:bt w g x y z):g<w.heap.size:=(dS.1 h).1
theorem bt.aa {b:Nat} (h:bt w g x y z) (a:Below b w w') (c:g<b):bt w' g x y z:=(a.block g c).trans h
theorem bt.alloc (h:bt w g x y z) (o:Obj):bt (w.alloc o) g x y z:=(r8 w o g h.lt).trans h
theorem bt.cells (h:bt w g x y z):w.cell? ⟨g,0,none⟩=some x/\w.cell? ⟨g,1,none⟩=some y/\w.cell? ⟨g,2,none⟩=some z:=
 ⟨by rw[bZ w g 0 _ _ (0,0) h];rfl,by rw[bZ w g 1 _ _ (0,0) h];rfl,by rw[bZ w g 2 _ _ (0,0) h];rfl⟩
theorem bt.fz (h:bt w g x y z) (j:Nat):w.frozen? ⟨g,j,none⟩=false:=lr w g j _ _ h
theorem bt.set0 (h:bt w g x y z) (u:Value):bt (w.setCell ⟨g,0,none⟩ u) g u y z:=kM w g 0 _ _ u h
theorem bt.set1 (h:bt w g x y z) (u:Value):bt (w.setCell ⟨g,1,none⟩ u) g x u z:=kM w g 1 _ _ u h
theorem bt.set2 (h:bt w g x y z) (u:Value):bt (w.setCell ⟨g,2,none⟩ u) g x y u:=kM w g 2 _ _ u h
theorem bt.put (h:bt w g x y z) (u v s:Value):bt (((w.setCell ⟨g,0,none⟩ u).setCell ⟨g,1,none⟩ v).setCell ⟨g,2,none⟩ s) g u v s:=((h.set0 u).set1 v).set2 s
theorem bt.off (h:bt w g x y z) (b j:Nat) (u:Value) (e:g≠b):bt (w.setCell ⟨b,j,none⟩ u) g x y z:=(iJ w ⟨b,j,none⟩ u g e).trans h
theorem bt.result1 (h:bt w g x y z) {p:Tmp} (r:fn.results= #[.cell p 93]) (m:Array Value) (a:m.getD p undef=.pointer (some ⟨g,0,none⟩)):
  (results fn m).run Tryz.prog w=.ok (.agg #[x,y,z]) w:=FY r m w g _ _ _ _ a h Tryz.underlying93 rfl ao
theorem ab3 (u v:Int) (B:Nat) (W:World) (c:W.cell? ⟨B,0,none⟩=some (.int .i64 v)):
  FnGives Tryz.prog 139 #[.pointer (some ⟨B,0,none⟩)] #[.int .i64 u] (.bool (u==v)) W:=by
 show c6 139 #[.int .i64 u,.pointer (some ⟨B,0,none⟩)] W _;go_enter Tryz.func139,Tryz.ntmps139;go_wp2
 all_goals (go_ret;exact⟨by simp_all,0,rfl⟩)
theorem ajF (v:Int) (B:Nat) (w:World) (h:B<w.heap.size) (c:w.cell? ⟨B,0,none⟩=some (.int .i64 v)):
  PredAt Tryz.prog 139 #[.pointer (some ⟨B,0,none⟩)] (Value.int .i64) (fun u=>u==v) w:=
 fun W x b=>ab3 x v B W ((b.cell (p:=⟨B,0,none⟩) h).trans c)
theorem ajE (v:Int) (B b f i:Nat) (w:World) (h:B<w.heap.size) (e:B≠b) (c:w.cell? ⟨B,0,none⟩=some (.int .i64 v)):
  PredOver Tryz.prog 139 #[.pointer (some ⟨B,0,none⟩)] (Value.int .i64) (fun u=>u==v) b f i w:=
 fun n o d x _=>ab3 x v B _ (by
  unfold sortWorld;rw[cell?_grow _ _ _ (by show B<(putRow _ _ _ _ _).heap.size;rw[size_putRow];exact h),cell?_putRow_other _ _ b f _ _ (Or.inl e)];exact c)
theorem Ut (x z:Value) (b:Option Addr) (cb:Nat) (f:List Int) (v:Int) (w:World) (hx:cP x) (hz:cP z) (h:az w b f) (hn:f.length<=1000):
  c6 91 #[.agg #[x,.slice b f.length cb,z],.int .i64 v] w fun e w'=>∃d cd,e=.returned (.agg #[x,.slice d (bC f v).length cd,.slice none 0 0])/\az w' d (bC f v)/\eV w.heap.size d cd/\c8 w w':=by
 obtain⟨a,i,c,rfl⟩:=hx;obtain⟨l,p,m,rfl⟩:=hz;have HV:=hid h;obtain⟨L,T⟩:∃L,bC f v=L:=⟨_,rfl⟩;rw[T];have S:=hid T;clear h T;go_enter Tryz.func91,Tryz.ntmps91;go_wp2_with fail
 have K:c8 w (((w.alloc (.cells #[.slice a i c,.slice b f.length cb,.slice l p m] 93)).alloc (.cells #[.int .i64 v] 3)).alloc (.cells #[.slice none 0 0,.slice none 0 0,.slice none 0 0] 93)):=by
  have A:=(aw w.heap.size w).alloc (ar _) (.cells #[.slice a i c,.slice b f.length cb,.slice l p m] 93);have h2:=A.alloc A.size (.cells #[.int .i64 v] 3);exact h2.alloc h2.size _
 have X:bt (((w.alloc (.cells #[.slice a i c,.slice b f.length cb,.slice l p m] 93)).alloc (.cells #[.int .i64 v] 3)).alloc (.cells #[.slice none 0 0,.slice none 0 0,.slice none 0 0] 93)) w.heap.size (.slice a i c) (.slice b f.length cb) (.slice l p m):=((bt.at (w:=w) rfl _ _ _).alloc _).alloc _
 have aj:Boxed (((w.alloc (.cells #[.slice a i c,.slice b f.length cb,.slice l p m] 93)).alloc (.cells #[.int .i64 v] 3)).alloc (.cells #[.slice none 0 0,.slice none 0 0,.slice none 0 0] 93)) (w.heap.size+1) 3 (.int .i64 v):=by
  have:=(bh (w.alloc (.cells #[.slice a i c,.slice b f.length cb,.slice l p m] 93)) 3 (.int .i64 v)).alloc (.cells #[.slice none 0 0,.slice none 0 0,.slice none 0 0] 93);rwa [cU] at this
 have F:bt (((w.alloc (.cells #[.slice a i c,.slice b f.length cb,.slice l p m] 93)).alloc (.cells #[.int .i64 v] 3)).alloc (.cells #[.slice none 0 0,.slice none 0 0,.slice none 0 0] 93)) (w.heap.size+1+1) (.slice none 0 0) (.slice none 0 0) (.slice none 0 0):=bt.at (w:=(w.alloc (.cells #[.slice a i c,.slice b f.length cb,.slice l p m] 93)).alloc (.cells #[.int .i64 v] 3)) aE _ _ _;generalize (((w.alloc (.cells #[.slice a i c,.slice b f.length cb,.slice l p m] 93)).alloc (.cells #[.int .i64 v] 3)).alloc (.cells #[.slice none 0 0,.slice none 0 0,.slice none 0 0] 93))=W at *;refine(PB b cb f _ (HV.o.aa K) al).af ?_;rintro e D ⟨x,rfl,hr,t⟩;have P:=bj aj t;have O:=X.aa t X.lt;have J:=F.aa t F.lt;have I:=K.trans (t.af K.size);have av:=F.lt;have ax:=t.size;clear aj X F K t;rcases hr.cases with ⟨rfl,rfl⟩ |⟨g,cap,rfl,aq,hg,ae,ak,U⟩
 ·go_wp2_with fail
  refine(aa1 _ _).af ?_;rintro e s ⟨rfl,ab⟩;have H:=O.aa ab O.lt;have R:=J.aa ab J.lt;have E:=I.trans (ab.af I.size);have MK:L=[]:=S.o.symm;subst MK;obtain⟨p0,p1,p2⟩:=H.cells;obtain⟨r0,r1,r2⟩:=R.cells;have r:=R.fz;have Cn:=r 0;have Lr:=r 1;have Lq:=r 2;have Z:=hid (R.put (.slice a i c) (.slice none 0 0) (.slice none 0 0));have Y:=hid (bL E (show w.heap.size<=w.heap.size+1+1 by omega) (.slice a i c) (.slice none 0 0) (.slice none 0 0));clear r H R E;go_wp2;refine bD (Z.o.result1 rfl _ rfl) rfl ?_;exact⟨none,0,rfl,fun k V=>absurd V aE,eV.nil _,Y.o⟩
 ·have Q:=Tryz.slices_DeleteFunc (Value.int .i64) (fun _=>rfl) (fun u=>u==v) 139 #[.pointer (some ⟨w.heap.size+1,0,none⟩)] (enters_of Tryz.func139 ao rfl) 0 Tryz.zeroValue3 g 0 cap f.toArray D (ajF v _ _ P.lt P.cell) (ajE v _ g 0 _ _ P.lt al P.cell) U (by simp;omega) (by simpa using ae);have ai:f.toArray.size=f.length:=aE
  rw[ai] at Q;have ku:f.toArray.toList.filter (fun x=>!(x==v))=bC f v:=by simp[bC]
  rw[ku,S.o] at Q;have cN:L.length<=f.length:=by rw[<- S.o];exact pJ _ _
  have OG:=hid Q;have HH:=hid U;have qX:=hid cN;clear Q U hr ai ku ae ak cN;go_wp2_with fail
  refine OG.o.af ?_;rintro e s ⟨rfl,q,M⟩
  have AD:(L++List.replicate (f.length - L.length) 0).toArray.size=f.toArray.size:=by
   have:=qX.o;simp;omega
  have Rj:az s (some ⟨g,0,none⟩) L:=by
   rw[M];exact EB (holds_putRow (Value.int .i64) (Sort.ahead D q) g 0 f.toArray _ HH.o AD) (by rw[size_putRow];exact hg) (fun j hj=>⟨by simp;omega,by simp[r6,hj]⟩)
  have ad:∀k,k<D.heap.size ->k≠g ->s.heap[k]? =D.heap[k]?:=fun k V an=>by
   rw[M];have A:=OU (w:=D) (g:=g) (n:=q) (os:= #[]) ((L++List.replicate (f.length - L.length) 0).toArray);rw[grow_empty] at A;exact A.block k V (fun e=>an (mW e))
  have H:bt s w.heap.size (.slice a i c) (.slice b f.length cb) (.slice l p m):=(ad _ O.lt al).trans O;have R:bt s (w.heap.size+1+1) (.slice none 0 0) (.slice none 0 0) (.slice none 0 0):=(ad _ J.lt al).trans J;have E:c8 w s:=by rw[M];exact Yc _ I I.size al
  obtain⟨p0,p1,p2⟩:=H.cells;obtain⟨r0,r1,r2⟩:=R.cells;have r:=R.fz;have Cn:=r 0;have Lr:=r 1;have Lq:=r 2;have Z:=hid (R.put (.slice a i c) (.slice (some ⟨g,0,none⟩) L.length cap) (.slice none 0 0));have Y:=hid (bL E (show w.heap.size<=w.heap.size+1+1 by omega) (.slice a i c) (.slice (some ⟨g,0,none⟩) L.length cap) (.slice none 0 0));have SG:=hid (((Rj.off (g:=w.heap.size+1+1) (j:=0) (y:=.slice a i c) (fun g' o' e _=>by cases e;omega)).off (g:=w.heap.size+1+1) (j:=1) (y:=.slice (some ⟨g,0,none⟩) L.length cap) (fun g' o' e _=>by cases e;omega)).off (g:=w.heap.size+1+1) (j:=2) (y:=.slice none 0 0) (fun g' o' e _=>by cases e;omega));clear r H R E Rj ad AD M;go_wp2;refine bD (Z.o.result1 rfl _ rfl) rfl ?_;exact⟨some ⟨g,0,none⟩,cap,rfl,SG.o,eV.at al,Y.o⟩
variable {F:List (Int×Int)}
def jf (w:World) (a:Option Addr) (F:List (Int×Int)):Prop:=∀k (h:k<F.length),∃g o,a=some ⟨g,o,none⟩/\g<w.heap.size/\w.cell? ⟨g,o+k*2,none⟩=some (.int .i64 F[k].1)/\w.cell? ⟨g,o+k*2+1,none⟩=some (.int .i64 F[k].2)
theorem jf.aa (h:jf w a F) (c:c8 w w'):jf w' a F:=fun k i=>by
 obtain⟨g,o,d,b,e,f⟩:=h k i;exact⟨g,o,d,aU b c.size,(c.cell (p:=⟨g,_,none⟩) b).trans e,(c.cell (p:=⟨g,_,none⟩) b).trans f⟩
theorem jf.take (h:jf w a F) (i:Nat):jf w a (F.take i):=fun k f=>by
 have z:k<F.length:=by rw[eX] at f;omega
 obtain⟨g,o,b,c,d,e⟩:=h k z;rw[Ce];exact⟨g,o,b,c,d,e⟩
theorem al9 (a:Option Addr) (ca f:Nat) (lb:Array Value) (F:List (Int×Int)) (p:Int×Int ->Bool) (w:World) (h:jf w a F) (M:F.length<=1000) (J:∀y w,(callFunc f y).run Tryz.prog w=.ok (.enter f y) w)
  (v:∀q∈F,∀U:World,c8 w U ->c6 f (#[.agg #[.int .i64 q.1,.int .i64 q.2]]++lb) U fun e w'=>e=.returned (.bool (p q))/\c8 U w'):
  c6 125 #[.slice a F.length ca,.func (.func f) #[] lb] w fun e w'=>∃j:Int,e=.returned (.int .i64 j)/\decide (0<=j)=F.any p/\c8 w w':=by
 have A:=hid h;have P:=hid v
 have D:Hid ((∀i (c:i<F.length),p F[i]=false) ->F.any p=false):=fun d=>KZ.2 fun q I=>by
  obtain⟨i,c,rfl⟩:=ij I;rw[d i c];decide
 have z:Hid (∀i (c:i<F.length),p F[i]=true ->F.any p=true):=fun i c d=>tX.2 ⟨_,bB c,d⟩;clear h v;generalize F.any p=R at *;go_enter Tryz.func125,Tryz.ntmps125;go_wp2_with fail
 go_loopw [8] (fun iv wr=>∃i:Nat,i<=F.length/\iv=.int .i64 i/\Hid (∀j (b:j<F.length),j< i ->p F[j]=false)/\Hid (c8 w wr)) (fun iv _=>F.length - (intOf iv).toNat)
 case atStart=>exact⟨0,aS _,rfl,(fun j _ b=>absurd b al),aw _ _⟩
 case round=>
  obtain⟨i,c,rfl,m,H⟩:=hrel;by_cases l:i<F.length
  ·obtain⟨g,o,rfl,u,r,s⟩:=A.o i l;have O:=(H.o.cell (p:=⟨g,_,none⟩) u).trans r;have Q:=(H.o.cell (p:=⟨g,_,none⟩) u).trans s;have k:=hid (P.o F[i] (bB l) wr H.o);have Y:=hid (z.o i l)
   have T:Hid (p F[i]=false ->∀j (b:j<F.length),j<i+1 ->p F[j]=false):=fun e j b S=>by
    rcases cF j i with t |t
    ·exact m.o j b t
    ·obtain rfl:j=i:=al
     exact e
   clear r s;generalize p F[i]=q at *;generalize F[i].1=K at *;generalize F[i].2=L at *;go_wp2_with fail
   refine k.o.af ?_;rintro e V ⟨rfl,x⟩;have n:=hid (H.o.trans (x.af H.o.size));clear x k;cases q with
   |true=>
    have E:=hid (Y.o rfl);go_wp2;go_ret;exact⟨(i:Nat),rfl,by rw[E.o];simp,n.o⟩
   |false=>
    have E:=hid (T.o rfl);go_wp2;go_roundw
    case rel=>exact⟨i+1,al,bd,E,n⟩
    case measure=>simp[intOf];omega
  ·obtain rfl:i=F.length:=al
   have E:=hid (D.o fun j b=>m.o j b b);go_wp2;go_ret;exact⟨-1,rfl,by rw[E.o];rfl,H.o⟩
theorem ao8 (a:Option Addr) (ca f:Nat) (lb:Array Value) (F:List (Int×Int)) (p:Int×Int ->Bool) (w:World) (h:jf w a F) (n:F.length<=1000) (i:∀g w,(callFunc f g).run Tryz.prog w=.ok (.enter f g) w)
  (c:∀q∈F,∀U:World,c8 w U ->c6 f (#[.agg #[.int .i64 q.1,.int .i64 q.2]]++lb) U fun e w'=>e=.returned (.bool (p q))/\c8 U w'):
  c6 79 #[.slice a F.length ca,.func (.func f) #[] lb] w (da w (.bool (F.any p))):=by
 have I:=hid (al9 a ca f lb F p w h n i c);clear h c;generalize F.any p=R at *;go_enter Tryz.func79,Tryz.ntmps79;go_wp2_with fail
 refine I.o.af ?_;rintro e k ⟨j,rfl,b,d⟩;have H:=hid d;have J:=hid b;clear d b;go_wp2;go_ret;exact⟨by rw[<- J.o];rfl,H.o⟩
theorem al0 (q:Int×Int) (v:Int) (B:Nat) (w:World) (h:B<w.heap.size) (c:w.cell? ⟨B,0,none⟩=some (.int .i64 v)):
  c6 80 #[.agg #[.int .i64 q.1,.int .i64 q.2],.pointer (some ⟨B,0,none⟩)] w (da w (.bool (q.1==v))):=by
 obtain⟨a,b⟩:=q;have A:=hid ((aw w.heap.size w).alloc (ar _) (.cells #[.int .i64 a,.int .i64 b] 66));have d:=(A.o.cell (p:=⟨B,0,none⟩) h).trans c;show c6 80 #[.agg #[.int .i64 a,.int .i64 b],.pointer (some ⟨B,0,none⟩)] w fun e w'=>e=.returned (.bool (a==v))/\c8 w w';clear c;go_enter Tryz.func80,Tryz.ntmps80;go_wp2
 all_goals (go_ret;exact⟨by simp_all,A.o⟩)
theorem adv (a:Option Addr) (ca:Nat) (F:List (Int×Int)) (v:Int) (w:World) (h:jf w a F) (n:F.length<=1000):
  c6 44 #[.slice a F.length ca,.int .i64 v] w (da w (.bool (F.any fun p=>p.1==v))):=by
 have A:=(aw w.heap.size w).alloc (ar _) (.cells #[.int .i64 v] 3);have x:=bh w 3 (.int .i64 v);have f:=hid (ao8 a ca 80 #[.pointer (some ⟨w.heap.size,0,none⟩)] F (fun p=>p.1==v) _ (h.aa A) n (enters_of Tryz.func80 ao rfl) (fun q _ U b=>al0 q v w.heap.size U (aU x.lt b.size) ((b.cell (p:=⟨w.heap.size,0,none⟩) x.lt).trans x.cell)));have H:=hid A;clear h A x;generalize (F.any fun p=>p.1==v)=R at *;go_enter Tryz.func44,Tryz.ntmps44;go_wp2_with fail
 refine f.o.af ?_;rintro e g ⟨rfl,c⟩;have d:=hid (H.o.trans (c.af H.o.size));clear c;go_wp2;go_ret;exact⟨rfl,d.o⟩
variable {ops:Array Oper} {rest:List Oper} {xs:List Value} {lo:Nat} {tv u1 u2:Value} {V':World}
theorem Xy (W:World) (b:Option Nat):W.grownBy W b:=World.grownBy.refl _ _
theorem Xz {W V:World} {b:Option Nat} (h:W.grownBy V b) (a:c8 V V'):W.grownBy V' b:=
 ⟨a.os.trans h.os,a.tape.trans h.tape,a.output.trans h.output,aR h.size a.size,fun k c e=>(a.block k (aU c h.size)).trans (h.block k c e)⟩
theorem MZ {W V:World} {b r:Option Nat} (h:W.grownBy V b) (g:V.grownBy V' r) (c:∀k,r=some k ->W.heap.size<=k):W.grownBy V' b:=
 ⟨g.os.trans h.os,g.tape.trans h.tape,g.output.trans h.output,aR h.size g.size,fun k a n=>(g.block k (aU a h.size) fun e=>by have:=c k e.symm;omega).trans (h.block k a n)⟩
theorem Ru {W V:World} {b:Nat} (h:W.grownBy V (some b)) (j:Nat) (y:Value):W.grownBy (V.setCell ⟨b,j,none⟩ y) (some b):=by
 have a:=(aw 0 V).setCell (p:=⟨b,j,none⟩) (aS _) y;exact⟨a.os.trans h.os,a.tape.trans h.tape,a.output.trans h.output,aR h.size a.size,fun k i n=>(iJ V ⟨b,j,none⟩ y k (fun e=>n (by rw[e]))).trans (h.block k i n)⟩
theorem JT {W V:World} {b B:Nat} (d:Below B w W) (h:W.grownBy V (some b)) (c:B<=b) (a:B<=W.heap.size):Below B w V:=d.grown h a (fun k e=>by cases e;exact c)
theorem cG.off {d:Option Addr} {l:List Fr} (h:cG w d l) (p:∀g' o',d=some ⟨g',o',none⟩ ->l≠[] ->g'≠g):cG (w.setCell ⟨g,j,none⟩ y) d l:=fun k c=>by
 obtain⟨g',o',e,n,f,i,m⟩:=h k c;have o:=p g' o' e (fun e=>by rw[e] at c;exact absurd c aE);have b:(w.setCell ⟨g,j,none⟩ y).heap[g']? =w.heap[g']?:=iJ w ⟨g,j,none⟩ y g' o;exact⟨g',o',e,aU n (jk w _ _).size,(lu (a:=⟨g',_,none⟩) b).trans f,(lu (a:=⟨g',_,none⟩) b).trans i,(lu (a:=⟨g',_,none⟩) b).trans m⟩
theorem di.off {t:Tb} (h:di w x y t) (u:Value) (a:fV g t (x,y)):di (w.setCell ⟨g,j,none⟩ u) x y t:=by
 obtain⟨b,c,cb,cc,rfl,rfl,d,f,i⟩:=h;exact⟨b,c,cb,cc,rfl,rfl,d.off (fun g' o' e n=>a.1 g' o' _ _ (by rw[e]) n),f.off (fun g' o' e n=>a.2 g' o' _ _ (by rw[e]) n),i⟩
theorem lg.off {B:Nat} {v:Value} (h:lg w B v Q P) (u:Value) (f:∀k (h:k<P.length) (c:k<Q.length),fV g P[k] Q[k]) (e:v.ownBlock≠some g):lg (w.setCell ⟨g,j,none⟩ u) B v Q P:=
 ⟨h.len,FZ h.own e u,fun k a b=>(h.val k a b).off u (f k a b),h.far⟩
theorem Qf {B:Nat} {e:TypeId} {s:Nat} (h:w.ownsRow B e s (.slice a m c) n xs):eV B a c:=by
 rcases h.2 with ⟨b,d⟩ |⟨g,cap,r,b,d,_⟩
 ·injection b with h3 h4 h5;subst h3 h5;exact eV.nil B
 ·injection b with h3 h4 h5;subst h3;exact eV.at d
theorem K3 {o:Oper} {a:Act} {Q:Exit ->Act ->World ->Prop} (t:o.guard=none) (s x:Operand)
  (e:o.op=.call {callee:=.builtin .append,args:= #[s,x],argTypes:= #[91,91]}) (base:Nat) (v:Value) (n:Nat) (xs:List Value) (u1 u2:Value) (f:a.eval s=v) (F:w.ownsRow base 58 2 v n xs) (g:Nat) (i:a.eval x=.slice (some ⟨g,0,none⟩) 1 1) (h0:w.cell? ⟨g,0,none⟩=some u1) (h1:w.cell? ⟨g,1,none⟩=some u2) (y:cP u1) (z:cP u2) (I:n+1<=100000) (H:base<=w.heap.size)
  (h:∀v' w',w'.ownsRow base 58 2 v' (n+1) (xs++[u1,u2]) ->w.grownBy w' v.ownBlock ->(v'.ownBlock=v.ownBlock∨∀k,v'.ownBlock=some k ->w.heap.size<=k) ->wpList Tryz.prog ops Q rest (a.put o.dst v') w'):wpList Tryz.prog ops Q (o::rest) a w:=by
 obtain⟨l,d,A,D,E⟩:=dW Tryz.infoTable
 obtain⟨v',w',r,m,p,q⟩:=abn (P:=Tryz.prog) w base 91 o.type 58 l (.agg #[.slice none 0 0,.slice none 0 0]) 2 48 Tryz.underlying91 d A D E rfl a6 v n xs F ⟨g,0,none⟩ 1 1 [u1,u2] rfl (fun j u b=>by
  match j,b with
  |0,b=>cases b;exact h0
  |1,b=>cases b;exact h1
  |j+2,b=>simp at b) (fun u c=>by
  simp only[dR,l8,ye] at c;rcases c with rfl |rfl
  ·obtain⟨_,_,_,rfl⟩:=y;rfl
  ·obtain⟨_,_,_,rfl⟩:=z;rfl) (by unfold maxLen;omega) al H a6
 refine wpList_plain t fun _ K=>?_;unfold Oper.wp execOp;simp only[e,resolve,invoke,builtin,KN,F2,BV,KV,gV,lx,f,i,r];exact K _ _ (h v' w' m p q)
structure qQ (lo:Nat) (W:World) (b:Nat) (x y:Value) (tv:Value) (Q:List (Value×Value)) (P:List Tb) (V:World):Prop where
 box:bt V b x y tv
 own:lg V W.heap.size tv Q P
 far:∀R,lo<=R ->R<=b ->∀k (h:k<P.length) (h':k<Q.length),fV R P[k] Q[k]
 fr:W.grownBy V (some b)
theorem qQ.start {W:World} {b:Nat} (h:bt W b x y (.slice none 0 0)):qQ lo W b x y (.slice none 0 0) [] [] W:=⟨h,lg.nil _ _,(fun R _ _ k h=>absurd h aE),Xy _ _⟩
theorem qQ.under {W V:World} {b:Nat} (h:qQ lo W b x y tv Q P V) (a:c8 V V'):qQ lo W b x y tv Q P V':=⟨h.box.aa a h.box.lt,h.own.under a,h.far,Xz h.fr a⟩
theorem qQ.push {W V:World} {b:Nat} {c:Value} {t:Tb} (h:qQ lo W b x y tv Q P V) (v:lo<=b) (w:b<W.heap.size) (s:di V u1 u2 t) (p:∀R,tv.ownBlock=some R ->fV R t (u1,u2)) (u:∀R,lo<=R ->R<=b ->fV R t (u1,u2)) (r:V'.ownsRow W.heap.size 58 2 c (P.length+1) (eI Q++[u1,u2])) (a:V.grownBy V' tv.ownBlock) (q:c.ownBlock=tv.ownBlock∨∀k,c.ownBlock=some k ->V.heap.size<=k):
  qQ lo W b x y c (Q++[(u1,u2)]) (P++[t]) (V'.setCell ⟨b,2,none⟩ c):=by
 have f:∀k,tv.ownBlock=some k ->W.heap.size<=k:=fun k e=>(h.own.lt k e).1;have d:=h.own.push s p r a q;have n:bt V' b x y tv:=(a.block b h.box.lt (fun e=>by have:=f b e.symm;omega)).trans h.box
 have o:∀R,lo<=R ->R<=b ->∀k (j:k<(P++[t]).length) (m:k<(Q++[(u1,u2)]).length),fV R (P++[t])[k] (Q++[(u1,u2)])[k]:=fun R l i k j m=>by
  by_cases O:k<P.length
  ·have g:k<Q.length:=by rw[h.own.len];exact O
   rw[r6 g,r6 O];exact h.far R l i k O g
  ·have g:¬k<Q.length:=by rw[h.own.len];exact O
   rw[vo al,vo al];simp only[O7];exact u R l i
 refine⟨n.set2 c,d.off _ (o b v (ar _)) (fun e=>?_),o,Ru (MZ h.fr a f) _ _⟩;have:=(d.lt b e).1;omega
theorem ae3 (a:Option Addr) (ca:Nat) (S:List Nat) (x y:Value) (t:Tb) (v z:Nat) (w:World) (M:eW (iL S)) (s:az w a (iL S)) (h:di w x y t) (o:dH S S.length t) (k:Cw 100000 t.2) (j:v<S.length) (l:z<sz S v):
  c6 92 #[.slice a S.length ca,.agg #[x,y],.int .i64 (v:Nat),.int .i64 (z:Nat)] w fun e w'=>De w.heap.size (ie S v z t) e w'/\c8 w w':=by
 obtain⟨b,c,cb,cc,rfl,rfl,g,i,n⟩:=h;have f:=M.eight;rw[ba] at f;have m:=o.small M;have:=ahD a b c ca cb cc (iL S) t.1 t.2 v z w s g i (by rw[ba];omega) al (o.check M) k (by rw[ba];exact j) (by rw[eM];exact l);rw[ba,eM] at this;exact this.af fun e w' d=>⟨vV.tb (t:=ie S v z t) d.1,d.2⟩
theorem ajP (a b t:Option Addr) (ca cb ct:Nat) (S:List Nat) (f:List Int) (P:List Tb) (D c v z:Nat) (w:World) (aM:eW (iL S)) (hs:az w a (iL S)) (hb:az w b f) (hP:eC w t P) (aQ:fH S S.length P D c) (av:P.length<=1000) (ku:f.length<=1000) (hm:2*(B D).size+(B c).size+2<=8192) (hv:v<S.length) (hz:z<sz S v):
  c6 52 #[.agg #[.slice a S.length ca,.slice b f.length cb,.slice t P.length ct],.agg #[.int .i64 (v:Nat),.int .i64 (z:Nat)]] w fun e w'=>∃d cd t' cI,e=.returned (.agg #[.slice a S.length ca,.slice d (bC f v).length cd,.slice t' P.length cI])/\az w' d (bC f v)/\eC w' t' (P.map (ie S v z))/\eV w.heap.size t' cI/\c8 w w':=by
 have dG:Pos S:=by have:=aM.pos;rwa [eM] at this
 have ll:=hid (fun (U:World) (hU:c8 w U)=>Ut (.slice a S.length ca) (.slice t P.length ct) b cb f (v:Int) U (slv _ _ _) (slv _ _ _) (hb.aa hU) ku);have rV:Hid (∀(k:Nat) (M:k<P.length) (x y:Value) (U:World),c8 w U ->di U x y P[k] ->c6 92 #[.slice a S.length ca,.agg #[x,y],.int .i64 (v:Nat),.int .i64 (z:Nat)] U fun e w'=>De U.heap.size (ie S v z P[k]) e w'/\c8 U w'):=fun k M x y U hU J=>ae3 a ca S x y _ v z U aM (hs.aa hU) J (aQ.ok _ (bB M)) ((aQ.cw dG hm P[k] (bB M)).up a6) hv hz;have HP:=hid hP;clear hs hb hP aQ aM dG hm hz;go_enter Tryz.func52,Tryz.ntmps52;go_wp2_with fail
 have ab:c8 w (((w.alloc (.cells #[.slice a S.length ca,.slice b f.length cb,.slice t P.length ct] 93)).alloc (.cells #[.int .i64 (v:Nat),.int .i64 (z:Nat)] 66)).alloc (.cells #[.slice none 0 0,.slice none 0 0,.slice none 0 0] 93)):=by
  have J:=(aw w.heap.size w).alloc (ar _) (.cells #[.slice a S.length ca,.slice b f.length cb,.slice t P.length ct] 93);have h2:=J.alloc J.size (.cells #[.int .i64 (v:Nat),.int .i64 (z:Nat)] 66);exact h2.alloc h2.size _
 have qG:bt (((w.alloc (.cells #[.slice a S.length ca,.slice b f.length cb,.slice t P.length ct] 93)).alloc (.cells #[.int .i64 (v:Nat),.int .i64 (z:Nat)] 66)).alloc (.cells #[.slice none 0 0,.slice none 0 0,.slice none 0 0] 93)) w.heap.size (.slice a S.length ca) (.slice b f.length cb) (.slice t P.length ct):=((bt.at (w:=w) rfl _ _ _).alloc _).alloc _
 have EZ:(((w.alloc (.cells #[.slice a S.length ca,.slice b f.length cb,.slice t P.length ct] 93)).alloc (.cells #[.int .i64 (v:Nat),.int .i64 (z:Nat)] 66)).alloc (.cells #[.slice none 0 0,.slice none 0 0,.slice none 0 0] 93)).heap[w.heap.size+1]? =some (.cells #[.int .i64 (v:Nat),.int .i64 (z:Nat)] 66 (0,0)):=by
  rw[r8 _ _ _ aE];have:=jg (w.alloc (.cells #[.slice a S.length ca,.slice b f.length cb,.slice t P.length ct] 93)) (.cells #[.int .i64 (v:Nat),.int .i64 (z:Nat)] 66);rwa [cU] at this
 have jb:bt (((w.alloc (.cells #[.slice a S.length ca,.slice b f.length cb,.slice t P.length ct] 93)).alloc (.cells #[.int .i64 (v:Nat),.int .i64 (z:Nat)] 66)).alloc (.cells #[.slice none 0 0,.slice none 0 0,.slice none 0 0] 93)) (w.heap.size+1+1) (.slice none 0 0) (.slice none 0 0) (.slice none 0 0):=bt.at (w:=(w.alloc (.cells #[.slice a S.length ca,.slice b f.length cb,.slice t P.length ct] 93)).alloc (.cells #[.int .i64 (v:Nat),.int .i64 (z:Nat)] 66)) aE _ _ _;have Bg:=hid (ll.o _ ab);clear ll;generalize (((w.alloc (.cells #[.slice a S.length ca,.slice b f.length cb,.slice t P.length ct] 93)).alloc (.cells #[.int .i64 (v:Nat),.int .i64 (z:Nat)] 66)).alloc (.cells #[.slice none 0 0,.slice none 0 0,.slice none 0 0] 93))=W0 at *;refine Bg.o.af ?_;rintro e h ⟨d,cd,rfl,yJ,CQ,K⟩;have aq:=jb.lt;have ky:=(aw h.heap.size h).alloc (ar _) (.cells #[.slice a S.length ca,.slice d (bC f v).length cd,.slice none 0 0] 93);have fh:(h.alloc (.cells #[.slice a S.length ca,.slice d (bC f v).length cd,.slice none 0 0] 93)).heap.size=h.heap.size+1:=aE
 have dU:=(ab.trans (K.af ab.size)).trans (ky.af (aR ab.size K.size));have yS:=(qG.aa K qG.lt).alloc (.cells #[.slice a S.length ca,.slice d (bC f v).length cd,.slice none 0 0] 93);have tH:=(jb.aa K jb.lt).alloc (.cells #[.slice a S.length ca,.slice d (bC f v).length cd,.slice none 0 0] 93)
 have AW:(h.alloc (.cells #[.slice a S.length ca,.slice d (bC f v).length cd,.slice none 0 0] 93)).heap[w.heap.size+1]? =some (.cells #[.int .i64 (v:Nat),.int .i64 (z:Nat)] 66 (0,0)):=by
  rw[r8 _ _ _ (by have:=K.size;omega),K.block _ al];exact EZ
 have nJ:qQ w.heap.size (h.alloc (.cells #[.slice a S.length ca,.slice d (bC f v).length cd,.slice none 0 0] 93)) h.heap.size (.slice a S.length ca) (.slice d (bC f v).length cd) (.slice none 0 0) [] [] (h.alloc (.cells #[.slice a S.length ca,.slice d (bC f v).length cd,.slice none 0 0] 93)):=qQ.start (bt.at (w:=h) rfl (.slice a S.length ca) (.slice d (bC f v).length cd) (.slice none 0 0));have EW:=yJ.aa ky;have ax:=K.size
 have Oe:Hid (∀g o,d=some ⟨g,o,none⟩ ->bC f v≠[] ->some g≠some h.heap.size):=fun g o e ak e2=>by
  obtain⟨g',o',e',iA,_⟩:=yJ 0 (by cases hl:bC f v with |nil=>exact absurd hl ak |cons x l=>simp);rw[e] at e';cases e';cases e2;omega
 have nU:Hid (∀g o,d=some ⟨g,o,none⟩ ->bC f v≠[] ->g≠w.heap.size+1+1):=fun g o e _ e2=>by
  have:=CQ.2 g o e;omega
 clear yJ CQ K ab qG EZ jb ky Bg;have eL:=hid dU;have sO:=hid yS;have iE:=hid tH;have pC:=hid AW;have uQ:=hid nJ;have Ip:=hid EW;have vG:=yS.cells.2.2;clear dU yS tH AW nJ EW;generalize yT:bC f v=F at *;have Sz:=hid yT;clear yT;go_wp2_with fail
 generalize (h.alloc (.cells #[.slice a S.length ca,.slice d F.length cd,.slice none 0 0] 93))=L at *;clear vG;obtain⟨T,O⟩:∃T:Nat ->List Tb,∀k,(P.take k).map (ie S v z)=T k:=⟨fun k=>(P.take k).map (ie S v z),fun _=>rfl⟩;have xS:Hid (T 0=[]):=by show _=_;rw[<- O];rfl
 have uK:Hid (∀k (M:k<P.length),T (k+1)=T k++[ie S v z P[k]]):=fun k M=>by rw[<- O, <- O,fL M,fg];rfl
 have rQ:Hid (T P.length=P.map (ie S v z)):=by show _=_;rw[<- O,fD]
 have xQ:Hid (∀k,k<=P.length ->(T k).length=k):=fun k M=>by rw[<- O,dD,eX];omega
 clear O;go_loopw [17] (fun iv wr=>∃(i:Nat) (tv:Value) (Q:List (Value×Value)),i<=P.length/\iv=.int .i64 i/\Hid (qQ w.heap.size L h.heap.size (.slice a S.length ca) (.slice d F.length cd) tv Q (T i) wr)) (fun iv _=>P.length - (intOf iv).toNat)
 case atStart=>exact⟨0,_,_,aS _,rfl,by rw[xS.o];exact uQ⟩
 case round=>
  obtain⟨i,tv,Q,hi,rfl,H⟩:=hrel;have JH:=H.o.fr.size;have HB:Hid (c8 w wr):=JT eL.o H.o.fr al al;have H6:Hid (bt wr w.heap.size (.slice a S.length ca) (.slice b f.length cb) (.slice t P.length ct)):=(H.o.fr.block _ sO.o.lt (fun e=>by have:=mW e;omega)).trans sO.o;have mO:Hid (bt wr (w.heap.size+1+1) (.slice none 0 0) (.slice none 0 0) (.slice none 0 0)):=(H.o.fr.block _ iE.o.lt (fun e=>by have:=mW e;omega)).trans iE.o;have Zp:Hid (wr.heap[w.heap.size+1]? =some (.cells #[.int .i64 (v:Nat),.int .i64 (z:Nat)] 66 (0,0))):=(H.o.fr.block _ al (fun e=>by have:=mW e;omega)).trans pC.o;by_cases ae:i<P.length
  ·obtain⟨g,o,p,q,rfl,hg,k0,k1,mA⟩:=(HP.o.aa HB.o) i ae;have hA:=(aw wr.heap.size wr).alloc (ar _) (TC p q);have bT:=hid (HB.o.trans (hA.af HB.o.size));(have CM:(wr.alloc (TC p q)).heap.size=wr.heap.size+1:=aE);have ES:=H6.o.alloc (TC p q);have VZ:=ES.cells.1;have Ha:(wr.alloc (TC p q)).heap[w.heap.size+1]? =some (.cells #[.int .i64 (v:Nat),.int .i64 (z:Nat)] 66 (0,0)):=(r8 _ _ _ al).trans Zp.o;(have A2:(wr.alloc (TC p q)).cell? ⟨w.heap.size+1,0,none⟩=some (.int .i64 (v:Nat)):=by rw[bZ _ _ 0 _ _ (0,0) Ha];rfl);(have Db:(wr.alloc (TC p q)).cell? ⟨w.heap.size+1,1,none⟩=some (.int .i64 (z:Nat)):=by rw[bZ _ _ 1 _ _ (0,0) Ha];rfl);have bP:=bs.at (w:=wr) rfl p q;have b0:=bP.c0;have b1:=bP.c1;have pw:=hid (H.o.under hA);have HX:=hid (rV.o i ae p q _ bT.o (mA.aa hA));have YI:=hid (uK.o i ae);have pU:=xQ.o i hi;obtain⟨ps,pn,pc,rfl⟩:=mA.slices.1;obtain⟨qs,qn,qc,rfl⟩:=mA.slices.2;have Dp:Hid (∀R,tv.ownBlock=some R ->L.heap.size<=R/\R<wr.heap.size):=H.o.own.lt;clear mA hA bP ES Ha;generalize ie S v z P[i]=ft at *;go_wp2_with fail
   refine HX.o.af ?_;rintro e A ⟨⟨x2,y2,rfl,ad,dK⟩,bV⟩;obtain⟨xs,n,m,rfl⟩:=ad.slices.1;obtain⟨u,s,r,rfl⟩:=ad.slices.2;rw[CM] at dK;have VM:=bV.size;rw[CM] at VM;have KA:=hid (pw.o.under bV);have uB:=(aw A.heap.size A).alloc (ar _) (TC (.slice xs n m) (.slice u s r));have zD:=hid (KA.o.under uB);(have Ex:(A.alloc (TC (.slice xs n m) (.slice u s r))).heap.size=A.heap.size+1:=aE);have yN:=bs.at (w:=A) rfl (.slice xs n m) (.slice u s r);have an:=yN.c0;have ao:=yN.c1;have ay:=zD.o.box.cells.2.2;have Hf:=(aw (A.alloc (TC (.slice xs n m) (.slice u s r))).heap.size (A.alloc (TC (.slice xs n m) (.slice u s r)))).alloc (ar _) (TC (.slice xs n m) (.slice u s r));have zC:=hid (zD.o.under Hf);have Hv:=hid ((ad.aa uB).aa Hf);have GZ:=bs.at (w:=A.alloc (TC (.slice xs n m) (.slice u s r))) Ex (.slice xs n m) (.slice u s r);have ZE:=hid GZ.c0;have ZC:=hid GZ.c1;have tM:=hid ad.slices;have fQ:=hid dK;have qR:Hid (L.heap.size<=((A.alloc (TC (.slice xs n m) (.slice u s r))).alloc (TC (.slice xs n m) (.slice u s r))).heap.size):=zC.o.fr.size;have aj:=uQ.o.box.lt;clear ad bV uB Hf yN GZ dK HX pw k0 k1 b0 b1 VZ A2 Db
   have ai:∀(I:Value) (E:World),E.ownsRow L.heap.size 58 2 I ((T i).length+1) (eI Q++[.slice xs n m,.slice u s r]) ->((A.alloc (TC (.slice xs n m) (.slice u s r))).alloc (TC (.slice xs n m) (.slice u s r))).grownBy E tv.ownBlock ->(I.ownBlock=tv.ownBlock∨∀k,I.ownBlock=some k ->((A.alloc (TC (.slice xs n m) (.slice u s r))).alloc (TC (.slice xs n m) (.slice u s r))).heap.size<=k) ->(∃a' n' c',I=Value.slice a' n' c')/\(qQ w.heap.size L h.heap.size (.slice a S.length ca) (.slice d F.length cd) I (Q++[(.slice xs n m,.slice u s r)]) (T (i+1)) (E.setCell ⟨h.heap.size,2,none⟩ I))/\E.cell? ⟨h.heap.size,2,none⟩=some tv/\E.frozen? ⟨h.heap.size,2,none⟩=false:=fun I E Z Y gF=>by
    have hM:=zC.o.push al aj Hv.o (fun R hR=>fQ.o R (by have:=(Dp.o R hR).2;omega)) (fun R _ hR=>fQ.o R al) Z Y gF;rw[<- YI.o] at hM;have yZ:bt E h.heap.size (.slice a S.length ca) (.slice d F.length cd) tv:=(Y.block _ zC.o.box.lt (fun e=>by have:=(Dp.o _ e.symm).1;omega)).trans zC.o.box;refine⟨?_,hM,yZ.cells.2.2,yZ.fz 2⟩;rcases Z.2 with ⟨J,_⟩ |⟨g',aN,aO,J,_⟩
    ·exact⟨_,_,_,J⟩
    ·exact⟨_,_,_,J⟩
   have HKEY:=hid ai;clear ai;go_wp2_with (at_builtin;refine K3 rfl _ _ rfl L.heap.size tv (T i).length (eI Q) (.slice xs n m) (.slice u s r) rfl zC.o.own.own (A.heap.size+1) rfl ZE.o ZC.o tM.o.1 tM.o.2 al qR.o ?_;intro I E Z Y gF;obtain⟨⟨yo,aG,ym,rfl⟩,uy,a7,a1⟩:=HKEY.o I E Z Y gF;have pz:=hid uy;clear uy Z Y gF)
   go_roundw
   case rel=>exact⟨i+1,_,_,al,bd,pz⟩
   case measure=>simp[intOf];omega
  ·obtain rfl:i=P.length:=al
   rw[rQ.o] at H;obtain⟨V,X,rfl,AB⟩:=H.o.own.row;obtain⟨x0,x1,x2⟩:=H.o.box.cells;obtain⟨r0,r1,r2⟩:=mO.o.cells;have Cn:=mO.o.fz 0;have Lr:=mO.o.fz 1;have Lq:=mO.o.fz 2;(have rF:(P.map (ie S v z)).length=P.length:=aE);rw[rF] at H x2;have EU:az wr d F:=Jt Ip.o Oe.o H.o.fr;have zA:=hid (mO.o.put (.slice a S.length ca) (.slice d F.length cd) (.slice V P.length X));have sS:=hid (bL HB.o (show w.heap.size<=w.heap.size+1+1 by omega) (.slice a S.length ca) (.slice d F.length cd) (.slice V P.length X))
   have fC:Value.ownBlock (.slice V P.length X)≠some (w.heap.size+1+1):=fun e=>by
    have:=(H.o.own.lt _ e).1;omega
   have xA:=((H.o.own.off (g:=w.heap.size+1+1) (j:=0) (.slice a S.length ca) (H.o.far _ al al) fC).off (g:=w.heap.size+1+1) (j:=1) (.slice d F.length cd) (H.o.far _ al al) fC).off (g:=w.heap.size+1+1) (j:=2) (.slice V P.length X) (H.o.far _ al al) fC;obtain⟨TH,TE,e2,yz⟩:=xA.row;rw[rF] at e2;injection e2 with e3 e4 e5;subst e3 e5;clear e4;have Hx:=hid yz;have xZ:=hid (((EU.off (g:=w.heap.size+1+1) (j:=0) (y:=.slice a S.length ca) nU.o).off (g:=w.heap.size+1+1) (j:=1) (y:=.slice d F.length cd) nU.o).off (g:=w.heap.size+1+1) (j:=2) (y:=.slice V P.length X) nU.o);have Ic:=hid ((Qf H.o.own.own).up (show w.heap.size<=L.heap.size by omega));clear xA yz EU AB;go_wp2;refine bD (zA.o.result1 rfl _ rfl) rfl ?_;have e6:=Sz.o;subst e6;exact⟨d,cd,V,X,rfl,xZ.o,Hx.o,Ic.o,sS.o⟩
variable {Q2:List (Value×Value)} {P2:List Tb} {wv:Value}
theorem aeB {t:Tb} (h:Up t.1 n):t.1.contains (v:Int)=decide (v∈ag t.1):=by
 have:(v:Int)∈t.1↔v∈ag t.1:=by
  rw[ag,bc];constructor
  ·intro a;exact⟨_,a,aE⟩
  ·rintro⟨x,b,e⟩;have:=((il.1 h).1 x b).1;rw[show (v:Int)=x by omega];exact b
 by_cases a:v∈ag t.1
 ·rw[cY a,mh];exact this.2 a
 ·rw[cK a, <- Ad,mh];exact fun e=>a (this.1 e)
theorem akb (a:Option Addr) (ca:Nat) (S:List Nat) (x y:Value) (t:Tb) (v:Nat) (m:Bool) (w:World) (M:eW (iL S)) (s:az w a (iL S)) (h:di w x y t) (o:dH S S.length t) (k:Cw 8192 t.2) (j:v<S.length) (l:v∈ag t.1):
  c6 146 #[.slice a S.length ca,.agg #[x,y],.int .i64 (v:Nat),.bool m] w fun e w'=>De w.heap.size (outT S v m t) e w'/\c8 w w':=by
 obtain⟨b,c,cb,cc,rfl,rfl,g,i,q⟩:=h;have n:=M.eight;rw[ba] at n;have p:=o.small M;have f:t.1.contains (v:Int)=true:=by rw[aeB o.up,cY l]
 cases m with
 |false=>
  have:=ahz a b c ca cb cc (iL S) t.1 t.2 v w s g i (by rw[ba];omega) al (o.check M) k f (by rw[ba];exact j);rw[ba,eM] at this;exact this.af fun e w' d=>⟨vV.tb (t:=outT S v false t) d.1,d.2⟩
 |true=>
  have:=ahA a b c ca cb cc (iL S) t.1 t.2 v w s g i (by rw[ba];omega) al (o.check M) k f (by rw[ba];exact j);rw[ba,eM] at this;exact this.af fun e w' d=>⟨vV.tb (t:=outT S v true t) d.1,d.2⟩
theorem Qg {B:Nat} {e:TypeId} {s:Nat} {v:Value} {r:Option Nat} (h:w.ownsRow B e s v n xs) (f:w.grownBy w' r) (i:∀R,v.ownBlock=some R ->r≠some R):w'.ownsRow B e s v n xs:=by
 refine⟨h.1,?_⟩;rcases h.2 with a |⟨g,cap,u,a,c,b,d⟩
 ·exact .inl a
 ·exact .inr ⟨g,cap,u,a,c,(f.block g (dS.1 b).1 (fun e=>i g (by rw[a];rfl) e.symm)).trans b,d⟩
theorem ru {B:Nat} {e:TypeId} {s:Nat} {v:Value} (h:w.ownsRow B e s v n xs):∀R,v.ownBlock=some R ->B<=R/\R<w.heap.size:=fun R a=>by
 rcases h.2 with ⟨b,c⟩ |⟨g,cap,r,b,c,d,_⟩
 ·rw[b] at a;cases a
 ·rw[b] at a;cases a;exact⟨c,(dS.1 d).1⟩
theorem wO {B:Nat} {e:TypeId} {s:Nat} {v:Value} (h:w.ownsRow B e s v n xs):∃a c,v=.slice a n c:=by
 rcases h.2 with ⟨b,d⟩ |⟨g,cap,r,b,_⟩
 ·exact⟨none,0,by rw[b,d]⟩
 ·exact⟨_,_,b⟩
structure zh (w:World) (Q:List (Value×Value)) (P:List Tb):Prop where
 len:Q.length=P.length
 val:∀k (h:k<P.length) (h':k<Q.length),di w Q[k].1 Q[k].2 P[k]
theorem zh.nil (w:World):zh w [] []:=⟨rfl,fun k h=>absurd h aE⟩
theorem zh.push {t:Tb} (h:zh w Q P) (a:di w x y t):zh w (Q++[(x,y)]) (P++[t]):=by
 refine⟨by simp[h.len],fun k b i=>?_⟩;by_cases e:k<P.length
 ·have g:k<Q.length:=by rw[h.len];exact e
  rw[r6 g,r6 e];exact h.val k e g
 ·have g:¬k<Q.length:=by rw[h.len];exact e
  rw[vo al,vo al];simp only[O7];exact a
theorem zh.owt {V:World} {B:Nat} {v:Value} (h:zh w Q P) (e:c8 w V) (c:w.heap.size<=B) (o:V.ownsRow B 58 2 v P.length (eI Q)):lg V B v Q P:=
 ⟨h.len,o,fun k a b=>(h.val k a b).aa e,fun R d k a b=>(h.val k a b).lt (aR c (ru o R d).1)⟩
structure o8 (w W:World) (b:Nat) (x y tv wv:Value) (Q Q2:List (Value×Value)) (P P2:List Tb) (V:World):Prop where
 box:bt V b x y tv
 own:V.ownsRow W.heap.size 58 2 tv P.length (eI Q)
 own2:V.ownsRow W.heap.size 58 2 wv P2.length (eI Q2)
 q:zh w Q P
 q2:zh w Q2 P2
 ne:∀R,tv.ownBlock=some R ->wv.ownBlock≠some R
 fr:W.grownBy V (some b)
theorem o8.start {W:World} {b:Nat} (h:bt W b x y (.slice none 0 0)):o8 w W b x y (.slice none 0 0) (.slice none 0 0) [] [] [] [] W:=
 ⟨h,(lg.nil _ _).own,(lg.nil _ _).own,zh.nil _,zh.nil _,(fun R e=>by cases e),Xy _ _⟩
theorem o8.under {W V:World} {b:Nat} (h:o8 w W b x y tv wv Q Q2 P P2 V) (a:c8 V V'):o8 w W b x y tv wv Q Q2 P P2 V':=
 ⟨h.box.aa a h.box.lt,Jk h.own (Dg.aa a),Jk h.own2 (Dg.aa a),h.q,h.q2,h.ne,Xz h.fr a⟩
theorem o8.push2 {W V:World} {b:Nat} {j:Value} {t:Tb} (h:o8 w W b x y tv wv Q Q2 P P2 V) (l:b<W.heap.size) (d:di w u1 u2 t) (o:V'.ownsRow W.heap.size 58 2 j (P2.length+1) (eI Q2++[u1,u2])) (g:V.grownBy V' wv.ownBlock) (n:j.ownBlock=wv.ownBlock∨∀k,j.ownBlock=some k ->V.heap.size<=k):
  o8 w W b x y tv j Q (Q2++[(u1,u2)]) P (P2++[t]) V':=by
 have c:∀k,wv.ownBlock=some k ->W.heap.size<=k:=fun k e=>(ru h.own2 k e).1;refine⟨(g.block b h.box.lt (fun e=>by have:=c b e.symm;omega)).trans h.box,Qg h.own g h.ne,by rw[Lh,dm];exact o,h.q,h.q2.push d,fun R e a=>?_,MZ h.fr g c⟩;rcases n with n |n
 ·rw[n] at a;exact h.ne R e a
 ·have f:=n R a;have i:=(ru h.own R e).2;omega
theorem o8.push1 {W V:World} {b:Nat} {c:Value} {t:Tb} (h:o8 w W b x y tv wv Q Q2 P P2 V) (r:b<W.heap.size) (l:di w u1 u2 t) (j:V'.ownsRow W.heap.size 58 2 c (P.length+1) (eI Q++[u1,u2])) (g:V.grownBy V' tv.ownBlock) (n:c.ownBlock=tv.ownBlock∨∀k,c.ownBlock=some k ->V.heap.size<=k):
  o8 w W b x y c wv (Q++[(u1,u2)]) Q2 (P++[t]) P2 (V'.setCell ⟨b,2,none⟩ c)/\bt V' b x y tv:=by
 have f:∀k,tv.ownBlock=some k ->W.heap.size<=k:=fun k e=>(ru h.own k e).1;have d:bt V' b x y tv:=(g.block b h.box.lt (fun e=>by have:=f b e.symm;omega)).trans h.box;have i:V'.ownsRow W.heap.size 58 2 wv P2.length (eI Q2):=Qg h.own2 g (fun R e a=>h.ne R a e);have o:V'.ownsRow W.heap.size 58 2 c (P++[t]).length (eI (Q++[(u1,u2)])):=by rw[Lh,dm];exact j
 refine⟨⟨d.set2 c,FZ o (fun e=>?_) _,FZ i (fun e=>?_) _,h.q.push l,h.q2,fun R e a=>?_,Ru (MZ h.fr g f) _ _⟩,d⟩
 ·have:=(ru o b e).1;omega
 ·have:=(ru i b e).1;omega
 ·rcases n with n |n
  ·rw[n] at e;exact h.ne R e a
  ·have m:=n R e;have p:=(ru h.own2 R a).2;omega
theorem o8.plm {W V:World} {b:Nat} (h:o8 w W b x y tv wv Q Q2 P P2 V) (e:c8 w V) (d:w.heap.size<=W.heap.size):qQ w.heap.size W b x y tv Q P V:=
 ⟨h.box,h.q.owt e d h.own,fun _ R _ k a c=>(h.q.val k a c).lt R,h.fr⟩
theorem o8.row2 {W V:World} {b:Nat} (h:o8 w W b x y tv wv Q Q2 P P2 V) (e:c8 w V) (d:w.heap.size<=W.heap.size):∃a c,wv=.slice a P2.length c/\eC V a P2:=(h.q2.owt e d h.own2).row
theorem ajM (a b t:Option Addr) (ca cb ct:Nat) (S:List Nat) (fr:List Int) (P:List Tb) (D c v:Nat) (ai:Bool) (w:World) (aM:eW (iL S)) (hs:az w a (iL S)) (hb:az w b fr) (hP:eC w t P) (aQ:fH S S.length P D c) (cc:P.length<=999) (ku:fr.length<=1000) (hm:2*(B D).size+(B c).size+2<=8192) (hv:v<S.length) (br:∃t∈P,v∈ag t.1):
  c6 99 #[.agg #[.slice a S.length ca,.slice b fr.length cb,.slice t P.length ct],.int .i64 (v:Nat),.bool ai] w fun e w'=>∃d cd t' cI,e=.returned (.agg #[.slice a S.length ca,.slice d (bC fr v).length cd,.slice t' (ml S v ai P).length cI])/\az w' d (bC fr v)/\eC w' t' (ml S v ai P)/\eV w.heap.size t' cI/\c8 w w':=by
 have dG:Pos S:=by have:=aM.pos;rwa [eM] at this
 have ll:=hid (fun (U:World) (hU:c8 w U)=>Ut (.slice a S.length ca) (.slice t P.length ct) b cb fr (v:Int) U (slv _ _ _) (slv _ _ _) (hb.aa hU) ku)
 have je:Hid (∀(k:Nat) (hk:k<P.length) (x:Option Addr) (cx:Nat) (U:World),az U x P[k].1 ->c6 53 #[.slice x P[k].1.length cx,.int .i64 (v:Nat)] U fun e w'=>e=.returned (.bool (decide (v∈ag P[k].1)))/\c8 U w'):=fun k hk x cx U h=>by
  have ho:=aQ.ok _ (bB hk);have:=I8 x cx P[k].1 (v:Int) U h (by have:=ho.small aM;omega);rwa [aeB ho.up] at this
 obtain⟨E1,d1,k1,k2,k3⟩:=aQ.filter (fun t=>decide (v∈ag t.1))
 have a7:2*(B E1).size+(B d1).size+2<=8192:=by
  have h1:=j8 k2;have h2:=j8 k3;omega
 have a1:=k1.part dG a7 (P.filter fun t=>decide (v∈ag t.1)).length;rw[fD] at a1
 have bu:v∈ag (allT S (P.filter fun t=>decide (v∈ag t.1))).1:=((zg dG k1.ok).2.1 v).2 (by
  obtain⟨t,ht,Gx⟩:=br;exact⟨t,dB.2 ⟨ht,cY Gx⟩,Gx⟩)
 have bE:(P.filter fun t=>decide (v∈ag t.1)).length<=1000:=aR (pJ ..) al;have tP:Hid (∀(wa:Option Addr) (cw:Nat) (U:World),c8 w U ->eC U wa (P.filter fun t=>decide (v∈ag t.1)) ->c6 100 #[.slice a S.length ca,.slice wa (P.filter fun t=>decide (v∈ag t.1)).length cw] U fun e w'=>∃x y,e=.returned (.agg #[x,y])/\di w' x y (allT S (P.filter fun t=>decide (v∈ag t.1)))/\c8 U w'):=fun wa cw U hU h=>abW a wa ca cw S _ E1 d1 U aM (hs.aa hU) h k1 bE a7;have Fw:Hid (∀(x y:Value) (U:World),c8 w U ->di U x y (allT S (P.filter fun t=>decide (v∈ag t.1))) ->c6 146 #[.slice a S.length ca,.agg #[x,y],.int .i64 (v:Nat),.bool ai] U fun e w'=>De U.heap.size (outT S v ai (allT S (P.filter fun t=>decide (v∈ag t.1)))) e w'/\c8 U w'):=fun x y U hU h=>akb a ca S x y _ v ai U aM (hs.aa hU) h a1.1 a1.2 hv bu;have HP:=hid hP;clear hs hb hP aQ aM dG hm br k1 k2 k3 a7 a1 bu bE;obtain⟨T,hT⟩:∃T:Nat ->List Tb,∀k,(P.take k).filter (fun t=>!decide (v∈ag t.1))=T k:=⟨fun k=>(P.take k).filter (fun t=>!decide (v∈ag t.1)),fun _=>rfl⟩;obtain⟨Z,hZ⟩:∃Z:Nat ->List Tb,∀k,(P.take k).filter (fun t=>decide (v∈ag t.1))=Z k:=⟨fun k=>(P.take k).filter (fun t=>decide (v∈ag t.1)),fun _=>rfl⟩;have xS:Hid (T 0=[]/\Z 0=[]):=by show _/\_;rw[<- hT, <- hZ];exact⟨rfl,rfl⟩
 have kE:Hid (∀k (hk:k<P.length),decide (v∈ag P[k].1)=true ->T (k+1)=T k/\Z (k+1)=Z k++[P[k]]):=fun k hk h=>by
  rw[<- hT, <- hT, <- hZ, <- hZ,fL hk,Ch,Ch,Cg (by simp only[h];decide),Cf (p:=fun t:Tb=>decide (v∈ag t.1)) h];simp
 have qb:Hid (∀k (hk:k<P.length),decide (v∈ag P[k].1)=false ->T (k+1)=T k++[P[k]]/\Z (k+1)=Z k):=fun k hk h=>by
  rw[<- hT, <- hT, <- hZ, <- hZ,fL hk,Ch,Ch,Cf (by simp only[h];decide),Cg (by simp only[h];decide)];simp
 have rQ:Hid (T P.length=(P.filter fun t=>!decide (v∈ag t.1))/\Z P.length=P.filter fun t=>decide (v∈ag t.1)):=by show _/\_;rw[<- hT, <- hZ,fD];exact⟨rfl,rfl⟩
 have xQ:Hid (∀k,(T k).length<=P.length/\(Z k).length<=P.length):=fun k=>by rw[<- hT, <- hZ];exact⟨aR (pJ ..) (by rw[eX];omega),aR (pJ ..) (by rw[eX];omega)⟩
 clear hT hZ;obtain⟨OP,Xa⟩:∃OP,ml S v ai P=OP:=⟨_,rfl⟩;have a8:Hid (OP=T P.length++[outT S v ai (allT S (Z P.length))]):=by show _=_;rw[<- Xa,rQ.o.1,rQ.o.2];rfl
 rw[<- rQ.o.2] at tP Fw;rw[Xa];generalize outT S v ai (allT S (Z P.length))=OT at *;generalize allT S (Z P.length)=AT at *;clear Xa rQ;obtain⟨L,yT⟩:∃L,bC fr v=L:=⟨_,rfl⟩;rw[yT] at ll;rw[yT];clear yT;go_enter Tryz.func99,Tryz.ntmps99;go_wp2_with fail
 have aN:c8 w ((w.alloc (.cells #[.slice a S.length ca,.slice b fr.length cb,.slice t P.length ct] 93)).alloc (.cells #[.slice none 0 0,.slice none 0 0,.slice none 0 0] 93)):=by
  have h1:=(aw w.heap.size w).alloc (ar _) (.cells #[.slice a S.length ca,.slice b fr.length cb,.slice t P.length ct] 93);exact h1.alloc h1.size _
 have qG:bt ((w.alloc (.cells #[.slice a S.length ca,.slice b fr.length cb,.slice t P.length ct] 93)).alloc (.cells #[.slice none 0 0,.slice none 0 0,.slice none 0 0] 93)) w.heap.size (.slice a S.length ca) (.slice b fr.length cb) (.slice t P.length ct):=(bt.at (w:=w) rfl _ _ _).alloc _;have jb:bt ((w.alloc (.cells #[.slice a S.length ca,.slice b fr.length cb,.slice t P.length ct] 93)).alloc (.cells #[.slice none 0 0,.slice none 0 0,.slice none 0 0] 93)) (w.heap.size+1) (.slice none 0 0) (.slice none 0 0) (.slice none 0 0):=bt.at (w:=w.alloc (.cells #[.slice a S.length ca,.slice b fr.length cb,.slice t P.length ct] 93)) aE _ _ _;have Bg:=hid (ll.o _ aN);clear ll;generalize ((w.alloc (.cells #[.slice a S.length ca,.slice b fr.length cb,.slice t P.length ct] 93)).alloc (.cells #[.slice none 0 0,.slice none 0 0,.slice none 0 0] 93))=W0 at *;refine Bg.o.af ?_;rintro e I ⟨d,cd,rfl,yJ,CQ,ax⟩;have b8:=jb.lt;have ky:=(aw I.heap.size I).alloc (ar _) (.cells #[.slice a S.length ca,.slice d L.length cd,.slice none 0 0] 93);have fh:(I.alloc (.cells #[.slice a S.length ca,.slice d L.length cd,.slice none 0 0] 93)).heap.size=I.heap.size+1:=aE
 have dU:=(aN.trans (ax.af aN.size)).trans (ky.af (aR aN.size ax.size));have yS:=(qG.aa ax qG.lt).alloc (.cells #[.slice a S.length ca,.slice d L.length cd,.slice none 0 0] 93);have tH:=(jb.aa ax jb.lt).alloc (.cells #[.slice a S.length ca,.slice d L.length cd,.slice none 0 0] 93);have nJ:o8 w (I.alloc (.cells #[.slice a S.length ca,.slice d L.length cd,.slice none 0 0] 93)) I.heap.size (.slice a S.length ca) (.slice d L.length cd) (.slice none 0 0) (.slice none 0 0) [] [] [] [] (I.alloc (.cells #[.slice a S.length ca,.slice d L.length cd,.slice none 0 0] 93)):=o8.start (bt.at (w:=I) rfl (.slice a S.length ca) (.slice d L.length cd) (.slice none 0 0));have EW:=yJ.aa ky;have cf:=ax.size
 have Oe:Hid (∀g an,d=some ⟨g,an,none⟩ ->L≠[] ->some g≠some I.heap.size):=fun g an e b3 e2=>by
  obtain⟨g',o',e',iA,_⟩:=yJ 0 (by cases hl:L with |nil=>exact absurd hl b3 |cons x l=>simp);rw[e] at e';cases e';cases e2;omega
 have nU:Hid (∀g an,d=some ⟨g,an,none⟩ ->L≠[] ->g≠w.heap.size+1):=fun g an e _ e2=>by
  have:=CQ.2 g an e;omega
 clear yJ CQ ax aN qG jb ky Bg;have eL:=hid dU;have sO:=hid yS;have iE:=hid tH;have uQ:=hid nJ;have Ip:=hid EW;have vG:=yS.cells.2.2;clear dU yS tH nJ EW;go_wp2_with fail
 generalize (I.alloc (.cells #[.slice a S.length ca,.slice d L.length cd,.slice none 0 0] 93))=W4 at *;clear vG;go_loopw [8,19] (fun zv iv wr=>∃(i:Nat) (tv:Value) (Q Q2:List (Value×Value)),i<=P.length/\iv=.int .i64 i/\Hid (o8 w W4 I.heap.size (.slice a S.length ca) (.slice d L.length cd) tv zv Q Q2 (T i) (Z i) wr)) (fun _ iv _=>P.length - (intOf iv).toNat)
 case atStart=>exact⟨0,_,_,_,aS _,rfl,by rw[xS.o.1,xS.o.2];exact uQ⟩
 case round=>
  obtain⟨i,tv,Q,Q2,hi,rfl,HM⟩:=hrel;have JH:=HM.o.fr.size;have HB:Hid (c8 w wr):=JT eL.o HM.o.fr al al;have H6:Hid (bt wr w.heap.size (.slice a S.length ca) (.slice b fr.length cb) (.slice t P.length ct)):=(HM.o.fr.block _ sO.o.lt (fun e=>by have:=mW e;omega)).trans sO.o;have mO:Hid (bt wr (w.heap.size+1) (.slice none 0 0) (.slice none 0 0) (.slice none 0 0)):=(HM.o.fr.block _ iE.o.lt (fun e=>by have:=mW e;omega)).trans iE.o;have a6:I.heap.size<W4.heap.size:=al
  obtain⟨za,zc,rfl⟩:=wO HM.o.own2;by_cases aO:i<P.length
  ·obtain⟨g,an,p,q,rfl,hg,k0,k1,bg⟩:=HP.o i aO;replace k0:=(HB.o.cell (p:=⟨g,_,none⟩) hg).trans k0;replace k1:=(HB.o.cell (p:=⟨g,_,none⟩) hg).trans k1;have N6:=hid bg;have hA:=(aw wr.heap.size wr).alloc (ar _) (TC p q);have bT:=hid (HB.o.trans (hA.af HB.o.size));(have CM:(wr.alloc (TC p q)).heap.size=wr.heap.size+1:=aE);have bP:=bs.at (w:=wr) rfl p q;have b0:=bP.c0;have pw:=hid (HM.o.under hA);obtain⟨ps,qs,X,qc,rfl,rfl,kr,_,_⟩:=bg;have HX:=hid (je.o i aO ps X _ (kr.aa bT.o));have qY:=hid bP;have bO:=hid (kE.o i aO);have bR:=hid (qb.o i aO);have pU:=xQ.o i;clear kr hA bP HM HB H6 mO;have bK:Hid (Below (wr.alloc (TC (.slice ps P[i].1.length X) (.slice qs P[i].2.length qc))).heap.size (wr.alloc (TC (.slice ps P[i].1.length X) (.slice qs P[i].2.length qc))) (wr.alloc (TC (.slice ps P[i].1.length X) (.slice qs P[i].2.length qc)))):=aw _ _;generalize P[i]=E at *;generalize hdc:decide (v∈ag E.1)=dc at *;clear hdc;go_wp2_with fail
   refine HX.o.af ?_;rintro e w7 ⟨rfl,bV⟩;have KA:=hid (pw.o.under bV);have ZF:=hid (qY.o.aa bV qY.o.lt);have b6:=ZF.o.c0;have b7:=ZF.o.c1;have uB:=(aw w7.heap.size w7).alloc (ar _) (TC (.slice ps E.1.length X) (.slice qs E.2.length qc));have zD:=hid (KA.o.under uB);have yN:=bs.at (w:=w7) rfl (.slice ps E.1.length X) (.slice qs E.2.length qc);have bl:=hid yN.c0;have bk:=hid yN.c1;have jx:Hid (W4.heap.size<=(w7.alloc (TC (.slice ps E.1.length X) (.slice qs E.2.length qc))).heap.size):=zD.o.fr.size;have b5:=KA.o.box.cells.2.2;clear bV uB yN HX pw k0 k1 b0 qY bT ZF bK;cases dc with
   |true=>
    obtain⟨e1,e2⟩:=bO.o rfl
    have ay:∀(Ec:Value) (F:World),F.ownsRow W4.heap.size 58 2 Ec ((Z i).length+1) (eI Q2++[.slice ps E.1.length X,.slice qs E.2.length qc]) ->(w7.alloc (TC (.slice ps E.1.length X) (.slice qs E.2.length qc))).grownBy F (Value.ownBlock (.slice za (Z i).length zc)) ->(Ec.ownBlock=Value.ownBlock (.slice za (Z i).length zc)∨∀k,Ec.ownBlock=some k ->(w7.alloc (TC (.slice ps E.1.length X) (.slice qs E.2.length qc))).heap.size<=k) ->(∃a' c',Ec=Value.slice a' ((Z i).length+1) c')/\o8 w W4 I.heap.size (.slice a S.length ca) (.slice d L.length cd) tv Ec Q (Q2++[(.slice ps E.1.length X,.slice qs E.2.length qc)]) (T (i+1)) (Z (i+1)) F:=fun Ec F O dL gF=>by
     have hM:=zD.o.push2 a6 N6.o O dL gF;rw[<- e2, <- e1] at hM;exact⟨wO O,hM⟩
    have HKEY:=hid ay;clear ay e1 e2 b5;go_wp2_with (at_builtin;refine K3 rfl _ _ rfl W4.heap.size (.slice za (Z i).length zc) (Z i).length (eI Q2) (.slice ps E.1.length X) (.slice qs E.2.length qc) rfl zD.o.own2 w7.heap.size rfl bl.o bk.o (slv _ _ _) (slv _ _ _) al jx.o ?_;intro Ec F O dL gF;obtain⟨⟨yo,ym,rfl⟩,uy⟩:=HKEY.o Ec F O dL gF;have pz:=hid uy;clear uy O dL gF)
    go_roundw
    case rel=>exact⟨i+1,_,_,_,al,bd,pz⟩
    case measure=>simp[intOf];omega
   |false=>
    obtain⟨e1,e2⟩:=bR.o rfl
    have ay:∀(M:Value) (F:World),F.ownsRow W4.heap.size 58 2 M ((T i).length+1) (eI Q++[.slice ps E.1.length X,.slice qs E.2.length qc]) ->(w7.alloc (TC (.slice ps E.1.length X) (.slice qs E.2.length qc))).grownBy F tv.ownBlock ->(M.ownBlock=tv.ownBlock∨∀k,M.ownBlock=some k ->(w7.alloc (TC (.slice ps E.1.length X) (.slice qs E.2.length qc))).heap.size<=k) ->(∃a' c',M=Value.slice a' ((T i).length+1) c')/\o8 w W4 I.heap.size (.slice a S.length ca) (.slice d L.length cd) M (.slice za (Z i).length zc) (Q++[(.slice ps E.1.length X,.slice qs E.2.length qc)]) Q2 (T (i+1)) (Z (i+1)) (F.setCell ⟨I.heap.size,2,none⟩ M)/\F.cell? ⟨I.heap.size,2,none⟩=some tv/\F.frozen? ⟨I.heap.size,2,none⟩=false:=fun M F O dL gF=>by
     obtain⟨hM,yZ⟩:=zD.o.push1 a6 N6.o O dL gF;rw[<- e2, <- e1] at hM;rw[e2] at hM;exact⟨wO O,by rw[e2];exact hM,yZ.cells.2.2,yZ.fz 2⟩
    have HKEY:=hid ay;clear ay e1 e2;go_wp2_with (at_builtin;refine K3 rfl _ _ rfl W4.heap.size tv (T i).length (eI Q) (.slice ps E.1.length X) (.slice qs E.2.length qc) rfl zD.o.own w7.heap.size rfl bl.o bk.o (slv _ _ _) (slv _ _ _) al jx.o ?_;intro M F O dL gF;obtain⟨⟨yo,ym,rfl⟩,uy,bI,bx⟩:=HKEY.o M F O dL gF;have pz:=hid uy;clear uy O dL gF)
    go_roundw
    case rel=>exact⟨i+1,_,_,_,al,bd,pz⟩
    case measure=>simp[intOf];omega
  ·obtain rfl:i=P.length:=al
   obtain⟨cj,ck,ez,bw⟩:=HM.o.row2 HB.o al;injection ez with ez1 ez2 ez3;subst ez1 ez3;clear ez2;have gH:=hid (HM.o.plm HB.o al);have bf:=hid bw;have pU:=(xQ.o P.length).1;clear bw HM uQ kE qb xQ je;(have b2:(T P.length).length+1=OP.length:=by rw[a8.o,dm];rfl);go_upto_region 10 with (go_quiet (fail))
   have jr:c8 wr wr.drew:=(aw wr.heap.size wr).drew;have m:Hid (c8 w wr.drew):=HB.o.drew;have Kq:Hid (bt wr.drew w.heap.size (.slice a S.length ca) (.slice b fr.length cb) (.slice t P.length ct)):=H6.o;have YX:=hid (gH.o.under jr);have av:=hid (bf.o.aa jr);have GG:W4.heap.size<=wr.drew.heap.size:=JH;clear gH bf HB H6 mO jr JH;obtain⟨H,jq⟩:∃H,wr.drew=H:=⟨_,rfl⟩;rw[jq] at m Kq YX av GG;have dI:Hid (∀U:World,c8 H U ->U.cell? ⟨w.heap.size,0,none⟩=some (.slice a S.length ca)):=fun U hU=>(Kq.o.aa hU Kq.o.lt).cells.1;have f:Hid (c8 H H):=aw _ _;refine iu (S:=fun U=>U.cell? ⟨w.heap.size,0,none⟩=some (.slice a S.length ca)) ao (by rw[jq];exact dI.o _ f.o) (fun z=>?_);rw[jq] at z⊢;clear jq;refine au 0 (.pointer (some ⟨w.heap.size,0,none⟩)) ?_;refine au 1 (.slice a S.length ca) ?_;refine au 2 (.pointer (some ⟨w.heap.size,0,none⟩)) ?_;refine au 3 (.slice a S.length ca) ?_;refine au 4 (.slice za (Z P.length).length zc) ?_;refine au 6 (.int .i64 (v:Nat)) ?_;refine au 7 (.bool ai) ?_;refine aI [5,12] (cA ?_ (cA ?_ aH))
   focus
    intro J K;go_simp;refine(tP.o za zc H m.o av.o).af ?_;rintro e u1 ⟨x1,y1,rfl,oK,aj⟩;replace m:=hid (m.o.trans (aj.af m.o.size));replace f:=hid (f.o.trans (aj.af f.o.size));have Fo:=hid oK;clear z;refine K.o _ _ (dI.o u1 f.o) (fun z=>?_);clear K J aj oK;refine aI [8,12] (cA ?_ (cA ?_ aH))
    focus
     intro J K;go_simp;refine(Fw.o x1 y1 u1 m.o Fo.o).af ?_;rintro e u2 ⟨⟨x2,y2,rfl,ad,dK⟩,ae⟩;have qW:Hid (∀R,R<H.heap.size ->fV R OT (x2,y2)):=fun R hR=>dK R (aU hR f.o.size);replace m:=hid (m.o.trans (ae.af m.o.size));replace f:=hid (f.o.trans (ae.af f.o.size));have xP:=hid ad;obtain⟨xs,o,n,rfl⟩:=ad.slices.1;obtain⟨u,s,r,rfl⟩:=ad.slices.2;clear z;refine K.o _ _ (dI.o u2 f.o) (fun z=>?_);clear K J ae ad dK;refine au 9 (.tuple #[.agg #[.slice xs o n,.slice u s r],.int .i64 0]) ?_;refine au 10 (.agg #[.slice xs o n,.slice u s r]) ?_;refine au 11 (.int .i64 0) ?_;refine aI [12] (cA ?_ aH);intro J K;go_simp;have mE:=(aw _ u2).alloc (ar _) (TC (.slice none 0 0) (.slice none 0 0));replace m:=hid (m.o.trans (mE.af m.o.size));have cR:H.heap.size<=u2.heap.size:=f.o.size;replace f:=hid (f.o.trans (mE.af f.o.size));have V:=hid (bs.at (w:=u2) rfl (.slice none 0 0) (.slice none 0 0));(have oQ:u2.heap.size<(u2.alloc (TC (.slice none 0 0) (.slice none 0 0))).heap.size:=aE);have xW:Hid (fV u2.heap.size OT (.slice xs o n,.slice u s r)):=xP.o.lt (ar _);replace xP:=hid (xP.o.aa mE);clear z;refine K.o _ _ (dI.o _ f.o) (fun z=>?_);clear K J mE;obtain⟨A,ab⟩:∃A,u2.heap.size=A:=⟨_,rfl⟩;obtain⟨u3,Y⟩:∃u3,u2.alloc (TC (.slice none 0 0) (.slice none 0 0))=u3:=⟨_,rfl⟩;have lH:u2.alloc (.cells #[.slice none 0 0,.slice none 0 0] 58)=u3:=Y;(have EG:H.heap.size<=A:=al)
     (have AO:A<u3.heap.size:=by rw[<- ab, <- Y];exact oQ);rw[ab,Y] at V;clear cR oQ;have cR:=EG;have oQ:=AO;clear EG AO;rw[ab] at xW;rw[Y] at xP;rw[Y] at f m;simp only[lH] at z⊢;simp only[ab];clear Y lH ab;(try simp only[gE,aP]);obtain⟨b0,b1,Ns,Nr⟩:=V.o.facts;refine aI [13] (cA ?_ aH);intro J K;go_simp;have xR:=hid (V.o.put (.slice xs o n) (.slice u s r));have SU:=hid (nN m.o (aR al cR) (.slice xs o n) (.slice u s r));have Fq:=hid (nN f.o cR (.slice xs o n) (.slice u s r));have Dk:=hid ((xP.o.off (g:=A) (j:=0) (.slice xs o n) xW.o).off (g:=A) (j:=1) (.slice u s r) xW.o);clear z;refine K.o _ _ (dI.o _ Fq.o) (fun z=>?_);clear K J b0 b1 Ns Nr V m f xP xW;refine au 14 (.int .i64 0) ?_;(try simp only[gE,aP]);refine dC ao ?_ _;clear z;obtain⟨u4,xj⟩:∃u4,((u3.setCell ⟨A,0,none⟩ (.slice xs o n)).setCell ⟨A,1,none⟩ (.slice u s r))=u4:=⟨_,rfl⟩
    rotate_left
    focus
     intro J K;go_simp;have mE:=(aw _ u1).alloc (ar _) (TC (.slice none 0 0) (.slice none 0 0));replace m:=hid (m.o.trans (mE.af m.o.size));have cR:H.heap.size<=u1.heap.size:=f.o.size;replace f:=hid (f.o.trans (mE.af f.o.size));have V:=hid (bs.at (w:=u1) rfl (.slice none 0 0) (.slice none 0 0));(have oQ:u1.heap.size<(u1.alloc (TC (.slice none 0 0) (.slice none 0 0))).heap.size:=aE);replace Fo:=hid (Fo.o.aa mE);clear z;refine K.o _ _ (dI.o _ f.o) (fun z=>?_);clear K J mE;obtain⟨A,ab⟩:∃A,u1.heap.size=A:=⟨_,rfl⟩;obtain⟨u3,Y⟩:∃u3,u1.alloc (TC (.slice none 0 0) (.slice none 0 0))=u3:=⟨_,rfl⟩;have lH:u1.alloc (.cells #[.slice none 0 0,.slice none 0 0] 58)=u3:=Y;(have EG:H.heap.size<=A:=al);(have AO:A<u3.heap.size:=by rw[<- ab, <- Y];exact oQ);rw[ab,Y] at V;clear cR oQ;have cR:=EG;have oQ:=AO;clear EG AO;rw[Y] at Fo;rw[Y] at f m;simp only[lH] at z⊢;simp only[ab];clear Y lH ab;refine aI [8] (cA ?_ aH);intro J K;go_simp;refine(Fw.o x1 y1 u3 m.o Fo.o).af ?_;rintro e u2 ⟨⟨x2,y2,rfl,ad,dK⟩,ae⟩;have qW:Hid (∀R,R<H.heap.size ->fV R OT (x2,y2)):=fun R hR=>dK R (aU hR f.o.size);have xW:Hid (fV A OT (x2,y2)):=dK _ oQ;replace V:=hid (V.o.aa ae V.o.lt);replace m:=hid (m.o.trans (ae.af m.o.size));replace f:=hid (f.o.trans (ae.af f.o.size));have xP:=hid ad;obtain⟨xs,o,n,rfl⟩:=ad.slices.1;obtain⟨u,s,r,rfl⟩:=ad.slices.2;refine K.o _ _ (dI.o u2 f.o) (fun ak=>?_);clear ae ad dK K J z
     have z:=ak;clear ak;refine au 9 (.tuple #[.agg #[.slice xs o n,.slice u s r],.int .i64 0]) ?_;refine au 10 (.agg #[.slice xs o n,.slice u s r]) ?_;refine au 11 (.int .i64 0) ?_;(try simp only[gE,aP]);obtain⟨b0,b1,Ns,Nr⟩:=V.o.facts;refine aI [13] (cA ?_ aH);intro J K;go_simp;have xR:=hid (V.o.put (.slice xs o n) (.slice u s r));have SU:=hid (nN m.o (aR al cR) (.slice xs o n) (.slice u s r));have Fq:=hid (nN f.o cR (.slice xs o n) (.slice u s r));have Dk:=hid ((xP.o.off (g:=A) (j:=0) (.slice xs o n) xW.o).off (g:=A) (j:=1) (.slice u s r) xW.o);clear z;refine K.o _ _ (dI.o _ Fq.o) (fun z=>?_);clear K J b0 b1 Ns Nr V m f xP xW;refine au 14 (.int .i64 0) ?_;(try simp only[gE,aP]);refine dC ao ?_ _;clear z;obtain⟨u4,xj⟩:∃u4,((u2.setCell ⟨A,0,none⟩ (.slice xs o n)).setCell ⟨A,1,none⟩ (.slice u s r))=u4:=⟨_,rfl⟩
   rotate_left 2
   focus
    intro J K;go_simp;have mE:=(aw _ H).alloc (ar _) (TC (.slice none 0 0) (.slice none 0 0));replace m:=hid (m.o.trans (mE.af m.o.size));have cR:H.heap.size<=H.heap.size:=f.o.size;replace f:=hid (f.o.trans (mE.af f.o.size));have V:=hid (bs.at (w:=H) rfl (.slice none 0 0) (.slice none 0 0));(have oQ:H.heap.size<(H.alloc (TC (.slice none 0 0) (.slice none 0 0))).heap.size:=aE);replace av:=hid (av.o.aa mE);clear z;refine K.o _ _ (dI.o _ f.o) (fun z=>?_);clear K J mE;obtain⟨A,ab⟩:∃A,H.heap.size=A:=⟨_,rfl⟩;obtain⟨u3,Y⟩:∃u3,H.alloc (TC (.slice none 0 0) (.slice none 0 0))=u3:=⟨_,rfl⟩;have lH:H.alloc (.cells #[.slice none 0 0,.slice none 0 0] 58)=u3:=Y;(have EG:H.heap.size<=A:=al);(have AO:A<u3.heap.size:=by rw[<- ab, <- Y];exact oQ);rw[ab,Y] at V;clear cR oQ;have cR:=EG;have oQ:=AO;clear EG AO;rw[Y] at av;rw[Y] at f m;simp only[lH] at z⊢;simp only[ab];clear Y lH ab;refine aI [5] (cA ?_ aH);intro J K;go_simp;refine(tP.o za zc u3 m.o av.o).af ?_;rintro e u1 ⟨x1,y1,rfl,oK,aj⟩;replace m:=hid (m.o.trans (aj.af m.o.size));replace f:=hid (f.o.trans (aj.af f.o.size));replace V:=hid (V.o.aa aj V.o.lt);have Fo:=hid oK;clear z;refine K.o _ _ (dI.o u1 f.o) (fun z=>?_);clear K J aj oK;have bN:A<u1.heap.size:=V.o.lt;refine aI [8] (cA ?_ aH);intro J K;go_simp;refine(Fw.o x1 y1 u1 m.o Fo.o).af ?_;rintro e u2 ⟨⟨x2,y2,rfl,ad,dK⟩,ae⟩
    have qW:Hid (∀R,R<H.heap.size ->fV R OT (x2,y2)):=fun R hR=>dK R (aU hR f.o.size);have xW:Hid (fV A OT (x2,y2)):=dK _ bN;replace V:=hid (V.o.aa ae V.o.lt);replace m:=hid (m.o.trans (ae.af m.o.size));replace f:=hid (f.o.trans (ae.af f.o.size));have xP:=hid ad;obtain⟨xs,o,n,rfl⟩:=ad.slices.1;obtain⟨u,s,r,rfl⟩:=ad.slices.2;clear z;refine K.o _ _ (dI.o u2 f.o) (fun z=>?_);clear K J ae ad dK;refine au 9 (.tuple #[.agg #[.slice xs o n,.slice u s r],.int .i64 0]) ?_;refine au 10 (.agg #[.slice xs o n,.slice u s r]) ?_;refine au 11 (.int .i64 0) ?_;(try simp only[gE,aP]);obtain⟨b0,b1,Ns,Nr⟩:=V.o.facts;refine aI [13] (cA ?_ aH);intro J K;go_simp;have xR:=hid (V.o.put (.slice xs o n) (.slice u s r));have SU:=hid (nN m.o (aR al cR) (.slice xs o n) (.slice u s r));have Fq:=hid (nN f.o cR (.slice xs o n) (.slice u s r));have Dk:=hid ((xP.o.off (g:=A) (j:=0) (.slice xs o n) xW.o).off (g:=A) (j:=1) (.slice u s r) xW.o);clear z;refine K.o _ _ (dI.o _ Fq.o) (fun z=>?_);clear K J b0 b1 Ns Nr V m f xP xW;refine au 14 (.int .i64 0) ?_;(try simp only[gE,aP]);refine dC ao ?_ _;clear z;obtain⟨u4,xj⟩:∃u4,((u2.setCell ⟨A,0,none⟩ (.slice xs o n)).setCell ⟨A,1,none⟩ (.slice u s r))=u4:=⟨_,rfl⟩
   all_goals
    rw[xj] at xR SU Fq Dk⊢;clear xj;have YY:=hid (YX.o.under Fq.o);have E3:=(aw u4.heap.size u4).alloc (ar _) (TC (.slice xs o n) (.slice u s r));have zE:=hid (YY.o.under E3);have Sk:=hid (Dk.o.aa E3);have Wx:=bs.at (w:=u4) rfl (.slice xs o n) (.slice u s r);have bo:=hid Wx.c0;have bm:=hid Wx.c1;have Bu:Hid (W4.heap.size<=(u4.alloc (TC (.slice xs o n) (.slice u s r))).heap.size):=zE.o.fr.size;have b4:=YY.o.box.cells.2.2;have g0:=xR.o.c0;have bW:=xR.o.c1;have bb:Hid (∀R,tv.ownBlock=some R ->fV R OT ((.slice xs o n),(.slice u s r))):=fun R hR=>qW.o R (YX.o.own.lt R hR).2;clear E3 Wx xR Fq Dk
    have HKEY:Hid (∀(M:Value) (F:World),F.ownsRow W4.heap.size 58 2 M ((T P.length).length+1) (eI Q++[(.slice xs o n),(.slice u s r)]) ->(u4.alloc (TC (.slice xs o n) (.slice u s r))).grownBy F tv.ownBlock ->(M.ownBlock=tv.ownBlock∨∀k,M.ownBlock=some k ->(u4.alloc (TC (.slice xs o n) (.slice u s r))).heap.size<=k) ->(∃a' c',M=Value.slice a' OP.length c')/\qQ w.heap.size W4 I.heap.size (.slice a S.length ca) (.slice d L.length cd) M (Q++[((.slice xs o n),(.slice u s r))]) OP (F.setCell ⟨I.heap.size,2,none⟩ M)/\F.cell? ⟨I.heap.size,2,none⟩=some tv/\F.frozen? ⟨I.heap.size,2,none⟩=false):=fun M F O dL gF=>by
     have hM:=zE.o.push al a6 Sk.o bb.o (fun R _ hR=>qW.o R al) O dL gF;rw[<- a8.o] at hM;have yZ:bt F I.heap.size (.slice a S.length ca) (.slice d L.length cd) tv:=(dL.block _ zE.o.box.lt (fun e=>by have:=(zE.o.own.lt _ e.symm).1;omega)).trans zE.o.box;exact⟨by rw[<- b2];exact wO O,hM,yZ.cells.2.2,yZ.fz 2⟩
    go_upto_region 12 with (at_builtin;refine K3 rfl _ _ rfl W4.heap.size tv (T P.length).length (eI Q) (.slice xs o n) (.slice u s r) rfl zE.o.own.own u4.heap.size rfl bo.o bm.o (slv _ _ _) (slv _ _ _) al Bu.o ?_;intro M F O dL gF;obtain⟨⟨yo,ym,rfl⟩,uy,bI,bx⟩:=HKEY.o M F O dL gF;have pz:=hid uy;clear uy O dL gF)
    obtain⟨VV,bp⟩:∃VV,F.setCell ⟨I.heap.size,2,none⟩ (.slice yo OP.length ym)=VV:=⟨_,rfl⟩;rw[bp] at pz⊢;clear bp bI bx b4 g0 bW HKEY bb Bu bo bm Sk zE YY qW Fo SU;have JH:=pz.o.fr.size;have jz:Hid (c8 w VV):=JT eL.o pz.o.fr al al;have rR:Hid (bt VV (w.heap.size+1) (.slice none 0 0) (.slice none 0 0) (.slice none 0 0)):=(pz.o.fr.block _ iE.o.lt (fun e=>by have:=mW e;omega)).trans iE.o;have EU:az VV d L:=Jt Ip.o Oe.o pz.o.fr;obtain⟨x0,cg,ch⟩:=pz.o.box.cells;obtain⟨r0,r1,r2⟩:=rR.o.cells;have Cn:=rR.o.fz 0;have Lr:=rR.o.fz 1;have Lq:=rR.o.fz 2;have zA:=hid (rR.o.put (.slice a S.length ca) (.slice d L.length cd) (.slice yo OP.length ym));have sS:=hid (bL jz.o (show w.heap.size<=w.heap.size+1 by omega) (.slice a S.length ca) (.slice d L.length cd) (.slice yo OP.length ym))
    have fC:Value.ownBlock (.slice yo OP.length ym)≠some (w.heap.size+1):=fun e=>by
     have:=(pz.o.own.lt _ e).1;omega
    have xA:=((pz.o.own.off (g:=w.heap.size+1) (j:=0) (.slice a S.length ca) (pz.o.far _ al al) fC).off (g:=w.heap.size+1) (j:=1) (.slice d L.length cd) (pz.o.far _ al al) fC).off (g:=w.heap.size+1) (j:=2) (.slice yo OP.length ym) (pz.o.far _ al al) fC;obtain⟨TH,TE,e2,yz⟩:=xA.row;injection e2 with e3 e4 e5;subst e3 e5;clear e4;have Hx:=hid yz;have xZ:=hid (((EU.off (g:=w.heap.size+1) (j:=0) (y:=.slice a S.length ca) nU.o).off (g:=w.heap.size+1) (j:=1) (y:=.slice d L.length cd) nU.o).off (g:=w.heap.size+1) (j:=2) (y:=.slice yo OP.length ym) nU.o);have Ic:=hid ((Qf pz.o.own.own).up (show w.heap.size<=W4.heap.size by omega));clear xA yz EU fC;go_wp2;refine bD (zA.o.result1 rfl _ rfl) rfl ?_;exact⟨d,cd,yo,ym,rfl,xZ.o,Hx.o,Ic.o,sS.o⟩
theorem ab4 {V:World} {o:Nat} {u:Value} (b:bt V g x y z) (h:cP x) (a:cP y) (d:cP z) (c:V.cell? ⟨g,o,none⟩=some u):cP u:=by
 rw[bZ V g o _ _ (0,0) b] at c;match o,c with
 |0,c=>cases c;exact h
 |1,c=>cases c;exact a
 |2,c=>cases c;exact d
 |o+3,c=>simp at c
theorem adw {V:World} {b:Option Addr} (h:az V b l) (f:bt V g x y z) (j:cP x) (k:cP y) (m:cP z):∀g' o',b=some ⟨g',o',none⟩ ->l≠[] ->g'≠g:=fun g' o' e n c=>by
 obtain⟨o,p,a,_,i⟩:=h 0 (by cases hl:l with |nil=>exact absurd hl n |cons x l=>simp);rw[e] at a;cases a;subst c;obtain⟨_,_,_,d⟩:=ab4 f j k m i;cases d
theorem an3 {V:World} {b:Option Addr} {l:List Fr} (h:cG V b l) (f:bt V g x y z) (j:cP x) (k:cP y) (m:cP z):∀g' o',b=some ⟨g',o',none⟩ ->l≠[] ->g'≠g:=fun g' o' e n c=>by
 obtain⟨o,p,a,_,i,_⟩:=h 0 (by cases hl:l with |nil=>exact absurd hl n |cons x l=>simp);rw[e] at a;cases a;subst c;obtain⟨_,_,_,d⟩:=ab4 f j k m i;cases d
theorem I3 {V:World} {t:Tb} {p q:Value} (h:di V p q t) (d:bt V g x y z) (f:cP x) (i:cP y) (j:cP z):fV g t (p,q):=by
 obtain⟨b,c,cb,cc,rfl,rfl,l,m,o⟩:=h;exact⟨fun g' o' n k e a=>by injection e with e1 _ _;exact adw l d f i j g' o' e1 a,fun g' o' n k e a=>by injection e with e1 _ _;exact an3 m d f i j g' o' e1 a⟩
theorem eC.offP {V:World} (u:Value) (h:eC V a P) (n:∀g' o',a=some ⟨g',o',none⟩ ->g'≠g) (t:∀k (b:k<P.length) p q,di V p q P[k] ->fV g P[k] (p,q)):eC (V.setCell ⟨g,j,none⟩ u) a P:=fun k b=>by
 obtain⟨g',o,p,q,e,l,f,i,c⟩:=h k b;have d:(V.setCell ⟨g,j,none⟩ u).heap[g']? =V.heap[g']?:=iJ V ⟨g,j,none⟩ u g' (n g' o e);exact⟨g',o,p,q,e,aU l (jk V _ _).size,(lu (a:=⟨g',_,none⟩) d).trans f,(lu (a:=⟨g',_,none⟩) d).trans i,c.off u (t k b p q c)⟩
theorem eC.putP {V:World} (h:eC V a P) (b:bt V g x y z) (i:cP x) (e:cP y) (c:cP z) (n:∀g' o',a=some ⟨g',o',none⟩ ->g'≠g) {u v:Value} (d:cP u) (f:cP v) (s:Value):eC (((V.setCell ⟨g,0,none⟩ u).setCell ⟨g,1,none⟩ v).setCell ⟨g,2,none⟩ s) a P:=
 ((h.offP u n fun _ _ _ _ t=>I3 t b i e c).offP v n fun _ _ _ _ t=>I3 t (b.set0 u) d e c).offP s n fun _ _ _ _ t=>I3 t ((b.set0 u).set1 v) d f c
theorem az.putP {V:World} (h:az V a l) (b:bt V g x y z) (c:cP x) (d:cP y) (e:cP z) (u v s:Value):az (((V.setCell ⟨g,0,none⟩ u).setCell ⟨g,1,none⟩ v).setCell ⟨g,2,none⟩ s) a l:=by
 have n:=adw h b c d e;exact((h.off n).off n).off n
theorem ajN (a b t q:Option Addr) (ca cb ct cq:Nat) (S:List Nat) (f vars:List Int) (P:List Tb) (D:Nat) (c:Nat ->Nat) (ad:Bool) (j:Nat ->List Tb) (F:Nat ->List Int) (w:World) (aM:eW (iL S)) (hs:az w a (iL S)) (hb:az w b f) (hP:eC w t P) (hq:az w q vars) (eB:vars.length<=1000)
  (h0:j 0=P/\F 0=f) (hk:∀i (h:i<f.length),vars.contains f[i]=true ->j (i+1)=j i/\F (i+1)=F i)
  (ho:∀i (h:i<f.length),vars.contains f[i]=false ->∃v:Nat,f[i]=(v:Int)/\j (i+1)=ml S v ad (j i)/\F (i+1)=bC (F i) v/\v<S.length/\∃t∈j i,v∈ag t.1)
  (jV:∀i,i<=f.length ->fH S S.length (j i) D (c i)/\(j i).length<=999/\(F i).length<=1000/\2*(B D).size+(B (c i)).size+2<=8192):
  c6 55 #[.agg #[.slice a S.length ca,.slice b f.length cb,.slice t P.length ct],.slice q vars.length cq,.bool ad] w fun e w'=>∃x y,e=.returned (.agg #[x,y])/\di w' x y (allT S (j f.length))/\c8 w w':=by
 have tP:Hid (∀(k:Option Addr) (I:Nat) (U:World),c8 w U ->eC U k (j f.length) ->c6 100 #[.slice a S.length ca,.slice k (j f.length).length I] U fun e w'=>∃x y,e=.returned (.agg #[x,y])/\di w' x y (allT S (j f.length))/\c8 U w'):=fun k I U K h=>by
  obtain⟨s,h2,_,h4⟩:=jV f.length (ar _);exact abW a k ca I S _ D _ U aM (hs.aa K) h s al h4
 have je:Hid (∀(x:Int) (U:World),c8 w U ->c6 53 #[.slice q vars.length cq,.int .i64 x] U fun e w'=>e=.returned (.bool (vars.contains x))/\c8 U w'):=fun x U K=>I8 q cq vars x U (hq.aa K) al
 have H9:Hid (∀(i:Nat) (h:i<f.length),vars.contains f[i]=false ->∀(l k:Option Addr) (o I:Nat) (U:World),c8 w U ->az U l (F i) ->eC U k (j i) ->c6 99 #[.agg #[.slice a S.length ca,.slice l (F i).length o,.slice k (j i).length I],.int .i64 f[i],.bool ad] U fun e w'=>∃d cd k I,e=.returned (.agg #[.slice a S.length ca,.slice d (F (i+1)).length cd,.slice k (j (i+1)).length I])/\az w' d (F (i+1))/\eC w' k (j (i+1))/\eV U.heap.size k I/\c8 U w'):=fun i h hc l k o I U K s h2=>by
  obtain⟨v,X,Y,e3,e4,e5⟩:=ho i h hc;obtain⟨g1,g2,g3,g4⟩:=jV i al;rw[X,Y,e3];exact ajM a l k ca o I S (F i) (j i) D (c i) v ad U aM (hs.aa K) s h2 g1 g2 g3 g4 e4 e5
 have HK:=hid hk;have ku:f.length<=1000:=by have:=(jV 0 (aS _)).2.2.1;rwa [h0.2] at this
 have Dx:=hid hb;obtain⟨e0,T⟩:=h0;have H0:Hid (bt ((w.alloc (.cells #[.slice a S.length ca,.slice b f.length cb,.slice t P.length ct] 93)).alloc (TC (.slice none 0 0) (.slice none 0 0))) w.heap.size (.slice a S.length ca) (.slice b (F 0).length cb) (.slice t (j 0).length ct)):=by rw[e0,T];exact(bt.at (w:=w) rfl _ _ _).alloc _
 have Z:c8 w ((w.alloc (.cells #[.slice a S.length ca,.slice b f.length cb,.slice t P.length ct] 93)).alloc (TC (.slice none 0 0) (.slice none 0 0))):=by
  have s:=(aw w.heap.size w).alloc (ar _) (.cells #[.slice a S.length ca,.slice b f.length cb,.slice t P.length ct] 93);exact s.alloc s.size _
 have SI:Hid (az ((w.alloc (.cells #[.slice a S.length ca,.slice b f.length cb,.slice t P.length ct] 93)).alloc (TC (.slice none 0 0) (.slice none 0 0))) b (F 0)):=by rw[T];exact hb.aa Z
 have xS:Hid (eC ((w.alloc (.cells #[.slice a S.length ca,.slice b f.length cb,.slice t P.length ct] 93)).alloc (TC (.slice none 0 0) (.slice none 0 0))) t (j 0)):=by rw[e0];exact hP.aa Z
 have pq:Hid (bs ((w.alloc (.cells #[.slice a S.length ca,.slice b f.length cb,.slice t P.length ct] 93)).alloc (TC (.slice none 0 0) (.slice none 0 0))) (w.heap.size+1) (.slice none 0 0) (.slice none 0 0)):=bs.at (w:=w.alloc (.cells #[.slice a S.length ca,.slice b f.length cb,.slice t P.length ct] 93)) aE _ _;have HA:=hid Z;have aj:=H0.o.cells.2.1;rw[T] at aj;clear hs hb hP hq hk ho jV aM Z e0 T;go_enter Tryz.func55,Tryz.ntmps55;go_wp2_with fail
 generalize ((w.alloc (.cells #[.slice a S.length ca,.slice b f.length cb,.slice t P.length ct] 93)).alloc (TC (.slice none 0 0) (.slice none 0 0)))=W0 at *;clear aj;go_loopw [12] (fun iv wr=>∃(i:Nat) (l k:Option Addr) (o I:Nat),i<=f.length/\iv=.int .i64 i/\Hid (bt wr w.heap.size (.slice a S.length ca) (.slice l (F i).length o) (.slice k (j i).length I))/\Hid (az wr l (F i))/\Hid (eC wr k (j i))/\Hid (bs wr (w.heap.size+1) (.slice none 0 0) (.slice none 0 0))/\Hid (c8 w wr)) (fun iv _=>f.length - (intOf iv).toNat)
 case atStart=>exact⟨0,_,_,_,_,aS _,rfl,H0,SI,xS,pq,HA⟩
 case round=>
  obtain⟨i,l,k,o,I,hi,rfl,u,HI,HT,R,H⟩:=hrel;clear H0 SI xS pq HA;obtain⟨L,M,O⟩:=u.o.cells;have Ct:=u.o.fz 0;have Cs:=u.o.fz 1;have Cr:=u.o.fz 2;by_cases ae:i<f.length
  ·obtain⟨g,ak,rfl,hg,k0⟩:=Dx.o i ae;replace k0:=(H.o.cell (p:=⟨g,_,none⟩) hg).trans k0;have HC:=hid (je.o f[i]);have ai:=hid (HK.o i ae);have Ks:=hid (H9.o i ae);generalize f[i]=x at *;generalize uo:vars.contains x=cx at *;clear uo;go_wp2_with fail
   refine(HC.o wr H.o).af ?_;rintro e w2 ⟨rfl,z⟩;have V:=hid (H.o.trans (z.af H.o.size));have n:=hid (u.o.aa z u.o.lt);have gS:=hid (HI.o.aa z);have ju:=hid (HT.o.aa z);have fK:=hid (R.o.aa z R.o.lt);clear z u HI HT R H L M O Ct Cs Cr;obtain⟨L,M,O⟩:=n.o.cells;have an:=n.o.lt;cases cx with
   |true=>
    obtain⟨X,Y⟩:=ai.o rfl;rw[<- X] at ju n;rw[<- Y] at gS n;clear X Y;have HX:=hid (And.intro n.o (And.intro gS.o ju.o));go_wp2;go_roundw
    case rel=>exact⟨i+1,_,_,_,_,al,bd,HX.o.1,HX.o.2.1,HX.o.2.2,fK,V⟩
    case measure=>simp[intOf];omega
   |false=>
    have xV:=hid (Ks.o rfl l k o I w2 V.o gS.o ju.o);clear Ks ai;go_wp2_with fail
    refine xV.o.af ?_;rintro e w3 ⟨d,cd,Q,A,rfl,uj,xm,yH,m⟩;have E:=n.o.aa m n.o.lt;have r:=fK.o.aa m fK.o.lt;have J:=V.o.trans (m.af V.o.size);clear L M O;obtain⟨L,M,O⟩:=E.cells;have Ct:=E.fz 0;have Cs:=E.fz 1;have Cr:=E.fz 2;have Kr:=hid (E.put (.slice a S.length ca) (.slice d (F (i+1)).length cd) (.slice Q (j (i+1)).length A));have Io:=hid (uj.putP E (slv _ _ _) (slv _ _ _) (slv _ _ _) (.slice a S.length ca) (.slice d (F (i+1)).length cd) (.slice Q (j (i+1)).length A));have Ki:=hid (xm.putP E (slv _ _ _) (slv _ _ _) (slv _ _ _) (fun g' o' e=>by have:=yH.2 g' o' e;omega) (slv a S.length ca) (slv d (F (i+1)).length cd) (.slice Q (j (i+1)).length A));have uL:=hid (((r.off w.heap.size 0 (.slice a S.length ca) al).off w.heap.size 1 (.slice d (F (i+1)).length cd) al).off w.heap.size 2 (.slice Q (j (i+1)).length A) al);have eE:=hid (bL J (ar _) (.slice a S.length ca) (.slice d (F (i+1)).length cd) (.slice Q (j (i+1)).length A));clear uj xm yH m E r J;go_wp2;go_roundw
    case rel=>exact⟨i+1,_,_,_,_,al,bd,Kr,Io,Ki,uL,eE⟩
    case measure=>simp[intOf];omega
  ·obtain rfl:i=f.length:=al
   have YZ:=hid (tP.o k I wr H.o HT.o);go_wp2_with fail
   refine YZ.o.af ?_;rintro e w3 ⟨x,y,rfl,ab,m⟩;obtain⟨xs,xn,xc,rfl⟩:=ab.slices.1;obtain⟨ys,yn,yc,rfl⟩:=ab.slices.2;have r:=R.o.aa m R.o.lt;have J:=H.o.trans (m.af H.o.size);obtain⟨t0,t1,f0,f1⟩:=r.facts;have sO:=hid (r.put (.slice xs xn xc) (.slice ys yn yc));have Dk:=hid (ab.putT r (slv _ _ _) (slv _ _ _) (slv xs xn xc) (.slice ys yn yc));have eL:=hid (nN (g:=w.heap.size+1) J al (.slice xs xn xc) (.slice ys yn yc));clear ab m r J L M O Ct Cs Cr;go_wp2;refine bD (sO.o.result1 rfl _ rfl) rfl ?_;exact⟨_,_,rfl,Dk.o,eL.o⟩
def jO (S:List Nat):List Nat ->Nat
 |[]=>1
 |v::vs=>sz S v*jO S vs
theorem aaC (h:Pos S):∀l,1<=jO S l
 |[]=>ar _
 |v::l=>Nat.mul_pos (iM h v) (aaC h l)
theorem aaB (h:Pos S):∀(l:List Nat) (k:Nat),jO S (l.take k)<=jO S l
 |[],k=>by rw[List.take_nil];exact ar _
 |v::l,0=>aaC h _
 |v::l,k+1=>l6 _ (aaB h l k)
theorem fH.outs (p:Pos S) (m:Bool) (e:Nat ->Bool):∀(vs:List Nat) {P:List Tb} {D c:Nat},fH S n P D c ->∃d,fH S n (jC S m e vs P) D d/\d<=jO S vs*c
 |[],P,D,c,h=>⟨c,h,by rw[jO,kO];exact ar _⟩
 |v::vs,P,D,c,h=>by
  have g:=iM p v;have f:jO S vs*c<=jO S (v::vs)*c:=j6 _ (B6 _ g);rw[jC];cases hk:e v with
  |true=>
   obtain⟨d,a,b⟩:=fH.outs p m e vs h;exact⟨d,by rw[aA rfl];exact a,aR b f⟩
  |false=>
   cases m with
   |true=>
    obtain⟨d,a,b⟩:=fH.outs p true e vs (h.most p v);exact⟨d,by rw[aB a6];exact a,aR b f⟩
   |false=>
    obtain⟨d,a,b⟩:=fH.outs p false e vs (h.o p v);refine⟨d,by rw[aB a6];exact a,aR b (Nat.le_of_eq ?_)⟩;show jO S vs*(sz S v*c)=sz S v*jO S vs*c;rw[<- iU,dJ (jO S vs)]
theorem UA (S:List Nat) (m:Bool) (e:Nat ->Bool) (v:Nat):∀(vs:List Nat) (P:List Tb),jC S m e (vs++[v]) P=if e v then jC S m e vs P else ml S v m (jC S m e vs P)
 |[],P=>rfl
 |u::vs,P=>by rw[fM,jC,jC,UA S m e v vs]
theorem acn (S:List Nat) (m:Bool) (e:Nat ->Bool):∀(vs:List Nat) (P:List Tb),(jC S m e vs P).length<=P.length+vs.length
 |[],P=>ar _
 |v::vs,P=>by
  rw[jC];refine aR (acn S m e vs _) ?_
  have:(ml S v m P).length<=P.length+1:=by
   rw[ml,dm];exact Nat.add_le_add_right (pJ ..) 1
  split
  ·simp only[eA];omega
  ·simp only[eA];omega
def y4 (keep:Int ->Bool):List Int ->List Int ->List Int
 |[],f=>f
 |x::l,f=>y4 keep l (if keep x then f else bC f x)
theorem Xv (e:Int ->Bool) (x:Int):∀(l f:List Int),y4 e (l++[x]) f=if e x then y4 e l f else bC (y4 e l f) x
 |[],f=>rfl
 |y::l,f=>by rw[fM,y4,y4,Xv e x l]
theorem aeM (e:Int ->Bool):∀(l f:List Int),(y4 e l f).length<=f.length
 |[],f=>ar _
 |x::l,f=>by
  rw[y4];refine aR (aeM e l _) ?_;split
  ·exact ar _
  ·exact pJ ..
theorem PI.gone (p:Pos S) (m:Bool) (k:Nat ->Bool) {F:(Nat ->Nat) ->Rat} (h:PI S n free P F) (d:NN S P) (c:v∈free) (f:¬v∈vs):∃t∈jC S m k vs P,v∈ag t.1:=by
 cases m with
 |false=>
  obtain⟨r,a,b⟩:=PI.outs p k vs h;exact b.sup v ((a v).2 ⟨c,fun e=>absurd e f⟩)
 |true=>
  obtain⟨r,a,b,_⟩:=PI.mosts p k vs h d;exact b.sup v ((a v).2 ⟨c,fun e=>absurd e f⟩)
theorem ab7 (a b t q:Option Addr) (ca cb ct s:Nat) (S:List Nat) (f:List Nat) (vars:List Int) (P:List Tb) (F:(Nat ->Nat) ->Rat) (D c:Nat) (m:Bool) (w:World) (M:eW (iL S)) (L:az w a (iL S)) (J:az w b (iL f)) (I:eC w t P) (K:az w q vars) (A:vars.length<=1000)
  (O:f.Nodup) (V:∀v∈f,v<S.length) (E:PI S S.length f P F) (R:NN S P) (Q:fH S S.length P D c) (Z:P.length+f.length<=999) (Y:2*(B D).size+(B (jO S f*c)).size+2<=8192):
  c6 55 #[.agg #[.slice a S.length ca,.slice b f.length cb,.slice t P.length ct],.slice q vars.length s,.bool m] w fun e w'=>∃x y,e=.returned (.agg #[x,y])/\di w' x y (allT S (jC S m (fun v=>vars.contains (v:Int)) f P))/\c8 w w':=by
 have n:Pos S:=by have:=M.pos;rwa [eM] at this
 have T:∀i,∃d,fH S S.length (jC S m (fun v=>vars.contains (v:Int)) (f.take i) P) D d/\d<=jO S f*c:=fun i=>by
  obtain⟨d,o,p⟩:=fH.outs n m (fun v=>vars.contains (v:Int)) (f.take i) Q;exact⟨d,o,aR p (j6 _ (aaB n _ _))⟩
 obtain⟨cc,U⟩:=Classical.axiomOfChoice T;have r:(iL f).length=f.length:=ba f;have u:∀i (h:i<(iL f).length) (g:i<f.length),(iL f)[i]=(f[i]:Int):=fun i h g=>by simp[iL]
 have j:∀i (g:i<f.length),f.take (i+1)=f.take i++[f[i]]:=fun i g=>fL g
 have:=ajN a b t q ca cb ct s S (iL f) vars P D cc m (fun i=>jC S m (fun v=>vars.contains (v:Int)) (f.take i) P) (fun i=>y4 (fun x=>vars.contains x) (iL (f.take i)) (iL f)) w M L J I K A ⟨rfl,rfl⟩
  (fun i h k=>by
   (have g:i<f.length:=by rw[<- r];exact h);rw[u i h g] at k;refine⟨?_,?_⟩
   ·show jC _ _ _ (f.take (i+1)) _=_;rw[j i g,UA,aA k]
   ·show y4 _ (iL (f.take (i+1))) _=_;rw[j i g,iL,fg,gV,lx,Xv,aA k];rfl)
  (fun i h k=>by
   (have g:i<f.length:=by rw[<- r];exact h);rw[u i h g] at k⊢;refine⟨f[i],rfl,?_,?_,V _ (bB g),PI.gone n m _ E R (bB g) ?_⟩
   ·show jC _ _ _ (f.take (i+1)) _=_;rw[j i g,UA,aB (by rw[k];decide)]
   ·show y4 _ (iL (f.take (i+1))) _=_;rw[j i g,iL,fg,gV,lx,Xv,aB (by rw[k];decide)];rfl
   ·intro z;have l:(f.take (i+1)).Nodup:=O.sublist (List.take_sublist ..);rw[j i g,IL] at l;exact l.2.2 _ z _ (dX.2 rfl) rfl)
  (fun i _=>by
   obtain⟨o,p⟩:=U i;have l:=acn S m (fun v=>vars.contains (v:Int)) (f.take i) P;rw[eX] at l;have H:=aeM (fun x=>vars.contains x) (iL (f.take i)) (iL f);rw[ba] at H;have X:=j8 p;exact⟨o,by show List.length _<=_;omega,by show List.length _<=_;omega,al⟩)
 rw[r] at this;simp only[fD] at this;exact this
def CB (V:List Vr) (L:List (List Int)) (R:List (List Fr)) (l:List (Nat×Nat)):Rat:=bq (fun k=>kC l (aT (ah V) (List.range V.length) k)*jQ V L R (aT (ah V) (List.range V.length) k) V.length) (cnt (ah V) (List.range V.length))
theorem GK.grown {V:World} (h:GK w V x y z) (c:V.grownBy V' (some g)) (b:w.heap.size+2<=g):GK w V' x y z:=
 have a:Below (w.heap.size+2) V V':=(aw _ V).grown c (by have:=h.2.lt;omega) (fun k e=>by cases e;exact b);⟨h.1.grow (a.af al),h.2.aa a al⟩
theorem ak3 (a b c:Option Addr) (ca cb cc v:Nat) (V:List Vr) (L:List (List Int)) (R:List (List Fr)) (w:World) (h:gO w a b c V L R) (hN:vZ w b L) (hs:tK V L R) (hw:∀l∈R,fw l<=4200) (h0:aY V L R=0) (hv:v<V.length) (xD:∀U:World,gO U a b c V L R ->c6 69 #[.agg #[.slice a V.length ca,.slice b L.length cb,.slice c R.length cc]] U fun e w'=>e=.returned (.int .i64 (aY V L R))/\c8 U w'):
  c6 90 #[.agg #[.slice a V.length ca,.slice b L.length cb,.slice c R.length cc],.int .i64 (v:Nat)] w fun e w'=>vV w.heap.size (gU L v) (gL V L R v) 0 e w'/\c8 w w':=by
 have Q:=gD h0;have EN:=hs.vars.1;have b1:=Q.n8;have q:v<L.length:=by rw[Q.len];exact hv
 have kX:v<R.length:=by rw[Q.lenR];exact hv
 have nE:=Q.up v q;have aj:=acX h0 q;have Y6:=hid xD;rw[h0] at Y6;have YN:Hid ((([(v:Int)]++L[v]).mergeSort fun x y=>decide (x<=y))=gU L v):=aaY q nE aj;have Zn:Hid (([(v:Int)]++L[v]).length=(gU L v).length):=by show _=_;rw[<- YN.o,O6]
 have bb:gU L v=kT L[v] [(v:Int)]:=by rw[gU,List.getD_eq_getElem?_getD,List.getElem?_eq_getElem q];rfl
 have p9:Hid (Up (gU L v) V.length):=by rw[bb];exact I0 nE (Tx hv)
 have bP:Hid (0<(gU L v).length):=by show _<_;rw[<- Zn.o];simp
 have aM:=Q.fine;have fh:∀u,sz (ah V) u<=4:=fun u=>by have:=aM.sz_le u;rwa [eM] at this
 have dG:Pos (ah V):=by have:=aM.pos;rwa [eM] at this
 have b3:cnt (ah V) (ag (gU L v))<=65536:=qL fh (by rw[cV];have:=p9.o.length;omega);have jK:Hid ((gL V L R v).length=cnt (ah V) (ag (gU L v))):=by show _=_;simp[gL]
 have a8:R[v].length=(gL V L R v).length:=by rw[jK.o,apc _ q nE aj];exact Q.rows v q kX
 have zN:Hid (∀k (h:k<(gL V L R v).length),(gL V L R v)[k]=qF (aW (ei V L R (aT (ah V) (ag (gU L v)) k) v))):=fun k h=>by simp[gL]
 have xX:Hid (∀K,K<cnt (ah V) (ag (gU L v)) ->(ei V L R (aT (ah V) (ag (gU L v)) K) v).2.1.size+(ei V L R (aT (ah V) (ag (gU L v)) K) v).2.2.size<=4200):=fun K hK=>Ve Q (fun u=>o6 dG _ K u hK) hw hv
 have ir:Hid (∀(K:Nat) (U:World) (G:Nat),K<cnt (ah V) (ag (gU L v)) ->gO U a b c V L R ->cC U G (rk V.length (aT (ah V) (ag (gU L v)) K)) ->c6 137 #[.agg #[.slice a V.length ca,.slice b L.length cb,.slice c R.length cc],.int .i64 (v:Nat),.slice (some ⟨G,0,none⟩) V.length V.length] U fun e w'=>e=.returned (dM (ei V L R (aT (ah V) (ag (gU L v)) K) v))/\c8 U w'):=fun K U G hK h1 h2=>by
  rw[LQ q kX];have:=alM a b c (some ⟨G,0,none⟩) ca cb cc V.length v V L R (rk V.length (aT (ah V) (ag (gU L v)) K)) U h1 h2.ints (Gg _ _) b1 hv q kX aM nE (Q.rows v q kX) (aT (ah V) (ag (gU L v)) K) (fun u=>o6 dG _ K u hK) (fun u hu=>TW hu);rwa [Gg] at this
 have bR:(iL (ah V)).length=V.length:=by rw[ba,ix]
 have wj:Hid (∀(U:World) (G D cd K:Nat),K<cnt (ah V) (ag (gU L v)) ->cC U G (ah V) ->az U (some ⟨D,0,none⟩) (gU L v) ->c6 136 #[.slice (some ⟨G,0,none⟩) V.length V.length,.slice (some ⟨D,0,none⟩) (gU L v).length cd,.int .i64 (K:Nat)] U fun e w'=>∃(g:Nat) (cc:Nat),e=.returned (.tuple #[.slice (some ⟨g,0,none⟩) (gU L v).length cc,.int .i64 0])/\U.heap.size<=g/\cC w' g (bX (ah V) (ag (gU L v)) K)/\c8 U w'):=fun U G D cd K hK h1 h2=>by
  have:=ahu (some ⟨G,0,none⟩) (some ⟨D,0,none⟩) V.length cd K (iL (ah V)) (gU L v) U h1.ints h2 aM (by rw[bR];exact p9.o) (by rw[eM];exact hK);rwa [bR,eM] at this
 have Zw:Hid (∀K i (hi:i<(ag (gU L v)).length),(bX (ah V) (ag (gU L v)) K)[i]? =some (aT (ah V) (ag (gU L v)) K (ag (gU L v))[i])):=fun K i hi=>J6 p9.o.nodup hi;have ax:Hid (∀K u,¬u∈ag (gU L v) ->aT (ah V) (ag (gU L v)) K u=0):=fun K u hu=>Dd hu;have eD:=hid (fun (U:World) (hU:uG U a V)=>Qr a b c ca cb cc L.length R.length V U hU EN);have SG:=hid (h.pars v q);have b2:=hs.pars.2 L[v] (bB q);replace b2:L[v].length<=50000:=al
 have wu:=hid (hN v q);obtain⟨r,O,br,cr,rfl,ab,r1, -, -⟩:=h.rows v kX;rw[a8] at r1;have rS:=hid r1;have HI:=hid h;generalize gL V L R v=F at *;generalize gU L v=U at *;obtain⟨f,Z,bl,cl,rfl,gK,p1,fj⟩:=SG.o;have Kz:=hid (wu.o f Z bl _ cl rfl p1);have mQ:=hid p1;have sN:=hid fj;generalize amz:L[v]=pl at *;clear h hs hw h0 Q nE bb aM fh dG bR SG p1 fj amz aj hN wu a8 r1 xD;have cE:=hid (GK.new w (.slice a V.length ca) (.slice (some ⟨f,Z,none⟩) L.length cb) (.slice (some ⟨r,O,none⟩) R.length cc));obtain⟨J,M,P⟩:=cE.o.1.1.cells;go_enter Tryz.func90,Tryz.ntmps90;go_wp2_with fail
 generalize ((w.alloc (NC (.slice a V.length ca) (.slice (some ⟨f,Z,none⟩) L.length cb) (.slice (some ⟨r,O,none⟩) R.length cc))).alloc (TC (.slice none 0 0) (.slice none 0 0)))=w1 at *;refine(Y6.o _ (HI.o.aa cE.o.1.2)).af ?_;rintro e W ⟨rfl,T⟩;have d:=cE.o.step T;clear T cE J M P Y6;obtain⟨J,M,P⟩:=d.1.1.cells;have cp:(0:Int)<=(v:Int):=al
 have oK:(v:Int)<(V.length:Int):=al
 have Zo:=hid d;clear d;go_upto_region 6 with fail
 clear J M P;have qD:decide (V.length<=v)=false:=by simp;exact hv
 have jH:decide ((v:Int)<0)=false:=aE
 simp only[qD,jH,Bool.or_false];go_cut [7,8] from 32 to 42 (fun s t wx=>∃G D cd,s=.slice (some ⟨G,0,none⟩) V.length V.length/\t=.slice (some ⟨D,0,none⟩) U.length cd/\w.heap.size+2<=G/\w.heap.size+2<=D/\cC wx G (ah V)/\az wx (some ⟨D,0,none⟩) U/\GK w wx (.slice a V.length ca) (.slice (some ⟨f,Z,none⟩) L.length cb) (.slice (some ⟨r,O,none⟩) R.length cc))
 case first=>
  have d:=Zo.o;clear Zo;replace d:GK w W.drew (.slice a V.length ca) (.slice (some ⟨f,Z,none⟩) L.length cb) (.slice (some ⟨r,O,none⟩) R.length cc):=⟨⟨d.1.1,d.1.2.drew⟩,d.2⟩;refine iu (S:=fun u=>u.cell? ⟨w.heap.size,0,none⟩=some (.slice a V.length ca)/\u.cell? ⟨w.heap.size,1,none⟩=some (.slice (some ⟨f,Z,none⟩) L.length cb)/\u.cell? ⟨w.heap.size,2,none⟩=some (.slice (some ⟨r,O,none⟩) R.length cc)/\u.cell? ⟨f,Z+v,none⟩=some (.slice bl pl.length cl)) ao ⟨d.1.1.cells.1,d.1.1.cells.2.1,d.1.1.cells.2.2,(d.1.2.cell (p:=⟨f,Z+v,none⟩) gK).trans mQ.o⟩ (fun E=>?_);generalize W.drew=Y at *;refine au 0 (.agg #[.slice a V.length ca,.slice (some ⟨f,Z,none⟩) L.length cb,.slice (some ⟨r,O,none⟩) R.length cc]) ?_;refine au 2 (.int .i64 (v:Nat)) ?_;refine au 4 (.pointer (some ⟨w.heap.size,1,none⟩)) ?_;refine au 5 (.slice (some ⟨f,Z,none⟩) L.length cb) ?_;refine au 6 (.int .i64 (v:Nat)) ?_;refine au 7 (.pointer (some ⟨f,Z+v,none⟩)) ?_;refine au 8 (.slice bl pl.length cl) ?_;refine aI [1,3] (cA ?_ (cA ?_ aH))
  focus
   intro I m;go_simp;refine(eD.o _ (HI.o.aa d.1.2).vars).af ?_;rintro e uS ⟨G,rfl,MP,ad,T⟩;(have yV:w.heap.size+2<=G:=by have:=d.2.lt;omega);replace d:=d.step T;clear E;refine m.o _ _ ⟨d.1.1.cells.1,d.1.1.cells.2.1,d.1.1.cells.2.2,(d.1.2.cell (p:=⟨f,Z+v,none⟩) gK).trans mQ.o⟩ (fun E=>?_);clear m I T MP;refine aI [3] (cA ?_ aH);intro I m;go_simp;have ai:(uS.alloc (.cells #[.int .i64 (v:Int)] 3)).heap[uS.heap.size]? =some (.cells #[.int .i64 (v:Int)] 3 (0,0)):=jg uS _;have bK:G<uS.heap.size:=ad.lt;replace ad:=ad.alloc (.cells #[.int .i64 (v:Int)] 3);(have bx:w.heap.size+2<=uS.heap.size:=by have:=d.2.lt;omega);replace d:=d.step ((aw _ uS).alloc (ar _) (.cells #[.int .i64 (v:Int)] 3));refine m.o _ _ ⟨d.1.1.cells.1,d.1.1.cells.2.1,d.1.1.cells.2.2,(d.1.2.cell (p:=⟨f,Z+v,none⟩) gK).trans mQ.o⟩ (fun ak=>?_);generalize (uS.alloc (.cells #[.int .i64 (v:Int)] 3))=u2 at *;generalize uS.heap.size=gb at *
  rotate_left
  focus
   intro I m;go_simp;have ai:(Y.alloc (.cells #[.int .i64 (v:Int)] 3)).heap[Y.heap.size]? =some (.cells #[.int .i64 (v:Int)] 3 (0,0)):=jg Y _;(have bx:w.heap.size+2<=Y.heap.size:=by have:=d.2.lt;omega);(have bw:Y.heap.size<(Y.alloc (.cells #[.int .i64 (v:Int)] 3)).heap.size:=aE);replace d:=d.step ((aw _ Y).alloc (ar _) (.cells #[.int .i64 (v:Int)] 3));refine m.o _ _ ⟨d.1.1.cells.1,d.1.1.cells.2.1,d.1.1.cells.2.2,(d.1.2.cell (p:=⟨f,Z+v,none⟩) gK).trans mQ.o⟩ (fun ak=>?_);generalize (Y.alloc (.cells #[.int .i64 (v:Int)] 3))=u2 at *;generalize Y.heap.size=gb at *;clear m I E;have E:=ak;clear ak;refine aI [1] (cA ?_ aH);intro I m;go_simp;refine(eD.o _ (HI.o.aa d.1.2).vars).af ?_;rintro e uS ⟨G,rfl,MP,ad,T⟩;(have yV:w.heap.size+2<=G:=by have:=d.2.lt;omega);(have bK:gb<G:=al);replace d:=d.step T;replace ai:=(T.block gb bw).trans ai;refine m.o _ _ ⟨d.1.1.cells.1,d.1.1.cells.2.1,d.1.1.cells.2.2,(d.1.2.cell (p:=⟨f,Z+v,none⟩) gK).trans mQ.o⟩ (fun ak=>?_);clear T MP
  all_goals
   clear m I E;have E:=ak;clear ak;refine aI [9] (cA ?_ aH);intro I m;rw[aA (by rfl)];refine agL _ _ rfl gb (v:Int) pl rfl ai bl cl rfl (sN.o.aa d.1.2) Kz.o al ?_;intro D cap u3 hD b0 a7 ab;have MQ:GK w u3 (.slice a V.length ca) (.slice (some ⟨f,Z,none⟩) L.length cb) (.slice (some ⟨r,O,none⟩) R.length cc):=d.grown ab al;have VR:cC u3 G (ah V):=(ab.block G ad.lt (fun e=>by cases e;omega)).trans ad;(have bT:w.heap.size+2<=D:=by have:=d.2.lt;omega);(have bW:D≠G:=by have:=ad.lt;omega);clear d ad ai ab hD;have d:=MQ;clear MQ E;refine m.o _ _ ⟨d.1.1.cells.1,d.1.1.cells.2.1,d.1.1.cells.2.2,(d.1.2.cell (p:=⟨f,Z+v,none⟩) gK).trans mQ.o⟩ (fun E=>?_);clear m I;refine aI [10] (cA ?_ aH);intro I m;go_simp;refine(aiC D cap ([(v:Int)]++pl) u3 a7 b0 (by simp;omega)).af ?_;rintro e u4 ⟨rfl,bp,ab⟩;rw[YN.o] at bp;have MQ:GK w u4 (.slice a V.length ca) (.slice (some ⟨f,Z,none⟩) L.length cb) (.slice (some ⟨r,O,none⟩) R.length cc):=d.grown ab al;have bI:cC u4 G (ah V):=(ab.block G VR.lt (fun e=>bW (mW e).symm)).trans VR;clear d VR ab a7;have d:=MQ;clear MQ E;refine m.o _ _ ⟨d.1.1.cells.1,d.1.1.cells.2.1,d.1.1.cells.2.2,(d.1.2.cell (p:=⟨f,Z+v,none⟩) gK).trans mQ.o⟩ (fun E=>?_);clear m I;refine au 11 (.slice (some ⟨G,0,none⟩) V.length V.length) ?_;refine au 12 (.slice (some ⟨D,0,none⟩) ([(v:Int)]++pl).length cap) ?_;(try simp only[gE,aP])
   refine dC ao ?_ _;clear E;go_wp2_with fail
   go_meet
   rw[Zn.o];exact⟨G,D,cap,rfl,rfl,yV,bT,bI,bp,d⟩
 case rest=>
 obtain⟨G,D,cd,rfl,rfl,oG,oD,QM,GG,d⟩:=hcut;clear qD jH YN Zn sN mQ Kz eD Zo;have b4:=d.2.lt;obtain⟨J,M,P⟩:=d.1.1.cells;have r2:=(d.1.2.cell (p:=⟨r,O+v,none⟩) ab).trans rS.o;have ch:(v:Int)<(R.length:Int):=al
 obtain⟨i1,kr,wW,b5,b7⟩:=dW Tryz.infoFrac;obtain⟨i0,b6,b8,cf,cg⟩:=dW Tryz.infoInt;have cn:F.length<=65536:=by rw[jK.o];exact b3
 have HG:=hid d;clear d
 go_wp2_with (first
  |(at_make;refine nY _ rfl _ _ 49 rfl wc.heap.size 53 i1 (.agg #[.bool false,.string ⟨#[]⟩,.string ⟨#[]⟩]) 3 Tryz.underlying49 kr wW b5 .i64 .i64 _ _ F.length rfl rfl bd bd (by rw[b7];omega) (by unfold maxLen;omega) (ar _) ?_;intro w3 aO a6;have cj:c8 wc w3:=(aw _ wc).grown a6 (ar _) (fun k e=>by cases e);have Rk:=HG.o.step cj;clear J M P r2;obtain⟨J,M,P⟩:=Rk.1.1.cells)
  |(at_make;refine nY _ rfl _ _ 22 rfl w3.heap.size 3 i0 (.int .i64 0) 1 Tryz.underlying22 b6 b8 cf .i64 .i64 _ _ V.length rfl rfl bd bd (by rw[cg];omega) (by unfold maxLen;omega) (ar _) ?_;intro w4 rE GU))
 have an:=afI aO;rw[adh] at an;have av:=qP rE;rw[CA] at av;have dU:c8 w3 w4:=(aw _ w3).grown GU (ar _) (fun k e=>by cases e);have mF:kD w3 wc.heap.size (List.replicate F.length AZ):=an;have tH:cC w4 w3.heap.size (List.replicate V.length 0):=av;have bu:=mF.lt;have Xo:=cj.trans (dU.af cj.size)
 have e0:List.replicate V.length 0=rk V.length (fun _=>0):=by
  apply qh<;>simp[rk]
 rw[e0] at tH;have a1:=QM.lt
 have bo:D<wc.heap.size:=by
  obtain⟨g',o',e,h2,_⟩:=GG 0 (by have:=bP.o;omega);cases e;exact h2
 have aG:Hid (GV w (.slice a V.length ca) (.slice (some ⟨f,Z,none⟩) L.length cb) (.slice (some ⟨r,O,none⟩) R.length cc) G D wc.heap.size w3.heap.size (ah V) U w4 (List.replicate F.length AZ) (rk V.length (fun _=>0))):=⟨Rk.step dU,QM.aa Xo QM.lt,GG.aa Xo,mF.aa dU mF.lt,tH,oG,oD,a1,bo,bu⟩;clear aO a6 rE GU an av cj dU mF tH bu Xo e0 a1 bo QM GG Rk HG J M P oG oD b4;generalize wc.heap.size=C at *;generalize w3.heap.size=Ab at *;go_wp2_with fail
 go_loopw [56] (fun iv wr=>∃(i:Nat) (A:Nat ->Nat),i<=F.length/\iv=.int .i64 i/\Hid (∀u,¬u∈ag U ->A u=0)/\Hid (GV w (.slice a V.length ca) (.slice (some ⟨f,Z,none⟩) L.length cb) (.slice (some ⟨r,O,none⟩) R.length cc) G D C Ab (ah V) U wr (tk F i) (rk V.length A))) (fun iv _=>F.length - (intOf iv).toNat)
 case atStart=>exact⟨0,fun _=>0,aS _,rfl,fun _ _=>rfl,by rw[acb];exact aG⟩
 case round=>
  obtain⟨i,A,hi,rfl,uV,H⟩:=hrel;clear aG;by_cases ae:i<F.length
  ·have Wd:i<cnt (ah V) (ag U):=by rw[<- jK.o];exact ae
   go_wp2_with fail
   refine(wj.o _ G D cd i Wd H.o.szs H.o.us).af ?_;rintro e u1 ⟨g5,xJ,rfl,bE,Mm,bf⟩;have bN:=H.o.vs.lt;(have bQ:g5≠Ab:=al);have NS:=hid (H.o.step bf);have Io:=hid Mm;clear Mm bf H bE bN;go_wp2_with fail
   go_loopw [68] (fun jv wr=>∃j:Nat,j<=U.length/\jv=.int .i64 j/\Hid (GV w (.slice a V.length ca) (.slice (some ⟨f,Z,none⟩) L.length cb) (.slice (some ⟨r,O,none⟩) R.length cc) G D C Ab (ah V) U wr (tk F i) (rk V.length (Av A (aT (ah V) (ag U) i) (ag U) j)))/\Hid (cC wr g5 (bX (ah V) (ag U) i))) (fun jv _=>U.length - (intOf jv).toNat)
   case atStart=>exact⟨0,aS _,rfl,by rw[alx];exact NS,Io⟩
   case round=>
    obtain⟨j,hj,rfl,H,SN⟩:=hrel;clear NS Io;have Rb:=p9.o.length;by_cases jW:j<U.length
    ·obtain⟨iq,ia⟩:=p9.o.nat jW;(have bm:j<(ag U).length:=by rw[cV];exact jW);have j5:=hid (aly A (aT (ah V) (ag U) i) V.length bm);have Ws:=Zw.o i j bm;rw[qj jW] at j5 Ws;obtain⟨g',o',e, -,cu⟩:=H.o.us j jW;cases e;rw[bM] at cu;generalize U[j].toNat=u at *;rw[<- iq] at cu;clear iq;obtain⟨qC,bk⟩:=mZ.1 Ws;have cv:=SN.o.cell j qC;rw[bk] at cv;have ck:=H.o.vs.cell u (by rw[Gg];exact ia);have cm:=H.o.vs.fz u;generalize aT (ah V) (ag U) i u=z at *;have aN:=hid (H.o.setA u z);rw[j5.o] at aN;have bO:=hid (SN.o.off Ab u (.int .i64 (z:Nat)) bQ);clear Ws bk H SN;go_wp2;go_roundw
     case rel=>exact⟨j+1,al,bd,aN,bO⟩
     case measure=>simp[intOf];omega
    ·obtain rfl:j=U.length:=al
     have X:=H.o;rw[show Av A (aT (ah V) (ag U) i) (ag U) U.length=aT (ah V) (ag U) i by rw[<- cV U];exact alz uV.o (ax.o i)] at X;obtain⟨J,M,P⟩:=X.gk.1.1.cells;have Sd:=hid X;clear X H SN;go_wp2_with fail
     refine(ir.o i _ Ab Wd (HI.o.aa Sd.o.gk.1.2) Sd.o.vs).af ?_;rintro e u3 ⟨rfl,bV⟩;have mM:=hid (Sd.o.step bV);clear J M P bV Sd;have Mr:=zN.o i ae;have bg:=xX.o i Wd;generalize ei V L R (aT (ah V) (ag U) i) v=fr at *;obtain⟨fn,fx,fy⟩:=fr;replace bg:fx.size+fy.size<=4200:=bg;have hq:F[i]=qF (val fn fx fy):=Mr;have HQ:=hid hq;clear Mr hq;go_wp2_with fail
     refine(SY (n:=fn) (x:=fx) (y:=fy) (w:=u3) (val fn fx fy) rfl al).af ?_;rintro e u5 ⟨rfl,jo⟩;have rP:=hid (mM.o.step jo);clear jo mM;have ay:=hid (acd F ae);rw[HQ.o] at ay;obtain⟨k0,k1,k2⟩:=rP.o.cs.cells i (by rw[Uu _ hi];exact ae);have f0:=rP.o.cs.fz (i*3);have f1:=rP.o.cs.fz (i*3+1);have f2:=rP.o.cs.fz (i*3+2);generalize (tk F i)[i]'(by rw[Uu _ hi];exact ae)=zf at *;obtain⟨zn,zx,zy⟩:=zf;simp only at k0 k1 k2;have HP:=hid (rP.o.setC i (qF (val fn fx fy)));rw[ay.o] at HP;generalize val fn fx fy=qq at *;go_wp2;go_roundw
     case rel=>exact⟨i+1,_,al,bd,ax.o i,HP⟩
     case measure=>simp[intOf];omega
  ·obtain rfl:i=F.length:=al
   have X:=H.o;rw[ace] at X;obtain⟨k0,k1,f0,f1⟩:=X.gk.2.facts;have h1:=X.oD;have h2:=X.oDC;clear H;go_wp2;refine bD ((X.gk.2.put _ _).result2 rfl _ rfl) rfl ?_;exact⟨⟨some ⟨D,0,none⟩,some ⟨C,0,none⟩,cd,F.length,rfl,(X.us.far _ _ _ al).far _ _ _ al,((X.cs.off _ _ _ al).off _ _ _ al).fr,eV.at al,eV.at al⟩,nN X.gk.1.2 al _ _⟩
theorem ak6 (a b c:Option Addr) (ca cb cc:Nat) (V:List Vr) (L:List (List Int)) (R:List (List Fr)) (w:World) (h:gO w a b c V L R) (s:tK V L R)
  (ad:L.length=V.length ->R.length=V.length ->bH L=0 ->jB V=0 ->∀U:World,gO U a b c V L R ->c6 115 #[.agg #[.slice a V.length ca,.slice b L.length cb,.slice c R.length cc]] U fun e w'=>e=.returned (.int .i64 (js (iX (ah V) L R) V.length))/\c8 U w'):
  c6 69 #[.agg #[.slice a V.length ca,.slice b L.length cb,.slice c R.length cc]] w (da w (.int .i64 (aY V L R))):=by
 have I:=hid h;have EN:=s.vars.1;have Xd:=s.pars.1;have JM:=s.rows.1;have u:Hid (¬(L.length=V.length/\R.length=V.length) ->aY V L R=8):=fun h=>aB h;have X:Hid (L.length=V.length ->R.length=V.length ->bH L≠0 ->aY V L R=bH L):=fun k n p=>by rw[aY,aA ⟨k,n⟩,aB p]
 have T:Hid (L.length=V.length ->R.length=V.length ->bH L=0 ->jB V≠0 ->aY V L R=jB V):=fun k n p D=>by rw[aY,aA ⟨k,n⟩,aA p,aB D]
 have M:Hid (L.length=V.length ->R.length=V.length ->bH L=0 ->jB V=0 ->aY V L R=js (iX (ah V) L R) V.length):=fun k n p D=>by rw[aY,aA ⟨k,n⟩,aA p,aA D]
 have P:=hid (fun (U:World) (F:fN U b L)=>anP b cb L U F (fun l hl=>by have:=s.pars.2 l hl;omega));have ab:=hid (fun (U:World) (F:uG U a V)=>apt a ca V U F s.vars);have S:=hid ad;generalize aY V L R=ne at *;clear h s ad;have E:=hid (NK.new w (.slice a V.length ca) (.slice b L.length cb) (.slice c R.length cc));obtain⟨f,g,i⟩:=E.o.1.cells;by_cases m:L.length=V.length
 ·by_cases r:R.length=V.length
  ·have J:((L.length:Int) !=(V.length:Int))=false:=by rw[m];simp
   (have O:((R.length:Int) !=(V.length:Int))=false:=by rw[r];simp);have y:=hid (X.o m r);have z:=hid (T.o m r);have x:=hid (M.o m r);have A:=hid (S.o m r);clear m r u X T M S;generalize js (iX (ah V) L R) V.length=fe at *;generalize bH L=ge at *;generalize jB V=Q at *;go_enter Tryz.func69,Tryz.ntmps69;go_wp2_with fail
   generalize (w.alloc (NC (.slice a V.length ca) (.slice b L.length cb) (.slice c R.length cc)))=w1 at *;refine(P.o _ (I.o.aa E.o.2).pars).af ?_;rintro e w2 ⟨rfl,d⟩;have K:=E.o.step d;clear d E f g i J O P;obtain⟨f,g,i⟩:=K.1.cells;by_cases q:ge=0
   ·subst q;have Y:=hid (z.o rfl);have t:=hid (x.o rfl);have Z:=hid (A.o rfl);have j:=hid K;clear y z x A K;go_wp2_with fail
    refine(ab.o _ (I.o.aa j.o.2).vars).af ?_;rintro e w3 ⟨rfl,d⟩;have K:=j.o.step d;clear d j f g i ab;obtain⟨f,g,i⟩:=K.1.cells;by_cases v:Q=0
    ·subst v;have H:=hid (t.o rfl);have ae:=hid (Z.o rfl);have j:=hid K;clear Y t Z K;go_wp2_with fail
     refine(ae.o _ (I.o.aa j.o.2)).af ?_;rintro e w4 ⟨rfl,d⟩;have K:=j.o.step d;clear f g i d;go_wp2;go_ret;exact⟨by rw[H.o];rfl,K.2⟩
    ·have H:=hid (Y.o v);(have vE:(Q==0)=false:=by simpa using v);clear v Y t Z f g i;go_wp2;go_ret;exact⟨by rw[H.o];rfl,K.2⟩
   ·have H:=hid (y.o q);(have ai:(ge==0)=false:=by simpa using q);clear q y z x A f g i;go_wp2;go_ret;exact⟨by rw[H.o];rfl,K.2⟩
  ·have H:=hid (u.o fun h=>r h.2);(have J:((L.length:Int) !=(V.length:Int))=false:=by rw[m];simp)
   have O:((R.length:Int) !=(V.length:Int))=true:=by
    (have:¬(R.length:Int)=(V.length:Int):=al);simpa using this
   clear m r u S;go_enter Tryz.func69,Tryz.ntmps69;go_wp2;go_ret;exact⟨by rw[H.o];rfl,E.o.2⟩
 ·have H:=hid (u.o fun h=>m h.1)
  have J:((L.length:Int) !=(V.length:Int))=true:=by
   (have:¬(L.length:Int)=(V.length:Int):=al);simpa using this
  clear m u S;go_enter Tryz.func69,Tryz.ntmps69;go_wp2;go_ret;exact⟨by rw[H.o];rfl,E.o.2⟩
section
attribute [local go_sem] Oper.semAt_some
def A9 (Bs Bk B:Nat) (V V':World):Prop:=pg Bs V V'/\pg Bk V V'/\Below B V V'
theorem A9.t {s a B:Nat} {X Y Z:World} (h:A9 s a B X Y) (k:A9 s a B Y Z):A9 s a B X Z:=⟨h.1.t k.1,h.2.1.t k.2.1,h.2.2.trans k.2.2⟩
theorem A9.b {s k B:Nat} (f:s<w.heap.size) (e:k<w.heap.size) (d:B<=w.heap.size) (V:World) (l:Nat) (o o':Obj) (c:w.heap.size<=l) (h1:V.heap[l]? =some o) (h:o.isCells=false) (a:o.isWalk=false):A9 s k B V (V.putObj l o'):=
 ⟨pg.b f V l o o' c h1 h a,pg.b e V l o o' c h1 h a,uZ d V l o o' c h1 h a⟩
theorem grown_drew (w:World):w.grownBy w.drew none:=⟨rfl,rfl,rfl,ar _,fun _ _ _=>rfl⟩
abbrev BM (N:Nat):Type:= {i:Nat//i<N}
abbrev X6 (gf dr k N:Nat) (x:BM N):Array Value:= #[.slice (some ⟨gf,dr+x.1*k*3,none⟩) k k]
theorem apr (n:Nat) (hn:1<=n) (l s a B gf d cap k N T:Nat) (h:T=N*k) (hk:1<=k) (aj:k<=4) (M:N<=65536) (sG:T<=cap) (J g:List (BM N) ->World ->Prop) (K:∀p V,J p V ->J p V.drew)
  (P:∀p x V,J p V ->p.length< N ->YieldAt Fence.wide (n - 1) Tryz.prog l (X6 gf d k N x) V fun e V'=>
   (e=.returned (.bool true)/\J (p++[x]) V'/\A9 s a B V V')∨(e=.returned (.bool false)/\g (p++[x]) V'))
  (V:World) (X:V.cell? ⟨s,0,none⟩=some (.slice (some ⟨gf,d,none⟩) T cap)) (Q:V.cell? ⟨a,0,none⟩=some (.int .i64 (k:Nat))) (h0:J [] V):
  CallsIn Fence.wide n Tryz.prog 211 #[.func (.yield l) #[] #[],.pointer (some ⟨s,0,none⟩),.pointer (some ⟨a,0,none⟩)] V fun e V'=>(∃v,e=.returned v)/\
   ((∃y:List (BM N),y.map (·.1)=List.range N/\J y V')∨(∃p:List (BM N),(∃j,j<=N/\p.map (·.1)=List.range j)/\g p V')):=by
 refine IG Tryz.func211 rfl trivial ?_ rfl;simp only[Tryz.ntmps211,od,eA,mg,Nat.reduceAdd,Nat.reduceSub,oz,ow,oh,ng,iI,fM];have D:=hid h;have WV:T<=262144:=by rw[h];exact aR (iH M aj) a6
 clear h;gi_wp2
 gi_loopw [4] (fun i wr=>∃(j:Nat) (p:List (BM N)),j<=N/\i=.int .i64 (j*k:Nat)/\Hid (p.map (·.1)=List.range j)/\J p wr/\wr.cell? ⟨s,0,none⟩=some (.slice (some ⟨gf,d,none⟩) T cap)/\wr.cell? ⟨a,0,none⟩=some (.int .i64 (k:Nat)))
  (fun i _=>T - (intOf i).toNat)
 case atStart=>exact⟨0,[],aS _,by rw[mX];rfl,rfl,h0,X,Q⟩
 case round=>
  obtain⟨j,p,hj,rfl,H,c,q,w⟩:=hrel;by_cases t:j<N
  ·have ax:p.length=j:=by have:=bU List.length H.o;rwa [dD,ly] at this
   (have S:Hid ((p++[(⟨j,t⟩:BM N)]).map (·.1)=List.range (j+1)):=by show _=_;rw[fg,H.o,sV];rfl);(have E:(j+1)*k<=T:=by rw[D.o];exact j6 k t);(have m:(j+1)*k=j*k+k:=by rw[gC,kO]);have F:Hid ((j+1)*k=j*k+k):=m;(have av:j*k+k<=T:=al);have Y:Hid (j*k=j*k):=rfl;clear m E;have L:=fun W O=>P p ⟨j,t⟩ W O al;simp only[X6] at L;generalize Xk:j*k=lo at *;have Z:=hid L;clear L Y;have an:=hid Xk;clear Xk;(have aq:¬cap=lo:=al);(have jm:lo<=T:=al);(have aa:min (k:Int) ((T - lo:Nat):Int)=(k:Int):=al);gi_wp2
   gi_region
   have ai:=K p wr c;have r:wr.drew.cell? ⟨s,0,none⟩=some (.slice (some ⟨gf,d,none⟩) T cap):=q;have u:wr.drew.cell? ⟨a,0,none⟩=some (.int .i64 (k:Nat)):=w;clear q w c aa;generalize wr.drew=U at *;obtain⟨fn,aO,aQ,aM,hy,R⟩:=Z.o U ai;have A:=hid R;clear R;(have ay:IntKind.i64.wrap ((lo:Int)+(k:Int))=((lo+k:Nat):Int):=by rw[dE];omega);(have qD:(lo+k:Nat) - lo=k:=al);(have aE:((lo+k:Nat):Int)<=(cap:Int):=al);generalize Q3:lo+k=b at *;(have aG:lo<=b:=al);have I:=hid Q3;clear Q3;gi_wp2
   refine A.o.af ?_;rintro e W3 (⟨rfl,ae,f⟩ |⟨rfl,ak⟩)
   ·have ab:=Eq.trans f.1 r;have ad:=Eq.trans f.2.1 u;have z:Hid ((j+1)*k=b):=F.o;(have aN:lo<b:=by have:=I.o;omega);(have ao:b<=T:=by have:=I.o;omega);clear r u f;gi_wp2
    go_roundw
    case rel=>exact⟨j+1,_,al,by rw[z.o],S,ae,ab,ad⟩
    case measure=>simp[intOf];omega
   ·gi_wp2
    refine bD (results_none rfl _ _ _) rfl ?_;exact⟨⟨_,rfl⟩,.inr ⟨_,⟨j+1,al,S.o⟩,ak⟩⟩
  ·obtain rfl:j=N:=al
   rw[<- D.o];gi_wp2
   go_end0
   exact⟨⟨_,rfl⟩,.inl ⟨_,H.o,c⟩⟩
theorem apq (n:Nat) (a:Option Addr) (T cap k:Nat) (h:1<=k) (w:World):
  CallsIn Fence.wide n Tryz.prog 160 #[.slice a T cap,.int .i64 (k:Nat)] w fun e w'=>e=.returned (.func (.func 211) #[] #[.pointer (some ⟨w.heap.size,0,none⟩),.pointer (some ⟨w.heap.size+1,0,none⟩)])/\w'=(w.alloc (.cells #[.slice a T cap] 49)).alloc (.cells #[.int .i64 (k:Nat)] 3):=by
 refine IG Tryz.func160 rfl trivial ?_ rfl;simp only[Tryz.ntmps160,od,eA,mg,Nat.reduceAdd,Nat.reduceSub,oz,ow,oh,ng,iI,fM];have b:(1:Int)<=(k:Int):=al
 gi_wp2
 go_ret;exact⟨rfl,rfl⟩
theorem apo (n:Nat) (t:1<=n) (s a B gf d cap k N T:Nat) (m:T=N*k) (q:1<=k) (z:k<=4) (i:N<=65536) (u:T<=cap) (w:World) (y:s<w.heap.size) (Q:a<w.heap.size) (h1:w.cell? ⟨s,0,none⟩=some (.slice (some ⟨gf,d,none⟩) T cap)) (f:w.cell? ⟨a,0,none⟩=some (.int .i64 (k:Nat))):
  SeqStopsK Fence.wide n Tryz.prog 211 #[.pointer (some ⟨s,0,none⟩),.pointer (some ⟨a,0,none⟩)] (X6 gf d k N) (A9 s a B) (fun v=>v.map (·.1)=List.range N) (fun b=>∃j,j<=N/\b.map (·.1)=List.range j) N w:=fun l J x V h g _ Y c=>
 apr n t l s a B gf d cap k N T m q z i u J x (fun b U o=>g b U U.drew none o (grown_drew U) (fun r e=>by cases e)) Y V ((h.cell (p:=⟨s,0,none⟩) y).trans h1) ((h.cell (p:=⟨a,0,none⟩) Q).trans f) c
end
section
attribute [local go_sem] Oper.semAt_some
variable {ds:List Deferred}
theorem T4 {k:Int} (h:Boxed w g 46 (.int .i64 k)) {p:Tmp} (r:fn.results= #[.cell p 46]) (m:Array Value) (a:m.getD p undef=.pointer (some ⟨g,0,none⟩)):(results fn m).run Tryz.prog w=.ok (.int .i64 k) w:=by
 have b:m[p]?.getD undef=.pointer (some ⟨g,0,none⟩):=by simpa using a
 have c:=h.cell;simp only[results,r];simp[b,asAddr];go_simp
theorem afM {V:World} (h:c8 V V'):KeepsOthers V V':=⟨h.size,fun k _ a _=>(h.block k (dS.1 a).1).trans a⟩
theorem aj8 {β:Type} {n B:Nat} {Q:β ->World ->Prop} (c:n<=B):OwnFrom B (fun (s:β) W=>∃V,Q s V/\n<=V.heap.size/\Below n V W):=fun s W W' o d g r=>by
 obtain⟨V,b,h,a⟩:=d;exact⟨V,b,h,a.grown g (aR h a.size) (fun k e=>aR c (r k e).1)⟩
def pG (w:World) (k:Int) (W:World):Prop:=Boxed W (w.heap.size+1) 46 (.int .i64 k)/\c8 w W
theorem pG.shut {k:Int} (l:w.heap.size+1<lo) (W:World) (r:Nat) (h:pG w k W) (a:lo<=r) (d:W.heap[r]? =some (.deferred (some []))):pG w k (W.putObj r (.deferred none)):=
 ⟨(zW al).trans h.1,h.2.trans (uZ (w:=w) (ar _) W r _ _ al d rfl rfl)⟩
theorem pG.put {W:World} {k:Int} (h:pG w k W) (j:Int):pG w j (W.setCell ⟨w.heap.size+1,0,none⟩ (.int .i64 j)):=⟨h.1.set _,h.2.setCell (p:=⟨w.heap.size+1,0,none⟩) aE _⟩
theorem Shut.put {B:Nat} {W:World} (h:Shut lo B ds W) (i:g<lo) (v:Value):Shut lo B ds (W.setCell ⟨g,0,none⟩ v):=by
 induction ds generalizing B with
 |nil=>trivial
 |cons d ds ih=>
  obtain⟨r,a,b,c,e,f⟩:=h;exact⟨r,a,b,c,(iJ W ⟨g,0,none⟩ v r (by show r≠g;omega)).trans e,ih f⟩
theorem apu (a b c:Option Addr) (ca cb cc:Nat) (V:List Vr) (L:List (List Int)) (R:List (List Fr)) (w:World) (h:gO w a b c V L R) (hs:tK V L R) (mG:L.length=V.length) (rI:R.length=V.length) (hg:bH L=0) (hv:jB V=0):
  c6 115 #[.agg #[.slice a V.length ca,.slice b L.length cb,.slice c R.length cc]] w (da w (.int .i64 (js (iX (ah V) L R) V.length))):=by
 refine(iG (n:=6)).1 ?_;obtain⟨aM,b4,M⟩:=XK mG hg hv;have HI:=hid h;have EN:=hs.vars.1;have zw:=hid hs.rows.2;have bI:=hid aM;have gP:=hid M;have eD:=hid (fun (U:World) (hU:uG U a V)=>Qr a b c ca cb cc L.length R.length V U hU EN);have HA:Hid (∀i,i<V.length ->(∀j,j< i ->iX (ah V) L R j=0) ->∀k,iX (ah V) L R i=k ->k≠0 ->js (iX (ah V) L R) V.length=k):=fun i S hz k hk bw=>by rw[Da hz (by rw[hk];exact bw) S,hk]
 have HZ:Hid ((∀j,j<V.length ->iX (ah V) L R j=0) ->js (iX (ah V) L R) V.length=0):=fun h=>xH h;have wC:=hid mG;have rR:=hid rI;generalize js (iX (ah V) L R) V.length=fe at *;clear h hs aM M mG rI hg hv;have MM:NK w ((w.alloc (NC (.slice a V.length ca) (.slice b L.length cb) (.slice c R.length cc))).alloc (.cells #[.int .i64 0] 46)) (.slice a V.length ca) (.slice b L.length cb) (.slice c R.length cc):=(NK.new w (.slice a V.length ca) (.slice b L.length cb) (.slice c R.length cc)).step ((aw _ _).alloc (ar _) _)
 have aN:Boxed ((w.alloc (NC (.slice a V.length ca) (.slice b L.length cb) (.slice c R.length cc))).alloc (.cells #[.int .i64 0] 46)) (w.heap.size+1) 46 (.int .i64 0):=by
  have h:=bh (w.alloc (NC (.slice a V.length ca) (.slice b L.length cb) (.slice c R.length cc))) 46 (.int .i64 0);rwa [cU] at h
 have cE:=hid MM;have OD:=hid aN;obtain⟨c0,c1,c2⟩:=MM.1.cells;clear MM aN;refine uY Tryz.func115 rfl trivial ?_ rfl;simp only[Tryz.ntmps115,od,eA,mg,Nat.reduceAdd,Nat.reduceSub,oz,ow,oh,ng,iI,fM];gi_wp2_with (refine⟨trivial,?_⟩;gi_at_call 40;refine(iG.2 (eD.o _ (HI.o.aa cE.o.2).vars)).af ?_;rintro e s ⟨G,rfl,MP,bg,g⟩;have aj:=cE.o.step g;have Xm:=(g.block (w.heap.size+1) (dS.1 OD.o).1).trans OD.o;clear c0 c1 c2;obtain⟨c0,c1,c2⟩:=aj.1.cells)
 clear g;have qf:=hid aj;have eP:Hid (Boxed s (w.heap.size+1) 46 (.int .i64 0)):=Xm;have N2:=hid bg;have Rl:w.heap.size+1<s.heap.size:=(dS.1 Xm).1;clear aj Xm bg c0 c1 c2 cE OD eD MP;refine wpIn_loop (fun a' w'=>∃(v:Nat) (ds:List Deferred) (u4 u5 u6 u7 u15 u16 Le Ld IZ u20 u21 u22 u23 u24 Lc u26 Lb u28 Cl La K9 u32 u33 u34 u35 u36 u37 u38 u39 u40 u41 u42 IY Ty:Value),a'= {tmps:= #[.agg #[.slice a V.length ca,.slice b L.length cb,.slice c R.length cc],.pointer (some ⟨w.heap.size,0,none⟩),.pointer (some ⟨w.heap.size+1,0,none⟩),.slice (some ⟨G,0,none⟩) V.length V.length,u4,u5,u6,u7,undef,.agg #[.slice a V.length ca,.slice b L.length cb,.slice c R.length cc],.slice (some ⟨G,0,none⟩) V.length V.length,.pointer (some ⟨w.heap.size,2,none⟩),.slice c R.length cc,.int .i64 (R.length:Nat),.int .i64 (v:Nat),u15,u16,Le,Ld,IZ,u20,u21,u22,u23,u24,Lc,u26,Lb,u28,Cl,La,K9,u32,u33,u34,u35,u36,u37,u38,u39,u40,u41,u42,IY,undef,undef,undef,undef,Ty],defers:=ds}/\v<=R.length/\Hid (∀j,j< v ->iX (ah V) L R j=0)/\Hid (c8 s w')/\Hid (Shut s.heap.size w'.heap.size ds w')) (fun a' _=>R.length - (intOf (a'.tmps.getD 14 undef)).toNat) ?_ ?_
 ·exact⟨0,[],_,_,_,_,_,_,_,_,_,_,_,_,_,_,_,_,_,_,_,_,_,_,_,_,_,_,_,_,_,_,_,_,_,_,rfl,aS _,(fun j hj=>absurd hj al),aw _ _,trivial⟩
 intro a' wr bT;obtain⟨v,ds,u4,u5,u6,u7,u15,u16,Le,Ld,IZ,u20,u21,u22,u23,u24,Lc,u26,Lb,u28,Cl,La,K9,u32,u33,u34,u35,u36,u37,u38,u39,u40,u41,u42,IY,Ty,rfl,hv,NJ,H,po⟩:=bT;have bE:s.heap.size<=wr.heap.size:=H.o.size;by_cases ad:v<R.length
 ·have A:=qf.o.step H.o;have J:=N2.o.aa H.o N2.o.lt;have eo:v<L.length:=by rw[wC.o, <- rR.o];exact ad
  have wZ:v<V.length:=by rw[<- rR.o];exact ad
  obtain⟨gr,dO,bf,q,rfl,bu,r1,ug,Ey⟩:=HI.o.rows v ad;obtain⟨gp,dZ,bp,cp,rfl,gK,p1,fj⟩:=HI.o.pars v eo;obtain⟨c0,c1,c2⟩:=A.1.cells;have r2:=(A.2.cell (p:=⟨gr,dO+v,none⟩) bu).trans r1;have p2:=(A.2.cell (p:=⟨gp,dZ+v,none⟩) gK).trans p1;have O:(ah V).length=V.length:=ix V;have M:Up L[v] V.length:=by rw[<- wC.o];exact gP.o v eo
  have fh:∀u,sz (ah V) u<=4:=fun u=>by have:=bI.o.sz_le u;rwa [eM] at this
  have dG:Pos (ah V):=by have:=bI.o.pos;rwa [eM] at this
  have hN:cnt (ah V) (ag L[v])<=65536:=qL fh (by rw[cV];have:=M.length;have:=wC.o;omega);have xB:1<=cnt (ah V) (ag L[v]):=A3 dG _;have a7:=fh v;have xu:=iM dG v;have uf:=J.cell v (by rw[O];exact wZ);have Ew:(ah V)[v]'(by rw[O];exact wZ)=sz (ah V) v:=by rw[sz,List.getElem?_eq_getElem (by rw[O];exact wZ)];rfl
  rw[Ew] at uf;have b5:=M.length
  have je:Hid (CallsIn Fence.wide 5 Tryz.prog 41 #[.slice (some ⟨G,0,none⟩) V.length V.length,.slice bp L[v].length cp] wr fun e w'=>e=.returned (.tuple #[.int .i64 (cnt (ah V) (ag L[v]):Nat),.int .i64 0])/\c8 wr w'):=by
   have br:countB (iL (ah V)) L[v]=true:=Hi bI.o (by rw[ba,O];exact M);have hc:=Px (some ⟨G,0,none⟩) bp V.length cp (iL (ah V)) L[v] wr J.ints (fj.aa A.2) (by rw[ba,O];have:=wC.o;omega) (by have:=wC.o;omega);rw[Hj br,eM,ba,O] at hc;exact iG.2 hc
  have H5:Hid (iX (ah V) L R v=if R[v].length=cnt (ah V) (ag L[v])*sz (ah V) v then(if ((List.range (cnt (ah V) (ag L[v]))).all fun i=>gY (eJ R[v] (sz (ah V) v) i))=true then 0 else 9) else 8):=by
   show _=_;rw[iX,List.getD_eq_getElem?_getD,List.getElem?_eq_getElem ad,List.getD_eq_getElem?_getD,List.getElem?_eq_getElem eo];rfl
  have Bz:=hid (ug.aa A.2);have yE:=zw.o R[v] (bB ad);have ax:=hid (HA.o v wZ NJ.o);generalize L[v]=pl at *;generalize R[v]=r at *;have GR:pl.length<=8:=by have:=wC.o;omega
  clear ug r1 p1 fj M fh dG Ew O;generalize hkk:sz (ah V) v=k at *;generalize cnt (ah V) (ag pl)=N at *;clear hkk;have MI:N*k<=262144:=aR (iH hN a7) a6;have aq:(N:Int)*(k:Int)=((N*k:Nat):Int):=(jl _ _).symm;have bO:IntKind.i64.wrap ((N:Int)*(k:Int))=((N*k:Nat):Int):=by rw[aq,dE];omega
  have KE:=hid aq;clear aq;by_cases hT:r.length=N*k
  ·rw[aA hT] at H5;rw[<- hT] at bO;have bx:k<=N*k:=B6 k xB;(have kp:0<r.length:=al);obtain⟨f,dr,rfl,CU, -⟩:=Bz.o 0 kp;have Dl:=hid hT;clear hT MI bx;have b2:r.length<=5000:=yE.1;(have bK:((r.length:Int) !=(r.length:Int))=false:=aE)
   gi_wp2_with (first
    |(refine⟨trivial,?_⟩;gi_at_call 41;refine je.o.af ?_;rintro e d ⟨rfl,g⟩;have ai:=A.step g;have bN:=J.aa g J.lt;have ay:=(g.cell (p:=⟨G,v,none⟩) J.lt).trans uf;clear c0 c1 c2 r2 p2 uf)
    |(refine⟨trivial,?_⟩;gi_at_call 160;refine(apq _ _ _ _ k xu _).af ?_;rintro e y ⟨rfl,rfl⟩))
   (have b0:((d.alloc (.cells #[.slice (some ⟨f,dr,none⟩) r.length q] 49)).alloc (.cells #[.int .i64 (k:Nat)] 3)).heap.size=d.heap.size+1+1:=aE);have ak:((d.alloc (.cells #[.slice (some ⟨f,dr,none⟩) r.length q] 49)).alloc (.cells #[.int .i64 (k:Nat)] 3)).cell? ⟨d.heap.size,0,none⟩=some (.slice (some ⟨f,dr,none⟩) r.length q):=((bh d 49 (.slice (some ⟨f,dr,none⟩) r.length q)).alloc _).cell
   have an:((d.alloc (.cells #[.slice (some ⟨f,dr,none⟩) r.length q] 49)).alloc (.cells #[.int .i64 (k:Nat)] 3)).cell? ⟨d.heap.size+1,0,none⟩=some (.int .i64 (k:Nat)):=by
    have h:=(bh (d.alloc (.cells #[.slice (some ⟨f,dr,none⟩) r.length q] 49)) 3 (.int .i64 (k:Nat))).cell;rwa [cU] at h
   have WD:c8 d ((d.alloc (.cells #[.slice (some ⟨f,dr,none⟩) r.length q] 49)).alloc (.cells #[.int .i64 (k:Nat)] 3)):=((aw _ d).alloc (ar _) _).alloc aE _;generalize ((d.alloc (.cells #[.slice (some ⟨f,dr,none⟩) r.length q] 49)).alloc (.cells #[.int .i64 (k:Nat)] 3))=y at *;have fh:=g.size;have Xf:=ai.step WD;have pS:c8 wr y:=g.trans (WD.af fh);have bk:=hid (Bz.o.aa pS);have aG:=hid ((po.o.aa pS).af (show wr.heap.size<=y.heap.size by omega));have BI:Hid (pG w 0 y):=⟨(pS.block (w.heap.size+1) al).trans ((H.o.block (w.heap.size+1) Rl).trans eP.o),Xf.2⟩;have Oq:=hid Xf;have eE:=hid (H.o.trans (pS.af bE));clear g ai bN ay WD A J Xf je N2 H po Bz pS
   refine KJ (α:=BM N) rfl al (gf:=211) (lb:= #[.pointer (some ⟨d.heap.size,0,none⟩),.pointer (some ⟨d.heap.size+1,0,none⟩)]) rfl trivial (enters_of Tryz.func211 ao rfl)
    (apo 5 al d.heap.size (d.heap.size+1) y.heap.size f dr q k N r.length Dl.o xu a7 hN Ey y al al ak an) A9.t (A9.b al al (ar _)) (aw _ _) (fun _=>rfl)
    (fun (T:List (BM N)) X=>c8 y X/\∀x∈T,gY (eJ r k x.1)=true)
    (fun cd (T:List (BM N)) X=>∃Y,(cd=Code.ret/\(∃x∈T,gY (eJ r k x.1)=false)/\pG w 9 Y/\Shut s.heap.size y.heap.size ds Y)/\y.heap.size<=Y.heap.size/\Below y.heap.size Y X)
    (eZ (zV (ar _) (ar _)) (fun _ _ _ _ hs _ _=>hs))
    (fun cd=>aj8 (Q:=fun (T:List (BM N)) Y=>cd=Code.ret/\(∃x∈T,gY (eJ r k x.1)=false)/\pG w 9 Y/\Shut s.heap.size y.heap.size ds Y) (ar _))
    ⟨aw _ _,fun x z=>absurd z aE⟩
    (fun x=> {tmps:= #[.agg #[.slice a V.length ca,.slice (some ⟨gp,dZ,none⟩) L.length cb,.slice (some ⟨gr,dO,none⟩) R.length cc],.pointer (some ⟨w.heap.size,0,none⟩),.pointer (some ⟨w.heap.size+1,0,none⟩),.slice (some ⟨G,0,none⟩) V.length V.length,.int .i64 (v:Nat),.slice (some ⟨f,dr,none⟩) r.length q,.int .i64 (N:Nat),.int .i64 0,.slice (some ⟨f,dr+x.1*k*3,none⟩) k k,.agg #[.slice a V.length ca,.slice (some ⟨gp,dZ,none⟩) L.length cb,.slice (some ⟨gr,dO,none⟩) R.length cc],.slice (some ⟨G,0,none⟩) V.length V.length,.pointer (some ⟨w.heap.size,2,none⟩),.slice (some ⟨gr,dO,none⟩) R.length cc,.int .i64 (R.length:Nat),.int .i64 (v:Nat),.bool true,.int .i64 (v:Nat),.pointer (some ⟨gr,dO+v,none⟩),.slice (some ⟨f,dr,none⟩) r.length q,.tuple #[.int .i64 (N:Nat),.int .i64 0],.slice (some ⟨G,0,none⟩) V.length V.length,.pointer (some ⟨w.heap.size,1,none⟩),.slice (some ⟨gp,dZ,none⟩) L.length cb,.int .i64 (v:Nat),.pointer (some ⟨gp,dZ+v,none⟩),.slice bp pl.length cp,.tuple #[.int .i64 (N:Nat),.int .i64 0],.int .i64 (N:Nat),.int .i64 0,.slice (some ⟨f,dr,none⟩) r.length q,.int .i64 (r.length:Nat),.int .i64 (N:Nat),.slice (some ⟨G,0,none⟩) V.length V.length,.int .i64 (v:Nat),.pointer (some ⟨G,v,none⟩),.int .i64 (k:Nat),.int .i64 (r.length:Nat),.bool false,.slice (some ⟨f,dr,none⟩) r.length q,.slice (some ⟨G,0,none⟩) V.length V.length,.int .i64 (v:Nat),.pointer (some ⟨G,v,none⟩),.int .i64 (k:Nat),.func (.func 211) #[] #[.pointer (some ⟨d.heap.size,0,none⟩),.pointer (some ⟨d.heap.size+1,0,none⟩)],.slice (some ⟨f,dr+x.1*k*3,none⟩) k k,undef,undef,undef,Ty],defers:=[]}) ?assign ?body ?done ?stop
   case assign=>
    intro l x X K I;gi_wp2
    exact I
   case body=>
    rintro l T ⟨i,S⟩ X ⟨E,ae⟩ bV;(have bd:(i+1)*k<=r.length:=by rw[Dl.o];exact j6 k S);obtain⟨a1,bb⟩:=cG.chunk (m:=k) (bk.o.aa E) bd rfl;have Wb:=alZ (some ⟨f,dr+i*k*3,none⟩) k (eJ r k i) X a1 (aR (aeT r k i) yE.2) al;rw[bb] at Wb;have WM:=E.size;have xZ:=hid Wb;have qY:=hid E;have rX:=hid ae;clear Wb a1 bb bd E ae ak an bV;cases nG:gY (eJ r k i)
    case true=>
     rw[nG] at xZ;have Fu:=hid nG;clear nG;gi_wp2_with (refine⟨trivial,?_⟩;gi_at_call 161;refine(Pd l (iG.2 xZ.o)).af ?_;rintro e X2 ⟨rfl,F⟩)
     refine⟨(afM F).from _,⟨F.cell (p:=⟨d.heap.size,0,none⟩) (by show d.heap.size<X.heap.size;omega),F.cell (p:=⟨d.heap.size+1,0,none⟩) (by show d.heap.size+1<X.heap.size;omega),F.af WM⟩,qY.o.trans (F.af WM),fun x z=>?_⟩;rcases dh.1 z with z |z
     ·exact rX.o x z
     ·rw[dX.1 z];exact Fu.o
    case false=>
     rw[nG] at xZ;have Fu:=hid nG;clear nG;gi_wp2_with (refine⟨trivial,?_⟩;gi_at_call 161;refine(Pd l (iG.2 xZ.o)).af ?_;rintro e X2 ⟨rfl,F⟩;have ab:=qY.o.trans (F.af WM);have P:=(ab.block (w.heap.size+1) al).trans BI.o.1;have uo:=Boxed.cell P;have Mq:=Boxed.frozen P)
     have bo:pG w 9 (X2.setCell ⟨w.heap.size+1,0,none⟩ (.int .i64 9)):=pG.put (k:=0) ⟨P,BI.o.2.trans (ab.af al)⟩ 9;refine⟨((afM F).trans (jk X2 _ _)).from _,_,⟨rfl,⟨⟨i,S⟩,aE,Fu.o⟩,bo,(aG.o.aa ab).put al _⟩,?_,aw _ _⟩;have bW:=F.size;simp;omega
   case done=>
    rintro D ys X hD Ax ⟨E,ae⟩ I
    have bl:Hid (iX (ah V) L R v=0):=by
     show _=_;rw[H5.o,aA];rw[gW];intro i S;rw[<- Ax] at S;obtain⟨x,z,rfl⟩:=bc.1 S;exact ae x z
    have C7:D<X.heap.size:=(dS.1 I).1;have ab:=eE.o.trans (E.af al);have aO:Shut s.heap.size X.heap.size ({target:=.collected D,args:= #[]}::ds) X:=⟨D,al,C7,rfl,I,(aG.o.aa E).af hD⟩;have qY:=hid ab;have Hz:=hid aO;clear I ae Ax ab aO ak an E;gi_wp2
    refine⟨⟨v+1,_,_,_,_,_,_,_,_,_,_,_,_,_,_,_,_,_,_,_,_,_,_,_,_,_,_,_,_,_,_,_,_,_,_,_,rfl,al,(fun j hj=>?_),qY,Hz⟩,?_⟩
    ·rcases cF j v with h |h
     ·exact NJ.o j h
     ·rw[show j=v by omega];exact bl.o
    ·simp[intOf];omega
   case stop=>
    rintro D cd T X hD b1 ⟨Y,⟨rfl,⟨x,z,bQ⟩,aQ,yC⟩,b3,E⟩ I
    have gm:fe=9:=ax.o 9 (by
     rw[H5.o,aB];intro h;rw[gW] at h;have:=h x.1 (bJ.2 x.2);rw[bQ] at this;cases this) a6
    have C7:D<X.heap.size:=(dS.1 I).1;have bm:pG w 9 X:=⟨(E.block (w.heap.size+1) al).trans aQ.1,aQ.2.trans (E.af al)⟩;gi_wp2
    refine Gs (lo:=s.heap.size) (K:=pG w 9) (pG.shut al) (fun av Z=>⟨_,T4 Z.1 rfl _ rfl,?_,Z.2⟩) _ X.heap.size X ⟨D,al,C7,rfl,I,(yC.aa E).af hD⟩ bm;rw[gm]
  ·rw[aB hT] at H5;have gm:fe=8:=ax.o 8 H5.o a6
   have bK:((r.length:Int) !=((N*k:Nat):Int))=true:=by
    (have:¬(r.length:Int)=((N*k:Nat):Int):=al);simpa using this
   clear hT;have x6:=H.o;gi_wp2_with (refine⟨trivial,?_⟩;gi_at_call 41;refine je.o.af ?_;rintro e d ⟨rfl,g⟩;have ai:=A.step g;have ay:=(g.cell (p:=⟨G,v,none⟩) J.lt).trans uf;have P:Boxed d (w.heap.size+1) 46 (.int .i64 0):=(g.block (w.heap.size+1) al).trans ((H.o.block (w.heap.size+1) Rl).trans eP.o);have uo:=Boxed.cell P;have Mq:=Boxed.frozen P;clear c0 c1 c2 r2 p2 uf)
   refine Gs (lo:=s.heap.size) (K:=pG w 8) (pG.shut al) (fun av Z=>⟨_,T4 Z.1 rfl _ rfl,?_,Z.2⟩) _ wr.heap.size _ ((po.o.aa g).put al _) (pG.put (k:=0) ⟨P,ai.2⟩ 8);rw[gm]
 ·obtain rfl:v=R.length:=al
  have gm:fe=0:=HZ.o (fun j hj=>NJ.o j (by rw[rR.o];exact hj));have P:Boxed wr (w.heap.size+1) 46 (.int .i64 0):=(H.o.block (w.heap.size+1) Rl).trans eP.o;have uo:=Boxed.cell P;have Mq:=Boxed.frozen P;have A:=qf.o.step H.o;gi_wp2
  refine Gs (lo:=s.heap.size) (K:=pG w 0) (pG.shut al) (fun av Z=>⟨_,T4 Z.1 rfl _ rfl,?_,Z.2⟩) _ wr.heap.size _ (po.o.put al _) (pG.put (k:=0) ⟨P,A.2⟩ 0);rw[gm]
end
structure Yt (V:List Vr) (L:List (List Int)) (R:List (List Fr)):Prop where
 vars:V.length<=140737488355328/\∀x∈V,x.1.size<=140737488355328/\x.2.length<=140737488355328/\∀s∈x.2,s.size<=140737488355328
 pars:L.length<=140737488355328/\∀l∈L,l.length<=140737488355328
 rows:R.length<=140737488355328/\∀l∈R,l.length<=140737488355328/\∀f∈l,f.2.1.size<=140737488355328/\f.2.2.size<=140737488355328
theorem NK.drewN (h:NK w wr x y z) (k:Nat):NK w (wr.drewN k) x y z:=⟨h.1,below_drewN h.2 k⟩
def NF (V:List Vr) (v k:Nat):Prop:=k<=2048 ->∀j (h:j<V.length),j< v ->V[j].1.size<=2048/\V[j].2.length<=2048/\∀s∈V[j].2,s.size<=2048
def Sb (L:List (List Int)) (v k:Nat):Prop:=k<=2048 ->∀j (h:j<L.length),j< v ->L[j].length<=2048
def Sa (R:List (List Fr)) (v k:Nat):Prop:=k<=2048 ->∀j (h:j<R.length),j< v ->R[j].length+sw R[j]<=2048
structure NLi (V:List Vr) (L:List (List Int)) (R:List (List Fr)):Prop where
 all:V.length+L.length+R.length<=2048
 vars:NF V V.length 0
 pars:Sb L L.length 0
 rows:Sa R R.length 0
theorem RO (a b c:Option Addr) (ca cb cc:Nat) (V:List Vr) (L:List (List Int)) (R:List (List Fr)) (w:World) (h:gO w a b c V L R) (s:tK V L R):
  c6 69 #[.agg #[.slice a V.length ca,.slice b L.length cb,.slice c R.length cc]] w fun e w'=>e=.returned (.int .i64 (aY V L R))/\c8 w w':=
 ak6 a b c ca cb cc V L R w h s fun d f g i U j=>apu a b c ca cb cc V L R U j s d f g i
theorem akF (h:NLi V L R):tK V L R/\∀l∈R,fw l<=4200:=by
 have n:=h.all
 have c:∀l∈R,l.length+sw l<=2048:=fun l b=>by
  obtain⟨j,a,rfl⟩:=ij b;exact h.rows al j a a
 refine⟨⟨⟨al,fun x i=>?_⟩,⟨al,fun l b=>?_⟩,⟨al,fun l b=>?_⟩⟩,fun l b=>?_⟩
 ·obtain⟨j,a,rfl⟩:=ij i;obtain⟨k,m,d⟩:=h.vars al j a a;exact⟨al,al,fun s g=>by have:=d s g;omega⟩
 ·obtain⟨j,a,rfl⟩:=ij b;have:=h.pars al j a a;omega
 ·have e:=c l b;have f:=aeR l;omega
 ·have e:=c l b;have f:=aeR l;omega
end Go.Proofs.YtfhdoommfenijaaGreatDoor
