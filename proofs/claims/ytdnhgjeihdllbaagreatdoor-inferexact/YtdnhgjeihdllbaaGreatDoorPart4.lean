/- Part4: part 4. -/
import Derived.Test.YtdnhgjeihdllbaaGreatDoorPart3
set_option maxRecDepth 100000
set_option maxHeartbeats 4000000
set_option linter.unusedSimpArgs false
set_option linter.unusedVariables false
namespace Go.Proofs.YtdnhgjeihdllbaaGreatDoor
open Go.RowKit Go.Shelf
variable {F:(Nat ->Nat) ->Rat} {S us vs ws:List Nat} {K k v:Nat} {ok:Nat ->Bool} {f h:Nat ->Nat}
theorem ZW (p q:Rat):p<=Er true p q/\q<=Er true p q:=by
 simp only[Er,if_true];by_cases h:p<q
 ·rw[ay h];exact⟨Rat.le_of_lt h,zT⟩
 ·rw[az h];exact⟨zT,B6.1 h⟩
theorem NI (g:Nat ->Rat):∀ {k x:Nat},x<=k ->g x<=jz true g k
 |0,x,h=>by rw[Nat.le_zero.1 h];exact zT
 |k+1,x,h=>by
  rw[jz];rcases cD k x with hx |hx
  ·rw[show x=k+1 from by omega];exact(ZW _ _).2
  ·exact Ca (NI g hx) (ZW _ _).1
theorem G8 (g:Nat ->Rat):∀k,∃x,x<=k/\jz true g k=g x
 |0=>⟨0,ar _,rfl⟩
 |k+1=>by
  obtain⟨x,hx,e⟩:=G8 g k;rw[jz];simp only[Er,if_true];by_cases h:jz true g k<g (k+1)
  ·rw[ay h];exact⟨k+1,ar _,rfl⟩
  ·rw[az h];exact⟨x,by omega,e⟩
theorem aha {A:Rat} (hA:0<=A) (g:Nat ->Rat) (k:Nat):jz true (fun x=>A*g x) k=A*jz true g k:=by
 refine Rat.le_antisymm ?_ ?_
 ·obtain⟨x,hx,e⟩:=G8 (fun x=>A*g x) k;rw[e];exact Rat.mul_le_mul_of_nonneg_left (NI g hx) hA
 ·obtain⟨x,hx,e⟩:=G8 g k;rw[e];exact NI (fun x=>A*g x) hx
theorem Xz (f:Nat ->Nat) (v:Nat):aQ f v (f v)=f:=by
 funext u;rw[aQ];by_cases h:u=v
 ·rw[ay h,h]
 ·rw[az h]
theorem M8 (f:Nat ->Nat) (v x:Nat):aQ f v x v=x:=by rw[aQ,ay rfl]
theorem Jm (f:Nat ->Nat) {u:Nat} (x:Nat) (h:u≠v):aQ f v x u=f u:=by rw[aQ,az h]
def Mx (S vs:List Nat) (F:(Nat ->Nat) ->Rat) (f:Nat ->Nat) (m:Rat):Prop:=
 (∃g,Fit S g/\(∀u,¬u∈vs ->g u=f u)/\F g=m)/\∀g,Fit S g ->(∀u,¬u∈vs ->g u=f u) ->F g<=m
theorem Mx.unique {m n:Rat} (h:Mx S vs F f m) (h':Mx S vs F f n):m=n:=by
 obtain⟨⟨g,a,b,c⟩,d⟩:=h;obtain⟨⟨g',a',b',c'⟩,d'⟩:=h';exact Rat.le_antisymm (c▸d' g a b) (c'▸d g' a' b')
theorem Mx.same {m:Rat} (h:Mx S vs F f m) (e:∀u,u∈vs↔u∈ws):Mx S ws F f m:=by
 obtain⟨⟨g,a,b,c⟩,d⟩:=h;exact⟨⟨g,a,fun u hu=>b u fun h=>hu ((e u).1 h),c⟩,fun g a b=>d g a fun u hu=>b u fun h=>hu ((e u).2 h)⟩
def elimM (S:List Nat):List Nat ->((Nat ->Nat) ->Rat) ->(Nat ->Nat) ->Rat
 |[],F=>F
 |v::vs,F=>elimM S vs fun f=>jz true (fun x=>F (aQ f v x)) (sz S v - 1)
theorem acj (hp:Pos S):∀(vs:List Nat) (F:(Nat ->Nat) ->Rat) (f:Nat ->Nat),Fit S f ->Mx S vs F f (elimM S vs F f)
 |[],F,f,hf=>⟨⟨f,hf,fun _ _=>rfl,rfl⟩,fun g _ h=>by rw[show g=f from funext fun u=>h u qG];exact zT⟩
 |v::vs,F,f,hf=>by
  have hsz:=im hp v;obtain⟨⟨g,hg,nH,e⟩,CA⟩:=acj hp vs (fun f=>jz true (fun x=>F (aQ f v x)) (sz S v - 1)) f hf;rw[elimM];refine⟨?_,fun k hk hkf=>?_⟩
  ·obtain⟨x,hx,ex⟩:=G8 (fun x=>F (aQ g v x)) (sz S v - 1);refine⟨aQ g v x,hg.with (by omega),fun u hu=>?_,?_⟩
   ·rw[dK,not_or] at hu;rw[Jm g x hu.1];exact nH u hu.2
   ·rw[<- e];exact ex.symm
  ·have h1:=CA (aQ k v (f v)) (hk.with (hf v)) (fun u hu=>by
    by_cases h:u=v
    ·rw[h,M8]
    ·rw[Jm k _ h];exact hkf u (by rw[dK,not_or];exact⟨h,hu⟩))
   have h2:=NI (fun x=>F (aQ (aQ k v (f v)) v x)) (k:=sz S v - 1) (x:=k v) (by have:=hk v;omega);simp only[Xy,Xz] at h1 h2;exact Ca h2 h1
theorem ag1 {P:List (List Nat×List Fr)} {q r:List Nat×List Fr} (hp:Pos S) (hq:∀g,Fit S g ->tQ S q g=pQ S g (P.filter fun t=>decide (v∈t.1))) (hr:∀g,Fit S g ->tQ S r g=jz true (fun x=>tQ S q (aQ g v x)) (sz S v - 1)) (hn:∀g,Fit S g ->∀t∈P,0<=tQ S t g) (hf:Fit S f):
  pQ S f ((P.filter fun t=>!decide (v∈t.1))++[r])=jz true (fun x=>pQ S (aQ f v x) P) (sz S v - 1):=by
 have hsz:=im hp v
 have nB:∀Q:List (List Nat×List Fr),(∀t∈Q,t∈P) ->0<=pQ S f Q:=fun Q=>by
  induction Q with
  |nil=>intro _;rw[pQ];decide
  |cons t Q ih=>intro h;rw[pQ];exact Rat.mul_nonneg (hn f hf t (h t dJ)) (ih fun s hs=>h s (eE _ hs))
 rw[Sc,pQ,pQ,zS,hr f hf, <- aha (nB _ fun t ht=>(c4.1 ht).1)];refine NJ true fun x hx=>?_;have nH:=Sb (S:=S) (f:=f) (v:=v) (x:=x) (P:=P.filter fun t=>!decide (v∈t.1)) (fun t ht=>by simpa using (c4.1 ht).2);rw[Sa S (aQ f v x) (fun t=>decide (v∈t.1)) P,hq _ (hf.with (by omega)),nH]
theorem ahb {g:Nat ->Rat} (h:∀x,x<=k ->0<=g x):0<=jz true g k:=by
 obtain⟨x,hx,e⟩:=G8 g k;rw[e];exact h x hx
structure rP (S us:List Nat) (A:Nat ->Bool) (F:(Nat ->Nat) ->Rat) (f h:Nat ->Nat):Prop where
 fit:Fit S h
 far:∀u,¬u∈us.filter A ->h u=f u
 top:∀g,Fit S g ->(∀u,¬u∈us.filter A ->g u=f u) ->F g<=F h
 low:∀g,Fit S g ->(∀u,¬u∈us.filter A ->g u=f u) ->F g=F h ->pos S h us<=pos S g us
theorem rP.nil {A:Nat ->Bool} (hf:Fit S f):rP S [] A F f f where
 fit:=hf
 far _ _:=rfl
 top g _ h:=by rw[show g=f from funext fun u=>h u (by simp)];exact zT
 low _ _ _ _:=ar _
theorem rP.Mx {A:Nat ->Bool} (H:rP S us A F f h):Mx S (us.filter A) F f (F h):=⟨⟨h,H.fit,H.far,rfl⟩,H.top⟩
theorem rP.known {A:Nat ->Bool} (H:rP S us A F f h) (hv:A v=false):rP S (v::us) A F f h:=by
 have e:(v::us).filter A=us.filter A:=Ae (by simp[hv]);have hn:¬v∈us.filter A:=fun h=>by simp[c4,hv] at h
 refine⟨H.fit,by rw[e];exact H.far,by rw[e];exact H.top,by rw[e];intro g a b c;rw[G7,G7,b v hn,H.far v hn];exact Nat.add_le_add_left (H.low g a b c) _⟩
theorem rP.chosen {A:Nat ->Bool} {x:Nat} {M:Nat ->Rat} (hM:∀y,y<sz S v ->Go.Proofs.YtdnhgjeihdllbaaGreatDoor.Mx S (us.filter A) F (aQ f v y) (M y)) (hx:x<sz S v) (h1:∀y,y<sz S v ->M y<=M x) (h2:∀y,y< x ->M y<M x) (hn:¬v∈us) (H:rP S us A F (aQ f v x) h) (hv:A v=true):rP S (v::us) A F f h:=by
 have e:(v::us).filter A=v::us.filter A:=Ad hv;have hnf:¬v∈us.filter A:=fun h=>hn (c4.1 h).1;have eh:h v=x:=by rw[H.far v hnf,M8]
 have em:F h=M x:=H.Mx.unique (hM x hx)
 have Hr:∀g:Nat ->Nat,(∀u,¬u∈v::us.filter A ->g u=f u) ->∀u,¬u∈us.filter A ->g u=aQ f v (g v) u:=fun g b u hu=>by
  by_cases h:u=v
  ·rw[h,M8]
  ·rw[Jm f _ h];exact b u (by rw[dK,not_or];exact⟨h,hu⟩)
 refine⟨H.fit,?_,?_,?_⟩
 ·rw[e];intro u hu;rw[dK,not_or] at hu;rw[H.far u hu.2,Jm f _ hu.1]
 ·rw[e];intro g a b;rw[em];exact Ca ((hM (g v) (a v)).2 g a (Hr g b)) (h1 _ (a v))
 ·rw[e];intro g a b c;have h3:M x<=M (g v):=by rw[<- em, <- c];exact(hM (g v) (a v)).2 g a (Hr g b)
  rw[G7,G7,eh];rcases QG (g v) x with hl |hl |hl
  ·exact absurd h3 (Rat.not_le.2 (h2 _ hl))
  ·rw[hl];refine Nat.add_le_add_left (H.low g a (fun u hu=>?_) c) _;have:=Hr g b u hu;rwa [hl] at this
  ·have h4:=p3 (S:=S) h H.fit us;(have h5:x*cnt S us+cnt S us<=g v*cnt S us:=by rw[<- Nat.succ_mul];exact jK _ hl);omega
theorem acP (l:List Fr):∀k,(∀y,y<=k ->aT (bA l y)<=aT (bA l (gM l k)))/\∀y,y<gM l k ->aT (bA l y)<aT (bA l (gM l k))
 |0=>⟨fun y h=>by rw[Nat.le_zero.1 h];exact zT,fun y h=>absurd h (Cc _)⟩
 |k+1=>by
  obtain⟨h1,h2⟩:=acP l k;rw[gM];by_cases h:cQ (aT (bA l (gM l k))) (aT (bA l (k+1)))<0
  ·rw[ay h];have hlt:=Pm.1 h;have hall:∀y,y<=k ->aT (bA l y)<aT (bA l (k+1)):=fun y hy=>Rat.not_le.1 fun hc=>Rat.not_le.2 hlt (Ca hc (h1 y hy));refine⟨fun y hy=>?_,fun y hy=>hall y (by omega)⟩;rcases cD k y with hk |hk
   ·rw[show y=k+1 from by omega];exact zT
   ·exact Rat.le_of_lt (hall y hk)
  ·rw[az h];refine⟨fun y hy=>?_,h2⟩;rcases cD k y with hk |hk
   ·rw[show y=k+1 from by omega];exact B6.1 fun hc=>h (Pm.2 hc)
   ·exact h1 y hk
def r5 (ok:Nat ->Bool) (p:Nat ->Rat):Nat ->Option Nat×Rat
 |0=>(none,0)
 |k+1=>if ok k&&decide ((r5 ok p k).2<p k) then(some k,p k) else r5 ok p k
theorem YN {p:Nat ->Rat} {m:Rat} (hm:0<m):∀ {k:Nat},(∀i,i< k ->ok i=true ->p i<m) ->(r5 ok p k).2<m
 |0,_=>hm
 |k+1,h=>by
  rw[r5];by_cases hc:(ok k&&decide ((r5 ok p k).2<p k))=true
  ·rw[ay hc];exact h k (Ja _) (by simpa using (Bool.and_eq_true_iff.1 hc).1)
  ·rw[az hc];exact YN hm fun i hi=>h i (by omega)
theorem YL {p:Nat ->Rat}:∀ {k:Nat},(∀i,i< k ->ok i=true ->p i<=0) ->r5 ok p k=(none,0)
 |0,_=>rfl
 |k+1,h=>by
  have ih:=YL (k:=k) fun i hi=>h i (by omega);rw[r5,ih];by_cases hk:ok k=true
  ·rw[az];rw[ia,ei];exact fun hc=>B6.2 (h k (Ja _) hk) hc.2
  ·rw[az];rw[ia];exact fun hc=>hk hc.1
theorem YM {p:Nat ->Rat} (hK:ok K=true) (hm:0<p K) (h2:∀i,i< K ->ok i=true ->p i<p K):∀ {k:Nat},K< k ->(∀i,i< k ->ok i=true ->p i<=p K) ->r5 ok p k=(some K,p K)
 |0,h,_=>absurd h (Cc _)
 |k+1,h,h1=>by
  rw[r5];rcases cD K k with hk |hk
  ·rw[YM hK hm h2 hk fun i hi=>h1 i (by omega),az];rw[ia,ei];exact fun hc=>B6.2 (h1 k (Ja _) hc.1) hc.2
  ·have ek:k=K:=by omega
   rw[ek,ay];rw[ia,ei];exact⟨hK,YN hm h2⟩
variable {R:List (List Fr)} {L:List (List Int)} {V:List Vr} {n:Nat}
theorem Nw (hp:Pos S):∀ {vs:List Nat} {k:Nat},vs.Nodup ->k<cnt S vs ->pos S (aO S vs k) vs=k
 |[],k,_,h=>by
  have:k<1:=h;rw[show k=0 from by omega];rfl
 |u::vs,k,hn,h=>by
  rw[pP] at hn;have hc:0<cnt S vs:=QH (aU _) (p3 (S:=S) (fun _=>0) (fun u=>im hp u) vs)
  have e:pos S (aO S (u::vs) k) vs=pos S (aO S vs (k % cnt S vs)) vs:=yD S fun v hv=>by
   rw[aO,az];exact fun e=>hn.1 (e▸hv)
  rw[G7,e,Nw hp hn.2 (jL _ hc),aO,ay rfl,dp];exact Nat.div_add_mod _ _
theorem N5 (h0:aW V L R=0) (hv:v<V.length) (hf:Fit (ah V) f):0<=aT (dF V L R f v):=by
 have aM:=gD h0;have dG:v<L.length:=by rw[aM.len];exact hv
 have kn:v<R.length:=by rw[aM.lenR];exact hv
 have hlen:=aM.rows v dG kn;have hp:=p3 f hf (ag L[v])
 have hrow:iJ (fP R[v] (sz (ah V) v) (pos (ah V) f (ag L[v])))=true:=by
  have h1:iO (iI (ah V) L R) V.length=0:=by
   rw[aW] at h0;by_cases h1:L.length=V.length/\R.length=V.length
   ·rw[ay h1] at h0;by_cases h2:bE L=0
    ·rw[ay h2] at h0;by_cases h3:jy V=0
     ·rwa [ay h3] at h0
     ·rw[az h3] at h0;exact absurd h0 h3
    ·rw[az h2] at h0;exact absurd h0 h2
   ·rw[az h1] at h0;exact absurd h0 (by decide)
  have h2:=K7 h1 v hv;rw[iI,List.getD_eq_getElem?_getD,List.getElem?_eq_getElem kn,List.getD_eq_getElem?_getD,List.getElem?_eq_getElem dG] at h2;simp only[zV] at h2;rw[ay hlen] at h2;by_cases h3:((List.range (cnt (ah V) (ag L[v]))).all fun i=>iJ (fP R[v] (sz (ah V) v) i))=true
  ·rw[eJ] at h3;exact h3 _ (bG.2 hp)
  ·rw[az h3] at h2;exact absurd h2 (by decide)
 rw[iJ,ia,eJ] at hrow;have hmul:(pos (ah V) f (ag L[v])+1)*sz (ah V) v<=R[v].length:=by rw[hlen];exact jK _ hp
 have e1:(pos (ah V) f (ag L[v])+1)*sz (ah V) v=pos (ah V) f (ag L[v])*sz (ah V) v+sz (ah V) v:=by rw[fW,kB]
 have hcl:(fP R[v] (sz (ah V) v) (pos (ah V) f (ag L[v]))).length=sz (ah V) v:=by
  rw[fP,eZ,mR];omega
 have hfv:=hf v;have hm:=hrow.1 _ (bH (l:=fP R[v] (sz (ah V) v) (pos (ah V) f (ag L[v]))) (n:=f v) (by omega));rw[JZ dG kn,p6,pz (by omega)];have:=B6.1 (rS hm);simpa only[fP,Aa,Jg] using this
theorem aaK (h0:aW V L R=0) (hf:Fit (ah V) f):∀ {n:Nat},n<=V.length ->0<=ji V L R f n
 |0,_=>by rw[ji];decide
 |n+1,h=>by rw[ji];exact Rat.mul_nonneg (aaK h0 hf (by omega)) (N5 h0 (by omega) hf)
theorem akd (h0:aW V L R=0) (hv:v<V.length) (hf:Fit (ah V) f):0<=tQ (ah V) (ag (gU L v),gL V L R v) f:=by
 rw[Rj h0 hv hf];exact N5 h0 hv hf
def rI (l:List (Nat×Nat)) (g:Nat ->Nat):Bool:=l.all fun p=>g p.1==p.2
theorem KG:∀(l:List (Nat×Nat)) (g:Nat ->Nat),jX l g=if rI l g then 1 else 0
 |[],_=>rfl
 |p::l,g=>by
  rw[jX,KG l g,AE,rI,rI,List.all_cons];by_cases h:g p.1=p.2
  ·rw[ay h,vZ,rp.2 h,Jj]
  ·rw[az h,Gm,zQ.2 h,Bool.false_and];rfl
theorem Cr {u:Nat}:∀ {l:List (Nat×Nat)},¬u∈l.map (·.1) ->∀g,cY l g u=g u
 |[],_,_=>rfl
 |p::l,h,g=>by
  rw[gQ,dK,not_or] at h;rw[cY,Cr h.2,Jm g _ h.1]
theorem G0 {p:Nat×Nat}:∀ {l:List (Nat×Nat)},(l.map (·.1)).Nodup ->p∈l ->∀g,cY l g p.1=p.2
 |q::l,hn,h,g=>by
  rw[gQ,pP] at hn;rcases dK.1 h with rfl |h
  ·rw[cY,Cr hn.1,M8]
  ·exact G0 hn.2 h _
theorem Nr:∀ {l:List (Nat×Nat)},(∀p∈l,p.2<sz S p.1) ->∀ {g:Nat ->Nat},Fit S g ->Fit S (cY l g)
 |[],_,_,hg=>hg
 |_::_,h,_,hg=>Nr (fun q hq=>h q (eE _ hq)) (hg.with (h _ dJ))
theorem afo (hp:Pos S) {l:List (Nat×Nat)} (hn:(l.map (·.1)).Nodup) (hl:∀p∈l,p.1<n) (H:rP S (List.range n) (fun v=>!(l.map (·.1)).contains v) F (cY l fun _=>0) h):
  aO S (List.range n) (pos S h (List.range n))=h/\r5 (fun k=>rI l (aO S (List.range n) k)) (fun k=>F (aO S (List.range n) k)) (cnt S (List.range n))=if 0<F h then(some (pos S h (List.range n)),F h) else(none,0):=by
 have hmem:∀u,u∈(List.range n).filter (fun v=>!(l.map (·.1)).contains v)↔u<n/\¬u∈l.map (·.1):=fun u=>by
  rw[c4,bG,Ag, <- yr,lh]
 have nH:∀u,¬u< n ->cY l (fun _=>0) u=0:=fun u hu=>Cr (fun hm=>by
  obtain⟨p,hp,e⟩:=bs.1 hm;exact hu (e▸hl p hp)) _
 have eK:aO S (List.range n) (pos S h (List.range n))=h:=funext fun u=>by
  by_cases hu:u<n
  ·exact Dl hp H.fit pO u (bG.2 hu)
  ·rw[Bg fun hm=>hu (bG.1 hm),H.far u fun hm=>hu ((hmem u).1 hm).1,nH u hu]
 have Hr:∀k,rI l (aO S (List.range n) k)=true ->∀u,¬u∈(List.range n).filter (fun v=>!(l.map (·.1)).contains v) ->aO S (List.range n) k u=cY l (fun _=>0) u:=fun k hk u hu=>by
  by_cases h1:u<n
  ·have h2:u∈l.map (·.1):=Gz fun hc=>hu ((hmem u).2 ⟨h1,hc⟩);obtain⟨p,hp,rfl⟩:=bs.1 h2;rw[G0 hn hp];exact eq_of_beq (eJ.1 hk p hp)
  ·rw[Bg fun hm=>h1 (bG.1 hm),nH u h1]
 have oJ:∀k,k<cnt S (List.range n) ->Fit S (aO S (List.range n) k):=fun k hk u=>nN hp _ _ u hk;have ajV:=p3 (S:=S) h H.fit (List.range n)
 have hhas:rI l h=true:=eJ.2 fun p hp=>by
  rw[H.far p.1 fun hm=>((hmem _).1 hm).2 (bs.2 ⟨p,hp,rfl⟩),G0 hn hp];exact beq_self_eq_true _
 refine⟨eK,?_⟩;have CA:∀i,i<cnt S (List.range n) ->rI l (aO S (List.range n) i)=true ->F (aO S (List.range n) i)<=F h:=fun i hi ho=>H.top _ (oJ i hi) (Hr i ho);by_cases kJ:0<F h
 ·rw[ay kJ]
  have:=YM (ok:=fun k=>rI l (aO S (List.range n) k)) (p:=fun k=>F (aO S (List.range n) k)) (K:=pos S h (List.range n)) (by show rI l (aO S _ _)=true;rw[eK];exact hhas) (by show 0<F (aO S _ _);rw[eK];exact kJ) (fun i hi ho=>by
   show F _<F (aO S _ (pos S h (List.range n)));rw[eK];refine Rat.not_le.1 fun hc=>?_;(have hi':i<cnt S (List.range n):=by omega);have h1:=H.low _ (oJ i hi') (Hr i ho) (Rat.le_antisymm (CA i hi' ho) hc);rw[Nw hp pO hi'] at h1;omega) ajV (fun i hi ho=>by show F _<=F (aO S _ (pos S h (List.range n)));rw[eK];exact CA i hi ho)
  rw[this,eK]
 ·rw[az kJ];exact YL fun i hi ho=>Ca (CA i hi ho) (B6.1 kJ)
theorem amM {A:Nat ->Prop}:∀ {l:List (Nat×Nat)},(∀p∈l,A p.1) ->xK A (jX l)
 |[],_=>fun _ _ _ _=>rfl
 |p::l,h=>fun v hv g x=>by
  have hne:∀q∈p::l,q.1≠v:=fun q hq e=>hv (e▸h q hq);exact Vn hne g
theorem amO (h0:aW V L R=0) {As:List Nat} (hn:As.Nodup) (hlt:∀v∈As,v<V.length) (hc:lT L (·∈As)) {G:(Nat ->Nat) ->Rat} (hG:xK (·∈As) G):
  a8 (fun k=>G (aO (ah V) (List.range V.length) k)*ji V L R (aO (ah V) (List.range V.length) k) V.length) (cnt (ah V) (List.range V.length))=eV (ah V) As (fun g=>G g*dA V L R g As) (fun _=>0):=by
 have aM:=gD h0;have df:Pos (ah V):=by have:=aM.fine.pos;rwa [ew] at this
 obtain⟨Oq,_⟩:=aab h0 L.length (Sl h0) (ar _)
 have hp:(aY (aI L) L.length).Perm (List.range V.length):=by
  rw[<- aM.len];refine Zv L.length _ Oq (fun x hx=>?_) (Sl h0);have:=Ep (aI L) L.length x hx;rwa [lp] at this
 have hz:Fit (ah V) (fun _:Nat=>0):=fun u=>im df u;have e:=aae (S:=ah V) (fun g=>G g*ji V L R g V.length) (List.range V.length) (fun _=>0) pO;rw[l8 (h:=fun k=>G (aO (ah V) (List.range V.length) k)*ji V L R (aO (ah V) (List.range V.length) k) V.length) fun k _=>by rw[ag5]] at e
 have hf:((aY (aI L) L.length).filter fun v=>decide (v∈As)).Perm As:=by
  refine(Jd (Oq.filter _) hn).2 fun v=>?_;rw[c4,ei];refine⟨fun h=>h.2,fun h=>⟨hp.mem_iff.2 (bG.2 (hlt v h)),h⟩⟩
 rw[e, <- JV _ hp Oq,Es (G:=fun g=>G g*dA V L R g (aY (aI L) L.length)) (fun g _=>by rw[JN,RX hp]) _ _ hz,Vp (b:=fun v=>decide (v∈As)) h0 (fun v hv u hu=>cJ (hc v (rS hv) u hu)) L.length (Sl h0) (ar _) G (fun v hv g x=>hG v (fun h=>hv (cJ h)) g x) _ hz,JV _ hf (Oq.filter _)];refine Es (fun g _=>?_) _ _ hz;rw[RX hf]
theorem agq (h0:aW V L R=0) {As:List Nat} {l:List (Nat×Nat)} (hn:As.Nodup) (hlt:∀v∈As,v<V.length) (hc:lT L (·∈As)) (hl:As.Perm (l.map (·.1)++ws)) (hx:∀p∈l,p.2<sz (ah V) p.1):
  a8 (fun k=>jX l (aO (ah V) (List.range V.length) k)*ji V L R (aO (ah V) (List.range V.length) k) V.length) (cnt (ah V) (List.range V.length))=eV (ah V) ws (fun g=>dA V L R (cY l g) As) (fun _=>0):=by
 rw[amO h0 hn hlt hc (amM fun p hp=>hl.mem_iff.2 (dz.2 (.inl (bs.2 ⟨p,hp,rfl⟩))))];exact aad l (fun g=>dA V L R g As) hl hn hx _
variable {free:List Nat}
abbrev Tb:=List Int×List Fr
def tN (t:Tb):List Nat×List Fr:=(ag t.1,t.2)
structure di (S:List Nat) (n:Nat) (t:Tb):Prop where
 up:Up t.1 n
 len:t.2.length=cnt S (ag t.1)
def yH (S:List Nat) (a t:Tb):Tb:=(ki a.1 t.1,uM S (ag a.1) (ag t.1) (ag (ki a.1 t.1)) a.2 t.2)
def Cu:Tb:=([],[qF 1])
def allT (S:List Nat) (P:List Tb):Tb:=P.foldl (yH S) Cu
def outT (S:List Nat) (v:Nat) (most:Bool) (t:Tb):Tb:=(bw t.1 v,qL S (ag t.1) (ag (bw t.1 (v:Int))) v most t.2)
def gK (S:List Nat) (v x:Nat) (t:Tb):Tb:=(bw t.1 v,xz S (ag t.1) (ag (bw t.1 (v:Int))) v x t.2)
theorem M9 {a b:List Int}:∀u,u∈ag (ki a b)↔u∈ag a∨u∈ag b:=fun u=>by
 obtain⟨_,h⟩:=Jv a b;simp only[ag,bs];constructor
 ·rintro⟨x,hx,e⟩;rcases (h x).1 hx with h |h
  ·exact .inl ⟨x,h,e⟩
  ·exact .inr ⟨x,h,e⟩
 ·rintro(⟨x,hx,e⟩ |⟨x,hx,e⟩)
  ·exact⟨x,(h x).2 (.inl hx),e⟩
  ·exact⟨x,(h x).2 (.inr hx),e⟩
theorem SU {a:List Int} (h:Up a n):∀u,u∈ag (bw a (v:Int))↔u∈ag a/\u≠v:=fun u=>by
 constructor
 ·intro hu;refine⟨?_,fun e=>N7 h (e▸hu)⟩;obtain⟨x,hx,e⟩:=bs.1 hu;exact bs.2 ⟨x,(c4.1 hx).1,e⟩
 ·rintro⟨hu,hne⟩;rcases Cy h v u hu with rfl |h
  ·exact absurd rfl hne
  ·exact h
theorem di.mul {a t:Tb} (ha:di S n a) (ht:di S n t):di S n (yH S a t):=⟨GI ha.up ht.up,Zl ..⟩
theorem di.one (S:List Nat) (n:Nat):di S n Cu:=⟨pV.2 ⟨fun _ h=>absurd h qG,List.Pairwise.nil⟩,rfl⟩
theorem di.o {t:Tb} (ht:di S n t) (v:Nat) (most:Bool):di S n (outT S v most t):=⟨tI ht.up _,Sh ..⟩
theorem di.fix {t:Tb} (ht:di S n t) (v x:Nat):di S n (gK S v x t):=⟨tI ht.up _,ab7 ..⟩
theorem ah9 {a t:Tb} (hp:Pos S) (ha:di S n a) (ht:di S n t) (hf:Fit S f):tQ S (tN (yH S a t)) f=tQ S (tN a) f*tQ S (tN t) f:=
 aet hp (GI ha.up ht.up).nodup (fun u h=>(M9 u).2 (.inl h)) (fun u h=>(M9 u).2 (.inr h)) _ _ hf
theorem ab3 (hp:Pos S):∀ {P:List Tb} {a:Tb},di S n a ->(∀t∈P,di S n t) ->di S n (P.foldl (yH S) a)/\(∀u,u∈ag (P.foldl (yH S) a).1↔u∈ag a.1∨∃t∈P,u∈ag t.1)/\∀f,Fit S f ->tQ S (tN (P.foldl (yH S) a)) f=tQ S (tN a) f*pQ S f (P.map tN)
 |[],a,ha,_=>⟨ha,fun u=>⟨.inl,fun h=>h.elim id fun ⟨_,ht,_⟩=>absurd ht qG⟩,fun f _=>by rw[ld,pQ,zS];rfl⟩
 |t::P,a,ha,h=>by
  have ht:=h t dJ;obtain⟨h1,h2,h3⟩:=ab3 hp (ha.mul ht) (fun s hs=>h s (eE _ hs)) (P:=P);refine⟨h1,fun u=>?_,fun f hf=>?_⟩
  ·rw[Ef,h2 u];show u∈ag (ki a.1 t.1)∨_↔_;rw[M9,or_assoc];refine or_congr Iff.rfl ⟨?_,?_⟩
   ·rintro(h |⟨s,hs,h⟩)
    ·exact⟨t,dJ,h⟩
    ·exact⟨s,eE _ hs,h⟩
   ·rintro⟨s,hs,hu⟩;rcases dK.1 hs with rfl |hs
    ·exact .inl hu
    ·exact .inr ⟨s,hs,hu⟩
  ·rw[Ef,h3 f hf,ah9 hp ha ht hf,gQ,pQ,yj]
theorem xH (hp:Pos S) {P:List Tb} (h:∀t∈P,di S n t):di S n (allT S P)/\(∀u,u∈ag (allT S P).1↔∃t∈P,u∈ag t.1)/\∀f,Fit S f ->tQ S (tN (allT S P)) f=pQ S f (P.map tN):=by
 obtain⟨h1,h2,h3⟩:=ab3 hp (di.one S n) h;refine⟨h1,fun u=>(h2 u).trans ⟨fun h=>h.elim (fun h=>absurd h qG) id,.inr⟩,fun f hf=>?_⟩;rw[allT,h3 f hf];have:tQ S (tN Cu) f=1:=qQ 1;rw[this,vZ]
def lq (S:List Nat) (v:Nat) (most:Bool) (P:List Tb):List Tb:=(P.filter fun t=>!decide (v∈ag t.1))++[outT S v most (allT S (P.filter fun t=>decide (v∈ag t.1)))]
structure PI (S:List Nat) (n:Nat) (free:List Nat) (P:List Tb) (F:(Nat ->Nat) ->Rat):Prop where
 ok:∀t∈P,di S n t
 sub:∀t∈P,∀u∈ag t.1,u∈free
 sup:∀u∈free,∃t∈P,u∈ag t.1
 val:∀g,Fit S g ->pQ S g (P.map tN)=F g
def NN (S:List Nat) (P:List Tb):Prop:=∀t∈P,∀g,Fit S g ->0<=tQ S (tN t) g
theorem ZC {g:Nat ->Nat} (hg:Fit S g):∀ {P:List Tb},NN S P ->0<=pQ S g (P.map tN)
 |[],_=>by rw[ld,pQ];decide
 |t::P,h=>by rw[gQ,pQ];exact Rat.mul_nonneg (h t dJ g hg) (ZC hg fun s hs=>h s (eE _ hs))
theorem PI.parts {P:List Tb} (hp:Pos S) (h:PI S n free P F) (v:Nat) (most:Bool):
  (∀t∈lq S v most P,di S n t)/\(∀t∈lq S v most P,∀u∈ag t.1,u∈free.filter fun u=>!(u==v))/\∀u∈free.filter (fun u=>!(u==v)),∃t∈lq S v most P,u∈ag t.1:=by
 obtain⟨h1,h2,_⟩:=xH hp (P:=P.filter fun t=>decide (v∈ag t.1)) (n:=n) fun t ht=>h.ok t (c4.1 ht).1;have hf:∀u,u∈free.filter (fun u=>!(u==v))↔u∈free/\u≠v:=fun u=>by simp[c4]
 have hr:=SU (v:=v) h1.up;refine⟨fun t ht=>?_,fun t ht u hu=>?_,fun u hu=>?_⟩
 ·rcases dz.1 ht with ht |ht
  ·exact h.ok t (c4.1 ht).1
  ·rw[fX.1 ht];exact h1.o v most
 ·rw[hf];rcases dz.1 ht with ht |ht
  ·obtain⟨ht,hv⟩:=c4.1 ht;exact⟨h.sub t ht u hu,fun e=>by simp[<- e,hu] at hv⟩
  ·rw[fX.1 ht] at hu;obtain⟨hu,hne⟩:=(hr u).1 hu;obtain⟨s,hs,hu⟩:=(h2 u).1 hu;exact⟨h.sub s (c4.1 hs).1 u hu,hne⟩
 ·obtain⟨hu,hne⟩:=(hf u).1 hu;obtain⟨t,ht,oB⟩:=h.sup u hu;by_cases hv:v∈ag t.1
  ·exact⟨_,dz.2 (.inr (fX.2 rfl)),(hr u).2 ⟨(h2 u).2 ⟨t,c4.2 ⟨ht,cJ hv⟩,oB⟩,hne⟩⟩
  ·exact⟨t,dz.2 (.inl (c4.2 ⟨ht,by simp[hv]⟩)),oB⟩
theorem PI.o {P:List Tb} (hp:Pos S) (h:PI S n free P F) (v:Nat):
  PI S n (free.filter fun u=>!(u==v)) (lq S v false P) (fun g=>a8 (fun x=>F (aQ g v x)) (sz S v)):=by
 obtain⟨a,b,c⟩:=h.parts hp v false;obtain⟨h1,h2,h3⟩:=xH hp (P:=P.filter fun t=>decide (v∈ag t.1)) (n:=n) fun t ht=>h.ok t (c4.1 ht).1;refine⟨a,b,c,fun g hg=>?_⟩;have e1:(P.map tN).filter (fun t=>!decide (v∈t.1))=(P.filter fun t=>!decide (v∈ag t.1)).map tN:=by rw[MS];rfl
 have e2:(P.map tN).filter (fun t=>decide (v∈t.1))=(P.filter fun t=>decide (v∈ag t.1)).map tN:=by rw[MS];rfl
 have key:=ag0 (S:=S) (f:=g) (v:=v) (P:=P.map tN) (q:=tN (allT S (P.filter fun t=>decide (v∈ag t.1)))) (r:=tN (outT S v false (allT S (P.filter fun t=>decide (v∈ag t.1))))) (fun k hk=>by rw[e2];exact h3 k hk) (fun k hk=>X1 hp (tI h1.up _).nodup (Cy h1.up v) _ hk) hg;rw[e1] at key;rw[lq,fY,List.map_singleton,key];exact l8 fun x hx=>h.val _ (hg.with hx)
theorem PI.most {P:List Tb} (hp:Pos S) (h:PI S n free P F) (hn:NN S P) (v:Nat):
  PI S n (free.filter fun u=>!(u==v)) (lq S v true P) (fun g=>jz true (fun x=>F (aQ g v x)) (sz S v - 1))/\NN S (lq S v true P):=by
 obtain⟨a,b,c⟩:=h.parts hp v true;obtain⟨h1,h2,h3⟩:=xH hp (P:=P.filter fun t=>decide (v∈ag t.1)) (n:=n) fun t ht=>h.ok t (c4.1 ht).1;have hsz:=im hp v;have e1:(P.map tN).filter (fun t=>!decide (v∈t.1))=(P.filter fun t=>!decide (v∈ag t.1)).map tN:=by rw[MS];rfl
 have e2:(P.map tN).filter (fun t=>decide (v∈t.1))=(P.filter fun t=>decide (v∈ag t.1)).map tN:=by rw[MS];rfl
 have er:∀k,Fit S k ->tQ S (tN (outT S v true (allT S (P.filter fun t=>decide (v∈ag t.1))))) k=jz true (fun x=>tQ S (tN (allT S (P.filter fun t=>decide (v∈ag t.1)))) (aQ k v x)) (sz S v - 1):=fun k hk=>X3 hp (tI h1.up _).nodup (Cy h1.up v) _ hk;refine⟨⟨a,b,c,fun g hg=>?_⟩,fun t ht g hg=>?_⟩
 ·have key:=ag1 (S:=S) (f:=g) (v:=v) (P:=P.map tN) (q:=tN (allT S (P.filter fun t=>decide (v∈ag t.1)))) (r:=tN (outT S v true (allT S (P.filter fun t=>decide (v∈ag t.1))))) hp (fun k hk=>by rw[e2];exact h3 k hk) er (fun k hk t ht=>by
   obtain⟨s,hs,rfl⟩:=bs.1 ht;exact hn s hs k hk) hg
  rw[e1] at key;rw[lq,fY,List.map_singleton,key];exact NJ true fun x hx=>h.val _ (hg.with (by omega))
 ·rcases dz.1 ht with ht |ht
  ·exact hn t (c4.1 ht).1 g hg
  ·rw[fX.1 ht,er g hg];refine ahb fun x hx=>?_;rw[h3 _ (hg.with (by omega))];exact ZC (hg.with (by omega)) fun s hs=>hn s (c4.1 hs).1
theorem PI.fix {P:List Tb} (hp:Pos S) (h:PI S n free P F) {x:Nat} (hx:x<sz S v):
  PI S n (free.filter fun u=>!(u==v)) (P.map (gK S v x)) (fun g=>F (aQ g v x)):=by
 have hf:∀u,u∈free.filter (fun u=>!(u==v))↔u∈free/\u≠v:=fun u=>by simp[c4]
 refine⟨fun t ht=>?_,fun t ht u hu=>?_,fun u hu=>?_,fun g hg=>?_⟩
 ·obtain⟨s,hs,rfl⟩:=bs.1 ht;exact(h.ok s hs).fix v x
 ·obtain⟨s,hs,rfl⟩:=bs.1 ht;obtain⟨hu,hne⟩:=(SU (h.ok s hs).up u).1 hu;exact(hf u).2 ⟨h.sub s hs u hu,hne⟩
 ·obtain⟨hu,hne⟩:=(hf u).1 hu;obtain⟨t,ht,oB⟩:=h.sup u hu;exact⟨_,bs.2 ⟨t,ht,rfl⟩,(SU (h.ok t ht).up u).2 ⟨oB,hne⟩⟩
 ·rw[<- h.val _ (hg.with hx)]
  have:∀ {Q:List Tb},(∀t∈Q,di S n t) ->pQ S g ((Q.map (gK S v x)).map tN)=pQ S (aQ g v x) (Q.map tN):=fun {Q}=>by
   induction Q with
   |nil=>intro _;rfl
   |cons t Q ih=>
    intro hQ;rw[gQ,gQ,gQ,pQ,pQ,ih fun s hs=>hQ s (eE _ hs)];congr 1
    exact Rk hp (tI (hQ t dJ).up _).nodup (Cy (hQ t dJ).up v) _ hg
  exact this h.ok
theorem NN.fix {P:List Tb} (hp:Pos S) (ho:∀t∈P,di S n t) (h:NN S P) {x:Nat} (hx:x<sz S v):NN S (P.map (gK S v x)):=fun t ht g hg=>by
 obtain⟨s,hs,rfl⟩:=bs.1 ht;have e:tQ S (tN (gK S v x s)) g=tQ S (tN s) (aQ g v x):=Rk hp (tI (ho s hs).up _).nodup (Cy (ho s hs).up v) _ hg;rw[e];exact h s hs _ (hg.with hx)
variable {Q:List (Value×Value)} {l:List Int} {P:List Tb} {cb cc m:Nat} {a:Option Addr} {v' x y:Value} {W' w w':World}
def cR (w:World) (x y:Value) (t:Tb):Prop:=∃b c cb cc,x=.slice b t.1.length cb/\y=.slice c t.2.length cc/\ax w b t.1/\bZ w c t.2/\(b=none ->cb=0)
theorem cR.aa {t:Tb} (h:cR w x y t) (hb:Below w.heap.size w w'):cR w' x y t:=by
 obtain⟨b,c,cb,cc,h1,h2,h3,h4,h5⟩:=h;exact⟨b,c,cb,cc,h1,h2,h3.aa hb,h4.aa hb,h5⟩
def dQ (w:World) (a:Option Addr) (P:List Tb):Prop:=∀k (h:k<P.length),∃g o x y,a=some ⟨g,o,none⟩/\g<w.heap.size/\w.cell? ⟨g,o+k*2,none⟩=some x/\w.cell? ⟨g,o+k*2+1,none⟩=some y/\cR w x y P[k]
theorem dQ.aa (h:dQ w a P) (hb:Below w.heap.size w w'):dQ w' a P:=fun k hk=>by
 obtain⟨g,o,x,y,h1,h2,h3,h4,h5⟩:=h k hk;exact⟨g,o,x,y,h1,aR h2 hb.size,(hb.cell (p:=⟨g,_,none⟩) h2).trans h3,(hb.cell (p:=⟨g,_,none⟩) h2).trans h4,h5.aa hb⟩
def fK:List (Value×Value) ->List Value
 |[]=>[]
 |p::l=>p.1::p.2::fK l
theorem Rf:∀l,(fK l).length=l.length*2
 |[]=>rfl
 |p::l=>by
  show (fK l).length+1+1=(l.length+1)*2;rw[Rf l];omega
theorem Nb (m:List (Value×Value)):∀l,fK (l++m)=fK l++fK m
 |[]=>rfl
 |q::l=>by
  show _::_::fK (l++m)=_::_::(fK l++fK m);rw[Nb m l]
theorem Rg:∀(l:List (Value×Value)) (k:Nat) (h:k<l.length),(fK l)[k*2]? =some l[k].1/\(fK l)[k*2+1]? =some l[k].2
 |p::l,0,_=>⟨rfl,rfl⟩
 |p::l,k+1,h=>by
  have:=Rg l k (by simpa using h);rw[show (k+1)*2=k*2+1+1 by omega];exact this
def fE (R:Nat) (t:Tb) (p:Value×Value):Prop:=(∀g o n c,p.1=.slice (some ⟨g,o,none⟩) n c ->t.1≠[] ->g≠R)/\∀g o n c,p.2=.slice (some ⟨g,o,none⟩) n c ->t.2≠[] ->g≠R
structure kr (w:World) (B:Nat) (v:Value) (Q:List (Value×Value)) (P:List Tb):Prop where
 len:Q.length=P.length
 own:w.ownsRow B 39 2 v P.length (fK Q)
 val:∀k (h:k<P.length) (h':k<Q.length),cR w Q[k].1 Q[k].2 P[k]
 far:∀R,v.ownBlock=some R ->∀k (h:k<P.length) (h':k<Q.length),fE R P[k] Q[k]
theorem kr.nil (w:World) (B:Nat):kr w B (.slice none 0 0) [] []:=⟨rfl,⟨rfl,.inl ⟨rfl,rfl⟩⟩,(fun k h=>absurd h (by simp)),fun R e=>by cases e⟩
theorem kr.row {B:Nat} {v:Value} (h:kr w B v Q P):∃a c,v=.slice a P.length c/\dQ w a P:=by
 rcases h.own.2 with ⟨h1,h2⟩ |⟨g,cap,cur,h1,h2,h3,h4,h5,h6,h7⟩
 ·exact⟨none,0,by rw[h1,h2],fun k hk=>absurd hk (by omega)⟩
 ·refine⟨_,cap,h1,fun k hk=>?_⟩;have gi:k<Q.length:=by rw[h.len];exact hk
  obtain⟨q0,q1⟩:=Rg Q k gi;have hcl:=Rf Q
  have hc:∀j u,(fK Q)[j]? =some u ->w.cell? ⟨g,j,none⟩=some u:=fun j u hj=>by
   rw[cC w g j _ _ (0,0) h3];have oH:=(o0.1 hj).1;rw[<- h7,rV,ay (by have:=h.len;omega),wm] at hj;exact hj
  exact⟨g,0,_,_,rfl,(eL.1 h3).1,by rw[bT];exact hc _ _ q0,by rw[bT];exact hc _ _ q1,h.val k hk gi⟩
theorem Hg {W:World} {R:Option Nat} {b:Option Addr} (h:ax W b l) (hn:∀g o,b=some ⟨g,o,none⟩ ->l≠[] ->some g≠R) (hg:W.grownBy W' R):ax W' b l:=fun k dX=>by
 obtain⟨g,o,e,cH,hc⟩:=h k dX;have hne:=hn g o e (fun e=>by rw[e] at dX;exact absurd dX (by simp));exact⟨g,o,e,aR cH hg.size,(kA (hg.block g cH hne)).trans hc⟩
theorem akA {W:World} {R:Option Nat} {b:Option Addr} {l:List Fr} (h:bZ W b l) (hn:∀g o,b=some ⟨g,o,none⟩ ->l≠[] ->some g≠R) (hg:W.grownBy W' R):bZ W' b l:=fun k dX=>by
 obtain⟨g,o,e,cH,h0,h1,h2⟩:=h k dX;have hne:=hn g o e (fun e=>by rw[e] at dX;exact absurd dX (by simp));have hb:=hg.block g cH hne;exact⟨g,o,e,aR cH hg.size,(kA (a:=⟨g,_,none⟩) hb).trans h0,(kA (a:=⟨g,_,none⟩) hb).trans h1,(kA (a:=⟨g,_,none⟩) hb).trans h2⟩
theorem cR.keepR {W:World} {R:Option Nat} {t:Tb} (h:cR W x y t) (hn:∀r,R=some r ->fE r t (x,y)) (hg:W.grownBy W' R):cR W' x y t:=by
 obtain⟨b,c,cb,cc,rfl,rfl,h3,h4,h5⟩:=h;refine⟨b,c,cb,cc,rfl,rfl,Hg h3 (fun g o e hne hR=>?_) hg,akA h4 (fun g o e hne hR=>?_) hg,h5⟩
 ·exact(hn g hR.symm).1 g o _ _ (by rw[e]) hne rfl
 ·exact(hn g hR.symm).2 g o _ _ (by rw[e]) hne rfl
theorem cR.lt {t:Tb} (h:cR w x y t) {R:Nat} (hR:w.heap.size<=R):fE R t (x,y):=by
 obtain⟨b,c,cb,cc,rfl,rfl,h3,h4,h5⟩:=h;refine⟨fun g o n c' e hne hg=>?_,fun g o n c' e hne hg=>?_⟩
 ·injection e with e1 _ _;obtain⟨g',o',e',iK,_⟩:=h3 0 (by cases ht:t.1 with |nil=>exact absurd ht hne |cons x l=>simp);rw[e1] at e';cases e';omega
 ·injection e with e1 _ _;obtain⟨g',o',e',iK,_⟩:=h4 0 (by cases ht:t.2 with |nil=>exact absurd ht hne |cons x l=>simp);rw[e1] at e';cases e';omega
theorem kr.push {B:Nat} {v:Value} {t:Tb} (h:kr w B v Q P) (ht:cR w x y t) (hf:∀R,v.ownBlock=some R ->fE R t (x,y)) (ho:w'.ownsRow B 39 2 v' (P.length+1) (fK Q++[x,y])) (hg:w.grownBy w' v.ownBlock) (hn:v'.ownBlock=v.ownBlock∨∀k,v'.ownBlock=some k ->w.heap.size<=k):kr w' B v' (Q++[(x,y)]) (P++[t]):=by
 have e1:(P++[t]).length=P.length+1:=by simp
 refine⟨by simp[h.len],by rw[e1,Nb];exact ho,fun k hk dH=>?_,fun R hR k hk dH=>?_⟩
 ·by_cases dX:k<P.length
  ·have gi:k<Q.length:=by rw[h.len];exact dX
   rw[uI gi,uI dX];exact(h.val k dX gi).keepR (fun r hr=>h.far r hr k dX gi) hg
  ·have gi:¬k<Q.length:=by rw[h.len];exact dX
   rw[Ac (by omega),Ac (by omega)];simp only[MQ];exact ht.keepR hf hg
 ·by_cases dX:k<P.length
  ·have gi:k<Q.length:=by rw[h.len];exact dX
   rw[uI gi,uI dX];rcases hn with hn |hn
   ·exact h.far R (by rw[<- hn];exact hR) k dX gi
   ·exact(h.val k dX gi).lt (hn R hR)
  ·have gi:¬k<Q.length:=by rw[h.len];exact dX
   rw[Ac (by omega),Ac (by omega)];simp only[MQ];rcases hn with hn |hn
   ·exact hf R (by rw[<- hn];exact hR)
   ·exact ht.lt (hn R hR)
theorem kr.under {B:Nat} {v:Value} (h:kr w B v Q P) (hb:Below w.heap.size w w'):kr w' B v Q P:=
 ⟨h.len,JR h.own (Dn.aa hb),fun k h1 h2=>(h.val k h1 h2).aa hb,h.far⟩
theorem kr.lt {B:Nat} {v:Value} (h:kr w B v Q P):∀R,v.ownBlock=some R ->B<=R/\R<w.heap.size:=fun R hR=>by
 rcases h.own.2 with ⟨h1,h2⟩ |⟨g,cap,cur,h1,h2,h3,_⟩
 ·rw[h1] at hR;cases hR
 ·rw[h1] at hR;cases hR;exact⟨h2,(eL.1 h3).1⟩
theorem fE.new {B R:Nat} {t:Tb} {b c:Option Addr} (hb:eC B b cb) (hc:eC B c cc) (hR:R<B):fE R t (.slice b n cb,.slice c m cc):=
 ⟨fun g o n' c' e _=>by
  injection e with e1 _ _;have:=hb.2 g o e1;omega,fun g o n' c' e _=>by
  injection e with e1 _ _;have:=hc.2 g o e1;omega⟩
theorem Tryz.infoTable:(Tryz.prog.info? 39).map (fun i=>(i.zero,i.size,i.bytes))=some (some (.agg #[.slice none 0 0,.slice none 0 0]),2,48):=by kernel_rfl
variable {D E c d:Nat} {p q:Rat}
def eP (D:Nat) (q:Rat):Prop:=∃z:Int,q=mkRat z D
theorem eP.own (q:Rat):eP q.den q:=⟨q.num,(Rat.mkRat_self q).symm⟩
theorem eP.zero (D:Nat):eP D 0:=⟨0,by simp⟩
theorem eP.one:eP 1 1:=⟨1,rfl⟩
theorem eP.add (hp:eP D p) (hq:eP D q):eP D (p+q):=by
 obtain⟨x,rfl⟩:=hp;obtain⟨y,rfl⟩:=hq;refine⟨x+y,?_⟩;rw[Rat.mkRat_eq_div,Rat.mkRat_eq_div,Rat.mkRat_eq_div,D8,D8,D8, <- Rat.add_mul,Rat.intCast_add]
theorem eP.mul (hp:eP D p) (hq:eP E q):eP (D*E) (p*q):=by
 obtain⟨x,rfl⟩:=hp;obtain⟨y,rfl⟩:=hq;exact⟨x*y,Rat.mkRat_mul_mkRat ..⟩
theorem eP.times (hD:D≠0) (h:eP D q) (hE:E≠0):eP (D*E) q:=by
 obtain⟨x,rfl⟩:=h;refine⟨x*E,?_⟩;rw[Rat.mkRat_eq_iff hD (Eb hD hE),iH,Int.mul_assoc,Int.mul_comm (E:Int)]
theorem eP.dvd (hD:D≠0) (h:eP D q):q.den∣D:=by
 obtain⟨x,rfl⟩:=h;rw[<- Rat.normalize_eq_mkRat hD,Rat.normalize_eq];exact Nat.div_dvd_of_dvd (Nat.gcd_dvd_right _ _)
def kX (c:Nat) (q:Rat):Prop:=0<=q/\q<=(c:Rat)
theorem eP.size (hD:D≠0) (h:eP D q) (hb:kX c q):qw q<=2*(B D).size+(B c).size:=by
 have hd:=Nat.le_of_dvd (lX hD) (h.dvd hD);have h1:=(Rat.le_iff _ _).1 hb.2;have h2:=Rat.num_nonneg.2 hb.1
 have h3:q.num.natAbs<=c*D:=by
  have e1:((c:Nat):Rat).num=(c:Int):=rfl;have e2:((c:Nat):Rat).den=1:=rfl;rw[e1,e2] at h1;have h4:(c:Int)*(q.den:Int)<=(c:Int)*(D:Int):=Int.mul_le_mul_of_nonneg_left (Int.ofNat_le.2 hd) (QQ c)
  have h5:q.num<=(c:Int)*(D:Int):=by
   (have:q.num*((1:Nat):Int)=q.num:=by simp);rw[this] at h1;exact Int.le_trans h1 h4
  have h6:((q.num.natAbs:Nat):Int)=q.num:=Int.natAbs_of_nonneg h2;have h7:((q.num.natAbs:Nat):Int)<=((c*D:Nat):Int):=by rw[h6,iH];exact h5
  exact Int.ofNat_le.1 h7
 have s1:=kj h3;have s2:=rz c D;have s3:=kj hd;simp only[qw];omega
theorem kX.mul (hp:kX c p) (hq:kX d q):kX (c*d) (p*q):=by
 refine⟨Rat.mul_nonneg hp.1 hq.1,?_⟩;rw[Rat.natCast_mul];exact Ca (Rat.mul_le_mul_of_nonneg_right hp.2 hq.1) (Rat.mul_le_mul_of_nonneg_left hq.2 (Ca hp.1 hp.2))
theorem kX.add (hp:kX c p) (hq:kX d q):kX (c+d) (p+q):=by
 refine⟨Rat.add_nonneg hp.1 hq.1,?_⟩;rw[Rat.natCast_add];exact Ca (Rat.add_le_add_right.2 hp.2) (Rat.add_le_add_left.2 hq.2)
theorem eP.sum {g:Nat ->Rat}:∀ {k:Nat},(∀x,x< k ->eP D (g x)) ->eP D (a8 g k)
 |0,_=>eP.zero D
 |k+1,h=>by rw[a8];exact(eP.sum fun x hx=>h x (by omega)).add (h k (Ja k))
theorem kX.sum {g:Nat ->Rat}:∀ {k:Nat},(∀x,x< k ->kX c (g x)) ->kX (k*c) (a8 g k)
 |0,_=>by rw[a8,jw];exact⟨zT,zT⟩
 |k+1,h=>by rw[a8,Nat.succ_mul];exact(kX.sum fun x hx=>h x (by omega)).add (h k (Ja k))
def ko (S:List Nat):List (Nat×Nat) ->List Tb ->List Tb
 |[],P=>P
 |p::l,P=>ko S l (P.map (gK S p.1 p.2))
def fC (free:List Nat):List (Nat×Nat) ->List Nat
 |[]=>free
 |p::l=>fC (free.filter fun u=>!(u==p.1)) l
theorem yK {u:Nat}:∀ {l:List (Nat×Nat)} {free:List Nat},u∈fC free l↔u∈free/\¬u∈l.map (·.1)
 |[],free=>⟨fun h=>⟨h,qG⟩,fun h=>h.1⟩
 |p::l,free=>by
  rw[fC,yK,gQ,dK,not_or,c4,and_assoc];refine and_congr Iff.rfl (and_congr ?_ Iff.rfl);simp
theorem J4:∀ {l:List (Nat×Nat)} {free:List Nat},free.Nodup ->(fC free l).Nodup
 |[],_,h=>h
 |p::l,free,h=>by rw[fC];exact J4 (h.filter _)
theorem PI.fixes (hp:Pos S):∀ {l:List (Nat×Nat)} {free:List Nat} {P:List Tb} {F:(Nat ->Nat) ->Rat},(l.map (·.1)).Nodup ->(∀p∈l,p.2<sz S p.1) ->PI S n free P F ->PI S n (fC free l) (ko S l P) (fun g=>F (cY l g))
 |[],_,_,_,_,_,h=>h
 |p::l,free,P,F,hn,hx,h=>by
  rw[gQ,pP] at hn;have nH:∀q∈l,q.1≠p.1:=fun q hq e=>hn.1 (by rw[<- e];exact bs.2 ⟨q,hq,rfl⟩);have:=PI.fixes hp hn.2 (fun q hq=>hx q (eE _ hq)) (h.fix hp (hx p dJ));refine⟨this.ok,this.sub,this.sup,fun g hg=>?_⟩;rw[ko,this.val g hg];show F (aQ (cY l g) p.1 p.2)=F (cY l (aQ g p.1 p.2));rw[Ns nH]
theorem NN.fixes (hp:Pos S):∀ {l:List (Nat×Nat)} {P:List Tb},(∀p∈l,p.2<sz S p.1) ->(∀t∈P,di S n t) ->NN S P ->NN S (ko S l P)
 |[],_,_,_,h=>h
 |p::l,P,hx,ho,h=>by
  rw[ko]
  exact NN.fixes hp (fun q hq=>hx q (eE _ hq)) (fun t ht=>by
   obtain⟨s,hs,rfl⟩:=bs.1 ht;exact(ho s hs).fix _ _) (h.fix hp ho (hx p dJ))
def iX (S:List Nat) (most:Bool) (keep:Nat ->Bool):List Nat ->List Tb ->List Tb
 |[],P=>P
 |v::vs,P=>iX S most keep vs (if keep v then P else lq S v most P)
theorem ZJ {u:Nat}:u∈free.filter (fun u=>!(u==v))↔u∈free/\u≠v:=by simp[c4]
theorem PI.outs (hp:Pos S) (keep:Nat ->Bool):∀(vs:List Nat) {free:List Nat} {P:List Tb} {F:(Nat ->Nat) ->Rat},PI S n free P F ->∃free',(∀u,u∈free'↔u∈free/\(u∈vs ->keep u=true))/\PI S n free' (iX S false keep vs P) (H6 S (vs.filter fun v=>!keep v) F)
 |[],free,P,F,h=>⟨free,fun u=>⟨fun h=>⟨h,fun e=>absurd e qG⟩,fun h=>h.1⟩,h⟩
 |v::vs,free,P,F,h=>by
  cases hk:keep v with
  |true=>
   obtain⟨free',h1,h2⟩:=PI.outs hp keep vs h;refine⟨free',fun u=>(h1 u).trans (and_congr Iff.rfl ⟨fun h hu=>?_,fun h hu=>h (eE _ hu)⟩),?_⟩
   ·rcases dK.1 hu with rfl |hu
    ·exact hk
    ·exact h hu
   ·rw[iX,ay hk,Ae (by simp[hk])];exact h2
  |false=>
   obtain⟨free',h1,h2⟩:=PI.outs hp keep vs (h.o hp v);refine⟨free',fun u=>(h1 u).trans ?_,?_⟩
   ·rw[ZJ,and_assoc];refine and_congr Iff.rfl ⟨fun h hu=>?_,fun h=>⟨fun e=>?_,fun hu=>h (eE _ hu)⟩⟩
    ·rcases dK.1 hu with e |hu
     ·exact absurd e h.1
     ·exact h.2 hu
    ·have:=h (by rw[e];exact dJ);rw[e,hk] at this;exact absurd this (by decide)
   ·rw[iX,az (by simp[hk]),Ad (by simp[hk])];exact h2
theorem PI.mosts (hp:Pos S) (keep:Nat ->Bool):∀(vs:List Nat) {free:List Nat} {P:List Tb} {F:(Nat ->Nat) ->Rat},PI S n free P F ->NN S P ->∃free',(∀u,u∈free'↔u∈free/\(u∈vs ->keep u=true))/\PI S n free' (iX S true keep vs P) (elimM S (vs.filter fun v=>!keep v) F)/\NN S (iX S true keep vs P)
 |[],free,P,F,h,hn=>⟨free,fun u=>⟨fun h=>⟨h,fun e=>absurd e qG⟩,fun h=>h.1⟩,h,hn⟩
 |v::vs,free,P,F,h,hn=>by
  cases hk:keep v with
  |true=>
   obtain⟨free',h1,h2⟩:=PI.mosts hp keep vs h hn;refine⟨free',fun u=>(h1 u).trans (and_congr Iff.rfl ⟨fun h hu=>?_,fun h hu=>h (eE _ hu)⟩),?_⟩
   ·rcases dK.1 hu with rfl |hu
    ·exact hk
    ·exact h hu
   ·rw[iX,ay hk,Ae (by simp[hk])];exact h2
  |false=>
   obtain⟨free',h1,h2⟩:=PI.mosts hp keep vs (h.most hp hn v).1 (h.most hp hn v).2;refine⟨free',fun u=>(h1 u).trans ?_,?_⟩
   ·rw[ZJ,and_assoc];refine and_congr Iff.rfl ⟨fun h hu=>?_,fun h=>⟨fun e=>?_,fun hu=>h (eE _ hu)⟩⟩
    ·rcases dK.1 hu with e |hu
     ·exact absurd e h.1
     ·exact h.2 hu
    ·have:=h (by rw[e];exact dJ);rw[e,hk] at this;exact absurd this (by decide)
   ·rw[iX,az (by simp[hk]),Ad (by simp[hk])];exact h2
def Low (l:List Fr):Prop:=∀f∈l,f=qF (aT f)
theorem Vq (S:List Nat) (P:List Tb):Low (allT S P).2:=by
 have:∀(P:List Tb) (a:Tb),Low a.2 ->Low (P.foldl (yH S) a).2:=fun P=>by
  induction P with
  |nil=>exact fun _ h=>h
  |cons t P ih=>
   intro a _;refine ih _ fun f hf=>?_;obtain⟨K,_,rfl⟩:=bs.1 hf;rw[qQ]
 exact this P Cu fun f hf=>by rw[fX.1 hf,qQ]
theorem Rh (hp:Pos S) {t:Tb} (ht:di S n t) (hl:Low t.2):t.2=(List.range (cnt S (ag t.1))).map fun K=>qF (tQ S (tN t) (aO S (ag t.1) K)):=by
 refine pS (by rw[ht.len];simp) fun K h1 h2=>?_;have hK:K<cnt S (ag t.1):=by rw[<- ht.len];exact h1
 have e:tQ S (tN t) (aO S (ag t.1) K)=aT (bA t.2 (pos S (aO S (ag t.1) K) (ag t.1))):=rfl;rw[og,qH,e,Nw hp ht.up.nodup hK,pz h1];exact hl _ (bH h1)
theorem PI.net (h0:aW V L R=0) (hlt:∀v∈ws,v<V.length) (hc:lT L (·∈ws)):PI (ah V) V.length ws (ws.map fun v=>(gU L v,gL V L R v)) (fun g=>dA V L R g ws):=by
 have aM:=gD h0
 have aX:∀v,v<V.length ->Up (gU L v) V.length:=fun v hv=>by
  have dG:v<L.length:=by rw[aM.len];exact hv
  have Lc:L.getD v []=L[v]:=by rw[List.getD_eq_getElem?_getD,List.getElem?_eq_getElem dG];rfl
  rw[gU,Lc];exact GI (aM.up v dG) (Q7 hv)
 have hin:∀v u,u∈ag (gU L v)↔u∈ag (L.getD v [])∨u=v:=fun v u=>by
  rw[gU,M9];refine or_congr Iff.rfl ?_;simp[ag]
 refine⟨fun t ht=>?_,fun t ht u hu=>?_,fun u hu=>?_,fun g hg=>?_⟩
 ·obtain⟨v,hv,rfl⟩:=bs.1 ht;exact⟨aX v (hlt v hv),by simp[gL]⟩
 ·obtain⟨v,hv,rfl⟩:=bs.1 ht;rcases (hin v u).1 hu with h |rfl
  ·exact hc v hv u h
  ·exact hv
 ·exact⟨_,bs.2 ⟨u,hu,rfl⟩,(hin u u).2 (.inr rfl)⟩
 ·have:∀ {vs:List Nat},(∀v∈vs,v<V.length) ->pQ (ah V) g ((vs.map fun v=>((gU L v,gL V L R v):Tb)).map tN)=dA V L R g vs:=fun {vs}=>by
   induction vs with
   |nil=>intro _;rfl
   |cons v vs ih=>
    intro h;rw[gQ,gQ,pQ,dA,ih fun u hu=>h u (eE _ hu)];congr 1
    exact Rj h0 (h v dJ) hg
  exact this hlt
theorem NN.net (h0:aW V L R=0) (hlt:∀v∈ws,v<V.length):NN (ah V) (ws.map fun v=>(gU L v,gL V L R v)):=fun t ht g hg=>by
 obtain⟨v,hv,rfl⟩:=bs.1 ht;exact akd h0 (hlt v hv) hg
theorem aaa:∀(l:List (Nat×Nat)) (F:(Nat ->Nat) ->Rat) (f:Nat ->Nat),(∀p∈l,¬p.1∈ws) ->eV S ws F (cY l f)=eV S ws (fun g=>F (cY l g)) f
 |[],_,_,_=>rfl
 |p::l,F,f,h=>by
  rw[cY,aaa l F _ fun q hq=>h q (eE _ hq),Sr _ ws f (h p dJ)];rfl
theorem acY:∀(a b:List (Nat×Nat)) (g:Nat ->Nat),jX (a++b) g=jX a g*jX b g
 |[],b,g=>by rw[iD,jX,vZ]
 |p::a,b,g=>by rw[fg,jX,jX,acY a b g,yj]
theorem Nt:∀(a b:List (Nat×Nat)) (g:Nat ->Nat),cY (a++b) g=cY b (cY a g)
 |[],_,_=>rfl
 |p::a,b,g=>by rw[fg,cY,Nt a b];rfl
def qV (S q:List Nat) (K:Nat):List (Nat×Nat):=q.map fun v=>(v,aO S q K v)
theorem RT (S q:List Nat) (K:Nat):(qV S q K).map (·.1)=q:=by
 rw[qV,wj];exact List.map_id' q
theorem agl {q:List Nat} (hn:q.Nodup) (K:Nat):cY (qV S q K) (fun _=>0)=aO S q K:=funext fun u=>by
 by_cases hu:u∈q
 ·exact G0 (p:=(u,aO S q K u)) ((RT S q K).symm▸hn) (bs.2 ⟨u,hu,rfl⟩) _
 ·rw[Cr (by rw[RT];exact hu),Bg hu]
theorem agm {q:List Nat} (hp:Pos S) (hn:q.Nodup) (hK:K<cnt S q) {g:Nat ->Nat} (hg:Fit S g):rI (qV S q K) g=decide (pos S g q=K):=by
 rw[ry,ei,rI,eJ];constructor
 ·intro h;rw[<- Nw hp hn hK];refine yD S fun u hu=>?_;exact eq_of_beq (h (u,aO S q K u) (bs.2 ⟨u,hu,rfl⟩))
 ·rintro rfl p hm;obtain⟨u,hu,rfl⟩:=bs.1 hm;exact rp.2 (Dl hp hg hn u hu).symm
theorem aiC (h0:aW V L R=0) {q:List Nat} {l:List (Nat×Nat)} (hn:ws.Nodup) (hlt:∀v∈ws,v<V.length) (hc:lT L (·∈ws)) (hl:(l.map (·.1)).Nodup) (Kj:∀p∈l,p.1∈ws) (hx:∀p∈l,p.2<sz (ah V) p.1) (hq:q.Nodup) (AW:∀v∈q,v∈ws/\¬v∈l.map (·.1)) (hK:K<cnt (ah V) q):
  H6 (ah V) ((fC ws l).filter fun v=>!q.contains v) (fun g=>dA V L R (cY l g) ws) (aO (ah V) q K)=a8 (fun k=>jX (qV (ah V) q K++l) (aO (ah V) (List.range V.length) k)*ji V L R (aO (ah V) (List.range V.length) k) V.length) (cnt (ah V) (List.range V.length)):=by
 have df:Pos (ah V):=by have:=(gD h0).fine.pos;rwa [ew] at this
 have Tm:∀u,u∈(fC ws l).filter (fun v=>!q.contains v)↔(u∈ws/\¬u∈l.map (·.1))/\¬u∈q:=fun u=>by
  rw[c4,yK,Ag, <- yr,lh]
 have hrn:((fC ws l).filter fun v=>!q.contains v).Nodup:=(J4 hn).filter _
 have hperm:ws.Perm ((qV (ah V) q K++l).map (·.1)++(fC ws l).filter fun v=>!q.contains v):=by
  rw[fY,RT];refine(Jd hn ?_).2 fun u=>?_
  ·refine Gq.2 ⟨Gq.2 ⟨hq,hl,fun a ha b hb e=>(AW a ha).2 (e▸hb)⟩,hrn,fun a ha b hb e=>?_⟩;obtain⟨⟨_,h1⟩,h2⟩:=(Tm b).1 hb;rcases dz.1 ha with ha |ha
   ·exact h2 (e▸ha)
   ·exact h1 (e▸ha)
  ·rw[dz,dz,Tm];constructor
   ·intro h;by_cases h1:u∈q
    ·exact .inl (.inl h1)
    ·by_cases h2:u∈l.map (·.1)
     ·exact .inl (.inr h2)
     ·exact .inr ⟨⟨h,h2⟩,h1⟩
   ·rintro((h |h) |h)
    ·exact(AW u h).1
    ·obtain⟨p,hp,rfl⟩:=bs.1 h;exact Kj p hp
    ·exact h.1.1
 rw[agq h0 hn hlt hc hperm (fun p hp=>by
  rcases dz.1 hp with hp |hp
  ·obtain⟨u,_,rfl⟩:=bs.1 hp;exact nN df q K u hK
  ·exact hx p hp),ala (List.Perm.refl _) hrn, <- agl hq K,aaa _ _ _ fun p hp=>?_]
 ·simp only[Nt]
 ·obtain⟨u,hu,rfl⟩:=bs.1 hp;exact fun h=>((Tm u).1 h).2 hu
structure qo (S:List Nat) (t:Tb) (D c:Nat):Prop where
 nz:D≠0
 one:1<=c
 isD:∀g,Fit S g ->eP D (tQ S (tN t) g)
 btw:∀g,Fit S g ->kX c (tQ S (tN t) g)
def PD (S:List Nat) (P:List Tb) (D c:Nat):Prop:=∀M:List Tb ->Nat ->Nat ->Prop,M [] 1 1 ->(∀t P D c E d,qo S t D c ->M P E d ->M (t::P) (D*E) (c*d)) ->M P D c
theorem PD.nil:PD S [] 1 1:=fun _ h1 _=>h1
theorem PD.cons {t:Tb} (h:qo S t D c) (hp:PD S P E d):PD S (t::P) (D*E) (c*d):=fun M h1 h2=>h2 _ _ _ _ _ _ h (hp M h1 h2)
theorem PD.ind {M:∀P D c,PD S P D c ->Prop} (nil:M [] 1 1 .nil) (cons:∀ {t:Tb} {P:List Tb} {D c E d:Nat} (h:qo S t D c) (hp:PD S P E d),M P E d hp ->M (t::P) (D*E) (c*d) (.cons h hp)):∀ {P:List Tb} {D c:Nat} (h:PD S P D c),M P D c h:=fun {_ _ _} h=>by
 obtain⟨_,k⟩:=h (fun P D c=>∃h,M P D c h) ⟨_,nil⟩ (fun _ _ _ _ _ _ ht ⟨_,ih⟩=>⟨_,cons ht _ ih⟩);exact k
theorem PD.nz (h:PD S P D c):D≠0/\1<=c:=by
 induction h using PD.ind with
 |nil=>exact⟨by decide,by decide⟩
 |cons ht _ ih=>exact⟨Eb ht.nz ih.1,iW ht.one ih.2⟩
theorem PD.append {Q:List Tb} (h:PD S P D c) (hq:PD S Q E d):PD S (P++Q) (D*E) (c*d):=by
 induction h using PD.ind with
 |nil=>rw[kB,kB];exact hq
 |cons ht _ ih=>rw[il,il];exact PD.cons ht ih
theorem PD.single {t:Tb} (h:qo S t D c):PD S [t] D c:=by
 have:=PD.cons h (PD.nil (S:=S));rwa [mN,mN] at this
theorem PD.parts (p:Tb ->Bool) (h:PD S P D c):∃D1 c1 D2 c2,PD S (P.filter fun t=>!p t) D1 c1/\PD S (P.filter p) D2 c2/\D1*D2=D/\c1*c2=c:=by
 induction h using PD.ind with
 |nil=>exact⟨1,1,1,1,.nil,.nil,rfl,rfl⟩
 | @cons t P D c E d ht _ ih=>
  obtain⟨D1,c1,D2,c2,h1,h2,rfl,rfl⟩:=ih;cases hp:p t with
  |false=>
   refine⟨D*D1,c*c1,D2,c2,?_,?_,il ..,il ..⟩
   ·rw[Ad (by simp[hp])];exact .cons ht h1
   ·rw[Ae (by simp[hp])];exact h2
  |true=>
   refine⟨D1,c1,D*D2,c*c2,?_,?_,zW ..,zW ..⟩
   ·rw[Ae (by simp[hp])];exact h1
   ·rw[Ad hp];exact .cons ht h2
theorem PD.prod (h:PD S P D c) {g:Nat ->Nat} (hg:Fit S g):eP D (pQ S g (P.map tN))/\kX c (pQ S g (P.map tN)):=by
 induction h using PD.ind with
 |nil=>exact⟨eP.one,by rw[ld,pQ];exact⟨by decide,by decide⟩⟩
 |cons ht _ ih=>rw[gQ,pQ];exact⟨(ht.isD g hg).mul ih.1,(ht.btw g hg).mul ih.2⟩
theorem PD.all (hp:Pos S) (ho:∀t∈P,di S n t) (h:PD S P D c):qo S (allT S P) D c:=by
 obtain⟨_,_,h3⟩:=xH hp ho;exact⟨h.nz.1,h.nz.2,fun g hg=>by rw[h3 g hg];exact(h.prod hg).1,fun g hg=>by rw[h3 g hg];exact(h.prod hg).2⟩
theorem qo.o (hp:Pos S) {t:Tb} (ho:di S n t) (h:qo S t D c) (v:Nat):qo S (outT S v false t) D (sz S v*c):=by
 have e:∀g,Fit S g ->tQ S (tN (outT S v false t)) g=a8 (fun x=>tQ S (tN t) (aQ g v x)) (sz S v):=fun g hg=>X1 hp (tI ho.up _).nodup (Cy ho.up v) _ hg;refine⟨h.nz,iW (im hp v) h.one,fun g hg=>?_,fun g hg=>?_⟩
 ·rw[e g hg];exact eP.sum fun x hx=>h.isD _ (hg.with hx)
 ·rw[e g hg];exact kX.sum fun x hx=>h.btw _ (hg.with hx)
theorem qo.most (hp:Pos S) {t:Tb} (ho:di S n t) (h:qo S t D c) (v:Nat):qo S (outT S v true t) D c:=by
 have hsz:=im hp v
 have e:∀g,Fit S g ->∃x,x<sz S v/\tQ S (tN (outT S v true t)) g=tQ S (tN t) (aQ g v x):=fun g hg=>by
  have e1:tQ S (tN (outT S v true t)) g=jz true (fun x=>tQ S (tN t) (aQ g v x)) (sz S v - 1):=X3 hp (tI ho.up _).nodup (Cy ho.up v) _ hg;obtain⟨x,hx,e2⟩:=G8 (fun x=>tQ S (tN t) (aQ g v x)) (sz S v - 1);exact⟨x,by omega,e1.trans e2⟩
 refine⟨h.nz,h.one,fun g hg=>?_,fun g hg=>?_⟩
 ·obtain⟨x,hx,e⟩:=e g hg;rw[e];exact h.isD _ (hg.with hx)
 ·obtain⟨x,hx,e⟩:=e g hg;rw[e];exact h.btw _ (hg.with hx)
theorem qo.fix (hp:Pos S) {t:Tb} (ho:di S n t) (h:qo S t D c) {x:Nat} (hx:x<sz S v):qo S (gK S v x t) D c:=by
 have e:∀g,Fit S g ->tQ S (tN (gK S v x t)) g=tQ S (tN t) (aQ g v x):=fun g hg=>Rk hp (tI ho.up _).nodup (Cy ho.up v) _ hg;exact⟨h.nz,h.one,fun g hg=>by rw[e g hg];exact h.isD _ (hg.with hx),fun g hg=>by rw[e g hg];exact h.btw _ (hg.with hx)⟩
theorem PD.o (hp:Pos S) (ho:∀t∈P,di S n t) (h:PD S P D c) (v:Nat):PD S (lq S v false P) D (sz S v*c):=by
 obtain⟨D1,c1,D2,c2,h1,h2,rfl,rfl⟩:=h.parts fun t=>decide (v∈ag t.1);have ho2:∀t∈P.filter (fun t=>decide (v∈ag t.1)),di S n t:=fun t ht=>ho t (c4.1 ht).1;have:=h1.append (PD.single ((h2.all hp ho2).o hp (xH hp ho2).1 v));rw[zW] at this;exact this
theorem PD.most (hp:Pos S) (ho:∀t∈P,di S n t) (h:PD S P D c) (v:Nat):PD S (lq S v true P) D c:=by
 obtain⟨D1,c1,D2,c2,h1,h2,rfl,rfl⟩:=h.parts fun t=>decide (v∈ag t.1);have ho2:∀t∈P.filter (fun t=>decide (v∈ag t.1)),di S n t:=fun t ht=>ho t (c4.1 ht).1;exact h1.append (PD.single ((h2.all hp ho2).most hp (xH hp ho2).1 v))
theorem PD.fix (hp:Pos S) (h:PD S P D c) (ho:∀t∈P,di S n t) {x:Nat} (hx:x<sz S v):PD S (P.map (gK S v x)) D c:=by
 induction h using PD.ind with
 |nil=>exact .nil
 |cons ht _ ih=>exact .cons (ht.fix hp (ho _ dJ) hx) (ih fun t h=>ho t (eE _ h))
theorem qo.size {t:Tb} (h:qo S t D c) {g:Nat ->Nat} (hg:Fit S g):qw (tQ S (tN t) g)<=2*(B D).size+(B c).size:=(h.isD g hg).size h.nz (h.btw g hg)
def vG:List Fr ->Nat
 |[]=>1
 |f::l=>(aT f).den*vG l
theorem Ld:∀l,vG l≠0
 |[]=>by decide
 |f::l=>Eb (aT f).den_nz (Ld l)
theorem acp:∀ {l:List Fr} {f:Fr},f∈l ->eP (vG l) (aT f)
 |g::l,f,h=>by
  rcases dK.1 h with rfl |h
  ·exact(eP.own _).times (aT f).den_nz (Ld l)
  ·rw[vG,dp];exact(acp h).times (Ld l) (aT g).den_nz
def eW (R:List (List Fr)):List Nat ->Nat
 |[]=>1
 |v::vs=>vG (R.getD v [])*eW R vs
theorem aiE (h0:aW V L R=0) (hv:v<V.length) (hf:Fit (ah V) f):aT (dF V L R f v)<=1:=by
 have h1:=row_one h0 hv hf
 have hle:∀ {g:Nat ->Rat} {k x:Nat},x< k ->(∀y,y< k ->0<=g y) ->g x<=a8 g k:=fun {g k x} hx hg=>by
  have nB:∀j,j<=k ->0<=a8 g j:=fun j=>by
   induction j with
   |zero=>intro _;exact zT
   |succ j ih=>intro hj;rw[a8];exact Rat.add_nonneg (ih (by omega)) (hg j (by omega))
  have:∀j,x< j ->j<=k ->g x<=a8 g j:=fun j=>by
   induction j with
   |zero=>intro h;omega
   |succ j ih=>
    intro h hj;rw[a8];rcases cD x j with hxj |hxj
    ·have h3:=(Rat.add_le_add_left (c:=a8 g j)).2 (hg j (by omega));rw[Ea] at h3;exact Ca (ih hxj (by omega)) h3
    ·have e:x=j:=by omega
     have h3:=(Rat.add_le_add_right (c:=g j)).2 (nB j (by omega));rw[Rat.zero_add] at h3;rw[e];exact h3
  exact this k hx (ar _)
 have h2:=hle (g:=fun x=>aT (dF V L R (aQ f v x) v)) (k:=sz (ah V) v) (hf v) fun y hy=>N5 h0 hv (hf.with hy);rw[h1] at h2;simpa only[Xz] using h2
theorem PD.net (h0:aW V L R=0):∀ {ws:List Nat},(∀v∈ws,v<V.length) ->PD (ah V) (ws.map fun v=>(gU L v,gL V L R v)) (eW R ws) 1
 |[],_=>.nil
 |v::ws,h=>by
  have hv:=h v dJ;have aM:=gD h0;have dG:v<L.length:=by rw[aM.len];exact hv
  have kn:v<R.length:=by rw[aM.lenR];exact hv
  have ht:qo (ah V) (gU L v,gL V L R v) (vG (R.getD v [])) 1:=by
   have e:∀g,Fit (ah V) g ->tQ (ah V) (tN (gU L v,gL V L R v)) g=aT (dF V L R g v):=fun g hg=>Rj h0 hv hg;refine⟨Ld _,ar _,fun g hg=>?_,fun g hg=>?_⟩
   ·rw[e g hg,dF,bA];cases hk:(R.getD v [])[p6 (ah V) (ag (L.getD v [])) g v]? with
    |none=>exact⟨0,by rw[Option.getD_none];show aT y8=_;rw[show aT y8=0 from Jo rfl];simp⟩
    |some f=>exact acp (List.mem_of_getElem? hk)
   ·rw[e g hg];exact⟨N5 h0 hv hg,aiE h0 hv hg⟩
  exact PD.cons ht (PD.net h0 fun u hu=>h u (eE _ hu))
theorem akP (S:List Nat) (v x:Nat) (t:Tb):Low (gK S v x t).2:=fun f hf=>by
 obtain⟨K,_,rfl⟩:=bs.1 hf;rw[qQ]
theorem ag7 (S:List Nat) (v:Nat) (most:Bool) (t:Tb):Low (outT S v most t).2:=fun f hf=>by
 obtain⟨K,_,rfl⟩:=bs.1 hf;rw[qQ]
theorem akj (V:List Vr) (L:List (List Int)) (R:List (List Fr)) (v:Nat):Low (gL V L R v):=fun f hf=>by
 obtain⟨K,_,rfl⟩:=bs.1 hf;rw[qQ]
structure eX (S:List Nat) (n:Nat) (P:List Tb) (D c:Nat):Prop where
 ok:∀t∈P,di S n t
 pd:PD S P D c
 low:∀t∈P,Low t.2
theorem PD.each (h:PD S P D c):∀t∈P,∃E d,qo S t E d/\E<=D/\d<=c:=by
 induction h using PD.ind with
 |nil=>intro t ht;cases ht
 | @cons t P D c E d h1 h2 ih=>
  have hn:=h2.nz;have hE:=lX hn.1;intro u hu;rcases dK.1 hu with rfl |hu
  ·exact⟨D,c,h1,Nat.le_mul_of_pos_right D hE,Nat.le_mul_of_pos_right c hn.2⟩
  ·obtain⟨E',d',k1,k2,k3⟩:=ih u hu;exact⟨E',d',k1,aS k2 (zX E (lX h1.nz)),aS k3 (zX d h1.one)⟩
theorem PD.take (h:PD S P D c):∀k,∃E d,PD S (P.take k) E d/\E<=D/\d<=c:=by
 induction h using PD.ind with
 |nil=>intro k;exact⟨1,1,by rw[List.take_nil];exact .nil,ar _,ar _⟩
 | @cons t P D c E d h1 h2 ih=>
  have hn:=h2.nz;intro k;cases k with
  |zero=>
   exact⟨1,1,.nil,Nat.mul_pos (lX h1.nz) (lX hn.1),Nat.mul_pos h1.one hn.2⟩
  |succ k=>
   obtain⟨E',d',k1,k2,k3⟩:=ih k;exact⟨D*E',c*d',.cons h1 k1,kZ _ k2,kZ _ k3⟩
theorem PD.filter (h:PD S P D c) (p:Tb ->Bool):∃E d,PD S (P.filter p) E d/\E<=D/\d<=c:=by
 obtain⟨D1,c1,D2,c2,h1,h2,e1,e2⟩:=h.parts p;have n1:=h1.nz;have n2:=h2.nz;exact⟨D2,c2,h2,by rw[<- e1];exact zX _ (lX n1.1),by rw[<- e2];exact zX _ n1.2⟩
theorem X0 (hp:Pos S) {t:Tb} (ht:di S n t) (hl:Low t.2) (h:qo S t E d) (hE:E<=D) (hd:d<=c) (hm:2*(B D).size+(B c).size+2<=m):Cw m t.2:=fun k hk=>by
 have hK:k<cnt S (ag t.1):=by rw[<- ht.len];exact hk
 have e:bA t.2 k=qF (tQ S (tN t) (aO S (ag t.1) k)):=by
  rw[pz hk];have:=Rh hp ht hl;have h2:t.2[k]? =((List.range (cnt S (ag t.1))).map fun K=>qF (tQ S (tN t) (aO S (ag t.1) K)))[k]?:=by rw[<- this]
  rw[List.getElem?_eq_getElem hk,oh,QP hK] at h2;exact lV h2
 have hs:=h.size (g:=aO S (ag t.1) k) (fun u=>nN hp _ k u hK);have h1:=kj hE;have h3:=kj hd;rw[e];show (nu _).size+(de _).size+2<=m;have hq:(nu (tQ S (tN t) (aO S (ag t.1) k))).size+(de (tQ S (tN t) (aO S (ag t.1) k))).size=qw (tQ S (tN t) (aO S (ag t.1) k)):=rfl;omega
theorem eX.cw (hp:Pos S) (h:eX S n P D c) (hm:2*(B D).size+(B c).size+2<=m):∀t∈P,Cw m t.2:=fun t ht=>by
 obtain⟨E,d,k1,k2,k3⟩:=h.pd.each t ht;exact X0 hp (h.ok t ht) (h.low t ht) k1 k2 k3 hm
theorem eX.part (hp:Pos S) (h:eX S n P D c) (hm:2*(B D).size+(B c).size+2<=m) (k:Nat):di S n (allT S (P.take k))/\Cw m (allT S (P.take k)).2:=by
 obtain⟨E,d,k1,k2,k3⟩:=h.pd.take k;have ho:∀t∈P.take k,di S n t:=fun t ht=>h.ok t (MM ht);have h1:=(xH hp ho).1;exact⟨h1,X0 hp h1 (Vq S _) (PD.all hp ho k1) k2 k3 hm⟩
theorem eX.filter (h:eX S n P D c) (p:Tb ->Bool):∃E d,eX S n (P.filter p) E d/\E<=D/\d<=c:=by
 obtain⟨E,d,k1,k2,k3⟩:=h.pd.filter p;exact⟨E,d,⟨fun t ht=>h.ok t (c4.1 ht).1,k1,fun t ht=>h.low t (c4.1 ht).1⟩,k2,k3⟩
theorem eX.fix (hp:Pos S) (h:eX S n P D c) {x:Nat} (hx:x<sz S v):eX S n (P.map (gK S v x)) D c:=
 ⟨fun t ht=>by
  obtain⟨u,hu,rfl⟩:=bs.1 ht;exact(h.ok u hu).fix v x,h.pd.fix hp h.ok hx,fun t ht=>by
  obtain⟨u,_,rfl⟩:=bs.1 ht;exact akP S v x u⟩
theorem ZM (hp:Pos S) (h:∀t∈P,di S n t) (v:Nat) (most:Bool):∀t∈lq S v most P,di S n t:=fun t ht=>by
 rcases dz.1 ht with ht |ht
 ·exact h t (c4.1 ht).1
 ·rw[fX.1 ht];exact((xH hp fun u hu=>h u (c4.1 hu).1).1).o v most
theorem ZN (h:∀t∈P,Low t.2) (v:Nat) (most:Bool):∀t∈lq S v most P,Low t.2:=fun t ht=>by
 rcases dz.1 ht with ht |ht
 ·exact h t (c4.1 ht).1
 ·rw[fX.1 ht];exact ag7 S v most _
theorem eX.o (hp:Pos S) (h:eX S n P D c) (v:Nat):eX S n (lq S v false P) D (sz S v*c):=⟨ZM hp h.ok v false,h.pd.o hp h.ok v,ZN h.low v false⟩
theorem eX.most (hp:Pos S) (h:eX S n P D c) (v:Nat):eX S n (lq S v true P) D c:=⟨ZM hp h.ok v true,h.pd.most hp h.ok v,ZN h.low v true⟩
theorem aeB (a b c:Option Addr) (ca cb cc:Nat) (sizes vars:List Int) (l:List Fr) (w:World) (hs:ax w a sizes) (hv:ax w b vars) (hf:bZ w c l) (hn:sizes.length<=140737488355328) (hm:vars.length<=140737488355328) (hk:jr sizes vars l.length=0) (hw:Cw 100000 l) (dh:l.length<=10000):
  Calls Tryz.prog 50 #[.slice a sizes.length ca,.agg #[.slice b vars.length cb,.slice c l.length cc]] w fun e w'=>∃(d:Option Addr) (cd:Nat),e=.returned (.tuple #[.slice d (bM (ag sizes) (ag vars) (gM l (l.length - 1))).length cd,dP (qF (aT (bA l (gM l (l.length - 1))))),.int .i64 0])/\ax w' d (iL (bM (ag sizes) (ag vars) (gM l (l.length - 1))))/\Below w.heap.size w w':=by
 obtain⟨aJ,aX,hlc⟩:=xC hk;have i6:=alV hk;have hbl:=Ib l (l.length - 1);have ee:=fun V h1 h2=>Cm a b c ca cb cc l.length sizes vars V h1 h2 hn hm;rw[hk] at ee;have ee:=hid ee;have HJ:=hid (fun V B h1 h2 h3=>amx c cc l V B h1 h2 h3 i6 hw dh);have HA:=hid (fun V h1 h2=>amG a b ca cb sizes vars (gM l (l.length - 1)) V h1 h2 aJ aX (by omega));have hK:gM l (l.length - 1)<l.length:=by omega
 have hsz:=hw _ hK;obtain⟨g,o,rfl,hg,a0,a1,a2⟩:=hf _ hK;rw[<- pz hK] at a0 a1 a2;have HC:=hid (fun V:World=>Qw (w:=V) (aT (bA l (gM l (l.length - 1)))) rfl (show (bA l (gM l (l.length - 1))).2.1.size+(bA l (gM l (l.length - 1))).2.2.size<=100000 by omega));rw[K4];generalize aT (bA l (gM l (l.length - 1)))=r at *;generalize bA l (gM l (l.length - 1))=f at *;generalize gM l (l.length - 1)=K at *;generalize bM (ag sizes) (ag vars) K=ds at *;obtain⟨fn,fx,fy⟩:=f;simp only at a0 a1 a2 HC;have HS:=hid hs;have HV:=hid hv;have HF:=hid hf;clear hs hv hn hm hf hk aX aJ hlc hsz hw;have hH:BH w ((w.alloc (TC (.slice b vars.length cb) (.slice (some ⟨g,o,none⟩) l.length cc))).alloc (FC false ⟨#[]⟩ ⟨#[]⟩)) (.slice b vars.length cb) (.slice (some ⟨g,o,none⟩) l.length cc):=⟨(bh.at (w:=w) rfl _ _).alloc _,aC.at (w:=w.alloc (TC (.slice b vars.length cb) (.slice (some ⟨g,o,none⟩) l.length cc))) (by simp) _ _ _,((au _ w).alloc (ar _) _).alloc (by simp) _⟩;have c0:=hH.1.c0;have c1:=hH.1.c1;go_enter Tryz.func50,Tryz.ntmps50;go_wp2_with fail
 generalize ((w.alloc (TC (.slice b vars.length cb) (.slice (some ⟨g,o,none⟩) l.length cc))).alloc (FC false ⟨#[]⟩ ⟨#[]⟩))=W at *;refine(ee.o _ (HS.o.aa hH.2.2) (HV.o.aa hH.2.2)).af ?_;rintro e w1 ⟨rfl,hb1⟩;replace hH:=hH.step hb1;clear c0 c1 hb1;have H0:=hH.drew;go_upto_region 4 with fail
 go_region_held3 (fun u=>(u.cell? ⟨w.heap.size,0,none⟩=some (.slice b vars.length cb)/\u.cell? ⟨w.heap.size,1,none⟩=some (.slice (some ⟨g,o,none⟩) l.length cc))/\Hid (BH w u (.slice b vars.length cb) (.slice (some ⟨g,o,none⟩) l.length cc)))
  (first |exact H2.of |exact H1.of |exact H0.of)
  (first
   |(have HH:=H1;go_at_call 99;refine(HJ.o _ _ J7 hxc (HF.o.aa HH.2.2)).af ?_;rintro e w3 ⟨rfl,hb3⟩;have H2:=HH.step hb3)
   |(have HH:=H0;go_at_call 100;refine(akU _ _ _ _).af ?_;rintro e w2 ⟨rfl,J7,hxc,hb2⟩;have H1:=HH.step hb2))
 clear hH H0 H1 hb3 hb2 J7 hxc;have hH:=H2.drew;clear H2 HJ ee HF;go_upto_region 5 with fail
 refine jJ (S:=fun u=>u.cell? ⟨w.heap.size,0,none⟩=some (.slice b vars.length cb)/\u.cell? ⟨w.heap.size,1,none⟩=some (.slice (some ⟨g,o,none⟩) l.length cc)/\u.cell? ⟨g,o+K*3,none⟩=some (.bool fn)/\u.cell? ⟨g,o+K*3+1,none⟩=some (.string fx)/\u.cell? ⟨g,o+K*3+2,none⟩=some (.string fy)) (by kernel_rfl) (hH.ofF hg a0 a1 a2).1 (fun aq=>?_);generalize w3.drew=u0 at *;refine aw 0 (.slice a sizes.length ca) ?_;refine aw 1 (.pointer (some ⟨w.heap.size,0,none⟩)) ?_;refine aw 2 (.slice b vars.length cb) ?_;refine aw 3 (.int .i64 (K:Nat)) ?_;refine aw 5 (.pointer (some ⟨w.heap.size,1,none⟩)) ?_;refine aw 6 (.slice (some ⟨g,o,none⟩) l.length cc) ?_;refine aw 7 (.int .i64 (K:Nat)) ?_;refine aw 8 (.pointer (some ⟨g,o+K*3,none⟩)) ?_;refine aw 9 (.agg #[.bool fn,.string fx,.string fy]) ?_;refine aF [4] (cA ?_ aD);intro K' hK';go_simp;refine(HA.o _ (HS.o.aa hH.2.2) (HV.o.aa hH.2.2)).af ?_;rintro e u1 ⟨d,cd,rfl,hi,hb⟩;replace hH:=hH.step hb;refine hK'.o _ _ (hH.ofF hg a0 a1 a2).1 (fun ak=>?_);clear hK' K' aq;have aq:=ak;clear ak hb;refine aF [10] (cA ?_ aD);intro K' hK';go_simp;refine(HC.o _).af ?_;rintro e u2 ⟨rfl,hb⟩;replace hH:=hH.step hb;replace hi:=hi.aa hb;refine hK'.o _ _ (hH.ofF hg a0 a1 a2).1 (fun ak=>?_);clear hK' K' aq;have aq:=ak;clear ak hb;refine aw 11 (.slice d ds.length cd) ?_;have rF:=hH.2.1;obtain⟨k0,k1,k2,f0,f1,f2⟩:=rF.facts;refine aF [12] (cA ?_ aD);intro K' hK';go_simp;have hput:=rF.put (aH r) (nu r) (de r);replace hi:=hi.put3 rF (aH r) (nu r) (de r)
 have oL:=bF hH.2.2 (g:=w.heap.size+1) (by omega) (.bool (aH r)) (.string (nu r)) (.string (de r));have hTp:=((hH.1.off (w.heap.size+1) 0 (.bool (aH r)) (by omega)).off (w.heap.size+1) 1 (.string (nu r)) (by omega)).off (w.heap.size+1) 2 (.string (de r)) (by omega);generalize (((u2.setCell ⟨w.heap.size+1,0,none⟩ (.bool (aH r))).setCell ⟨w.heap.size+1,1,none⟩ (.string (nu r))).setCell ⟨w.heap.size+1,2,none⟩ (.string (de r)))=v9 at *;have hSp:v9.cell? ⟨w.heap.size,0,none⟩=some (.slice b vars.length cb)/\v9.cell? ⟨w.heap.size,1,none⟩=some (.slice (some ⟨g,o,none⟩) l.length cc)/\v9.cell? ⟨g,o+K*3,none⟩=some (.bool fn)/\v9.cell? ⟨g,o+K*3+1,none⟩=some (.string fx)/\v9.cell? ⟨g,o+K*3+2,none⟩=some (.string fy):=⟨hTp.c0,hTp.c1,(oL.cell (p:=⟨g,_,none⟩) hg).trans a0,(oL.cell (p:=⟨g,_,none⟩) hg).trans a1,(oL.cell (p:=⟨g,_,none⟩) hg).trans a2⟩;refine hK'.o _ _ hSp (fun ak=>?_);clear hK' K' aq;have aq:=ak;clear ak hSp;refine aw 13 (.int .i64 0) ?_;try simp only[gE,aP]
 refine dW (by kernel_rfl) ?_ _;go_wp2;refine bB (Eo hput rfl _ rfl) rfl ?_;exact⟨d,cd,rfl,hi,oL⟩
theorem aiH (w:World):
  Calls Tryz.prog 36 #[.agg #[.bool false,.string ⟨#[]⟩,.string ⟨#[]⟩]] w fun e w'=>e=.returned (.bool true)/\Below w.heap.size w w':=by
 go_enter Tryz.func36,Tryz.ntmps36;have hB0:Below w.heap.size w (w.alloc (FC false ⟨#[]⟩ ⟨#[]⟩)):=(au _ w).alloc (ar _) _;go_wp2_with fail
 go_quiet (fail)
 go_wp2;go_ret;exact⟨rfl,below_drewN hB0 _⟩
theorem Z0 (n:Bool) (x y:ByteArray) (w:World):
  Calls Tryz.prog 10 #[.agg #[.bool n,.string x,.string y],.int .i64 0,.agg #[.bool n,.string x,.string y],.int .i64 0] w fun e w'=>e=.returned (.bool true)/\Below w.heap.size w w':=by
 go_enter Tryz.func10,Tryz.ntmps10;have hB0:Below w.heap.size w ((w.alloc (FC n x y)).alloc (FC n x y)):=((au _ w).alloc (ar _) _).alloc (by simp) _;go_wp2;go_ret;exact⟨rfl,hB0⟩
theorem Z1 (k:Int) (hk:¬k=0) (w:World):
  Calls Tryz.prog 10 #[.agg #[.bool false,.string ⟨#[]⟩,.string ⟨#[]⟩],.int .i64 k,.agg #[.bool false,.string ⟨#[]⟩,.string ⟨#[]⟩],.int .i64 k] w fun e w'=>e=.returned (.bool true)/\Below w.heap.size w w':=by
 have hkb:(k==0)=false:=zQ.2 hk;go_enter Tryz.func10,Tryz.ntmps10;have hB0:Below w.heap.size w ((w.alloc (FC false ⟨#[]⟩ ⟨#[]⟩)).alloc (FC false ⟨#[]⟩ ⟨#[]⟩)):=((au _ w).alloc (ar _) _).alloc (by simp) _;go_wp2_with fail
 refine(aiH _).af ?_;rintro e w1 ⟨rfl,hb1⟩;have hB1:=hB0.trans (hb1.af hB0.size);go_wp2;go_ret;exact⟨rfl,hB1⟩
theorem YR (a b:Option Addr) (ca cb:Nat) (l:List Int) (w:World) (ha:ax w a l) (hb:ax w b l) (hn:l.length<=100000):
  Calls Tryz.prog 16 #[.slice a l.length ca,.slice b l.length cb] w fun e w'=>e=.returned (.bool true)/\Below w.heap.size w w':=by
 have HA:=hid ha;have HB:=hid hb;clear ha hb;go_enter Tryz.func16,Tryz.ntmps16;go_wp2_with fail
 go_loopw [5] (fun iv wr=>∃i:Nat,i<=l.length/\iv=.int .i64 i/\Hid (Below w.heap.size w wr)) (fun iv _=>l.length - (intOf iv).toNat)
 case atStart=>exact⟨0,aU _,rfl,au _ _⟩
 case round=>
  obtain⟨i,hi,rfl,HW⟩:=hrel;by_cases hlt:i<l.length
  ·obtain⟨g,o,rfl,hg,c0⟩:=(HA.o.aa HW.o) i hlt;obtain⟨g2,o2,rfl,hg2,c2⟩:=(HB.o.aa HW.o) i hlt;generalize l[i]=x at *;go_wp2_with fail
   go_quiet (fail)
   go_wp2;go_roundw
   case rel=>exact⟨i+1,by omega,by go_num,Fs HW.o _⟩
   case measure=>simp[intOf];omega
  ·obtain rfl:i=l.length:=by omega
   go_wp2;go_ret;exact⟨rfl,HW.o⟩
theorem afv (a b:Option Addr) (ca cb:Nat) (l:List Fr) (w:World) (ha:bZ w a l) (hb:bZ w b l) (hn:l.length<=100000):
  Calls Tryz.prog 45 #[.slice a l.length ca,.slice b l.length cb] w fun e w'=>e=.returned (.bool true)/\Below w.heap.size w w':=by
 have HA:=hid ha;have HB:=hid hb;clear ha hb;go_enter Tryz.func45,Tryz.ntmps45;go_wp2_with fail
 go_loopw [5] (fun iv wr=>∃i:Nat,i<=l.length/\iv=.int .i64 i/\Hid (Below w.heap.size w wr)) (fun iv _=>l.length - (intOf iv).toNat)
 case atStart=>exact⟨0,aU _,rfl,au _ _⟩
 case round=>
  obtain⟨i,hi,rfl,HW⟩:=hrel;by_cases hlt:i<l.length
  ·obtain⟨g,o,rfl,hg,a0,a1,a2⟩:=(HA.o.aa HW.o) i hlt;obtain⟨g2,o2,rfl,hg2,b0,b1,b2⟩:=(HB.o.aa HW.o) i hlt;generalize l[i]=f at *;obtain⟨fn,fx,fy⟩:=f;simp only at a0 a1 a2 b0 b1 b2;go_wp2_with fail
   go_quiet (fail)
   go_wp2;go_roundw
   case rel=>exact⟨i+1,by omega,by go_num,Fs HW.o _⟩
   case measure=>simp[intOf];omega
  ·obtain rfl:i=l.length:=by omega
   go_wp2;go_ret;exact⟨rfl,HW.o⟩
theorem afu (a b c d:Option Addr) (ca cb cc cd:Nat) (vars:List Int) (l:List Fr) (w:World) (ha:ax w a vars) (hb:bZ w b l) (hc:ax w c vars) (hd:bZ w d l) (hn:vars.length<=100000) (hm:l.length<=100000):
  Calls Tryz.prog 13 #[.agg #[.slice a vars.length ca,.slice b l.length cb],.agg #[.slice c vars.length cc,.slice d l.length cd]] w fun e w'=>e=.returned (.bool true)/\Below w.heap.size w w':=by
 have HA:=hid ha;have HB:=hid hb;have HC:=hid hc;have HD:=hid hd;clear ha hb hc hd;have hB:Below w.heap.size w ((w.alloc (TC (.slice a vars.length ca) (.slice b l.length cb))).alloc (TC (.slice c vars.length cc) (.slice d l.length cd))):=((au _ w).alloc (ar _) _).alloc (by simp) _;have h0:=(bh.at (w:=w) rfl (.slice a vars.length ca) (.slice b l.length cb)).alloc (TC (.slice c vars.length cc) (.slice d l.length cd));have h1:=bh.at (w:=w.alloc (TC (.slice a vars.length ca) (.slice b l.length cb))) (g:=w.heap.size+1) (by simp) (.slice c vars.length cc) (.slice d l.length cd);have k0:=h0.c0;have k1:=h1.c0;go_enter Tryz.func13,Tryz.ntmps13;go_wp2_with fail
 generalize ((w.alloc (TC (.slice a vars.length ca) (.slice b l.length cb))).alloc (TC (.slice c vars.length cc) (.slice d l.length cd)))=W at *;refine(YR a c ca cc vars _ (HA.o.aa hB) (HC.o.aa hB) hn).af ?_;rintro e w1 ⟨rfl,hb1⟩;replace hB:=hB.trans (hb1.af hB.size);replace h0:=h0.aa hb1 h0.lt;replace h1:=h1.aa hb1 h1.lt;clear k0 k1 hb1;have k0:=h0.c1;have k1:=h1.c1;go_wp2_with fail
 refine(afv b d cb cd l _ (HB.o.aa hB) (HD.o.aa hB) hm).af ?_;rintro e w2 ⟨rfl,hb2⟩;go_wp2;go_ret;exact⟨rfl,hB.trans (hb2.af hB.size)⟩
variable {g:Nat} {x':Value}
theorem bZ.farT {V:World} {c:Option Addr} {l:List Fr} (h:bZ V c l) (hb:bh V g x y) (hx:cM x) (hy:cM y) (j:Nat) (u:Value):bZ (V.setCell ⟨g,j,none⟩ u) c l:=fun k hk=>by
 obtain⟨g',o,rfl,hlt,h0,h1,h2⟩:=h k hk;obtain⟨a1,n1,c1,rfl⟩:=hx;obtain⟨a2,n2,c2,rfl⟩:=hy
 have hne:¬g'=g:=fun e=>by
  subst e;rw[cC V g' _ _ _ (0,0) hb] at h0;match hm:o+k*3 with
  |0=>rw[hm] at h0;simp at h0
  |1=>rw[hm] at h0;simp at h0
  |m+2=>rw[hm] at h0;simp at h0
 have far:∀i,(V.setCell ⟨g,j,none⟩ u).cell? ⟨g',i,none⟩=V.cell? ⟨g',i,none⟩:=fun i=>bX _ _ _ _ (fun e=>hne (bR Addr.block e).symm);exact⟨g',o,rfl,aR hlt (iG V _ _).size,(far _).trans h0,(far _).trans h1,(far _).trans h2⟩
theorem bZ.putT {V:World} {c:Option Addr} {l:List Fr} (h:bZ V c l) (hb:bh V g x y) (hx:cM x) (hy:cM y) (hx':cM x') (y':Value):bZ ((V.setCell ⟨g,0,none⟩ x').setCell ⟨g,1,none⟩ y') c l:=by
 have h1:bh (V.setCell ⟨g,0,none⟩ x') g x' y:=mM V g 0 _ _ x' hb;exact(h.farT hb hx hy 0 _).farT h1 hx' hy 1 _
section
attribute [local go_sem] Oper.semAt_some
theorem amF (a b:Option Addr) (ca cb:Nat) (sizes vars:List Int) (K:Nat) (w:World) (hs:ax w a sizes) (hv:ax w b vars) (aJ:eH sizes) (aX:Up vars sizes.length) (hK:K<cnt (ag sizes) (ag vars)):
  Calls Tryz.prog 102 #[.slice a sizes.length ca,.slice b vars.length cb,.int .i64 (K:Nat)] w fun e w'=>∃(g:Nat) (cc:Nat),e=.returned (.slice (some ⟨g,0,none⟩) (bM (ag sizes) (ag vars) K).length cc)/\w.heap.size<=g/\bV w' g (bM (ag sizes) (ag vars) K)/\Below w.heap.size w w':=by
 refine(gZ (n:=6)).1 ?_;have nD:=aJ.eight;have ly:=aX.length;have hsm:cnt (ag sizes) (ag vars)<=65536:=pw aJ.sz_le (by rw[cS];omega);have hmk:=fun V=>MD (P:=Tryz.prog) 27 3 (.int .i64 0) 8 Tryz.underlying27 Tryz.infoInt rfl .i64 .i64 vars.length (by omega) (by omega) V;have HS:=hid hs;have HV:=hid hv;have bC:=hid aJ;have gz:=hid aX;have pg:(bM (ag sizes) (ag vars) K).length=vars.length:=by rw[ue,cS]
 have qC:=hid (acX hK);rw[cS] at qC;rw[pg];clear hs hv aJ aX;refine tz Tryz.func102 rfl trivial ?_ rfl;simp only[Tryz.ntmps102,mP,eU,lg,Nat.reduceAdd,Nat.reduceSub,mV,mU,mQ,lZ,iD,fg];gi_wp2_with ((refine⟨trivial,?_⟩;gi_at_call 159;refine(Px _ _ _ _ _).af ?_;rintro e w2 ⟨rfl,rfl⟩))
 obtain⟨W0,hW0⟩:∃W0,W0=(((((w.alloc (.cells #[.slice a sizes.length ca] 27)).alloc (.cells #[.int .i64 (K:Nat)] 3)).alloc (.cells (madeCells #[.int .i64 0] vars.length) 3)).alloc (.cells #[.slice (some ⟨w.heap.size+1+1,0,none⟩) vars.length vars.length] 27)).alloc (.cells #[.slice b vars.length cb] 27)):=⟨_,rfl⟩;have vk:W0.heap.size=w.heap.size+1+1+1+1+1:=by rw[hW0];simp
 have b0:Boxed W0 w.heap.size 27 (.slice a sizes.length ca):=by rw[hW0];exact((((a7 w _ _).alloc _).alloc _).alloc _).alloc _
 have b1:Boxed W0 (w.heap.size+1) 3 (.int .i64 (K:Nat)):=by
  have h:=((((a7 (w.alloc (.cells #[.slice a sizes.length ca] 27)) 3 (.int .i64 (K:Nat))).alloc (.cells (madeCells #[.int .i64 0] vars.length) 3)).alloc (.cells #[.slice (some ⟨w.heap.size+1+1,0,none⟩) vars.length vars.length] 27)).alloc (.cells #[.slice b vars.length cb] 27));rw[cN] at h;rw[hW0];exact h
 have r2:bV W0 (w.heap.size+1+1) (List.replicate vars.length 0):=by
  have h:=((SL ((w.alloc (.cells #[.slice a sizes.length ca] 27)).alloc (.cells #[.int .i64 (K:Nat)] 3)) vars.length).alloc (.cells #[.slice (some ⟨w.heap.size+1+1,0,none⟩) vars.length vars.length] 27)).alloc (.cells #[.slice b vars.length cb] 27);rw[cN,cN] at h;rw[hW0];exact h
 have b3:Boxed W0 (w.heap.size+1+1+1) 27 (.slice (some ⟨w.heap.size+1+1,0,none⟩) vars.length vars.length):=by
  have h:=(a7 (((w.alloc (.cells #[.slice a sizes.length ca] 27)).alloc (.cells #[.int .i64 (K:Nat)] 3)).alloc (.cells (madeCells #[.int .i64 0] vars.length) 3)) 27 (.slice (some ⟨w.heap.size+1+1,0,none⟩) vars.length vars.length)).alloc (.cells #[.slice b vars.length cb] 27);rw[cN,cN,cN] at h;rw[hW0];exact h
 have b4:Boxed W0 (w.heap.size+1+1+1+1) 27 (.slice b vars.length cb):=by
  have h:=a7 ((((w.alloc (.cells #[.slice a sizes.length ca] 27)).alloc (.cells #[.int .i64 (K:Nat)] 3)).alloc (.cells (madeCells #[.int .i64 0] vars.length) 3)).alloc (.cells #[.slice (some ⟨w.heap.size+1+1,0,none⟩) vars.length vars.length] 27)) 27 (.slice b vars.length cb);rw[cN,cN,cN,cN] at h;rw[hW0];exact h
 have hB0:Below w.heap.size w W0:=by
  rw[hW0];exact(((((au _ w).alloc (ar _) _).alloc (by simp) _).alloc (by simp;omega) _).alloc (by simp;omega) _).alloc (by simp;omega) _
 rw[<- hW0];clear hW0
 refine I2 (α:=At vars) rfl (by omega) (gf:=201) (lb:= #[.pointer (some ⟨w.heap.size+1+1+1+1,0,none⟩)]) rfl trivial (enters_of Tryz.func201 (by kernel_rfl) rfl)
  (Pv 5 (by omega) (w.heap.size+1+1+1+1) w.heap.size b cb vars (by omega) W0 (by omega) (by omega) b4.cell (HV.o.toB.aa hB0)) qX.t (qX.b (by omega) (by omega)) (au _ _) (fun _=>rfl)
  (fun (pre:List (At vars)) V=>Boxed V w.heap.size 27 (.slice a sizes.length ca)/\Boxed V (w.heap.size+1) 3 (.int .i64 ((jF (ag sizes) (ag vars) K vars.length (pre.map (·.1))).1:Nat))/\bV V (w.heap.size+1+1) (jF (ag sizes) (ag vars) K vars.length (pre.map (·.1))).2/\Boxed V (w.heap.size+1+1+1) 27 (.slice (some ⟨w.heap.size+1+1,0,none⟩) vars.length vars.length)/\Boxed V (w.heap.size+1+1+1+1) 27 (.slice b vars.length cb)/\Below w.heap.size w V)
  (fun _ _ _=>False)
  (eI (fG (iC _ _ (fun _=>_)) _) (eI (fG (iC _ _ (fun pre:List (At vars)=>.int .i64 ((jF (ag sizes) (ag vars) K vars.length (pre.map (·.1))).1:Nat))) _) (eI (fG (GX _ (fun pre:List (At vars)=>(jF (ag sizes) (ag vars) K vars.length (pre.map (·.1))).2)) _) (eI (fG (iC _ _ (fun _=>_)) _) (eI (fG (iC _ _ (fun _=>_)) _) (yg (ar _) (by omega)))))))
  (fun _ _ _ _ _ hs _ _=>hs)
  ⟨b0,b1,r2,b3,b4,hB0⟩
  (fun x=> {tmps:= #[.slice a sizes.length ca,.slice b vars.length cb,.int .i64 (K:Nat),.pointer (some ⟨w.heap.size,0,none⟩),undef,.pointer (some ⟨w.heap.size+1,0,none⟩),.slice none 0 0,.pointer (some ⟨w.heap.size+1+1+1,0,none⟩),.int .i64 (x.1:Nat),.int .i64 (vars[x.1]'x.2),.slice b vars.length cb,.int .i64 (vars.length:Nat),.slice (some ⟨w.heap.size+1+1,0,none⟩) vars.length vars.length,.slice b vars.length cb,.func (.func 201) #[] #[.pointer (some ⟨w.heap.size+1+1+1+1,0,none⟩)],.int .i64 (x.1:Nat),.int .i64 (vars[x.1]'x.2),undef,undef,undef,undef,undef,undef,undef,undef,undef,undef,undef,undef,undef,undef,undef,undef],defers:=[]}) ?assign ?body ?done ?stop
 case assign=>
  intro l x V K hK;gi_wp2
  exact hK
 case body=>
  rintro l pre ⟨i,hi⟩ V ⟨h0,h1,h2,h3,h4,hB⟩ hlt;obtain⟨gO,gH⟩:=gz.o.nat hi
  have HST:Hid (jF (ag sizes) (ag vars) K vars.length ((pre++[(⟨i,hi⟩:At vars)]).map (·.1))=((jF (ag sizes) (ag vars) K vars.length (pre.map (·.1))).1/sz (ag sizes) vars[i].toNat,(jF (ag sizes) (ag vars) K vars.length (pre.map (·.1))).2.set i ((jF (ag sizes) (ag vars) K vars.length (pre.map (·.1))).1 % sz (ag sizes) vars[i].toNat))):=by
   show _=_;rw[fY,gQ,ld,Vm,Dj,A9 (show i<(ag vars).length by rw[cS];exact hi),o6 hi]
  obtain⟨jn,hpl⟩:=acV (ag sizes) (ag vars) K vars.length (pre.map (·.1));have hz:=im bC.o.pos vars[i].toNat;have tJ:=bC.o.sz_le vars[i].toNat;generalize hV:vars[i].toNat=v at *;rw[<- gO];obtain⟨g',o',rfl,iK,c1⟩:=(HS.o.aa hB) v gH;rw[<- bC.o.sz_eq gH] at c1
  have hg2:g'<w.heap.size:=by
   obtain⟨g3,o3,e3,h3,_⟩:=HS.o v gH;cases e3;exact h3
  clear gO hV;generalize jF (ag sizes) (ag vars) K vars.length (pre.map (·.1))=st at *;obtain⟨p,at0⟩:=st;simp only at h1 h2 jn hpl HST;generalize sz (ag sizes) v=s0 at *;have hrow:=h2.cell i (by omega);have hfz:=h2.fz i;have k0:=h0.cell;have k1:=h1.cell;have k3:=h3.cell;have f1:=h1.frozen;have rG:(p:Int) % (s0:Int)=((p % s0:Nat):Int):=(Af _ _).symm;have lB:(p:Int)/(s0:Int)=((p/s0:Nat):Int):=(tC _ _).symm;have hm1:p % s0<=65536:=aS (Nat.mod_le _ _) (by omega);have bq:p/s0<=65536:=aS (wh _ _) (by omega);generalize p % s0=mm at *;generalize p/s0=dd at *;have hz1:¬(s0:Int)=0:=by omega
  have abc:¬w.heap.size+1+1=w.heap.size+1:=by omega
  have ajo:¬w.heap.size+1=w.heap.size+1+1:=by omega
  have eN:i<at0.length:=by omega
  generalize at0[i]=z at *;have hw1:IntKind.i64.wrap ((p:Int) % (s0:Int))=(p:Int) % (s0:Int):=by rw[rG,eo];omega
  have hw2:IntKind.i64.wrap ((p:Int)/(s0:Int))=(p:Int)/(s0:Int):=by rw[lB,eo];omega
  have gA:=hid rG;have fp:=hid lB;clear rG lB;clear hmk b0 b1 r2 b3 b4 hB0 vk pg qC gz bC HV hsm hK hpl;gi_wp2_with fail
  refine uL (fun u=>u.cell? ⟨w.heap.size+1+1+1,0,none⟩=some (.slice (some ⟨w.heap.size+1+1,0,none⟩) vars.length vars.length)/\u.cell? ⟨w.heap.size+1,0,none⟩=some (.int .i64 (p:Nat))/\u.cell? ⟨w.heap.size,0,none⟩=some (.slice (some ⟨g',o',none⟩) sizes.length ca)/\u.cell? ⟨g',o'+v,none⟩=some (.int .i64 (s0:Nat))) (by kernel_rfl) (by kernel_rfl) (fun ⟨_,_,h⟩=>h) ⟨k3,k1,k0,c1⟩ ?_;intro aq;refine cK 0 (.slice (some ⟨w.heap.size+1+1,0,none⟩) vars.length vars.length) ?_ ?_
  ·intro u aL;obtain⟨s1,s2,s3,s4⟩:=aL;simp only[gE];go_simp
  simp only[gE,aP];refine cK 1 (.int .i64 (i:Nat)) ?_ ?_
  ·intro u aL;obtain⟨s1,s2,s3,s4⟩:=aL;simp only[gE];go_simp
  simp only[gE,aP];refine cK 2 (.int .i64 (p:Nat)) ?_ ?_
  ·intro u aL;obtain⟨s1,s2,s3,s4⟩:=aL;simp only[gE];go_simp
  simp only[gE,aP];refine cK 3 (.slice (some ⟨g',o',none⟩) sizes.length ca) ?_ ?_
  ·intro u aL;obtain⟨s1,s2,s3,s4⟩:=aL;simp only[gE];go_simp
  simp only[gE,aP];refine cK 4 (.int .i64 (v:Nat)) ?_ ?_
  ·intro u aL;obtain⟨s1,s2,s3,s4⟩:=aL;simp only[gE];go_simp
  simp only[gE,aP];refine cK 5 (.pointer (some ⟨g',o'+v,none⟩)) ?_ ?_
  ·intro u aL;obtain⟨s1,s2,s3,s4⟩:=aL;simp only[gE];go_simp
  simp only[gE,aP];refine cK 6 (.int .i64 (s0:Nat)) ?_ ?_
  ·intro u aL;obtain⟨s1,s2,s3,s4⟩:=aL;simp only[gE];go_simp
  simp only[gE,aP];refine cK 7 (.int .i64 ((p:Int) % (s0:Int))) ?_ ?_
  ·intro u aL;obtain⟨s1,s2,s3,s4⟩:=aL;simp only[gE];go_simp;rw[az (show ¬s0=0 by omega),Xk (QQ _)]
  simp only[gE,aP];refine cK 8 (.pointer (some ⟨w.heap.size+1+1,i,none⟩)) ?_ ?_
  ·intro u aL;obtain⟨s1,s2,s3,s4⟩:=aL;simp only[gE];go_simp
  simp only[gE,aP];refine aF [9] (cA ?_ aD);intro K' hK';simp only[gE];go_simp;have far:∀(b j:Nat) (y:Value),¬w.heap.size+1+1=b ->(V.setCell ⟨w.heap.size+1+1,i,none⟩ y).drew.cell? ⟨b,j,none⟩=V.cell? ⟨b,j,none⟩:=fun b j y hb=>bX _ _ _ _ (fun e=>hb (by cases e;rfl));refine hK'.o _ _ ⟨(far _ _ _ (by omega)).trans k3,(far _ _ _ (by omega)).trans k1,(far _ _ _ (by omega)).trans k0,(far _ _ _ (by omega)).trans c1⟩ (fun _=>dW (by kernel_rfl) ?_ _);clear hK' K' aq;have m0:=(far w.heap.size 0 (.int .i64 ((p:Int) % (s0:Int))) (by omega)).trans k0;have m1:=(far (w.heap.size+1) 0 (.int .i64 ((p:Int) % (s0:Int))) (by omega)).trans k1;have m2:=(far g' (o'+v) (.int .i64 ((p:Int) % (s0:Int))) (by omega)).trans c1;have hr1:=h2.set i mm;rw[<- gA.o] at hr1;have q0:Boxed (V.setCell ⟨w.heap.size+1+1,i,none⟩ (.int .i64 ((p:Int) % (s0:Int)))).drew w.heap.size 27 (.slice (some ⟨g',o',none⟩) sizes.length ca):=eO h0 _ i _ (by omega);have q1:Boxed (V.setCell ⟨w.heap.size+1+1,i,none⟩ (.int .i64 ((p:Int) % (s0:Int)))).drew (w.heap.size+1) 3 (.int .i64 (p:Nat)):=eO h1 _ i _ (by omega);have q3:Boxed (V.setCell ⟨w.heap.size+1+1,i,none⟩ (.int .i64 ((p:Int) % (s0:Int)))).drew (w.heap.size+1+1+1) 27 (.slice (some ⟨w.heap.size+1+1,0,none⟩) vars.length vars.length):=eO h3 _ i _ (by omega);have q4:Boxed (V.setCell ⟨w.heap.size+1+1,i,none⟩ (.int .i64 ((p:Int) % (s0:Int)))).drew (w.heap.size+1+1+1+1) 27 (.slice b vars.length cb):=eO h4 _ i _ (by omega)
  have q2:bV (V.setCell ⟨w.heap.size+1+1,i,none⟩ (.int .i64 ((p:Int) % (s0:Int)))).drew (w.heap.size+1+1) (at0.set i mm):=hr1;have qB:Below w.heap.size w (V.setCell ⟨w.heap.size+1+1,i,none⟩ (.int .i64 ((p:Int) % (s0:Int)))).drew:=(hB.setCell (p:=⟨w.heap.size+1+1,i,none⟩) (by simp;omega) _).drew;have qK:Below w.heap.size V (V.setCell ⟨w.heap.size+1+1,i,none⟩ (.int .i64 ((p:Int) % (s0:Int)))).drew:=((au w.heap.size V).setCell (p:=⟨w.heap.size+1+1,i,none⟩) (by simp;omega) _).drew;have qO:KeepsOthers V (V.setCell ⟨w.heap.size+1+1,i,none⟩ (.int .i64 ((p:Int) % (s0:Int)))).drew:=(iG V _ _).trans (wk _);have fU:=q1.frozen;have j4:nR (w.heap.size+1+1+1+1) V (V.setCell ⟨w.heap.size+1+1,i,none⟩ (.int .i64 ((p:Int) % (s0:Int)))).drew:=q4.cell.trans h4.cell.symm;clear far;generalize (V.setCell ⟨w.heap.size+1+1,i,none⟩ (.int .i64 ((p:Int) % (s0:Int)))).drew=U at *;gi_wp2_with fail
  refine uL (fun u=>u.cell? ⟨w.heap.size,0,none⟩=some (.slice (some ⟨g',o',none⟩) sizes.length ca)/\u.cell? ⟨g',o'+v,none⟩=some (.int .i64 (s0:Nat))) (by kernel_rfl) (by kernel_rfl) (fun ⟨_,_,h⟩=>h) ⟨m0,m2⟩ ?_;intro aq;refine cK 1 (.slice (some ⟨g',o',none⟩) sizes.length ca) ?_ ?_
  ·intro u aL;obtain⟨s3,s4⟩:=aL;simp only[gE];go_simp
  simp only[gE,aP];refine cK 2 (.int .i64 (v:Nat)) ?_ ?_
  ·intro u aL;obtain⟨s3,s4⟩:=aL;simp only[gE];go_simp
  simp only[gE,aP];refine cK 3 (.pointer (some ⟨g',o'+v,none⟩)) ?_ ?_
  ·intro u aL;obtain⟨s3,s4⟩:=aL;simp only[gE];go_simp
  simp only[gE,aP];refine cK 4 (.int .i64 (s0:Nat)) ?_ ?_
  ·intro u aL;obtain⟨s3,s4⟩:=aL;simp only[gE];go_simp
  simp only[gE,aP];refine aF [0] (cA ?_ aD);intro K' hK';simp only[gE];go_simp;refine hK'.o _ _ aq (fun _=>?_);clear hK' K';refine cK 5 (.int .i64 ((p:Int)/(s0:Int))) ?_ ?_
  ·intro u aL;obtain⟨s3,s4⟩:=aL;simp only[gE];go_simp;omega
  simp only[gE,aP];refine aF [6] (cA ?_ aD);intro K' hK';simp only[gE];go_simp;refine hK'.o _ _ ⟨(eO q0 (w.heap.size+1) 0 _ (by omega)).cell,(bX _ _ _ _ (fun e=>(show ¬w.heap.size+1=g' by omega) (bR Addr.block e))).trans m2⟩ (fun _=>dW (by kernel_rfl) ?_ _);clear hK' K' aq;gi_wp2
  rw[fp.o];refine⟨(qO.trans ((iG U _ _).trans (wk _))).from _,⟨j4.t ((eO q4 (w.heap.size+1) 0 (.int .i64 (dd:Nat)) (by omega)).cell.trans q4.cell.symm),(qK.setCell (p:=⟨w.heap.size+1,0,none⟩) (by simp) _).drew⟩,?_⟩;refine⟨eO q0 _ 0 _ (by omega),?_,?_,eO q3 _ 0 _ (by omega),eO q4 _ 0 _ (by omega),(qB.setCell (p:=⟨w.heap.size+1,0,none⟩) (by simp) _).drew⟩
  ·rw[HST.o];exact q1.set _
  ·rw[HST.o];exact q2.off _ 0 _ (by omega)
 case done=>
  rintro D ys V hD yL ⟨h0,h1,h2,h3,h4,hB⟩ hK;rw[yL,qC.o] at h2;have hc:=h3.cell;gi_wp2
  refine⟨by simp,.inl ⟨_,_,rfl,zN hK,?_⟩⟩;refine⟨_,zO rfl _ _ _,?_⟩;refine⟨w.heap.size+1+1,⟨vars.length,rfl⟩,by omega,?_,hB.trans (tA (w:=w) (ar _) V D _ _ (by omega) hK rfl rfl)⟩;have h2':bV (V.putObj D (.deferred none)) (w.heap.size+1+1) (bM (ag sizes) (ag vars) K):=GX (w.heap.size+1+1) (fun (_:Unit)=>bM (ag sizes) (ag vars) K) () V _ (some D) h2 (MG V D _) (fun r e=>by cases e;exact⟨_,hK,rfl⟩);exact h2'
 case stop=>
  rintro D c pre V _ _ h _;exact h.elim
theorem aer (a b:Option Addr) (ca cb K:Nat) (sizes vars:List Int) (w:World) (hs:ax w a sizes) (hv:ax w b vars) (aJ:eH sizes) (aX:Up vars sizes.length) (hK:K<cnt (ag sizes) (ag vars)):
  Calls Tryz.prog 150 #[.slice a sizes.length ca,.slice b vars.length cb,.int .i64 (K:Nat)] w fun e w'=>∃(g:Nat) (cc:Nat),e=.returned (.tuple #[.slice (some ⟨g,0,none⟩) vars.length cc,.int .i64 0])/\w.heap.size<=g/\bV w' g (bM (ag sizes) (ag vars) K)/\Below w.heap.size w w':=by
 have nD:=aJ.eight;have ly:=aX.length;have HS:=hid hs;have HV:=hid hv;have hcb:countB sizes vars=true:=Fk aJ aX;have HC:=hid (fun V h1 h2=>Nc a b ca cb sizes vars V h1 h2 (by omega) (by omega));rw[Fl hcb] at HC;simp only at HC;have HA:=hid (fun V h1 h2=>amF a b ca cb sizes vars K V h1 h2 aJ aX hK);have pg:(bM (ag sizes) (ag vars) K).length=vars.length:=by rw[ue,cS]
 rw[pg] at HA;clear hs hv hcb aJ aX pg;generalize bM (ag sizes) (ag vars) K=ds at *;generalize cnt (ag sizes) (ag vars)=N0 at *;have hk0:(0:Int)<=(K:Int):=by omega
 have yU:(K:Int)<(N0:Int):=by omega
 go_enter Tryz.func150,Tryz.ntmps150;go_wp2_with fail
 refine(HC.o _ HS.o HV.o).af ?_;rintro e w1 ⟨rfl,hb1⟩;go_wp2_with fail
 refine(HA.o _ (HS.o.aa hb1) (HV.o.aa hb1)).af ?_;rintro e w2 ⟨c,cc,rfl,hge,jP,hb2⟩;have hs1:=hb1.size;go_wp2;go_ret2;exact⟨c,cc,rfl,by omega,jP,hb1.trans (hb2.af hb1.size)⟩
end
open Go.Sort Go.Lib
variable {la:List Int} {A:List Nat} {Ab:Nat} {z:Value} {wr wr':World}
theorem aeW {ad:Addr} (hi:ax w (some ad) la):∀j u,(la.map (Value.int .i64))[j]? =some u ->w.cell? (ad.add j)=some u:=by
 intro j u hj;rw[oh] at hj;cases hq:la[j]? with
 |none=>rw[hq] at hj;cases hj
 |some z=>
  rw[hq] at hj;cases hj;obtain⟨CO,Hp⟩:=o0.1 hq;obtain⟨g,o',e,_,hc⟩:=hi j CO;cases e;rw[<- Hp];rw[Addr.add];by_cases h0:j=0
  ·subst h0;simpa using hc
  ·simpa [h0] using hc
theorem aba {cs:Array Value} (h:w.heap[g]? =some (.cells cs 3 (0,0))) (hl:∀j (hj:j<l.length),cs[j]? =some (.int .i64 l[j])):Holds (Value.int .i64) w g 0 l.toArray:=fun j hj=>by
 have hj':j<l.length:=by simpa using hj
 refine⟨?_,pN w g (0+j) _ _ h⟩;rw[bT,cC w g j _ _ (0,0) h,hl j hj',I6 l.toArray j hj];simp
theorem adK {o:Oper} {a:Act} {K:Act ->World ->Prop} {Q:Exit ->Act ->World ->Prop} (s x:Operand)
  (ho:o.op=.call {callee:=.builtin .append,args:= #[s,x],argTypes:= #[27,27]}) (gb:Nat) (z:Int) (la:List Int) (hs:a.eval s=.slice (some ⟨gb,0,none⟩) 1 1) (hown:w.heap[gb]? =some (.cells #[.int .i64 z] 3 (0,0))) (p:Option Addr) (ca:Nat) (hx:a.eval x=.slice p la.length ca) (hi:ax w p la) (hp:p=none ->ca=0) (hlen:la.length<=100000)
  (h:∀D cap w',(D=gb∨w.heap.size<=D) ->D<w'.heap.size ->Holds (Value.int .i64) w' D 0 ([z]++la).toArray ->w.grownBy w' (some gb) ->K (a.put o.dst (.slice (some ⟨D,0,none⟩) ([z]++la).length cap)) w'):o.wp Tryz.prog a w K Q:=by
 obtain⟨i0,cU,hz0,hz1,hz2⟩:=eT Tryz.infoInt;have hgb:gb<w.heap.size:=(eL.1 hown).1
 have yQ:Holds (Value.int .i64) w gb 0 ([z]++[]).toArray:=aba hown fun j hj=>by
  have:j=0:=by simp at hj;omega
  subst this;rfl
 have hnil:∀(lF:la=[]),K (a.put o.dst (.slice (some ⟨gb,0,none⟩) 1 1)) w:=fun lF=>by
  subst lF;exact h gb 1 w (.inl rfl) hgb yQ ⟨rfl,rfl,rfl,ar _,fun _ _ _=>rfl⟩
 cases p with
 |none=>
  have hl:la=[]:=by
   cases la with
   |nil=>rfl
   |cons x l=>obtain⟨g,o,e,_⟩:=hi 0 (by simp);cases e
  have h0:=hp rfl;have hk:=hnil hl;subst hl h0;have hrow:w.ownsRow gb 3 1 (.slice (some ⟨gb,0,none⟩) 1 1) 1 [.int .i64 z]:=⟨rfl,.inr ⟨gb,1,_,rfl,ar _,hown,ar _,by unfold maxLen;omega,rfl,rfl⟩⟩;have hrun:=run_append_owned_none (P:=Tryz.prog) (w:=w) gb 27 o.type 3 i0 1 Tryz.underlying27 cU (.slice (some ⟨gb,0,none⟩) 1 1) 1 _ hrow;unfold Oper.wp;simp[execOp,ho,resolve,invoke,builtin,hs,hx,hrun,Result.andThen];exact hk
 |some ad=>
  have hnews:=aeW hi;have hl:(la.map (Value.int .i64)).length=la.length*i0.size:=by rw[hz1];simp
  by_cases lF:la=[]
  ·have hk:=hnil lF;subst lF;have hrun:=run_append_room_cells (P:=Tryz.prog) (w:=w) 27 o.type 3 i0 Tryz.underlying27 cU gb 0 1 1 ad 0 ca [] (by simp) (by simp) (by simp) (ar _) (by simp) (by simp);unfold Oper.wp execOp;simp only[ho,resolve,invoke,builtin,I8,DZ,zR,Je,gQ,ld,hs,hx,lg,hrun];exact hk
  ·have kJ:0<la.length:=List.length_pos_iff.2 lF
   have hrun:=run_append_grow (P:=Tryz.prog) w 27 o.type 3 i0 (.int .i64 0) Tryz.underlying27 cU hz0 ⟨gb,0,none⟩ 1 1 [.int .i64 z] (by rw[hz1];rfl) (fun j u hj=>by
    match j,hj with
    |0,hj=>cases hj;rw[show (⟨gb,0,none⟩:Addr).add 0=⟨gb,0,none⟩ from rfl,cC w gb 0 _ _ (0,0) hown];rfl
    |j+1,hj=>simp at hj) ad la.length ca (la.map (Value.int .i64)) hl hnews (by omega) (by omega) (ME (by omega) (by rw[hz2];omega))
   unfold Oper.wp execOp;simp only[ho,resolve,invoke,builtin,I8,DZ,zR,Je,gQ,ld,hs,hx,hrun];have hh:=h w.heap.size (grownCap w (1+la.length) 1 3) (w.drew.alloc (.cells ([Value.int .i64 z].toArray++(la.map (Value.int .i64)).toArray++Builtin.zeroCells (Value.int .i64 0).cells (grownCap w (1+la.length) 1 3 - (1+la.length))) 3)) (.inr (ar _)) (by simp) ?_ ⟨rfl,rfl,rfl,by simp,fun _ hk _=>rY w.drew _ _ hk⟩
   ·have e:([z]++la).length=1+la.length:=by simp;omega
    rw[e] at hh;exact hh
   ·refine aba (kd w.drew _) fun j hj=>?_;rw[Array.getElem?_append_left (by simp at hj⊢;omega)];simp only[lZ,List.getElem?_toArray];rw[show [Value.int .i64 z]++la.map (Value.int .i64)=([z]++la).map (Value.int .i64) by simp,oh,List.getElem?_eq_getElem hj];rfl
theorem afB (g cap:Nat) (l:List Int) (w:World) (hh:Holds (Value.int .i64) w g 0 l.toArray) (hg:g<w.heap.size) (hl:l.length<=100000):
  Calls Tryz.prog 149 #[.slice (some ⟨g,0,none⟩) l.length cap] w fun e w'=>e=.returned (.slice (some ⟨g,0,none⟩) l.length cap)/\ax w' (some ⟨g,0,none⟩) (l.mergeSort fun x y=>decide (x<=y))/\w.grownBy w' (some g):=by
 have VY:=hid (Tryz.slices_Sort_int g 0 cap l w hh hg (by omega));have hlen:(l.mergeSort fun x y=>decide (x<=y)).length=l.length:=MP _;generalize (l.mergeSort fun x y=>decide (x<=y))=zs at *;have HH:=hid hh;clear hh;go_enter Tryz.func149,Tryz.ntmps149;go_wp2_with fail
 refine VY.o.af ?_;rintro e w2 ⟨rfl,q,os,rfl⟩;have hsz:zs.toArray.size=l.toArray.size:=by simp;exact hlen
 have C7:Holds (Value.int .i64) (grow (putRow (Value.int .i64) (Sort.ahead w q) g 0 zs.toArray) os) g 0 zs.toArray:=fun j hj=>by
  obtain⟨h1,h2⟩:=holds_putRow (Value.int .i64) (Sort.ahead w q) g 0 _ zs.toArray HH.o hsz j hj;have gj:g<(putRow (Value.int .i64) (Sort.ahead w q) g 0 zs.toArray).heap.size:=by rw[size_putRow];exact hg
  refine⟨(cell?_grow _ _ _ gj).trans h1,?_⟩;rw[frozen?_grow _ _ _ gj];exact h2
 have hgr:=MF (w:=w) (g:=g) (n:=q) (os:=os) zs.toArray;have Kr:g<(grow (putRow (Value.int .i64) (Sort.ahead w q) g 0 zs.toArray) os).heap.size:=aR hg hgr.size;generalize grow (putRow (Value.int .i64) (Sort.ahead w q) g 0 zs.toArray) os=w2 at *;have Ww:=hid C7;clear C7;go_wp2;go_ret;exact⟨rfl,EP Ww.o Kr (fun j hj=>⟨by simpa using hj,by simp⟩),hgr⟩
structure GV (w:World) (x y z:Value) (G D C Ab:Nat) (S:List Nat) (U:List Int) (wr:World) (F:List Fr) (A:List Nat):Prop where
 gk:GK w wr x y z
 szs:bV wr G S
 us:ax wr (some ⟨D,0,none⟩) U
 cs:jY wr C F
 vs:bV wr Ab A
 oG:w.heap.size+2<=G
 oD:w.heap.size+2<=D
 oGC:G<C
 oDC:D<C
 oCA:C<Ab
theorem GV.step {G C:Nat} {U:List Int} {F:List Fr} (h:GV w x y z G D C Ab S U wr F A) (hb:Below wr.heap.size wr wr'):GV w x y z G D C Ab S U wr' F A:=
 ⟨h.gk.step hb,h.szs.aa hb h.szs.lt,h.us.aa hb,h.cs.aa hb h.cs.lt,h.vs.aa hb h.vs.lt,h.oG,h.oD,h.oGC,h.oDC,h.oCA⟩
theorem ax.far {o:Nat} (h:ax w (some ⟨g,o,none⟩) l) (b j:Nat) (y:Value) (hne:g≠b):ax (w.setCell ⟨b,j,none⟩ y) (some ⟨g,o,none⟩) l:=fun k hk=>by
 obtain⟨g',o',e,h2,h3⟩:=h k hk;cases e;exact⟨g,o,rfl,by simpa using h2,(bX _ _ _ _ (fun e=>hne (by cases e;rfl))).trans h3⟩
theorem GK.far {V:World} (h:GK w V x y z) (b j:Nat) (u:Value) (hb:w.heap.size+2<=b):GK w (V.setCell ⟨b,j,none⟩ u) x y z:=
 ⟨⟨(je V ⟨b,j,none⟩ u w.heap.size (by show w.heap.size≠b;omega)).trans h.1.1,h.1.2.setCell (p:=⟨b,j,none⟩) (by show w.heap.size<=b;omega) u⟩,h.2.off b j u (by omega)⟩
theorem GV.setA {G C:Nat} {U:List Int} {F:List Fr} (h:GV w x y z G D C Ab S U wr F A) (j k:Nat):GV w x y z G D C Ab S U (wr.setCell ⟨Ab,j,none⟩ (.int .i64 (k:Nat))) F (A.set j k):=by
 have:=h.oG;have:=h.oD;have:=h.oGC;have:=h.oDC;have:=h.oCA;exact⟨h.gk.far _ _ _ (by omega),h.szs.off _ _ _ (by omega),h.us.far _ _ _ (by omega),h.cs.off _ _ _ (by omega),h.vs.set _ _,h.oG,h.oD,h.oGC,h.oDC,h.oCA⟩
theorem GV.setC {G C:Nat} {U:List Int} {F:List Fr} (h:GV w x y z G D C Ab S U wr F A) (k:Nat) (f:Fr):GV w x y z G D C Ab S U (((wr.setCell ⟨C,k*3,none⟩ (.bool f.1)).setCell ⟨C,k*3+1,none⟩ (.string f.2.1)).setCell ⟨C,k*3+2,none⟩ (.string f.2.2)) (F.set k f) A:=by
 have:=h.oG;have:=h.oD;have:=h.oGC;have:=h.oDC;have:=h.oCA;exact⟨((h.gk.far _ _ _ (by omega)).far _ _ _ (by omega)).far _ _ _ (by omega),((h.szs.off _ _ _ (by omega)).off _ _ _ (by omega)).off _ _ _ (by omega),((h.us.far _ _ _ (by omega)).far _ _ _ (by omega)).far _ _ _ (by omega),h.cs.put k f,((h.vs.off _ _ _ (by omega)).off _ _ _ (by omega)).off _ _ _ (by omega),h.oG,h.oD,h.oGC,h.oDC,h.oCA⟩
variable {fn:Func} {u:Value}
theorem di.check {t:Tb} (h:di S S.length t) (hf:eH (iL S)):jr (iL S) t.1 t.2.length=0:=Po (Fk hf (by rw[ba];exact h.up)) (by rw[ew];exact h.len)
theorem di.small {t:Tb} (h:di S S.length t) (hf:eH (iL S)):t.1.length<=8:=by
 have h1:=h.up.length;have h2:=hf.eight;rw[ba] at h2;omega
def Bi (B:Nat) (t:Tb) (e:Ending) (w':World):Prop:=∃x y,e=.returned (.tuple #[.agg #[x,y],.int .i64 0])/\cR w' x y t/\∀R,R< B ->fE R t (x,y)
theorem uh.tb {B:Nat} {t:Tb} {e:Ending} (h:uh B t.1 t.2 0 e w'):Bi B t e w':=by
 obtain⟨b,c,cb,cc,h1,h2,h3,h4,h5⟩:=h;exact⟨_,_,h1,⟨b,c,cb,cc,rfl,rfl,h2,h3,h4.1⟩,fun R hR=>fE.new h4 h5 hR⟩
theorem ah8 (a:Option Addr) (ca:Nat) (S:List Nat) (x y x' y':Value) (s t:Tb) (w:World) (aJ:eH (iL S)) (hs:ax w a (iL S)) (h:cR w x y s) (h':cR w x' y' t) (ho:di S S.length s) (ho':di S S.length t) (hw:Cw 100000 s.2) (hw':Cw 100000 t.2):
  Calls Tryz.prog 161 #[.slice a S.length ca,.agg #[x,y],.agg #[x',y']] w fun e w'=>Bi w.heap.size (yH S s t) e w'/\Below w.heap.size w w':=by
 obtain⟨b,c,cb,cc,rfl,rfl,h1,h2,h3⟩:=h;obtain⟨b',c',fD,kp,rfl,rfl,k1,k2,k3⟩:=h';have e1:=aJ.eight;rw[ba] at e1;have e2:=ho.small aJ;have e3:=ho'.small aJ;have:=aev a b c b' c' ca cb cc fD kp (iL S) s.1 t.1 s.2 t.2 w hs h1 k1 h2 k2 (by rw[ba];omega) (by omega) (by omega) h3 k3 (ho.check aJ) (ho'.check aJ) hw hw';rw[ba,ew] at this;exact this.af fun e w' hh=>⟨uh.tb (t:=yH S s t) hh.1,hh.2⟩
theorem aht (w:World):cR (w.alloc (.cells #[.bool (aH 1),.string (nu 1),.string (de 1)] 32)) (.slice none 0 0) (.slice (some ⟨w.heap.size,0,none⟩) 1 1) Cu:=by
 have hnew:=kd w (.cells #[.bool (aH 1),.string (nu 1),.string (de 1)] 32);refine⟨none,_,0,1,rfl,rfl,(fun k hk=>absurd hk (by simp[Cu])),fun k hk=>?_,fun _=>rfl⟩;obtain rfl:k=0:=by simp[Cu] at hk;omega
 exact⟨_,0,rfl,(eL.1 hnew).1,(cC _ _ 0 _ _ (0,0) hnew).trans rfl,(cC _ _ 1 _ _ (0,0) hnew).trans rfl,(cC _ _ 2 _ _ (0,0) hnew).trans rfl⟩
theorem cR.putT {V:World} {v:Value} {t:Tb} (h:cR V x y t) (hb:bh V g u v) (hu:cM u) (hv:cM v) (hx':cM x') (y':Value):cR ((V.setCell ⟨g,0,none⟩ x').setCell ⟨g,1,none⟩ y') x y t:=by
 obtain⟨b,c,cb,cc,h1,h2,h3,h4,h5⟩:=h;exact⟨b,c,cb,cc,h1,h2,h3.putT hb hu hv hx' y',h4.putT hb hu hv hx' y',h5⟩
theorem cR.slices {t:Tb} (h:cR w x y t):cM x/\cM y:=by
 obtain⟨b,c,cb,cc,rfl,rfl,_⟩:=h;exact⟨slv _ _ _,slv _ _ _⟩
theorem bh.result1 (h:bh w g x y) {p:Tmp} (hr:fn.results= #[.cell p 39]) (tmps:Array Value) (hp:tmps.getD p undef=.pointer (some ⟨g,0,none⟩)):
  (results fn tmps).run Tryz.prog w=.ok (.agg #[x,y]) w:=Gi hr tmps w g _ _ _ _ hp h Tryz.underlying39 rfl (by kernel_rfl)
theorem Zi (a b:Option Addr) (ca cb:Nat) (S:List Nat) (P:List Tb) (D c:Nat) (w:World) (aJ:eH (iL S)) (hs:ax w a (iL S)) (hP:dQ w b P) (aM:eX S S.length P D c) (hpl:P.length<=1000) (hm:2*(B D).size+(B c).size+2<=8192):
  Calls Tryz.prog 105 #[.slice a S.length ca,.slice b P.length cb] w fun e w'=>∃x y,e=.returned (.agg #[x,y])/\cR w' x y (allT S P)/\Below w.heap.size w w':=by
 have df:Pos S:=by have:=aJ.pos;rwa [ew] at this
 have Dx:Hid (∀U:World,Calls Tryz.prog 53 #[.int .i64 1] U fun e w'=>e=.returned (.agg #[.bool (aH 1),.string (nu 1),.string (de 1)])/\Below U.heap.size U w'):=fun U=>Lb (k:=1) (w:=U) 1 1 rfl (by decide) rfl
 have HML:Hid (∀(k:Nat) (hk:k<P.length) (x y x' y':Value) (U:World),Below w.heap.size w U ->cR U x y (allT S (P.take k)) ->cR U x' y' P[k] ->Calls Tryz.prog 161 #[.slice a S.length ca,.agg #[x,y],.agg #[x',y']] U fun e w'=>Bi U.heap.size (allT S (P.take (k+1))) e w'/\Below U.heap.size U w'):=fun k hk x y x' y' U hU h1 h2=>by
  have h3:=aM.part df hm k;have h4:=aM.cw df hm P[k] (bH hk);have e:allT S (P.take (k+1))=yH S (allT S (P.take k)) P[k]:=by rw[allT,fR hk,List.foldl_append];rfl
  rw[e];exact ah8 a ca S x y x' y' _ _ U aJ (hs.aa hU) h1 h2 h3.1 (aM.ok _ (bH hk)) (h3.2.up (by decide)) (h4.up (by decide))
 have HP:=hid hP;have H0:Hid (allT S (P.take 0)=Cu):=rfl;clear hs hP aM aJ df hm;obtain⟨T,hT⟩:∃T:Nat ->Tb,∀k,allT S (P.take k)=T k:=⟨fun k=>allT S (P.take k),fun _=>rfl⟩;have qu:Hid (T P.length=allT S P):=by show _=_;rw[<- hT,fJ]
 simp only[hT] at HML H0;clear hT;go_enter Tryz.func105,Tryz.ntmps105;go_wp2_with fail
 have A8:=(au w.heap.size w).alloc (ar _) (TC (.slice none 0 0) (.slice none 0 0));have Hs:=bh.at (w:=w) rfl (.slice none 0 0) (.slice none 0 0);refine(Dx.o _).af ?_;rintro e w2 ⟨rfl,hb2⟩;have hB2:=A8.trans (hb2.af A8.size);have Uc:=Hs.aa hb2 Hs.lt;have Uy:=hB2.alloc hB2.size (.cells #[.bool (aH 1),.string (nu 1),.string (de 1)] 32);have yQ:=aht w2;have hs3:(w2.alloc (.cells #[.bool (aH 1),.string (nu 1),.string (de 1)] 32)).heap.size=w2.heap.size+1:=by simp
 have KJ:=Uc.alloc (.cells #[.bool (aH 1),.string (nu 1),.string (de 1)] 32);have jT:=Uy.alloc Uy.size (TC (.slice none 0 0) (.slice (some ⟨w2.heap.size,0,none⟩) 1 1));have Ub:=KJ.alloc (TC (.slice none 0 0) (.slice (some ⟨w2.heap.size,0,none⟩) 1 1));have CW:=bh.at (w:=w2.alloc (.cells #[.bool (aH 1),.string (nu 1),.string (de 1)] 32)) hs3 (.slice none 0 0) (.slice (some ⟨w2.heap.size,0,none⟩) 1 1);have aa9:=yQ.aa ((au _ _).alloc (ar _) (TC (.slice none 0 0) (.slice (some ⟨w2.heap.size,0,none⟩) 1 1)));have hlt:=Uc.lt;have fV:=hid jT;have vP:=hid Ub;have Bu:=hid CW;have L8:=hid aa9;clear A8 Hs hb2 hB2 Uc Uy yQ hs3 KJ jT Ub CW aa9;go_wp2_with fail
 go_loopw [13] (fun iv wr=>∃(i:Nat) (x y:Value),i<=P.length/\iv=.int .i64 i/\Hid (bh wr (w2.heap.size+1) x y)/\Hid (cR wr x y (T i))/\Hid (bh wr w.heap.size (.slice none 0 0) (.slice none 0 0))/\Hid (Below w.heap.size w wr)) (fun iv _=>P.length - (intOf iv).toNat)
 case atStart=>exact⟨0,_,_,aU _,rfl,Bu,by rw[H0.o];exact L8,vP,fV⟩
 case round=>
  obtain⟨i,x,y,hi,rfl,HX,HV,HT,HB⟩:=hrel;clear Bu L8 vP fV;obtain⟨aa1,aa0⟩:=HV.o.slices;obtain⟨x0,x1,xf0,xf1⟩:=HX.o.facts;by_cases hlt2:i<P.length
  ·obtain⟨g,o,p,q,rfl,hg,k0,k1,lC⟩:=(HP.o.aa HB.o) i hlt2;have hA:=(au wr.heap.size wr).alloc (ar _) (TC p q);have dC:=hid (HB.o.trans (hA.af HB.o.size));have Ik:=hid (HX.o.alloc (TC p q));have qY:=hid (HT.o.alloc (TC p q));have bW:=bh.at (w:=wr) rfl p q;obtain⟨xa0,xa1,_,_⟩:=Ik.o.facts;have b0:=bW.c0;have b1:=bW.c1;have HM:=hid (HML.o i hlt2 x y p q _ dC.o (HV.o.aa hA) (lC.aa hA));obtain⟨ps,pn,pc,rfl⟩:=lC.slices.1;obtain⟨qs,qn,qc,rfl⟩:=lC.slices.2;clear lC hA bW x0 x1 xf0 xf1;go_wp2_with fail
   refine HM.o.af ?_;rintro e w3 ⟨⟨x2,y2,rfl,hv2,_⟩,hb3⟩;have po:=Ik.o.aa hb3 Ik.o.lt;have KJ:=qY.o.aa hb3 qY.o.lt;have bU:=dC.o.trans (hb3.af dC.o.size);obtain⟨c0,c1,f0,f1⟩:=po.facts;obtain⟨xs,xn,xc,rfl⟩:=hv2.slices.1;obtain⟨ys,yn,yc,rfl⟩:=hv2.slices.2;have qp:=hid (po.put (.slice xs xn xc) (.slice ys yn yc));have PT:=hid (hv2.putT po aa1 aa0 (slv xs xn xc) (.slice ys yn yc));have Iq:Hid (bh ((w3.setCell ⟨w2.heap.size+1,0,none⟩ (.slice xs xn xc)).setCell ⟨w2.heap.size+1,1,none⟩ (.slice ys yn yc)) w.heap.size (.slice none 0 0) (.slice none 0 0)):=(KJ.off _ _ _ (by omega)).off _ _ _ (by omega);have eD:=hid (mr (g:=w2.heap.size+1) bU (by omega) (.slice xs xn xc) (.slice ys yn yc));clear hv2 hb3 po KJ bU HM xa0 xa1 b0 b1 k0 k1;go_wp2;go_roundw
   case rel=>exact⟨i+1,_,_,by omega,by go_num,qp,PT,Iq,eD⟩
   case measure=>simp[intOf];omega
  ·obtain rfl:i=P.length:=by omega
   rw[qu.o] at HV;obtain⟨t0,t1,f0,f1⟩:=HT.o.facts;obtain⟨xs,xn,xc,rfl⟩:=aa1;obtain⟨ys,yn,yc,rfl⟩:=aa0;have q9:=hid (HT.o.put (.slice xs xn xc) (.slice ys yn yc));have Bx:=hid (HV.o.putT HT.o (slv _ _ _) (slv _ _ _) (slv xs xn xc) (.slice ys yn yc));have fV:=hid (mr HB.o (ar _) (.slice xs xn xc) (.slice ys yn yc));go_wp2;refine bB (q9.o.result1 rfl _ rfl) rfl ?_;exact⟨_,_,rfl,Bx.o,fV.o⟩
def Fu (x y z:Value):Obj:=.cells #[x,y,z] 87
def bj (w:World) (g:Nat) (x y z:Value):Prop:=w.heap[g]? =some (.cells #[x,y,z] 87 (0,0))
theorem bj.at (hg:w.heap.size=g) (x y z:Value):bj (w.alloc (Fu x y z)) g x y z:=by subst hg;exact kd w _
theorem bj.lt (h:bj w g x y z):g<w.heap.size:=(eL.1 h).1
theorem bj.aa {b:Nat} (h:bj w g x y z) (hb:Below b w w') (hg:g<b):bj w' g x y z:=(hb.block g hg).trans h
theorem bj.alloc (h:bj w g x y z) (o:Obj):bj (w.alloc o) g x y z:=(rY w o g h.lt).trans h
theorem bj.cells (h:bj w g x y z):w.cell? ⟨g,0,none⟩=some x/\w.cell? ⟨g,1,none⟩=some y/\w.cell? ⟨g,2,none⟩=some z:=
 ⟨by rw[cC w g 0 _ _ (0,0) h];rfl,by rw[cC w g 1 _ _ (0,0) h];rfl,by rw[cC w g 2 _ _ (0,0) h];rfl⟩
theorem bj.fz (h:bj w g x y z) (j:Nat):w.frozen? ⟨g,j,none⟩=false:=pN w g j _ _ h
theorem bj.set0 (h:bj w g x y z) (u:Value):bj (w.setCell ⟨g,0,none⟩ u) g u y z:=mM w g 0 _ _ u h
theorem bj.set1 (h:bj w g x y z) (u:Value):bj (w.setCell ⟨g,1,none⟩ u) g x u z:=mM w g 1 _ _ u h
theorem bj.set2 (h:bj w g x y z) (u:Value):bj (w.setCell ⟨g,2,none⟩ u) g x y u:=mM w g 2 _ _ u h
theorem bj.put (h:bj w g x y z) (u v s:Value):bj (((w.setCell ⟨g,0,none⟩ u).setCell ⟨g,1,none⟩ v).setCell ⟨g,2,none⟩ s) g u v s:=((h.set0 u).set1 v).set2 s
theorem bj.off (h:bj w g x y z) (b j:Nat) (u:Value) (hne:g≠b):bj (w.setCell ⟨b,j,none⟩ u) g x y z:=(je w ⟨b,j,none⟩ u g hne).trans h
theorem bj.result1 (h:bj w g x y z) {p:Tmp} (hr:fn.results= #[.cell p 87]) (tmps:Array Value) (hp:tmps.getD p undef=.pointer (some ⟨g,0,none⟩)):
  (results fn tmps).run Tryz.prog w=.ok (.agg #[x,y,z]) w:=Gi hr tmps w g _ _ _ _ hp h Tryz.underlying87 rfl (by kernel_rfl)
theorem Zp (u v:Int) (B:Nat) (W:World) (hc:W.cell? ⟨B,0,none⟩=some (.int .i64 v)):
  FnGives Tryz.prog 153 #[.pointer (some ⟨B,0,none⟩)] #[.int .i64 u] (.bool (u==v)) W:=by
 show Calls Tryz.prog 153 #[.int .i64 u,.pointer (some ⟨B,0,none⟩)] W _;go_enter Tryz.func153,Tryz.ntmps153;go_wp2
 all_goals (go_ret;exact⟨by simp_all,0,rfl⟩)
theorem agC (v:Int) (B:Nat) (w:World) (hB:B<w.heap.size) (hc:w.cell? ⟨B,0,none⟩=some (.int .i64 v)):
  PredAt Tryz.prog 153 #[.pointer (some ⟨B,0,none⟩)] (Value.int .i64) (fun u=>u==v) w:=
 fun W x hb=>Zp x v B W ((hb.cell (p:=⟨B,0,none⟩) hB).trans hc)
theorem agA (v:Int) (B blk off size:Nat) (w:World) (hB:B<w.heap.size) (hne:B≠blk) (hc:w.cell? ⟨B,0,none⟩=some (.int .i64 v)):
  PredOver Tryz.prog 153 #[.pointer (some ⟨B,0,none⟩)] (Value.int .i64) (fun u=>u==v) blk off size w:=
 fun n os dk x _=>Zp x v B _ (by
  unfold sortWorld;rw[cell?_grow _ _ _ (by show B<(putRow _ _ _ _ _).heap.size;rw[size_putRow];exact hB),cell?_putRow_other _ _ blk off _ _ (Or.inl hne)];exact hc)
theorem R3 (x z:Value) (b:Option Addr) (cb:Nat) (fr:List Int) (v:Int) (w:World) (hx:cM x) (hz:cM z) (h:ax w b fr) (hn:fr.length<=1000):
  Calls Tryz.prog 96 #[.agg #[x,.slice b fr.length cb,z],.int .i64 v] w fun e w'=>∃d cd,e=.returned (.agg #[x,.slice d (bw fr v).length cd,.slice none 0 0])/\ax w' d (bw fr v)/\eC w.heap.size d cd/\Below w.heap.size w w':=by
 obtain⟨xa,xn,xc,rfl⟩:=hx;obtain⟨za,zn,zc,rfl⟩:=hz;have HV:=hid h;obtain⟨L,hL⟩:∃L,bw fr v=L:=⟨_,rfl⟩;rw[hL];have HL:=hid hL;clear h hL;go_enter Tryz.func96,Tryz.ntmps96;go_wp2_with fail
 have hb0:Below w.heap.size w (((w.alloc (.cells #[.slice xa xn xc,.slice b fr.length cb,.slice za zn zc] 87)).alloc (.cells #[.int .i64 v] 3)).alloc (.cells #[.slice none 0 0,.slice none 0 0,.slice none 0 0] 87)):=by
  have h1:=(au w.heap.size w).alloc (ar _) (.cells #[.slice xa xn xc,.slice b fr.length cb,.slice za zn zc] 87);have h2:=h1.alloc h1.size (.cells #[.int .i64 v] 3);exact h2.alloc h2.size _
 have pq:bj (((w.alloc (.cells #[.slice xa xn xc,.slice b fr.length cb,.slice za zn zc] 87)).alloc (.cells #[.int .i64 v] 3)).alloc (.cells #[.slice none 0 0,.slice none 0 0,.slice none 0 0] 87)) w.heap.size (.slice xa xn xc) (.slice b fr.length cb) (.slice za zn zc):=((bj.at (w:=w) rfl _ _ _).alloc _).alloc _
 have hx0:Boxed (((w.alloc (.cells #[.slice xa xn xc,.slice b fr.length cb,.slice za zn zc] 87)).alloc (.cells #[.int .i64 v] 3)).alloc (.cells #[.slice none 0 0,.slice none 0 0,.slice none 0 0] 87)) (w.heap.size+1) 3 (.int .i64 v):=by
  have:=(a7 (w.alloc (.cells #[.slice xa xn xc,.slice b fr.length cb,.slice za zn zc] 87)) 3 (.int .i64 v)).alloc (.cells #[.slice none 0 0,.slice none 0 0,.slice none 0 0] 87);rwa [cN] at this
 have iA:bj (((w.alloc (.cells #[.slice xa xn xc,.slice b fr.length cb,.slice za zn zc] 87)).alloc (.cells #[.int .i64 v] 3)).alloc (.cells #[.slice none 0 0,.slice none 0 0,.slice none 0 0] 87)) (w.heap.size+1+1) (.slice none 0 0) (.slice none 0 0) (.slice none 0 0):=bj.at (w:=(w.alloc (.cells #[.slice xa xn xc,.slice b fr.length cb,.slice za zn zc] 87)).alloc (.cells #[.int .i64 v] 3)) (by simp) _ _ _;generalize (((w.alloc (.cells #[.slice xa xn xc,.slice b fr.length cb,.slice za zn zc] 87)).alloc (.cells #[.int .i64 v] 3)).alloc (.cells #[.slice none 0 0,.slice none 0 0,.slice none 0 0] 87))=W at *;refine(Nf b cb fr _ (HV.o.aa hb0) (by omega)).af ?_;rintro e w1 ⟨x,rfl,hr,hb1⟩;have hx1:=aZ hx0 hb1;have tY:=pq.aa hb1 pq.lt;have hR1:=iA.aa hb1 iA.lt;have hB1:=hb0.trans (hb1.af hb0.size);have hlt:=iA.lt;have hs1:=hb1.size;clear hx0 pq iA hb0 hb1;rcases hr.cases with ⟨rfl,rfl⟩ |⟨g,cap,rfl,hg0,hg,hc1,hc2,hh⟩
 ·go_wp2_with fail
  refine(Yx _ _).af ?_;rintro e w2 ⟨rfl,hb2⟩;have KO:=tY.aa hb2 tY.lt;have hR2:=hR1.aa hb2 hR1.lt;have hB2:=hB1.trans (hb2.af hB1.size);have KR:L=[]:=HL.o.symm;subst KR;obtain⟨p0,p1,p2⟩:=KO.cells;obtain⟨r0,r1,r2⟩:=hR2.cells;have rf:=hR2.fz;have Am:=rf 0;have JE:=rf 1;have JD:=rf 2;have xR:=hid (hR2.put (.slice xa xn xc) (.slice none 0 0) (.slice none 0 0));have uF:=hid (bF hB2 (show w.heap.size<=w.heap.size+1+1 by omega) (.slice xa xn xc) (.slice none 0 0) (.slice none 0 0));clear rf KO hR2 hB2;go_wp2;refine bB (xR.o.result1 rfl _ rfl) rfl ?_;exact⟨none,0,rfl,fun k hk=>absurd hk (by simp),eC.nil _,uF.o⟩
 ·have hcon:=Tryz.slices_DeleteFunc (Value.int .i64) (fun _=>rfl) (fun u=>u==v) 153 #[.pointer (some ⟨w.heap.size+1,0,none⟩)] (enters_of Tryz.func153 (by kernel_rfl) rfl) 0 Tryz.zeroValue3 g 0 cap fr.toArray w1 (agC v _ _ hx1.lt hx1.cell) (agA v _ g 0 _ _ hx1.lt (by omega) hx1.cell) hh (by simp;omega) (by simpa using hc1);have hsz:fr.toArray.size=fr.length:=by simp
  rw[hsz] at hcon;have jR:fr.toArray.toList.filter (fun x=>!(x==v))=bw fr v:=by simp[bw]
  rw[jR,HL.o] at hcon;have dh:L.length<=fr.length:=by rw[<- HL.o];exact pR _ _
  have Mv:=hid hcon;have HH:=hid hh;have pJ:=hid dh;clear hcon hh hr hsz jR hc1 hc2 dh;go_wp2_with fail
  refine Mv.o.af ?_;rintro e w2 ⟨rfl,q,hw2⟩
  have Hl:(L++List.replicate (fr.length - L.length) 0).toArray.size=fr.toArray.size:=by
   have:=pJ.o;simp;omega
  have OM:ax w2 (some ⟨g,0,none⟩) L:=by
   rw[hw2];exact EP (holds_putRow (Value.int .i64) (Sort.ahead w1 q) g 0 fr.toArray _ HH.o Hl) (by rw[size_putRow];exact hg) (fun j hj=>⟨by simp;omega,by simp[uI,hj]⟩)
  have hk2:∀k,k<w1.heap.size ->k≠g ->w2.heap[k]? =w1.heap[k]?:=fun k hk hne=>by
   rw[hw2];have h1:=MF (w:=w1) (g:=g) (n:=q) (os:= #[]) ((L++List.replicate (fr.length - L.length) 0).toArray);rw[grow_empty] at h1;exact h1.block k hk (fun e=>hne (lV e))
  have KO:bj w2 w.heap.size (.slice xa xn xc) (.slice b fr.length cb) (.slice za zn zc):=(hk2 _ tY.lt (by omega)).trans tY;have hR2:bj w2 (w.heap.size+1+1) (.slice none 0 0) (.slice none 0 0) (.slice none 0 0):=(hk2 _ hR1.lt (by omega)).trans hR1;have hB2:Below w.heap.size w w2:=by rw[hw2];exact Vj _ hB1 hB1.size (by omega)
  obtain⟨p0,p1,p2⟩:=KO.cells;obtain⟨r0,r1,r2⟩:=hR2.cells;have rf:=hR2.fz;have Am:=rf 0;have JE:=rf 1;have JD:=rf 2;have xR:=hid (hR2.put (.slice xa xn xc) (.slice (some ⟨g,0,none⟩) L.length cap) (.slice none 0 0));have uF:=hid (bF hB2 (show w.heap.size<=w.heap.size+1+1 by omega) (.slice xa xn xc) (.slice (some ⟨g,0,none⟩) L.length cap) (.slice none 0 0));have Qi:=hid (((OM.off (g:=w.heap.size+1+1) (j:=0) (y:=.slice xa xn xc) (fun g' o' e _=>by cases e;omega)).off (g:=w.heap.size+1+1) (j:=1) (y:=.slice (some ⟨g,0,none⟩) L.length cap) (fun g' o' e _=>by cases e;omega)).off (g:=w.heap.size+1+1) (j:=2) (y:=.slice none 0 0) (fun g' o' e _=>by cases e;omega));clear rf KO hR2 hB2 OM hk2 Hl hw2;go_wp2;refine bB (xR.o.result1 rfl _ rfl) rfl ?_;exact⟨some ⟨g,0,none⟩,cap,rfl,Qi.o,eC.at (by omega),uF.o⟩
def jI (w:World) (a:Option Addr) (F:List (Int×Int)):Prop:=∀k (h:k<F.length),∃g o,a=some ⟨g,o,none⟩/\g<w.heap.size/\w.cell? ⟨g,o+k*2,none⟩=some (.int .i64 F[k].1)/\w.cell? ⟨g,o+k*2+1,none⟩=some (.int .i64 F[k].2)
theorem jI.aa {F:List (Int×Int)} (h:jI w a F) (hb:Below w.heap.size w w'):jI w' a F:=fun k hk=>by
 obtain⟨g,o,h1,h2,h3,h4⟩:=h k hk;exact⟨g,o,h1,aR h2 hb.size,(hb.cell (p:=⟨g,_,none⟩) h2).trans h3,(hb.cell (p:=⟨g,_,none⟩) h2).trans h4⟩
theorem jI.take {F:List (Int×Int)} (h:jI w a F) (i:Nat):jI w a (F.take i):=fun k hk=>by
 have dH:k<F.length:=by rw[eZ] at hk;omega
 obtain⟨g,o,h1,h2,h3,h4⟩:=h k dH;rw[Aa];exact⟨g,o,h1,h2,h3,h4⟩
theorem aiW (a:Option Addr) (ca f:Nat) (lb:Array Value) (F:List (Int×Int)) (p:Int×Int ->Bool) (w:World) (h:jI w a F) (hn:F.length<=1000) (eF:∀args w,(callFunc f args).run Tryz.prog w=.ok (.enter f args) w)
  (hp:∀q∈F,∀U:World,Below w.heap.size w U ->Calls Tryz.prog f (#[.agg #[.int .i64 q.1,.int .i64 q.2]]++lb) U fun e w'=>e=.returned (.bool (p q))/\Below U.heap.size U w'):
  Calls Tryz.prog 139 #[.slice a F.length ca,.func (.func f) #[] lb] w fun e w'=>∃j:Int,e=.returned (.int .i64 j)/\decide (0<=j)=F.any p/\Below w.heap.size w w':=by
 have HF:=hid h;have HP:=hid hp
 have eQ:Hid ((∀i (hi:i<F.length),p F[i]=false) ->F.any p=false):=fun hh=>Ji.2 fun q hq=>by
  obtain⟨i,hi,rfl⟩:=iE hq;rw[hh i hi];decide
 have Dp:Hid (∀i (hi:i<F.length),p F[i]=true ->F.any p=true):=fun i hi hh=>rX.2 ⟨_,bH hi,hh⟩;clear h hp;generalize F.any p=R at *;go_enter Tryz.func139,Tryz.ntmps139;go_wp2_with fail
 go_loopw [8] (fun iv wr=>∃i:Nat,i<=F.length/\iv=.int .i64 i/\Hid (∀j (hj:j<F.length),j< i ->p F[j]=false)/\Hid (Below w.heap.size w wr)) (fun iv _=>F.length - (intOf iv).toNat)
 case atStart=>exact⟨0,aU _,rfl,(fun j _ hj=>absurd hj (by omega)),au _ _⟩
 case round=>
  obtain⟨i,hi,rfl,HN,HB⟩:=hrel;by_cases hlt:i<F.length
  ·obtain⟨g,o,rfl,hg,h0,h1⟩:=HF.o i hlt;have k0:=(HB.o.cell (p:=⟨g,_,none⟩) hg).trans h0;have k1:=(HB.o.cell (p:=⟨g,_,none⟩) hg).trans h1;have HC:=hid (HP.o F[i] (bH hlt) wr HB.o);have VG:=hid (Dp.o i hlt)
   have mE:Hid (p F[i]=false ->∀j (hj:j<F.length),j<i+1 ->p F[j]=false):=fun e j hj tR=>by
    rcases cD j i with h2 |h2
    ·exact HN.o j hj h2
    ·obtain rfl:j=i:=by omega
     exact e
   clear h0 h1;generalize p F[i]=q at *;generalize F[i].1=f1 at *;generalize F[i].2=f2 at *;go_wp2_with fail
   refine HC.o.af ?_;rintro e w2 ⟨rfl,hb2⟩;have bc:=hid (HB.o.trans (hb2.af HB.o.size));clear hb2 HC;cases q with
   |true=>
    have HE:=hid (VG.o rfl);go_wp2;go_ret;exact⟨(i:Nat),rfl,by rw[HE.o];simp,bc.o⟩
   |false=>
    have HE:=hid (mE.o rfl);go_wp2;go_roundw
    case rel=>exact⟨i+1,by omega,by go_num,HE,bc⟩
    case measure=>simp[intOf];omega
  ·obtain rfl:i=F.length:=by omega
   have HE:=hid (eQ.o fun j hj=>HN.o j hj hj);go_wp2;go_ret;exact⟨-1,rfl,by rw[HE.o];rfl,HB.o⟩
theorem alA (a:Option Addr) (ca f:Nat) (lb:Array Value) (F:List (Int×Int)) (p:Int×Int ->Bool) (w:World) (h:jI w a F) (hn:F.length<=1000) (eF:∀args w,(callFunc f args).run Tryz.prog w=.ok (.enter f args) w)
  (hp:∀q∈F,∀U:World,Below w.heap.size w U ->Calls Tryz.prog f (#[.agg #[.int .i64 q.1,.int .i64 q.2]]++lb) U fun e w'=>e=.returned (.bool (p q))/\Below U.heap.size U w'):
  Calls Tryz.prog 84 #[.slice a F.length ca,.func (.func f) #[] lb] w fun e w'=>e=.returned (.bool (F.any p))/\Below w.heap.size w w':=by
 have HI:=hid (aiW a ca f lb F p w h hn eF hp);clear h hp;generalize F.any p=R at *;go_enter Tryz.func84,Tryz.ntmps84;go_wp2_with fail
 refine HI.o.af ?_;rintro e w2 ⟨j,rfl,hj,hb2⟩;have HB:=hid hb2;have HJ:=hid hj;clear hb2 hj;go_wp2;go_ret;exact⟨by rw[<- HJ.o];rfl,HB.o⟩
theorem aiO (q:Int×Int) (v:Int) (B:Nat) (w:World) (hB:B<w.heap.size) (hc:w.cell? ⟨B,0,none⟩=some (.int .i64 v)):
  Calls Tryz.prog 85 #[.agg #[.int .i64 q.1,.int .i64 q.2],.pointer (some ⟨B,0,none⟩)] w fun e w'=>e=.returned (.bool (q.1==v))/\Below w.heap.size w w':=by
 obtain⟨q1,q2⟩:=q;have HA:=hid ((au w.heap.size w).alloc (ar _) (.cells #[.int .i64 q1,.int .i64 q2] 90));have hc':=(HA.o.cell (p:=⟨B,0,none⟩) hB).trans hc;show Calls Tryz.prog 85 #[.agg #[.int .i64 q1,.int .i64 q2],.pointer (some ⟨B,0,none⟩)] w fun e w'=>e=.returned (.bool (q1==v))/\Below w.heap.size w w';clear hc;go_enter Tryz.func85,Tryz.ntmps85;go_wp2
 all_goals (go_ret;exact⟨by simp_all,HA.o⟩)
theorem aaL (a:Option Addr) (ca:Nat) (F:List (Int×Int)) (v:Int) (w:World) (h:jI w a F) (hn:F.length<=1000):
  Calls Tryz.prog 40 #[.slice a F.length ca,.int .i64 v] w fun e w'=>e=.returned (.bool (F.any fun p=>p.1==v))/\Below w.heap.size w w':=by
 have hA:=(au w.heap.size w).alloc (ar _) (.cells #[.int .i64 v] 3);have hx:=a7 w 3 (.int .i64 v);have HC:=hid (alA a ca 85 #[.pointer (some ⟨w.heap.size,0,none⟩)] F (fun p=>p.1==v) _ (h.aa hA) hn (enters_of Tryz.func85 (by kernel_rfl) rfl) (fun q _ U hU=>aiO q v w.heap.size U (aR hx.lt hU.size) ((hU.cell (p:=⟨w.heap.size,0,none⟩) hx.lt).trans hx.cell)));have HA:=hid hA;clear h hA hx;generalize (F.any fun p=>p.1==v)=R at *;go_enter Tryz.func40,Tryz.ntmps40;go_wp2_with fail
 refine HC.o.af ?_;rintro e w2 ⟨rfl,hb2⟩;have HB:=hid (HA.o.trans (hb2.af HA.o.size));clear hb2;go_wp2;go_ret;exact⟨rfl,HB.o⟩
variable {ops:Array Oper} {rest:List Oper} {xs:List Value} {j lo:Nat} {tv u1 u2:Value} {V':World}
theorem UF (W:World) (b:Option Nat):W.grownBy W b:=World.grownBy.refl _ _
theorem UG {W V:World} {b:Option Nat} (h:W.grownBy V b) (hb:Below V.heap.size V V'):W.grownBy V' b:=
 ⟨hb.os.trans h.os,hb.tape.trans h.tape,hb.output.trans h.output,aS h.size hb.size,fun k hk hne=>(hb.block k (aR hk h.size)).trans (h.block k hk hne)⟩
theorem K2 {W V:World} {b r:Option Nat} (h:W.grownBy V b) (hg:V.grownBy V' r) (hr:∀k,r=some k ->W.heap.size<=k):W.grownBy V' b:=
 ⟨hg.os.trans h.os,hg.tape.trans h.tape,hg.output.trans h.output,aS h.size hg.size,fun k hk hne=>(hg.block k (aR hk h.size) fun e=>by have:=hr k e.symm;omega).trans (h.block k hk hne)⟩
theorem OZ {W V:World} {b:Nat} (h:W.grownBy V (some b)) (j:Nat) (y:Value):W.grownBy (V.setCell ⟨b,j,none⟩ y) (some b):=by
 have hk:=(au 0 V).setCell (p:=⟨b,j,none⟩) (aU _) y;exact⟨hk.os.trans h.os,hk.tape.trans h.tape,hk.output.trans h.output,aS h.size hk.size,fun k dH hne=>(je V ⟨b,j,none⟩ y k (fun e=>hne (by rw[e]))).trans (h.block k dH hne)⟩
theorem H4 {W V:World} {b B:Nat} (hw:Below B w W) (h:W.grownBy V (some b)) (hb:B<=b) (hB:B<=W.heap.size):Below B w V:=hw.grown h hB (fun k e=>by cases e;exact hb)
theorem bZ.off {d:Option Addr} {l:List Fr} (h:bZ w d l) (hne:∀g' o',d=some ⟨g',o',none⟩ ->l≠[] ->g'≠g):bZ (w.setCell ⟨g,j,none⟩ y) d l:=fun k hk=>by
 obtain⟨g',o',e,hg,h0,h1,h2⟩:=h k hk;have hn:=hne g' o' e (fun e=>by rw[e] at hk;exact absurd hk (by simp));have hb:(w.setCell ⟨g,j,none⟩ y).heap[g']? =w.heap[g']?:=je w ⟨g,j,none⟩ y g' hn;exact⟨g',o',e,aR hg (iG w _ _).size,(kA (a:=⟨g',_,none⟩) hb).trans h0,(kA (a:=⟨g',_,none⟩) hb).trans h1,(kA (a:=⟨g',_,none⟩) hb).trans h2⟩
theorem cR.off {t:Tb} (h:cR w x y t) (u:Value) (hn:fE g t (x,y)):cR (w.setCell ⟨g,j,none⟩ u) x y t:=by
 obtain⟨b,c,cb,cc,rfl,rfl,h3,h4,h5⟩:=h;exact⟨b,c,cb,cc,rfl,rfl,h3.off (fun g' o' e hne=>hn.1 g' o' _ _ (by rw[e]) hne),h4.off (fun g' o' e hne=>hn.2 g' o' _ _ (by rw[e]) hne),h5⟩
theorem kr.off {B:Nat} {v:Value} (h:kr w B v Q P) (u:Value) (hf:∀k (h:k<P.length) (h':k<Q.length),fE g P[k] Q[k]) (hne:v.ownBlock≠some g):kr (w.setCell ⟨g,j,none⟩ u) B v Q P:=
 ⟨h.len,DY h.own hne u,fun k h1 h2=>(h.val k h1 h2).off u (hf k h1 h2),h.far⟩
theorem ND {B:Nat} {e:TypeId} {s:Nat} (h:w.ownsRow B e s (.slice a m c) n xs):eC B a c:=by
 rcases h.2 with ⟨h1,h2⟩ |⟨g,cap,cur,h1,h2,_⟩
 ·injection h1 with h3 h4 h5;subst h3 h5;exact eC.nil B
 ·injection h1 with h3 h4 h5;subst h3;exact eC.at h2
theorem Jl {o:Oper} {a:Act} {Q:Exit ->Act ->World ->Prop} (hgd:o.guard=none) (s x:Operand)
  (ho:o.op=.call {callee:=.builtin .append,args:= #[s,x],argTypes:= #[85,85]}) (base:Nat) (v:Value) (n:Nat) (xs:List Value) (u1 u2:Value) (hs:a.eval s=v) (hown:w.ownsRow base 39 2 v n xs) (g:Nat) (hx:a.eval x=.slice (some ⟨g,0,none⟩) 1 1) (h0:w.cell? ⟨g,0,none⟩=some u1) (h1:w.cell? ⟨g,1,none⟩=some u2) (hu1:cM u1) (hu2:cM u2) (hlen:n+1<=100000) (hbase:base<=w.heap.size)
  (h:∀v' w',w'.ownsRow base 39 2 v' (n+1) (xs++[u1,u2]) ->w.grownBy w' v.ownBlock ->(v'.ownBlock=v.ownBlock∨∀k,v'.ownBlock=some k ->w.heap.size<=k) ->wpList Tryz.prog ops Q rest (a.put o.dst v') w'):wpList Tryz.prog ops Q (o::rest) a w:=by
 obtain⟨i0,cU,hz0,hz1,hz2⟩:=eT Tryz.infoTable
 obtain⟨v',w',hr,r1,r2,r3⟩:=YT (P:=Tryz.prog) w base 85 o.type 39 i0 (.agg #[.slice none 0 0,.slice none 0 0]) 2 48 Tryz.underlying85 cU hz0 hz1 hz2 rfl (by decide) v n xs hown ⟨g,0,none⟩ 1 1 [u1,u2] rfl (fun j u hj=>by
  match j,hj with
  |0,hj=>cases hj;exact h0
  |1,hj=>cases hj;exact h1
  |j+2,hj=>simp at hj) (fun u hu=>by
  simp only[dK,qG,B3] at hu;rcases hu with rfl |rfl
  ·obtain⟨_,_,_,rfl⟩:=hu1;rfl
  ·obtain⟨_,_,_,rfl⟩:=hu2;rfl) (by unfold maxLen;omega) (by omega) hbase (by decide)
 refine wpList_plain hgd fun _ hK=>?_;unfold Oper.wp execOp;simp only[ho,resolve,invoke,builtin,I8,DZ,zR,Je,gQ,ld,hs,hx,hr];exact hK _ _ (h v' w' r1 r2 r3)
structure pE (lo:Nat) (W:World) (b:Nat) (x y:Value) (tv:Value) (Q:List (Value×Value)) (P:List Tb) (V:World):Prop where
 box:bj V b x y tv
 own:kr V W.heap.size tv Q P
 far:∀R,lo<=R ->R<=b ->∀k (h:k<P.length) (h':k<Q.length),fE R P[k] Q[k]
 fr:W.grownBy V (some b)
theorem pE.start {W:World} {b:Nat} (h:bj W b x y (.slice none 0 0)):pE lo W b x y (.slice none 0 0) [] [] W:=⟨h,kr.nil _ _,(fun R _ _ k h=>absurd h (by simp)),UF _ _⟩
theorem pE.under {W V:World} {b:Nat} (h:pE lo W b x y tv Q P V) (hb:Below V.heap.size V V'):pE lo W b x y tv Q P V':=⟨h.box.aa hb h.box.lt,h.own.under hb,h.far,UG h.fr hb⟩
theorem pE.push {W V:World} {b:Nat} {cP:Value} {t:Tb} (h:pE lo W b x y tv Q P V) (hlo:lo<=b) (hb:b<W.heap.size) (ht:cR V u1 u2 t) (hf:∀R,tv.ownBlock=some R ->fE R t (u1,u2)) (hfb:∀R,lo<=R ->R<=b ->fE R t (u1,u2)) (ho:V'.ownsRow W.heap.size 39 2 cP (P.length+1) (fK Q++[u1,u2])) (hg:V.grownBy V' tv.ownBlock) (hn:cP.ownBlock=tv.ownBlock∨∀k,cP.ownBlock=some k ->V.heap.size<=k):
  pE lo W b x y cP (Q++[(u1,u2)]) (P++[t]) (V'.setCell ⟨b,2,none⟩ cP):=by
 have hR:∀k,tv.ownBlock=some k ->W.heap.size<=k:=fun k e=>(h.own.lt k e).1;have hO:=h.own.push ht hf ho hg hn;have hB:bj V' b x y tv:=(hg.block b h.box.lt (fun e=>by have:=hR b e.symm;omega)).trans h.box
 have nH:∀R,lo<=R ->R<=b ->∀k (h1:k<(P++[t]).length) (h2:k<(Q++[(u1,u2)]).length),fE R (P++[t])[k] (Q++[(u1,u2)])[k]:=fun R hRl hRb k h1 h2=>by
  by_cases dX:k<P.length
  ·have gi:k<Q.length:=by rw[h.own.len];exact dX
   rw[uI gi,uI dX];exact h.far R hRl hRb k dX gi
  ·have gi:¬k<Q.length:=by rw[h.own.len];exact dX
   rw[Ac (by omega),Ac (by omega)];simp only[MQ];exact hfb R hRl hRb
 refine⟨hB.set2 cP,hO.off _ (nH b hlo (ar _)) (fun e=>?_),nH,OZ (K2 h.fr hg hR) _ _⟩;have:=(hO.lt b e).1;omega
theorem ab6 (a:Option Addr) (ca:Nat) (S:List Nat) (x y:Value) (t:Tb) (v z:Nat) (w:World) (aJ:eH (iL S)) (hs:ax w a (iL S)) (h:cR w x y t) (ho:di S S.length t) (hw:Cw 100000 t.2) (hv:v<S.length) (hz:z<sz S v):
  Calls Tryz.prog 97 #[.slice a S.length ca,.agg #[x,y],.int .i64 (v:Nat),.int .i64 (z:Nat)] w fun e w'=>Bi w.heap.size (gK S v z t) e w'/\Below w.heap.size w w':=by
 obtain⟨b,c,cb,cc,rfl,rfl,h1,h2,h3⟩:=h;have e1:=aJ.eight;rw[ba] at e1;have e2:=ho.small aJ;have:=aeA a b c ca cb cc (iL S) t.1 t.2 v z w hs h1 h2 (by rw[ba];omega) (by omega) (ho.check aJ) hw (by rw[ba];exact hv) (by rw[ew];exact hz);rw[ba,ew] at this;exact this.af fun e w' hh=>⟨uh.tb (t:=gK S v z t) hh.1,hh.2⟩
theorem agM (a b t:Option Addr) (ca cb ct:Nat) (S:List Nat) (fr:List Int) (P:List Tb) (D c v z:Nat) (w:World) (aJ:eH (iL S)) (hs:ax w a (iL S)) (hb:ax w b fr) (hP:dQ w t P) (aM:eX S S.length P D c) (hpl:P.length<=1000) (jR:fr.length<=1000) (hm:2*(B D).size+(B c).size+2<=8192) (hv:v<S.length) (hz:z<sz S v):
  Calls Tryz.prog 48 #[.agg #[.slice a S.length ca,.slice b fr.length cb,.slice t P.length ct],.agg #[.int .i64 (v:Nat),.int .i64 (z:Nat)]] w fun e w'=>∃d cd t' b9,e=.returned (.agg #[.slice a S.length ca,.slice d (bw fr v).length cd,.slice t' P.length b9])/\ax w' d (bw fr v)/\dQ w' t' (P.map (gK S v z))/\eC w.heap.size t' b9/\Below w.heap.size w w':=by
 have df:Pos S:=by have:=aJ.pos;rwa [ew] at this
 have ku:=hid (fun (U:World) (hU:Below w.heap.size w U)=>R3 (.slice a S.length ca) (.slice t P.length ct) b cb fr (v:Int) U (slv _ _ _) (slv _ _ _) (hb.aa hU) jR);have qA:Hid (∀(k:Nat) (hk:k<P.length) (x y:Value) (U:World),Below w.heap.size w U ->cR U x y P[k] ->Calls Tryz.prog 97 #[.slice a S.length ca,.agg #[x,y],.int .i64 (v:Nat),.int .i64 (z:Nat)] U fun e w'=>Bi U.heap.size (gK S v z P[k]) e w'/\Below U.heap.size U w'):=fun k hk x y U hU h1=>ab6 a ca S x y _ v z U aJ (hs.aa hU) h1 (aM.ok _ (bH hk)) ((aM.cw df hm P[k] (bH hk)).up (by decide)) hv hz;have HP:=hid hP;clear hs hb hP aM aJ df hm hz;go_enter Tryz.func48,Tryz.ntmps48;go_wp2_with fail
 have hb0:Below w.heap.size w (((w.alloc (.cells #[.slice a S.length ca,.slice b fr.length cb,.slice t P.length ct] 87)).alloc (.cells #[.int .i64 (v:Nat),.int .i64 (z:Nat)] 90)).alloc (.cells #[.slice none 0 0,.slice none 0 0,.slice none 0 0] 87)):=by
  have h1:=(au w.heap.size w).alloc (ar _) (.cells #[.slice a S.length ca,.slice b fr.length cb,.slice t P.length ct] 87);have h2:=h1.alloc h1.size (.cells #[.int .i64 (v:Nat),.int .i64 (z:Nat)] 90);exact h2.alloc h2.size _
 have pq:bj (((w.alloc (.cells #[.slice a S.length ca,.slice b fr.length cb,.slice t P.length ct] 87)).alloc (.cells #[.int .i64 (v:Nat),.int .i64 (z:Nat)] 90)).alloc (.cells #[.slice none 0 0,.slice none 0 0,.slice none 0 0] 87)) w.heap.size (.slice a S.length ca) (.slice b fr.length cb) (.slice t P.length ct):=((bj.at (w:=w) rfl _ _ _).alloc _).alloc _
 have C9:(((w.alloc (.cells #[.slice a S.length ca,.slice b fr.length cb,.slice t P.length ct] 87)).alloc (.cells #[.int .i64 (v:Nat),.int .i64 (z:Nat)] 90)).alloc (.cells #[.slice none 0 0,.slice none 0 0,.slice none 0 0] 87)).heap[w.heap.size+1]? =some (.cells #[.int .i64 (v:Nat),.int .i64 (z:Nat)] 90 (0,0)):=by
  rw[rY _ _ _ (by simp)];have:=kd (w.alloc (.cells #[.slice a S.length ca,.slice b fr.length cb,.slice t P.length ct] 87)) (.cells #[.int .i64 (v:Nat),.int .i64 (z:Nat)] 90);rwa [cN] at this
 have iA:bj (((w.alloc (.cells #[.slice a S.length ca,.slice b fr.length cb,.slice t P.length ct] 87)).alloc (.cells #[.int .i64 (v:Nat),.int .i64 (z:Nat)] 90)).alloc (.cells #[.slice none 0 0,.slice none 0 0,.slice none 0 0] 87)) (w.heap.size+1+1) (.slice none 0 0) (.slice none 0 0) (.slice none 0 0):=bj.at (w:=(w.alloc (.cells #[.slice a S.length ca,.slice b fr.length cb,.slice t P.length ct] 87)).alloc (.cells #[.int .i64 (v:Nat),.int .i64 (z:Nat)] 90)) (by simp) _ _ _;have zt:=hid (ku.o _ hb0);clear ku;generalize (((w.alloc (.cells #[.slice a S.length ca,.slice b fr.length cb,.slice t P.length ct] 87)).alloc (.cells #[.int .i64 (v:Nat),.int .i64 (z:Nat)] 90)).alloc (.cells #[.slice none 0 0,.slice none 0 0,.slice none 0 0] 87))=W0 at *;refine zt.o.af ?_;rintro e w3 ⟨d,cd,rfl,wS,AX,hb3⟩;have hl0:=iA.lt;have jT:=(au w3.heap.size w3).alloc (ar _) (.cells #[.slice a S.length ca,.slice d (bw fr v).length cd,.slice none 0 0] 87);have eM:(w3.alloc (.cells #[.slice a S.length ca,.slice d (bw fr v).length cd,.slice none 0 0] 87)).heap.size=w3.heap.size+1:=by simp
 have dY:=(hb0.trans (hb3.af hb0.size)).trans (jT.af (aS hb0.size hb3.size));have xj:=(pq.aa hb3 pq.lt).alloc (.cells #[.slice a S.length ca,.slice d (bw fr v).length cd,.slice none 0 0] 87);have vw:=(iA.aa hb3 iA.lt).alloc (.cells #[.slice a S.length ca,.slice d (bw fr v).length cd,.slice none 0 0] 87)
 have y5:(w3.alloc (.cells #[.slice a S.length ca,.slice d (bw fr v).length cd,.slice none 0 0] 87)).heap[w.heap.size+1]? =some (.cells #[.int .i64 (v:Nat),.int .i64 (z:Nat)] 90 (0,0)):=by
  rw[rY _ _ _ (by have:=hb3.size;omega),hb3.block _ (by omega)];exact C9
 have C3:pE w.heap.size (w3.alloc (.cells #[.slice a S.length ca,.slice d (bw fr v).length cd,.slice none 0 0] 87)) w3.heap.size (.slice a S.length ca) (.slice d (bw fr v).length cd) (.slice none 0 0) [] [] (w3.alloc (.cells #[.slice a S.length ca,.slice d (bw fr v).length cd,.slice none 0 0] 87)):=pE.start (bj.at (w:=w3) rfl (.slice a S.length ca) (.slice d (bw fr v).length cd) (.slice none 0 0));have C6:=wS.aa jT;have hs3:=hb3.size
 have Mb:Hid (∀g o,d=some ⟨g,o,none⟩ ->bw fr v≠[] ->some g≠some w3.heap.size):=fun g o e hne e2=>by
  obtain⟨g',o',e',iK,_⟩:=wS 0 (by cases hl:bw fr v with |nil=>exact absurd hl hne |cons x l=>simp);rw[e] at e';cases e';cases e2;omega
 have mF:Hid (∀g o,d=some ⟨g,o,none⟩ ->bw fr v≠[] ->g≠w.heap.size+1+1):=fun g o e _ e2=>by
  have:=AX.2 g o e;omega
 clear wS AX hb3 hb0 pq C9 iA jT zt;have fV:=hid dY;have q9:=hid xj;have js:=hid vw;have nX:=hid y5;have vS:=hid C3;have F4:=hid C6;have tM:=xj.cells.2.2;clear dY xj vw y5 C3 C6;generalize xm:bw fr v=LF at *;have Qd:=hid xm;clear xm;go_wp2_with fail
 generalize (w3.alloc (.cells #[.slice a S.length ca,.slice d LF.length cd,.slice none 0 0] 87))=W4 at *;clear tM;obtain⟨T,hT⟩:∃T:Nat ->List Tb,∀k,(P.take k).map (gK S v z)=T k:=⟨fun k=>(P.take k).map (gK S v z),fun _=>rfl⟩;have vQ:Hid (T 0=[]):=by show _=_;rw[<- hT];rfl
 have sU:Hid (∀k (hk:k<P.length),T (k+1)=T k++[gK S v z P[k]]):=fun k hk=>by rw[<- hT, <- hT,fR hk,fY];rfl
 have qu:Hid (T P.length=P.map (gK S v z)):=by show _=_;rw[<- hT,fJ]
 have vO:Hid (∀k,k<=P.length ->(T k).length=k):=fun k hk=>by rw[<- hT,c5,eZ];omega
 clear hT;go_loopw [17] (fun iv wr=>∃(i:Nat) (tv:Value) (Q:List (Value×Value)),i<=P.length/\iv=.int .i64 i/\Hid (pE w.heap.size W4 w3.heap.size (.slice a S.length ca) (.slice d LF.length cd) tv Q (T i) wr)) (fun iv _=>P.length - (intOf iv).toNat)
 case atStart=>exact⟨0,_,_,aU _,rfl,by rw[vQ.o];exact vS⟩
 case round=>
  obtain⟨i,tv,Q,hi,rfl,HM⟩:=hrel;have Hq:=HM.o.fr.size;have HB:Hid (Below w.heap.size w wr):=H4 fV.o HM.o.fr (by omega) (by omega);have FO:Hid (bj wr w.heap.size (.slice a S.length ca) (.slice b fr.length cb) (.slice t P.length ct)):=(HM.o.fr.block _ q9.o.lt (fun e=>by have:=lV e;omega)).trans q9.o;have lQ:Hid (bj wr (w.heap.size+1+1) (.slice none 0 0) (.slice none 0 0) (.slice none 0 0)):=(HM.o.fr.block _ js.o.lt (fun e=>by have:=lV e;omega)).trans js.o;have WD:Hid (wr.heap[w.heap.size+1]? =some (.cells #[.int .i64 (v:Nat),.int .i64 (z:Nat)] 90 (0,0))):=(HM.o.fr.block _ (by omega) (fun e=>by have:=lV e;omega)).trans nX.o;by_cases hlt2:i<P.length
  ·obtain⟨g,o,p,q,rfl,hg,k0,k1,lC⟩:=(HP.o.aa HB.o) i hlt2;have hA:=(au wr.heap.size wr).alloc (ar _) (TC p q);have dC:=hid (HB.o.trans (hA.af HB.o.size));(have AU:(wr.alloc (TC p q)).heap.size=wr.heap.size+1:=by simp);have KN:=FO.o.alloc (TC p q);have Tr:=KN.cells.1;have Fc:(wr.alloc (TC p q)).heap[w.heap.size+1]? =some (.cells #[.int .i64 (v:Nat),.int .i64 (z:Nat)] 90 (0,0)):=(rY _ _ _ (by omega)).trans WD.o;(have ze:(wr.alloc (TC p q)).cell? ⟨w.heap.size+1,0,none⟩=some (.int .i64 (v:Nat)):=by rw[cC _ _ 0 _ _ (0,0) Fc];rfl);(have Be:(wr.alloc (TC p q)).cell? ⟨w.heap.size+1,1,none⟩=some (.int .i64 (z:Nat)):=by rw[cC _ _ 1 _ _ (0,0) Fc];rfl);have bW:=bh.at (w:=wr) rfl p q;have b0:=bW.c0;have b1:=bW.c1;have DI:=hid (HM.o.under hA);have HX:=hid (qA.o i hlt2 p q _ dC.o (lC.aa hA));have VR:=hid (sU.o i hlt2);have oK:=vO.o i hi;obtain⟨ps,pn,pc,rfl⟩:=lC.slices.1;obtain⟨qs,qn,qc,rfl⟩:=lC.slices.2;have BA:Hid (∀R,tv.ownBlock=some R ->W4.heap.size<=R/\R<wr.heap.size):=HM.o.own.lt;clear lC hA bW KN Fc;generalize gK S v z P[i]=ft at *;go_wp2_with fail
   refine HX.o.af ?_;rintro e w7 ⟨⟨x2,y2,rfl,hv2,dm⟩,bK⟩;obtain⟨xs,xn,xc,rfl⟩:=hv2.slices.1;obtain⟨ys,yn,yc,rfl⟩:=hv2.slices.2;rw[AU] at dm;have Ti:=bK.size;rw[AU] at Ti;have IK:=hid (DI.o.under bK);have sL:=(au w7.heap.size w7).alloc (ar _) (TC (.slice xs xn xc) (.slice ys yn yc));have xU:=hid (IK.o.under sL);(have CE:(w7.alloc (TC (.slice xs xn xc) (.slice ys yn yc))).heap.size=w7.heap.size+1:=by simp);have wY:=bh.at (w:=w7) rfl (.slice xs xn xc) (.slice ys yn yc);have c80:=wY.c0;have c81:=wY.c1;have t82:=xU.o.box.cells.2.2;have Fi:=(au (w7.alloc (TC (.slice xs xn xc) (.slice ys yn yc))).heap.size (w7.alloc (TC (.slice xs xn xc) (.slice ys yn yc)))).alloc (ar _) (TC (.slice xs xn xc) (.slice ys yn yc));have xT:=hid (xU.o.under Fi);have FA:=hid ((hv2.aa sL).aa Fi);have E5:=bh.at (w:=w7.alloc (TC (.slice xs xn xc) (.slice ys yn yc))) CE (.slice xs xn xc) (.slice ys yn yc);have WV:=hid E5.c0;have WU:=hid E5.c1;have rM:=hid hv2.slices;have fA:=hid dm;have pG:Hid (W4.heap.size<=((w7.alloc (TC (.slice xs xn xc) (.slice ys yn yc))).alloc (TC (.slice xs xn xc) (.slice ys yn yc))).heap.size):=xT.o.fr.size;have hb5:=vS.o.box.lt;clear hv2 bK sL Fi wY E5 dm HX DI k0 k1 b0 b1 Tr ze Be
   have KEY:∀(cP:Value) (bI:World),bI.ownsRow W4.heap.size 39 2 cP ((T i).length+1) (fK Q++[.slice xs xn xc,.slice ys yn yc]) ->((w7.alloc (TC (.slice xs xn xc) (.slice ys yn yc))).alloc (TC (.slice xs xn xc) (.slice ys yn yc))).grownBy bI tv.ownBlock ->(cP.ownBlock=tv.ownBlock∨∀k,cP.ownBlock=some k ->((w7.alloc (TC (.slice xs xn xc) (.slice ys yn yc))).alloc (TC (.slice xs xn xc) (.slice ys yn yc))).heap.size<=k) ->(∃a' n' c',cP=Value.slice a' n' c')/\(pE w.heap.size W4 w3.heap.size (.slice a S.length ca) (.slice d LF.length cd) cP (Q++[(.slice xs xn xc,.slice ys yn yc)]) (T (i+1)) (bI.setCell ⟨w3.heap.size,2,none⟩ cP))/\bI.cell? ⟨w3.heap.size,2,none⟩=some tv/\bI.frozen? ⟨w3.heap.size,2,none⟩=false:=fun cP bI dw dO fS=>by
    have hM:=xT.o.push (by omega) hb5 FA.o (fun R hR=>fA.o R (by have:=(BA.o R hR).2;omega)) (fun R _ hR=>fA.o R (by omega)) dw dO fS;rw[<- VR.o] at hM;have xu:bj bI w3.heap.size (.slice a S.length ca) (.slice d LF.length cd) tv:=(dO.block _ xT.o.box.lt (fun e=>by have:=(BA.o _ e.symm).1;omega)).trans xT.o.box;refine⟨?_,hM,xu.cells.2.2,xu.fz 2⟩;rcases dw.2 with ⟨h1,_⟩ |⟨g',cap',cur',h1,_⟩
    ·exact⟨_,_,_,h1⟩
    ·exact⟨_,_,_,h1⟩
   have HKEY:=hid KEY;clear KEY;go_wp2_with (at_builtin;refine Jl rfl _ _ rfl W4.heap.size tv (T i).length (fK Q) (.slice xs xn xc) (.slice ys yn yc) rfl xT.o.own.own (w7.heap.size+1) rfl WV.o WU.o rM.o.1 rM.o.2 (by omega) pG.o ?_;intro cP bI dw dO fS;obtain⟨⟨wC,tn',wB,rfl⟩,sI,t102,f102⟩:=HKEY.o cP bI dw dO fS;have nV:=hid sI;clear sI dw dO fS)
   go_roundw
   case rel=>exact⟨i+1,_,_,by omega,by go_num,nV⟩
   case measure=>simp[intOf];omega
  ·obtain rfl:i=P.length:=by omega
   rw[qu.o] at HM;obtain⟨ta,tc,rfl,yO⟩:=HM.o.own.row;obtain⟨x0,x1,x2⟩:=HM.o.box.cells;obtain⟨r0,r1,r2⟩:=lQ.o.cells;have Am:=lQ.o.fz 0;have JE:=lQ.o.fz 1;have JD:=lQ.o.fz 2;(have qa:(P.map (gK S v z)).length=P.length:=by simp);rw[qa] at HM x2;have C5:ax wr d LF:=Hg F4.o Mb.o HM.o.fr;have xR:=hid (lQ.o.put (.slice a S.length ca) (.slice d LF.length cd) (.slice ta P.length tc));have uF:=hid (bF HB.o (show w.heap.size<=w.heap.size+1+1 by omega) (.slice a S.length ca) (.slice d LF.length cd) (.slice ta P.length tc))
   have eQ:Value.ownBlock (.slice ta P.length tc)≠some (w.heap.size+1+1):=fun e=>by
    have:=(HM.o.own.lt _ e).1;omega
   have vz:=((HM.o.own.off (g:=w.heap.size+1+1) (j:=0) (.slice a S.length ca) (HM.o.far _ (by omega) (by omega)) eQ).off (g:=w.heap.size+1+1) (j:=1) (.slice d LF.length cd) (HM.o.far _ (by omega) (by omega)) eQ).off (g:=w.heap.size+1+1) (j:=2) (.slice ta P.length tc) (HM.o.far _ (by omega) (by omega)) eQ;obtain⟨Ri,Re,e2,wI⟩:=vz.row;rw[qa] at e2;injection e2 with e3 e4 e5;subst e3 e5;clear e4;have FB:=hid wI;have vV:=hid (((C5.off (g:=w.heap.size+1+1) (j:=0) (y:=.slice a S.length ca) mF.o).off (g:=w.heap.size+1+1) (j:=1) (y:=.slice d LF.length cd) mF.o).off (g:=w.heap.size+1+1) (j:=2) (y:=.slice ta P.length tc) mF.o);have FU:=hid ((ND HM.o.own.own).up (show w.heap.size<=W4.heap.size by omega));clear vz wI C5 yO;go_wp2;refine bB (xR.o.result1 rfl _ rfl) rfl ?_;have e6:=Qd.o;subst e6;exact⟨d,cd,ta,tc,rfl,vV.o,FB.o,FU.o,uF.o⟩
variable {Q2:List (Value×Value)} {P2:List Tb} {wv:Value}
theorem abG {t:Tb} (h:Up t.1 n):t.1.contains (v:Int)=decide (v∈ag t.1):=by
 have:(v:Int)∈t.1↔v∈ag t.1:=by
  rw[ag,bs];constructor
  ·intro hv;exact⟨_,hv,by simp⟩
  ·rintro⟨x,hx,e⟩;have:=((pV.1 h).1 x hx).1;rw[show (v:Int)=x by omega];exact hx
 by_cases hv:v∈ag t.1
 ·rw[cJ hv,lh];exact this.2 hv
 ·rw[cz hv, <- yr,lh];exact fun e=>hv (this.1 e)
theorem ag6 (a:Option Addr) (ca:Nat) (S:List Nat) (x y:Value) (t:Tb) (v:Nat) (most:Bool) (w:World) (aJ:eH (iL S)) (hs:ax w a (iL S)) (h:cR w x y t) (ho:di S S.length t) (hw:Cw 8192 t.2) (hv:v<S.length) (EE:v∈ag t.1):
  Calls Tryz.prog 160 #[.slice a S.length ca,.agg #[x,y],.int .i64 (v:Nat),.bool most] w fun e w'=>Bi w.heap.size (outT S v most t) e w'/\Below w.heap.size w w':=by
 obtain⟨b,c,cb,cc,rfl,rfl,h1,h2,h3⟩:=h;have e1:=aJ.eight;rw[ba] at e1;have e2:=ho.small aJ;have e3:t.1.contains (v:Int)=true:=by rw[abG ho.up,cJ EE]
 cases most with
 |false=>
  have:=aew a b c ca cb cc (iL S) t.1 t.2 v w hs h1 h2 (by rw[ba];omega) (by omega) (ho.check aJ) hw e3 (by rw[ba];exact hv);rw[ba,ew] at this;exact this.af fun e w' hh=>⟨uh.tb (t:=outT S v false t) hh.1,hh.2⟩
 |true=>
  have:=aex a b c ca cb cc (iL S) t.1 t.2 v w hs h1 h2 (by rw[ba];omega) (by omega) (ho.check aJ) hw e3 (by rw[ba];exact hv);rw[ba,ew] at this;exact this.af fun e w' hh=>⟨uh.tb (t:=outT S v true t) hh.1,hh.2⟩
theorem NF {B:Nat} {e:TypeId} {s:Nat} {v:Value} {r:Option Nat} (h:w.ownsRow B e s v n xs) (hg:w.grownBy w' r) (hne:∀R,v.ownBlock=some R ->r≠some R):w'.ownsRow B e s v n xs:=by
 refine⟨h.1,?_⟩;rcases h.2 with h1 |⟨g,cap,cur,h1,h2,h3,h4⟩
 ·exact .inl h1
 ·exact .inr ⟨g,cap,cur,h1,h2,(hg.block g (eL.1 h3).1 (fun e=>hne g (by rw[h1];rfl) e.symm)).trans h3,h4⟩
theorem p4 {B:Nat} {e:TypeId} {s:Nat} {v:Value} (h:w.ownsRow B e s v n xs):∀R,v.ownBlock=some R ->B<=R/\R<w.heap.size:=fun R hR=>by
 rcases h.2 with ⟨h1,h2⟩ |⟨g,cap,cur,h1,h2,h3,_⟩
 ·rw[h1] at hR;cases hR
 ·rw[h1] at hR;cases hR;exact⟨h2,(eL.1 h3).1⟩
theorem uO {B:Nat} {e:TypeId} {s:Nat} {v:Value} (h:w.ownsRow B e s v n xs):∃a c,v=.slice a n c:=by
 rcases h.2 with ⟨h1,h2⟩ |⟨g,cap,cur,h1,_⟩
 ·exact⟨none,0,by rw[h1,h2]⟩
 ·exact⟨_,_,h1⟩
structure xI (w:World) (Q:List (Value×Value)) (P:List Tb):Prop where
 len:Q.length=P.length
 val:∀k (h:k<P.length) (h':k<Q.length),cR w Q[k].1 Q[k].2 P[k]
theorem xI.nil (w:World):xI w [] []:=⟨rfl,fun k h=>absurd h (by simp)⟩
theorem xI.push {t:Tb} (h:xI w Q P) (ht:cR w x y t):xI w (Q++[(x,y)]) (P++[t]):=by
 refine⟨by simp[h.len],fun k hk dH=>?_⟩;by_cases dX:k<P.length
 ·have gi:k<Q.length:=by rw[h.len];exact dX
  rw[uI gi,uI dX];exact h.val k dX gi
 ·have gi:¬k<Q.length:=by rw[h.len];exact dX
  rw[Ac (by omega),Ac (by omega)];simp only[MQ];exact ht
theorem xI.owt {V:World} {B:Nat} {v:Value} (h:xI w Q P) (hb:Below w.heap.size w V) (hB:w.heap.size<=B) (ho:V.ownsRow B 39 2 v P.length (fK Q)):kr V B v Q P:=
 ⟨h.len,ho,fun k h1 h2=>(h.val k h1 h2).aa hb,fun R hR k h1 h2=>(h.val k h1 h2).lt (aS hB (p4 ho R hR).1)⟩
structure nP (w W:World) (b:Nat) (x y tv wv:Value) (Q Q2:List (Value×Value)) (P P2:List Tb) (V:World):Prop where
 box:bj V b x y tv
 own:V.ownsRow W.heap.size 39 2 tv P.length (fK Q)
 own2:V.ownsRow W.heap.size 39 2 wv P2.length (fK Q2)
 q:xI w Q P
 q2:xI w Q2 P2
 ne:∀R,tv.ownBlock=some R ->wv.ownBlock≠some R
 fr:W.grownBy V (some b)
theorem nP.start {W:World} {b:Nat} (h:bj W b x y (.slice none 0 0)):nP w W b x y (.slice none 0 0) (.slice none 0 0) [] [] [] [] W:=
 ⟨h,(kr.nil _ _).own,(kr.nil _ _).own,xI.nil _,xI.nil _,(fun R e=>by cases e),UF _ _⟩
theorem nP.under {W V:World} {b:Nat} (h:nP w W b x y tv wv Q Q2 P P2 V) (hb:Below V.heap.size V V'):nP w W b x y tv wv Q Q2 P P2 V':=
 ⟨h.box.aa hb h.box.lt,JR h.own (Dn.aa hb),JR h.own2 (Dn.aa hb),h.q,h.q2,h.ne,UG h.fr hb⟩
theorem nP.push2 {W V:World} {b:Nat} {M0:Value} {t:Tb} (h:nP w W b x y tv wv Q Q2 P P2 V) (hb:b<W.heap.size) (ht:cR w u1 u2 t) (ho:V'.ownsRow W.heap.size 39 2 M0 (P2.length+1) (fK Q2++[u1,u2])) (hg:V.grownBy V' wv.ownBlock) (hn:M0.ownBlock=wv.ownBlock∨∀k,M0.ownBlock=some k ->V.heap.size<=k):
  nP w W b x y tv M0 Q (Q2++[(u1,u2)]) P (P2++[t]) V':=by
 have hR:∀k,wv.ownBlock=some k ->W.heap.size<=k:=fun k e=>(p4 h.own2 k e).1;refine⟨(hg.block b h.box.lt (fun e=>by have:=hR b e.symm;omega)).trans h.box,NF h.own hg h.ne,by rw[Nb,dM];exact ho,h.q,h.q2.push ht,fun R e e2=>?_,K2 h.fr hg hR⟩;rcases hn with hn |hn
 ·rw[hn] at e2;exact h.ne R e e2
 ·have h1:=hn R e2;have h2:=(p4 h.own R e).2;omega
theorem nP.push1 {W V:World} {b:Nat} {cP:Value} {t:Tb} (h:nP w W b x y tv wv Q Q2 P P2 V) (hb:b<W.heap.size) (ht:cR w u1 u2 t) (ho:V'.ownsRow W.heap.size 39 2 cP (P.length+1) (fK Q++[u1,u2])) (hg:V.grownBy V' tv.ownBlock) (hn:cP.ownBlock=tv.ownBlock∨∀k,cP.ownBlock=some k ->V.heap.size<=k):
  nP w W b x y cP wv (Q++[(u1,u2)]) Q2 (P++[t]) P2 (V'.setCell ⟨b,2,none⟩ cP)/\bj V' b x y tv:=by
 have hR:∀k,tv.ownBlock=some k ->W.heap.size<=k:=fun k e=>(p4 h.own k e).1;have hB:bj V' b x y tv:=(hg.block b h.box.lt (fun e=>by have:=hR b e.symm;omega)).trans h.box;have ho2:V'.ownsRow W.heap.size 39 2 wv P2.length (fK Q2):=NF h.own2 hg (fun R e e2=>h.ne R e2 e);have ho1:V'.ownsRow W.heap.size 39 2 cP (P++[t]).length (fK (Q++[(u1,u2)])):=by rw[Nb,dM];exact ho
 refine⟨⟨hB.set2 cP,DY ho1 (fun e=>?_) _,DY ho2 (fun e=>?_) _,h.q.push ht,h.q2,fun R e e2=>?_,OZ (K2 h.fr hg hR) _ _⟩,hB⟩
 ·have:=(p4 ho1 b e).1;omega
 ·have:=(p4 ho2 b e).1;omega
 ·rcases hn with hn |hn
  ·rw[hn] at e;exact h.ne R e e2
  ·have h1:=hn R e;have h2:=(p4 h.own2 R e2).2;omega
theorem nP.plm {W V:World} {b:Nat} (h:nP w W b x y tv wv Q Q2 P P2 V) (hb:Below w.heap.size w V) (hW:w.heap.size<=W.heap.size):pE w.heap.size W b x y tv Q P V:=
 ⟨h.box,h.q.owt hb hW h.own,fun _ hR _ k h1 h2=>(h.q.val k h1 h2).lt hR,h.fr⟩
theorem nP.row2 {W V:World} {b:Nat} (h:nP w W b x y tv wv Q Q2 P P2 V) (hb:Below w.heap.size w V) (hW:w.heap.size<=W.heap.size):∃a c,wv=.slice a P2.length c/\dQ V a P2:=(h.q2.owt hb hW h.own2).row
theorem agJ (a b t:Option Addr) (ca cb ct:Nat) (S:List Nat) (fr:List Int) (P:List Tb) (D c v:Nat) (most:Bool) (w:World) (aJ:eH (iL S)) (hs:ax w a (iL S)) (hb:ax w b fr) (hP:dQ w t P) (aM:eX S S.length P D c) (hpl:P.length<=999) (jR:fr.length<=1000) (hm:2*(B D).size+(B c).size+2<=8192) (hv:v<S.length) (hex:∃t∈P,v∈ag t.1):
  Calls Tryz.prog 104 #[.agg #[.slice a S.length ca,.slice b fr.length cb,.slice t P.length ct],.int .i64 (v:Nat),.bool most] w fun e w'=>∃d cd t' b9,e=.returned (.agg #[.slice a S.length ca,.slice d (bw fr v).length cd,.slice t' (lq S v most P).length b9])/\ax w' d (bw fr v)/\dQ w' t' (lq S v most P)/\eC w.heap.size t' b9/\Below w.heap.size w w':=by
 have df:Pos S:=by have:=aJ.pos;rwa [ew] at this
 have ku:=hid (fun (U:World) (hU:Below w.heap.size w U)=>R3 (.slice a S.length ca) (.slice t P.length ct) b cb fr (v:Int) U (slv _ _ _) (slv _ _ _) (hb.aa hU) jR)
 have jt:Hid (∀(k:Nat) (hk:k<P.length) (x:Option Addr) (cx:Nat) (U:World),ax U x P[k].1 ->Calls Tryz.prog 49 #[.slice x P[k].1.length cx,.int .i64 (v:Nat)] U fun e w'=>e=.returned (.bool (decide (v∈ag P[k].1)))/\Below U.heap.size U w'):=fun k hk x cx U h=>by
  have ho:=aM.ok _ (bH hk);have:=GS x cx P[k].1 (v:Int) U h (by have:=ho.small aJ;omega);rwa [abG ho.up] at this
 obtain⟨E1,d1,k1,k2,k3⟩:=aM.filter (fun t=>decide (v∈ag t.1))
 have hm1:2*(B E1).size+(B d1).size+2<=8192:=by
  have h1:=kj k2;have h2:=kj k3;omega
 have hpart:=k1.part df hm1 (P.filter fun t=>decide (v∈ag t.1)).length;rw[fJ] at hpart
 have hin:v∈ag (allT S (P.filter fun t=>decide (v∈ag t.1))).1:=((xH df k1.ok).2.1 v).2 (by
  obtain⟨t,ht,EE⟩:=hex;exact⟨t,c4.2 ⟨ht,cJ EE⟩,EE⟩)
 have hlen:(P.filter fun t=>decide (v∈ag t.1)).length<=1000:=aS (pR ..) (by omega);have rN:Hid (∀(wa:Option Addr) (cw:Nat) (U:World),Below w.heap.size w U ->dQ U wa (P.filter fun t=>decide (v∈ag t.1)) ->Calls Tryz.prog 105 #[.slice a S.length ca,.slice wa (P.filter fun t=>decide (v∈ag t.1)).length cw] U fun e w'=>∃x y,e=.returned (.agg #[x,y])/\cR w' x y (allT S (P.filter fun t=>decide (v∈ag t.1)))/\Below U.heap.size U w'):=fun wa cw U hU h=>Zi a wa ca cw S _ E1 d1 U aJ (hs.aa hU) h k1 hlen hm1;have Dw:Hid (∀(x y:Value) (U:World),Below w.heap.size w U ->cR U x y (allT S (P.filter fun t=>decide (v∈ag t.1))) ->Calls Tryz.prog 160 #[.slice a S.length ca,.agg #[x,y],.int .i64 (v:Nat),.bool most] U fun e w'=>Bi U.heap.size (outT S v most (allT S (P.filter fun t=>decide (v∈ag t.1)))) e w'/\Below U.heap.size U w'):=fun x y U hU h=>ag6 a ca S x y _ v most U aJ (hs.aa hU) h hpart.1 hpart.2 hv hin;have HP:=hid hP;clear hs hb hP aM aJ df hm hex k1 k2 k3 hm1 hpart hin hlen;obtain⟨T,hT⟩:∃T:Nat ->List Tb,∀k,(P.take k).filter (fun t=>!decide (v∈ag t.1))=T k:=⟨fun k=>(P.take k).filter (fun t=>!decide (v∈ag t.1)),fun _=>rfl⟩;obtain⟨Z,hZ⟩:∃Z:Nat ->List Tb,∀k,(P.take k).filter (fun t=>decide (v∈ag t.1))=Z k:=⟨fun k=>(P.take k).filter (fun t=>decide (v∈ag t.1)),fun _=>rfl⟩;have vQ:Hid (T 0=[]/\Z 0=[]):=by show _/\_;rw[<- hT, <- hZ];exact⟨rfl,rfl⟩
 have j5:Hid (∀k (hk:k<P.length),decide (v∈ag P[k].1)=true ->T (k+1)=T k/\Z (k+1)=Z k++[P[k]]):=fun k hk h=>by
  rw[<- hT, <- hT, <- hZ, <- hZ,fR hk,Ch,Ch,Ae (by simp only[h];decide),Ad (p:=fun t:Tb=>decide (v∈ag t.1)) h];simp
 have qZ:Hid (∀k (hk:k<P.length),decide (v∈ag P[k].1)=false ->T (k+1)=T k++[P[k]]/\Z (k+1)=Z k):=fun k hk h=>by
  rw[<- hT, <- hT, <- hZ, <- hZ,fR hk,Ch,Ch,Ad (by simp only[h];decide),Ae (by simp only[h];decide)];simp
 have qu:Hid (T P.length=(P.filter fun t=>!decide (v∈ag t.1))/\Z P.length=P.filter fun t=>decide (v∈ag t.1)):=by show _/\_;rw[<- hT, <- hZ,fJ];exact⟨rfl,rfl⟩
 have vO:Hid (∀k,(T k).length<=P.length/\(Z k).length<=P.length):=fun k=>by rw[<- hT, <- hZ];exact⟨aS (pR ..) (by rw[eZ];omega),aS (pR ..) (by rw[eZ];omega)⟩
 clear hT hZ;obtain⟨OP,Uh⟩:∃OP,lq S v most P=OP:=⟨_,rfl⟩;have HOP:Hid (OP=T P.length++[outT S v most (allT S (Z P.length))]):=by show _=_;rw[<- Uh,qu.o.1,qu.o.2];rfl
 rw[<- qu.o.2] at rN Dw;rw[Uh];generalize outT S v most (allT S (Z P.length))=OT at *;generalize allT S (Z P.length)=AT at *;clear Uh qu;obtain⟨LF,xm⟩:∃LF,bw fr v=LF:=⟨_,rfl⟩;rw[xm] at ku;rw[xm];clear xm;go_enter Tryz.func104,Tryz.ntmps104;go_wp2_with fail
 have hb0:Below w.heap.size w ((w.alloc (.cells #[.slice a S.length ca,.slice b fr.length cb,.slice t P.length ct] 87)).alloc (.cells #[.slice none 0 0,.slice none 0 0,.slice none 0 0] 87)):=by
  have h1:=(au w.heap.size w).alloc (ar _) (.cells #[.slice a S.length ca,.slice b fr.length cb,.slice t P.length ct] 87);exact h1.alloc h1.size _
 have pq:bj ((w.alloc (.cells #[.slice a S.length ca,.slice b fr.length cb,.slice t P.length ct] 87)).alloc (.cells #[.slice none 0 0,.slice none 0 0,.slice none 0 0] 87)) w.heap.size (.slice a S.length ca) (.slice b fr.length cb) (.slice t P.length ct):=(bj.at (w:=w) rfl _ _ _).alloc _;have iA:bj ((w.alloc (.cells #[.slice a S.length ca,.slice b fr.length cb,.slice t P.length ct] 87)).alloc (.cells #[.slice none 0 0,.slice none 0 0,.slice none 0 0] 87)) (w.heap.size+1) (.slice none 0 0) (.slice none 0 0) (.slice none 0 0):=bj.at (w:=w.alloc (.cells #[.slice a S.length ca,.slice b fr.length cb,.slice t P.length ct] 87)) (by simp) _ _ _;have zt:=hid (ku.o _ hb0);clear ku;generalize ((w.alloc (.cells #[.slice a S.length ca,.slice b fr.length cb,.slice t P.length ct] 87)).alloc (.cells #[.slice none 0 0,.slice none 0 0,.slice none 0 0] 87))=W0 at *;refine zt.o.af ?_;rintro e w3 ⟨d,cd,rfl,wS,AX,hb3⟩;have hl0:=iA.lt;have jT:=(au w3.heap.size w3).alloc (ar _) (.cells #[.slice a S.length ca,.slice d LF.length cd,.slice none 0 0] 87);have eM:(w3.alloc (.cells #[.slice a S.length ca,.slice d LF.length cd,.slice none 0 0] 87)).heap.size=w3.heap.size+1:=by simp
 have dY:=(hb0.trans (hb3.af hb0.size)).trans (jT.af (aS hb0.size hb3.size));have xj:=(pq.aa hb3 pq.lt).alloc (.cells #[.slice a S.length ca,.slice d LF.length cd,.slice none 0 0] 87);have vw:=(iA.aa hb3 iA.lt).alloc (.cells #[.slice a S.length ca,.slice d LF.length cd,.slice none 0 0] 87);have C3:nP w (w3.alloc (.cells #[.slice a S.length ca,.slice d LF.length cd,.slice none 0 0] 87)) w3.heap.size (.slice a S.length ca) (.slice d LF.length cd) (.slice none 0 0) (.slice none 0 0) [] [] [] [] (w3.alloc (.cells #[.slice a S.length ca,.slice d LF.length cd,.slice none 0 0] 87)):=nP.start (bj.at (w:=w3) rfl (.slice a S.length ca) (.slice d LF.length cd) (.slice none 0 0));have C6:=wS.aa jT;have hs3:=hb3.size
 have Mb:Hid (∀g o,d=some ⟨g,o,none⟩ ->LF≠[] ->some g≠some w3.heap.size):=fun g o e hne e2=>by
  obtain⟨g',o',e',iK,_⟩:=wS 0 (by cases hl:LF with |nil=>exact absurd hl hne |cons x l=>simp);rw[e] at e';cases e';cases e2;omega
 have mF:Hid (∀g o,d=some ⟨g,o,none⟩ ->LF≠[] ->g≠w.heap.size+1):=fun g o e _ e2=>by
  have:=AX.2 g o e;omega
 clear wS AX hb3 hb0 pq iA jT zt;have fV:=hid dY;have q9:=hid xj;have js:=hid vw;have vS:=hid C3;have F4:=hid C6;have tM:=xj.cells.2.2;clear dY xj vw C3 C6;go_wp2_with fail
 generalize (w3.alloc (.cells #[.slice a S.length ca,.slice d LF.length cd,.slice none 0 0] 87))=W4 at *;clear tM;go_loopw [8,19] (fun zv iv wr=>∃(i:Nat) (tv:Value) (Q Q2:List (Value×Value)),i<=P.length/\iv=.int .i64 i/\Hid (nP w W4 w3.heap.size (.slice a S.length ca) (.slice d LF.length cd) tv zv Q Q2 (T i) (Z i) wr)) (fun _ iv _=>P.length - (intOf iv).toNat)
 case atStart=>exact⟨0,_,_,_,aU _,rfl,by rw[vQ.o.1,vQ.o.2];exact vS⟩
 case round=>
  obtain⟨i,tv,Q,Q2,hi,rfl,HM⟩:=hrel;have Hq:=HM.o.fr.size;have HB:Hid (Below w.heap.size w wr):=H4 fV.o HM.o.fr (by omega) (by omega);have FO:Hid (bj wr w.heap.size (.slice a S.length ca) (.slice b fr.length cb) (.slice t P.length ct)):=(HM.o.fr.block _ q9.o.lt (fun e=>by have:=lV e;omega)).trans q9.o;have lQ:Hid (bj wr (w.heap.size+1) (.slice none 0 0) (.slice none 0 0) (.slice none 0 0)):=(HM.o.fr.block _ js.o.lt (fun e=>by have:=lV e;omega)).trans js.o;have hb5:w3.heap.size<W4.heap.size:=by omega
  obtain⟨za,zc,rfl⟩:=uO HM.o.own2;by_cases hlt2:i<P.length
  ·obtain⟨g,o,p,q,rfl,hg,k0,k1,aa6⟩:=HP.o i hlt2;replace k0:=(HB.o.cell (p:=⟨g,_,none⟩) hg).trans k0;replace k1:=(HB.o.cell (p:=⟨g,_,none⟩) hg).trans k1;have LS:=hid aa6;have hA:=(au wr.heap.size wr).alloc (ar _) (TC p q);have dC:=hid (HB.o.trans (hA.af HB.o.size));(have AU:(wr.alloc (TC p q)).heap.size=wr.heap.size+1:=by simp);have bW:=bh.at (w:=wr) rfl p q;have b0:=bW.c0;have DI:=hid (HM.o.under hA);obtain⟨ps,qs,pc,qc,rfl,rfl,jQ,_,_⟩:=aa6;have HX:=hid (jt.o i hlt2 ps pc _ (jQ.aa dC.o));have uE:=hid bW;have anp:=hid (j5.o i hlt2);have anr:=hid (qZ.o i hlt2);have oK:=vO.o i;clear jQ hA bW HM HB FO lQ;have HAS:Hid (Below (wr.alloc (TC (.slice ps P[i].1.length pc) (.slice qs P[i].2.length qc))).heap.size (wr.alloc (TC (.slice ps P[i].1.length pc) (.slice qs P[i].2.length qc))) (wr.alloc (TC (.slice ps P[i].1.length pc) (.slice qs P[i].2.length qc)))):=au _ _;generalize P[i]=pt at *;generalize hdc:decide (v∈ag pt.1)=dc at *;clear hdc;go_wp2_with fail
   refine HX.o.af ?_;rintro e w7 ⟨rfl,bK⟩;have IK:=hid (DI.o.under bK);have WW:=hid (uE.o.aa bK uE.o.lt);have c70:=WW.o.c0;have c71:=WW.o.c1;have sL:=(au w7.heap.size w7).alloc (ar _) (TC (.slice ps pt.1.length pc) (.slice qs pt.2.length qc));have xU:=hid (IK.o.under sL);have wY:=bh.at (w:=w7) rfl (.slice ps pt.1.length pc) (.slice qs pt.2.length qc);have adw:=hid wY.c0;have adv:=hid wY.c1;have iQ:Hid (W4.heap.size<=(w7.alloc (TC (.slice ps pt.1.length pc) (.slice qs pt.2.length qc))).heap.size):=xU.o.fr.size;have t72:=IK.o.box.cells.2.2;clear bK sL wY HX DI k0 k1 b0 uE dC WW HAS;cases dc with
   |true=>
    obtain⟨e1,e2⟩:=anp.o rfl
    have KEY:∀(Cj:Value) (bI:World),bI.ownsRow W4.heap.size 39 2 Cj ((Z i).length+1) (fK Q2++[.slice ps pt.1.length pc,.slice qs pt.2.length qc]) ->(w7.alloc (TC (.slice ps pt.1.length pc) (.slice qs pt.2.length qc))).grownBy bI (Value.ownBlock (.slice za (Z i).length zc)) ->(Cj.ownBlock=Value.ownBlock (.slice za (Z i).length zc)∨∀k,Cj.ownBlock=some k ->(w7.alloc (TC (.slice ps pt.1.length pc) (.slice qs pt.2.length qc))).heap.size<=k) ->(∃a' c',Cj=Value.slice a' ((Z i).length+1) c')/\nP w W4 w3.heap.size (.slice a S.length ca) (.slice d LF.length cd) tv Cj Q (Q2++[(.slice ps pt.1.length pc,.slice qs pt.2.length qc)]) (T (i+1)) (Z (i+1)) bI:=fun Cj bI dw dO fS=>by
     have hM:=xU.o.push2 hb5 LS.o dw dO fS;rw[<- e2, <- e1] at hM;exact⟨uO dw,hM⟩
    have HKEY:=hid KEY;clear KEY e1 e2 t72;go_wp2_with (at_builtin;refine Jl rfl _ _ rfl W4.heap.size (.slice za (Z i).length zc) (Z i).length (fK Q2) (.slice ps pt.1.length pc) (.slice qs pt.2.length qc) rfl xU.o.own2 w7.heap.size rfl adw.o adv.o (slv _ _ _) (slv _ _ _) (by omega) iQ.o ?_;intro Cj bI dw dO fS;obtain⟨⟨wC,wB,rfl⟩,sI⟩:=HKEY.o Cj bI dw dO fS;have nV:=hid sI;clear sI dw dO fS)
    go_roundw
    case rel=>exact⟨i+1,_,_,_,by omega,by go_num,nV⟩
    case measure=>simp[intOf];omega
   |false=>
    obtain⟨e1,e2⟩:=anr.o rfl
    have KEY:∀(cP:Value) (bI:World),bI.ownsRow W4.heap.size 39 2 cP ((T i).length+1) (fK Q++[.slice ps pt.1.length pc,.slice qs pt.2.length qc]) ->(w7.alloc (TC (.slice ps pt.1.length pc) (.slice qs pt.2.length qc))).grownBy bI tv.ownBlock ->(cP.ownBlock=tv.ownBlock∨∀k,cP.ownBlock=some k ->(w7.alloc (TC (.slice ps pt.1.length pc) (.slice qs pt.2.length qc))).heap.size<=k) ->(∃a' c',cP=Value.slice a' ((T i).length+1) c')/\nP w W4 w3.heap.size (.slice a S.length ca) (.slice d LF.length cd) cP (.slice za (Z i).length zc) (Q++[(.slice ps pt.1.length pc,.slice qs pt.2.length qc)]) Q2 (T (i+1)) (Z (i+1)) (bI.setCell ⟨w3.heap.size,2,none⟩ cP)/\bI.cell? ⟨w3.heap.size,2,none⟩=some tv/\bI.frozen? ⟨w3.heap.size,2,none⟩=false:=fun cP bI dw dO fS=>by
     obtain⟨hM,xu⟩:=xU.o.push1 hb5 LS.o dw dO fS;rw[<- e2, <- e1] at hM;rw[e2] at hM;exact⟨uO dw,by rw[e2];exact hM,xu.cells.2.2,xu.fz 2⟩
    have HKEY:=hid KEY;clear KEY e1 e2;go_wp2_with (at_builtin;refine Jl rfl _ _ rfl W4.heap.size tv (T i).length (fK Q) (.slice ps pt.1.length pc) (.slice qs pt.2.length qc) rfl xU.o.own w7.heap.size rfl adw.o adv.o (slv _ _ _) (slv _ _ _) (by omega) iQ.o ?_;intro cP bI dw dO fS;obtain⟨⟨wC,wB,rfl⟩,sI,t102,f102⟩:=HKEY.o cP bI dw dO fS;have nV:=hid sI;clear sI dw dO fS)
    go_roundw
    case rel=>exact⟨i+1,_,_,_,by omega,by go_num,nV⟩
    case measure=>simp[intOf];omega
  ·obtain rfl:i=P.length:=by omega
   obtain⟨za',zc',ez,hzs⟩:=HM.o.row2 HB.o (by omega);injection ez with ez1 ez2 ez3;subst ez1 ez3;clear ez2;have mC:=hid (HM.o.plm HB.o (by omega));have HZS:=hid hzs;have oK:=(vO.o P.length).1;clear hzs HM vS j5 qZ vO jt;(have hOL:(T P.length).length+1=OP.length:=by rw[HOP.o,dM];rfl);go_upto_region 10 with (go_quiet (fail))
   have iN:Below wr.heap.size wr wr.drew:=(au wr.heap.size wr).drew;have dI:Hid (Below w.heap.size w wr.drew):=HB.o.drew;have IB:Hid (bj wr.drew w.heap.size (.slice a S.length ca) (.slice b fr.length cb) (.slice t P.length ct)):=FO.o;have V9:=hid (mC.o.under iN);have HZD:=hid (HZS.o.aa iN);have EK:W4.heap.size<=wr.drew.heap.size:=Hq;clear mC HZS HB FO lQ iN Hq;obtain⟨D5,iM⟩:∃D5,wr.drew=D5:=⟨_,rfl⟩;rw[iM] at dI IB V9 HZD EK;have dT:Hid (∀U:World,Below D5.heap.size D5 U ->U.cell? ⟨w.heap.size,0,none⟩=some (.slice a S.length ca)):=fun U hU=>(IB.o.aa hU IB.o.lt).cells.1;have aG:Hid (Below D5.heap.size D5 D5):=au _ _;refine jJ (S:=fun U=>U.cell? ⟨w.heap.size,0,none⟩=some (.slice a S.length ca)) (by kernel_rfl) (by rw[iM];exact dT.o _ aG.o) (fun aq=>?_);rw[iM] at aq⊢;clear iM;refine aw 0 (.pointer (some ⟨w.heap.size,0,none⟩)) ?_;refine aw 1 (.slice a S.length ca) ?_;refine aw 2 (.pointer (some ⟨w.heap.size,0,none⟩)) ?_;refine aw 3 (.slice a S.length ca) ?_;refine aw 4 (.slice za (Z P.length).length zc) ?_;refine aw 6 (.int .i64 (v:Nat)) ?_;refine aw 7 (.bool most) ?_;refine aF [5,12] (cA ?_ (cA ?_ aD))
   focus
    intro K' hK';go_simp;refine(rN.o za zc D5 dI.o HZD.o).af ?_;rintro e u1 ⟨x1,y1,rfl,ny,hb1⟩;replace dI:=hid (dI.o.trans (hb1.af dI.o.size));replace aG:=hid (aG.o.trans (hb1.af aG.o.size));have Ds:=hid ny;refine hK'.o _ _ (dT.o u1 aG.o) (fun ak=>?_);clear hb1 ny;clear hK' K' aq;have aq:=ak;clear ak;refine aF [8,12] (cA ?_ (cA ?_ aD))
    focus
     intro K' hK';go_simp;refine(Dw.o x1 y1 u1 dI.o Ds.o).af ?_;rintro e u2 ⟨⟨x2,y2,rfl,hv2,dm⟩,hb2⟩;have pI:Hid (∀R,R<D5.heap.size ->fE R OT (x2,y2)):=fun R hR=>dm R (aR hR aG.o.size);replace dI:=hid (dI.o.trans (hb2.af dI.o.size));replace aG:=hid (aG.o.trans (hb2.af aG.o.size));have vN:=hid hv2;obtain⟨xs,xn,xc,rfl⟩:=hv2.slices.1;obtain⟨ys,yn,yc,rfl⟩:=hv2.slices.2;refine hK'.o _ _ (dT.o u2 aG.o) (fun ak=>?_);clear hb2 hv2 dm;clear hK' K' aq;have aq:=ak;clear ak;refine aw 9 (.tuple #[.agg #[.slice xs xn xc,.slice ys yn yc],.int .i64 0]) ?_;refine aw 10 (.agg #[.slice xs xn xc,.slice ys yn yc]) ?_;refine aw 11 (.int .i64 0) ?_;refine aF [12] (cA ?_ aD);intro K' hK';go_simp;have lG:=(au _ u2).alloc (ar _) (TC (.slice none 0 0) (.slice none 0 0));replace dI:=hid (dI.o.trans (lG.af dI.o.size));have cH:D5.heap.size<=u2.heap.size:=aG.o.size;replace aG:=hid (aG.o.trans (lG.af aG.o.size));have dB:=hid (bh.at (w:=u2) rfl (.slice none 0 0) (.slice none 0 0));(have nE:u2.heap.size<(u2.alloc (TC (.slice none 0 0) (.slice none 0 0))).heap.size:=by simp);have vR:Hid (fE u2.heap.size OT (.slice xs xn xc,.slice ys yn yc)):=vN.o.lt (ar _);replace vN:=hid (vN.o.aa lG);refine hK'.o _ _ (dT.o _ aG.o) (fun ak=>?_);clear lG;clear hK' K' aq;have aq:=ak;clear ak;obtain⟨g1,hg1⟩:∃g1,u2.heap.size=g1:=⟨_,rfl⟩;obtain⟨u3,eG⟩:∃u3,u2.alloc (TC (.slice none 0 0) (.slice none 0 0))=u3:=⟨_,rfl⟩;have kI:u2.alloc (.cells #[.slice none 0 0,.slice none 0 0] 39)=u3:=eG;(have CQ:D5.heap.size<=g1:=by omega)
     (have yX:g1<u3.heap.size:=by rw[<- hg1, <- eG];exact nE);rw[hg1,eG] at dB;clear cH nE;have cH:=CQ;have nE:=yX;clear CQ yX;rw[hg1] at vR;rw[eG] at vN;rw[eG] at aG dI;simp only[kI] at aq⊢;simp only[hg1];clear eG kI hg1;(try simp only[gE,aP]);obtain⟨b0,b1,Ll,Lk⟩:=dB.o.facts;refine aF [13] (cA ?_ aD);intro K' hK';go_simp;have vP:=hid (dB.o.put (.slice xs xn xc) (.slice ys yn yc));have Qr:=hid (mr dI.o (aS (by omega) cH) (.slice xs xn xc) (.slice ys yn yc));have Du:=hid (mr aG.o cH (.slice xs xn xc) (.slice ys yn yc));have Bx:=hid ((vN.o.off (g:=g1) (j:=0) (.slice xs xn xc) vR.o).off (g:=g1) (j:=1) (.slice ys yn yc) vR.o);refine hK'.o _ _ (dT.o _ Du.o) (fun ak=>?_);clear b0 b1 Ll Lk dB dI aG vN vR;clear hK' K' aq;have aq:=ak;clear ak;refine aw 14 (.int .i64 0) ?_;(try simp only[gE,aP]);refine dW (by kernel_rfl) ?_ _;clear aq;obtain⟨u4,vg⟩:∃u4,((u3.setCell ⟨g1,0,none⟩ (.slice xs xn xc)).setCell ⟨g1,1,none⟩ (.slice ys yn yc))=u4:=⟨_,rfl⟩
    rotate_left
    focus
     intro K' hK';go_simp;have lG:=(au _ u1).alloc (ar _) (TC (.slice none 0 0) (.slice none 0 0));replace dI:=hid (dI.o.trans (lG.af dI.o.size));have cH:D5.heap.size<=u1.heap.size:=aG.o.size;replace aG:=hid (aG.o.trans (lG.af aG.o.size));have dB:=hid (bh.at (w:=u1) rfl (.slice none 0 0) (.slice none 0 0));(have nE:u1.heap.size<(u1.alloc (TC (.slice none 0 0) (.slice none 0 0))).heap.size:=by simp);replace Ds:=hid (Ds.o.aa lG);refine hK'.o _ _ (dT.o _ aG.o) (fun ak=>?_);clear lG;clear hK' K' aq;have aq:=ak;clear ak;obtain⟨g1,hg1⟩:∃g1,u1.heap.size=g1:=⟨_,rfl⟩;obtain⟨u3,eG⟩:∃u3,u1.alloc (TC (.slice none 0 0) (.slice none 0 0))=u3:=⟨_,rfl⟩;have kI:u1.alloc (.cells #[.slice none 0 0,.slice none 0 0] 39)=u3:=eG;(have CQ:D5.heap.size<=g1:=by omega);(have yX:g1<u3.heap.size:=by rw[<- hg1, <- eG];exact nE);rw[hg1,eG] at dB;clear cH nE;have cH:=CQ;have nE:=yX;clear CQ yX;rw[eG] at Ds;rw[eG] at aG dI;simp only[kI] at aq⊢;simp only[hg1];clear eG kI hg1;refine aF [8] (cA ?_ aD);intro K' hK';go_simp;refine(Dw.o x1 y1 u3 dI.o Ds.o).af ?_;rintro e u2 ⟨⟨x2,y2,rfl,hv2,dm⟩,hb2⟩;have pI:Hid (∀R,R<D5.heap.size ->fE R OT (x2,y2)):=fun R hR=>dm R (aR hR aG.o.size);have vR:Hid (fE g1 OT (x2,y2)):=dm _ nE;replace dB:=hid (dB.o.aa hb2 dB.o.lt);replace dI:=hid (dI.o.trans (hb2.af dI.o.size));replace aG:=hid (aG.o.trans (hb2.af aG.o.size));have vN:=hid hv2;obtain⟨xs,xn,xc,rfl⟩:=hv2.slices.1;obtain⟨ys,yn,yc,rfl⟩:=hv2.slices.2;refine hK'.o _ _ (dT.o u2 aG.o) (fun ak=>?_);clear hb2 hv2 dm;clear hK' K' aq
     have aq:=ak;clear ak;refine aw 9 (.tuple #[.agg #[.slice xs xn xc,.slice ys yn yc],.int .i64 0]) ?_;refine aw 10 (.agg #[.slice xs xn xc,.slice ys yn yc]) ?_;refine aw 11 (.int .i64 0) ?_;(try simp only[gE,aP]);obtain⟨b0,b1,Ll,Lk⟩:=dB.o.facts;refine aF [13] (cA ?_ aD);intro K' hK';go_simp;have vP:=hid (dB.o.put (.slice xs xn xc) (.slice ys yn yc));have Qr:=hid (mr dI.o (aS (by omega) cH) (.slice xs xn xc) (.slice ys yn yc));have Du:=hid (mr aG.o cH (.slice xs xn xc) (.slice ys yn yc));have Bx:=hid ((vN.o.off (g:=g1) (j:=0) (.slice xs xn xc) vR.o).off (g:=g1) (j:=1) (.slice ys yn yc) vR.o);refine hK'.o _ _ (dT.o _ Du.o) (fun ak=>?_);clear b0 b1 Ll Lk dB dI aG vN vR;clear hK' K' aq;have aq:=ak;clear ak;refine aw 14 (.int .i64 0) ?_;(try simp only[gE,aP]);refine dW (by kernel_rfl) ?_ _;clear aq;obtain⟨u4,vg⟩:∃u4,((u2.setCell ⟨g1,0,none⟩ (.slice xs xn xc)).setCell ⟨g1,1,none⟩ (.slice ys yn yc))=u4:=⟨_,rfl⟩
   rotate_left 2
   focus
    intro K' hK';go_simp;have lG:=(au _ D5).alloc (ar _) (TC (.slice none 0 0) (.slice none 0 0));replace dI:=hid (dI.o.trans (lG.af dI.o.size));have cH:D5.heap.size<=D5.heap.size:=aG.o.size;replace aG:=hid (aG.o.trans (lG.af aG.o.size));have dB:=hid (bh.at (w:=D5) rfl (.slice none 0 0) (.slice none 0 0));(have nE:D5.heap.size<(D5.alloc (TC (.slice none 0 0) (.slice none 0 0))).heap.size:=by simp);replace HZD:=hid (HZD.o.aa lG);refine hK'.o _ _ (dT.o _ aG.o) (fun ak=>?_);clear lG;clear hK' K' aq;have aq:=ak;clear ak;obtain⟨g1,hg1⟩:∃g1,D5.heap.size=g1:=⟨_,rfl⟩;obtain⟨u3,eG⟩:∃u3,D5.alloc (TC (.slice none 0 0) (.slice none 0 0))=u3:=⟨_,rfl⟩;have kI:D5.alloc (.cells #[.slice none 0 0,.slice none 0 0] 39)=u3:=eG;(have CQ:D5.heap.size<=g1:=by omega);(have yX:g1<u3.heap.size:=by rw[<- hg1, <- eG];exact nE);rw[hg1,eG] at dB;clear cH nE;have cH:=CQ;have nE:=yX;clear CQ yX;rw[eG] at HZD;rw[eG] at aG dI;simp only[kI] at aq⊢;simp only[hg1];clear eG kI hg1;refine aF [5] (cA ?_ aD);intro K' hK';go_simp;refine(rN.o za zc u3 dI.o HZD.o).af ?_;rintro e u1 ⟨x1,y1,rfl,ny,hb1⟩;replace dI:=hid (dI.o.trans (hb1.af dI.o.size));replace aG:=hid (aG.o.trans (hb1.af aG.o.size));replace dB:=hid (dB.o.aa hb1 dB.o.lt);have Ds:=hid ny;refine hK'.o _ _ (dT.o u1 aG.o) (fun ak=>?_);clear hb1 ny;clear hK' K' aq;have aq:=ak;clear ak;have ajy:g1<u1.heap.size:=dB.o.lt;refine aF [8] (cA ?_ aD);intro K' hK';go_simp;refine(Dw.o x1 y1 u1 dI.o Ds.o).af ?_;rintro e u2 ⟨⟨x2,y2,rfl,hv2,dm⟩,hb2⟩
    have pI:Hid (∀R,R<D5.heap.size ->fE R OT (x2,y2)):=fun R hR=>dm R (aR hR aG.o.size);have vR:Hid (fE g1 OT (x2,y2)):=dm _ ajy;replace dB:=hid (dB.o.aa hb2 dB.o.lt);replace dI:=hid (dI.o.trans (hb2.af dI.o.size));replace aG:=hid (aG.o.trans (hb2.af aG.o.size));have vN:=hid hv2;obtain⟨xs,xn,xc,rfl⟩:=hv2.slices.1;obtain⟨ys,yn,yc,rfl⟩:=hv2.slices.2;refine hK'.o _ _ (dT.o u2 aG.o) (fun ak=>?_);clear hb2 hv2 dm;clear hK' K' aq;have aq:=ak;clear ak;refine aw 9 (.tuple #[.agg #[.slice xs xn xc,.slice ys yn yc],.int .i64 0]) ?_;refine aw 10 (.agg #[.slice xs xn xc,.slice ys yn yc]) ?_;refine aw 11 (.int .i64 0) ?_;(try simp only[gE,aP]);obtain⟨b0,b1,Ll,Lk⟩:=dB.o.facts;refine aF [13] (cA ?_ aD);intro K' hK';go_simp;have vP:=hid (dB.o.put (.slice xs xn xc) (.slice ys yn yc));have Qr:=hid (mr dI.o (aS (by omega) cH) (.slice xs xn xc) (.slice ys yn yc));have Du:=hid (mr aG.o cH (.slice xs xn xc) (.slice ys yn yc));have Bx:=hid ((vN.o.off (g:=g1) (j:=0) (.slice xs xn xc) vR.o).off (g:=g1) (j:=1) (.slice ys yn yc) vR.o);refine hK'.o _ _ (dT.o _ Du.o) (fun ak=>?_);clear b0 b1 Ll Lk dB dI aG vN vR;clear hK' K' aq;have aq:=ak;clear ak;refine aw 14 (.int .i64 0) ?_;(try simp only[gE,aP]);refine dW (by kernel_rfl) ?_ _;clear aq;obtain⟨u4,vg⟩:∃u4,((u2.setCell ⟨g1,0,none⟩ (.slice xs xn xc)).setCell ⟨g1,1,none⟩ (.slice ys yn yc))=u4:=⟨_,rfl⟩
   all_goals
    rw[vg] at vP Qr Du Bx⊢;clear vg;have Wa:=hid (V9.o.under Du.o);have Db:=(au u4.heap.size u4).alloc (ar _) (TC (.slice xs xn xc) (.slice ys yn yc));have xV:=hid (Wa.o.under Db);have PT:=hid (Bx.o.aa Db);have TQ:=bh.at (w:=u4) rfl (.slice xs xn xc) (.slice ys yn yc);have ady:=hid TQ.c0;have adx:=hid TQ.c1;have Ix:Hid (W4.heap.size<=(u4.alloc (TC (.slice xs xn xc) (.slice ys yn yc))).heap.size):=xV.o.fr.size;have t42:=Wa.o.box.cells.2.2;have g0:=vP.o.c0;have g1':=vP.o.c1;have HOW:Hid (∀R,tv.ownBlock=some R ->fE R OT ((.slice xs xn xc),(.slice ys yn yc))):=fun R hR=>pI.o R (V9.o.own.lt R hR).2;clear Db TQ vP Du Bx
    have HKEY:Hid (∀(cP:Value) (bI:World),bI.ownsRow W4.heap.size 39 2 cP ((T P.length).length+1) (fK Q++[(.slice xs xn xc),(.slice ys yn yc)]) ->(u4.alloc (TC (.slice xs xn xc) (.slice ys yn yc))).grownBy bI tv.ownBlock ->(cP.ownBlock=tv.ownBlock∨∀k,cP.ownBlock=some k ->(u4.alloc (TC (.slice xs xn xc) (.slice ys yn yc))).heap.size<=k) ->(∃a' c',cP=Value.slice a' OP.length c')/\pE w.heap.size W4 w3.heap.size (.slice a S.length ca) (.slice d LF.length cd) cP (Q++[((.slice xs xn xc),(.slice ys yn yc))]) OP (bI.setCell ⟨w3.heap.size,2,none⟩ cP)/\bI.cell? ⟨w3.heap.size,2,none⟩=some tv/\bI.frozen? ⟨w3.heap.size,2,none⟩=false):=fun cP bI dw dO fS=>by
     have hM:=xV.o.push (by omega) hb5 PT.o HOW.o (fun R _ hR=>pI.o R (by omega)) dw dO fS;rw[<- HOP.o] at hM;have xu:bj bI w3.heap.size (.slice a S.length ca) (.slice d LF.length cd) tv:=(dO.block _ xV.o.box.lt (fun e=>by have:=(xV.o.own.lt _ e.symm).1;omega)).trans xV.o.box;exact⟨by rw[<- hOL];exact uO dw,hM,xu.cells.2.2,xu.fz 2⟩
    go_upto_region 12 with (at_builtin;refine Jl rfl _ _ rfl W4.heap.size tv (T P.length).length (fK Q) (.slice xs xn xc) (.slice ys yn yc) rfl xV.o.own.own u4.heap.size rfl ady.o adx.o (slv _ _ _) (slv _ _ _) (by omega) Ix.o ?_;intro cP bI dw dO fS;obtain⟨⟨wC,wB,rfl⟩,sI,t102,f102⟩:=HKEY.o cP bI dw dO fS;have nV:=hid sI;clear sI dw dO fS)
    obtain⟨VV,hVV⟩:∃VV,bI.setCell ⟨w3.heap.size,2,none⟩ (.slice wC OP.length wB)=VV:=⟨_,rfl⟩;rw[hVV] at nV⊢;clear hVV t102 f102 t42 g0 g1' HKEY HOW Ix ady adx PT xV Wa pI Ds Qr;have Hq:=nV.o.fr.size;have iV:Hid (Below w.heap.size w VV):=H4 fV.o nV.o.fr (by omega) (by omega);have sV:Hid (bj VV (w.heap.size+1) (.slice none 0 0) (.slice none 0 0) (.slice none 0 0)):=(nV.o.fr.block _ js.o.lt (fun e=>by have:=lV e;omega)).trans js.o;have C5:ax VV d LF:=Hg F4.o Mb.o nV.o.fr;obtain⟨x0,xx1,xx2⟩:=nV.o.box.cells;obtain⟨r0,r1,r2⟩:=sV.o.cells;have Am:=sV.o.fz 0;have JE:=sV.o.fz 1;have JD:=sV.o.fz 2;have xR:=hid (sV.o.put (.slice a S.length ca) (.slice d LF.length cd) (.slice wC OP.length wB));have uF:=hid (bF iV.o (show w.heap.size<=w.heap.size+1 by omega) (.slice a S.length ca) (.slice d LF.length cd) (.slice wC OP.length wB))
    have eQ:Value.ownBlock (.slice wC OP.length wB)≠some (w.heap.size+1):=fun e=>by
     have:=(nV.o.own.lt _ e).1;omega
    have vz:=((nV.o.own.off (g:=w.heap.size+1) (j:=0) (.slice a S.length ca) (nV.o.far _ (by omega) (by omega)) eQ).off (g:=w.heap.size+1) (j:=1) (.slice d LF.length cd) (nV.o.far _ (by omega) (by omega)) eQ).off (g:=w.heap.size+1) (j:=2) (.slice wC OP.length wB) (nV.o.far _ (by omega) (by omega)) eQ;obtain⟨Ri,Re,e2,wI⟩:=vz.row;injection e2 with e3 e4 e5;subst e3 e5;clear e4;have FB:=hid wI;have vV:=hid (((C5.off (g:=w.heap.size+1) (j:=0) (y:=.slice a S.length ca) mF.o).off (g:=w.heap.size+1) (j:=1) (y:=.slice d LF.length cd) mF.o).off (g:=w.heap.size+1) (j:=2) (y:=.slice wC OP.length wB) mF.o);have FU:=hid ((ND nV.o.own.own).up (show w.heap.size<=W4.heap.size by omega));clear vz wI C5 eQ;go_wp2;refine bB (xR.o.result1 rfl _ rfl) rfl ?_;exact⟨d,cd,wC,wB,rfl,vV.o,FB.o,FU.o,uF.o⟩
theorem Zq {V:World} {o:Nat} (hb:bj V g x y z) (hx:cM x) (hy:cM y) (hz:cM z) (hc:V.cell? ⟨g,o,none⟩=some u):cM u:=by
 rw[cC V g o _ _ (0,0) hb] at hc;match o,hc with
 |0,hc=>cases hc;exact hx
 |1,hc=>cases hc;exact hy
 |2,hc=>cases hc;exact hz
 |o+3,hc=>simp at hc
theorem aaM {V:World} {b:Option Addr} (h:ax V b l) (hb:bj V g x y z) (hx:cM x) (hy:cM y) (hz:cM z):∀g' o',b=some ⟨g',o',none⟩ ->l≠[] ->g'≠g:=fun g' o' e hne e2=>by
 obtain⟨g2,o2,e3,_,hc⟩:=h 0 (by cases hl:l with |nil=>exact absurd hl hne |cons x l=>simp);rw[e] at e3;cases e3;subst e2;obtain⟨_,_,_,e4⟩:=Zq hb hx hy hz hc;cases e4
theorem akz {V:World} {b:Option Addr} {l:List Fr} (h:bZ V b l) (hb:bj V g x y z) (hx:cM x) (hy:cM y) (hz:cM z):∀g' o',b=some ⟨g',o',none⟩ ->l≠[] ->g'≠g:=fun g' o' e hne e2=>by
 obtain⟨g2,o2,e3,_,hc,_⟩:=h 0 (by cases hl:l with |nil=>exact absurd hl hne |cons x l=>simp);rw[e] at e3;cases e3;subst e2;obtain⟨_,_,_,e4⟩:=Zq hb hx hy hz hc;cases e4
theorem GN {V:World} {t:Tb} {p q:Value} (h:cR V p q t) (hb:bj V g x y z) (hx:cM x) (hy:cM y) (hz:cM z):fE g t (p,q):=by
 obtain⟨b,c,cb,cc,rfl,rfl,h1,h2,h3⟩:=h;exact⟨fun g' o' n c' e hne=>by injection e with e1 _ _;exact aaM h1 hb hx hy hz g' o' e1 hne,fun g' o' n c' e hne=>by injection e with e1 _ _;exact akz h2 hb hx hy hz g' o' e1 hne⟩
theorem dQ.offP {V:World} (u:Value) (h:dQ V a P) (hn:∀g' o',a=some ⟨g',o',none⟩ ->g'≠g) (ht:∀k (hk:k<P.length) p q,cR V p q P[k] ->fE g P[k] (p,q)):dQ (V.setCell ⟨g,j,none⟩ u) a P:=fun k hk=>by
 obtain⟨g',o,p,q,e,hg,h0,h1,h2⟩:=h k hk;have hb:(V.setCell ⟨g,j,none⟩ u).heap[g']? =V.heap[g']?:=je V ⟨g,j,none⟩ u g' (hn g' o e);exact⟨g',o,p,q,e,aR hg (iG V _ _).size,(kA (a:=⟨g',_,none⟩) hb).trans h0,(kA (a:=⟨g',_,none⟩) hb).trans h1,h2.off u (ht k hk p q h2)⟩
theorem dQ.putP {V:World} (h:dQ V a P) (hb:bj V g x y z) (hx:cM x) (hy:cM y) (hz:cM z) (hn:∀g' o',a=some ⟨g',o',none⟩ ->g'≠g) {v:Value} (hu:cM u) (hv:cM v) (s:Value):dQ (((V.setCell ⟨g,0,none⟩ u).setCell ⟨g,1,none⟩ v).setCell ⟨g,2,none⟩ s) a P:=
 ((h.offP u hn fun _ _ _ _ ht=>GN ht hb hx hy hz).offP v hn fun _ _ _ _ ht=>GN ht (hb.set0 u) hu hy hz).offP s hn fun _ _ _ _ ht=>GN ht ((hb.set0 u).set1 v) hu hv hz
theorem ax.putP {V:World} (h:ax V a l) (hb:bj V g x y z) (hx:cM x) (hy:cM y) (hz:cM z) (u v s:Value):ax (((V.setCell ⟨g,0,none⟩ u).setCell ⟨g,1,none⟩ v).setCell ⟨g,2,none⟩ s) a l:=by
 have hn:=aaM h hb hx hy hz;exact((h.off hn).off hn).off hn
theorem agK (a b t q:Option Addr) (ca cb ct cq:Nat) (S:List Nat) (fr vars:List Int) (P:List Tb) (D:Nat) (c:Nat ->Nat) (most:Bool) (PS:Nat ->List Tb) (FW:Nat ->List Int) (w:World) (aJ:eH (iL S)) (hs:ax w a (iL S)) (hb:ax w b fr) (hP:dQ w t P) (hq:ax w q vars) (dN:vars.length<=1000)
  (h0:PS 0=P/\FW 0=fr) (hk:∀i (h:i<fr.length),vars.contains fr[i]=true ->PS (i+1)=PS i/\FW (i+1)=FW i)
  (ho:∀i (h:i<fr.length),vars.contains fr[i]=false ->∃v:Nat,fr[i]=(v:Int)/\PS (i+1)=lq S v most (PS i)/\FW (i+1)=bw (FW i) v/\v<S.length/\∃t∈PS i,v∈ag t.1)
  (jn:∀i,i<=fr.length ->eX S S.length (PS i) D (c i)/\(PS i).length<=999/\(FW i).length<=1000/\2*(B D).size+(B (c i)).size+2<=8192):
  Calls Tryz.prog 51 #[.agg #[.slice a S.length ca,.slice b fr.length cb,.slice t P.length ct],.slice q vars.length cq,.bool most] w fun e w'=>∃x y,e=.returned (.agg #[x,y])/\cR w' x y (allT S (PS fr.length))/\Below w.heap.size w w':=by
 have rN:Hid (∀(t':Option Addr) (b9:Nat) (U:World),Below w.heap.size w U ->dQ U t' (PS fr.length) ->Calls Tryz.prog 105 #[.slice a S.length ca,.slice t' (PS fr.length).length b9] U fun e w'=>∃x y,e=.returned (.agg #[x,y])/\cR w' x y (allT S (PS fr.length))/\Below U.heap.size U w'):=fun t' b9 U hU h=>by
  obtain⟨h1,h2,_,h4⟩:=jn fr.length (ar _);exact Zi a t' ca b9 S _ D _ U aJ (hs.aa hU) h h1 (by omega) h4
 have jt:Hid (∀(x:Int) (U:World),Below w.heap.size w U ->Calls Tryz.prog 49 #[.slice q vars.length cq,.int .i64 x] U fun e w'=>e=.returned (.bool (vars.contains x))/\Below U.heap.size U w'):=fun x U hU=>GS q cq vars x U (hq.aa hU) (by omega)
 have FQ:Hid (∀(i:Nat) (h:i<fr.length),vars.contains fr[i]=false ->∀(b' t':Option Addr) (fD b9:Nat) (U:World),Below w.heap.size w U ->ax U b' (FW i) ->dQ U t' (PS i) ->Calls Tryz.prog 104 #[.agg #[.slice a S.length ca,.slice b' (FW i).length fD,.slice t' (PS i).length b9],.int .i64 fr[i],.bool most] U fun e w'=>∃d cd t' b9,e=.returned (.agg #[.slice a S.length ca,.slice d (FW (i+1)).length cd,.slice t' (PS (i+1)).length b9])/\ax w' d (FW (i+1))/\dQ w' t' (PS (i+1))/\eC U.heap.size t' b9/\Below U.heap.size U w'):=fun i h hc b' t' fD b9 U hU h1 h2=>by
  obtain⟨v,e1,e2,e3,e4,e5⟩:=ho i h hc;obtain⟨g1,g2,g3,g4⟩:=jn i (by omega);rw[e1,e2,e3];exact agJ a b' t' ca fD b9 S (FW i) (PS i) D (c i) v most U aJ (hs.aa hU) h1 h2 g1 g2 g3 g4 e4 e5
 have HK:=hid hk;have jR:fr.length<=1000:=by have:=(jn 0 (aU _)).2.2.1;rwa [h0.2] at this
 have BK:=hid hb;obtain⟨e0,Pd⟩:=h0;have H0:Hid (bj ((w.alloc (.cells #[.slice a S.length ca,.slice b fr.length cb,.slice t P.length ct] 87)).alloc (TC (.slice none 0 0) (.slice none 0 0))) w.heap.size (.slice a S.length ca) (.slice b (FW 0).length cb) (.slice t (PS 0).length ct)):=by rw[e0,Pd];exact(bj.at (w:=w) rfl _ _ _).alloc _
 have hA:Below w.heap.size w ((w.alloc (.cells #[.slice a S.length ca,.slice b fr.length cb,.slice t P.length ct] 87)).alloc (TC (.slice none 0 0) (.slice none 0 0))):=by
  have h1:=(au w.heap.size w).alloc (ar _) (.cells #[.slice a S.length ca,.slice b fr.length cb,.slice t P.length ct] 87);exact h1.alloc h1.size _
 have HI0:Hid (ax ((w.alloc (.cells #[.slice a S.length ca,.slice b fr.length cb,.slice t P.length ct] 87)).alloc (TC (.slice none 0 0) (.slice none 0 0))) b (FW 0)):=by rw[Pd];exact hb.aa hA
 have vQ:Hid (dQ ((w.alloc (.cells #[.slice a S.length ca,.slice b fr.length cb,.slice t P.length ct] 87)).alloc (TC (.slice none 0 0) (.slice none 0 0))) t (PS 0)):=by rw[e0];exact hP.aa hA
 have nU:Hid (bh ((w.alloc (.cells #[.slice a S.length ca,.slice b fr.length cb,.slice t P.length ct] 87)).alloc (TC (.slice none 0 0) (.slice none 0 0))) (w.heap.size+1) (.slice none 0 0) (.slice none 0 0)):=bh.at (w:=w.alloc (.cells #[.slice a S.length ca,.slice b fr.length cb,.slice t P.length ct] 87)) (by simp) _ _;have HA:=hid hA;have hc1:=H0.o.cells.2.1;rw[Pd] at hc1;clear hs hb hP hq hk ho jn aJ hA e0 Pd;go_enter Tryz.func51,Tryz.ntmps51;go_wp2_with fail
 generalize ((w.alloc (.cells #[.slice a S.length ca,.slice b fr.length cb,.slice t P.length ct] 87)).alloc (TC (.slice none 0 0) (.slice none 0 0)))=W0 at *;clear hc1;go_loopw [12] (fun iv wr=>∃(i:Nat) (b' t':Option Addr) (fD b9:Nat),i<=fr.length/\iv=.int .i64 i/\Hid (bj wr w.heap.size (.slice a S.length ca) (.slice b' (FW i).length fD) (.slice t' (PS i).length b9))/\Hid (ax wr b' (FW i))/\Hid (dQ wr t' (PS i))/\Hid (bh wr (w.heap.size+1) (.slice none 0 0) (.slice none 0 0))/\Hid (Below w.heap.size w wr)) (fun iv _=>fr.length - (intOf iv).toNat)
 case atStart=>exact⟨0,_,_,_,_,aU _,rfl,H0,HI0,vQ,nU,HA⟩
 case round=>
  obtain⟨i,b',t',fD,b9,hi,rfl,sX,HI,HT,HR,HB⟩:=hrel;clear H0 HI0 vQ nU HA;obtain⟨p0,p1,p2⟩:=sX.o.cells;have Av:=sX.o.fz 0;have Au:=sX.o.fz 1;have Ar:=sX.o.fz 2;by_cases hlt:i<fr.length
  ·obtain⟨g,o,rfl,hg,k0⟩:=BK.o i hlt;replace k0:=(HB.o.cell (p:=⟨g,_,none⟩) hg).trans k0;have HC:=hid (jt.o fr[i]);have HKi:=hid (HK.o i hlt);have IC:=hid (FQ.o i hlt);generalize fr[i]=x at *;generalize sA:vars.contains x=cx at *;clear sA;go_wp2_with fail
   refine(HC.o wr HB.o).af ?_;rintro e w2 ⟨rfl,hb2⟩;have bc:=hid (HB.o.trans (hb2.af HB.o.size));have FP:=hid (sX.o.aa hb2 sX.o.lt);have iU:=hid (HI.o.aa hb2);have jZ:=hid (HT.o.aa hb2);have iT:=hid (HR.o.aa hb2 HR.o.lt);clear hb2 sX HI HT HR HB p0 p1 p2 Av Au Ar;obtain⟨p0,p1,p2⟩:=FP.o.cells;have hlt2:=FP.o.lt;cases cx with
   |true=>
    obtain⟨e1,e2⟩:=HKi.o rfl;rw[<- e1] at jZ FP;rw[<- e2] at iU FP;clear e1 e2;have HX:=hid (And.intro FP.o (And.intro iU.o jZ.o));go_wp2;go_roundw
    case rel=>exact⟨i+1,_,_,_,_,by omega,by go_num,HX.o.1,HX.o.2.1,HX.o.2.2,iT,bc⟩
    case measure=>simp[intOf];omega
   |false=>
    have Dy:=hid (IC.o rfl b' t' fD b9 w2 bc.o iU.o jZ.o);clear IC HKi;go_wp2_with fail
    refine Dy.o.af ?_;rintro e w3 ⟨d,cd,t3,Lg,rfl,sj,vh,yS,hb3⟩;have C2:=FP.o.aa hb3 FP.o.lt;have lH:=iT.o.aa hb3 iT.o.lt;have bU:=bc.o.trans (hb3.af bc.o.size);clear p0 p1 p2;obtain⟨p0,p1,p2⟩:=C2.cells;have Av:=C2.fz 0;have Au:=C2.fz 1;have Ar:=C2.fz 2;have Qa:=hid (C2.put (.slice a S.length ca) (.slice d (FW (i+1)).length cd) (.slice t3 (PS (i+1)).length Lg));have F3:=hid (sj.putP C2 (slv _ _ _) (slv _ _ _) (slv _ _ _) (.slice a S.length ca) (.slice d (FW (i+1)).length cd) (.slice t3 (PS (i+1)).length Lg));have Iq:=hid (vh.putP C2 (slv _ _ _) (slv _ _ _) (slv _ _ _) (fun g' o' e=>by have:=yS.2 g' o' e;omega) (slv a S.length ca) (slv d (FW (i+1)).length cd) (.slice t3 (PS (i+1)).length Lg));have sW:=hid (((lH.off w.heap.size 0 (.slice a S.length ca) (by omega)).off w.heap.size 1 (.slice d (FW (i+1)).length cd) (by omega)).off w.heap.size 2 (.slice t3 (PS (i+1)).length Lg) (by omega));have eD:=hid (bF bU (ar _) (.slice a S.length ca) (.slice d (FW (i+1)).length cd) (.slice t3 (PS (i+1)).length Lg));clear sj vh yS hb3 C2 lH bU;go_wp2;go_roundw
    case rel=>exact⟨i+1,_,_,_,_,by omega,by go_num,Qa,F3,Iq,sW,eD⟩
    case measure=>simp[intOf];omega
  ·obtain rfl:i=fr.length:=by omega
   have Wb:=hid (rN.o t' b9 wr HB.o HT.o);go_wp2_with fail
   refine Wb.o.af ?_;rintro e w3 ⟨x,y,rfl,hv3,hb3⟩;obtain⟨xs,xn,xc,rfl⟩:=hv3.slices.1;obtain⟨ys,yn,yc,rfl⟩:=hv3.slices.2;have lH:=HR.o.aa hb3 HR.o.lt;have bU:=HB.o.trans (hb3.af HB.o.size);obtain⟨t0,t1,f0,f1⟩:=lH.facts;have q9:=hid (lH.put (.slice xs xn xc) (.slice ys yn yc));have Bx:=hid (hv3.putT lH (slv _ _ _) (slv _ _ _) (slv xs xn xc) (.slice ys yn yc));have fV:=hid (mr (g:=w.heap.size+1) bU (by omega) (.slice xs xn xc) (.slice ys yn yc));clear hv3 hb3 lH bU p0 p1 p2 Av Au Ar;go_wp2;refine bB (q9.o.result1 rfl _ rfl) rfl ?_;exact⟨_,_,rfl,Bx.o,fV.o⟩
def jg (S:List Nat):List Nat ->Nat
 |[]=>1
 |v::vs=>sz S v*jg S vs
theorem X6 (hp:Pos S):∀l,1<=jg S l
 |[]=>ar _
 |v::l=>Nat.mul_pos (im hp v) (X6 hp l)
theorem X5 (hp:Pos S):∀(l:List Nat) (k:Nat),jg S (l.take k)<=jg S l
 |[],k=>by rw[List.take_nil];exact ar _
 |v::l,0=>X6 hp _
 |v::l,k+1=>kZ _ (X5 hp l k)
theorem eX.outs (hp:Pos S) (most:Bool) (keep:Nat ->Bool):∀(vs:List Nat) {P:List Tb} {D c:Nat},eX S n P D c ->∃d,eX S n (iX S most keep vs P) D d/\d<=jg S vs*c
 |[],P,D,c,h=>⟨c,h,by rw[jg,kB];exact ar _⟩
 |v::vs,P,D,c,h=>by
  have h1:=im hp v;have h2:jg S vs*c<=jg S (v::vs)*c:=jK _ (zX _ h1);rw[iX];cases hk:keep v with
  |true=>
   obtain⟨d,h3,h4⟩:=eX.outs hp most keep vs h;exact⟨d,by rw[ay rfl];exact h3,aS h4 h2⟩
  |false=>
   cases most with
   |true=>
    obtain⟨d,h3,h4⟩:=eX.outs hp true keep vs (h.most hp v);exact⟨d,by rw[az (by decide)];exact h3,aS h4 h2⟩
   |false=>
    obtain⟨d,h3,h4⟩:=eX.outs hp false keep vs (h.o hp v);refine⟨d,by rw[az (by decide)];exact h3,aS h4 (Nat.le_of_eq ?_)⟩;show jg S vs*(sz S v*c)=sz S v*jg S vs*c;rw[<- il,dp (jg S vs)]
theorem Sd (S:List Nat) (most:Bool) (keep:Nat ->Bool) (v:Nat):∀(vs:List Nat) (P:List Tb),iX S most keep (vs++[v]) P=if keep v then iX S most keep vs P else lq S v most (iX S most keep vs P)
 |[],P=>rfl
 |u::vs,P=>by rw[fg,iX,iX,Sd S most keep v vs]
theorem ZI (S:List Nat) (most:Bool) (keep:Nat ->Bool):∀(vs:List Nat) (P:List Tb),(iX S most keep vs P).length<=P.length+vs.length
 |[],P=>ar _
 |v::vs,P=>by
  rw[iX];refine aS (ZI S most keep vs _) ?_
  have:(lq S v most P).length<=P.length+1:=by
   rw[lq,dM];exact Nat.add_le_add_right (pR ..) 1
  split
  ·simp only[eU];omega
  ·simp only[eU];omega
def xw (keep:Int ->Bool):List Int ->List Int ->List Int
 |[],f=>f
 |x::l,f=>xw keep l (if keep x then f else bw f x)
theorem UC (keep:Int ->Bool) (x:Int):∀(l f:List Int),xw keep (l++[x]) f=if keep x then xw keep l f else bw (xw keep l f) x
 |[],f=>rfl
 |y::l,f=>by rw[fg,xw,xw,UC keep x l]
theorem abR (keep:Int ->Bool):∀(l f:List Int),(xw keep l f).length<=f.length
 |[],f=>ar _
 |x::l,f=>by
  rw[xw];refine aS (abR keep l _) ?_;split
  ·exact ar _
  ·exact pR ..
theorem PI.gone (hp:Pos S) (most:Bool) (keep:Nat ->Bool) (h:PI S n free P F) (hn:NN S P) (hv:v∈free) (gg:¬v∈vs):∃t∈iX S most keep vs P,v∈ag t.1:=by
 cases most with
 |false=>
  obtain⟨free',h1,h2⟩:=PI.outs hp keep vs h;exact h2.sup v ((h1 v).2 ⟨hv,fun e=>absurd e gg⟩)
 |true=>
  obtain⟨free',h1,h2,_⟩:=PI.mosts hp keep vs h hn;exact h2.sup v ((h1 v).2 ⟨hv,fun e=>absurd e gg⟩)
theorem Zt (a b t q:Option Addr) (ca cb ct cq:Nat) (S:List Nat) (fr:List Nat) (vars:List Int) (P:List Tb) (F:(Nat ->Nat) ->Rat) (D c:Nat) (most:Bool) (w:World) (aJ:eH (iL S)) (hs:ax w a (iL S)) (hb:ax w b (iL fr)) (hP:dQ w t P) (hq:ax w q vars) (dN:vars.length<=1000)
  (iZ:fr.Nodup) (hlt:∀v∈fr,v<S.length) (eN:PI S S.length fr P F) (nB:NN S P) (aM:eX S S.length P D c) (hpl:P.length+fr.length<=999) (hm:2*(B D).size+(B (jg S fr*c)).size+2<=8192):
  Calls Tryz.prog 51 #[.agg #[.slice a S.length ca,.slice b fr.length cb,.slice t P.length ct],.slice q vars.length cq,.bool most] w fun e w'=>∃x y,e=.returned (.agg #[x,y])/\cR w' x y (allT S (iX S most (fun v=>vars.contains (v:Int)) fr P))/\Below w.heap.size w w':=by
 have df:Pos S:=by have:=aJ.pos;rwa [ew] at this
 have hPk:∀i,∃d,eX S S.length (iX S most (fun v=>vars.contains (v:Int)) (fr.take i) P) D d/\d<=jg S fr*c:=fun i=>by
  obtain⟨d,h1,h2⟩:=eX.outs df most (fun v=>vars.contains (v:Int)) (fr.take i) aM;exact⟨d,h1,aS h2 (jK _ (X5 df _ _))⟩
 obtain⟨cc,hcc⟩:=Classical.axiomOfChoice hPk;have hl:(iL fr).length=fr.length:=ba fr;have hg:∀i (h:i<(iL fr).length) (h':i<fr.length),(iL fr)[i]=(fr[i]:Int):=fun i h h'=>by simp[iL]
 have lA:∀i (h':i<fr.length),fr.take (i+1)=fr.take i++[fr[i]]:=fun i h'=>fR h'
 have:=agK a b t q ca cb ct cq S (iL fr) vars P D cc most (fun i=>iX S most (fun v=>vars.contains (v:Int)) (fr.take i) P) (fun i=>xw (fun x=>vars.contains x) (iL (fr.take i)) (iL fr)) w aJ hs hb hP hq dN ⟨rfl,rfl⟩
  (fun i h hk=>by
   (have h':i<fr.length:=by rw[<- hl];exact h);rw[hg i h h'] at hk;refine⟨?_,?_⟩
   ·show iX _ _ _ (fr.take (i+1)) _=_;rw[lA i h',Sd,ay hk]
   ·show xw _ (iL (fr.take (i+1))) _=_;rw[lA i h',iL,fY,gQ,ld,UC,ay hk];rfl)
  (fun i h hk=>by
   (have h':i<fr.length:=by rw[<- hl];exact h);rw[hg i h h'] at hk⊢;refine⟨fr[i],rfl,?_,?_,hlt _ (bH h'),PI.gone df most _ eN nB (bH h') ?_⟩
   ·show iX _ _ _ (fr.take (i+1)) _=_;rw[lA i h',Sd,az (by rw[hk];decide)]
   ·show xw _ (iL (fr.take (i+1))) _=_;rw[lA i h',iL,fY,gQ,ld,UC,az (by rw[hk];decide)];rfl
   ·intro bq;have h3:(fr.take (i+1)).Nodup:=iZ.sublist (List.take_sublist ..);rw[lA i h',Gq] at h3;exact h3.2.2 _ bq _ (fX.2 rfl) rfl)
  (fun i _=>by
   obtain⟨h1,h2⟩:=hcc i;have h3:=ZI S most (fun v=>vars.contains (v:Int)) (fr.take i) P;rw[eZ] at h3;have h4:=abR (fun x=>vars.contains x) (iL (fr.take i)) (iL fr);rw[ba] at h4;have h5:=kj h2;exact⟨h1,by show List.length _<=_;omega,by show List.length _<=_;omega,by omega⟩)
 rw[hl] at this;simp only[fJ] at this;exact this
variable {fv mq mZ:Value}
structure lN (W:World) (b:Nat) (x fv tv mq mZ:Value) (l:List Int) (Q:List (Value×Value)) (P:List Tb) (V:World):Prop where
 box:bj V b x fv tv
 fo:cX V W.heap.size mq l
 own:kr V W.heap.size mZ Q P
 far:∀R,R<=b ->∀k (h:k<P.length) (h':k<Q.length),fE R P[k] Q[k]
 farF:∀R,mq.ownBlock=some R ->∀k (h:k<P.length) (h':k<Q.length),fE R P[k] Q[k]
 ne:∀R,mq.ownBlock=some R ->mZ.ownBlock≠some R
 fr:W.grownBy V (some b)
theorem lN.start {W:World} {b:Nat} (h:bj W b x (.slice none 0 0) (.slice none 0 0)):lN W b x (.slice none 0 0) (.slice none 0 0) (.slice none 0 0) (.slice none 0 0) [] [] [] W:=
 ⟨h,⟨rfl,.inl ⟨rfl,rfl⟩⟩,kr.nil _ _,(fun R _ k h=>absurd h (by simp)),(fun R e=>by cases e),(fun R e=>by cases e),UF _ _⟩
theorem lN.under {W V:World} {b:Nat} (h:lN W b x fv tv mq mZ l Q P V) (hb:Below V.heap.size V V'):lN W b x fv tv mq mZ l Q P V':=
 ⟨h.box.aa hb h.box.lt,JR h.fo (Dn.aa hb),h.own.under hb,h.far,h.farF,h.ne,UG h.fr hb⟩
theorem lN.pushF {W V:World} {b:Nat} {De:Value} {l':List Int} (h:lN W b x fv tv mq mZ l Q P V) (hb:b<W.heap.size) (ho:cX V' W.heap.size De l') (hg:V.grownBy V' mq.ownBlock) (hn:De.ownBlock=mq.ownBlock∨∀k,De.ownBlock=some k ->V.heap.size<=k):lN W b x fv tv De mZ l' Q P V':=by
 have hR:∀k,mq.ownBlock=some k ->W.heap.size<=k:=fun k e=>(p4 h.fo k e).1;refine⟨(hg.block b h.box.lt (fun e=>by have:=hR b e.symm;omega)).trans h.box,ho,⟨h.own.len,NF h.own.own hg (fun R e e2=>h.ne R e2 e),fun k h1 h2=>(h.own.val k h1 h2).keepR (fun r hr=>h.farF r hr k h1 h2) hg,h.own.far⟩,h.far,fun R e k h1 h2=>?_,fun R e e2=>?_,K2 h.fr hg hR⟩
 ·rcases hn with hn |hn
  ·exact h.farF R (by rw[<- hn];exact e) k h1 h2
  ·exact(h.own.val k h1 h2).lt (hn R e)
 ·rcases hn with hn |hn
  ·exact h.ne R (by rw[<- hn];exact e) e2
  ·have h1:=hn R e;have h2:=(h.own.lt R e2).2;omega
theorem lN.pushT {W V:World} {b:Nat} {Ck:Value} {t:Tb} (h:lN W b x fv tv mq mZ l Q P V) (hb:b<W.heap.size) (ht:cR V u1 u2 t) (hf:∀R,mZ.ownBlock=some R ->fE R t (u1,u2)) (hfF:∀R,mq.ownBlock=some R ->fE R t (u1,u2)) (hfb:∀R,R<=b ->fE R t (u1,u2)) (ho:V'.ownsRow W.heap.size 39 2 Ck (P.length+1) (fK Q++[u1,u2])) (hg:V.grownBy V' mZ.ownBlock) (hn:Ck.ownBlock=mZ.ownBlock∨∀k,Ck.ownBlock=some k ->V.heap.size<=k):lN W b x fv tv mq Ck l (Q++[(u1,u2)]) (P++[t]) V':=by
 have hR:∀k,mZ.ownBlock=some k ->W.heap.size<=k:=fun k e=>(h.own.lt k e).1
 have hall:∀R,(∀k (h1:k<P.length) (h2:k<Q.length),fE R P[k] Q[k]) ->fE R t (u1,u2) ->∀k (h1:k<(P++[t]).length) (h2:k<(Q++[(u1,u2)]).length),fE R (P++[t])[k] (Q++[(u1,u2)])[k]:=fun R hP hT k h1 h2=>by
  by_cases dX:k<P.length
  ·have gi:k<Q.length:=by rw[h.own.len];exact dX
   rw[uI gi,uI dX];exact hP k dX gi
  ·have gi:¬k<Q.length:=by rw[h.own.len];exact dX
   rw[Ac (by omega),Ac (by omega)];simp only[MQ];exact hT
 refine⟨(hg.block b h.box.lt (fun e=>by have:=hR b e.symm;omega)).trans h.box,NF h.fo hg (fun R e e2=>h.ne R e e2),h.own.push ht hf ho hg hn,(fun R hR=>hall R (h.far R hR) (hfb R hR)),fun R e=>hall R (h.farF R e) (hfF R e),fun R e e2=>?_,K2 h.fr hg hR⟩;rcases hn with hn |hn
 ·rw[hn] at e2;exact h.ne R e e2
 ·have h1:=hn R e2;have h2:=(p4 h.fo R e).2;omega
theorem lN.set1 {W V:World} {b:Nat} (h:lN W b x fv tv mq mZ l Q P V) (hb:b<W.heap.size) (u:Value):lN W b x u tv mq mZ l Q P (V.setCell ⟨b,1,none⟩ u):=
 ⟨h.box.set1 u,DY h.fo (fun e=>by have:=(p4 h.fo b e).1;omega) u,h.own.off u (h.far b (ar b)) (fun e=>by have:=(h.own.lt b e).1;omega),h.far,h.farF,h.ne,OZ h.fr _ _⟩
theorem lN.set2 {W V:World} {b:Nat} (h:lN W b x fv tv mq mZ l Q P V) (hb:b<W.heap.size) (u:Value):lN W b x fv u mq mZ l Q P (V.setCell ⟨b,2,none⟩ u):=
 ⟨h.box.set2 u,DY h.fo (fun e=>by have:=(p4 h.fo b e).1;omega) u,h.own.off u (h.far b (ar b)) (fun e=>by have:=(h.own.lt b e).1;omega),h.far,h.farF,h.ne,OZ h.fr _ _⟩
structure ada (n:Nat) (ord:Nat ->Nat) (nr:Nat ->Nat ->Nat ->Prop):Prop where
 all:∀v,v< n ->∃i,i<n/\ord i=v
 inj:∀i j,i< n ->j< n ->ord i=ord j ->i=j
 lt:∀u w,nr 0 u w ->u<n/\w<n
 self:∀u,¬nr 0 u u
 symm:∀u w,nr 0 u w ->nr 0 w u
 step:∀i,i< n ->∀u w,nr (i+1) u w↔u≠ord i/\w≠ord i/\u≠w/\(nr i u w∨nr i u (ord i)/\nr i (ord i) w)
variable {s:List Nat}
theorem NW:∀ {l m:List Nat},l.Nodup ->(∀x∈l,x∈m) ->l.length<=m.length
 |[],_,_,_=>aU _
 |a::l,m,hn,hs=>by
  have ha:a∈m:=hs a (dJ ..);have h1:=pP.1 hn;have:=NW (l:=l) (m:=m.erase a) h1.2 (fun x hx=>(List.mem_erase_of_ne (fun e=>h1.1 (by rw[<- e];exact hx))).2 (hs x (eE _ hx)));rw[Xg ha] at this;have hp:=List.length_pos_of_mem ha;show l.length+1<=m.length;omega
def kE (P:List (List Nat)) (n i:Nat):Nat:=jU (bz P n i).nei (bz P n i).lft
theorem abZ:∀ {k x:Nat},x< k ->x∈s ->∃b m,jD f s k=some (b,m)
 |k+1,x,hx,hs=>by
  rw[jD];by_cases hk:k∈s
  ·rw[ay hk];cases jD f s k with
   |none=>exact⟨_,_,rfl⟩
   |some p=>
    obtain⟨b,m⟩:=p;simp only;split
    ·exact⟨_,_,rfl⟩
    ·exact⟨_,_,rfl⟩
  ·rw[az hk];exact abZ (by rcases cD x k with h |h;exact h;exact absurd (by rw[show k=x by omega];exact hs) hk) hs
theorem akZ {P:List (List Nat)} {x:Nat} (hx:x<8) (hs:x∈s):jU P s∈s:=by
 obtain⟨b,m,e⟩:=abZ (f:=p7 P) hx hs;rw[jU,e];exact O2 e
structure FI (P:List (List Nat)) (n k:Nat):Prop where
 left:∀x,x∈(bz P n k).lft↔x<n/\∀i,i< k ->kE P n i≠x
 inj:∀i j,i< k ->j< k ->kE P n i=kE P n j ->i=j
 lt:∀i,i< k ->kE P n i<n
 sym:∀u,u∈(bz P n k).lft ->∀w,w∈(bz P n k).nei.getD u [] ->w∈(bz P n k).lft/\u∈(bz P n k).nei.getD w []/\u≠w
theorem FI.here {P:List (List Nat)} (h:FI P n k) (hk:k<n) (h8:n<=8):kE P n k∈(bz P n k).lft:=by
 have hne:∃x,x∈(bz P n k).lft:=by
  refine Gz fun hno=>?_
  have hall:∀x∈List.range n,x∈(List.range k).map (kE P n):=fun x hx=>by
   refine Gz fun hm=>hno ⟨x,(h.left x).2 ⟨bG.1 hx,fun i hi e=>hm (bs.2 ⟨i,bG.2 hi,e⟩)⟩⟩
  have:=NW pO hall;rw[lY,c5,lY] at this;omega
 obtain⟨x,hx⟩:=hne;exact akZ (by have:=((h.left x).1 hx).1;omega) hx
theorem aeq {P:List (List Nat)} {u:Nat} (hu:u<P.length):(rZ P v).getD u []=if u<8/\u∈P.getD v [] then yE P v u else P.getD u []:=by
 rw[List.getD_eq_getElem?_getD,List.getElem?_eq_getElem (by rw[rZ,GM];exact hu)];simp[rZ,ic]
theorem FI.next {P:List (List Nat)} (hN:sP n P) (h:FI P n k) (hk:k<n) (h8:n<=8) {u w:Nat} (hu:u∈(bz P n k).lft) (_hne:u≠kE P n k):w∈(bz P n (k+1)).nei.getD u []↔w≠kE P n k/\u≠w/\(w∈(bz P n k).nei.getD u []∨kE P n k∈(bz P n k).nei.getD u []/\w∈(bz P n k).nei.getD (kE P n k) []):=by
 have hl:=(O6 hN k).1;have Oe:u<n:=((h.left u).1 hu).1;have hv:=h.here hk h8;show w∈(rZ (bz P n k).nei (kE P n k)).getD u []↔_;rw[aeq (by rw[hl.len];exact Oe)];by_cases hc:u∈(bz P n k).nei.getD (kE P n k) []
 ·rw[ay ⟨by omega,hc⟩,Sx];have hs:=(h.sym _ hv u hc).2.1;exact⟨fun ⟨a,b,c⟩=>⟨c,fun e=>b e.symm,a.imp id fun a=>⟨hs,a⟩⟩,fun ⟨a,b,c⟩=>⟨c.imp id fun c=>c.2,fun e=>b e.symm,a⟩⟩
 ·rw[az fun e=>hc e.2];constructor
  ·intro hw;have hs:=h.sym u hu w hw;exact⟨fun e=>hc (by rw[<- e];exact hs.2.1),hs.2.2,.inl hw⟩
  ·rintro⟨_,_,c |c⟩
   ·exact c
   ·exact absurd (h.sym u hu _ c.1).2.1 hc
theorem FI.step {P:List (List Nat)} (hN:sP n P) (h:FI P n k) (hk:k<n) (h8:n<=8):FI P n (k+1):=by
 have hv:=h.here hk h8
 have Tx:∀x,x∈(bz P n (k+1)).lft↔x∈(bz P n k).lft/\x≠kE P n k:=fun x=>by
  show x∈(bz P n k).lft.filter (fun u=>decide (u≠kE P n k))↔_;rw[c4,ei]
 have hnew:∀i,i< k ->kE P n i≠kE P n k:=((h.left _).1 hv).2;refine⟨fun x=>?_,fun i j hi hj e=>?_,fun i hi=>?_,fun u hu w hw=>?_⟩
 ·rw[Tx,h.left];constructor
  ·rintro⟨⟨a,b⟩,c⟩;refine⟨a,fun i hi e=>?_⟩;rcases cD i k with h' |h'
   ·exact b i h' e
   ·exact c (by rw[<- e,show i=k by omega])
  ·rintro⟨a,b⟩;exact⟨⟨a,fun i hi=>b i (by omega)⟩,fun e=>b k (by omega) e.symm⟩
 ·rcases cD i k with h1 |h1
  ·rcases cD j k with h2 |h2
   ·exact h.inj i j h1 h2 e
   ·exact absurd (by rw[e,show j=k by omega]) (hnew i h1)
  ·rcases cD j k with h2 |h2
   ·exact absurd (by rw[<- e,show i=k by omega]) (hnew j h2)
   ·omega
 ·rcases cD i k with h1 |h1
  ·exact h.lt i h1
  ·rw[show i=k by omega];exact((h.left _).1 hv).1
 ·rw[Tx] at hu;obtain⟨a,b,c⟩:=(h.next hN hk h8 hu.1 hu.2).1 hw
  have hwl:w∈(bz P n k).lft:=by
   rcases c with c |c
   ·exact(h.sym u hu.1 w c).1
   ·exact(h.sym _ hv w c.2).1
  refine⟨(Tx w).2 ⟨hwl,a⟩,(h.next hN hk h8 hwl a).2 ⟨hu.2,fun e=>b e.symm,?_⟩,b⟩;rcases c with c |c
  ·exact .inl (h.sym u hu.1 w c).2.1
  ·exact .inr ⟨(h.sym _ hv w c.2).2.1,(h.sym u hu.1 _ c.1).2.1⟩
theorem FI.all {P:List (List Nat)} (hN:sP n P) (hs:∀u,u< n ->∀w,w∈P.getD u [] ->u∈P.getD w []) (h8:n<=8):∀k,k<=n ->FI P n k
 |0,_=>⟨fun x=>⟨fun h=>⟨Aj.1 h,fun i hi=>absurd hi (Cc _)⟩,fun h=>Aj.2 h.1⟩,fun i _ hi=>absurd hi (Cc _),fun i hi=>absurd hi (Cc _),fun u hu w hw=>by
  have J9:u<n:=Aj.1 hu;exact⟨Aj.2 (hN.at u w hw),hs u J9 w hw,fun e=>hN.self u (by rw[<- e] at hw;exact hw)⟩⟩
 |k+1,hk=>(FI.all hN hs h8 k (by omega)).step hN (by omega) h8
def nrO (P:List (List Nat)) (n i u w:Nat):Prop:=u∈(bz P n i).lft/\w∈(bz P n i).nei.getD u []
theorem akW {P:List (List Nat)} (hN:sP n P) (hs:∀u,u< n ->∀w,w∈P.getD u [] ->u∈P.getD w []) (h8:n<=8):ada n (kE P n) (nrO P n):=by
 have hF:=FI.all hN hs h8;refine⟨fun v hv=>?_,fun i j hi hj e=>(hF n (ar _)).inj i j hi hj e,fun u w hw=>⟨Aj.1 hw.1,hN.at u w hw.2⟩,fun u hu=>hN.self u hu.2,fun u w hw=>⟨Aj.2 (hN.at u w hw.2),hs u (Aj.1 hw.1) w hw.2⟩,fun i hi u w=>?_⟩
 ·refine Gz fun hno=>?_
  have iZ:(v::(List.range n).map (kE P n)).Nodup:=by
   refine pP.2 ⟨fun hm=>?_,?_⟩
   ·obtain⟨i,hi,e⟩:=bs.1 hm;exact hno ⟨i,bG.1 hi,e⟩
   ·refine Gp.2 (pO.imp_of_mem fun {a b} ha hb hab e=>hab ((hF n (ar _)).inj a b (bG.1 ha) (bG.1 hb) e))
  have:=NW iZ (m:=List.range n) fun x hx=>by
   rcases dK.1 hx with rfl |hx
   ·exact bG.2 hv
   ·obtain⟨i,hi,e⟩:=bs.1 hx;rw[<- e];exact bG.2 ((hF n (ar _)).lt i (bG.1 hi))
  rw[eU,c5,lY] at this;omega
 ·have h:=hF i (by omega);have hv:=h.here hi h8
  have hl:u∈(bz P n (i+1)).lft↔u∈(bz P n i).lft/\u≠kE P n i:=by
   show u∈(bz P n i).lft.filter (fun u=>decide (u≠kE P n i))↔_;rw[c4,ei]
  constructor
  ·rintro⟨a,b⟩;obtain⟨a1,a2⟩:=hl.1 a;obtain⟨c1,c2,c3⟩:=(h.next hN hi h8 a1 a2).1 b;exact⟨a2,c1,c2,c3.imp (fun c=>⟨a1,c⟩) fun c=>⟨⟨a1,c.1⟩,⟨hv,c.2⟩⟩⟩
  ·rintro⟨a,b,c,d⟩;have a1:u∈(bz P n i).lft:=d.elim (fun d=>d.1) fun d=>d.1.1;exact⟨hl.2 ⟨a1,a⟩,(h.next hN hi h8 a1 a).2 ⟨b,c,d.imp (fun d=>d.2) fun d=>⟨d.1.2,d.2.2⟩⟩⟩
theorem ab4 (P:List (List Nat)) (n:Nat):∀k,(bz P n k).ord=(List.range k).map (kE P n)
 |0=>rfl
 |k+1=>by rw[rT,fY, <- ab4 P n k];rfl
theorem ahL (hg:gB L=true):tG L=true↔∀v u,v<L.length ->u<L.length ->(decide (u∈(aI L).getD v [])=decide (v∈(aI L).getD u [])):=by
 rw[tG,hg,Jj,ei,Hf];have hl:∀v,v<L.length ->v<(aI L).length:=fun v hv=>by rw[lp];exact hv
 have hlt:=JP hg
 have hat:∀v,v<L.length ->∀u,u∈(aI L).getD v [] ->u<L.length:=fun v hv u hu=>by
  rw[List.getD_eq_getElem?_getD,List.getElem?_eq_getElem (hl v hv)] at hu;exact hlt _ (bH (hl v hv)) u hu
 have key:∀v,v<L.length ->((((aI L).map aA)[v]? =((lK (aI L) L.length L.length).map aA)[v]?)↔∀u,u<L.length ->(decide (u∈(aI L).getD v [])=decide (v∈(aI L).getD u []))):=fun v hv=>by
  have e1:((aI L).map aA)[v]? =some (aA ((aI L).getD v [])):=by rw[oh,List.getD_eq_getElem?_getD,List.getElem?_eq_getElem (hl v hv)];rfl
  have e2:((lK (aI L) L.length L.length).map aA)[v]? =some (aA (nL (aI L) v L.length)):=by simp[lK,hv]
  rw[e1,e2];constructor
  ·intro e u hu;have e':=lV e;have h1:=rD ((aI L).getD v []) u;have h2:=rD (nL (aI L) v L.length) u;rw[<- h1,e',h2,zP,Lh];exact⟨fun h=>h.2,fun h=>⟨hu,h⟩⟩
  ·intro h;congr 1
   refine SB fun u=>?_;rw[Lh];constructor
   ·intro hu;have:=hat v hv u hu;exact⟨this,(zP.1 (h u this)).1 hu⟩
   ·exact fun hu=>(zP.1 (h u hu.1)).2 hu.2
 constructor
 ·intro e v u hv hu;exact(key v hv).1 (by rw[e]) u hu
 ·intro h;refine Gu fun v=>?_;rcases cD v L.length with hv |hv
  ·exact(key v hv).2 fun u hu=>h v u hv hu
  ·rw[iF (by rw[c5,lp];exact hv),iF (by rw[c5,acF];exact hv)]
variable {Pa:Nat ->Nat ->Prop}
def BZ (Pa:Nat ->Nat ->Prop) (u v:Nat):Prop:=∀M:Nat ->Prop,(∀v,Pa u v ->M v) ->(∀v w,M v ->Pa v w ->M w) ->M v
theorem BZ.one {u:Nat} (h:Pa u v):BZ Pa u v:=fun _ h1 _=>h1 _ h
theorem BZ.more {u w:Nat} (h:BZ Pa u v) (hp:Pa v w):BZ Pa u w:=fun M h1 h2=>h2 _ _ (h M h1 h2) hp
theorem BZ.ind {u:Nat} {M:∀v,BZ Pa u v ->Prop} (one:∀ {v:Nat} (h:Pa u v),M v (.one h)) (more:∀ {v w:Nat} (h:BZ Pa u v) (hp:Pa v w),M v h ->M w (h.more hp)):∀ {v:Nat} (h:BZ Pa u v),M v h:=fun {_} h=>by
 obtain⟨_,k⟩:=h (fun v=>∃h,M v h) (fun _ hp=>⟨_,one hp⟩) (fun _ _ ⟨_,ih⟩ hp=>⟨_,more _ hp ih⟩);exact k
theorem BZ.last {u w:Nat} (h:BZ Pa u w):Pa u w∨∃v,BZ Pa u v/\Pa v w:=by
 induction h using BZ.ind with
 |one hp=>exact .inl hp
 |more h hp _=>exact .inr ⟨_,h,hp⟩
section
attribute [local go_sem] Oper.semAt_some
def oP (P:List (List Nat)) (t:List Nat) (k:Nat):List Nat:=t++(fM t k).flatMap fun v=>P.getD v []
theorem amX (P:List (List Nat)) (t:List Nat):oP P t 0=t:=by simp[oP,fM]
theorem amY {P:List (List Nat)} {t:List Nat} (h:k∈t):oP P t (k+1)=oP P t k++P.getD k []:=by rw[oP,SH h,List.flatMap_append, <- rW,oP];simp
theorem amZ {P:List (List Nat)} {t:List Nat} (h:¬k∈t):oP P t (k+1)=oP P t k:=by rw[oP,N3 h,oP]
def gV (P:List (List Nat)) (s:List Nat):Nat ->List Nat
 |0=>s
 |r+1=>oP P (gV P s r) 8
theorem ac5 {P:List (List Nat)} {t:List Nat} (hP:∀v,∀u∈P.getD v [],u<n) (ht:∀u∈t,u<n) (k:Nat):∀u∈oP P t k,u<n:=fun u hu=>by
 rcases dz.1 hu with h |h
 ·exact ht u h
 ·obtain⟨v,_,h2⟩:=List.mem_flatMap.1 h;exact hP v u h2
theorem Lp {P:List (List Nat)} (hP:∀v,∀u∈P.getD v [],u<n) (hs:∀u∈s,u<n):∀r,∀u∈gV P s r,u<n
 |0=>hs
 |r+1=>ac5 hP (Lp hP hs r) 8
def vY (w:World) (G n c m:Nat) (W:World):Prop:=Boxed W w.heap.size 109 (.slice (some ⟨G,0,none⟩) n c)/\Boxed W (w.heap.size+1) 115 (.int .u32 (m:Nat))/\Below w.heap.size w W
theorem vY.shut {G:Nat} (hlo:w.heap.size+1<lo) (W:World) (r:Nat) (h:vY w G n c m W) (hr:lo<=r) (hd:W.heap[r]? =some (.deferred (some []))):vY w G n c m (W.putObj r (.deferred none)):=
 ⟨(yh (by omega)).trans h.1,(yh (by omega)).trans h.2.1,h.2.2.trans (tA (w:=w) (ar _) W r _ _ (by omega) hd rfl rfl)⟩
theorem vY.own {β:Type} {G B:Nat} (f:β ->Nat) (hB:w.heap.size<=B):OwnFrom B (fun (s:β) W=>vY w G n c (f s) W):=
 eI (fG (iC _ _ (fun _=>_)) _) (eI (fG (iC _ _ (fun s:β=>.int .u32 (f s:Nat))) _) (yg (ar _) hB))
theorem amU (G n c:Nat) (P:List (List Nat)) (s:List Nat) (w:World) (hn:P.length=n) (h8:n<=8) (hU:cI w G (P.map aA)) (hP:∀p∈P,∀u∈p,u<n) (hs:∀u∈s,u<n):
  Calls Tryz.prog 127 #[.slice (some ⟨G,0,none⟩) n c,.int .u32 (aA s:Nat)] w fun e w'=>e=.returned (.int .u32 (aA (gV P s n):Nat))/\Below w.heap.size w w':=by
 refine(gZ (n:=6)).1 ?_;have hG:=hU.lt
 have tW:∀v,∀u∈P.getD v [],u<n:=fun v u hu=>by
  by_cases hv:v<P.length
  ·rw[List.getD_eq_getElem?_getD,List.getElem?_eq_getElem hv] at hu;exact hP _ (bH hv) u hu
  ·rw[List.getD_eq_getElem?_getD,iF (by omega)] at hu;simp at hu
 have uD:Hid (∀(V:World) (v:Nat),Below w.heap.size w V ->v< n ->V.cell? ⟨G,v,none⟩=some (.int .u32 (aA (P.getD v []):Nat))):=fun V v hB hv=>by
  have:=(hU.aa hB hG).cell v (by rw[c5];omega);rwa [Ey (by omega)] at this
 have Qc:=hid (fun r=>Lp tW hs r);have LZ:=hid (fun (r k:Nat)=>Vh (oP P (gV P s r) k) (P.getD k []) (fun u hu=>by have:=ac5 tW (Lp tW hs r) k u hu;omega) (fun u hu=>by have:=tW k u hu;omega));have HY:=hid (fun (r k:Nat) (h:k∈gV P s r)=>amY (P:=P) h);have HN:=hid (fun (r k:Nat) (h:¬k∈gV P s r)=>amZ (P:=P) h);have HZ:=hid (fun (r:Nat)=>amX P (gV P s r));have kR:Hid (∀r,oP P (gV P s r) 8=gV P s (r+1)):=fun r=>rfl;have h0:gV P s 0=s:=rfl;clear hU hP tW hs;refine tz Tryz.func127 rfl trivial ?_ rfl;simp only[Tryz.ntmps127,mP,eU,lg,Nat.reduceAdd,Nat.reduceSub,mV,mU,mQ,lZ,iD,fg];obtain⟨W2,hW2⟩:∃W2,W2=(w.alloc (.cells #[.slice (some ⟨G,0,none⟩) n c] 109)).alloc (.cells #[.int .u32 (aA s:Nat)] 115):=⟨_,rfl⟩
 have hL2:vY w G n c (aA (gV P s 0)) W2:=by
  rw[hW2,h0];refine⟨(a7 w _ _).alloc _,?_,((au _ w).alloc (ar _) _).alloc (by simp) _⟩;have h:=a7 (w.alloc (.cells #[.slice (some ⟨G,0,none⟩) n c] 109)) 115 (.int .u32 (aA s:Nat));rwa [cN] at h
 have k0:=hL2.1.cell;rw[hW2] at k0;gi_wp2
 rw[<- hW2];have hs2:W2.heap.size=w.heap.size+2:=by rw[hW2];simp
 have rh:=hid hL2;clear hW2 hL2 k0 h0;generalize hab:gV P s=ab at *;have BW:=hid hab;clear hab;generalize aA s=m00 at *;refine wpIn_loop (fun a' w'=>∃(r:Nat) (ds:List Deferred) (u9 u10 u11 GH:Value),a'= {tmps:= #[.slice (some ⟨G,0,none⟩) n c,.int .u32 (m00:Nat),.pointer (some ⟨w.heap.size,0,none⟩),.pointer (some ⟨w.heap.size+1,0,none⟩),.int .u32 0,undef,.slice (some ⟨G,0,none⟩) n c,.int .i64 (n:Nat),.int .i64 (r:Nat),u9,u10,u11,undef,undef,undef,undef,undef,undef,undef,GH,undef],defers:=ds}/\r<=n/\Hid (vY w G n c (aA (ab r)) w')/\Hid (Shut (w.heap.size+2) w'.heap.size ds w')) (fun a' _=>n - (intOf (a'.tmps.getD 8 undef)).toNat) ?_ ?_
 ·exact⟨0,[],_,_,_,_,rfl,aU _,rh,trivial⟩
 intro a' wr hinv;obtain⟨r,ds,u9,u10,u11,GH,rfl,hr,mH,nT⟩:=hinv;clear rh;by_cases hlt:r<n
 ·have ht:=Qc.o r;have LC:=hid (HY.o r);have IE:=hid (HN.o r);have HOr:=hid (LZ.o r);have hZr:=HZ.o r;have hSr:=kR.o r;have cZ:w.heap.size+1<wr.heap.size:=mH.o.2.1.lt;have ks:=mH.o.2.1.cell;have Ka:∀u∈ab r,u<8:=fun u hu=>by have:=ht u hu;omega
  generalize ab r=t at *;gi_wp2
  clear ks;have hL3:=mH.o;rw[<- hZr] at hL3
  refine Ei (by omega) t Ka rfl rfl
   (fun k V=>vY w G n c (aA (oP P t k)) V/\(wr.heap.size<=V.heap.size/\Shut (w.heap.size+2) wr.heap.size ds V))
   (eI (vY.own (fun k:Nat=>aA (oP P t k)) (by omega)) Rv)
   ⟨hL3,ar _,nT.o⟩
   (fun k=> {tmps:= #[.slice (some ⟨G,0,none⟩) n c,.int .u32 (m00:Nat),.pointer (some ⟨w.heap.size,0,none⟩),.pointer (some ⟨w.heap.size+1,0,none⟩),.int .u32 0,.int .i64 (k:Nat),.slice (some ⟨G,0,none⟩) n c,.int .i64 (n:Nat),.int .i64 (r:Nat),.bool true,.int .u32 (aA t:Nat),.func (.func 144) #[.int .u32 (aA t:Nat)] #[],.int .i64 (k:Nat),undef,undef,undef,undef,undef,undef,GH,undef],defers:=[]}) ?assign ?body ?skip ?done
  case assign=>
   intro l k W K hK;gi_wp2
   exact hK
  case body=>
   rintro l k V hk hm ⟨h0,wM,p8⟩;have hkn:=ht k hm;have k0:=h0.1.cell;have kG:=uD.o V k h0.2.2 hkn;have hOR:=HOr.o k;have Bq:=hid (LC.o k hm);have ks:=h0.2.1.cell;have fs:=h0.2.1.frozen;generalize hm1:aA (oP P t k++P.getD k [])=m1 at *;have zG:=hid hm1;clear hm1;generalize aA (oP P t k)=m0 at *;generalize aA (P.getD k [])=mu at *;generalize aA t=mt at *;gi_wp2_with fail
   refine uL (fun u=>u.cell? ⟨w.heap.size,0,none⟩=some (.slice (some ⟨G,0,none⟩) n c)/\u.cell? ⟨G,k,none⟩=some (.int .u32 (mu:Nat))) (by kernel_rfl) (by kernel_rfl) (fun ⟨_,_,h⟩=>h) ⟨k0,kG⟩ ?_;intro aq;have hD:KeepsOthers V V.drew:=wk V;have q0:vY w G n c m0 V.drew:=⟨h0.1,h0.2.1,h0.2.2.drew⟩;have qS:Shut (w.heap.size+2) wr.heap.size ds V.drew:=p8.keep fun _ _=>rfl;have qz:wr.heap.size<=V.drew.heap.size:=wM;have ks2:V.drew.cell? ⟨w.heap.size+1,0,none⟩=some (.int .u32 (m0:Nat)):=ks;have fs2:V.drew.frozen? ⟨w.heap.size+1,0,none⟩=false:=fs;clear k0 kG ks fs h0 p8 wM hL3;generalize V.drew=U0 at *;refine aw 1 (.slice (some ⟨G,0,none⟩) n c) ?_;refine aw 2 (.int .i64 (k:Nat)) ?_;refine aw 3 (.pointer (some ⟨G,k,none⟩)) ?_;refine aw 4 (.int .u32 (mu:Nat)) ?_;refine aF [0] (cA ?_ aD);intro K' hK';go_simp;refine hK'.o _ _ aq (fun ak=>?_);clear hK' K' ak;refine aw 5 (.int .u32 (m1:Nat)) ?_;refine aF [6] (cA ?_ aD);intro K' hK';go_simp;refine hK'.o _ _ ⟨(jE q0.1 (w.heap.size+1) 0 _ (by omega)).cell,(bX _ _ _ _ (fun e=>(show ¬w.heap.size+1=G by omega) (bR Addr.block e))).trans aq.2⟩ (fun _=>dW (by kernel_rfl) ?_ _);clear hK' K' aq;gi_wp2
   exact⟨(hD.trans (iG U0 _ _)).from _,⟨jE q0.1 (w.heap.size+1) 0 _ (by omega),by rw[Bq.o,zG.o];exact q0.2.1.set _,q0.2.2.setCell (p:=⟨w.heap.size+1,0,none⟩) (by simp) _⟩,by simpa using qz,qS.putAt (by omega) _⟩
  case skip=>
   rintro k V hk hm h;rw[IE.o k hm];exact h
  case done=>
   rintro D V hD ⟨h0,wM,p8⟩ hK;rw[hSr] at h0;have A6:D<V.heap.size:=(eL.1 hK).1;have FH:Hid (Shut (w.heap.size+2) V.heap.size ({target:=.collected D,args:= #[]}::ds) V):=⟨D,by omega,A6,rfl,hK,p8.af hD⟩;have FX:=hid h0;clear h0 p8 hK;gi_wp2
   refine⟨⟨r+1,_,_,_,_,_,rfl,by omega,FX,FH⟩,?_⟩;simp[intOf];omega
 ·obtain rfl:r=n:=by omega
  have kc:=mH.o.2.1.cell;gi_wp2
  refine Ez (lo:=w.heap.size+2) (K:=vY w G r c (aA (ab r))) (vY.shut (by omega)) (fun Z hZ=>⟨_,zO rfl _ _ _,by rw[BW.o];rfl,hZ.2.2⟩) _ wr.heap.size wr nT.o mH.o
end
def AbR (L:List (List Int)) (l:List Int) (e:Ending) (w':World):Prop:=
 (bE L≠0/\e=.returned (.tuple #[.slice none 0 0,.int .i64 (bE L)]))∨
 (bE L=0/\dD l L.length=false/\e=.returned (.tuple #[.slice none 0 0,.int .i64 11]))∨
 (bE L=0/\dD l L.length=true/\∃d cd,e=.returned (.tuple #[.slice d (gN (gV (aI L) (ag l) L.length)).length cd,.int .i64 0])/\ax w' d (gN (gV (aI L) (ag l) L.length)))
theorem ud (h:bE L=0):gB L=true:=by
 rw[bE] at h;by_cases e:gB L=true
 ·exact e
 ·rw[az e] at h;exact absurd h (by decide)
theorem akp (a b:Option Addr) (ca cb:Nat) (L:List (List Int)) (l:List Int) (w:World) (h:fh w a L) (hl:∀l∈L,l.length<=140737488355328) (hb:ax w b l) (dh:l.length<=140737488355328):
  Calls Tryz.prog 78 #[.slice a L.length ca,.slice b l.length cb] w fun e w'=>AbR L l e w'/\Below w.heap.size w w':=by
 have HR:=hid (UI a ca L w h hl);have HB:=hid hb;have FK:=hid (fun (U:World) (hU:ax U b l) (hn:L.length<=8)=>YI b cb l L.length U hU dh hn)
 have BW:Hid (bE L=0 ->dD l L.length=true ->∀(G c:Nat) (U:World),cI U G (jO L) ->Calls Tryz.prog 127 #[.slice (some ⟨G,0,none⟩) L.length c,.int .u32 (aA (ag l):Nat)] U fun e w'=>e=.returned (.int .u32 (aA (gV (aI L) (ag l) L.length):Nat))/\Below U.heap.size U w'):=fun hg hr G c U hU=>by
  rw[Hf] at hU;have hgb:=ud hg
  exact amU G L.length c (aI L) (ag l) U (lp L) (qg hgb).2.1 hU (JP hgb) (fun u hu=>by
   obtain⟨x,hx,rfl⟩:=bs.1 hu;obtain⟨j,hj,rfl⟩:=iE hx;have:=(Al hr).each j hj;omega)
 have xW:Hid (bE L=0 ->dD l L.length=true ->∀U:World,Calls Tryz.prog 135 #[.int .u32 (aA (gV (aI L) (ag l) L.length):Nat)] U fun e w'=>∃v,e=.returned v/\cX w' U.heap.size v (iL (fM (gV (aI L) (ag l) L.length) 8))/\Below U.heap.size U w'):=fun hg hr U=>aaE _ U (fun u hu=>by
  have hgb:=ud hg;have h8:=(qg hgb).2.1
  have:=Lp (n:=L.length) (P:=aI L) (s:=ag l) (fun v u hu=>(Hc hgb).at v u hu) (fun u hu=>by
   obtain⟨x,hx,rfl⟩:=bs.1 hu;obtain⟨j,hj,rfl⟩:=iE hx;have:=(Al hr).each j hj;omega) L.length u hu
  omega)
 have oV:Hid (dD l L.length=true ->setA l L.length=aA (ag l)):=YJ;clear h hl hb;go_enter Tryz.func78,Tryz.ntmps78;go_wp2_with fail
 refine HR.o.af ?_;rintro e w1 ⟨hb1,⟨hg,G,rfl,hG,hU⟩ |⟨hg,rfl⟩⟩
 ·have h8:=(qg (ud hg)).2.1;have HS:=hid (FK.o w1 (HB.o.aa hb1) h8);have HU:=hid hU;have eR:=hid hb1;have IP:=hid hg;clear hU hb1 FK hg;cases hr:dD l L.length with
  |false=>
   rw[hr] at HS;have zB:=hid hr;clear hr BW xW oV;generalize setA l L.length=sa at *;go_wp2_with fail
   refine HS.o.af ?_;rintro e w2 ⟨rfl,hw2⟩;subst hw2;go_wp2;go_ret2;exact⟨.inr (.inl ⟨IP.o,zB.o,rfl⟩),eR.o⟩
  |true=>
   rw[hr,oV.o hr] at HS;have HRT:=hid hr;have HA:=hid (BW.o IP.o hr G L.length);have HL:=hid (xW.o IP.o hr);clear hr BW xW oV;generalize hab:gV (aI L) (ag l) L.length=ab at *;have adC:=hid hab;clear hab;generalize aA (ag l)=m0 at *;go_wp2_with fail
   refine HS.o.af ?_;rintro e w2 ⟨rfl,hw2⟩;subst hw2;go_wp2_with fail
   refine(HA.o _ HU.o).af ?_;rintro e w3 ⟨rfl,hb3⟩;have dU:=hid (eR.o.trans (hb3.af eR.o.size));clear hb3;go_wp2_with fail
   refine(HL.o _).af ?_;rintro e w4 ⟨v,rfl,hv,hb4⟩;obtain⟨d,cd,rfl,hI⟩:=hv.ints;have HI:=hid hI;have fV:=hid (dU.o.trans (hb4.af dU.o.size));clear hv hI hb4;go_wp2;go_ret2;exact⟨.inr (.inr ⟨IP.o,HRT.o,d,cd,by rw[adC.o];rfl,by rw[adC.o];exact HI.o⟩),fV.o⟩
 ·have Wy:=hid hg;have eR:=hid hb1;have hgb:(bE L==0)=false:=by simpa using hg
  clear hg hb1 BW xW oV FK;generalize hge:bE L=ge at *;have F6:=hid hge;clear hge;go_wp2;go_ret2;exact⟨.inl ⟨by rw[F6.o];exact Wy.o,by rw[F6.o];rfl⟩,eR.o⟩
section
attribute [local go_sem] Oper.semAt_some
variable {r:Nat} {o':Obj}
def iP (P:List (List Nat)) (v:Nat):List Nat:=v::P.getD v []
def iY (P:List (List Nat)) (u:Nat):Nat ->List Nat
 |0=>[]
 |v+1=>if u∈iP P v then iY P u v++(iP P v).filter (fun x=>decide (x≠u)) else iY P u v
def lx (P:List (List Nat)) (n v k:Nat):List (List Nat):=(List.range n).map fun u=>if u<k/\u∈iP P v then iY P u v++(iP P v).filter (fun x=>decide (x≠u)) else iY P u v
def nk (P:List (List Nat)) (n v:Nat):List (List Nat):=(List.range n).map fun u=>iY P u v
theorem aih (P:List (List Nat)) (n v:Nat):lx P n v 0=nk P n v:=by simp[lx,nk]
theorem aim {P:List (List Nat)} (h:n<=8):lx P n v 8=nk P n (v+1):=by
 apply rq;intro u hu;have:=bG.1 hu;rw[iY];by_cases h1:u∈iP P v
 ·rw[ay ⟨by omega,h1⟩,ay h1]
 ·rw[az (fun e=>h1 e.2),az h1]
theorem aii {P:List (List Nat)} (hm:k∈iP P v):lx P n v (k+1)=(lx P n v k).set k (iY P k v++(iP P v).filter (fun x=>decide (x≠k))):=by
 apply pS (by simp[lx]);intro i h1 h2;rw[Jf];simp only[lx,og,qH];by_cases h:k=i
 ·subst h;rw[ay ⟨by omega,hm⟩,ay rfl]
 ·rw[az h];have e:(i<k+1/\i∈iP P v)↔(i<k/\i∈iP P v):=⟨fun ⟨a,b⟩=>⟨by omega,b⟩,fun ⟨a,b⟩=>⟨by omega,b⟩⟩;simp only[e]
theorem aij {P:List (List Nat)} (hm:¬k∈iP P v):lx P n v (k+1)=lx P n v k:=by
 apply rq;intro i hi;have e:(i<k+1/\i∈iP P v)↔(i<k/\i∈iP P v):=⟨fun ⟨a,b⟩=>⟨by rcases cD i k with h |h;exact h;exact absurd (show i=k by omega) (fun e=>hm (e▸b)),b⟩,fun ⟨a,b⟩=>⟨by omega,b⟩⟩;simp only[e]
theorem ail {P:List (List Nat)} {u:Nat} (hu:u<n) (h:¬u<k):(lx P n v k)[u]? =some (iY P u v):=by
 simp[lx,hu,h]
theorem aik (P:List (List Nat)) (n v k:Nat):(lx P n v k).length=n:=by simp[lx]
theorem aaq (P:List (List Nat)) (n v:Nat):(nk P n v).length=n:=by simp[nk]
theorem O8 {P:List (List Nat)} (hP:∀v,∀u∈P.getD v [],u<n) (hv:v<n):∀u∈iP P v,u<n:=fun u hu=>by
 rcases dK.1 hu with rfl |h
 ·exact hv
 ·exact hP v u h
theorem NZ {P:List (List Nat)} (hP:∀v,∀u∈P.getD v [],u<n) (u:Nat):∀v,v<=n ->∀x∈iY P u v,x<n
 |0,_,x,hx=>by simp[iY] at hx
 |v+1,hv,x,hx=>by
  rw[iY] at hx;by_cases h:u∈iP P v
  ·rw[ay h] at hx;rcases dz.1 hx with h2 |h2
   ·exact NZ hP u v (by omega) x h2
   ·exact O8 hP (by omega) x (c4.1 h2).1
  ·rw[az h] at hx;exact NZ hP u v (by omega) x hx
theorem acJ {W:World} {p:Addr} {o:Obj} (h:W.cell? p=some x) (ho:W.heap[r]? =some o) (hc:o.isCells=false):(W.putObj r o').cell? p=some x:=by
 have hne:p.block≠r:=fun e=>by
  rw[World.cell?,e,ho] at h;cases o<;>simp_all [Obj.isCells]
 rw[<- h];exact kA (yh hne)
theorem ax.putObj {W:World} {d:Option Addr} {o:Obj} (h:ax W d l) (ho:W.heap[r]? =some o) (hc:o.isCells=false):ax (W.putObj r o') d l:=fun k hk=>by
 obtain⟨g,q,h1,h2,h3⟩:=h k hk;exact⟨g,q,h1,by simpa using h2,acJ h3 ho hc⟩
theorem fh.putObj {W:World} {o:Obj} (h:fh W a L) (ho:W.heap[r]? =some o) (hc:o.isCells=false):fh (W.putObj r o') a L:=fun k hk=>by
 obtain⟨g,q,b,c,h1,h2,h3,h4⟩:=h k hk;exact⟨g,q,b,c,h1,by simpa using h2,acJ h3 ho hc,h4.putObj ho hc⟩
def zl (w:World) (R n:Nat) (l:List Nat) (W:World):Prop:=cI W R l/\Boxed W (R+1) 109 (.slice (some ⟨R,0,none⟩) n n)/\Below R w W
theorem zl.own {β:Type} {R B:Nat} (f:β ->List Nat) (hB:R<=B) (hw:R<=w.heap.size):OwnFrom B (fun (s:β) W=>zl w R n (f s) W):=
 eI (fG (Nk _ f) _) (eI (fG (iC _ _ (fun _=>_)) _) (fun _ _ _ _ hs hg hr=>hs.grown hg (aS hw hs.size) (fun k e=>aS hB (hr k e).1)))
theorem zl.aa {W:World} {R:Nat} {l:List Nat} (h:zl w R n l W) (hb:Below W.heap.size W W'):zl w R n l W':=⟨h.1.aa hb h.1.lt,xF h.2.1 hb h.2.1.lt,h.2.2.trans (hb.af (uH h.1.lt))⟩
def MoR (L:List (List Int)) (e:Ending) (w':World):Prop:=
 (bE L≠0/\e=.returned (.tuple #[.slice none 0 0,.int .i64 (bE L)]))∨
 (bE L=0/\∃G,e=.returned (.tuple #[.slice (some ⟨G,0,none⟩) L.length L.length,.int .i64 0])/\fh w' (some ⟨G,0,none⟩) ((nk (aI L) L.length L.length).map gN))
theorem aki (a:Option Addr) (ca:Nat) (L:List (List Int)) (w:World) (h:fh w a L) (hl:∀l∈L,l.length<=140737488355328):
  Calls Tryz.prog 93 #[.slice a L.length ca] w fun e w'=>MoR L e w'/\Below w.heap.size w w':=by
 refine(gZ (n:=6)).1 ?_;obtain⟨i0,cU,hz0,hz1,hz2⟩:=eT Tryz.infoSet;have HR:=hid (UI a ca L w h hl);have hn:(aI L).length=L.length:=lp L;have IB:Hid (bE L=0 ->∀v,∀u∈(aI L).getD v [],u<L.length):=fun hg v u hu=>(Hc (ud hg)).at v u hu;have sY:Hid (bE L=0 ->L.length<=8):=fun hg=>(qg (ud hg)).2.1;have HMK:Hid (jO L=(aI L).map aA):=Hf L;have HMR:Hid (∀e w',MoR L e w'=((bE L≠0/\e=.returned (.tuple #[.slice none 0 0,.int .i64 (bE L)]))∨(bE L=0/\∃G,e=.returned (.tuple #[.slice (some ⟨G,0,none⟩) L.length L.length,.int .i64 0])/\fh w' (some ⟨G,0,none⟩) ((nk (aI L) L.length L.length).map gN)))):=fun _ _=>rfl;generalize aI L=P at *;clear h hl;by_cases hg:bE L=0
 case neg=>
  have Wy:=hid hg;have hgb:(bE L==0)=false:=by simpa using hg
  refine tz Tryz.func93 rfl trivial ?_ rfl;simp only[Tryz.ntmps93,mP,eU,lg,Nat.reduceAdd,Nat.reduceSub,mV,mU,mQ,lZ,iD,fg];gi_wp2_with (refine⟨trivial,?_⟩;gi_at_call 72;refine(gZ.2 HR.o).af ?_;rintro e w1 ⟨hb1,yP⟩;obtain rfl:=(yP.resolve_left fun h=>hg h.1).2)
  exact⟨_,results_tmp2 rfl _ _ _,.inl ⟨Wy.o,rfl⟩,hb1⟩
 case pos=>
  have h8:=sY.o hg;have hmk:=fun V=>MD (P:=Tryz.prog) 109 115 (.int .u32 0) 4 Tryz.underlying109 Tryz.infoSet rfl .i64 .i64 L.length (by omega) (by omega) V;refine tz Tryz.func93 rfl trivial ?_ rfl;simp only[Tryz.ntmps93,mP,eU,lg,Nat.reduceAdd,Nat.reduceSub,mV,mU,mQ,lZ,iD,fg];gi_wp2_with (refine⟨trivial,?_⟩;gi_at_call 72;refine(gZ.2 HR.o).af ?_;rintro e w1 ⟨hb1,yP⟩;obtain⟨-,G,rfl,hG,hU⟩:=yP.resolve_right fun h=>h.1 hg)
  clear hmk;have tW:=IB.o hg;rw[HMK.o] at hU;have E9:=hU.lt;have IP:=hid hg;have eR:=hid hb1
  have uD:Hid (∀(V:World) (v:Nat),Below w1.heap.size w1 V ->v<L.length ->V.cell? ⟨G,v,none⟩=some (.int .u32 (aA (P.getD v []):Nat))):=fun V v hB hv=>by
   have:=(hU.aa hB E9).cell v (by rw[c5];omega);rwa [Ey (by omega)] at this
  have F7:Hid (∀v,v<L.length ->∀u∈iP P v,u<L.length):=fun v hv=>O8 tW hv;have VK:=hid (fun (v:Nat) (hv:v<L.length) (U:World)=>GW (P.getD v []) v U (fun u hu=>by have:=tW v u hu;omega) (by omega));have HFM:Hid (∀v,v::P.getD v []=iP P v):=fun v=>rfl;have ku:=hid (fun (v:Nat) (hv:v<L.length) (u:Nat) (hu:u<8) (U:World)=>JB (iP P v) u U (fun x hx=>by have:=O8 tW hv x hx;omega) hu);have LZ:=hid (fun (v u:Nat) (hv:v<L.length)=>Vh (iY P u v) ((iP P v).filter fun x=>decide (x≠u)) (fun x hx=>by have:=NZ tW u v (by omega) x hx;omega) (K9 (fun x hx=>by have:=O8 tW hv x hx;omega) _))
  have Gb:Hid (∀(V:World) (g v k u:Nat),u<L.length ->¬u< k ->cI V g ((lx P L.length v k).map aA) ->V.cell? ⟨g,u,none⟩=some (.int .u32 (aA (iY P u v):Nat))/\V.frozen? ⟨g,u,none⟩=false):=fun V g v k u hu hne hR=>by
   (have h1:u<(lx P L.length v k).length:=by rw[aik];exact hu);have h2:=hR.cell u (by rw[c5];exact h1);obtain⟨h3,h4⟩:=o0.1 (ail (P:=P) (v:=v) hu hne);rw[og,h4] at h2;exact⟨h2,hR.fz u⟩
  have kS:Hid (∀(V:World) (g v k:Nat),k∈iP P v ->cI V g ((lx P L.length v k).map aA) ->cI (V.setCell ⟨g,k,none⟩ (.int .u32 (aA (iY P k v++(iP P v).filter (fun x=>decide (x≠k))):Nat))) g ((lx P L.length v (k+1)).map aA)):=fun V g v k hm hR=>by
   have:=hR.set k (aA (iY P k v++(iP P v).filter (fun x=>decide (x≠k))));rwa [aii hm,Gr]
  have eQ:Hid (∀v k,¬k∈iP P v ->lx P L.length v (k+1)=lx P L.length v k):=fun v k h=>aij h;have HZ:=hid (fun v=>aih P L.length v);have HA:=hid (fun v=>aim (P:=P) (v:=v) h8)
  have hz:(nk P L.length 0).map aA=List.replicate L.length 0:=by
   apply pS (by simp[nk]);intro i h1 h2;simp[nk,iY,aA]
  have vT:Hid (∀(R:Nat) (U:World),cI U R ((nk P L.length L.length).map aA) ->Calls Tryz.prog 146 #[.slice (some ⟨R,0,none⟩) L.length L.length] U fun e w'=>∃G,e=.returned (.slice (some ⟨G,0,none⟩) L.length L.length)/\U.heap.size<=G/\fh w' (some ⟨G,0,none⟩) ((nk P L.length L.length).map gN)/\Below U.heap.size U w'):=fun R U hR=>by
   have:=aaD (some ⟨R,0,none⟩) L.length (nk P L.length L.length) U (fun p hp u hu=>by
    obtain⟨x,_,rfl⟩:=bs.1 hp;have:=NZ tW x L.length (ar _) u hu
    omega) (by rw[aaq];omega) (fun k hk=>⟨R,0,rfl,hR.lt,by
     have:=hR.cell k (by rw[c5];exact hk);rw[bT,this,og]⟩)
   rwa [aaq] at this
  clear hU hg hb1 IB sY HMK tW HR;generalize L.length=n at *;obtain⟨W2,hW2⟩:∃W2,W2=(w1.alloc (.cells (madeCells #[.int .u32 0] n) 115)).alloc (.cells #[.slice (some ⟨w1.heap.size,0,none⟩) n n] 109):=⟨_,rfl⟩
  have hL2:zl w1 w1.heap.size n ((nk P n 0).map aA) W2:=by
   rw[hW2,hz];refine⟨?_,?_,((au _ w1).alloc (ar _) _).alloc (by simp) _⟩
   ·have h:=kd w1 (.cells (madeCells #[.int .u32 0] n) 115)
    have e:(madeCells #[.int .u32 0] n).toList=(List.replicate n (0:Nat)).map uv:=by
     have:=SJ n;rwa [mN] at this
    (have e2:madeCells #[Value.int .u32 0] n=((List.replicate n (0:Nat)).map uv).toArray:=by rw[<- e]);rw[cI,rY _ _ _ (by simp),h,e2]
   ·have h:=a7 (w1.alloc (.cells (madeCells #[.int .u32 0] n) 115)) 109 (.slice (some ⟨w1.heap.size,0,none⟩) n n);rwa [cN] at h
  rw[<- hW2];have hs2:W2.heap.size=w1.heap.size+2:=by rw[hW2];simp
  have rh:=hid hL2;clear hW2 hL2 hz;refine wpIn_loop (fun a' w'=>∃(v:Nat) (ds:List Deferred) (u7 u8 u24 Js u26 Jr u28 Ak Jq Jp u32 GG:Value),a'= {tmps:= #[.slice a n ca,undef,.slice none 0 0,.int .i64 0,.slice (some ⟨G,0,none⟩) n n,.int .i64 0,.pointer (some ⟨w1.heap.size+1,0,none⟩),u7,u8,undef,.tuple #[.slice (some ⟨G,0,none⟩) n n,.int .i64 0],.slice a n ca,.tuple #[.slice (some ⟨G,0,none⟩) n n,.int .i64 0],.slice (some ⟨G,0,none⟩) n n,.int .i64 0,.int .i64 0,.bool false,undef,.slice (some ⟨G,0,none⟩) n n,.int .i64 (n:Nat),.slice (some ⟨w1.heap.size,0,none⟩) n n,.slice (some ⟨G,0,none⟩) n n,.int .i64 (n:Nat),.int .i64 (v:Nat),u24,Js,u26,Jr,u28,Ak,Jq,Jp,u32,undef,undef,undef,undef,undef,undef,undef,undef,undef,undef,GG,undef,undef],defers:=ds}/\v<=n/\Hid (zl w1 w1.heap.size n ((nk P n v).map aA) w')/\Hid (Shut (w1.heap.size+2) w'.heap.size ds w')) (fun a' _=>n - (intOf (a'.tmps.getD 23 undef)).toNat) ?_ ?_
  ·exact⟨0,[],_,_,_,_,_,_,_,_,_,_,_,_,rfl,aU _,rh,trivial⟩
  intro a' wr hinv;obtain⟨v,ds,u7,u8,u24,Js,u26,Jr,u28,Ak,Jq,Jp,u32,GG,rfl,hv,mH,nT⟩:=hinv;clear rh;by_cases hlt:v<n
  ·have kv:=uD.o wr v mH.o.2.2 hlt;have hs:=F7.o v hlt;(have CE:∀u∈iP P v,u<8:=fun u hu=>by have:=hs u hu;omega);have adf:=hid (VK.o v hlt);rw[HFM.o v] at adf;have anc:=hid (ku.o v hlt);have anv:=hid (fun u=>LZ.o v u hlt);have WO:=hid (fun V g k u=>Gb.o V g v k u);have VU:=hid (fun V g k=>kS.o V g v k);have Wd:=hid (fun k=>eQ.o v k);have TZ:=HZ.o v;have Ux:=HA.o v;have cZ:w1.heap.size+1<wr.heap.size:=mH.o.2.1.lt;generalize aA (P.getD v [])=mp at *;generalize iP P v=fm at *;gi_wp2_with (refine⟨trivial,?_⟩;gi_at_call 143;refine(gZ.2 (adf.o _)).af ?_;rintro e w4 ⟨rfl,hw4⟩;subst hw4)
   obtain⟨W3,hW3⟩:∃W3,W3=wr.alloc (.cells #[.int .u32 (aA fm:Nat)] 115):=⟨_,rfl⟩;(have b8:Boxed W3 wr.heap.size 115 (.int .u32 (aA fm:Nat)):=by rw[hW3];exact a7 wr _ _);(have hb3:Below wr.heap.size wr W3:=by rw[hW3];exact(au _ wr).alloc (ar _) _);(have hs3:W3.heap.size=wr.heap.size+1:=by rw[hW3];simp);rw[<- hW3];have hL3:=mH.o.aa hb3;have KL:=(nT.o.aa hb3).af (show wr.heap.size<=W3.heap.size by omega);rw[<- TZ] at hL3;clear hW3 kv mH nT
   refine Ei (by omega) fm CE rfl rfl
    (fun k V=>zl w1 w1.heap.size n ((lx P n v k).map aA) V/\Boxed V wr.heap.size 115 (.int .u32 (aA fm:Nat))/\(W3.heap.size<=V.heap.size/\Shut (w1.heap.size+2) W3.heap.size ds V))
    (eI (zl.own (fun k:Nat=>(lx P n v k).map aA) (by omega) (ar _)) (eI (fG (iC _ _ (fun _=>_)) _) Rv))
    ⟨hL3,b8,ar _,KL⟩
    (fun k=> {tmps:= #[.slice a n ca,undef,.slice none 0 0,.int .i64 0,.slice (some ⟨G,0,none⟩) n n,.int .i64 0,.pointer (some ⟨w1.heap.size+1,0,none⟩),.int .i64 (v:Nat),.pointer (some ⟨wr.heap.size,0,none⟩),.int .i64 (k:Nat),.tuple #[.slice (some ⟨G,0,none⟩) n n,.int .i64 0],.slice a n ca,.tuple #[.slice (some ⟨G,0,none⟩) n n,.int .i64 0],.slice (some ⟨G,0,none⟩) n n,.int .i64 0,.int .i64 0,.bool false,undef,.slice (some ⟨G,0,none⟩) n n,.int .i64 (n:Nat),.slice (some ⟨w1.heap.size,0,none⟩) n n,.slice (some ⟨G,0,none⟩) n n,.int .i64 (n:Nat),.int .i64 (v:Nat),.bool true,.int .i64 (v:Nat),.pointer (some ⟨G,v,none⟩),.int .u32 (mp:Nat),.int .u32 (mp:Nat),.int .i64 (v:Nat),.int .u32 (aA fm:Nat),.int .u32 (aA fm:Nat),.func (.func 144) #[.int .u32 (aA fm:Nat)] #[],.int .i64 (k:Nat),undef,undef,undef,undef,undef,undef,undef,undef,undef,GG,undef,undef],defers:=[]}) ?assign ?body ?skip ?done
   case assign=>
    intro l k W K hK;gi_wp2
    exact hK
   case body=>
    rintro l k V hk hm ⟨h0,h4,wM,p8⟩;have hkn:=hs k hm;have k1:=h0.2.1.cell;have k4:=h4.cell;obtain⟨kU,fU⟩:=WO.o V w1.heap.size k k hkn (by omega) h0.1;have sS:=hid (anc.o k hk);have hOR:=anv.o k;have LM:=hid (fun W hW=>VU.o W w1.heap.size k hm hW);generalize aA (iY P k v++fm.filter (fun x=>decide (x≠k)))=m1 at *;generalize aA (fm.filter fun x=>decide (x≠k))=m2 at *;generalize aA (iY P k v)=m0 at *;generalize aA fm=mf at *;gi_wp2_with fail
    refine uL (fun u=>u.cell? ⟨w1.heap.size+1,0,none⟩=some (.slice (some ⟨w1.heap.size,0,none⟩) n n)/\u.cell? ⟨wr.heap.size,0,none⟩=some (.int .u32 (mf:Nat))) (by kernel_rfl) (by kernel_rfl) (fun ⟨_,_,h⟩=>h) ⟨k1,k4⟩ ?_;intro aq;have hD:KeepsOthers V V.drew:=wk V;have q0:zl w1 w1.heap.size n ((lx P n v k).map aA) V.drew:=⟨h0.1,h0.2.1,h0.2.2.drew⟩;have q4:Boxed V.drew wr.heap.size 115 (.int .u32 (mf:Nat)):=h4;have qS:Shut (w1.heap.size+2) W3.heap.size ds V.drew:=p8.keep fun _ _=>rfl;have qz:W3.heap.size<=V.drew.heap.size:=wM;have kU2:V.drew.cell? ⟨w1.heap.size,k,none⟩=some (.int .u32 (m0:Nat)):=kU;have fU2:V.drew.frozen? ⟨w1.heap.size,k,none⟩=false:=fU;clear k1 k4 kU fU h0 h4 p8 wM b8 hb3 hL3 KL;generalize V.drew=U0 at *;refine aw 0 (.slice (some ⟨w1.heap.size,0,none⟩) n n) ?_;refine aw 1 (.int .i64 (k:Nat)) ?_;refine aw 2 (.pointer (some ⟨w1.heap.size,k,none⟩)) ?_;refine aw 4 (.int .u32 (mf:Nat)) ?_;refine aw 5 (.int .i64 (k:Nat)) ?_;refine aF [3,6] (cA ?_ (cA ?_ aD))
    focus
     intro K' hK';go_simp;refine hK'.o _ _ aq (fun ak=>?_);clear hK' K' ak;refine aF [6] (cA ?_ aD);intro K' hK';go_simp;refine(sS.o _).af ?_;rintro e U1 ⟨rfl,fO⟩;subst fO;refine hK'.o _ _ aq (fun ak=>?_);clear hK' K' ak;generalize U1=U0 at *
    rotate_left
    focus
     intro K' hK';go_simp;refine(sS.o _).af ?_;rintro e U1 ⟨rfl,fO⟩;subst fO;refine hK'.o _ _ aq (fun ak=>?_);clear hK' K' ak;generalize U1=U0 at *;refine aF [3] (cA ?_ aD);intro K' hK';go_simp;refine hK'.o _ _ aq (fun ak=>?_);clear hK' K' ak
    all_goals
     refine aw 7 (.int .u32 (m1:Nat)) ?_;refine aw 8 (.pointer (some ⟨w1.heap.size,k,none⟩)) ?_;refine aF [9] (cA ?_ aD);intro K' hK';go_simp;refine hK'.o _ _ ⟨(jE q0.2.1 w1.heap.size k _ (by omega)).cell,(jE q4 w1.heap.size k _ (by omega)).cell⟩ (fun _=>dW (by kernel_rfl) ?_ _);clear hK' K' aq;gi_wp2
     exact⟨(hD.trans (iG U0 _ _)).from _,⟨LM.o U0 q0.1,jE q0.2.1 w1.heap.size k _ (by omega),q0.2.2.setCell (p:=⟨w1.heap.size,k,none⟩) (ar _) _⟩,jE q4 w1.heap.size k _ (by omega),by simpa using qz,qS.putAt (by omega) _⟩
   case skip=>
    rintro k V hk hm h;rw[Wd.o k hm];exact h
   case done=>
    rintro D V hD ⟨h0,h4,wM,p8⟩ hK;rw[Ux] at h0;have A6:D<V.heap.size:=(eL.1 hK).1;have FH:Hid (Shut (w1.heap.size+2) V.heap.size ({target:=.collected D,args:= #[]}::ds) V):=⟨D,by omega,A6,rfl,hK,p8.af hD⟩;have FX:=hid h0;clear h0 h4 p8 hK;gi_wp2
    refine⟨⟨v+1,_,_,_,_,_,_,_,_,_,_,_,_,_,rfl,by omega,FX,FH⟩,?_⟩;simp[intOf];omega
  ·obtain rfl:v=n:=by omega
   have kc:=mH.o.2.1.cell;have HLq:=hid (vT.o w1.heap.size wr mH.o.1);have cZ:w1.heap.size+1<wr.heap.size:=mH.o.2.1.lt;gi_wp2_with (refine⟨trivial,?_⟩;gi_at_call 146;refine(gZ.2 HLq.o).af ?_;rintro e w5 ⟨G5,rfl,hG5,Uk,hb5⟩)
   have qP:Below w.heap.size w w5:=(eR.o.trans (mH.o.2.2.af eR.o.size)).trans (hb5.af (aS eR.o.size (uH (Nat.lt_trans (Ja _) cZ))));refine Ez (lo:=w1.heap.size+2) (K:=fun W=>fh W (some ⟨G5,0,none⟩) ((nk P v v).map gN)/\Below w.heap.size w W) ?_ ?_ _ wr.heap.size w5 (nT.o.aa hb5) ⟨Uk,qP⟩
   ·rintro W r ⟨hL,hB⟩ hr hd;exact⟨hL.putObj hd rfl,hB.trans (tA (w:=w) (ar _) W r _ _ (by have:=eR.o.size;omega) hd rfl rfl)⟩
   ·rintro Z ⟨hL,hB⟩;refine⟨_,results_tmp2 rfl _ _ _,?_,hB⟩;rw[HMR.o];exact .inr ⟨IP.o,G5,rfl,hL⟩
end
theorem Sk {P:List (List Nat)} (h:nj P (aY P k)=some v):¬v∈aY P k/\∀u∈P.getD v [],u∈aY P k:=by
 have:=List.find?_some h;rw[gJ,ia,Ag,QB,ei] at this;exact this
theorem Sj (P:List (List Nat)):∀k,(aY P k).Nodup
 |0=>List.nodup_nil
 |k+1=>by
  rw[aY];cases e:nj P (aY P k) with
  |none=>exact Sj P k
  |some v=>
   refine Gq.2 ⟨Sj P k,by simp,fun a ha b hb=>?_⟩;rw[fX.1 hb];exact fun e'=>(Sk e).1 (e'▸ha)
theorem Si {P:List (List Nat)}:∀k,v∈aY P k ->∃A B,aY P k=A++v::B/\¬v∈A/\∀u∈P.getD v [],u∈A
 |0,h=>by cases h
 |k+1,h=>by
  rw[aY] at h⊢;cases e:nj P (aY P k) with
  |none=>
   rw[e] at h;exact Si k h
  |some w=>
   rw[e] at h;show ∃A B,aY P k++[w]=A++v::B/\_;rcases dz.1 h with h |h
   ·obtain⟨A,B,h1,h2,h3⟩:=Si k h;exact⟨A,B++[w],by rw[h1];simp,h2,h3⟩
   ·obtain rfl:=fX.1 h;exact⟨aY P k,[],rfl,(Sk e).1,(Sk e).2⟩
def wD (P:List (List Nat)) (v:Nat):Nat:=(aY P P.length).idxOf v
theorem afA {P:List (List Nat)} {u:Nat} (hv:v∈aY P P.length) (hu:u∈P.getD v []):wD P u<wD P v:=by
 obtain⟨A,B,h1,h2,h3⟩:=Si P.length hv;have hA:=h3 u hu;rw[wD,wD,h1,List.idxOf_append,List.idxOf_append,ay hA,az h2,List.idxOf_cons_self,bT];exact List.idxOf_lt_length_of_mem hA
theorem OY (h:bE L=0):gB L=true/\∀v,v<L.length ->v∈aY (aI L) (aI L).length:=by
 have hg:=ud h;refine⟨hg,fun v hv=>?_⟩;rw[bE,ay hg] at h;have hl:¬(aY (aI L) L.length).length<L.length:=fun hc=>by rw[ay hc] at h;cases h
 rw[lp];refine Gz fun hno=>?_
 have:=NW (l:=v::aY (aI L) L.length) (m:=List.range L.length) (pP.2 ⟨hno,Sj _ _⟩) fun x hx=>by
  rcases dK.1 hx with rfl |hx
  ·exact bG.2 hv
  ·have:=Ep (aI L) L.length x hx;rw[lp] at this;exact bG.2 this
 rw[eU,lY] at this;omega
theorem ZB (hg:gB L=true) {u:Nat} (h:u∈(aI L).getD v []):u<L.length/\v<L.length:=by
 have hv:v<L.length:=by
  rcases cD v L.length with h1 |h1
  ·exact h1
  ·rw[List.getD_eq_getElem?_getD,iF (by rw[lp];exact h1)] at h;cases h
 refine⟨?_,hv⟩;rw[List.getD_eq_getElem?_getD,List.getElem?_eq_getElem (by rw[lp];exact hv)] at h;exact JP hg _ (bH _) u h
theorem Rz (h:bE L=0) {u:Nat} (hu:u∈(aI L).getD v []):wD (aI L) u<wD (aI L) v:=
 afA ((OY h).2 v (ZB (OY h).1 hu).2) hu
theorem afz (h:bE L=0) (hv:v<L.length):wD (aI L) v<L.length:=by
 have h1:=List.idxOf_lt_length_of_mem ((OY h).2 v hv);have h2:=Ct (aI L) (aI L).length;rw[lp] at h2;rw[wD];rw[lp] at h1⊢;omega
theorem amS (h:bE L=0) {u:Nat} (ha:BZ (fun u v=>u∈(aI L).getD v []) u v):wD (aI L) u<wD (aI L) v:=by
 induction ha using BZ.ind with
 |one hp=>exact Rz h hp
 |more _ hp ih=>exact Nat.lt_trans ih (Rz h hp)
theorem Vw {P:List (List Nat)} {u:Nat}:∀ {r:Nat} (d:Nat),u∈gV P s r ->u∈gV P s (r+d)
 |_,0,h=>h
 |r,d+1,h=>by
  show u∈oP P (gV P s (r+d)) 8;exact QM _ (Vw d h)
theorem amW (h:bE L=0) (h8:L.length<=8):∀m j v,wD (aI L) v<=m ->v<L.length ->v∈gV (aI L) s j ->∀a,BZ (fun u v=>u∈(aI L).getD v []) a v ->a∈gV (aI L) s (j+m):=fun m=>by
 induction m with
 |zero=>
  intro j v hm _ _ a ha;have:=amS h ha;omega
 |succ m ih=>
  intro j v hm hv hs a ha;have one:∀w,w∈(aI L).getD v [] ->w∈gV (aI L) s (j+1):=fun w hw=>List.mem_append_right _ (List.mem_flatMap.2 ⟨v,He.2 ⟨by omega,hs⟩,hw⟩);rcases BZ.last ha with hp |⟨w,h1,hp⟩
  ·rw[show j+(m+1)=(j+1)+m by omega];exact Vw m (one a hp)
  ·have:=Rz h hp;rw[show j+(m+1)=(j+1)+m by omega];exact ih (j+1) w (by omega) (ZB (OY h).1 hp).1 (one w hp) a h1
theorem ac4 (h:bE L=0) (h8:L.length<=8) (hs:∀v∈s,v<L.length) (a:Nat):a∈gV (aI L) s L.length↔∃b∈s,a=b∨BZ (fun u v=>u∈(aI L).getD v []) a b:=by
 constructor
 ·have:∀r a,a∈gV (aI L) s r ->∃b∈s,a=b∨BZ (fun u v=>u∈(aI L).getD v []) a b:=fun r=>by
   induction r with
   |zero=>exact fun a ha=>⟨a,ha,.inl rfl⟩
   |succ r ih=>
    intro a ha;rcases dz.1 ha with ha |ha
    ·exact ih a ha
    ·obtain⟨v,hv,hp⟩:=List.mem_flatMap.1 ha;obtain⟨b,hb,h1⟩:=ih v (He.1 hv).2;refine⟨b,hb,.inr ?_⟩;rcases h1 with rfl |h1
     ·exact .one hp
     ·clear hb;induction h1 using BZ.ind with
      |one h2=>exact .more (.one hp) h2
      |more _ h2 S1=>exact .more S1 h2
  exact this _ a
 ·rintro⟨b,hb,rfl |ha⟩
  ·have:=Vw (P:=aI L) (s:=s) (r:=0) L.length hb;rwa [bT] at this
  ·have h1:=afz h (hs b hb);have:=amW h h8 L.length 0 b (by omega) (hs b hb) hb a ha;rwa [bT] at this
def SD (P:List (List Nat)) (n v u:Nat):Bool:=(decide (u∈P.getD v []) ||decide (v∈P.getD u [])) ||(List.range n).any fun w=>decide (u∈P.getD w [])&&decide (v∈P.getD w [])
theorem JX {P:List (List Nat)} {u x:Nat}:∀ {n:Nat},x∈iY P u n↔x≠u/\∃v,v<n/\u∈iP P v/\x∈iP P v
 |0=>by simp[iY]
 |n+1=>by
  have ih:=JX (P:=P) (u:=u) (x:=x) (n:=n);rw[iY];by_cases h:u∈iP P n
  ·rw[ay h,dz,ih,c4,ei];constructor
   ·rintro(⟨a,v,b,c⟩ |⟨a,b⟩)
    ·exact⟨a,v,by omega,c⟩
    ·exact⟨b,n,by omega,h,a⟩
   ·rintro⟨a,v,b,c,d⟩;rcases cD v n with h1 |h1
    ·exact .inl ⟨a,v,h1,c,d⟩
    ·rw[show v=n by omega] at d;exact .inr ⟨d,a⟩
  ·rw[az h,ih];refine and_congr_right fun _=>⟨fun ⟨v,a,b⟩=>⟨v,by omega,b⟩,fun ⟨v,a,b,c⟩=>⟨v,?_,b,c⟩⟩;rcases cD v n with h1 |h1
   ·exact h1
   ·rw[show v=n by omega] at b;exact absurd b h
theorem aif {P:List (List Nat)} {u:Nat} (hu:u<n) (hv:v<n):u∈iY P v n↔(SD P n v u&&decide (u≠v))=true:=by
 rw[JX,ia,ei,SD,Bool.or_eq_true,Bool.or_eq_true,ei,ei,rX];constructor
 ·rintro⟨hne,w,hw,h1,h2⟩;refine⟨?_,hne⟩;rcases dK.1 h1 with rfl |h1
  ·rcases dK.1 h2 with rfl |h2
   ·exact absurd rfl hne
   ·exact .inl (.inl h2)
  ·rcases dK.1 h2 with rfl |h2
   ·exact .inl (.inr h1)
   ·exact .inr ⟨w,bG.2 hw,by rw[cJ h2,cJ h1];rfl⟩
 ·rintro⟨(h1 |h1) |⟨w,hw,h1⟩,hne⟩
  ·exact⟨hne,v,hv,dJ,eE _ h1⟩
  ·exact⟨hne,u,hu,eE _ h1,dJ⟩
  ·rw[ia,ei,ei] at h1;exact⟨hne,w,bG.1 hw,eE _ h1.2,eE _ h1.1⟩
def mrR (P:List (List Nat)) (n v u:Nat):List Nat:=(List.range u).filter fun u=>SD P n v u&&decide (u≠v)
theorem aie {P:List (List Nat)} (hP:∀v,∀u∈P.getD v [],u<n/\v<n) (h8:n<=8) (hv:v<n):iL (mrR P n v n)=gN (iY P v n):=by
 have hlt:∀x,x∈iY P v n ->x<n:=fun x hx=>by
  obtain⟨_,w,hw,_,h2⟩:=JX.1 hx;rcases dK.1 h2 with rfl |h2
  ·exact hw
  ·exact(hP _ _ h2).1
 have e:∀d,fM (iY P v n) (n+d)=fM (iY P v n) n:=fun d=>by
  induction d with
  |zero=>rfl
  |succ d ih=>
   rw[show n+(d+1)=(n+d)+1 by omega,N3,ih];intro hm;have:=hlt _ hm;omega
 have e8:=e (8 - n);rw[show n+(8 - n)=8 by omega] at e8;rw[gN,e8,mrR,fM];congr 1
 refine List.filter_congr fun u hu=>ry.2 ?_;rw[<- aif (bG.1 hu) hv,ei]
theorem afD (p:Nat ->Bool) (n:Nat):dD (iL ((List.range n).filter p)) n=true:=by
 have hs:((List.range n).filter p).Pairwise (·<·):=List.Pairwise.filter _ List.pairwise_lt_range;refine eJ.2 fun i hi=>?_;have hi':i<((List.range n).filter p).length:=by rw[bG,ba] at hi;exact hi
 have hg:∀j (hj:j<((List.range n).filter p).length),(iL ((List.range n).filter p)).getD j 0=(((List.range n).filter p)[j]:Int):=fun j hj=>by
  rw[List.getD_eq_getElem?_getD,iL,oh,List.getElem?_eq_getElem hj];rfl
 refine cJ ⟨?_,?_,fun h0=>?_⟩
 ·rw[hg i hi'];omega
 ·rw[hg i hi'];have:=bG.1 (c4.1 (bH hi')).1;omega
 ·rw[hg i hi',hg (i - 1) (by omega)];have:=(Cg.1 hs) (i - 1) i (by omega) hi' (by omega);omega
def np (L:List (List Int)):List (List Int):=(nk (aI L) L.length L.length).map gN
theorem AA (L:List (List Int)):(np L).length=L.length:=by simp[np,nk]
theorem aip (hv:v<L.length):(aI (np L)).getD v []=fM (iY (aI L) v L.length) 8:=by
 rw[List.getD_eq_getElem?_getD,aI,oh,np,oh,nk,oh,QP hv];show ag (gN _)=_;rw[gN,ew]
theorem SE (hg:gB L=true):∀v,∀u∈(aI L).getD v [],u<L.length/\v<L.length:=fun v u hu=>by
 refine⟨(Hc hg).at v u hu,?_⟩;by_cases h:v<L.length
 ·exact h
 ·rw[List.getD_eq_getElem?_getD,iF (by rw[lp];omega)] at hu;cases hu
theorem N1 {u:Nat} (h8:L.length<=8) (hv:v<L.length) (hu:u<L.length):u∈(aI (np L)).getD v []↔u≠v/\∃x,x<L.length/\v∈iP (aI L) x/\u∈iP (aI L) x:=by
 rw[aip hv,He,JX];exact⟨fun h=>h.2,fun h=>⟨by omega,h⟩⟩
theorem aar (hg:gB L=true) (h1:1<=L.length) (h8:L.length<=8):gB (np L)=true:=by
 refine abU (by rw[AA];exact h1) (by rw[AA];exact h8) fun i hi=>?_;have hi':i<L.length:=by rwa [AA] at hi
 have e:(np L)[i]=gN (iY (aI L) i L.length):=by simp[np,nk]
 rw[e,AA];refine⟨?_,?_⟩
 ·rw[<- aie (SE hg) h8 hi'];exact afD _ _
 ·rw[gN,ew,He,JX];exact fun h=>h.2.1 rfl
theorem aio (hg:gB L=true) (h1:1<=L.length) (h8:L.length<=8):tG (np L)=true:=by
 refine(ahL (aar hg h1 h8)).2 fun v u hv hu=>?_;rw[AA] at hv hu;rw[zP,N1 h8 hv hu,N1 h8 hu hv];exact⟨fun ⟨h,x,a,b,c⟩=>⟨fun e=>h e.symm,x,a,c,b⟩,fun ⟨h,x,a,b,c⟩=>⟨fun e=>h e.symm,x,a,c,b⟩⟩
def ir (L:List (List Int)):List Nat:=(bz (aI (np L)) (np L).length (np L).length).ord
theorem ZT (hg:gB L=true) (h1:1<=L.length) (h8:L.length<=8):ada L.length (kE (aI (np L)) L.length) (nrO (aI (np L)) L.length):=by
 have hN:sP L.length (aI (np L)):=by have:=Hc (aar hg h1 h8);rwa [AA] at this
 refine akW hN (fun u hu w hw=>?_) h8;have hw':=hN.at u w hw;rw[N1 h8 hu hw'] at hw;rw[N1 h8 hw' hu];obtain⟨h,x,a,b,c⟩:=hw;exact⟨fun e=>h e.symm,x,a,c,b⟩
theorem NS (L:List (List Int)):ir L=(List.range L.length).map (kE (aI (np L)) L.length):=by rw[ir,AA,ab4]
theorem Sm (hg:gB L=true) (h1:1<=L.length) (h8:L.length<=8):(ir L).Nodup:=by
 rw[NS,List.Nodup,Gp];refine List.Pairwise.imp_of_mem (fun {i j} hi hj hne e=>?_) (pO (n:=L.length));exact hne ((ZT hg h1 h8).inj i j (bG.1 hi) (bG.1 hj) e)
theorem Sn (hg:gB L=true) (h1:1<=L.length) (h8:L.length<=8) (hv:v<L.length):v∈ir L:=by
 obtain⟨i,hi,e⟩:=(ZT hg h1 h8).all v hv;rw[NS];exact bs.2 ⟨i,bG.2 hi,e⟩
theorem GK.grown {V:World} (h:GK w V x y z) (hg:V.grownBy V' (some g)) (hb:w.heap.size+2<=g):GK w V' x y z:=
 have hB:Below (w.heap.size+2) V V':=(au _ V).grown hg (by have:=h.2.lt;omega) (fun k e=>by cases e;exact hb);⟨h.1.grow (hB.af (by omega)),h.2.aa hB (by omega)⟩
theorem ah1 (a b c:Option Addr) (ca cb cc v:Nat) (V:List Vr) (L:List (List Int)) (R:List (List Fr)) (w:World) (h:gP w a b c V L R) (hN:vK w b L) (hs:sQ V L R) (hw:∀l∈R,fw l<=4200) (h0:aW V L R=0) (hv:v<V.length) (vC:∀U:World,gP U a b c V L R ->Calls Tryz.prog 75 #[.agg #[.slice a V.length ca,.slice b L.length cb,.slice c R.length cc]] U fun e w'=>e=.returned (.int .i64 (aW V L R))/\Below U.heap.size U w'):
  Calls Tryz.prog 95 #[.agg #[.slice a V.length ca,.slice b L.length cb,.slice c R.length cc],.int .i64 (v:Nat)] w fun e w'=>uh w.heap.size (gU L v) (gL V L R v) 0 e w'/\Below w.heap.size w w':=by
 have aM:=gD h0;have CX:=hs.vars.1;have hn8:=aM.n8;have dG:v<L.length:=by rw[aM.len];exact hv
 have kn:v<R.length:=by rw[aM.lenR];exact hv
 have mj:=aM.up v dG;have hno:=aag h0 dG;have Wi:=hid vC;rw[h0] at Wi;have VX:Hid ((([(v:Int)]++L[v]).mergeSort fun x y=>decide (x<=y))=gU L v):=Yu dG mj hno;have WA:Hid (([(v:Int)]++L[v]).length=(gU L v).length):=by show _=_;rw[<- VX.o,MP]
 have hUe:gU L v=ki L[v] [(v:Int)]:=by rw[gU,List.getD_eq_getElem?_getD,List.getElem?_eq_getElem dG];rfl
 have oU:Hid (Up (gU L v) V.length):=by rw[hUe];exact GI mj (Q7 hv)
 have ang:Hid (0<(gU L v).length):=by show _<_;rw[<- WA.o];simp
 have aJ:=aM.fine;have eM:∀u,sz (ah V) u<=4:=fun u=>by have:=aJ.sz_le u;rwa [ew] at this
 have df:Pos (ah V):=by have:=aJ.pos;rwa [ew] at this
 have hsm:cnt (ah V) (ag (gU L v))<=65536:=pw eM (by rw[cS];have:=oU.o.length;omega);have kz:Hid ((gL V L R v).length=cnt (ah V) (ag (gU L v))):=by show _=_;simp[gL]
 have hRL:R[v].length=(gL V L R v).length:=by rw[kz.o,alE _ dG mj hno];exact aM.rows v dG kn
 have BQ:Hid (∀k (h:k<(gL V L R v).length),(gL V L R v)[k]=qF (aT (dF V L R (aO (ah V) (ag (gU L v)) k) v))):=fun k h=>by simp[gL]
 have vT:Hid (∀K,K<cnt (ah V) (ag (gU L v)) ->(dF V L R (aO (ah V) (ag (gU L v)) K) v).2.1.size+(dF V L R (aO (ah V) (ag (gU L v)) K) v).2.2.size<=4200):=fun K hK=>SS aM (fun u=>nN df _ K u hK) hw hv
 have ky:Hid (∀(K:Nat) (U:World) (G:Nat),K<cnt (ah V) (ag (gU L v)) ->gP U a b c V L R ->bV U G (pZ V.length (aO (ah V) (ag (gU L v)) K)) ->Calls Tryz.prog 151 #[.agg #[.slice a V.length ca,.slice b L.length cb,.slice c R.length cc],.int .i64 (v:Nat),.slice (some ⟨G,0,none⟩) V.length V.length] U fun e w'=>e=.returned (dP (dF V L R (aO (ah V) (ag (gU L v)) K) v))/\Below U.heap.size U w'):=fun K U G hK h1 h2=>by
  rw[JZ dG kn];have:=aiB a b c (some ⟨G,0,none⟩) ca cb cc V.length v V L R (pZ V.length (aO (ah V) (ag (gU L v)) K)) U h1 h2.ints (Em _ _) hn8 hv dG kn aJ mj (aM.rows v dG kn) (aO (ah V) (ag (gU L v)) K) (fun u=>nN df _ K u hK) (fun u hu=>Ru hu);rwa [Em] at this
 have bJ:(iL (ah V)).length=V.length:=by rw[ba,gR]
 have uo:Hid (∀(U:World) (G D cd K:Nat),K<cnt (ah V) (ag (gU L v)) ->bV U G (ah V) ->ax U (some ⟨D,0,none⟩) (gU L v) ->Calls Tryz.prog 150 #[.slice (some ⟨G,0,none⟩) V.length V.length,.slice (some ⟨D,0,none⟩) (gU L v).length cd,.int .i64 (K:Nat)] U fun e w'=>∃(g:Nat) (cc:Nat),e=.returned (.tuple #[.slice (some ⟨g,0,none⟩) (gU L v).length cc,.int .i64 0])/\U.heap.size<=g/\bV w' g (bM (ah V) (ag (gU L v)) K)/\Below U.heap.size U w'):=fun U G D cd K hK h1 h2=>by
  have:=aer (some ⟨G,0,none⟩) (some ⟨D,0,none⟩) V.length cd K (iL (ah V)) (gU L v) U h1.ints h2 aJ (by rw[bJ];exact oU.o) (by rw[ew];exact hK);rwa [bJ,ew] at this
 have WN:Hid (∀K i (hi:i<(ag (gU L v)).length),(bM (ah V) (ag (gU L v)) K)[i]? =some (aO (ah V) (ag (gU L v)) K (ag (gU L v))[i])):=fun K i hi=>Ic oU.o.nodup hi;have HAO:Hid (∀K u,¬u∈ag (gU L v) ->aO (ah V) (ag (gU L v)) K u=0):=fun K u hu=>Bg hu;have fT:=hid (fun (U:World) (hU:sO U a V)=>NX a b c ca cb cc L.length R.length V U hU CX);have Qi:=hid (h.pars v dG);have hpl:=hs.pars.2 L[v] (bH dG);replace hpl:L[v].length<=50000:=by omega
 have uy:=hid (hN v dG);obtain⟨gr,dt,br,cr,rfl,hgr,r1, -, -⟩:=h.rows v kn;rw[hRL] at r1;have ur:=hid r1;have HI:=hid h;generalize gL V L R v=FL at *;generalize gU L v=U at *;obtain⟨gp,dE,bl,cl,rfl,gj,p1,eN⟩:=Qi.o;have IJ:=hid (uy.o gp dE bl _ cl rfl p1);have lS:=hid p1;have q8:=hid eN;generalize ajj:L[v]=pl at *;clear h hs hw h0 aM mj hUe aJ eM df bJ Qi p1 eN ajj hno hN uy hRL r1 vC;have bY:=hid (GK.new w (.slice a V.length ca) (.slice (some ⟨gp,dE,none⟩) L.length cb) (.slice (some ⟨gr,dt,none⟩) R.length cc));obtain⟨c0,c1,c2⟩:=bY.o.1.1.cells;go_enter Tryz.func95,Tryz.ntmps95;go_wp2_with fail
 generalize ((w.alloc (NC (.slice a V.length ca) (.slice (some ⟨gp,dE,none⟩) L.length cb) (.slice (some ⟨gr,dt,none⟩) R.length cc))).alloc (TC (.slice none 0 0) (.slice none 0 0)))=w1 at *;refine(Wi.o _ (HI.o.aa bY.o.1.2)).af ?_;rintro e W ⟨rfl,hb⟩;have hG:=bY.o.step hb;clear hb bY c0 c1 c2 Wi;obtain⟨c0,c1,c2⟩:=hG.1.1.cells;have hv0:(0:Int)<=(v:Int):=by omega
 have ny:(v:Int)<(V.length:Int):=by omega
 have WB:=hid hG;clear hG;go_upto_region 6 with fail
 clear c0 c1 c2;have pj:decide (V.length<=v)=false:=by simp;exact hv
 have i7:decide ((v:Int)<0)=false:=by simp
 simp only[pj,i7,Bool.or_false];go_cut [7,8] from 32 to 42 (fun s t wx=>∃G D cd,s=.slice (some ⟨G,0,none⟩) V.length V.length/\t=.slice (some ⟨D,0,none⟩) U.length cd/\w.heap.size+2<=G/\w.heap.size+2<=D/\bV wx G (ah V)/\ax wx (some ⟨D,0,none⟩) U/\GK w wx (.slice a V.length ca) (.slice (some ⟨gp,dE,none⟩) L.length cb) (.slice (some ⟨gr,dt,none⟩) R.length cc))
 case first=>
  have hG:=WB.o;clear WB;replace hG:GK w W.drew (.slice a V.length ca) (.slice (some ⟨gp,dE,none⟩) L.length cb) (.slice (some ⟨gr,dt,none⟩) R.length cc):=⟨⟨hG.1.1,hG.1.2.drew⟩,hG.2⟩;refine jJ (S:=fun u=>u.cell? ⟨w.heap.size,0,none⟩=some (.slice a V.length ca)/\u.cell? ⟨w.heap.size,1,none⟩=some (.slice (some ⟨gp,dE,none⟩) L.length cb)/\u.cell? ⟨w.heap.size,2,none⟩=some (.slice (some ⟨gr,dt,none⟩) R.length cc)/\u.cell? ⟨gp,dE+v,none⟩=some (.slice bl pl.length cl)) (by kernel_rfl) ⟨hG.1.1.cells.1,hG.1.1.cells.2.1,hG.1.1.cells.2.2,(hG.1.2.cell (p:=⟨gp,dE+v,none⟩) gj).trans lS.o⟩ (fun aq=>?_);generalize W.drew=u0 at *;refine aw 0 (.agg #[.slice a V.length ca,.slice (some ⟨gp,dE,none⟩) L.length cb,.slice (some ⟨gr,dt,none⟩) R.length cc]) ?_;refine aw 2 (.int .i64 (v:Nat)) ?_;refine aw 4 (.pointer (some ⟨w.heap.size,1,none⟩)) ?_;refine aw 5 (.slice (some ⟨gp,dE,none⟩) L.length cb) ?_;refine aw 6 (.int .i64 (v:Nat)) ?_;refine aw 7 (.pointer (some ⟨gp,dE+v,none⟩)) ?_;refine aw 8 (.slice bl pl.length cl) ?_;refine aF [1,3] (cA ?_ (cA ?_ aD))
  focus
   intro K' hK';go_simp;refine(fT.o _ (HI.o.aa hG.1.2).vars).af ?_;rintro e uS ⟨G,rfl,KU,hrow,hb⟩;(have xp:w.heap.size+2<=G:=by have:=hG.2.lt;omega);replace hG:=hG.step hb;refine hK'.o _ _ ⟨hG.1.1.cells.1,hG.1.1.cells.2.1,hG.1.1.cells.2.2,(hG.1.2.cell (p:=⟨gp,dE+v,none⟩) gj).trans lS.o⟩ (fun ak=>?_);clear hb KU;clear hK' K' aq;have aq:=ak;clear ak;refine aF [3] (cA ?_ aD);intro K' hK';go_simp;have hown:(uS.alloc (.cells #[.int .i64 (v:Int)] 3)).heap[uS.heap.size]? =some (.cells #[.int .i64 (v:Int)] 3 (0,0)):=kd uS _;have ajW:G<uS.heap.size:=hrow.lt;replace hrow:=hrow.alloc (.cells #[.int .i64 (v:Int)] 3);(have ajC:w.heap.size+2<=uS.heap.size:=by have:=hG.2.lt;omega);replace hG:=hG.step ((au _ uS).alloc (ar _) (.cells #[.int .i64 (v:Int)] 3));refine hK'.o _ _ ⟨hG.1.1.cells.1,hG.1.1.cells.2.1,hG.1.1.cells.2.2,(hG.1.2.cell (p:=⟨gp,dE+v,none⟩) gj).trans lS.o⟩ (fun ak=>?_);generalize (uS.alloc (.cells #[.int .i64 (v:Int)] 3))=u2 at *;generalize uS.heap.size=gb at *
  rotate_left
  focus
   intro K' hK';go_simp;have hown:(u0.alloc (.cells #[.int .i64 (v:Int)] 3)).heap[u0.heap.size]? =some (.cells #[.int .i64 (v:Int)] 3 (0,0)):=kd u0 _;(have ajC:w.heap.size+2<=u0.heap.size:=by have:=hG.2.lt;omega);(have ajB:u0.heap.size<(u0.alloc (.cells #[.int .i64 (v:Int)] 3)).heap.size:=by simp);replace hG:=hG.step ((au _ u0).alloc (ar _) (.cells #[.int .i64 (v:Int)] 3));refine hK'.o _ _ ⟨hG.1.1.cells.1,hG.1.1.cells.2.1,hG.1.1.cells.2.2,(hG.1.2.cell (p:=⟨gp,dE+v,none⟩) gj).trans lS.o⟩ (fun ak=>?_);generalize (u0.alloc (.cells #[.int .i64 (v:Int)] 3))=u2 at *;generalize u0.heap.size=gb at *;clear hK' K' aq;have aq:=ak;clear ak;refine aF [1] (cA ?_ aD);intro K' hK';go_simp;refine(fT.o _ (HI.o.aa hG.1.2).vars).af ?_;rintro e uS ⟨G,rfl,KU,hrow,hb⟩;(have xp:w.heap.size+2<=G:=by have:=hG.2.lt;omega);(have ajW:gb<G:=by omega);replace hG:=hG.step hb;replace hown:=(hb.block gb ajB).trans hown;refine hK'.o _ _ ⟨hG.1.1.cells.1,hG.1.1.cells.2.1,hG.1.1.cells.2.2,(hG.1.2.cell (p:=⟨gp,dE+v,none⟩) gj).trans lS.o⟩ (fun ak=>?_);clear hb KU
  all_goals
   clear hK' K' aq;have aq:=ak;clear ak;refine aF [9] (cA ?_ aD);intro K' hK';rw[ay (by rfl)];refine adK _ _ rfl gb (v:Int) pl rfl hown bl cl rfl (q8.o.aa hG.1.2) IJ.o (by omega) ?_;intro D cap u3 hD hDl hHo hgr;have KV:GK w u3 (.slice a V.length ca) (.slice (some ⟨gp,dE,none⟩) L.length cb) (.slice (some ⟨gr,dt,none⟩) R.length cc):=hG.grown hgr (by omega);have Tl:bV u3 G (ah V):=(hgr.block G hrow.lt (fun e=>by cases e;omega)).trans hrow;(have hD2:w.heap.size+2<=D:=by have:=hG.2.lt;omega);(have hDG:D≠G:=by have:=hrow.lt;omega);clear hG hrow hown hgr hD;have hG:=KV;clear KV;refine hK'.o _ _ ⟨hG.1.1.cells.1,hG.1.1.cells.2.1,hG.1.1.cells.2.2,(hG.1.2.cell (p:=⟨gp,dE+v,none⟩) gj).trans lS.o⟩ (fun ak=>?_);clear hK' K' aq;have aq:=ak;clear ak;refine aF [10] (cA ?_ aD);intro K' hK';go_simp;refine(afB D cap ([(v:Int)]++pl) u3 hHo hDl (by simp;omega)).af ?_;rintro e u4 ⟨rfl,hint,hgr⟩;rw[VX.o] at hint;have KV:GK w u4 (.slice a V.length ca) (.slice (some ⟨gp,dE,none⟩) L.length cb) (.slice (some ⟨gr,dt,none⟩) R.length cc):=hG.grown hgr (by omega);have ajg:bV u4 G (ah V):=(hgr.block G Tl.lt (fun e=>hDG (lV e).symm)).trans Tl;clear hG Tl hgr hHo;have hG:=KV;clear KV;refine hK'.o _ _ ⟨hG.1.1.cells.1,hG.1.1.cells.2.1,hG.1.1.cells.2.2,(hG.1.2.cell (p:=⟨gp,dE+v,none⟩) gj).trans lS.o⟩ (fun ak=>?_);clear hK' K' aq;have aq:=ak;clear ak;refine aw 11 (.slice (some ⟨G,0,none⟩) V.length V.length) ?_;refine aw 12 (.slice (some ⟨D,0,none⟩) ([(v:Int)]++pl).length cap) ?_;(try simp only[gE,aP])
   refine dW (by kernel_rfl) ?_ _;clear aq;go_wp2_with fail
   go_meet
   rw[WA.o];exact⟨G,D,cap,rfl,rfl,xp,hD2,ajg,hint,hG⟩
 case rest=>
 obtain⟨G,D,cd,rfl,rfl,oG,oD,Oj,EK,hG⟩:=hcut;clear pj i7 VX WA q8 lS IJ fT WB;have hwc:=hG.2.lt;obtain⟨c0,c1,c2⟩:=hG.1.1.cells;have r2:=(hG.1.2.cell (p:=⟨gr,dt+v,none⟩) hgr).trans ur.o;have an0:(v:Int)<(R.length:Int):=by omega
 obtain⟨i1,jQ,oA,hy1,hy2⟩:=eT Tryz.infoFrac;obtain⟨i0,cU,hz0,hz1,hz2⟩:=eT Tryz.infoInt;have hFs:FL.length<=65536:=by rw[kz.o];exact hsm
 have HG:=hid hG;clear hG
 go_wp2_with (first
  |(at_make;refine mL _ rfl _ _ 37 rfl wc.heap.size 32 i1 (.agg #[.bool false,.string ⟨#[]⟩,.string ⟨#[]⟩]) 3 Tryz.underlying37 jQ oA hy1 .i64 .i64 _ _ FL.length rfl rfl (by go_num) (by go_num) (by rw[hy2];omega) (by unfold maxLen;omega) (ar _) ?_;intro w3 aa8 abo;have bU:Below wc.heap.size wc w3:=(au _ wc).grown abo (ar _) (fun k e=>by cases e);have OO:=HG.o.step bU;clear c0 c1 c2 r2;obtain⟨c0,c1,c2⟩:=OO.1.1.cells)
  |(at_make;refine mL _ rfl _ _ 27 rfl w3.heap.size 3 i0 (.int .i64 0) 1 Tryz.underlying27 cU hz0 hz1 .i64 .i64 _ _ V.length rfl rfl (by go_num) (by go_num) (by rw[hz2];omega) (by unfold maxLen;omega) (ar _) ?_;intro w4 p9 EX))
 have hr3:=acN aa8;rw[aax] at hr3;have hr4:=pC p9;rw[AB] at hr4;have dY:Below w3.heap.size w3 w4:=(au _ w3).grown EX (ar _) (fun k e=>by cases e);have lH:jY w3 wc.heap.size (List.replicate FL.length y8):=hr3;have vw:bV w4 w3.heap.size (List.replicate V.length 0):=hr4;have hlt3:=lH.lt;have Uw:=bU.trans (dY.af bU.size)
 have e0:List.replicate V.length 0=pZ V.length (fun _=>0):=by
  apply pS<;>simp[pZ]
 rw[e0] at vw;have abL:=Oj.lt
 have hDlt:D<wc.heap.size:=by
  obtain⟨g',o',e,h2,_⟩:=EK 0 (by have:=ang.o;omega);cases e;exact h2
 have HV0:Hid (GV w (.slice a V.length ca) (.slice (some ⟨gp,dE,none⟩) L.length cb) (.slice (some ⟨gr,dt,none⟩) R.length cc) G D wc.heap.size w3.heap.size (ah V) U w4 (List.replicate FL.length y8) (pZ V.length (fun _=>0))):=⟨OO.step dY,Oj.aa Uw Oj.lt,EK.aa Uw,lH.aa dY lH.lt,vw,oG,oD,abL,hDlt,hlt3⟩;clear aa8 abo p9 EX hr3 hr4 bU dY lH vw hlt3 Uw e0 abL hDlt Oj EK OO HG c0 c1 c2 oG oD hwc;generalize wc.heap.size=C at *;generalize w3.heap.size=Ab at *;go_wp2_with fail
 go_loopw [56] (fun iv wr=>∃(i:Nat) (A:Nat ->Nat),i<=FL.length/\iv=.int .i64 i/\Hid (∀u,¬u∈ag U ->A u=0)/\Hid (GV w (.slice a V.length ca) (.slice (some ⟨gp,dE,none⟩) L.length cb) (.slice (some ⟨gr,dt,none⟩) R.length cc) G D C Ab (ah V) U wr (rA FL i) (pZ V.length A))) (fun iv _=>FL.length - (intOf iv).toNat)
 case atStart=>exact⟨0,fun _=>0,aU _,rfl,fun _ _=>rfl,by rw[Zx];exact HV0⟩
 case round=>
  obtain⟨i,A,hi,rfl,tq,HX⟩:=hrel;clear HV0;by_cases hlt:i<FL.length
  ·have TD:i<cnt (ah V) (ag U):=by rw[<- kz.o];exact hlt
   go_wp2_with fail
   refine(uo.o _ G D cd i TD HX.o.szs HX.o.us).af ?_;rintro e u1 ⟨g5,vH,rfl,ajA,Kq,hb5⟩;have aj2:=HX.o.vs.lt;(have h5A:g5≠Ab:=by omega);have HX1:=hid (HX.o.step hb5);have F3:=hid Kq;clear Kq hb5 HX ajA aj2;go_wp2_with fail
   go_loopw [68] (fun jv wr=>∃j:Nat,j<=U.length/\jv=.int .i64 j/\Hid (GV w (.slice a V.length ca) (.slice (some ⟨gp,dE,none⟩) L.length cb) (.slice (some ⟨gr,dt,none⟩) R.length cc) G D C Ab (ah V) U wr (rA FL i) (pZ V.length (yJ A (aO (ah V) (ag U) i) (ag U) j)))/\Hid (bV wr g5 (bM (ah V) (ag U) i))) (fun jv _=>U.length - (intOf jv).toNat)
   case atStart=>exact⟨0,aU _,rfl,by rw[ait];exact HX1,F3⟩
   case round=>
    obtain⟨j,hj,rfl,HX,Qn⟩:=hrel;clear HX1 F3;have OI:=oU.o.length;by_cases oH:j<U.length
    ·obtain⟨gO,gH⟩:=oU.o.nat oH;(have hjN:j<(ag U).length:=by rw[cS];exact oH);have HMS:=hid (aiu A (aO (ah V) (ag U) i) V.length hjN);have TK:=WN.o i j hjN;rw[o6 oH] at HMS TK;obtain⟨g',o',e, -,cu⟩:=HX.o.us j oH;cases e;rw[bT] at cu;generalize U[j].toNat=u at *;rw[<- gO] at cu;clear gO;obtain⟨pg,hde⟩:=o0.1 TK;have cv:=Qn.o.cell j pg;rw[hde] at cv;have ca_:=HX.o.vs.cell u (by rw[Em];exact gH);have fa_:=HX.o.vs.fz u;generalize aO (ah V) (ag U) i u=z at *;have HXs:=hid (HX.o.setA u z);rw[HMS.o] at HXs;have anD:=hid (Qn.o.off Ab u (.int .i64 (z:Nat)) h5A);clear TK hde HX Qn;go_wp2;go_roundw
     case rel=>exact⟨j+1,by omega,by go_num,HXs,anD⟩
     case measure=>simp[intOf];omega
    ·obtain rfl:j=U.length:=by omega
     have hX:=HX.o;rw[show yJ A (aO (ah V) (ag U) i) (ag U) U.length=aO (ah V) (ag U) i by rw[<- cS U];exact aiv tq.o (HAO.o i)] at hX;obtain⟨c0,c1,c2⟩:=hX.gk.1.1.cells;have PN:=hid hX;clear hX HX Qn;go_wp2_with fail
     refine(ky.o i _ Ab TD (HI.o.aa PN.o.gk.1.2) PN.o.vs).af ?_;rintro e u3 ⟨rfl,bK⟩;have lO:=hid (PN.o.step bK);clear c0 c1 c2 bK PN;have hfg:=BQ.o i hlt;have hcs:=vT.o i TD;generalize dF V L R (aO (ah V) (ag U) i) v=fr at *;obtain⟨fn,fx,fy⟩:=fr;replace hcs:fx.size+fy.size<=4200:=hcs;have hq:FL[i]=qF (val fn fx fy):=hfg;have HQ:=hid hq;clear hfg hq;go_wp2_with fail
     refine(Qw (n:=fn) (x:=fx) (y:=fy) (w:=u3) (val fn fx fy) rfl (by omega)).af ?_;rintro e u5 ⟨rfl,jS⟩;have qp:=hid (lO.o.step jS);clear jS lO;have HST:=hid (Zy FL hlt);rw[HQ.o] at HST;obtain⟨k0,k1,k2⟩:=qp.o.cs.cells i (by rw[R7 _ hi];exact hlt);have f0:=qp.o.cs.fz (i*3);have f1:=qp.o.cs.fz (i*3+1);have f2:=qp.o.cs.fz (i*3+2);generalize (rA FL i)[i]'(by rw[R7 _ hi];exact hlt)=zf at *;obtain⟨zn,zx,zy⟩:=zf;simp only at k0 k1 k2;have HP:=hid (qp.o.setC i (qF (val fn fx fy)));rw[HST.o] at HP;generalize val fn fx fy=qq at *;go_wp2;go_roundw
     case rel=>exact⟨i+1,_,by omega,by go_num,HAO.o i,HP⟩
     case measure=>simp[intOf];omega
  ·obtain rfl:i=FL.length:=by omega
   have hX:=HX.o;rw[Zz] at hX;obtain⟨k0,k1,f0,f1⟩:=hX.gk.2.facts;have h1:=hX.oD;have h2:=hX.oDC;clear HX;go_wp2;refine bB ((hX.gk.2.put _ _).result2 rfl _ rfl) rfl ?_;exact⟨⟨some ⟨D,0,none⟩,some ⟨C,0,none⟩,cd,FL.length,rfl,(hX.us.far _ _ _ (by omega)).far _ _ _ (by omega),((hX.cs.off _ _ _ (by omega)).off _ _ _ (by omega)).fr,eC.at (by omega),eC.at (by omega)⟩,mr hX.gk.1.2 (by omega) _ _⟩
theorem ah4 (a b c:Option Addr) (ca cb cc:Nat) (V:List Vr) (L:List (List Int)) (R:List (List Fr)) (w:World) (h:gP w a b c V L R) (hs:sQ V L R)
  (hCR:L.length=V.length ->R.length=V.length ->bE L=0 ->jy V=0 ->∀U:World,gP U a b c V L R ->Calls Tryz.prog 132 #[.agg #[.slice a V.length ca,.slice b L.length cb,.slice c R.length cc]] U fun e w'=>e=.returned (.int .i64 (iO (iI (ah V) L R) V.length))/\Below U.heap.size U w'):
  Calls Tryz.prog 75 #[.agg #[.slice a V.length ca,.slice b L.length cb,.slice c R.length cc]] w fun e w'=>e=.returned (.int .i64 (aW V L R))/\Below w.heap.size w w':=by
 have HI:=hid h;have CX:=hs.vars.1;have Uk:=hs.pars.1;have Ht:=hs.rows.1;have sY:Hid (¬(L.length=V.length/\R.length=V.length) ->aW V L R=8):=fun h=>az h;have uz:Hid (L.length=V.length ->R.length=V.length ->bE L≠0 ->aW V L R=bE L):=fun h1 h2 h3=>by rw[aW,ay ⟨h1,h2⟩,az h3]
 have uy:Hid (L.length=V.length ->R.length=V.length ->bE L=0 ->jy V≠0 ->aW V L R=jy V):=fun h1 h2 h3 h4=>by rw[aW,ay ⟨h1,h2⟩,ay h3,az h4]
 have II:Hid (L.length=V.length ->R.length=V.length ->bE L=0 ->jy V=0 ->aW V L R=iO (iI (ah V) L R) V.length):=fun h1 h2 h3 h4=>by rw[aW,ay ⟨h1,h2⟩,ay h3,ay h4]
 have Mm:=hid (fun (U:World) (hU:fh U b L)=>akl b cb L U hU (fun l hl=>by have:=hs.pars.2 l hl;omega));have HVC:=hid (fun (U:World) (hU:sO U a V)=>alT a ca V U hU hs.vars);have Qp:=hid hCR;generalize aW V L R=ne at *;clear h hs hCR;have bY:=hid (NK.new w (.slice a V.length ca) (.slice b L.length cb) (.slice c R.length cc));obtain⟨c0,c1,c2⟩:=bY.o.1.cells;by_cases lI:L.length=V.length
 ·by_cases qf:R.length=V.length
  ·have hlv:((L.length:Int) !=(V.length:Int))=false:=by rw[lI];simp
   (have Kc:((R.length:Int) !=(V.length:Int))=false:=by rw[qf];simp);have Wh:=hid (uz.o lI qf);have DD:=hid (uy.o lI qf);have IH:=hid (II.o lI qf);have WS:=hid (Qp.o lI qf);clear lI qf sY uz uy II Qp;generalize iO (iI (ah V) L R) V.length=fe at *;generalize bE L=ge at *;generalize jy V=ve at *;go_enter Tryz.func75,Tryz.ntmps75;go_wp2_with fail
   generalize (w.alloc (NC (.slice a V.length ca) (.slice b L.length cb) (.slice c R.length cc)))=w1 at *;refine(Mm.o _ (HI.o.aa bY.o.2).pars).af ?_;rintro e w2 ⟨rfl,hb⟩;have hK:=bY.o.step hb;clear hb bY c0 c1 c2 hlv Kc Mm;obtain⟨c0,c1,c2⟩:=hK.1.cells;by_cases hg:ge=0
   ·subst hg;have We:=hid (DD.o rfl);have FV:=hid (IH.o rfl);have WR:=hid (WS.o rfl);have HK:=hid hK;clear Wh DD IH WS hK;go_wp2_with fail
    refine(HVC.o _ (HI.o.aa HK.o.2).vars).af ?_;rintro e w3 ⟨rfl,hb⟩;have hK:=HK.o.step hb;clear hb HK c0 c1 c2 HVC;obtain⟨c0,c1,c2⟩:=hK.1.cells;by_cases hv:ve=0
    ·subst hv;have HQ:=hid (FV.o rfl);have anF:=hid (WR.o rfl);have HK:=hid hK;clear We FV WR hK;go_wp2_with fail
     refine(anF.o _ (HI.o.aa HK.o.2)).af ?_;rintro e w4 ⟨rfl,hb⟩;have hK:=HK.o.step hb;clear c0 c1 c2 hb;go_wp2;go_ret;exact⟨by rw[HQ.o];rfl,hK.2⟩
    ·have HQ:=hid (We.o hv);(have tK:(ve==0)=false:=by simpa using hv);clear hv We FV WR c0 c1 c2;go_wp2;go_ret;exact⟨by rw[HQ.o];rfl,hK.2⟩
   ·have HQ:=hid (Wh.o hg);(have hgb:(ge==0)=false:=by simpa using hg);clear hg Wh DD IH WS c0 c1 c2;go_wp2;go_ret;exact⟨by rw[HQ.o];rfl,hK.2⟩
  ·have HQ:=hid (sY.o fun h=>qf h.2);(have hlv:((L.length:Int) !=(V.length:Int))=false:=by rw[lI];simp)
   have Kc:((R.length:Int) !=(V.length:Int))=true:=by
    (have:¬(R.length:Int)=(V.length:Int):=by omega);simpa using this
   clear lI qf sY Qp;go_enter Tryz.func75,Tryz.ntmps75;go_wp2;go_ret;exact⟨by rw[HQ.o];rfl,bY.o.2⟩
 ·have HQ:=hid (sY.o fun h=>lI h.1)
  have hlv:((L.length:Int) !=(V.length:Int))=true:=by
   (have:¬(L.length:Int)=(V.length:Int):=by omega);simpa using this
  clear lI sY Qp;go_enter Tryz.func75,Tryz.ntmps75;go_wp2;go_ret;exact⟨by rw[HQ.o];rfl,bY.o.2⟩
section
attribute [local go_sem] Oper.semAt_some
def zo (Bs Bk B:Nat) (V V':World):Prop:=nR Bs V V'/\nR Bk V V'/\Below B V V'
theorem zo.t {Bs Bk B:Nat} {X Y Z:World} (h:zo Bs Bk B X Y) (k:zo Bs Bk B Y Z):zo Bs Bk B X Z:=⟨h.1.t k.1,h.2.1.t k.2.1,h.2.2.trans k.2.2⟩
theorem zo.b {Bs Bk B:Nat} (hs:Bs<w.heap.size) (hk:Bk<w.heap.size) (hB:B<=w.heap.size) (V:World) (l:Nat) (o o':Obj) (hl:w.heap.size<=l) (h1:V.heap[l]? =some o) (h2:o.isCells=false) (h3:o.isWalk=false):zo Bs Bk B V (V.putObj l o'):=
 ⟨nR.b hs V l o o' hl h1 h2 h3,nR.b hk V l o o' hl h1 h2 h3,tA hB V l o o' hl h1 h2 h3⟩
theorem grown_drew (w:World):w.grownBy w.drew none:=⟨rfl,rfl,rfl,ar _,fun _ _ _=>rfl⟩
abbrev zL (N:Nat):Type:= {i:Nat//i<N}
abbrev Vd (gf cT k N:Nat) (x:zL N):Array Value:= #[.slice (some ⟨gf,cT+x.1*k*3,none⟩) k k]
theorem alR (n:Nat) (hn:1<=n) (l Bs Bk B gf cT cap k N T:Nat) (hT:T=N*k) (hk:1<=k) (hk4:k<=4) (hN:N<=65536) (sB:T<=cap) (J Jx:List (zL N) ->World ->Prop) (hD:∀pre V,J pre V ->J pre V.drew)
  (hY:∀pre x V,J pre V ->pre.length< N ->YieldAt Fence.wide (n - 1) Tryz.prog l (Vd gf cT k N x) V fun e V'=>
   (e=.returned (.bool true)/\J (pre++[x]) V'/\zo Bs Bk B V V')∨(e=.returned (.bool false)/\Jx (pre++[x]) V'))
  (V:World) (xq:V.cell? ⟨Bs,0,none⟩=some (.slice (some ⟨gf,cT,none⟩) T cap)) (Hy:V.cell? ⟨Bk,0,none⟩=some (.int .i64 (k:Nat))) (h0:J [] V):
  CallsIn Fence.wide n Tryz.prog 223 #[.func (.yield l) #[] #[],.pointer (some ⟨Bs,0,none⟩),.pointer (some ⟨Bk,0,none⟩)] V fun e V'=>(∃v,e=.returned v)/\
   ((∃ys:List (zL N),ys.map (·.1)=List.range N/\J ys V')∨(∃pre:List (zL N),(∃j,j<=N/\pre.map (·.1)=List.range j)/\Jx pre V')):=by
 refine Gj Tryz.func223 rfl trivial ?_ rfl;simp only[Tryz.ntmps223,mP,eU,lg,Nat.reduceAdd,Nat.reduceSub,mV,mU,mQ,lZ,iD,fg];have LI:=hid hT;have Ub:T<=262144:=by rw[hT];exact aS (iW hN hk4) (by decide)
 clear hT;gi_wp2
 gi_loopw [4] (fun i wr=>∃(j:Nat) (pre:List (zL N)),j<=N/\i=.int .i64 (j*k:Nat)/\Hid (pre.map (·.1)=List.range j)/\J pre wr/\wr.cell? ⟨Bs,0,none⟩=some (.slice (some ⟨gf,cT,none⟩) T cap)/\wr.cell? ⟨Bk,0,none⟩=some (.int .i64 (k:Nat)))
  (fun i _=>T - (intOf i).toNat)
 case atStart=>exact⟨0,[],aU _,by rw[jw];rfl,rfl,h0,xq,Hy⟩
 case round=>
  obtain⟨j,pre,hj,rfl,HP,hJs,KD,hbk⟩:=hrel;by_cases hlt:j<N
  ·have hpl:pre.length=j:=by have:=bR List.length HP.o;rwa [c5,lY] at this
   (have HS:Hid ((pre++[(⟨j,hlt⟩:zL N)]).map (·.1)=List.range (j+1)):=by show _=_;rw[fY,HP.o,rT];rfl);(have CO:(j+1)*k<=T:=by rw[LI.o];exact jK k hlt);(have e2:(j+1)*k=j*k+k:=by rw[fW,kB]);have F8:Hid ((j+1)*k=j*k+k):=e2;(have hlo:j*k+k<=T:=by omega);have Wn:Hid (j*k=j*k):=rfl;clear e2 CO;have T1:=fun W hW=>hY pre ⟨j,hlt⟩ W hW (by omega);simp only[Vd] at T1;generalize Ut:j*k=lo at *;have HYJ:=hid T1;clear T1 Wn;have HEM:=hid Ut;clear Ut;(have hc1:¬cap=lo:=by omega);(have i6:lo<=T:=by omega);(have ajq:min (k:Int) ((T - lo:Nat):Int)=(k:Int):=by omega);gi_wp2
   gi_region
   have hJd:=hD pre wr hJs;have aby:wr.drew.cell? ⟨Bs,0,none⟩=some (.slice (some ⟨gf,cT,none⟩) T cap):=KD;have abz:wr.drew.cell? ⟨Bk,0,none⟩=some (.int .i64 (k:Nat)):=hbk;clear KD hbk hJs ajq;generalize wr.drew=w2 at *;obtain⟨fn,tmps,assign,body,hy,hR⟩:=HYJ.o w2 hJd;have HR:=hid hR;clear hR;(have hw1:IntKind.i64.wrap ((lo:Int)+(k:Int))=((lo+k:Nat):Int):=by rw[eo];omega);(have pj:(lo+k:Nat) - lo=k:=by omega);(have hx1:((lo+k:Nat):Int)<=(cap:Int):=by omega);generalize Oz:lo+k=AY at *;(have hx2:lo<=AY:=by omega);have HHI:=hid Oz;clear Oz;gi_wp2
   refine HR.o.af ?_;rintro e W3 (⟨rfl,hJ3,hk3⟩ |⟨rfl,hJx3⟩)
   ·have ajP:=Eq.trans hk3.1 aby
    have ajS:=Eq.trans hk3.2.1 abz;have HE:Hid ((j+1)*k=AY):=F8.o;(have hlt3:lo<AY:=by have:=HHI.o;omega);(have an8:AY<=T:=by have:=HHI.o;omega);clear aby abz hk3;gi_wp2
    go_roundw
    case rel=>exact⟨j+1,_,by omega,by rw[HE.o],HS,hJ3,ajP,ajS⟩
    case measure=>simp[intOf];omega
   ·gi_wp2
    refine bB (results_none rfl _ _ _) rfl ?_;exact⟨⟨_,rfl⟩,.inr ⟨_,⟨j+1,by omega,HS.o⟩,hJx3⟩⟩
  ·obtain rfl:j=N:=by omega
   rw[<- LI.o];gi_wp2
   go_end0
   exact⟨⟨_,rfl⟩,.inl ⟨_,HP.o,hJs⟩⟩
theorem alQ (n:Nat) (a:Option Addr) (T cap k:Nat) (hk:1<=k) (w:World):
  CallsIn Fence.wide n Tryz.prog 176 #[.slice a T cap,.int .i64 (k:Nat)] w fun e w'=>e=.returned (.func (.func 223) #[] #[.pointer (some ⟨w.heap.size,0,none⟩),.pointer (some ⟨w.heap.size+1,0,none⟩)])/\w'=(w.alloc (.cells #[.slice a T cap] 37)).alloc (.cells #[.int .i64 (k:Nat)] 3):=by
 refine Gj Tryz.func176 rfl trivial ?_ rfl;simp only[Tryz.ntmps176,mP,eU,lg,Nat.reduceAdd,Nat.reduceSub,mV,mU,mQ,lZ,iD,fg];have e1:(1:Int)<=(k:Int):=by omega
 gi_wp2
 go_ret;exact⟨rfl,rfl⟩
theorem alP (n:Nat) (hn:1<=n) (Bs Bk B gf cT cap k N T:Nat) (hT:T=N*k) (hk:1<=k) (hk4:k<=4) (hN:N<=65536) (sB:T<=cap) (w:World) (xq:Bs<w.heap.size) (Hy:Bk<w.heap.size) (h1:w.cell? ⟨Bs,0,none⟩=some (.slice (some ⟨gf,cT,none⟩) T cap)) (h2:w.cell? ⟨Bk,0,none⟩=some (.int .i64 (k:Nat))):
  SeqStopsK Fence.wide n Tryz.prog 223 #[.pointer (some ⟨Bs,0,none⟩),.pointer (some ⟨Bk,0,none⟩)] (Vd gf cT k N) (zo Bs Bk B) (fun ys=>ys.map (·.1)=List.range N) (fun pre=>∃j,j<=N/\pre.map (·.1)=List.range j) N w:=fun l J Jx V hV hJ _ hY h0=>
 alR n hn l Bs Bk B gf cT cap k N T hT hk hk4 hN sB J Jx (fun pre U hU=>hJ pre U U.drew none hU (grown_drew U) (fun r e=>by cases e)) hY V ((hV.cell (p:=⟨Bs,0,none⟩) xq).trans h1) ((hV.cell (p:=⟨Bk,0,none⟩) Hy).trans h2) h0
end
section
attribute [local go_sem] Oper.semAt_some
variable {ds:List Deferred}
theorem RB {k:Int} (h:Boxed w g 33 (.int .i64 k)) {p:Tmp} (hr:fn.results= #[.cell p 33]) (tmps:Array Value) (hp:tmps.getD p undef=.pointer (some ⟨g,0,none⟩)):(results fn tmps).run Tryz.prog w=.ok (.int .i64 k) w:=by
 have hp':tmps[p]?.getD undef=.pointer (some ⟨g,0,none⟩):=by simpa using hp
 have hc:=h.cell;simp only[results,hr];simp[hp',asAddr];go_simp
theorem acR {V:World} (h:Below V.heap.size V V'):KeepsOthers V V':=⟨h.size,fun k _ hk _=>(h.block k (eL.1 hk).1).trans hk⟩
theorem ag3 {β:Type} {n0 B:Nat} {Q:β ->World ->Prop} (hB:n0<=B):OwnFrom B (fun (s:β) W=>∃V,Q s V/\n0<=V.heap.size/\Below n0 V W):=fun s W W' row hs hg hr=>by
 obtain⟨V,h1,h2,h3⟩:=hs;exact⟨V,h1,h2,h3.grown hg (aS h2 h3.size) (fun k e=>aS hB (hr k e).1)⟩
def nZ (w:World) (k:Int) (W:World):Prop:=Boxed W (w.heap.size+1) 33 (.int .i64 k)/\Below w.heap.size w W
theorem nZ.shut {k:Int} (hlo:w.heap.size+1<lo) (W:World) (r:Nat) (h:nZ w k W) (hr:lo<=r) (hd:W.heap[r]? =some (.deferred (some []))):nZ w k (W.putObj r (.deferred none)):=
 ⟨(yh (by omega)).trans h.1,h.2.trans (tA (w:=w) (ar _) W r _ _ (by omega) hd rfl rfl)⟩
theorem nZ.put {W:World} {k:Int} (h:nZ w k W) (j:Int):nZ w j (W.setCell ⟨w.heap.size+1,0,none⟩ (.int .i64 j)):=⟨h.1.set _,h.2.setCell (p:=⟨w.heap.size+1,0,none⟩) (by simp) _⟩
theorem Shut.put {B:Nat} {W:World} (h:Shut lo B ds W) (hg:g<lo) (v:Value):Shut lo B ds (W.setCell ⟨g,0,none⟩ v):=by
 induction ds generalizing B with
 |nil=>trivial
 |cons d ds ih=>
  obtain⟨r,h1,h2,h3,h4,h5⟩:=h;exact⟨r,h1,h2,h3,(je W ⟨g,0,none⟩ v r (by show r≠g;omega)).trans h4,ih h5⟩
theorem alU (a b c:Option Addr) (ca cb cc:Nat) (V:List Vr) (L:List (List Int)) (R:List (List Fr)) (w:World) (h:gP w a b c V L R) (hs:sQ V L R) (lI:L.length=V.length) (qf:R.length=V.length) (hg:bE L=0) (hv:jy V=0):
  Calls Tryz.prog 132 #[.agg #[.slice a V.length ca,.slice b L.length cb,.slice c R.length cc]] w fun e w'=>e=.returned (.int .i64 (iO (iI (ah V) L R) V.length))/\Below w.heap.size w w':=by
 refine(gZ (n:=6)).1 ?_;obtain⟨aJ,hn8,aX⟩:=UU lI hg hv;have HI:=hid h;have CX:=hs.vars.1;have xP:=hid hs.rows.2;have bC:=hid aJ;have gz:=hid aX;have fT:=hid (fun (U:World) (hU:sO U a V)=>NX a b c ca cb cc L.length R.length V U hU CX);have HA:Hid (∀i,i<V.length ->(∀j,j< i ->iI (ah V) L R j=0) ->∀k,iI (ah V) L R i=k ->k≠0 ->iO (iI (ah V) L R) V.length=k):=fun i hi hz k hk hk0=>by rw[Bd hz (by rw[hk];exact hk0) hi,hk]
 have HZ:Hid ((∀j,j<V.length ->iI (ah V) L R j=0) ->iO (iI (ah V) L R) V.length=0):=fun h=>zb h;have uC:=hid lI;have sV:=hid qf;generalize iO (iI (ah V) L R) V.length=fe at *;clear h hs aJ aX lI qf hg hv;have Un:NK w ((w.alloc (NC (.slice a V.length ca) (.slice b L.length cb) (.slice c R.length cc))).alloc (.cells #[.int .i64 0] 33)) (.slice a V.length ca) (.slice b L.length cb) (.slice c R.length cc):=(NK.new w (.slice a V.length ca) (.slice b L.length cb) (.slice c R.length cc)).step ((au _ _).alloc (ar _) _)
 have hE0:Boxed ((w.alloc (NC (.slice a V.length ca) (.slice b L.length cb) (.slice c R.length cc))).alloc (.cells #[.int .i64 0] 33)) (w.heap.size+1) 33 (.int .i64 0):=by
  have h:=a7 (w.alloc (NC (.slice a V.length ca) (.slice b L.length cb) (.slice c R.length cc))) 33 (.int .i64 0);rwa [cN] at h
 have bY:=hid Un;have Ms:=hid hE0;obtain⟨c0,c1,c2⟩:=Un.1.cells;clear Un hE0;refine tz Tryz.func132 rfl trivial ?_ rfl;simp only[Tryz.ntmps132,mP,eU,lg,Nat.reduceAdd,Nat.reduceSub,mV,mU,mQ,lZ,iD,fg];gi_wp2_with (refine⟨trivial,?_⟩;gi_at_call 25;refine(gZ.2 (fT.o _ (HI.o.aa bY.o.2).vars)).af ?_;rintro e W2 ⟨G,rfl,KU,hrow,hb⟩;have hK2:=bY.o.step hb;have Uv:=(hb.block (w.heap.size+1) (eL.1 Ms.o).1).trans Ms.o;clear c0 c1 c2;obtain⟨c0,c1,c2⟩:=hK2.1.cells)
 clear hb;have oY:=hid hK2;have dZ:Hid (Boxed W2 (w.heap.size+1) 33 (.int .i64 0)):=Uv;have V1:=hid hrow;have OQ:w.heap.size+1<W2.heap.size:=(eL.1 Uv).1;clear hK2 Uv hrow c0 c1 c2 bY Ms fT KU;refine wpIn_loop (fun a' w'=>∃(v:Nat) (ds:List Deferred) (u4 u5 u6 u7 u15 u16 Ju Jt GH XT XS XR u23 u24 Js u26 Jr u28 Ak Jq Jp u32 u33 XQ XP u36 XO u38 XN XM XL XK GG Q8:Value),a'= {tmps:= #[.agg #[.slice a V.length ca,.slice b L.length cb,.slice c R.length cc],.pointer (some ⟨w.heap.size,0,none⟩),.pointer (some ⟨w.heap.size+1,0,none⟩),.slice (some ⟨G,0,none⟩) V.length V.length,u4,u5,u6,u7,undef,.agg #[.slice a V.length ca,.slice b L.length cb,.slice c R.length cc],.slice (some ⟨G,0,none⟩) V.length V.length,.pointer (some ⟨w.heap.size,2,none⟩),.slice c R.length cc,.int .i64 (R.length:Nat),.int .i64 (v:Nat),u15,u16,Ju,Jt,GH,XT,XS,XR,u23,u24,Js,u26,Jr,u28,Ak,Jq,Jp,u32,u33,XQ,XP,u36,XO,u38,XN,XM,XL,XK,GG,undef,undef,undef,undef,Q8],defers:=ds}/\v<=R.length/\Hid (∀j,j< v ->iI (ah V) L R j=0)/\Hid (Below W2.heap.size W2 w')/\Hid (Shut W2.heap.size w'.heap.size ds w')) (fun a' _=>R.length - (intOf (a'.tmps.getD 14 undef)).toNat) ?_ ?_
 ·exact⟨0,[],_,_,_,_,_,_,_,_,_,_,_,_,_,_,_,_,_,_,_,_,_,_,_,_,_,_,_,_,_,_,_,_,_,_,rfl,aU _,(fun j hj=>absurd hj (by omega)),au _ _,trivial⟩
 intro a' wr hinv;obtain⟨v,ds,u4,u5,u6,u7,u15,u16,Ju,Jt,GH,XT,XS,XR,u23,u24,Js,u26,Jr,u28,Ak,Jq,Jp,u32,u33,XQ,XP,u36,XO,u38,XN,XM,XL,XK,GG,Q8,rfl,hv,LB,HB,nT⟩:=hinv;have hlo:W2.heap.size<=wr.heap.size:=HB.o.size;by_cases hlt:v<R.length
 ·have tZ:=oY.o.step HB.o;have EM:=V1.o.aa HB.o V1.o.lt;have dG:v<L.length:=by rw[uC.o, <- sV.o];exact hlt
  have uX:v<V.length:=by rw[<- sV.o];exact hlt
  obtain⟨gr,dt,bf,cf,rfl,hgr,r1,sf,CG⟩:=HI.o.rows v hlt;obtain⟨gp,dE,bp,cp,rfl,gj,p1,eN⟩:=HI.o.pars v dG;obtain⟨c0,c1,c2⟩:=tZ.1.cells;have r2:=(tZ.2.cell (p:=⟨gr,dt+v,none⟩) hgr).trans r1;have p2:=(tZ.2.cell (p:=⟨gp,dE+v,none⟩) gj).trans p1;have bJ:(ah V).length=V.length:=gR V;have aX:Up L[v] V.length:=by rw[<- uC.o];exact gz.o v dG
  have eM:∀u,sz (ah V) u<=4:=fun u=>by have:=bC.o.sz_le u;rwa [ew] at this
  have df:Pos (ah V):=by have:=bC.o.pos;rwa [ew] at this
  have hN:cnt (ah V) (ag L[v])<=65536:=pw eM (by rw[cS];have:=aX.length;have:=uC.o;omega);have vA:1<=cnt (ah V) (ag L[v]):=zg df _;have hk4:=eM v;have yU:=im df v;have r8:=EM.cell v (by rw[bJ];exact uX);have CD:(ah V)[v]'(by rw[bJ];exact uX)=sz (ah V) v:=by rw[sz,List.getElem?_eq_getElem (by rw[bJ];exact uX)];rfl
  rw[CD] at r8;have hpl:=aX.length
  have jt:Hid (CallsIn Fence.wide 5 Tryz.prog 37 #[.slice (some ⟨G,0,none⟩) V.length V.length,.slice bp L[v].length cp] wr fun e w'=>e=.returned (.tuple #[.int .i64 (cnt (ah V) (ag L[v]):Nat),.int .i64 0])/\Below wr.heap.size wr w'):=by
   have hcb:countB (iL (ah V)) L[v]=true:=Fk bC.o (by rw[ba,bJ];exact aX);have hc:=Nc (some ⟨G,0,none⟩) bp V.length cp (iL (ah V)) L[v] wr EM.ints (eN.aa tZ.2) (by rw[ba,bJ];have:=uC.o;omega) (by have:=uC.o;omega);rw[Fl hcb,ew,ba,bJ] at hc;exact gZ.2 hc
  have FN:Hid (iI (ah V) L R v=if R[v].length=cnt (ah V) (ag L[v])*sz (ah V) v then(if ((List.range (cnt (ah V) (ag L[v]))).all fun i=>iJ (fP R[v] (sz (ah V) v) i))=true then 0 else 9) else 8):=by
   show _=_;rw[iI,List.getD_eq_getElem?_getD,List.getElem?_eq_getElem hlt,List.getD_eq_getElem?_getD,List.getElem?_eq_getElem dG];rfl
  have zB:=hid (sf.aa tZ.2);have AV:=xP.o R[v] (bH hlt);have HAV:=hid (HA.o v uX LB.o);generalize L[v]=pl at *;generalize R[v]=rv at *;have Tu:pl.length<=8:=by have:=uC.o;omega
  clear sf r1 p1 eN aX eM df CD bJ;generalize hkk:sz (ah V) v=k at *;generalize cnt (ah V) (ag pl)=N at *;clear hkk;have KP:N*k<=262144:=aS (iW hN hk4) (by decide);have hcm:(N:Int)*(k:Int)=((N*k:Nat):Int):=(iH _ _).symm;have hw1:IntKind.i64.wrap ((N:Int)*(k:Int))=((N*k:Nat):Int):=by rw[hcm,eo];omega
  have IW:=hid hcm;clear hcm;by_cases hT:rv.length=N*k
  ·rw[ay hT] at FN;rw[<- hT] at hw1;have hkT:k<=N*k:=zX k vA;(have kJ:0<rv.length:=by omega);obtain⟨gf,cT,rfl,AZ, -⟩:=zB.o 0 kJ;have LI:=hid hT;clear hT KP hkT;have hT5:rv.length<=5000:=AV.1;(have hne:((rv.length:Int) !=(rv.length:Int))=false:=by simp)
   gi_wp2_with (first
    |(refine⟨trivial,?_⟩;gi_at_call 37;refine jt.o.af ?_;rintro e W4 ⟨rfl,hb⟩;have hK4:=tZ.step hb;have hr4:=EM.aa hb EM.lt;have aaU:=(hb.cell (p:=⟨G,v,none⟩) EM.lt).trans r8;clear c0 c1 c2 r2 p2 r8)
    |(refine⟨trivial,?_⟩;gi_at_call 176;refine(alQ _ _ _ _ k yU _).af ?_;rintro e W5 ⟨rfl,rfl⟩))
   (have an1:((W4.alloc (.cells #[.slice (some ⟨gf,cT,none⟩) rv.length cf] 37)).alloc (.cells #[.int .i64 (k:Nat)] 3)).heap.size=W4.heap.size+1+1:=by simp);have hc1:((W4.alloc (.cells #[.slice (some ⟨gf,cT,none⟩) rv.length cf] 37)).alloc (.cells #[.int .i64 (k:Nat)] 3)).cell? ⟨W4.heap.size,0,none⟩=some (.slice (some ⟨gf,cT,none⟩) rv.length cf):=((a7 W4 37 (.slice (some ⟨gf,cT,none⟩) rv.length cf)).alloc _).cell
   have hc2:((W4.alloc (.cells #[.slice (some ⟨gf,cT,none⟩) rv.length cf] 37)).alloc (.cells #[.int .i64 (k:Nat)] 3)).cell? ⟨W4.heap.size+1,0,none⟩=some (.int .i64 (k:Nat)):=by
    have h:=(a7 (W4.alloc (.cells #[.slice (some ⟨gf,cT,none⟩) rv.length cf] 37)) 3 (.int .i64 (k:Nat))).cell;rwa [cN] at h
   have TW:Below W4.heap.size W4 ((W4.alloc (.cells #[.slice (some ⟨gf,cT,none⟩) rv.length cf] 37)).alloc (.cells #[.int .i64 (k:Nat)] 3)):=((au _ W4).alloc (ar _) _).alloc (by simp) _;generalize ((W4.alloc (.cells #[.slice (some ⟨gf,cT,none⟩) rv.length cf] 37)).alloc (.cells #[.int .i64 (k:Nat)] 3))=W5 at *;have eM:=hb.size;have Um:=hK4.step TW;have oC:Below wr.heap.size wr W5:=hb.trans (TW.af eM);have HF5:=hid (zB.o.aa oC);have adk:=hid ((nT.o.aa oC).af (show wr.heap.size<=W5.heap.size by omega));have F9:Hid (nZ w 0 W5):=⟨(oC.block (w.heap.size+1) (by omega)).trans ((HB.o.block (w.heap.size+1) OQ).trans dZ.o),Um.2⟩;have Mj:=hid Um;have eD:=hid (HB.o.trans (oC.af hlo));clear hb hK4 hr4 aaU TW tZ EM Um jt V1 HB nT zB oC
   refine I2 (α:=zL N) rfl (by omega) (gf:=223) (lb:= #[.pointer (some ⟨W4.heap.size,0,none⟩),.pointer (some ⟨W4.heap.size+1,0,none⟩)]) rfl trivial (enters_of Tryz.func223 (by kernel_rfl) rfl)
    (alP 5 (by omega) W4.heap.size (W4.heap.size+1) W5.heap.size gf cT cf k N rv.length LI.o yU hk4 hN CG W5 (by omega) (by omega) hc1 hc2) zo.t (zo.b (by omega) (by omega) (ar _)) (au _ _) (fun _=>rfl)
    (fun (pre:List (zL N)) X=>Below W5.heap.size W5 X/\∀x∈pre,iJ (fP rv k x.1)=true)
    (fun cd (pre:List (zL N)) X=>∃Y,(cd=Code.ret/\(∃x∈pre,iJ (fP rv k x.1)=false)/\nZ w 9 Y/\Shut W2.heap.size W5.heap.size ds Y)/\W5.heap.size<=Y.heap.size/\Below W5.heap.size Y X)
    (eI (yg (ar _) (ar _)) (fun _ _ _ _ hs _ _=>hs))
    (fun cd=>ag3 (Q:=fun (pre:List (zL N)) Y=>cd=Code.ret/\(∃x∈pre,iJ (fP rv k x.1)=false)/\nZ w 9 Y/\Shut W2.heap.size W5.heap.size ds Y) (ar _))
    ⟨au _ _,fun x hx=>absurd hx (by simp)⟩
    (fun x=> {tmps:= #[.agg #[.slice a V.length ca,.slice (some ⟨gp,dE,none⟩) L.length cb,.slice (some ⟨gr,dt,none⟩) R.length cc],.pointer (some ⟨w.heap.size,0,none⟩),.pointer (some ⟨w.heap.size+1,0,none⟩),.slice (some ⟨G,0,none⟩) V.length V.length,.int .i64 (v:Nat),.slice (some ⟨gf,cT,none⟩) rv.length cf,.int .i64 (N:Nat),.int .i64 0,.slice (some ⟨gf,cT+x.1*k*3,none⟩) k k,.agg #[.slice a V.length ca,.slice (some ⟨gp,dE,none⟩) L.length cb,.slice (some ⟨gr,dt,none⟩) R.length cc],.slice (some ⟨G,0,none⟩) V.length V.length,.pointer (some ⟨w.heap.size,2,none⟩),.slice (some ⟨gr,dt,none⟩) R.length cc,.int .i64 (R.length:Nat),.int .i64 (v:Nat),.bool true,.int .i64 (v:Nat),.pointer (some ⟨gr,dt+v,none⟩),.slice (some ⟨gf,cT,none⟩) rv.length cf,.tuple #[.int .i64 (N:Nat),.int .i64 0],.slice (some ⟨G,0,none⟩) V.length V.length,.pointer (some ⟨w.heap.size,1,none⟩),.slice (some ⟨gp,dE,none⟩) L.length cb,.int .i64 (v:Nat),.pointer (some ⟨gp,dE+v,none⟩),.slice bp pl.length cp,.tuple #[.int .i64 (N:Nat),.int .i64 0],.int .i64 (N:Nat),.int .i64 0,.slice (some ⟨gf,cT,none⟩) rv.length cf,.int .i64 (rv.length:Nat),.int .i64 (N:Nat),.slice (some ⟨G,0,none⟩) V.length V.length,.int .i64 (v:Nat),.pointer (some ⟨G,v,none⟩),.int .i64 (k:Nat),.int .i64 (rv.length:Nat),.bool false,.slice (some ⟨gf,cT,none⟩) rv.length cf,.slice (some ⟨G,0,none⟩) V.length V.length,.int .i64 (v:Nat),.pointer (some ⟨G,v,none⟩),.int .i64 (k:Nat),.func (.func 223) #[] #[.pointer (some ⟨W4.heap.size,0,none⟩),.pointer (some ⟨W4.heap.size+1,0,none⟩)],.slice (some ⟨gf,cT+x.1*k*3,none⟩) k k,undef,undef,undef,Q8],defers:=[]}) ?assign ?body ?done ?stop
   case assign=>
    intro l x X K hK;gi_wp2
    exact hK
   case body=>
    rintro l pre ⟨i,hi⟩ X ⟨vD,hall⟩ hpre;(have hmul:(i+1)*k<=rv.length:=by rw[LI.o];exact jK k hi);obtain⟨hfc,hlc⟩:=bZ.chunk (m:=k) (HF5.o.aa vD) hmul rfl;have TB:=aiN (some ⟨gf,cT+i*k*3,none⟩) k (fP rv k i) X hfc (aS (abY rv k i) AV.2) (by omega);rw[hlc] at TB;have T2:=vD.size;have vV:=hid TB;have uE:=hid vD;have qC:=hid hall;clear TB hfc hlc hmul vD hall hc1 hc2 hpre;cases rF:iJ (fP rv k i)
    case true=>
     rw[rF] at vV;have Iz:=hid rF;clear rF;gi_wp2_with (refine⟨trivial,?_⟩;gi_at_call 177;refine(MX l (gZ.2 vV.o)).af ?_;rintro e X2 ⟨rfl,A1⟩)
     refine⟨(acR A1).from _,⟨A1.cell (p:=⟨W4.heap.size,0,none⟩) (by show W4.heap.size<X.heap.size;omega),A1.cell (p:=⟨W4.heap.size+1,0,none⟩) (by show W4.heap.size+1<X.heap.size;omega),A1.af T2⟩,uE.o.trans (A1.af T2),fun x hx=>?_⟩;rcases dz.1 hx with hx |hx
     ·exact qC.o x hx
     ·rw[fX.1 hx];exact Iz.o
    case false=>
     rw[rF] at vV;have Iz:=hid rF;clear rF;gi_wp2_with (refine⟨trivial,?_⟩;gi_at_call 177;refine(MX l (gZ.2 vV.o)).af ?_;rintro e X2 ⟨rfl,A1⟩;have hB2:=uE.o.trans (A1.af T2);have bW:=(hB2.block (w.heap.size+1) (by omega)).trans F9.o.1;have sA:=Boxed.cell bW;have Ku:=Boxed.frozen bW)
     have hL9:nZ w 9 (X2.setCell ⟨w.heap.size+1,0,none⟩ (.int .i64 9)):=nZ.put (k:=0) ⟨bW,F9.o.2.trans (hB2.af (by omega))⟩ 9;refine⟨((acR A1).trans (iG X2 _ _)).from _,_,⟨rfl,⟨⟨i,hi⟩,by simp,Iz.o⟩,hL9,(adk.o.aa hB2).put (by omega) _⟩,?_,au _ _⟩;have aop:=A1.size;simp;omega
   case done=>
    rintro D ys X hD yL ⟨vD,hall⟩ hK
    have HRZ:Hid (iI (ah V) L R v=0):=by
     show _=_;rw[FN.o,ay];rw[eJ];intro i hi;rw[<- yL] at hi;obtain⟨x,hx,rfl⟩:=bs.1 hi;exact hall x hx
    have A6:D<X.heap.size:=(eL.1 hK).1;have hB2:=eD.o.trans (vD.af (by omega));have hSX:Shut W2.heap.size X.heap.size ({target:=.collected D,args:= #[]}::ds) X:=⟨D,by omega,A6,rfl,hK,(adk.o.aa vD).af hD⟩;have uE:=hid hB2;have FH:=hid hSX;clear hK hall yL hB2 hSX hc1 hc2 vD;gi_wp2
    refine⟨⟨v+1,_,_,_,_,_,_,_,_,_,_,_,_,_,_,_,_,_,_,_,_,_,_,_,_,_,_,_,_,_,_,_,_,_,_,_,rfl,by omega,(fun j hj=>?_),uE,FH⟩,?_⟩
    ·rcases cD j v with h |h
     ·exact LB.o j h
     ·rw[show j=v by omega];exact HRZ.o
    ·simp[intOf];omega
   case stop=>
    rintro D cd pre X hD hSp ⟨Y,⟨rfl,⟨x,hx,hxb⟩,hcr,wL⟩,hYs,vD⟩ hK
    have fN:fe=9:=HAV.o 9 (by
     rw[FN.o,az];intro h;rw[eJ] at h;have:=h x.1 (bG.2 x.2);rw[hxb] at this;cases this) (by decide)
    have A6:D<X.heap.size:=(eL.1 hK).1;have hCX:nZ w 9 X:=⟨(vD.block (w.heap.size+1) (by omega)).trans hcr.1,hcr.2.trans (vD.af (by omega))⟩;gi_wp2
    refine Ez (lo:=W2.heap.size) (K:=nZ w 9) (nZ.shut (by omega)) (fun Z hZ=>⟨_,RB hZ.1 rfl _ rfl,?_,hZ.2⟩) _ X.heap.size X ⟨D,by omega,A6,rfl,hK,(wL.aa vD).af hD⟩ hCX;rw[fN]
  ·rw[az hT] at FN;have fN:fe=8:=HAV.o 8 FN.o (by decide)
   have hne:((rv.length:Int) !=((N*k:Nat):Int))=true:=by
    (have:¬(rv.length:Int)=((N*k:Nat):Int):=by omega);simpa using this
   clear hT;have HB':=HB.o;gi_wp2_with (refine⟨trivial,?_⟩;gi_at_call 37;refine jt.o.af ?_;rintro e W4 ⟨rfl,hb⟩;have hK4:=tZ.step hb;have aaU:=(hb.cell (p:=⟨G,v,none⟩) EM.lt).trans r8;have bW:Boxed W4 (w.heap.size+1) 33 (.int .i64 0):=(hb.block (w.heap.size+1) (by omega)).trans ((HB.o.block (w.heap.size+1) OQ).trans dZ.o);have sA:=Boxed.cell bW;have Ku:=Boxed.frozen bW;clear c0 c1 c2 r2 p2 r8)
   refine Ez (lo:=W2.heap.size) (K:=nZ w 8) (nZ.shut (by omega)) (fun Z hZ=>⟨_,RB hZ.1 rfl _ rfl,?_,hZ.2⟩) _ wr.heap.size _ ((nT.o.aa hb).put (by omega) _) (nZ.put (k:=0) ⟨bW,hK4.2⟩ 8);rw[fN]
 ·obtain rfl:v=R.length:=by omega
  have fN:fe=0:=HZ.o (fun j hj=>LB.o j (by rw[sV.o];exact hj));have bW:Boxed wr (w.heap.size+1) 33 (.int .i64 0):=(HB.o.block (w.heap.size+1) OQ).trans dZ.o;have sA:=Boxed.cell bW;have Ku:=Boxed.frozen bW;have tZ:=oY.o.step HB.o;gi_wp2
  refine Ez (lo:=W2.heap.size) (K:=nZ w 0) (nZ.shut (by omega)) (fun Z hZ=>⟨_,RB hZ.1 rfl _ rfl,?_,hZ.2⟩) _ wr.heap.size _ (nT.o.put (by omega) _) (nZ.put (k:=0) ⟨bW,tZ.2⟩ 0);rw[fN]
end
structure VB (V:List Vr) (L:List (List Int)) (R:List (List Fr)):Prop where
 vars:V.length<=140737488355328/\∀x∈V,x.1.size<=140737488355328/\x.2.length<=140737488355328/\∀s∈x.2,s.size<=140737488355328
 pars:L.length<=140737488355328/\∀l∈L,l.length<=140737488355328
 rows:R.length<=140737488355328/\∀l∈R,l.length<=140737488355328/\∀f∈l,f.2.1.size<=140737488355328/\f.2.2.size<=140737488355328
theorem NK.drewN (h:NK w wr x y z) (k:Nat):NK w (wr.drewN k) x y z:=⟨h.1,below_drewN h.2 k⟩
def Lx (V:List Vr) (v k:Nat):Prop:=k<=2048 ->∀j (h:j<V.length),j< v ->V[j].1.size<=2048/\V[j].2.length<=2048/\∀s∈V[j].2,s.size<=2048
def PJ (L:List (List Int)) (v k:Nat):Prop:=k<=2048 ->∀j (h:j<L.length),j< v ->L[j].length<=2048
def PG (R:List (List Fr)) (v k:Nat):Prop:=k<=2048 ->∀j (h:j<R.length),j< v ->R[j].length+sw R[j]<=2048
structure NLi (V:List Vr) (L:List (List Int)) (R:List (List Fr)):Prop where
 all:V.length+L.length+R.length<=2048
 vars:Lx V V.length 0
 pars:PJ L L.length 0
 rows:PG R R.length 0
theorem Pn (a b c:Option Addr) (ca cb cc:Nat) (V:List Vr) (L:List (List Int)) (R:List (List Fr)) (w:World) (h:gP w a b c V L R) (hs:sQ V L R):
  Calls Tryz.prog 75 #[.agg #[.slice a V.length ca,.slice b L.length cb,.slice c R.length cc]] w fun e w'=>e=.returned (.int .i64 (aW V L R))/\Below w.heap.size w w':=
 ah4 a b c ca cb cc V L R w h hs fun h1 h2 h3 h4 U hU=>alU a b c ca cb cc V L R U hU hs h1 h2 h3 h4
theorem ahE (h:NLi V L R):sQ V L R/\∀l∈R,fw l<=4200:=by
 have ha:=h.all
 have h3:∀l∈R,l.length+sw l<=2048:=fun l hl=>by
  obtain⟨j,hj,rfl⟩:=iE hl;exact h.rows (by omega) j hj hj
 refine⟨⟨⟨by omega,fun x hx=>?_⟩,⟨by omega,fun l hl=>?_⟩,⟨by omega,fun l hl=>?_⟩⟩,fun l hl=>?_⟩
 ·obtain⟨j,hj,rfl⟩:=iE hx;obtain⟨h1,h2,h4⟩:=h.vars (by omega) j hj hj;exact⟨by omega,by omega,fun s hs=>by have:=h4 s hs;omega⟩
 ·obtain⟨j,hj,rfl⟩:=iE hl;have:=h.pars (by omega) j hj hj;omega
 ·have h5:=h3 l hl;have h6:=abW l;omega
 ·have h5:=h3 l hl;have h6:=abW l;omega
theorem ain (a:Option Addr) (ca:Nat) (L:List (List Int)) (w:World) (h:fh w a L) (hl:∀l∈L,l.length<=140737488355328) (hg:bE L=0):
  Calls Tryz.prog 93 #[.slice a L.length ca] w fun e w'=>∃G,e=.returned (.tuple #[.slice (some ⟨G,0,none⟩) L.length L.length,.int .i64 0])/\fh w' (some ⟨G,0,none⟩) (np L)/\Below w.heap.size w w':=
 (aki a ca L w h hl).af fun e w' hh=>by
  rcases hh with ⟨⟨h1,_⟩ |⟨_,G,h2,h3⟩,hb⟩
  ·exact absurd hg h1
  ·exact⟨G,h2,h3,hb⟩
theorem akX (a:Option Addr) (ca:Nat) (L:List (List Int)) (w:World) (h:fh w a (np L)) (hg:gB L=true) (h1:1<=L.length) (h8:L.length<=8):
  Calls Tryz.prog 94 #[.slice a L.length ca] w fun e w'=>∃d cd G,e=.returned (.tuple #[.slice d L.length cd,.slice (some ⟨G,0,none⟩) L.length L.length,.int .i64 0])/\ax w' d (iL (ir L))/\Below w.heap.size w w':=by
 have:=akk a ca (np L) w h (fun l hl=>by
  obtain⟨s,_,rfl⟩:=bs.1 hl;rw[gN,ba,fM];exact aS (pR ..) (by simp))
 rw[AA] at this;refine this.af fun e w' hh=>?_;rcases hh with ⟨⟨_,d,cd,G,h2,h3,_⟩ |⟨h2,_⟩,hb⟩
 ·rw[AA] at h2;exact⟨d,cd,G,h2,h3,hb⟩
 ·rw[aio hg h1 h8] at h2;cases h2
theorem ake (a b c:Option Addr) (ca cb cc v:Nat) (V:List Vr) (L:List (List Int)) (R:List (List Fr)) (w:World) (h:gP w a b c V L R) (hN:vK w b L) (hs:sQ V L R) (hw:∀l∈R,fw l<=4200) (h0:aW V L R=0) (hv:v<V.length) (vC:∀U:World,gP U a b c V L R ->Calls Tryz.prog 75 #[.agg #[.slice a V.length ca,.slice b L.length cb,.slice c R.length cc]] U fun e w'=>e=.returned (.int .i64 (aW V L R))/\Below U.heap.size U w'):
  Calls Tryz.prog 95 #[.agg #[.slice a V.length ca,.slice b L.length cb,.slice c R.length cc],.int .i64 (v:Nat)] w fun e w'=>Bi w.heap.size (gU L v,gL V L R v) e w'/\Below w.heap.size w w':=
 (ah1 a b c ca cb cc v V L R w h hN hs hw h0 hv vC).af fun _ _ hh=>⟨uh.tb (t:=(gU L v,gL V L R v)) hh.1,hh.2⟩
def AD (V:List Vr) (L:List (List Int)) (R:List (List Fr)) (l:List (Nat×Nat)):Rat:=a8 (fun k=>jX l (aO (ah V) (List.range V.length) k)*ji V L R (aO (ah V) (List.range V.length) k) V.length) (cnt (ah V) (List.range V.length))
end Go.Proofs.YtdnhgjeihdllbaaGreatDoor
