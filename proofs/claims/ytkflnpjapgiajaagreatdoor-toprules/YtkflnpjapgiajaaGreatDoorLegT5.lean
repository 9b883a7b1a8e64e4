/- Part5: part 5. -/
import Derived.Test.YtkflnpjapgiajaaGreatDoorLegT4
set_option maxRecDepth 100000
set_option maxHeartbeats 400000000
set_option linter.unusedSimpArgs false
set_option linter.unusedVariables false
namespace Go.Proofs.YtkflnpjapgiajaaGreatDoor
open Go.RowKit Go.Shelf
variable {fy:List (Nat×Nat)} {S:Ki} {u v:Nat} {X:Nat ->Prop}
section
variable {S : Ki} {n : Nat} {L L2 : List Kh} {φ : Nat -> (Nat -> Nat) -> Rat} {d : List (Nat × Nat)}
theorem ajP (h:fW S n L φ) (b:(d.map (·.1)).Nodup) (f:∀p∈d,p.2<sz S p.1/\p.1<n) (h1:∀v,v< n ->∀u∈ag (L.getD v []),¬u∈d.map (·.1) ->u∈ag (L2.getD v [])) (j:∀v,v< n ->∀u∈ag (L2.getD v []),u∈ag (L.getD v [])/\¬u∈d.map (·.1))
  {fw:List (Nat×Nat)} (t:∀p∈fw,p.1<n/\p.2<sz S p.1) (y:∀p∈fy,p.1<n) (x:(fw.map (·.1)).Nodup) (V:∀p∈fy,¬p.1∈fw.map (·.1)) (R:∀p∈d,¬p.1∈fw.map (·.1)) (J:∀p∈fy,¬p.1∈d.map (·.1))
  (k:¬qX L2 n (fun v=>v∈fy.map (·.1)) (fun v=>v∈d.map (·.1)) (fun v=>v∈fw.map (·.1))):
  bV S n φ (fw++(fy++d))*bV S n (cM d φ) fw=bV S n (cM d φ) (fw++fy)*bV S n φ (fw++d):=by
 have a:fW S n L2 (A5 d φ):=h.isPin b (fun p a=>(f p a).1) h1 fun v i u g=>(j v i u g).1;have o:∀v,v< n ->∀u∈ag (L2.getD v []),¬u∈d.map (·.1):=fun v i u g=>(j v i u g).2;have M:=fun p a=>(f p a).2;have s:=fun p a=>(f p a).1
 have w:∀p∈fw,¬p.1∈d.map (·.1):=fun p a m=>by
  obtain⟨q,r,e⟩:=aH.1 m;exact R q r (aH.2 ⟨p,a,e.symm⟩)
 have e:=a.apart (fx:=fy) (fy:=d) (fz:=fw) (iw.ball k) y M t x V R;rw[aed b (fun p a=>aZ.2 (.inr (aZ.2 (.inr a)))),aed (l:=fw++([]++d)) b (fun p a=>aZ.2 (.inr (aZ.2 (.inr a))))] at e
 rw[h.pin_do b s M a o (l:=fw++([]++[])) (fun p c=>w p (by simpa using c)),h.pin_do b s M a o (l:=fw++(fy++[])) (fun p c=>by
  rcases aZ.1 c with m |m
  ·exact w p m
  ·exact J p (by simpa using m))] at e
 simpa using e
def ze (n:Nat) (L:List Kh) (d:List (Nat×Nat)):List Kh:=((List.range n).map fun v=>if v∈d.map (·.1) then L.getD v []++[(n:Int)] else L.getD v [])++[[]]
def mC (n:Nat) (d:List (Nat×Nat)) (φ:Nat ->(Nat ->Nat) ->Rat) (v:Nat) (g:Nat ->Nat):Rat:=if v=n then 1/2 else if v∈d.map (·.1)/\g n≠0 then jy v (dH d g v) g else φ v g
theorem amW (h:v<n):(ze n L d).getD v []=if v∈d.map (·.1) then L.getD v []++[(n:Int)] else L.getD v []:=by
 rw[ze,bF,GH (by simpa using h),kq,Jt h];rfl
theorem amV:(ze n L d).getD n []=[]:=by
 rw[ze,bF,AP aE];simp
theorem ait (l:Kh) (k:Nat):ag (l++[(k:Int)])=ag l++[k]:=by simp[ag]
theorem Hf (a:v<n):u∈ag ((ze n L d).getD v [])↔u∈ag (L.getD v [])∨(v∈d.map (·.1)/\u=n):=by
 rw[amW a];by_cases e:v∈d.map (·.1)
 ·rw[aw e,ait,aZ,dS];exact⟨fun h=>h.elim .inl fun h=>.inr ⟨e,h⟩,fun h=>h.elim .inl fun h=>.inr h.2⟩
 ·rw[aA e];exact⟨.inl,fun h=>h.elim id fun h=>absurd h.1 e⟩
theorem Ka:¬u∈ag ((ze n L d).getD n []):=by
 rw[amV];exact fun h=>by cases h
theorem Ey (a:S.length=n):sz (S++[2]) u=if u=n then 2 else sz S u:=by
 rw[sz,sz];rcases PU u n with h |h |h
 ·rw[GH al,aA al]
 ·rw[AP al,aw h];simp[h,a]
 ·rw[AP al,aA al,iA (by simp;omega),iA al]
theorem fW.more (h:fW S n L φ) (r:S.length=n) (z:(d.map (·.1)).Nodup) (E:∀p∈d,p.2<sz S p.1/\p.1<n):fW (S++[2]) (n+1) (ze n L d) (mC n d φ):=by
 obtain⟨s,Q⟩:=h.rank;have F:∀v,v< n ->¬n∈ag (L.getD v []):=fun v i m=>absurd (h.lt v i n m) (PX n)
 have D:∀ {g},Fit (S++[2]) g ->Fit S (aM g n 0):=fun {g} k u=>by
  by_cases e:u=n
  ·rw[e,GP];exact jE h.pos n
  ·rw[wD _ _ e];have:=k u;rwa [Ey r,aA e] at this
 have X:∀v,v< n ->∀g x,φ v (aM g n x)=φ v g:=fun v i g x=>h.only v i n al (F v i) g x;refine⟨fun x l=>?_,fun v i u w f g x=>?_,fun v i g k=>?_,fun v i g k=>?_,fun v i u f=>?_,fun u=>if u=n then 0 else s u+1,fun v i u f=>?_⟩
 ·rcases aZ.1 l with l |l
  ·exact h.pos x l
  ·rw[dS.1 l];decide
 ·by_cases e:v=n
  ·rw[mC,mC,aw e,aw e]
  ·have c:v<n:=al
   rw[mC,mC,aA e,aA e];have t:¬(u∈ag (L.getD v [])∨(v∈d.map (·.1)/\u=n)):=fun m=>f ((Hf c).2 m);by_cases b:v∈d.map (·.1)
   ·have K:u≠n:=fun q=>t (.inr ⟨b,q⟩);rw[wD _ _ (fun q=>K q.symm)];by_cases o:g n≠0
    ·rw[aw ⟨b,o⟩,aw ⟨b,o⟩,jy,jy,wD _ _ (fun a=>w a.symm),QK z b _ g]
    ·rw[aA fun a=>o a.2,aA fun a=>o a.2];exact h.only v c u w (fun m=>t (.inl m)) g x
   ·rw[aA fun a=>b a.1,aA fun a=>b a.1];exact h.only v c u w (fun m=>t (.inl m)) g x
 ·by_cases e:v=n
  ·rw[e,Ey r,aw rfl,fY (h:=fun _=>(1/2:Rat)) fun y _=>by rw[mC,aw rfl]];show 0+(1/2:Rat)+1/2=1;grind
  ·have c:v<n:=al
   rw[Ey r,aA e];by_cases b:v∈d.map (·.1)/\g n≠0
   ·obtain⟨p,A,rfl⟩:=aH.1 b.1;rw[fY (h:=fun y=>jy p.1 p.2 (aM g p.1 y)) fun y _=>?_]
    ·exact aep (E p A).1 g
    ·rw[mC,aA e,wD _ _ (fun a=>e a.symm),aw b,EF z (x:=p.2) A]
   ·rw[fY (h:=fun y=>φ v (aM (aM g n 0) v y)) fun y _=>?_]
    ·exact h.one v c _ (D k)
    ·rw[mC,aA e,wD _ _ (fun a=>e a.symm),aA b,GN _ _ _ e,X v c]
 ·by_cases e:v=n
  ·rw[mC,aw e];grind
  ·have c:v<n:=al
   rw[mC,aA e];split
   ·rw[jy];split<;>decide
   ·rw[<- X v c g 0];exact h.nn v c _ (D k)
 ·by_cases e:v=n
  ·rw[e] at f;exact absurd f Ka
  ·have c:v<n:=al
   rcases (Hf c).1 f with j |⟨_,j⟩
   ·have:=h.lt v c u j;omega
   ·omega
 ·by_cases e:v=n
  ·rw[e] at f;exact absurd f Ka
  ·have c:v<n:=al
   show (if u=n then 0 else s u+1)<(if v=n then 0 else s v+1);rw[aA e];rcases (Hf c).1 f with j |⟨_,j⟩
   ·have H:=h.lt v c u j;have I:=Q v c u j;rw[aA al];omega
   ·rw[aw j];omega
theorem ady {T:Ki} {F G:(Nat ->Nat) ->Rat}:∀(vs:Ki) (f:Nat ->Nat),(∀v∈vs,sz S v=sz T v) ->(∀g,Fit S g ->F g=G g) ->Fit S f ->cN S vs F f=cN T vs G f
 |[],f,_,hF,hf=>hF f hf
 |v::vs,f,h,hF,hf=>by
  rw[cN,cN, <- h v c5];exact fY fun x b=>ady vs _ (fun u a=>h u (dM _ a)) hF fun u=>Qo hf b u
theorem fW.like_more (h:fW S n L φ) (j:S.length=n) (t:∀p∈d,p.1<n) {l:List (Nat×Nat)} (w:∀p∈l,p.1<n) {y:Nat} (z:y<2):bV (S++[2]) (n+1) (mC n d φ) ((n,y)::l)=1/2*bV S n (if y=0 then φ else cM d φ) l:=by
 have a:(List.range (n+1)).Perm (n::List.range n):=by
  rw[uI];exact List.perm_append_comm (l₂:=[n])
 have q:(fun g=>bR ((n,y)::l) g*cC (mC n d φ) g (List.range (n+1)))=fun g=>jy n y g*(bR l g*cC (mC n d φ) g (n::List.range n)):=by
  funext g
  rw[bR,JS a,qu]
 have A:Fit (S++[2]) fun _=>0:=fun u=>by
  rw[Ey j];show 0<_;split
  ·exact Nat.zero_lt_two
  ·exact jE h.pos u
 rw[bV,q,adD (fun g=>bR l g*cC (mC n d φ) g (n::List.range n)) a qC (by rw[Ey j,aw rfl];exact z),bV]
 have Z:¬n∈d.map (·.1):=fun m=>by
  obtain⟨p,a,e⟩:=aH.1 m;have:=t p a;omega
 have X:∀v,v< n ->∀g x,φ v (aM g n x)=φ v g:=fun v b g x=>h.only v b n al (fun m=>absurd (h.lt v b n m) (PX n)) g x
 have r:∀g:Nat ->Nat,bR l (aM g n y)*cC (mC n d φ) (aM g n y) (n::List.range n)=1/2*(bR l g*cC (if y=0 then φ else cM d φ) g (List.range n)):=fun g=>by
  rw[Ou (fun p a=>by have:=w p a;omega),cC,mC,aw rfl];rw[Vx (φ:=mC n d φ) (ψ:=if y=0 then φ else cM d φ) (f:=g) (o:=List.range n) fun v b=>?_]
  ·grind
  ·have Y:=bM.1 b;rw[mC,aA al,GP];by_cases c:y=0
   ·rw[aA (fun k=>k.2 c),aw c,X v Y]
   ·rw[aA c,cM];by_cases i:v∈d.map (·.1)
    ·rw[aw ⟨i,c⟩,aw i,jy,jy,wD _ _ al];rw[Vq Z,wD _ _ al]
    ·rw[aA (fun k=>i k.1),aA i,X v Y]
 have s:=V0 (S:=S) (F:=fun _=>(1/2:Rat)) (G:=fun g=>bR l g*cC (if y=0 then φ else cM d φ) g (List.range n)) (List.range n) (fun _=>0) (fun _ _ _ _=>rfl);rw[<- s];refine ady _ _ (fun v b=>?_) (fun g _=>r g) A;have:=bM.1 b;rw[Ey j,aA al]
theorem ajR (h:fW S n L φ) (g:S.length=n) (hn:(d.map (·.1)).Nodup) (hd:∀p∈d,p.2<sz S p.1/\p.1<n) (hX:∀v,X v ->L.getD v []=[])
  {fw:List (Nat×Nat)} (hw:∀p∈fw,p.1<n/\p.2<sz S p.1) (hy:∀p∈fy,p.1<n) (wL:(fw.map (·.1)).Nodup) (uV:∀p∈fy,¬p.1∈fw.map (·.1)) (RY:∀p∈d,¬p.1∈fw.map (·.1)) (WJ:∀p∈fy,¬p.1∈d.map (·.1))
  (h2:∀v,v< n ->(¬v∈d.map (·.1)∨dL L (fun u=>u∈fw.map (·.1)/\¬X u) v) ->L2.getD v []=L.getD v [])
  (ho:¬qX L2 n (fun v=>v∈d.map (·.1)) (fun v=>v∈fy.map (·.1)) (fun v=>v∈fw.map (·.1))):
  bV S n φ (fw++fy)*bV S n (cM d φ) fw=bV S n (cM d φ) (fw++fy)*bV S n φ fw:=by
 have M:∀p∈d,p.1<n:=fun p a=>(hd p a).2
 have ao:∀v,v∈d.map (·.1) ->v<n:=fun v f=>by
  obtain⟨p,a,rfl⟩:=aH.1 f;exact M p a
 have Z:=h.more g hn hd;obtain⟨D,hD⟩:∃D:Nat ->Prop,D=fun v=>v∈d.map (·.1):=⟨_,rfl⟩;obtain⟨W,E⟩:∃W:Nat ->Prop,W=fun v=>v∈fw.map (·.1):=⟨_,rfl⟩;obtain⟨U,hU⟩:∃U:Nat ->Prop,U=fun v=>v∈fw.map (·.1)/\¬X v:=⟨_,rfl⟩;have t:∀v,D v↔v∈d.map (·.1):=fun v=>by rw[hD]
 have s:∀v,W v↔v∈fw.map (·.1):=fun v=>by rw[E]
 have V:∀v,U v↔W v/\¬X v:=fun v=>by rw[hU,E]
 rw[<- hU] at h2;rw[<- hD, <- E] at ho
 have ak:∀v,D v ->¬W v:=fun v f O=>by
  obtain⟨p,a,rfl⟩:=aH.1 ((t v).1 f);exact RY p a ((s _).1 O)
 have A:∀v,v< n ->(¬D v∨dL L U v) ->L2.getD v []=L.getD v []:=fun v f hc=>by
  exact h2 v f (hc.imp (fun h5 h6=>h5 ((t v).2 h6)) id)
 have aj:∀v,U v ->v<n:=fun v f=>by
  obtain⟨p,a,rfl⟩:=aH.1 ((s v).1 ((V v).1 f).1);exact(hw p a).1
 have NG:∀ {v},dL L U v ->v<n:=fun k=>k.lt aj h.lt
 have oN:∀ {v},dL (ze n L d) W v ->v< n ->dL L U v∨X v:=fun {v} k=>by
  induction k using dL.ind with
  | @base v f=>
   intro _;by_cases F:X v
   ·exact .inr F
   ·exact .inl (.base ((V v).2 ⟨f,F⟩))
  | @step v w _ a ih=>
   intro Y;by_cases R:w<n
   ·rcases (Hf R).1 a with b |⟨_,b⟩
    ·rcases ih R with i |i
     ·exact .inl (.step i b)
     ·rw[hX w i] at b;cases b
    ·omega
   ·have o:w=n∨¬w<n+1:=al
    rcases o with rfl |o
    ·exact absurd a Ka
    ·exfalso
     rw[ze,bF,iA (by simp;omega)] at a;cases a
 have af:∀ {v},dL L U v ->dL L2 W v:=fun {v} k=>by
  induction k using dL.ind with
  | @base v f=>exact .base ((V v).1 f).1
  | @step v w O a ih=>
   refine .step ih ?_;rw[A w (NG O) (.inr O)];exact a
 have hb:Cr (ze n L d) (n+1) (fun v=>v∈[(n,0)].map (·.1)) (fun v=>v∈fy.map (·.1)) (fun v=>v∈fw.map (·.1)) (fun v c=>v=n∨(v<n/\if c=true then iw L2 n D W v true/\dL L U v else iw L2 n D W v false∨D v)):=by
  refine⟨fun x F=>?_,fun v r z p a=>?_,fun v c r z w R a=>?_,fun v r z p a=>?_,fun y c P r=>?_⟩
  ·left;simpa using F
  ·rcases r with rfl |⟨Y,r⟩
   ·exact absurd a Ka
   ·rw[aw rfl] at r;rcases (Hf Y).1 a with b |⟨_,b⟩
    ·refine .inr ⟨h.lt v Y p b,?_⟩;rw[aw rfl];refine⟨.up r.1 (fun e=>z ((s v).1 e)) ?_,.step r.2 b⟩;rw[A v Y (.inr r.2)];exact b
    ·exact .inl b
  ·by_cases o:w=n
   ·rw[o] at a;exact absurd a Ka
   ·have j:w<n:=al
    refine .inr ⟨j,?_⟩;rw[aA Ux];by_cases Q:D w
    ·exact .inr Q
    ·rcases (Hf j).1 a with b |⟨b,_⟩
     ·have eZ:=h.lt w j v b;rcases r with i |⟨_,r⟩
      ·omega
      ·refine .inl ?_;have aa:¬W v:=fun e=>z ((s v).1 e);have K:v∈ag (L2.getD w []):=by rw[A w j (.inl Q)];exact b
       cases c with
       |true=>rw[aw rfl] at r;exact .down r.1 aa j K
       |false=>
        rw[aA Ux] at r;rcases r with r |r
        ·exact .down r aa j K
        ·exact .down (.start r) aa j K
     ·exact absurd ((t w).2 b) Q
  ·rcases r with rfl |⟨Y,r⟩
   ·exact absurd a Ka
   ·rw[aA Ux] at r;rw[<- E] at z;rcases (Hf Y).1 a with b |⟨_,b⟩
    ·have T:dL L U v:=by
      rcases oN z Y with i |i
      ·exact i
      ·rw[hX v i] at b;cases b
     refine .inr ⟨h.lt v Y p b,?_⟩;rw[aw rfl];(have K:p∈ag (L2.getD v []):=by rw[A v Y (.inr T)];exact b);refine⟨?_,.step T b⟩;rcases r with r |r
     ·exact .meet r (af T) K
     ·exact .up (.start r) (ak v r) K
    ·exact .inl b
  ·obtain⟨p,a,rfl⟩:=aH.1 P;rcases r with b |⟨_,r⟩
   ·have:=hy p a;omega
   ·cases c with
    |true=>rw[aw rfl] at r;exact ho ⟨_,_,P,r.1⟩
    |false=>
     rw[aA Ux] at r;rcases r with r |r
     ·exact ho ⟨_,_,P,r⟩
     ·exact WJ p a ((t _).1 r)
 have ai:∀ {v},v< n ->sz (S++[2]) v=sz S v:=fun f=>by rw[Ey g,aA al]
 have I:∀p∈fw,p.1<n:=fun p a=>(hw p a).1;have ab:∀p∈fw++fy,p.1<n:=fun p a=>(aZ.1 a).elim (I p) (hy p)
 have ae:∀y,y< 2 ->bV S n (if y=0 then φ else cM d φ) (fw++fy)*bV (S++[2]) (n+1) (mC n d φ) fw=bV S n (if y=0 then φ else cM d φ) fw*bV (S++[2]) (n+1) (mC n d φ) (fw++fy):=fun y ad=>by
  have an:Cr (ze n L d) (n+1) (fun v=>v∈[(n,y)].map (·.1)) (fun v=>v∈fy.map (·.1)) (fun v=>v∈fw.map (·.1)) _:=hb
  have e:=Z.apart an (fun p a=>by rw[dS.1 a];exact PW n) (fun p a=>Nat.lt_succ_of_lt (hy p a)) (fun p a=>⟨Nat.lt_succ_of_lt (I p a),by rw[ai (I p a)];exact(hw p a).2⟩) wL (fun p a Na=>by
   rw[dS.1 a] at Na;obtain⟨q,hq,e⟩:=aH.1 Na;have:=I q hq;have e':q.1=n:=e;omega) uV
  rw[Hh (l:=fw++([(n,y)]++fy)) (m:=(n,y)::(fw++fy)) (fun p=>by simp only[aZ,bT,fR,iV];grind),Hh (l:=fw++([(n,y)]++[])) (m:=(n,y)::fw) (fun p=>by simp only[aZ,bT,fR,iV];grind)] at e;rw[h.like_more g M ab ad,h.like_more g M I ad] at e;simp only[kQ,fX] at e;grind
 have k0:=ae 0 bd;have k1:=ae 1 bd;rw[aw rfl] at k0;rw[aA bd] at k1;have H:=aec (n:=n+1) (φ:=mC n d φ) Z.pos n fw;have J:=aec (n:=n+1) (φ:=mC n d φ) Z.pos n (fw++fy);rw[Ey g,aw rfl] at H J;simp only[bG] at H J;rw[h.like_more g M I bd,h.like_more g M I bd,aw rfl,aA bd] at H;rw[h.like_more g M ab bd,h.like_more g M ab bd,aw rfl,aA bd] at J;rw[<- H, <- J] at k0;grind
end
section
variable {S : Ki} {n : Nat} {L L2 : List Kh} {φ : Nat -> (Nat -> Nat) -> Rat} {d : List (Nat × Nat)}
open Classical in
end
variable {L:List Kh}
theorem afY (P:List Ki) (n:Nat):∀k,(bI P n k).ord=(List.range k).map (lG P n)
 |0=>rfl
 |k+1=>by rw[uI,eh, <- afY P n k];rfl
theorem amg (g:gB L=true):wH L=true↔∀v u,v<L.length ->u<L.length ->(decide (u∈(aF L).getD v [])=decide (v∈(aF L).getD u [])):=by
 rw[wH,g,GI,eG,Hg];have l:∀v,v<L.length ->v<(aF L).length:=fun v a=>by rw[jQ];exact a
 have m:=JV g
 have t:∀v,v<L.length ->∀u,u∈(aF L).getD v [] ->u<L.length:=fun v a u b=>by
  rw[bF,aV (l v a)] at b;exact m _ (bP (l v a)) u b
 have k:∀v,v<L.length ->((((aF L).map aB)[v]? =((lg (aF L) L.length L.length).map aB)[v]?)↔∀u,u<L.length ->(decide (u∈(aF L).getD v [])=decide (v∈(aF L).getD u []))):=fun v a=>by
  have d:((aF L).map aB)[v]? =some (aB ((aF L).getD v [])):=by rw[kq,bF,aV (l v a)];rfl
  have f:((lg (aF L) L.length L.length).map aB)[v]? =some (aB (eK (aF L) v L.length)):=by simp[lg,a]
  rw[d,f];constructor
  ·intro e u b;have c:=ko e;have i:=pP ((aF L).getD v []) u;have j:=pP (eK (aF L) v L.length) u;rw[<- i,c,j,Ej,FP];exact⟨fun h=>h.2,fun h=>⟨b,h⟩⟩
  ·intro h;congr 1
   refine Q9 fun u=>?_;rw[FP];constructor
   ·intro b;have:=t v a u b;exact⟨this,(Ej.1 (h u this)).1 b⟩
   ·exact fun b=>(Ej.1 (h u b.1)).2 b.2
 constructor
 ·intro e v u a b;exact(k v a).1 (by rw[e]) u b
 ·intro h;refine LZ fun v=>?_;rcases dG v L.length with a |a
  ·exact(k v a).2 fun u b=>h v u a b
  ·rw[iA (by rw[cH,jQ];exact a),iA (by rw[cH,Zw];exact a)]
theorem aka (p:Nat ->Bool) (n:Nat):dN (iL ((List.range n).filter p)) n=true:=by
 have hs:((List.range n).filter p).Pairwise (·<·):=List.Pairwise.filter _ List.pairwise_lt_range;refine eX.2 fun i a=>?_;have h:i<((List.range n).filter p).length:=by rw[bM,bL] at a;exact a
 have g:∀j (b:j<((List.range n).filter p).length),(iL ((List.range n).filter p)).getD j 0=(((List.range n).filter p)[j]:Int):=fun j b=>by
  rw[bF,iL,kq,aV b];rfl
 refine bX ⟨?_,?_,fun c=>?_⟩
 ·rw[g i h];omega
 ·rw[g i h];have:=bM.1 (cQ.1 (bP h)).1;omega
 ·rw[g i h,g (i - 1) al];have:=(yS.1 hs) (i - 1) i al h al;omega
def oJ (L:List Kh):List Kh:=(oI (aF L) L.length L.length).map eY
theorem CS (L:List Kh):(oJ L).length=L.length:=by simp[oJ,oI]
theorem amZ (h:v<L.length):(aF (oJ L)).getD v []=bQ (jG (aF L) v L.length) 8:=by
 rw[bF,aF,kq,oJ,kq,oI,kq,Jt h];show ag (eY _)=_;rw[eY,iJ]
theorem Wc (g:gB L=true):∀v,∀u∈(aF L).getD v [],u<L.length/\v<L.length:=fun v u a=>by
 refine⟨(J9 g).at v u a,?_⟩;by_cases h:v<L.length
 ·exact h
 ·rw[bF,iA (by rw[jQ];omega)] at a;cases a
theorem Rb (b:L.length<=8) (a:v<L.length) (c:u<L.length):u∈(aF (oJ L)).getD v []↔u≠v/\∃x,x<L.length/\v∈jA (aF L) x/\u∈jA (aF L) x:=by
 rw[amZ a,uU,MH];exact⟨fun h=>h.2,fun h=>⟨al,h⟩⟩
theorem adU (g:gB L=true) (h1:1<=L.length) (a:L.length<=8):gB (oJ L)=true:=by
 refine afJ (by rw[CS];exact h1) (by rw[CS];exact a) fun i b=>?_;have c:i<L.length:=by rwa [CS] at b
 have e:(oJ L)[i]=eY (jG (aF L) i L.length):=by simp[oJ,oI]
 rw[e,CS];refine⟨?_,?_⟩
 ·rw[<- amN (Wc g) a c];exact aka _ _
 ·rw[eY,iJ,uU,MH];exact fun h=>h.2.1 rfl
theorem amY (i:gB L=true) (h1:1<=L.length) (d:L.length<=8):wH (oJ L)=true:=by
 refine(amg (adU i h1 d)).2 fun v u g f=>?_;rw[CS] at g f;rw[Ej,Rb d g f,Rb d f g];exact⟨fun ⟨h,x,a,b,c⟩=>⟨fun e=>h e.symm,x,a,c,b⟩,fun ⟨h,x,a,b,c⟩=>⟨fun e=>h e.symm,x,a,c,b⟩⟩
def jx (L:List Kh):Ki:=(bI (aF (oJ L)) (oJ L).length (oJ L).length).ord
theorem adb (k:gB L=true) (h1:1<=L.length) (d:L.length<=8):ahd L.length (lG (aF (oJ L)) L.length) (nrO (aF (oJ L)) L.length):=by
 have g:vG L.length (aF (oJ L)):=by have:=J9 (adU k h1 d);rwa [CS] at this
 refine apU g (fun u i w f=>?_) d;have j:=g.at u w f;rw[Rb d i j] at f;rw[Rb d j i];obtain⟨h,x,a,b,c⟩:=f;exact⟨fun e=>h e.symm,x,a,c,b⟩
theorem Q4 (L:List Kh):jx L=(List.range L.length).map (lG (aF (oJ L)) L.length):=by rw[jx,CS,afY]
theorem adf (g:gB L=true) (h1:1<=L.length) (h:L.length<=8):(jx L).Nodup:=by
 rw[Q4,List.Nodup,AO];refine List.Pairwise.imp_of_mem (fun {i j} a b c e=>?_) (qC (n:=L.length));exact c ((adb g h1 h).inj i j (bM.1 a) (bM.1 b) e)
theorem adg (g:gB L=true) (h1:1<=L.length) (h:L.length<=8) (b:v<L.length):v∈jx L:=by
 obtain⟨i,a,e⟩:=(adb g h1 h).all v b;rw[Q4];exact aH.2 ⟨i,bM.2 a,e⟩
variable {l:Kh} {cb cc m n:Nat} {a:Kd} {v' x y:Value} {W' w w':World}
def eL (w:World) (x y:Value) (t:Tb):Prop:=∃b c cb cc,x=.slice b t.1.length cb/\y=.slice c t.2.length cc/\aC w b t.1/\cE w c t.2/\(b=none ->cb=0)
theorem eL.aa {t:Tb} (h:eL w x y t) (a:db w w'):eL w' x y t:=by
 obtain⟨b,c,cb,cc,d,e,f,g,i⟩:=h;exact⟨b,c,cb,cc,d,e,f.aa a,g.aa a,i⟩
def jf (w:World) (a:Kd) (P:List Tb):Prop:=∀k (h:k<P.length),∃g o x y,a=some ⟨g,o,none⟩/\g<w.heap.size/\w.cell? ⟨g,o+k*2,none⟩=some x/\w.cell? ⟨g,o+k*2+1,none⟩=some y/\eL w x y P[k]
theorem jf.aa {P:List Tb} (h:jf w a P) (b:db w w'):jf w' a P:=fun k j=>by
 obtain⟨g,o,x,y,d,c,e,f,i⟩:=h k j;exact⟨g,o,x,y,d,aO c b.size,(b.cell (p:=⟨g,_,none⟩) c).trans e,(b.cell (p:=⟨g,_,none⟩) c).trans f,i.aa b⟩
def fH:List (Value×Value) ->List Value
 |[]=>[]
 |p::l=>p.1::p.2::fH l
theorem Mi:∀l,(fH l).length=l.length*2
 |[]=>rfl
 |p::l=>by
  show (fH l).length+1+1=(l.length+1)*2;rw[Mi l];omega
theorem Mj (m:List (Value×Value)):∀l,fH (l++m)=fH l++fH m
 |[]=>rfl
 |q::l=>by
  show _::_::fH (l++m)=_::_::(fH l++fH m);rw[Mj m l]
theorem Qs:∀(l:List (Value×Value)) (k:Nat) (h:k<l.length),(fH l)[k*2]? =some l[k].1/\(fH l)[k*2+1]? =some l[k].2
 |p::l,0,_=>⟨rfl,rfl⟩
 |p::l,k+1,h=>by
  have:=Qs l k (by simpa using h);rw[show (k+1)*2=k*2+1+1 by omega];exact this
def ig (R:Nat) (t:Tb) (p:Value×Value):Prop:=(∀g o n c,p.1=.slice (some ⟨g,o,none⟩) n c ->t.1≠[] ->g≠R)/\∀g o n c,p.2=.slice (some ⟨g,o,none⟩) n c ->t.2≠[] ->g≠R
structure mR (w:World) (B:Nat) (v:Value) (Q:List (Value×Value)) (P:List Tb):Prop where
 len:Q.length=P.length
 own:w.ownsRow B 38 2 v P.length (fH Q)
 val:∀k (h:k<P.length) (h':k<Q.length),eL w Q[k].1 Q[k].2 P[k]
 far:∀R,v.ownBlock=some R ->∀k (h:k<P.length) (h':k<Q.length),ig R P[k] Q[k]
theorem mR.nil (w:World) (B:Nat):mR w B (.slice none 0 0) [] []:=⟨rfl,⟨rfl,.inl ⟨rfl,rfl⟩⟩,(fun k h=>absurd h aE),fun R e=>by cases e⟩
theorem mR.row {B:Nat} {v:Value} {Q:List (Value×Value)} {P:List Tb} (h:mR w B v Q P):∃a c,v=.slice a P.length c/\jf w a P:=by
 rcases h.own.2 with ⟨d,f⟩ |⟨g,cap,s,d,f,i,o,p,r,m⟩
 ·exact⟨none,0,by rw[d,f],fun k b=>absurd b al⟩
 ·refine⟨_,cap,d,fun k b=>?_⟩;have F:k<Q.length:=by rw[h.len];exact b
  obtain⟨q,n⟩:=Qs Q k F;have t:=Mi Q
  have l:∀j u,(fH Q)[j]? =some u ->w.cell? ⟨g,j,none⟩=some u:=fun j u e=>by
   rw[bh w g j _ _ (0,0) i];have L:=(nk.1 e).1;rw[<- m,wy,aw (by have:=h.len;omega),AV] at e;exact e
  exact⟨g,0,_,_,rfl,(dD.1 i).1,by rw[bH];exact l _ _ q,by rw[bH];exact l _ _ n,h.val k b F⟩
theorem MQ {W:World} {R:Option Nat} {b:Kd} (h:aC W b l) (n:∀g o,b=some ⟨g,o,none⟩ ->l≠[] ->some g≠R) (a:W.grownBy W' R):aC W' b l:=fun k d=>by
 obtain⟨g,o,e,c,f⟩:=h k d;have i:=n g o e (fun e=>by rw[e] at d;exact absurd d aE);exact⟨g,o,e,aO c a.size,(iz (a.block g c i)).trans f⟩
theorem apE {W:World} {R:Option Nat} {b:Kd} {l:List Fr} (h:cE W b l) (p:∀g o,b=some ⟨g,o,none⟩ ->l≠[] ->some g≠R) (i:W.grownBy W' R):cE W' b l:=fun k d=>by
 obtain⟨g,o,e,f,j,m,n⟩:=h k d;have q:=p g o e (fun e=>by rw[e] at d;exact absurd d aE);have c:=i.block g f q;exact⟨g,o,e,aO f i.size,(iz (a:=⟨g,_,none⟩) c).trans j,(iz (a:=⟨g,_,none⟩) c).trans m,(iz (a:=⟨g,_,none⟩) c).trans n⟩
theorem eL.keepR {W:World} {R:Option Nat} {t:Tb} (h:eL W x y t) (f:∀r,R=some r ->ig r t (x,y)) (d:W.grownBy W' R):eL W' x y t:=by
 obtain⟨b,c,cb,cc,rfl,rfl,i,j,k⟩:=h;refine⟨b,c,cb,cc,rfl,rfl,MQ i (fun g o e n a=>?_) d,apE j (fun g o e n a=>?_) d,k⟩
 ·exact(f g a.symm).1 g o _ _ (by rw[e]) n rfl
 ·exact(f g a.symm).2 g o _ _ (by rw[e]) n rfl
theorem eL.lt {t:Tb} (h:eL w x y t) {R:Nat} (r:w.heap.size<=R):ig R t (x,y):=by
 obtain⟨b,c,cb,cc,rfl,rfl,i,j,q⟩:=h;refine⟨fun g o n f e d k=>?_,fun g o n f e d k=>?_⟩
 ·injection e with e1 _ _;obtain⟨g',p,a,m,_⟩:=i 0 (by cases ht:t.1 with |nil=>exact absurd ht d |cons x l=>simp);rw[e1] at a;cases a;omega
 ·injection e with e1 _ _;obtain⟨g',p,a,m,_⟩:=j 0 (by cases ht:t.2 with |nil=>exact absurd ht d |cons x l=>simp);rw[e1] at a;cases a;omega
theorem mR.push {B:Nat} {v:Value} {Q:List (Value×Value)} {P:List Tb} {t:Tb} (h:mR w B v Q P) (b:eL w x y t) (f:∀R,v.ownBlock=some R ->ig R t (x,y)) (o:w'.ownsRow B 38 2 v' (P.length+1) (fH Q++[x,y])) (g:w.grownBy w' v.ownBlock) (n:v'.ownBlock=v.ownBlock∨∀k,v'.ownBlock=some k ->w.heap.size<=k):mR w' B v' (Q++[(x,y)]) (P++[t]):=by
 have e:(P++[t]).length=P.length+1:=aE
 refine⟨by simp[h.len],by rw[e,Mj];exact o,fun k c l=>?_,fun R a k c l=>?_⟩
 ·by_cases d:k<P.length
  ·have i:k<Q.length:=by rw[h.len];exact d
   rw[nh i,nh d];exact(h.val k d i).keepR (fun r j=>h.far r j k d i) g
  ·have i:¬k<Q.length:=by rw[h.len];exact d
   rw[tI al,tI al];simp only[P7];exact b.keepR f g
 ·by_cases d:k<P.length
  ·have i:k<Q.length:=by rw[h.len];exact d
   rw[nh i,nh d];rcases n with n |n
   ·exact h.far R (by rw[<- n];exact a) k d i
   ·exact(h.val k d i).lt (n R a)
  ·have i:¬k<Q.length:=by rw[h.len];exact d
   rw[tI al,tI al];simp only[P7];rcases n with n |n
   ·exact f R (by rw[<- n];exact a)
   ·exact b.lt (n R a)
theorem mR.under {B:Nat} {v:Value} {Q:List (Value×Value)} {P:List Tb} (h:mR w B v Q P) (b:db w w'):mR w' B v Q P:=
 ⟨h.len,JY h.own (Du.aa b),fun k a c=>(h.val k a c).aa b,h.far⟩
theorem mR.lt {B:Nat} {v:Value} {Q:List (Value×Value)} {P:List Tb} (h:mR w B v Q P):∀R,v.ownBlock=some R ->B<=R/\R<w.heap.size:=fun R a=>by
 rcases h.own.2 with ⟨b,c⟩ |⟨g,cap,r,b,c,d,_⟩
 ·rw[b] at a;cases a
 ·rw[b] at a;cases a;exact⟨c,(dD.1 d).1⟩
theorem ig.new {B R:Nat} {t:Tb} {b c:Kd} (h:iR B b cb) (d:iR B c cc) (i:R<B):ig R t (.slice b n cb,.slice c m cc):=
 ⟨fun g o f a e _=>by
  injection e with e1 _ _;have:=h.2 g o e1;omega,fun g o f a e _=>by
  injection e with e1 _ _;have:=d.2 g o e1;omega⟩
theorem Tryz.infoTable:(Tryz.prog.info? 38).map (fun i=>(i.zero,i.size,i.bytes))=some (some (.agg #[.slice none 0 0,.slice none 0 0]),2,48):=ao
variable {D E c d:Nat} {p q:Rat}
def fQ (D:Nat) (q:Rat):Prop:=∃z:Int,q=mkRat z D
theorem fQ.own (q:Rat):fQ q.den q:=⟨q.num,(Rat.mkRat_self q).symm⟩
theorem fQ.zero (D:Nat):fQ D 0:=⟨0,aE⟩
theorem fQ.one:fQ 1 1:=⟨1,rfl⟩
theorem fQ.add (h:fQ D p) (a:fQ D q):fQ D (p+q):=by
 obtain⟨x,rfl⟩:=h;obtain⟨y,rfl⟩:=a;refine⟨x+y,?_⟩;rw[Rat.mkRat_eq_div,Rat.mkRat_eq_div,Rat.mkRat_eq_div,tH,tH,tH, <- Rat.add_mul,Rat.intCast_add]
theorem fQ.mul (h:fQ D p) (a:fQ E q):fQ (D*E) (p*q):=by
 obtain⟨x,rfl⟩:=h;obtain⟨y,rfl⟩:=a;exact⟨x*y,Rat.mkRat_mul_mkRat ..⟩
theorem fQ.times (a:D≠0) (h:fQ D q) (b:E≠0):fQ (D*E) q:=by
 obtain⟨x,rfl⟩:=h;refine⟨x*E,?_⟩;rw[Rat.mkRat_eq_iff a (Gt a b),mo,Int.mul_assoc,Int.mul_comm (E:Int)]
theorem fQ.dvd (a:D≠0) (h:fQ D q):q.den∣D:=by
 obtain⟨x,rfl⟩:=h;rw[<- Rat.normalize_eq_mkRat a,Rat.normalize_eq];exact Nat.div_dvd_of_dvd (Nat.gcd_dvd_right _ _)
def l8 (c:Nat) (q:Rat):Prop:=0<=q/\q<=(c:Rat)
theorem fQ.size (b:D≠0) (h:fQ D q) (d:l8 c q):qw q<=2*(B D).size+(B c).size:=by
 have e:=Nat.le_of_dvd (lA b) (h.dvd b);have a:=(Rat.le_iff _ _).1 d.2;have i:=Rat.num_nonneg.2 d.1
 have j:q.num.natAbs<=c*D:=by
  have f:((c:Nat):Rat).num=(c:Int):=rfl;have g:((c:Nat):Rat).den=1:=rfl;rw[f,g] at a;have k:(c:Int)*(q.den:Int)<=(c:Int)*(D:Int):=Int.mul_le_mul_of_nonneg_left (Int.ofNat_le.2 e) (Qd c)
  have l:q.num<=(c:Int)*(D:Int):=by
   (have:q.num*((1:Nat):Int)=q.num:=aE);rw[this] at a;exact Int.le_trans a k
  have m:((q.num.natAbs:Nat):Int)=q.num:=Int.natAbs_of_nonneg i;have n:((q.num.natAbs:Nat):Int)<=((c*D:Nat):Int):=by rw[m,mo];exact l
  exact Int.ofNat_le.1 n
 have s:=kW j;have o:=A0 c D;have p:=kW e;simp only[qw];omega
theorem l8.mul (h:l8 c p) (a:l8 d q):l8 (c*d) (p*q):=by
 refine⟨Rat.mul_nonneg h.1 a.1,?_⟩;rw[Rat.natCast_mul];exact Rat.le_trans (Rat.mul_le_mul_of_nonneg_right h.2 a.1) (Rat.mul_le_mul_of_nonneg_left a.2 (Rat.le_trans h.1 h.2))
theorem l8.add (h:l8 c p) (a:l8 d q):l8 (c+d) (p+q):=by
 refine⟨Rat.add_nonneg h.1 a.1,?_⟩;rw[Rat.natCast_add];exact Rat.le_trans (Rat.add_le_add_right.2 h.2) (Rat.add_le_add_left.2 a.2)
theorem fQ.sum {g:Nat ->Rat}:∀ {k:Nat},(∀x,x< k ->fQ D (g x)) ->fQ D (bG g k)
 |0,_=>fQ.zero D
 |k+1,h=>by rw[bG];exact(fQ.sum fun x a=>h x al).add (h k (PW k))
theorem l8.sum {g:Nat ->Rat}:∀ {k:Nat},(∀x,x< k ->l8 c (g x)) ->l8 (k*c) (bG g k)
 |0,_=>by rw[bG,nW];exact⟨LJ,LJ⟩
 |k+1,h=>by rw[bG,Nat.succ_mul];exact(l8.sum fun x a=>h x al).add (h k (PW k))
variable {R:List (List Fr)} {V:List Vr} {f:Nat ->Nat}
structure p9 (S:Ki) (t:Tb) (D c:Nat):Prop where
 nz:D≠0
 one:1<=c
 isD:∀g,Fit S g ->fQ D (tQ S (tN t) g)
 btw:∀g,Fit S g ->l8 c (tQ S (tN t) g)
def PD (S:Ki) (P:List Tb) (D c:Nat):Prop:=∀M:List Tb ->Nat ->Nat ->Prop,M [] 1 1 ->(∀t P D c E d,p9 S t D c ->M P E d ->M (t::P) (D*E) (c*d)) ->M P D c
theorem PD.nil:PD S [] 1 1:=fun _ h _=>h
theorem PD.cons {t:Tb} {P:List Tb} (h:p9 S t D c) (p:PD S P E d):PD S (t::P) (D*E) (c*d):=fun M b a=>a _ _ _ _ _ _ h (p M b a)
theorem PD.ind {M:∀P D c,PD S P D c ->Prop} (nil:M [] 1 1 .nil) (cons:∀ {t:Tb} {P:List Tb} {D c E d:Nat} (h:p9 S t D c) (p:PD S P E d),M P E d p ->M (t::P) (D*E) (c*d) (.cons h p)):∀ {P:List Tb} {D c:Nat} (h:PD S P D c),M P D c h:=fun {_ _ _} h=>by
 obtain⟨_,k⟩:=h (fun P D c=>∃h,M P D c h) ⟨_,nil⟩ (fun _ _ _ _ _ _ a ⟨_,i⟩=>⟨_,cons a _ i⟩);exact k
theorem PD.nz {P:List Tb} (h:PD S P D c):D≠0/\1<=c:=by
 induction h using PD.ind with
 |nil=>exact⟨bd,bd⟩
 |cons ht _ ih=>exact⟨Gt ht.nz ih.1,kp ht.one ih.2⟩
theorem PD.append {P Q:List Tb} (h:PD S P D c) (q:PD S Q E d):PD S (P++Q) (D*E) (c*d):=by
 induction h using PD.ind with
 |nil=>rw[kO,kO];exact q
 |cons ht _ ih=>rw[jh,jh];exact PD.cons ht ih
theorem PD.single {t:Tb} (h:p9 S t D c):PD S [t] D c:=by
 have:=PD.cons h (PD.nil (S:=S));rwa [qA,qA] at this
theorem PD.parts (p:Tb ->Bool) {P:List Tb} (h:PD S P D c):∃a e b f,PD S (P.filter fun t=>!p t) a e/\PD S (P.filter p) b f/\a*b=D/\e*f=c:=by
 induction h using PD.ind with
 |nil=>exact⟨1,1,1,1,.nil,.nil,rfl,rfl⟩
 | @cons t P D c E d ht _ ih=>
  obtain⟨a,e,b,f,g,i,rfl,rfl⟩:=ih;cases hp:p t with
  |false=>
   refine⟨D*a,c*e,b,f,?_,?_,jh ..,jh ..⟩
   ·rw[yX (by simp[hp])];exact .cons ht g
   ·rw[yY (by simp[hp])];exact i
  |true=>
   refine⟨a,e,D*b,c*f,?_,?_,Cy ..,Cy ..⟩
   ·rw[yY (by simp[hp])];exact g
   ·rw[yX hp];exact .cons ht i
theorem PD.prod {P:List Tb} (h:PD S P D c) {g:Nat ->Nat} (a:Fit S g):fQ D (pQ S g (P.map tN))/\l8 c (pQ S g (P.map tN)):=by
 induction h using PD.ind with
 |nil=>exact⟨fQ.one,by rw[ng,pQ];exact⟨bd,bd⟩⟩
 |cons ht _ ih=>rw[fG,pQ];exact⟨(ht.isD g a).mul ih.1,(ht.btw g a).mul ih.2⟩
theorem PD.all (p:Pos S) {P:List Tb} (o:∀t∈P,eC S n t) (h:PD S P D c):p9 S (allT S P) D c:=by
 obtain⟨_,_,b⟩:=BP p o;exact⟨h.nz.1,h.nz.2,fun g a=>by rw[b g a];exact(h.prod a).1,fun g a=>by rw[b g a];exact(h.prod a).2⟩
theorem p9.o (p:Pos S) {t:Tb} (o:eC S n t) (h:p9 S t D c) (v:Nat):p9 S (outT S v false t) D (sz S v*c):=by
 have e:∀g,Fit S g ->tQ S (tN (outT S v false t)) g=bG (fun x=>tQ S (tN t) (aM g v x)) (sz S v):=fun g a=>abe p (wJ o.up _).nodup (EO o.up v) _ a;refine⟨h.nz,kp (jE p v) h.one,fun g a=>?_,fun g a=>?_⟩
 ·rw[e g a];exact fQ.sum fun x b=>h.isD _ (a.with b)
 ·rw[e g a];exact l8.sum fun x b=>h.btw _ (a.with b)
theorem p9.most (p:Pos S) {t:Tb} (o:eC S n t) (h:p9 S t D c) (v:Nat):p9 S (outT S v true t) D c:=by
 have s:=jE p v
 have e:∀g,Fit S g ->∃x,x<sz S v/\tQ S (tN (outT S v true t)) g=tQ S (tN t) (aM g v x):=fun g a=>by
  have d:tQ S (tN (outT S v true t)) g=kz true (fun x=>tQ S (tN t) (aM g v x)) (sz S v - 1):=abf p (wJ o.up _).nodup (EO o.up v) _ a;obtain⟨x,b,f⟩:=ME (fun x=>tQ S (tN t) (aM g v x)) (sz S v - 1);exact⟨x,al,d.trans f⟩
 refine⟨h.nz,h.one,fun g a=>?_,fun g a=>?_⟩
 ·obtain⟨x,b,e⟩:=e g a;rw[e];exact h.isD _ (a.with b)
 ·obtain⟨x,b,e⟩:=e g a;rw[e];exact h.btw _ (a.with b)
theorem p9.fix (p:Pos S) {t:Tb} (o:eC S n t) (h:p9 S t D c) {x:Nat} (b:x<sz S v):p9 S (lR S v x t) D c:=by
 have e:∀g,Fit S g ->tQ S (tN (lR S v x t)) g=tQ S (tN t) (aM g v x):=fun g a=>UY p (wJ o.up _).nodup (EO o.up v) _ a;exact⟨h.nz,h.one,fun g a=>by rw[e g a];exact h.isD _ (a.with b),fun g a=>by rw[e g a];exact h.btw _ (a.with b)⟩
theorem PD.o (p:Pos S) {P:List Tb} (e:∀t∈P,eC S n t) (h:PD S P D c) (v:Nat):PD S (mq S v false P) D (sz S v*c):=by
 obtain⟨g,j,i,k,b,d,rfl,rfl⟩:=h.parts fun t=>decide (v∈ag t.1);have a:∀t∈P.filter (fun t=>decide (v∈ag t.1)),eC S n t:=fun t f=>e t (cQ.1 f).1;have:=b.append (PD.single ((d.all p a).o p (BP p a).1 v));rw[Cy] at this;exact this
theorem PD.most (p:Pos S) {P:List Tb} (d:∀t∈P,eC S n t) (h:PD S P D c) (v:Nat):PD S (mq S v true P) D c:=by
 obtain⟨f,i,g,j,a,b,rfl,rfl⟩:=h.parts fun t=>decide (v∈ag t.1);have o:∀t∈P.filter (fun t=>decide (v∈ag t.1)),eC S n t:=fun t e=>d t (cQ.1 e).1;exact a.append (PD.single ((b.all p o).most p (BP p o).1 v))
theorem PD.fix (p:Pos S) {P:List Tb} (h:PD S P D c) (o:∀t∈P,eC S n t) {x:Nat} (a:x<sz S v):PD S (P.map (lR S v x)) D c:=by
 induction h using PD.ind with
 |nil=>exact .nil
 |cons ht _ ih=>exact .cons (ht.fix p (o _ c5) a) (ih fun t h=>o t (dM _ h))
theorem p9.size {t:Tb} (h:p9 S t D c) {g:Nat ->Nat} (a:Fit S g):qw (tQ S (tN t) g)<=2*(B D).size+(B c).size:=(h.isD g a).size h.nz (h.btw g a)
def p7:List Fr ->Nat
 |[]=>1
 |f::l=>(ba f).den*p7 l
theorem KS:∀l,p7 l≠0
 |[]=>bd
 |f::l=>Gt (ba f).den_nz (KS l)
theorem ago:∀ {l:List Fr} {f:Fr},f∈l ->fQ (p7 l) (ba f)
 |g::l,f,h=>by
  rcases bT.1 h with rfl |h
  ·exact(fQ.own _).times (ba f).den_nz (KS l)
  ·rw[p7,eB];exact(ago h).times (KS l) (ba g).den_nz
def gP (R:List (List Fr)):Ki ->Nat
 |[]=>1
 |v::vs=>p7 (R.getD v [])*gP R vs
theorem anv (h0:aW V L R=0) (l:v<V.length) (b:Fit (ar V) f):ba (fk V L R f v)<=1:=by
 have m:=row_one h0 l b
 have q:∀ {g:Nat ->Rat} {k x:Nat},x< k ->(∀y,y< k ->0<=g y) ->g x<=bG g k:=fun {g k x} o i=>by
  have t:∀j,j<=k ->0<=bG g j:=fun j=>by
   induction j with
   |zero=>intro _;exact LJ
   |succ j ih=>intro n;rw[bG];exact Rat.add_nonneg (ih al) (i j al)
  have:∀j,x< j ->j<=k ->g x<=bG g j:=fun j=>by
   induction j with
   |zero=>intro h;omega
   |succ j ih=>
    intro h n;rw[bG];rcases dG x j with E |E
    ·have a:=(Rat.add_le_add_left (c:=bG g j)).2 (i j al);rw[Rat.add_zero] at a;exact Rat.le_trans (ih E al) a
    ·have e:x=j:=al
     have a:=(Rat.add_le_add_right (c:=g j)).2 (t j al);rw[Rat.zero_add] at a;rw[e];exact a
  exact this k o (ah _)
 have d:=q (g:=fun x=>ba (fk V L R (aM f v x) v)) (k:=sz (ar V) v) (b v) fun y p=>Rg h0 l (b.with p);rw[m] at d;simpa only[aaS] using d
theorem PD.net (h0:aW V L R=0):∀ {ws:Ki},(∀v∈ws,v<V.length) ->PD (ar V) (ws.map fun v=>(gU L v,gL V L R v)) (gP R ws) 1
 |[],_=>.nil
 |v::ws,h=>by
  have b:=h v c5;have c:=gC h0;have O:v<L.length:=by rw[c.len];exact b
  have s:v<R.length:=by rw[c.lenR];exact b
  have t:p9 (ar V) (gU L v,gL V L R v) (p7 (R.getD v [])) 1:=by
   have e:∀g,Fit (ar V) g ->tQ (ar V) (tN (gU L v,gL V L R v)) g=ba (fk V L R g v):=fun g a=>UX h0 b a;refine⟨KS _,ah _,fun g a=>?_,fun g a=>?_⟩
   ·rw[e g a,fk,cT];cases hk:(R.getD v [])[sO (ar V) (ag (L.getD v [])) g v]? with
    |none=>exact⟨0,by rw[Option.getD_none];show ba yr=_;rw[show ba yr=0 from L9 rfl];simp⟩
    |some f=>exact ago (Uq hk)
   ·rw[e g a];exact⟨Rg h0 b a,anv h0 b a⟩
  exact PD.cons t (PD.net h0 fun u d=>h u (dM _ d))
theorem apO (S:Ki) (v x:Nat) (t:Tb):Low (lR S v x t).2:=fun f h=>by
 obtain⟨K,_,rfl⟩:=aH.1 h;rw[nP]
theorem aly (S:Ki) (v:Nat) (m:Bool) (t:Tb):Low (outT S v m t).2:=fun f h=>by
 obtain⟨K,_,rfl⟩:=aH.1 h;rw[nP]
theorem apl (V:List Vr) (L:List Kh) (R:List (List Fr)) (v:Nat):Low (gL V L R v):=fun f h=>by
 obtain⟨K,_,rfl⟩:=aH.1 h;rw[nP]
structure gW (S:Ki) (n:Nat) (P:List Tb) (D c:Nat):Prop where
 ok:∀t∈P,eC S n t
 pd:PD S P D c
 low:∀t∈P,Low t.2
theorem PD.each {P:List Tb} (h:PD S P D c):∀t∈P,∃E d,p9 S t E d/\E<=D/\d<=c:=by
 induction h using PD.ind with
 |nil=>intro t g;cases g
 | @cons t P D c E d h1 h2 ih=>
  have n:=h2.nz;have f:=lA n.1;intro u a;rcases bT.1 a with rfl |a
  ·exact⟨D,c,h1,Nat.le_mul_of_pos_right D f,Nat.le_mul_of_pos_right c n.2⟩
  ·obtain⟨b,e,k,i,j⟩:=ih u a;exact⟨b,e,k,aL i (Em E (lA h1.nz)),aL j (Em d h1.one)⟩
theorem PD.take {P:List Tb} (h:PD S P D c):∀k,∃E d,PD S (P.take k) E d/\E<=D/\d<=c:=by
 induction h using PD.ind with
 |nil=>intro k;exact⟨1,1,by rw[List.take_nil];exact .nil,ah _,ah _⟩
 | @cons t P D c E d h1 h2 ih=>
  have n:=h2.nz;intro k;cases k with
  |zero=>
   exact⟨1,1,.nil,LO (lA h1.nz) (lA n.1),LO h1.one n.2⟩
  |succ k=>
   obtain⟨a,b,e,f,g⟩:=ih k;exact⟨D*a,c*b,.cons h1 e,mi _ f,mi _ g⟩
theorem PD.filter {P:List Tb} (h:PD S P D c) (p:Tb ->Bool):∃E d,PD S (P.filter p) E d/\E<=D/\d<=c:=by
 obtain⟨j,k,b,e,i,a,f,g⟩:=h.parts p;have n:=i.nz;have l:=a.nz;exact⟨b,e,a,by rw[<- f];exact Em _ (lA n.1),by rw[<- g];exact Em _ n.2⟩
theorem abd (p:Pos S) {t:Tb} (i:eC S n t) (o:Low t.2) (h:p9 S t E d) (j:E<=D) (l:d<=c) (s:2*(B D).size+(B c).size+2<=m):Cw m t.2:=fun k a=>by
 have f:k<cnt S (ag t.1):=by rw[<- i.len];exact a
 have e:cT t.2 k=qF (tQ S (tN t) (bA S (ag t.1) k)):=by
  rw[vA a];have:=abc p i o;have b:t.2[k]? =((List.range (cnt S (ag t.1))).map fun K=>qF (tQ S (tN t) (bA S (ag t.1) K)))[k]?:=by rw[<- this]
  rw[aV a,kq,Jt f] at b;exact ko b
 have hs:=h.size (g:=bA S (ag t.1) k) (fun u=>yA p _ k u f);have q:=kW j;have r:=kW l;rw[e];show (nu _).size+(de _).size+2<=m;have v:(nu (tQ S (tN t) (bA S (ag t.1) k))).size+(de (tQ S (tN t) (bA S (ag t.1) k))).size=qw (tQ S (tN t) (bA S (ag t.1) k)):=rfl;omega
theorem gW.cw (p:Pos S) {P:List Tb} (h:gW S n P D c) (b:2*(B D).size+(B c).size+2<=m):∀t∈P,Cw m t.2:=fun t a=>by
 obtain⟨E,d,k,e,f⟩:=h.pd.each t a;exact abd p (h.ok t a) (h.low t a) k e f b
theorem gW.part (p:Pos S) {P:List Tb} (h:gW S n P D c) (b:2*(B D).size+(B c).size+2<=m) (k:Nat):eC S n (allT S (P.take k))/\Cw m (allT S (P.take k)).2:=by
 obtain⟨E,d,f,g,i⟩:=h.pd.take k;have o:∀t∈P.take k,eC S n t:=fun t e=>h.ok t (List.mem_of_mem_take e);have a:=(BP p o).1;exact⟨a,abd p a (ag8 S _) (PD.all p o f) g i b⟩
theorem gW.filter {P:List Tb} (h:gW S n P D c) (p:Tb ->Bool):∃E d,gW S n (P.filter p) E d/\E<=D/\d<=c:=by
 obtain⟨E,d,k,b,e⟩:=h.pd.filter p;exact⟨E,d,⟨fun t a=>h.ok t (cQ.1 a).1,k,fun t a=>h.low t (cQ.1 a).1⟩,b,e⟩
theorem gW.fix (p:Pos S) {P:List Tb} (h:gW S n P D c) {x:Nat} (d:x<sz S v):gW S n (P.map (lR S v x)) D c:=
 ⟨fun t a=>by
  obtain⟨u,b,rfl⟩:=aH.1 a;exact(h.ok u b).fix v x,h.pd.fix p h.ok d,fun t a=>by
  obtain⟨u,_,rfl⟩:=aH.1 a;exact apO S v x u⟩
theorem ac4 (p:Pos S) {P:List Tb} (h:∀t∈P,eC S n t) (v:Nat) (m:Bool):∀t∈mq S v m P,eC S n t:=fun t a=>by
 rcases aZ.1 a with a |a
 ·exact h t (cQ.1 a).1
 ·rw[dS.1 a];exact((BP p fun u b=>h u (cQ.1 b).1).1).o v m
theorem ac5 {P:List Tb} (h:∀t∈P,Low t.2) (v:Nat) (m:Bool):∀t∈mq S v m P,Low t.2:=fun t a=>by
 rcases aZ.1 a with a |a
 ·exact h t (cQ.1 a).1
 ·rw[dS.1 a];exact aly S v m _
theorem gW.o (p:Pos S) {P:List Tb} (h:gW S n P D c) (v:Nat):gW S n (mq S v false P) D (sz S v*c):=⟨ac4 p h.ok v false,h.pd.o p h.ok v,ac5 h.low v false⟩
theorem gW.most (p:Pos S) {P:List Tb} (h:gW S n P D c) (v:Nat):gW S n (mq S v true P) D c:=⟨ac4 p h.ok v true,h.pd.most p h.ok v,ac5 h.low v true⟩
variable {fn:Func} {g:Nat} {x':Value}
theorem eC.check {t:Tb} (h:eC S S.length t) (f:gI (iL S)):kI (iL S) t.1 t.2.length=0:=Zu (KX f (by rw[bL];exact h.up)) (by rw[iJ];exact h.len)
theorem eC.small {t:Tb} (h:eC S S.length t) (f:gI (iL S)):t.1.length<=8:=by
 have b:=h.up.length;have a:=f.eight;rw[bL] at a;omega
def FT (B:Nat) (t:Tb) (e:Ending) (w':World):Prop:=∃x y,e=.returned (.tuple #[.agg #[x,y],.int .i64 0])/\eL w' x y t/\∀R,R< B ->ig R t (x,y)
theorem xg.tb {B:Nat} {t:Tb} {e:Ending} (h:xg B t.1 t.2 0 e w'):FT B t e w':=by
 obtain⟨b,c,cb,cc,d,f,g,a,i⟩:=h;exact⟨_,_,d,⟨b,c,cb,cc,rfl,rfl,f,g,a.1⟩,fun R j=>ig.new a i j⟩
theorem amG (a:Kd) (ca:Nat) (S:Ki) (x y x' f:Value) (s t:Tb) (w:World) (Q:gI (iL S)) (hs:aC w a (iL S)) (h:eL w x y s) (l:eL w x' f t) (o:eC S S.length s) (g:eC S S.length t) (q:Cw 100000 s.2) (z:Cw 100000 t.2):
  da 106 #[.slice a S.length ca,.agg #[x,y],.agg #[x',f]] w fun e w'=>FT w.heap.size (Be S s t) e w'/\db w w':=by
 obtain⟨b,c,cb,cc,rfl,rfl,m,n,p⟩:=h;obtain⟨i,j,P,X,rfl,rfl,r,u,v⟩:=l;have k:=Q.eight;rw[bL] at k;have A:=o.small Q;have D:=g.small Q;have:=aiJ a b c i j ca cb cc P X (iL S) s.1 t.1 s.2 t.2 w hs m r n u (by rw[bL];omega) al al p v (o.check Q) (g.check Q) q z;rw[bL,iJ] at this;exact this.af fun e w' d=>⟨xg.tb (t:=Be S s t) d.1,d.2⟩
theorem alY (w:World):eL (w.alloc (.cells #[.bool (bK 1),.string (nu 1),.string (de 1)] 63)) (.slice none 0 0) (.slice (some ⟨w.heap.size,0,none⟩) 1 1) EJ:=by
 have e:=eM w (.cells #[.bool (bK 1),.string (nu 1),.string (de 1)] 63);refine⟨none,_,0,1,rfl,rfl,(fun k h=>absurd h (by simp[EJ])),fun k h=>?_,fun _=>rfl⟩;obtain rfl:k=0:=by simp[EJ] at h;omega
 exact⟨_,0,rfl,(dD.1 e).1,(bh _ _ 0 _ _ (0,0) e).trans rfl,(bh _ _ 1 _ _ (0,0) e).trans rfl,(bh _ _ 2 _ _ (0,0) e).trans rfl⟩
theorem eL.putT {V:World} {u v:Value} {t:Tb} (h:eL V x y t) (d:bw V g u v) (e:cO u) (f:cO v) (i:cO x') (a:Value):eL ((V.setCell ⟨g,0,none⟩ x').setCell ⟨g,1,none⟩ a) x y t:=by
 obtain⟨b,c,cb,cc,j,k,l,m,n⟩:=h;exact⟨b,c,cb,cc,j,k,l.putT d e f i a,m.putT d e f i a,n⟩
theorem eL.slices {t:Tb} (h:eL w x y t):cO x/\cO y:=by
 obtain⟨b,c,cb,cc,rfl,rfl,_⟩:=h;exact⟨slv _ _ _,slv _ _ _⟩
theorem bw.result1 (h:bw w g x y) {p:Tmp} (r:fn.results= #[.cell p 38]) (m:Array Value) (a:m.getD p undef=.pointer (some ⟨g,0,none⟩)):
  (results fn m).run Tryz.prog w=.ok (.agg #[x,y]) w:=Gq r m w g _ _ _ _ a h Tryz.underlying38 rfl ao
theorem acz (a b:Kd) (ca cb:Nat) (S:Ki) (P:List Tb) (D c:Nat) (w:World) (Q:gI (iL S)) (hs:aC w a (iL S)) (hP:jf w b P) (o:gW S S.length P D c) (aR:P.length<=1000) (M:2*(B D).size+(B c).size+2<=8192):
  da 208 #[.slice a S.length ca,.slice b P.length cb] w fun e w'=>∃x y,e=.returned (.agg #[x,y])/\eL w' x y (allT S P)/\db w w':=by
 have I:Pos S:=by have:=Q.pos;rwa [iJ] at this
 have vR:Hid (∀U:World,da 88 #[.int .i64 1] U fun e w'=>e=.returned (.agg #[.bool (bK 1),.string (nu 1),.string (de 1)])/\db U w'):=fun U=>Iw (k:=1) (w:=U) 1 1 rfl bd rfl
 have O8:Hid (∀(k:Nat) (t:k<P.length) (x y x' u:Value) (U:World),db w U ->eL U x y (allT S (P.take k)) ->eL U x' u P[k] ->da 106 #[.slice a S.length ca,.agg #[x,y],.agg #[x',u]] U fun e w'=>FT U.heap.size (allT S (P.take (k+1))) e w'/\db U w'):=fun k t x y x' u U hU h1 h2=>by
  have h3:=o.part I M k;have h4:=o.cw I M P[k] (bP t);have e:allT S (P.take (k+1))=Be S (allT S (P.take k)) P[k]:=by rw[allT,im t,List.foldl_append];rfl
  rw[e];exact amG a ca S x y x' u _ _ U Q (hs.aa hU) h1 h2 h3.1 (o.ok _ (bP t)) (h3.2.up bd) (h4.up bd)
 have HP:=hid hP;have H0:Hid (allT S (P.take 0)=EJ):=rfl;clear hs hP o Q I M;obtain⟨T,L⟩:∃T:Nat ->Tb,∀k,allT S (P.take k)=T k:=⟨fun k=>allT S (P.take k),fun _=>rfl⟩;have vI:Hid (T P.length=allT S P):=by show _=_;rw[<- L,iY]
 simp only[L] at O8 H0;clear L;go_enter Tryz.func208,Tryz.ntmps208;go_wp2_with fail
 have X:=(au w.heap.size w).alloc (ah _) (TC (.slice none 0 0) (.slice none 0 0));have K:=bw.at (w:=w) rfl (.slice none 0 0) (.slice none 0 0);refine(vR.o _).af ?_;rintro e d ⟨rfl,ad⟩;have ab:=X.trans (ad.af X.size);have Y:=K.aa ad K.lt;have Z:=ab.alloc ab.size (.cells #[.bool (bK 1),.string (nu 1),.string (de 1)] 63);have sS:=alY d;have ak:(d.alloc (.cells #[.bool (bK 1),.string (nu 1),.string (de 1)] 63)).heap.size=d.heap.size+1:=aE
 have J:=Y.alloc (.cells #[.bool (bK 1),.string (nu 1),.string (de 1)] 63);have nN:=Z.alloc Z.size (TC (.slice none 0 0) (.slice (some ⟨d.heap.size,0,none⟩) 1 1));have Ys:=J.alloc (TC (.slice none 0 0) (.slice (some ⟨d.heap.size,0,none⟩) 1 1));have Fs:=bw.at (w:=d.alloc (.cells #[.bool (bK 1),.string (nu 1),.string (de 1)] 63)) ak (.slice none 0 0) (.slice (some ⟨d.heap.size,0,none⟩) 1 1);have aj:=sS.aa ((au _ _).alloc (ah _) (TC (.slice none 0 0) (.slice (some ⟨d.heap.size,0,none⟩) 1 1)));have aN:=Y.lt;have r:=hid nN;have yF:=hid Ys;have Dw:=hid Fs;have I2:=hid aj;clear X K ad ab Y Z sS ak J nN Ys Fs aj;go_wp2_with fail
 go_loopw [13] (fun iv wr=>∃(i:Nat) (x y:Value),i<=P.length/\iv=.int .i64 i/\Hid (bw wr (d.heap.size+1) x y)/\Hid (eL wr x y (T i))/\Hid (bw wr w.heap.size (.slice none 0 0) (.slice none 0 0))/\Hid (db w wr)) (fun iv _=>P.length - (intOf iv).toNat)
 case atStart=>exact⟨0,_,_,aU _,rfl,Dw,by rw[H0.o];exact I2,yF,r⟩
 case round=>
  obtain⟨i,x,y,hi,rfl,HX,V,m,H⟩:=hrel;clear Dw I2 yF r;obtain⟨ai,ae⟩:=V.o.slices;obtain⟨x0,x1,av,ax⟩:=HX.o.facts;by_cases an:i<P.length
  ·obtain⟨g,ay,p,q,rfl,hg,k0,k1,l⟩:=(HP.o.aa H.o) i an;have A:=(au wr.heap.size wr).alloc (ah _) (TC p q);have F:=hid (H.o.trans (A.af H.o.size));have O:=hid (HX.o.alloc (TC p q));have lW:=hid (m.o.alloc (TC p q));have E:=bw.at (w:=wr) rfl p q;obtain⟨ao,aq,_,_⟩:=O.o.facts;have b0:=E.c0;have b1:=E.c1;have HM:=hid (O8.o i an x y p q _ F.o (V.o.aa A) (l.aa A));obtain⟨ps,pn,pc,rfl⟩:=l.slices.1;obtain⟨qs,qn,qc,rfl⟩:=l.slices.2;clear l A E x0 x1 av ax;go_wp2_with fail
   refine HM.o.af ?_;rintro e w3 ⟨⟨x2,y2,rfl,z,_⟩,v⟩;have R:=O.o.aa v O.o.lt;have J:=lW.o.aa v lW.o.lt;have cS:=F.o.trans (v.af F.o.size);obtain⟨c0,c1,f0,f1⟩:=R.facts;obtain⟨xs,n,f,rfl⟩:=z.slices.1;obtain⟨s,j,h,rfl⟩:=z.slices.2;have yB:=hid (R.put (.slice xs n f) (.slice s j h));have Tp:=hid (z.putT R ai ae (slv xs n f) (.slice s j h));have BX:Hid (bw ((w3.setCell ⟨d.heap.size+1,0,none⟩ (.slice xs n f)).setCell ⟨d.heap.size+1,1,none⟩ (.slice s j h)) w.heap.size (.slice none 0 0) (.slice none 0 0)):=(J.off _ _ _ al).off _ _ _ al;have fh:=hid (qU (g:=d.heap.size+1) cS al (.slice xs n f) (.slice s j h));clear z v R J cS HM ao aq b0 b1 k0 k1;go_wp2;go_roundw
   case rel=>exact⟨i+1,_,_,al,b5,yB,Tp,BX,fh⟩
   case measure=>simp[intOf];omega
  ·obtain rfl:i=P.length:=al
   rw[vI.o] at V;obtain⟨t0,t1,f0,f1⟩:=m.o.facts;obtain⟨xs,n,f,rfl⟩:=ai;obtain⟨s,j,h,rfl⟩:=ae;have DU:=hid (m.o.put (.slice xs n f) (.slice s j h));have Dz:=hid (V.o.putT m.o (slv _ _ _) (slv _ _ _) (slv xs n f) (.slice s j h));have r:=hid (qU H.o (ah _) (.slice xs n f) (.slice s j h));go_wp2;refine cP (DU.o.result1 rfl _ rfl) rfl ?_;exact⟨_,_,rfl,Dz.o,r.o⟩
open Go.Sort Go.Lib
variable {z:Value}
def PlC (x y z:Value):Obj:=.cells #[x,y,z] 177
def bY (w:World) (g:Nat) (x y z:Value):Prop:=w.heap[g]? =some (.cells #[x,y,z] 177 (0,0))
theorem bY.at (h:w.heap.size=g) (x y z:Value):bY (w.alloc (PlC x y z)) g x y z:=by subst h;exact eM w _
theorem bY.lt (h:bY w g x y z):g<w.heap.size:=(dD.1 h).1
theorem bY.aa {b:Nat} (h:bY w g x y z) (a:Below b w w') (c:g<b):bY w' g x y z:=(a.block g c).trans h
theorem bY.alloc (h:bY w g x y z) (o:Obj):bY (w.alloc o) g x y z:=(uK w o g h.lt).trans h
theorem bY.cells (h:bY w g x y z):w.cell? ⟨g,0,none⟩=some x/\w.cell? ⟨g,1,none⟩=some y/\w.cell? ⟨g,2,none⟩=some z:=
 ⟨by rw[bh w g 0 _ _ (0,0) h];rfl,by rw[bh w g 1 _ _ (0,0) h];rfl,by rw[bh w g 2 _ _ (0,0) h];rfl⟩
theorem bY.fz (h:bY w g x y z) (j:Nat):w.frozen? ⟨g,j,none⟩=false:=fj w g j _ _ h
theorem bY.set0 (h:bY w g x y z) (u:Value):bY (w.setCell ⟨g,0,none⟩ u) g u y z:=kn w g 0 _ _ u h
theorem bY.set1 (h:bY w g x y z) (u:Value):bY (w.setCell ⟨g,1,none⟩ u) g x u z:=kn w g 1 _ _ u h
theorem bY.set2 (h:bY w g x y z) (u:Value):bY (w.setCell ⟨g,2,none⟩ u) g x y u:=kn w g 2 _ _ u h
theorem bY.put (h:bY w g x y z) (u v s:Value):bY (((w.setCell ⟨g,0,none⟩ u).setCell ⟨g,1,none⟩ v).setCell ⟨g,2,none⟩ s) g u v s:=((h.set0 u).set1 v).set2 s
theorem bY.result1 (h:bY w g x y z) {p:Tmp} (r:fn.results= #[.cell p 177]) (m:Array Value) (a:m.getD p undef=.pointer (some ⟨g,0,none⟩)):
  (results fn m).run Tryz.prog w=.ok (.agg #[x,y,z]) w:=Gq r m w g _ _ _ _ a h Tryz.underlying177 rfl ao
theorem acI (u v:Int) (B:Nat) (W:World) (c:W.cell? ⟨B,0,none⟩=some (.int .i64 v)):
  FnGives Tryz.prog 259 #[.pointer (some ⟨B,0,none⟩)] #[.int .i64 u] (.bool (u==v)) W:=by
 show da 259 #[.int .i64 u,.pointer (some ⟨B,0,none⟩)] W _;go_enter Tryz.func259,Tryz.ntmps259;go_wp2
 all_goals (go_ret;exact⟨by simp_all,0,rfl⟩)
theorem akY (v:Int) (B:Nat) (w:World) (h:B<w.heap.size) (c:w.cell? ⟨B,0,none⟩=some (.int .i64 v)):
  PredAt Tryz.prog 259 #[.pointer (some ⟨B,0,none⟩)] (Value.int .i64) (fun u=>u==v) w:=
 fun W x b=>acI x v B W ((b.cell (p:=⟨B,0,none⟩) h).trans c)
theorem akX (v:Int) (B b f i:Nat) (w:World) (h:B<w.heap.size) (e:B≠b) (c:w.cell? ⟨B,0,none⟩=some (.int .i64 v)):
  PredOver Tryz.prog 259 #[.pointer (some ⟨B,0,none⟩)] (Value.int .i64) (fun u=>u==v) b f i w:=
 fun n o d x _=>acI x v B _ (by
  unfold sortWorld;rw[cell?_grow _ _ _ (by show B<(putRow _ _ _ _ _).heap.size;rw[size_putRow];exact h),cell?_putRow_other _ _ b f _ _ (Or.inl e)];exact c)
theorem acK (x z:Value) (b:Kd) (cb:Nat) (f:Kh) (v:Int) (w:World) (hx:cO x) (hz:cO z) (h:aC w b f) (hn:f.length<=1000):
  da 206 #[.agg #[x,.slice b f.length cb,z],.int .i64 v] w fun e w'=>∃d cd,e=.returned (.agg #[x,.slice d (cI f v).length cd,.slice none 0 0])/\aC w' d (cI f v)/\iR w.heap.size d cd/\db w w':=by
 obtain⟨a,i,c,rfl⟩:=hx;obtain⟨l,p,m,rfl⟩:=hz;have HV:=hid h;obtain⟨L,T⟩:∃L,cI f v=L:=⟨_,rfl⟩;rw[T];have S:=hid T;clear h T;go_enter Tryz.func206,Tryz.ntmps206;go_wp2_with fail
 have K:db w (((w.alloc (.cells #[.slice a i c,.slice b f.length cb,.slice l p m] 177)).alloc (.cells #[.int .i64 v] 3)).alloc (.cells #[.slice none 0 0,.slice none 0 0,.slice none 0 0] 177)):=by
  have A:=(au w.heap.size w).alloc (ah _) (.cells #[.slice a i c,.slice b f.length cb,.slice l p m] 177);have h2:=A.alloc A.size (.cells #[.int .i64 v] 3);exact h2.alloc h2.size _
 have Z:bY (((w.alloc (.cells #[.slice a i c,.slice b f.length cb,.slice l p m] 177)).alloc (.cells #[.int .i64 v] 3)).alloc (.cells #[.slice none 0 0,.slice none 0 0,.slice none 0 0] 177)) w.heap.size (.slice a i c) (.slice b f.length cb) (.slice l p m):=((bY.at (w:=w) rfl _ _ _).alloc _).alloc _
 have aj:Boxed (((w.alloc (.cells #[.slice a i c,.slice b f.length cb,.slice l p m] 177)).alloc (.cells #[.int .i64 v] 3)).alloc (.cells #[.slice none 0 0,.slice none 0 0,.slice none 0 0] 177)) (w.heap.size+1) 3 (.int .i64 v):=by
  have:=(bt (w.alloc (.cells #[.slice a i c,.slice b f.length cb,.slice l p m] 177)) 3 (.int .i64 v)).alloc (.cells #[.slice none 0 0,.slice none 0 0,.slice none 0 0] 177);rwa [eH] at this
 have F:bY (((w.alloc (.cells #[.slice a i c,.slice b f.length cb,.slice l p m] 177)).alloc (.cells #[.int .i64 v] 3)).alloc (.cells #[.slice none 0 0,.slice none 0 0,.slice none 0 0] 177)) (w.heap.size+1+1) (.slice none 0 0) (.slice none 0 0) (.slice none 0 0):=bY.at (w:=(w.alloc (.cells #[.slice a i c,.slice b f.length cb,.slice l p m] 177)).alloc (.cells #[.int .i64 v] 3)) aE _ _ _;generalize (((w.alloc (.cells #[.slice a i c,.slice b f.length cb,.slice l p m] 177)).alloc (.cells #[.int .i64 v] 3)).alloc (.cells #[.slice none 0 0,.slice none 0 0,.slice none 0 0] 177))=W at *;refine(JJ b cb f _ (HV.o.aa K) al).af ?_;rintro e D ⟨x,rfl,hr,t⟩;have O:=bc aj t;have I:=Z.aa t Z.lt;have J:=F.aa t F.lt;have H:=K.trans (t.af K.size);have av:=F.lt;have ax:=t.size;clear aj Z F K t;rcases hr.cases with ⟨rfl,rfl⟩ |⟨g,cap,rfl,aq,hg,ae,ak,V⟩
 ·go_wp2_with fail
  refine(Vd _ _).af ?_;rintro e s ⟨rfl,ab⟩;have U:=I.aa ab I.lt;have R:=J.aa ab J.lt;have E:=H.trans (ab.af H.size);have Dj:L=[]:=S.o.symm;subst Dj;obtain⟨p0,p1,p2⟩:=U.cells;obtain⟨r0,r1,r2⟩:=R.cells;have r:=R.fz;have QF:=r 0;have QE:=r 1;have QD:=r 2;have Q:=hid (R.put (.slice a i c) (.slice none 0 0) (.slice none 0 0));have Y:=hid (fL E (show w.heap.size<=w.heap.size+1+1 by omega) (.slice a i c) (.slice none 0 0) (.slice none 0 0));clear r U R E;go_wp2;refine cP (Q.o.result1 rfl _ rfl) rfl ?_;exact⟨none,0,rfl,fun k X=>absurd X aE,iR.nil _,Y.o⟩
 ·have P:=Tryz.slices_DeleteFunc (Value.int .i64) (fun _=>rfl) (fun u=>u==v) 259 #[.pointer (some ⟨w.heap.size+1,0,none⟩)] (enters_of Tryz.func259 ao rfl) 0 Tryz.zeroValue3 g 0 cap f.toArray D (akY v _ _ O.lt O.cell) (akX v _ g 0 _ _ O.lt al O.cell) V (by simp;omega) (by simpa using ae);have ai:f.toArray.size=f.length:=aE
  rw[ai] at P;have kf:f.toArray.toList.filter (fun x=>!(x==v))=cI f v:=by simp[cI]
  rw[kf,S.o] at P;have dQ:L.length<=f.length:=by rw[<- S.o];exact od _ _
  have Eb:=hid P;have HH:=hid V;have lu:=hid dQ;clear P V hr ai kf ae ak dQ;go_wp2_with fail
  refine Eb.o.af ?_;rintro e s ⟨rfl,q,M⟩
  have x7:(L++List.replicate (f.length - L.length) 0).toArray.size=f.toArray.size:=by
   have:=lu.o;simp;omega
  have Sl:aC s (some ⟨g,0,none⟩) L:=by
   rw[M];exact E6 (holds_putRow (Value.int .i64) (Sort.ahead D q) g 0 f.toArray _ HH.o x7) (by rw[size_putRow];exact hg) (fun j hj=>⟨by simp;omega,by simp[nh,hj]⟩)
  have ad:∀k,k<D.heap.size ->k≠g ->s.heap[k]? =D.heap[k]?:=fun k X an=>by
   rw[M];have A:=LD (w:=D) (g:=g) (n:=q) (os:= #[]) ((L++List.replicate (f.length - L.length) 0).toArray);rw[grow_empty] at A;exact A.block k X (fun e=>an (ko e))
  have U:bY s w.heap.size (.slice a i c) (.slice b f.length cb) (.slice l p m):=(ad _ I.lt al).trans I;have R:bY s (w.heap.size+1+1) (.slice none 0 0) (.slice none 0 0) (.slice none 0 0):=(ad _ J.lt al).trans J;have E:db w s:=by rw[M];exact S9 _ H H.size al
  obtain⟨p0,p1,p2⟩:=U.cells;obtain⟨r0,r1,r2⟩:=R.cells;have r:=R.fz;have QF:=r 0;have QE:=r 1;have QD:=r 2;have Q:=hid (R.put (.slice a i c) (.slice (some ⟨g,0,none⟩) L.length cap) (.slice none 0 0));have Y:=hid (fL E (show w.heap.size<=w.heap.size+1+1 by omega) (.slice a i c) (.slice (some ⟨g,0,none⟩) L.length cap) (.slice none 0 0));have TJ:=hid (((Sl.off (g:=w.heap.size+1+1) (j:=0) (y:=.slice a i c) (fun g' o' e _=>by cases e;omega)).off (g:=w.heap.size+1+1) (j:=1) (y:=.slice (some ⟨g,0,none⟩) L.length cap) (fun g' o' e _=>by cases e;omega)).off (g:=w.heap.size+1+1) (j:=2) (y:=.slice none 0 0) (fun g' o' e _=>by cases e;omega));clear r U R E Sl ad x7 M;go_wp2;refine cP (Q.o.result1 rfl _ rfl) rfl ?_;exact⟨some ⟨g,0,none⟩,cap,rfl,TJ.o,iR.at al,Y.o⟩
variable {F:List (Int×Int)}
def ju (w:World) (a:Kd) (F:List (Int×Int)):Prop:=∀k (h:k<F.length),∃g o,a=some ⟨g,o,none⟩/\g<w.heap.size/\w.cell? ⟨g,o+k*2,none⟩=some (.int .i64 F[k].1)/\w.cell? ⟨g,o+k*2+1,none⟩=some (.int .i64 F[k].2)
theorem ju.aa (h:ju w a F) (c:db w w'):ju w' a F:=fun k i=>by
 obtain⟨g,o,d,b,e,f⟩:=h k i;exact⟨g,o,d,aO b c.size,(c.cell (p:=⟨g,_,none⟩) b).trans e,(c.cell (p:=⟨g,_,none⟩) b).trans f⟩
theorem ju.take (h:ju w a F) (i:Nat):ju w a (F.take i):=fun k f=>by
 have j:k<F.length:=by rw[eW] at f;omega
 obtain⟨g,o,b,c,d,e⟩:=h k j;rw[yV];exact⟨g,o,b,c,d,e⟩
theorem anQ (a:Kd) (ca f:Nat) (lb:Array Value) (F:List (Int×Int)) (p:Int×Int ->Bool) (w:World) (h:ju w a F) (M:F.length<=1000) (J:∀x w,(callFunc f x).run Tryz.prog w=.ok (.enter f x) w)
  (u:∀q∈F,∀U:World,db w U ->da f (#[.agg #[.int .i64 q.1,.int .i64 q.2]]++lb) U fun e w'=>e=.returned (.bool (p q))/\db U w'):
  da 153 #[.slice a F.length ca,.func (.func f) #[] lb] w fun e w'=>∃j:Int,e=.returned (.int .i64 j)/\decide (0<=j)=F.any p/\db w w':=by
 have y:=hid h;have P:=hid u
 have D:Hid ((∀i (c:i<F.length),p F[i]=false) ->F.any p=false):=fun d=>Jw.2 fun q A=>by
  obtain⟨i,c,rfl⟩:=iI A;rw[d i c];decide
 have z:Hid (∀i (c:i<F.length),p F[i]=true ->F.any p=true):=fun i c d=>sJ.2 ⟨_,bP c,d⟩;clear h u;generalize F.any p=R at *;go_enter Tryz.func153,Tryz.ntmps153;go_wp2_with fail
 go_loopw [8] (fun iv wr=>∃i:Nat,i<=F.length/\iv=.int .i64 i/\Hid (∀j (b:j<F.length),j< i ->p F[j]=false)/\Hid (db w wr)) (fun iv _=>F.length - (intOf iv).toNat)
 case atStart=>exact⟨0,aU _,rfl,(fun j _ b=>absurd b al),au _ _⟩
 case round=>
  obtain⟨i,c,rfl,m,H⟩:=hrel;by_cases l:i<F.length
  ·obtain⟨g,o,rfl,t,n,r⟩:=y.o i l;have O:=(H.o.cell (p:=⟨g,_,none⟩) t).trans n;have Q:=(H.o.cell (p:=⟨g,_,none⟩) t).trans r;have k:=hid (P.o F[i] (bP l) wr H.o);have Z:=hid (z.o i l)
   have I:Hid (p F[i]=false ->∀j (b:j<F.length),j<i+1 ->p F[j]=false):=fun e j b V=>by
    rcases dG j i with s |s
    ·exact m.o j b s
    ·obtain rfl:j=i:=al
     exact e
   clear n r;generalize p F[i]=q at *;generalize F[i].1=K at *;generalize F[i].2=L at *;go_wp2_with fail
   refine k.o.af ?_;rintro e T ⟨rfl,v⟩;have S:=hid (H.o.trans (v.af H.o.size));clear v k;cases q with
   |true=>
    have E:=hid (Z.o rfl);go_wp2;go_ret;exact⟨(i:Nat),rfl,by rw[E.o];simp,S.o⟩
   |false=>
    have E:=hid (I.o rfl);go_wp2;go_roundw
    case rel=>exact⟨i+1,al,b5,E,S⟩
    case measure=>simp[intOf];omega
  ·obtain rfl:i=F.length:=al
   have E:=hid (D.o fun j b=>m.o j b b);go_wp2;go_ret;exact⟨-1,rfl,by rw[E.o];rfl,H.o⟩
theorem agA (a:Kd) (ca f:Nat) (lb:Array Value) (F:List (Int×Int)) (p:Int×Int ->Bool) (w:World) (h:ju w a F) (n:F.length<=1000) (i:∀g w,(callFunc f g).run Tryz.prog w=.ok (.enter f g) w)
  (c:∀q∈F,∀U:World,db w U ->da f (#[.agg #[.int .i64 q.1,.int .i64 q.2]]++lb) U fun e w'=>e=.returned (.bool (p q))/\db U w'):
  da 96 #[.slice a F.length ca,.func (.func f) #[] lb] w (du w (.bool (F.any p))):=by
 have I:=hid (anQ a ca f lb F p w h n i c);clear h c;generalize F.any p=R at *;go_enter Tryz.func96,Tryz.ntmps96;go_wp2_with fail
 refine I.o.af ?_;rintro e k ⟨j,rfl,b,d⟩;have H:=hid d;have J:=hid b;clear d b;go_wp2;go_ret;exact⟨by rw[<- J.o];rfl,H.o⟩
theorem anM (q:Int×Int) (v:Int) (B:Nat) (w:World) (h:B<w.heap.size) (c:w.cell? ⟨B,0,none⟩=some (.int .i64 v)):
  da 137 #[.agg #[.int .i64 q.1,.int .i64 q.2],.pointer (some ⟨B,0,none⟩)] w (du w (.bool (q.1==v))):=by
 obtain⟨a,b⟩:=q;have A:=hid ((au w.heap.size w).alloc (ah _) (.cells #[.int .i64 a,.int .i64 b] 30));have d:=(A.o.cell (p:=⟨B,0,none⟩) h).trans c;show da 137 #[.agg #[.int .i64 a,.int .i64 b],.pointer (some ⟨B,0,none⟩)] w fun e w'=>e=.returned (.bool (a==v))/\db w w';clear c;go_enter Tryz.func137,Tryz.ntmps137;go_wp2
 all_goals (go_ret;exact⟨by simp_all,A.o⟩)
theorem Ww (a:Kd) (ca:Nat) (F:List (Int×Int)) (v:Int) (w:World) (h:ju w a F) (n:F.length<=1000):
  da 82 #[.slice a F.length ca,.int .i64 v] w (du w (.bool (F.any fun p=>p.1==v))):=by
 have A:=(au w.heap.size w).alloc (ah _) (.cells #[.int .i64 v] 3);have x:=bt w 3 (.int .i64 v);have f:=hid (agA a ca 137 #[.pointer (some ⟨w.heap.size,0,none⟩)] F (fun p=>p.1==v) _ (h.aa A) n (enters_of Tryz.func137 ao rfl) (fun q _ U b=>anM q v w.heap.size U (aO x.lt b.size) ((b.cell (p:=⟨w.heap.size,0,none⟩) x.lt).trans x.cell)));have H:=hid A;clear h A x;generalize (F.any fun p=>p.1==v)=R at *;go_enter Tryz.func82,Tryz.ntmps82;go_wp2_with fail
 refine f.o.af ?_;rintro e g ⟨rfl,c⟩;have d:=hid (H.o.trans (c.af H.o.size));clear c;go_wp2;go_ret;exact⟨rfl,d.o⟩
variable {ops:Array Oper} {Q:Exit ->Act ->World ->Prop} {rest:List Oper} {xs:List Value} {j lo:Nat} {tv u1 u2:Value} {V':World}
theorem YU (W:World) (b:Option Nat):W.grownBy W b:=World.grownBy.refl _ _
theorem YV {W V:World} {b:Option Nat} (h:W.grownBy V b) (a:db V V'):W.grownBy V' b:=
 ⟨a.os.trans h.os,a.tape.trans h.tape,a.output.trans h.output,aL h.size a.size,fun k c e=>(a.block k (aO c h.size)).trans (h.block k c e)⟩
theorem N4 {W V:World} {b r:Option Nat} (h:W.grownBy V b) (g:V.grownBy V' r) (c:∀k,r=some k ->W.heap.size<=k):W.grownBy V' b:=
 ⟨g.os.trans h.os,g.tape.trans h.tape,g.output.trans h.output,aL h.size g.size,fun k a n=>(g.block k (aO a h.size) fun e=>by have:=c k e.symm;omega).trans (h.block k a n)⟩
theorem Sz {W V:World} {b:Nat} (h:W.grownBy V (some b)) (j:Nat) (y:Value):W.grownBy (V.setCell ⟨b,j,none⟩ y) (some b):=by
 have a:=(au 0 V).setCell (p:=⟨b,j,none⟩) (aU _) y;exact⟨a.os.trans h.os,a.tape.trans h.tape,a.output.trans h.output,aL h.size a.size,fun k c n=>(eN V ⟨b,j,none⟩ y k (fun e=>n (by rw[e]))).trans (h.block k c n)⟩
theorem N3 {W V:World} {b B:Nat} (d:Below B w W) (h:W.grownBy V (some b)) (c:B<=b) (a:B<=W.heap.size):Below B w V:=d.grown h a (fun k e=>by cases e;exact c)
theorem cE.off {d:Kd} {l:List Fr} (h:cE w d l) (q:∀g' o,d=some ⟨g',o,none⟩ ->l≠[] ->g'≠g):cE (w.setCell ⟨g,j,none⟩ y) d l:=fun k c=>by
 obtain⟨g',o,e,n,f,i,m⟩:=h k c;have p:=q g' o e (fun e=>by rw[e] at c;exact absurd c aE);have b:(w.setCell ⟨g,j,none⟩ y).heap[g']? =w.heap[g']?:=eN w ⟨g,j,none⟩ y g' p;exact⟨g',o,e,aO n (jD w _ _).size,(iz (a:=⟨g',_,none⟩) b).trans f,(iz (a:=⟨g',_,none⟩) b).trans i,(iz (a:=⟨g',_,none⟩) b).trans m⟩
theorem eL.off {t:Tb} (h:eL w x y t) (u:Value) (a:ig g t (x,y)):eL (w.setCell ⟨g,j,none⟩ u) x y t:=by
 obtain⟨b,c,cb,cc,rfl,rfl,d,f,i⟩:=h;exact⟨b,c,cb,cc,rfl,rfl,d.off (fun g' o e n=>a.1 g' o _ _ (by rw[e]) n),f.off (fun g' o e n=>a.2 g' o _ _ (by rw[e]) n),i⟩
theorem mR.off {B:Nat} {v:Value} {Q:List (Value×Value)} {P:List Tb} (h:mR w B v Q P) (u:Value) (f:∀k (h:k<P.length) (c:k<Q.length),ig g P[k] Q[k]) (e:v.ownBlock≠some g):mR (w.setCell ⟨g,j,none⟩ u) B v Q P:=
 ⟨h.len,PJ h.own e u,fun k a b=>(h.val k a b).off u (f k a b),h.far⟩
theorem VH {B:Nat} {e:TypeId} {s:Nat} (h:w.ownsRow B e s (.slice a m c) n xs):iR B a c:=by
 rcases h.2 with ⟨b,d⟩ |⟨g,cap,r,b,d,_⟩
 ·injection b with h3 h4 h5;subst h3 h5;exact iR.nil B
 ·injection b with h3 h4 h5;subst h3;exact iR.at d
theorem Qj {o:Oper} {a:Act} (p:o.guard=none) (s x:Operand)
  (d:o.op=.call {callee:=.builtin .append,args:= #[s,x],argTypes:= #[175,175]}) (base:Nat) (v:Value) (n:Nat) (xs:List Value) (u1 u2:Value) (hs:a.eval s=v) (E:w.ownsRow base 38 2 v n xs) (g:Nat) (e:a.eval x=.slice (some ⟨g,0,none⟩) 1 1) (h0:w.cell? ⟨g,0,none⟩=some u1) (h1:w.cell? ⟨g,1,none⟩=some u2) (q:cO u1) (t:cO u2) (H:n+1<=100000) (F:base<=w.heap.size)
  (h:∀v' w',w'.ownsRow base 38 2 v' (n+1) (xs++[u1,u2]) ->w.grownBy w' v.ownBlock ->(v'.ownBlock=v.ownBlock∨∀k,v'.ownBlock=some k ->w.heap.size<=k) ->wpList Tryz.prog ops Q rest (a.put o.dst v') w'):wpList Tryz.prog ops Q (o::rest) a w:=by
 obtain⟨i,D,z,y,A⟩:=eA Tryz.infoTable
 obtain⟨v',w',r,f,l,m⟩:=Vh (P:=Tryz.prog) w base 175 o.type 38 i (.agg #[.slice none 0 0,.slice none 0 0]) 2 48 Tryz.underlying175 D z y A rfl bd v n xs E ⟨g,0,none⟩ 1 1 [u1,u2] rfl (fun j u b=>by
  match j,b with
  |0,b=>cases b;exact h0
  |1,b=>cases b;exact h1
  |j+2,b=>simp at b) (fun u c=>by
  simp only[bT,fR,iV] at c;rcases c with rfl |rfl
  ·obtain⟨_,_,_,rfl⟩:=q;rfl
  ·obtain⟨_,_,_,rfl⟩:=t;rfl) (by unfold maxLen;omega) al F bd
 refine wpList_plain p fun _ K=>?_;unfold Oper.wp execOp;simp only[d,resolve,invoke,builtin,Jm,AG,xI,Jp,fG,ng,hs,e,r];exact K _ _ (h v' w' f l m)
structure vF (lo:Nat) (W:World) (b:Nat) (x y:Value) (tv:Value) (Q:List (Value×Value)) (P:List Tb) (V:World):Prop where
 box:bY V b x y tv
 own:mR V W.heap.size tv Q P
 far:∀R,lo<=R ->R<=b ->∀k (h:k<P.length) (h':k<Q.length),ig R P[k] Q[k]
 fr:W.grownBy V (some b)
theorem vF.start {W:World} {b:Nat} (h:bY W b x y (.slice none 0 0)):vF lo W b x y (.slice none 0 0) [] [] W:=⟨h,mR.nil _ _,(fun R _ _ k h=>absurd h aE),YU _ _⟩
theorem vF.under {W V:World} {b:Nat} {Q:List (Value×Value)} {P:List Tb} (h:vF lo W b x y tv Q P V) (a:db V V'):vF lo W b x y tv Q P V':=⟨h.box.aa a h.box.lt,h.own.under a,h.far,YV h.fr a⟩
theorem vF.push {W V:World} {b:Nat} {I:Value} {Q:List (Value×Value)} {P:List Tb} {t:Tb} (h:vF lo W b x y tv Q P V) (u:lo<=b) (v:b<W.heap.size) (r:eL V u1 u2 t) (o:∀R,tv.ownBlock=some R ->ig R t (u1,u2)) (s:∀R,lo<=R ->R<=b ->ig R t (u1,u2)) (q:V'.ownsRow W.heap.size 38 2 I (P.length+1) (fH Q++[u1,u2])) (g:V.grownBy V' tv.ownBlock) (p:I.ownBlock=tv.ownBlock∨∀k,I.ownBlock=some k ->V.heap.size<=k):
  vF lo W b x y I (Q++[(u1,u2)]) (P++[t]) (V'.setCell ⟨b,2,none⟩ I):=by
 have c:∀k,tv.ownBlock=some k ->W.heap.size<=k:=fun k e=>(h.own.lt k e).1;have O:=h.own.push r o q g p;have n:bY V' b x y tv:=(g.block b h.box.lt (fun e=>by have:=c b e.symm;omega)).trans h.box
 have m:∀R,lo<=R ->R<=b ->∀k (j:k<(P++[t]).length) (l:k<(Q++[(u1,u2)]).length),ig R (P++[t])[k] (Q++[(u1,u2)])[k]:=fun R a f k j l=>by
  by_cases d:k<P.length
  ·have i:k<Q.length:=by rw[h.own.len];exact d
   rw[nh i,nh d];exact h.far R a f k d i
  ·have i:¬k<Q.length:=by rw[h.own.len];exact d
   rw[tI al,tI al];simp only[P7];exact s R a f
 refine⟨n.set2 I,O.off _ (m b u (ah _)) (fun e=>?_),m,Sz (N4 h.fr g c) _ _⟩;have:=(O.lt b e).1;omega
theorem apN (a:Kd) (ca:Nat) (S:Ki) (x y:Value) (t:Tb) (v z:Nat) (w:World) (Q:gI (iL S)) (hs:aC w a (iL S)) (h:eL w x y t) (o:eC S S.length t) (k:Cw 100000 t.2) (j:v<S.length) (l:z<sz S v):
  da 117 #[.slice a S.length ca,.agg #[x,y],.int .i64 (v:Nat),.int .i64 (z:Nat)] w fun e w'=>FT w.heap.size (lR S v z t) e w'/\db w w':=by
 obtain⟨b,c,cb,cc,rfl,rfl,g,i,n⟩:=h;have f:=Q.eight;rw[bL] at f;have m:=o.small Q;have:=aiP a b c ca cb cc (iL S) t.1 t.2 v z w hs g i (by rw[bL];omega) al (o.check Q) k (by rw[bL];exact j) (by rw[iJ];exact l);rw[bL,iJ] at this;exact this.af fun e w' d=>⟨xg.tb (t:=lR S v z t) d.1,d.2⟩
theorem ak9 (a b t:Kd) (ca cb E:Nat) (S:Ki) (f:Kh) (P:List Tb) (D c v z:Nat) (w:World) (aQ:gI (iL S)) (hs:aC w a (iL S)) (hb:aC w b f) (hP:jf w t P) (a8:gW S S.length P D c) (a7:P.length<=1000) (kf:f.length<=1000) (hm:2*(B D).size+(B c).size+2<=8192) (hv:v<S.length) (hz:z<sz S v):
  da 151 #[.agg #[.slice a S.length ca,.slice b f.length cb,.slice t P.length E],.agg #[.int .i64 (v:Nat),.int .i64 (z:Nat)]] w fun e w'=>∃d h t' gD,e=.returned (.agg #[.slice a S.length ca,.slice d (cI f v).length h,.slice t' P.length gD])/\aC w' d (cI f v)/\jf w' t' (P.map (lR S v z))/\iR w.heap.size t' gD/\db w w':=by
 have fp:Pos S:=by have:=aQ.pos;rwa [iJ] at this
 have kK:=hid (fun (U:World) (hU:db w U)=>acK (.slice a S.length ca) (.slice t P.length E) b cb f (v:Int) U (slv _ _ _) (slv _ _ _) (hb.aa hU) kf);have Cm:Hid (∀(k:Nat) (V:k<P.length) (x y:Value) (U:World),db w U ->eL U x y P[k] ->da 117 #[.slice a S.length ca,.agg #[x,y],.int .i64 (v:Nat),.int .i64 (z:Nat)] U fun e w'=>FT U.heap.size (lR S v z P[k]) e w'/\db U w'):=fun k V x y U hU K=>apN a ca S x y _ v z U aQ (hs.aa hU) K (a8.ok _ (bP V)) ((a8.cw fp hm P[k] (bP V)).up bd) hv hz;have HP:=hid hP;clear hs hb hP a8 aQ fp hm hz;go_enter Tryz.func151,Tryz.ntmps151;go_wp2_with fail
 have ab:db w (((w.alloc (.cells #[.slice a S.length ca,.slice b f.length cb,.slice t P.length E] 177)).alloc (.cells #[.int .i64 (v:Nat),.int .i64 (z:Nat)] 30)).alloc (.cells #[.slice none 0 0,.slice none 0 0,.slice none 0 0] 177)):=by
  have K:=(au w.heap.size w).alloc (ah _) (.cells #[.slice a S.length ca,.slice b f.length cb,.slice t P.length E] 177);have h2:=K.alloc K.size (.cells #[.int .i64 (v:Nat),.int .i64 (z:Nat)] 30);exact h2.alloc h2.size _
 have zQ:bY (((w.alloc (.cells #[.slice a S.length ca,.slice b f.length cb,.slice t P.length E] 177)).alloc (.cells #[.int .i64 (v:Nat),.int .i64 (z:Nat)] 30)).alloc (.cells #[.slice none 0 0,.slice none 0 0,.slice none 0 0] 177)) w.heap.size (.slice a S.length ca) (.slice b f.length cb) (.slice t P.length E):=((bY.at (w:=w) rfl _ _ _).alloc _).alloc _
 have aj:(((w.alloc (.cells #[.slice a S.length ca,.slice b f.length cb,.slice t P.length E] 177)).alloc (.cells #[.int .i64 (v:Nat),.int .i64 (z:Nat)] 30)).alloc (.cells #[.slice none 0 0,.slice none 0 0,.slice none 0 0] 177)).heap[w.heap.size+1]? =some (.cells #[.int .i64 (v:Nat),.int .i64 (z:Nat)] 30 (0,0)):=by
  rw[uK _ _ _ aE];have:=eM (w.alloc (.cells #[.slice a S.length ca,.slice b f.length cb,.slice t P.length E] 177)) (.cells #[.int .i64 (v:Nat),.int .i64 (z:Nat)] 30);rwa [eH] at this
 have kD:bY (((w.alloc (.cells #[.slice a S.length ca,.slice b f.length cb,.slice t P.length E] 177)).alloc (.cells #[.int .i64 (v:Nat),.int .i64 (z:Nat)] 30)).alloc (.cells #[.slice none 0 0,.slice none 0 0,.slice none 0 0] 177)) (w.heap.size+1+1) (.slice none 0 0) (.slice none 0 0) (.slice none 0 0):=bY.at (w:=(w.alloc (.cells #[.slice a S.length ca,.slice b f.length cb,.slice t P.length E] 177)).alloc (.cells #[.int .i64 (v:Nat),.int .i64 (z:Nat)] 30)) aE _ _ _;have IL:=hid (kK.o _ ab);clear kK;generalize (((w.alloc (.cells #[.slice a S.length ca,.slice b f.length cb,.slice t P.length E] 177)).alloc (.cells #[.int .i64 (v:Nat),.int .i64 (z:Nat)] 30)).alloc (.cells #[.slice none 0 0,.slice none 0 0,.slice none 0 0] 177))=W0 at *;refine IL.o.af ?_;rintro e m ⟨d,h,rfl,H6,M9,M⟩;have a6:=kD.lt;have nN:=(au m.heap.size m).alloc (ah _) (.cells #[.slice a S.length ca,.slice d (cI f v).length h,.slice none 0 0] 177);have lN:(m.alloc (.cells #[.slice a S.length ca,.slice d (cI f v).length h,.slice none 0 0] 177)).heap.size=m.heap.size+1:=aE
 have fC:=(ab.trans (M.af ab.size)).trans (nN.af (aL ab.size M.size));have Il:=(zQ.aa M zQ.lt).alloc (.cells #[.slice a S.length ca,.slice d (cI f v).length h,.slice none 0 0] 177);have yj:=(kD.aa M kD.lt).alloc (.cells #[.slice a S.length ca,.slice d (cI f v).length h,.slice none 0 0] 177)
 have ak:(m.alloc (.cells #[.slice a S.length ca,.slice d (cI f v).length h,.slice none 0 0] 177)).heap[w.heap.size+1]? =some (.cells #[.int .i64 (v:Nat),.int .i64 (z:Nat)] 30 (0,0)):=by
  rw[uK _ _ _ (by have:=M.size;omega),M.block _ al];exact aj
 have qT:vF w.heap.size (m.alloc (.cells #[.slice a S.length ca,.slice d (cI f v).length h,.slice none 0 0] 177)) m.heap.size (.slice a S.length ca) (.slice d (cI f v).length h) (.slice none 0 0) [] [] (m.alloc (.cells #[.slice a S.length ca,.slice d (cI f v).length h,.slice none 0 0] 177)):=vF.start (bY.at (w:=m) rfl (.slice a S.length ca) (.slice d (cI f v).length h) (.slice none 0 0));have NY:=H6.aa nN;have bb:=M.size
 have ao:Hid (∀g o,d=some ⟨g,o,none⟩ ->cI f v≠[] ->some g≠some m.heap.size):=fun g o e aS e2=>by
  obtain⟨g',o',e',ie,_⟩:=H6 0 (by cases hl:cI f v with |nil=>exact absurd hl aS |cons x l=>simp);rw[e] at e';cases e';cases e2;omega
 have uA:Hid (∀g o,d=some ⟨g,o,none⟩ ->cI f v≠[] ->g≠w.heap.size+1+1):=fun g o e _ e2=>by
  have:=M9.2 g o e;omega
 clear H6 M9 M ab zQ aj kD nN IL;have fV:=hid fC;have DU:=hid Il;have gH:=hid yj;have Cn:=hid ak;have q8:=hid qT;have I8:=hid NY;have x8:=Il.cells.2.2;clear fC Il yj ak qT NY;generalize KF:cI f v=L at *;have Pd:=hid KF;clear KF;go_wp2_with fail
 generalize (m.alloc (.cells #[.slice a S.length ca,.slice d L.length h,.slice none 0 0] 177))=O at *;clear x8;obtain⟨T,X⟩:∃T:Nat ->List Tb,∀k,(P.take k).map (lR S v z)=T k:=⟨fun k=>(P.take k).map (lR S v z),fun _=>rfl⟩;have DD:Hid (T 0=[]):=by show _=_;rw[<- X];rfl
 have BW:Hid (∀k (V:k<P.length),T (k+1)=T k++[lR S v z P[k]]):=fun k V=>by rw[<- X, <- X,im V,eh];rfl
 have vI:Hid (T P.length=P.map (lR S v z)):=by show _=_;rw[<- X,iY]
 have DC:Hid (∀k,k<=P.length ->(T k).length=k):=fun k V=>by rw[<- X,cH,eW];omega
 clear X;go_loopw [17] (fun iv wr=>∃(i:Nat) (tv:Value) (Q:List (Value×Value)),i<=P.length/\iv=.int .i64 i/\Hid (vF w.heap.size O m.heap.size (.slice a S.length ca) (.slice d L.length h) tv Q (T i) wr)) (fun iv _=>P.length - (intOf iv).toNat)
 case atStart=>exact⟨0,_,_,aU _,rfl,by rw[DD.o];exact q8⟩
 case round=>
  obtain⟨i,tv,Q,hi,rfl,H⟩:=hrel;have Dc:=H.o.fr.size;have HB:Hid (db w wr):=N3 fV.o H.o.fr al al;have O1:Hid (bY wr w.heap.size (.slice a S.length ca) (.slice b f.length cb) (.slice t P.length E)):=(H.o.fr.block _ DU.o.lt (fun e=>by have:=ko e;omega)).trans DU.o;have tq:Hid (bY wr (w.heap.size+1+1) (.slice none 0 0) (.slice none 0 0) (.slice none 0 0)):=(H.o.fr.block _ gH.o.lt (fun e=>by have:=ko e;omega)).trans gH.o;have an:Hid (wr.heap[w.heap.size+1]? =some (.cells #[.int .i64 (v:Nat),.int .i64 (z:Nat)] 30 (0,0))):=(H.o.fr.block _ al (fun e=>by have:=ko e;omega)).trans Cn.o;by_cases ae:i<P.length
  ·obtain⟨g,o,p,q,rfl,hg,k0,k1,C2⟩:=(HP.o.aa HB.o) i ae;have hA:=(au wr.heap.size wr).alloc (ah _) (TC p q);have ek:=hid (HB.o.trans (hA.af HB.o.size));(have iD:(wr.alloc (TC p q)).heap.size=wr.heap.size+1:=aE);have NT:=O1.o.alloc (TC p q);have av:=NT.cells.1;have YD:(wr.alloc (TC p q)).heap[w.heap.size+1]? =some (.cells #[.int .i64 (v:Nat),.int .i64 (z:Nat)] 30 (0,0)):=(uK _ _ _ al).trans an.o;(have SR:(wr.alloc (TC p q)).cell? ⟨w.heap.size+1,0,none⟩=some (.int .i64 (v:Nat)):=by rw[bh _ _ 0 _ _ (0,0) YD];rfl);(have Y9:(wr.alloc (TC p q)).cell? ⟨w.heap.size+1,1,none⟩=some (.int .i64 (z:Nat)):=by rw[bh _ _ 1 _ _ (0,0) YD];rfl);have bD:=bw.at (w:=wr) rfl p q;have b0:=bD.c0;have b1:=bD.c1;have lZ:=hid (H.o.under hA);have HX:=hid (Cm.o i ae p q _ ek.o (C2.aa hA));have aN:=hid (BW.o i ae);have ui:=DC.o i hi;obtain⟨ps,pn,pc,rfl⟩:=C2.slices.1;obtain⟨qs,qn,qc,rfl⟩:=C2.slices.2;have DV:Hid (∀R,tv.ownBlock=some R ->O.heap.size<=R/\R<wr.heap.size):=H.o.own.lt;clear C2 hA bD NT YD;generalize lR S v z P[i]=ft at *;go_wp2_with fail
   refine HX.o.af ?_;rintro e F ⟨⟨x2,y2,rfl,ad,jq⟩,fP⟩;obtain⟨xs,r,n,rfl⟩:=ad.slices.1;obtain⟨A,u,s,rfl⟩:=ad.slices.2;rw[iD] at jq;have RD:=fP.size;rw[iD] at RD;have o8:=hid (lZ.o.under fP);have BH:=(au F.heap.size F).alloc (ah _) (TC (.slice xs r n) (.slice A u s));have o7:=hid (o8.o.under BH);(have Kn:(F.alloc (TC (.slice xs r n) (.slice A u s))).heap.size=F.heap.size+1:=aE);have Ig:=bw.at (w:=F) rfl (.slice xs r n) (.slice A u s);have aT:=Ig.c0;have a1:=Ig.c1;have bf:=o7.o.box.cells.2.2;have YN:=(au (F.alloc (TC (.slice xs r n) (.slice A u s))).heap.size (F.alloc (TC (.slice xs r n) (.slice A u s)))).alloc (ah _) (TC (.slice xs r n) (.slice A u s));have O9:=hid (o7.o.under YN);have aq:=hid ((ad.aa BH).aa YN);have X5:=bw.at (w:=F.alloc (TC (.slice xs r n) (.slice A u s))) Kn (.slice xs r n) (.slice A u s);have ay:=hid X5.c0;have ax:=hid X5.c1;have Aq:=hid ad.slices;have o6:=hid jq;have xq:Hid (O.heap.size<=((F.alloc (TC (.slice xs r n) (.slice A u s))).alloc (TC (.slice xs r n) (.slice A u s))).heap.size):=O9.o.fr.size;have aR:=q8.o.box.lt;clear ad fP BH YN Ig X5 jq HX lZ k0 k1 b0 b1 av SR Y9
   have ai:∀(J:Value) (I:World),I.ownsRow O.heap.size 38 2 J ((T i).length+1) (fH Q++[.slice xs r n,.slice A u s]) ->((F.alloc (TC (.slice xs r n) (.slice A u s))).alloc (TC (.slice xs r n) (.slice A u s))).grownBy I tv.ownBlock ->(J.ownBlock=tv.ownBlock∨∀k,J.ownBlock=some k ->((F.alloc (TC (.slice xs r n) (.slice A u s))).alloc (TC (.slice xs r n) (.slice A u s))).heap.size<=k) ->(∃a' n' c',J=Value.slice a' n' c')/\(vF w.heap.size O m.heap.size (.slice a S.length ca) (.slice d L.length h) J (Q++[(.slice xs r n,.slice A u s)]) (T (i+1)) (I.setCell ⟨m.heap.size,2,none⟩ J))/\I.cell? ⟨m.heap.size,2,none⟩=some tv/\I.frozen? ⟨m.heap.size,2,none⟩=false:=fun J I gZ gM jb=>by
    have hM:=O9.o.push al aR aq.o (fun R hR=>o6.o R (by have:=(DV.o R hR).2;omega)) (fun R _ hR=>o6.o R al) gZ gM jb;rw[<- aN.o] at hM;have Fy:bY I m.heap.size (.slice a S.length ca) (.slice d L.length h) tv:=(gM.block _ O9.o.box.lt (fun e=>by have:=(DV.o _ e.symm).1;omega)).trans O9.o.box;refine⟨?_,hM,Fy.cells.2.2,Fy.fz 2⟩;rcases gZ.2 with ⟨K,_⟩ |⟨g',bm,bo,K,_⟩
    ·exact⟨_,_,_,K⟩
    ·exact⟨_,_,_,K⟩
   have HKEY:=hid ai;clear ai;go_wp2_with (at_builtin;refine Qj rfl _ _ rfl O.heap.size tv (T i).length (fH Q) (.slice xs r n) (.slice A u s) rfl O9.o.own.own (F.heap.size+1) rfl ay.o ax.o Aq.o.1 Aq.o.2 al xq.o ?_;intro J I gZ gM jb;obtain⟨⟨AZ,bk,AY,rfl⟩,zS,br,bp⟩:=HKEY.o J I gZ gM jb;have q9:=hid zS;clear zS gZ gM jb)
   go_roundw
   case rel=>exact⟨i+1,_,_,al,b5,q9⟩
   case measure=>simp[intOf];omega
  ·obtain rfl:i=P.length:=al
   rw[vI.o] at H;obtain⟨Y,Z,rfl,EZ⟩:=H.o.own.row;obtain⟨x0,x1,x2⟩:=H.o.box.cells;obtain⟨r0,r1,r2⟩:=tq.o.cells;have QF:=tq.o.fz 0;have QE:=tq.o.fz 1;have QD:=tq.o.fz 2;(have uX:(P.map (lR S v z)).length=P.length:=aE);rw[uX] at H x2;have NX:aC wr d L:=MQ I8.o ao.o H.o.fr;have DM:=hid (tq.o.put (.slice a S.length ca) (.slice d L.length h) (.slice Y P.length Z));have rp:=hid (fL HB.o (show w.heap.size<=w.heap.size+1+1 by omega) (.slice a S.length ca) (.slice d L.length h) (.slice Y P.length Z))
   have iy:Value.ownBlock (.slice Y P.length Z)≠some (w.heap.size+1+1):=fun e=>by
    have:=(H.o.own.lt _ e).1;omega
   have Fv:=((H.o.own.off (g:=w.heap.size+1+1) (j:=0) (.slice a S.length ca) (H.o.far _ al al) iy).off (g:=w.heap.size+1+1) (j:=1) (.slice d L.length h) (H.o.far _ al al) iy).off (g:=w.heap.size+1+1) (j:=2) (.slice Y P.length Z) (H.o.far _ al al) iy;obtain⟨bg,bj,e2,EY⟩:=Fv.row;rw[uX] at e2;injection e2 with e3 e4 e5;subst e3 e5;clear e4;have OM:=hid EY;have Ci:=hid (((NX.off (g:=w.heap.size+1+1) (j:=0) (y:=.slice a S.length ca) uA.o).off (g:=w.heap.size+1+1) (j:=1) (y:=.slice d L.length h) uA.o).off (g:=w.heap.size+1+1) (j:=2) (y:=.slice Y P.length Z) uA.o);have cZ:=hid ((VH H.o.own.own).up (show w.heap.size<=O.heap.size by omega));clear Fv EY NX EZ;go_wp2;refine cP (DM.o.result1 rfl _ rfl) rfl ?_;have e6:=Pd.o;subst e6;exact⟨d,h,Y,Z,rfl,Ci.o,OM.o,cZ.o,rp.o⟩
variable {Q2:List (Value×Value)} {P2:List Tb} {wv:Value}
theorem afu {t:Tb} (h:Up t.1 n):t.1.contains (v:Int)=decide (v∈ag t.1):=by
 have:(v:Int)∈t.1↔v∈ag t.1:=by
  rw[ag,aH];constructor
  ·intro a;exact⟨_,a,aE⟩
  ·rintro⟨x,b,e⟩;have:=((jM.1 h).1 x b).1;rw[show (v:Int)=x by omega];exact b
 by_cases a:v∈ag t.1
 ·rw[bX a,AQ];exact this.2 a
 ·rw[cF a, <- Bool.not_eq_true,AQ];exact fun e=>a (this.1 e)
theorem alx (a:Kd) (ca:Nat) (S:Ki) (x y:Value) (t:Tb) (v:Nat) (m:Bool) (w:World) (Q:gI (iL S)) (hs:aC w a (iL S)) (h:eL w x y t) (o:eC S S.length t) (k:Cw 8192 t.2) (j:v<S.length) (n:v∈ag t.1):
  da 107 #[.slice a S.length ca,.agg #[x,y],.int .i64 (v:Nat),.bool m] w fun e w'=>FT w.heap.size (outT S v m t) e w'/\db w w':=by
 obtain⟨b,c,cb,cc,rfl,rfl,g,i,q⟩:=h;have l:=Q.eight;rw[bL] at l;have p:=o.small Q;have f:t.1.contains (v:Int)=true:=by rw[afu o.up,bX n]
 cases m with
 |false=>
  have:=aiK a b c ca cb cc (iL S) t.1 t.2 v w hs g i (by rw[bL];omega) al (o.check Q) k f (by rw[bL];exact j);rw[bL,iJ] at this;exact this.af fun e w' d=>⟨xg.tb (t:=outT S v false t) d.1,d.2⟩
 |true=>
  have:=aiL a b c ca cb cc (iL S) t.1 t.2 v w hs g i (by rw[bL];omega) al (o.check Q) k f (by rw[bL];exact j);rw[bL,iJ] at this;exact this.af fun e w' d=>⟨xg.tb (t:=outT S v true t) d.1,d.2⟩
theorem QX {B:Nat} {e:TypeId} {s:Nat} {v:Value} {r:Option Nat} (h:w.ownsRow B e s v n xs) (f:w.grownBy w' r) (i:∀R,v.ownBlock=some R ->r≠some R):w'.ownsRow B e s v n xs:=by
 refine⟨h.1,?_⟩;rcases h.2 with a |⟨g,cap,u,a,c,b,d⟩
 ·exact .inl a
 ·exact .inr ⟨g,cap,u,a,c,(f.block g (dD.1 b).1 (fun e=>i g (by rw[a];rfl) e.symm)).trans b,d⟩
theorem tM {B:Nat} {e:TypeId} {s:Nat} {v:Value} (h:w.ownsRow B e s v n xs):∀R,v.ownBlock=some R ->B<=R/\R<w.heap.size:=fun R a=>by
 rcases h.2 with ⟨b,c⟩ |⟨g,cap,r,b,c,d,_⟩
 ·rw[b] at a;cases a
 ·rw[b] at a;cases a;exact⟨c,(dD.1 d).1⟩
theorem xT {B:Nat} {e:TypeId} {s:Nat} {v:Value} (h:w.ownsRow B e s v n xs):∃a c,v=.slice a n c:=by
 rcases h.2 with ⟨b,d⟩ |⟨g,cap,r,b,_⟩
 ·exact⟨none,0,by rw[b,d]⟩
 ·exact⟨_,_,b⟩
structure Ad (w:World) (Q:List (Value×Value)) (P:List Tb):Prop where
 len:Q.length=P.length
 val:∀k (h:k<P.length) (h':k<Q.length),eL w Q[k].1 Q[k].2 P[k]
theorem Ad.nil (w:World):Ad w [] []:=⟨rfl,fun k h=>absurd h aE⟩
theorem Ad.push {Q:List (Value×Value)} {P:List Tb} {t:Tb} (h:Ad w Q P) (a:eL w x y t):Ad w (Q++[(x,y)]) (P++[t]):=by
 refine⟨by simp[h.len],fun k b c=>?_⟩;by_cases d:k<P.length
 ·have i:k<Q.length:=by rw[h.len];exact d
  rw[nh i,nh d];exact h.val k d i
 ·have i:¬k<Q.length:=by rw[h.len];exact d
  rw[tI al,tI al];simp only[P7];exact a
theorem Ad.owt {V:World} {B:Nat} {v:Value} {Q:List (Value×Value)} {P:List Tb} (h:Ad w Q P) (e:db w V) (c:w.heap.size<=B) (o:V.ownsRow B 38 2 v P.length (fH Q)):mR V B v Q P:=
 ⟨h.len,o,fun k a b=>(h.val k a b).aa e,fun R d k a b=>(h.val k a b).lt (aL c (tM o R d).1)⟩
structure oX (w W:World) (b:Nat) (x y tv wv:Value) (Q Q2:List (Value×Value)) (P P2:List Tb) (V:World):Prop where
 box:bY V b x y tv
 own:V.ownsRow W.heap.size 38 2 tv P.length (fH Q)
 own2:V.ownsRow W.heap.size 38 2 wv P2.length (fH Q2)
 q:Ad w Q P
 q2:Ad w Q2 P2
 ne:∀R,tv.ownBlock=some R ->wv.ownBlock≠some R
 fr:W.grownBy V (some b)
theorem oX.start {W:World} {b:Nat} (h:bY W b x y (.slice none 0 0)):oX w W b x y (.slice none 0 0) (.slice none 0 0) [] [] [] [] W:=
 ⟨h,(mR.nil _ _).own,(mR.nil _ _).own,Ad.nil _,Ad.nil _,(fun R e=>by cases e),YU _ _⟩
theorem oX.under {W V:World} {b:Nat} {Q:List (Value×Value)} {P:List Tb} (h:oX w W b x y tv wv Q Q2 P P2 V) (a:db V V'):oX w W b x y tv wv Q Q2 P P2 V':=
 ⟨h.box.aa a h.box.lt,JY h.own (Du.aa a),JY h.own2 (Du.aa a),h.q,h.q2,h.ne,YV h.fr a⟩
theorem oX.push2 {W V:World} {b:Nat} {a:Value} {Q:List (Value×Value)} {P:List Tb} {t:Tb} (h:oX w W b x y tv wv Q Q2 P P2 V) (l:b<W.heap.size) (f:eL w u1 u2 t) (o:V'.ownsRow W.heap.size 38 2 a (P2.length+1) (fH Q2++[u1,u2])) (g:V.grownBy V' wv.ownBlock) (n:a.ownBlock=wv.ownBlock∨∀k,a.ownBlock=some k ->V.heap.size<=k):
  oX w W b x y tv a Q (Q2++[(u1,u2)]) P (P2++[t]) V':=by
 have d:∀k,wv.ownBlock=some k ->W.heap.size<=k:=fun k e=>(tM h.own2 k e).1;refine⟨(g.block b h.box.lt (fun e=>by have:=d b e.symm;omega)).trans h.box,QX h.own g h.ne,by rw[Mj,bU];exact o,h.q,h.q2.push f,fun R e c=>?_,N4 h.fr g d⟩;rcases n with n |n
 ·rw[n] at c;exact h.ne R e c
 ·have i:=n R c;have j:=(tM h.own R e).2;omega
theorem oX.push1 {W V:World} {b:Nat} {I:Value} {Q:List (Value×Value)} {P:List Tb} {t:Tb} (h:oX w W b x y tv wv Q Q2 P P2 V) (p:b<W.heap.size) (j:eL w u1 u2 t) (i:V'.ownsRow W.heap.size 38 2 I (P.length+1) (fH Q++[u1,u2])) (g:V.grownBy V' tv.ownBlock) (n:I.ownBlock=tv.ownBlock∨∀k,I.ownBlock=some k ->V.heap.size<=k):
  oX w W b x y I wv (Q++[(u1,u2)]) Q2 (P++[t]) P2 (V'.setCell ⟨b,2,none⟩ I)/\bY V' b x y tv:=by
 have d:∀k,tv.ownBlock=some k ->W.heap.size<=k:=fun k e=>(tM h.own k e).1;have c:bY V' b x y tv:=(g.block b h.box.lt (fun e=>by have:=d b e.symm;omega)).trans h.box;have f:V'.ownsRow W.heap.size 38 2 wv P2.length (fH Q2):=QX h.own2 g (fun R e a=>h.ne R a e);have o:V'.ownsRow W.heap.size 38 2 I (P++[t]).length (fH (Q++[(u1,u2)])):=by rw[Mj,bU];exact i
 refine⟨⟨c.set2 I,PJ o (fun e=>?_) _,PJ f (fun e=>?_) _,h.q.push j,h.q2,fun R e a=>?_,Sz (N4 h.fr g d) _ _⟩,c⟩
 ·have:=(tM o b e).1;omega
 ·have:=(tM f b e).1;omega
 ·rcases n with n |n
  ·rw[n] at e;exact h.ne R e a
  ·have l:=n R e;have m:=(tM h.own2 R a).2;omega
theorem oX.plm {W V:World} {b:Nat} {Q:List (Value×Value)} {P:List Tb} (h:oX w W b x y tv wv Q Q2 P P2 V) (e:db w V) (d:w.heap.size<=W.heap.size):vF w.heap.size W b x y tv Q P V:=
 ⟨h.box,h.q.owt e d h.own,fun _ R _ k a c=>(h.q.val k a c).lt R,h.fr⟩
theorem oX.row2 {W V:World} {b:Nat} {Q:List (Value×Value)} {P:List Tb} (h:oX w W b x y tv wv Q Q2 P P2 V) (e:db w V) (d:w.heap.size<=W.heap.size):∃a c,wv=.slice a P2.length c/\jf V a P2:=(h.q2.owt e d h.own2).row
theorem ak6 (a b t:Kd) (ca cb ct:Nat) (S:Ki) (fr:Kh) (P:List Tb) (D c v:Nat) (aj:Bool) (w:World) (aQ:gI (iL S)) (hs:aC w a (iL S)) (hb:aC w b fr) (hP:jf w t P) (a8:gW S S.length P D c) (ch:P.length<=999) (kf:fr.length<=1000) (hm:2*(B D).size+(B c).size+2<=8192) (hv:v<S.length) (bs:∃t∈P,v∈ag t.1):
  da 207 #[.agg #[.slice a S.length ca,.slice b fr.length cb,.slice t P.length ct],.int .i64 (v:Nat),.bool aj] w fun e w'=>∃d M t' gD,e=.returned (.agg #[.slice a S.length ca,.slice d (cI fr v).length M,.slice t' (mq S v aj P).length gD])/\aC w' d (cI fr v)/\jf w' t' (mq S v aj P)/\iR w.heap.size t' gD/\db w w':=by
 have fp:Pos S:=by have:=aQ.pos;rwa [iJ] at this
 have kK:=hid (fun (U:World) (hU:db w U)=>acK (.slice a S.length ca) (.slice t P.length ct) b cb fr (v:Int) U (slv _ _ _) (slv _ _ _) (hb.aa hU) kf)
 have uF:Hid (∀(k:Nat) (hk:k<P.length) (x:Kd) (cx:Nat) (U:World),aC U x P[k].1 ->da 98 #[.slice x P[k].1.length cx,.int .i64 (v:Nat)] U fun e w'=>e=.returned (.bool (decide (v∈ag P[k].1)))/\db U w'):=fun k hk x cx U ai=>by
  have ho:=a8.ok _ (bP hk);have:=Mn x cx P[k].1 (v:Int) U ai (by have:=ho.small aQ;omega);rwa [afu ho.up] at this
 obtain⟨E1,d1,k1,k2,k3⟩:=a8.filter (fun t=>decide (v∈ag t.1))
 have bb:2*(B E1).size+(B d1).size+2<=8192:=by
  have h1:=kW k2;have h2:=kW k3;omega
 have aT:=k1.part fp bb (P.filter fun t=>decide (v∈ag t.1)).length;rw[iY] at aT
 have bu:v∈ag (allT S (P.filter fun t=>decide (v∈ag t.1))).1:=((BP fp k1.ok).2.1 v).2 (by
  obtain⟨t,ht,Hn⟩:=bs;exact⟨t,cQ.2 ⟨ht,bX Hn⟩,Hn⟩)
 have bC:(P.filter fun t=>decide (v∈ag t.1)).length<=1000:=aL (od ..) al;have IW:Hid (∀(wa:Kd) (cw:Nat) (U:World),db w U ->jf U wa (P.filter fun t=>decide (v∈ag t.1)) ->da 208 #[.slice a S.length ca,.slice wa (P.filter fun t=>decide (v∈ag t.1)).length cw] U fun e w'=>∃x y,e=.returned (.agg #[x,y])/\eL w' x y (allT S (P.filter fun t=>decide (v∈ag t.1)))/\db U w'):=fun wa cw U hU ai=>acz a wa ca cw S _ E1 d1 U aQ (hs.aa hU) ai k1 bC bb;have vQ:Hid (∀(x y:Value) (U:World),db w U ->eL U x y (allT S (P.filter fun t=>decide (v∈ag t.1))) ->da 107 #[.slice a S.length ca,.agg #[x,y],.int .i64 (v:Nat),.bool aj] U fun e w'=>FT U.heap.size (outT S v aj (allT S (P.filter fun t=>decide (v∈ag t.1)))) e w'/\db U w'):=fun x y U hU ai=>alx a ca S x y _ v aj U aQ (hs.aa hU) ai aT.1 aT.2 hv bu;have HP:=hid hP;clear hs hb hP a8 aQ fp hm bs k1 k2 k3 bb aT bu bC;obtain⟨T,hT⟩:∃T:Nat ->List Tb,∀k,(P.take k).filter (fun t=>!decide (v∈ag t.1))=T k:=⟨fun k=>(P.take k).filter (fun t=>!decide (v∈ag t.1)),fun _=>rfl⟩;obtain⟨Z,hZ⟩:∃Z:Nat ->List Tb,∀k,(P.take k).filter (fun t=>decide (v∈ag t.1))=Z k:=⟨fun k=>(P.take k).filter (fun t=>decide (v∈ag t.1)),fun _=>rfl⟩;have DD:Hid (T 0=[]/\Z 0=[]):=by show _/\_;rw[<- hT, <- hZ];exact⟨rfl,rfl⟩
 have gi:Hid (∀k (hk:k<P.length),decide (v∈ag P[k].1)=true ->T (k+1)=T k/\Z (k+1)=Z k++[P[k]]):=fun k hk ai=>by
  rw[<- hT, <- hT, <- hZ, <- hZ,im hk,xK,xK,yY (by simp only[ai];decide),yX (p:=fun t:Tb=>decide (v∈ag t.1)) ai];simp
 have nS:Hid (∀k (hk:k<P.length),decide (v∈ag P[k].1)=false ->T (k+1)=T k++[P[k]]/\Z (k+1)=Z k):=fun k hk ai=>by
  rw[<- hT, <- hT, <- hZ, <- hZ,im hk,xK,xK,yX (by simp only[ai];decide),yY (by simp only[ai];decide)];simp
 have vI:Hid (T P.length=(P.filter fun t=>!decide (v∈ag t.1))/\Z P.length=P.filter fun t=>decide (v∈ag t.1)):=by show _/\_;rw[<- hT, <- hZ,iY];exact⟨rfl,rfl⟩
 have DC:Hid (∀k,(T k).length<=P.length/\(Z k).length<=P.length):=fun k=>by rw[<- hT, <- hZ];exact⟨aL (od ..) (by rw[eW];omega),aL (od ..) (by rw[eW];omega)⟩
 clear hT hZ;obtain⟨OP,Yx⟩:∃OP,mq S v aj P=OP:=⟨_,rfl⟩;have I1:Hid (OP=T P.length++[outT S v aj (allT S (Z P.length))]):=by show _=_;rw[<- Yx,vI.o.1,vI.o.2];rfl
 rw[<- vI.o.2] at IW vQ;rw[Yx];generalize outT S v aj (allT S (Z P.length))=OT at *;generalize allT S (Z P.length)=AT at *;clear Yx vI;obtain⟨F,KF⟩:∃F,cI fr v=F:=⟨_,rfl⟩;rw[KF] at kK;rw[KF];clear KF;go_enter Tryz.func207,Tryz.ntmps207;go_wp2_with fail
 have aR:db w ((w.alloc (.cells #[.slice a S.length ca,.slice b fr.length cb,.slice t P.length ct] 177)).alloc (.cells #[.slice none 0 0,.slice none 0 0,.slice none 0 0] 177)):=by
  have h1:=(au w.heap.size w).alloc (ah _) (.cells #[.slice a S.length ca,.slice b fr.length cb,.slice t P.length ct] 177);exact h1.alloc h1.size _
 have zQ:bY ((w.alloc (.cells #[.slice a S.length ca,.slice b fr.length cb,.slice t P.length ct] 177)).alloc (.cells #[.slice none 0 0,.slice none 0 0,.slice none 0 0] 177)) w.heap.size (.slice a S.length ca) (.slice b fr.length cb) (.slice t P.length ct):=(bY.at (w:=w) rfl _ _ _).alloc _;have kD:bY ((w.alloc (.cells #[.slice a S.length ca,.slice b fr.length cb,.slice t P.length ct] 177)).alloc (.cells #[.slice none 0 0,.slice none 0 0,.slice none 0 0] 177)) (w.heap.size+1) (.slice none 0 0) (.slice none 0 0) (.slice none 0 0):=bY.at (w:=w.alloc (.cells #[.slice a S.length ca,.slice b fr.length cb,.slice t P.length ct] 177)) aE _ _ _;have IL:=hid (kK.o _ aR);clear kK;generalize ((w.alloc (.cells #[.slice a S.length ca,.slice b fr.length cb,.slice t P.length ct] 177)).alloc (.cells #[.slice none 0 0,.slice none 0 0,.slice none 0 0] 177))=W0 at *;refine IL.o.af ?_;rintro e J ⟨d,M,rfl,H6,M9,ay⟩;have cg:=kD.lt;have nN:=(au J.heap.size J).alloc (ah _) (.cells #[.slice a S.length ca,.slice d F.length M,.slice none 0 0] 177);have lN:(J.alloc (.cells #[.slice a S.length ca,.slice d F.length M,.slice none 0 0] 177)).heap.size=J.heap.size+1:=aE
 have fC:=(aR.trans (ay.af aR.size)).trans (nN.af (aL aR.size ay.size));have Il:=(zQ.aa ay zQ.lt).alloc (.cells #[.slice a S.length ca,.slice d F.length M,.slice none 0 0] 177);have yj:=(kD.aa ay kD.lt).alloc (.cells #[.slice a S.length ca,.slice d F.length M,.slice none 0 0] 177);have qT:oX w (J.alloc (.cells #[.slice a S.length ca,.slice d F.length M,.slice none 0 0] 177)) J.heap.size (.slice a S.length ca) (.slice d F.length M) (.slice none 0 0) (.slice none 0 0) [] [] [] [] (J.alloc (.cells #[.slice a S.length ca,.slice d F.length M,.slice none 0 0] 177)):=oX.start (bY.at (w:=J) rfl (.slice a S.length ca) (.slice d F.length M) (.slice none 0 0));have NY:=H6.aa nN;have cj:=ay.size
 have bS:Hid (∀g av,d=some ⟨g,av,none⟩ ->F≠[] ->some g≠some J.heap.size):=fun g av e b7 e2=>by
  obtain⟨g',o',e',ie,_⟩:=H6 0 (by cases hl:F with |nil=>exact absurd hl b7 |cons x l=>simp);rw[e] at e';cases e';cases e2;omega
 have uA:Hid (∀g av,d=some ⟨g,av,none⟩ ->F≠[] ->g≠w.heap.size+1):=fun g av e _ e2=>by
  have:=M9.2 g av e;omega
 clear H6 M9 ay aR zQ kD nN IL;have fV:=hid fC;have DU:=hid Il;have gH:=hid yj;have q8:=hid qT;have I8:=hid NY;have x8:=Il.cells.2.2;clear fC Il yj qT NY;go_wp2_with fail
 generalize (J.alloc (.cells #[.slice a S.length ca,.slice d F.length M,.slice none 0 0] 177))=W4 at *;clear x8;go_loopw [8,19] (fun zv iv wr=>∃(i:Nat) (tv:Value) (Q Q2:List (Value×Value)),i<=P.length/\iv=.int .i64 i/\Hid (oX w W4 J.heap.size (.slice a S.length ca) (.slice d F.length M) tv zv Q Q2 (T i) (Z i) wr)) (fun _ iv _=>P.length - (intOf iv).toNat)
 case atStart=>exact⟨0,_,_,_,aU _,rfl,by rw[DD.o.1,DD.o.2];exact q8⟩
 case round=>
  obtain⟨i,tv,Q,Q2,hi,rfl,HM⟩:=hrel;have Dc:=HM.o.fr.size;have HB:Hid (db w wr):=N3 fV.o HM.o.fr al al;have O1:Hid (bY wr w.heap.size (.slice a S.length ca) (.slice b fr.length cb) (.slice t P.length ct)):=(HM.o.fr.block _ DU.o.lt (fun e=>by have:=ko e;omega)).trans DU.o;have tq:Hid (bY wr (w.heap.size+1) (.slice none 0 0) (.slice none 0 0) (.slice none 0 0)):=(HM.o.fr.block _ gH.o.lt (fun e=>by have:=ko e;omega)).trans gH.o;have a7:J.heap.size<W4.heap.size:=al
  obtain⟨za,zc,rfl⟩:=xT HM.o.own2;by_cases aS:i<P.length
  ·obtain⟨g,av,p,q,rfl,hg,k0,k1,bj⟩:=HP.o i aS;replace k0:=(HB.o.cell (p:=⟨g,_,none⟩) hg).trans k0;replace k1:=(HB.o.cell (p:=⟨g,_,none⟩) hg).trans k1;have bf:=hid bj;have hA:=(au wr.heap.size wr).alloc (ah _) (TC p q);have ek:=hid (HB.o.trans (hA.af HB.o.size));(have iD:(wr.alloc (TC p q)).heap.size=wr.heap.size+1:=aE);have bD:=bw.at (w:=wr) rfl p q;have b0:=bD.c0;have lZ:=hid (HM.o.under hA);obtain⟨ps,qs,Y,qc,rfl,rfl,Da,_,_⟩:=bj;have HX:=hid (uF.o i aS ps Y _ (Da.aa ek.o));have rj:=hid bD;have b3:=hid (gi.o i aS);have b2:=hid (nS.o i aS);have ui:=DC.o i;clear Da hA bD HM HB O1 tq;have bO:Hid (Below (wr.alloc (TC (.slice ps P[i].1.length Y) (.slice qs P[i].2.length qc))).heap.size (wr.alloc (TC (.slice ps P[i].1.length Y) (.slice qs P[i].2.length qc))) (wr.alloc (TC (.slice ps P[i].1.length Y) (.slice qs P[i].2.length qc)))):=au _ _;generalize P[i]=u at *;generalize hdc:decide (v∈ag u.1)=dc at *;clear hdc;go_wp2_with fail
   refine HX.o.af ?_;rintro e w7 ⟨rfl,fP⟩;have o8:=hid (lZ.o.under fP);have Ed:=hid (rj.o.aa fP rj.o.lt);have cc:=Ed.o.c0;have cf:=Ed.o.c1;have BH:=(au w7.heap.size w7).alloc (ah _) (TC (.slice ps u.1.length Y) (.slice qs u.2.length qc));have o7:=hid (o8.o.under BH);have Ig:=bw.at (w:=w7) rfl (.slice ps u.1.length Y) (.slice qs u.2.length qc);have bm:=hid Ig.c0;have bk:=hid Ig.c1;have OW:Hid (W4.heap.size<=(w7.alloc (TC (.slice ps u.1.length Y) (.slice qs u.2.length qc))).heap.size):=o7.o.fr.size;have b9:=o8.o.box.cells.2.2;clear fP BH Ig HX lZ k0 k1 b0 rj ek Ed bO;cases dc with
   |true=>
    obtain⟨e1,e2⟩:=b3.o rfl
    have aN:∀(Et:Value) (z:World),z.ownsRow W4.heap.size 38 2 Et ((Z i).length+1) (fH Q2++[.slice ps u.1.length Y,.slice qs u.2.length qc]) ->(w7.alloc (TC (.slice ps u.1.length Y) (.slice qs u.2.length qc))).grownBy z (Value.ownBlock (.slice za (Z i).length zc)) ->(Et.ownBlock=Value.ownBlock (.slice za (Z i).length zc)∨∀k,Et.ownBlock=some k ->(w7.alloc (TC (.slice ps u.1.length Y) (.slice qs u.2.length qc))).heap.size<=k) ->(∃a' c',Et=Value.slice a' ((Z i).length+1) c')/\oX w W4 J.heap.size (.slice a S.length ca) (.slice d F.length M) tv Et Q (Q2++[(.slice ps u.1.length Y,.slice qs u.2.length qc)]) (T (i+1)) (Z (i+1)) z:=fun Et z X gM jb=>by
     have hM:=o7.o.push2 a7 bf.o X gM jb;rw[<- e2, <- e1] at hM;exact⟨xT X,hM⟩
    have HKEY:=hid aN;clear aN e1 e2 b9;go_wp2_with (at_builtin;refine Qj rfl _ _ rfl W4.heap.size (.slice za (Z i).length zc) (Z i).length (fH Q2) (.slice ps u.1.length Y) (.slice qs u.2.length qc) rfl o7.o.own2 w7.heap.size rfl bm.o bk.o (slv _ _ _) (slv _ _ _) al OW.o ?_;intro Et z X gM jb;obtain⟨⟨AZ,AY,rfl⟩,zS⟩:=HKEY.o Et z X gM jb;have q9:=hid zS;clear zS X gM jb)
    go_roundw
    case rel=>exact⟨i+1,_,_,_,al,b5,q9⟩
    case measure=>simp[intOf];omega
   |false=>
    obtain⟨e1,e2⟩:=b2.o rfl
    have aN:∀(V:Value) (z:World),z.ownsRow W4.heap.size 38 2 V ((T i).length+1) (fH Q++[.slice ps u.1.length Y,.slice qs u.2.length qc]) ->(w7.alloc (TC (.slice ps u.1.length Y) (.slice qs u.2.length qc))).grownBy z tv.ownBlock ->(V.ownBlock=tv.ownBlock∨∀k,V.ownBlock=some k ->(w7.alloc (TC (.slice ps u.1.length Y) (.slice qs u.2.length qc))).heap.size<=k) ->(∃a' c',V=Value.slice a' ((T i).length+1) c')/\oX w W4 J.heap.size (.slice a S.length ca) (.slice d F.length M) V (.slice za (Z i).length zc) (Q++[(.slice ps u.1.length Y,.slice qs u.2.length qc)]) Q2 (T (i+1)) (Z (i+1)) (z.setCell ⟨J.heap.size,2,none⟩ V)/\z.cell? ⟨J.heap.size,2,none⟩=some tv/\z.frozen? ⟨J.heap.size,2,none⟩=false:=fun V z X gM jb=>by
     obtain⟨hM,Fy⟩:=o7.o.push1 a7 bf.o X gM jb;rw[<- e2, <- e1] at hM;rw[e2] at hM;exact⟨xT X,by rw[e2];exact hM,Fy.cells.2.2,Fy.fz 2⟩
    have HKEY:=hid aN;clear aN e1 e2;go_wp2_with (at_builtin;refine Qj rfl _ _ rfl W4.heap.size tv (T i).length (fH Q) (.slice ps u.1.length Y) (.slice qs u.2.length qc) rfl o7.o.own w7.heap.size rfl bm.o bk.o (slv _ _ _) (slv _ _ _) al OW.o ?_;intro V z X gM jb;obtain⟨⟨AZ,AY,rfl⟩,zS,bN,bz⟩:=HKEY.o V z X gM jb;have q9:=hid zS;clear zS X gM jb)
    go_roundw
    case rel=>exact⟨i+1,_,_,_,al,b5,q9⟩
    case measure=>simp[intOf];omega
  ·obtain rfl:i=P.length:=al
   obtain⟨cp,cq,ez,bx⟩:=HM.o.row2 HB.o al;injection ez with ez1 ez2 ez3;subst ez1 ez3;clear ez2;have jC:=hid (HM.o.plm HB.o al);have bg:=hid bx;have ui:=(DC.o P.length).1;clear bx HM q8 gi nS DC uF;(have b6:(T P.length).length+1=OP.length:=by rw[I1.o,bU];rfl);go_upto_region 10 with (go_quiet (fail))
   have zV:db wr wr.drew:=(au wr.heap.size wr).drew;have A:Hid (db w wr.drew):=HB.o.drew;have Li:Hid (bY wr.drew w.heap.size (.slice a S.length ca) (.slice b fr.length cb) (.slice t P.length ct)):=O1.o;have a1:=hid (jC.o.under zV);have ax:=hid (bg.o.aa zV);have Hp:W4.heap.size<=wr.drew.heap.size:=Dc;clear jC bg HB O1 tq zV Dc;obtain⟨I,Dm⟩:∃I,wr.drew=I:=⟨_,rfl⟩;rw[Dm] at A Li a1 ax Hp;have ur:Hid (∀U:World,db I U ->U.cell? ⟨w.heap.size,0,none⟩=some (.slice a S.length ca)):=fun U hU=>(Li.o.aa hU Li.o.lt).cells.1;have E:Hid (db I I):=au _ _;refine jZ (S:=fun U=>U.cell? ⟨w.heap.size,0,none⟩=some (.slice a S.length ca)) ao (by rw[Dm];exact ur.o _ E.o) (fun o=>?_);rw[Dm] at o⊢;clear Dm;refine az 0 (.pointer (some ⟨w.heap.size,0,none⟩)) ?_;refine az 1 (.slice a S.length ca) ?_;refine az 2 (.pointer (some ⟨w.heap.size,0,none⟩)) ?_;refine az 3 (.slice a S.length ca) ?_;refine az 4 (.slice za (Z P.length).length zc) ?_;refine az 6 (.int .i64 (v:Nat)) ?_;refine az 7 (.bool aj) ?_;refine aG [5,12] (cA ?_ (cA ?_ aI))
   focus
    intro L K;go_simp;refine(IW.o za zc I A.o ax.o).af ?_;rintro e u1 ⟨x1,y1,rfl,oM,an⟩;replace A:=hid (A.o.trans (an.af A.o.size));replace E:=hid (E.o.trans (an.af E.o.size));have Al:=hid oM;clear o;refine K.o _ _ (ur.o u1 E.o) (fun o=>?_);clear K L an oM;refine aG [8,12] (cA ?_ (cA ?_ aI))
    focus
     intro L K;go_simp;refine(vQ.o x1 y1 u1 A.o Al.o).af ?_;rintro e u2 ⟨⟨x2,y2,rfl,ad,jq⟩,ae⟩;have q7:Hid (∀R,R<I.heap.size ->ig R OT (x2,y2)):=fun R hR=>jq R (aO hR E.o.size);replace A:=hid (A.o.trans (ae.af A.o.size));replace E:=hid (E.o.trans (ae.af E.o.size));have yE:=hid ad;obtain⟨xs,n,f,rfl⟩:=ad.slices.1;obtain⟨s,m,h,rfl⟩:=ad.slices.2;clear o;refine K.o _ _ (ur.o u2 E.o) (fun o=>?_);clear K L ae ad jq;refine az 9 (.tuple #[.agg #[.slice xs n f,.slice s m h],.int .i64 0]) ?_;refine az 10 (.agg #[.slice xs n f,.slice s m h]) ?_;refine az 11 (.int .i64 0) ?_;refine aG [12] (cA ?_ aI);intro L K;go_simp;have mK:=(au _ u2).alloc (ah _) (TC (.slice none 0 0) (.slice none 0 0));replace A:=hid (A.o.trans (mK.af A.o.size));have cR:I.heap.size<=u2.heap.size:=E.o.size;replace E:=hid (E.o.trans (mK.af E.o.size));have H:=hid (bw.at (w:=u2) rfl (.slice none 0 0) (.slice none 0 0));(have rR:u2.heap.size<(u2.alloc (TC (.slice none 0 0) (.slice none 0 0))).heap.size:=aE);have yJ:Hid (ig u2.heap.size OT (.slice xs n f,.slice s m h)):=yE.o.lt (ah _);replace yE:=hid (yE.o.aa mK);clear o;refine K.o _ _ (ur.o _ E.o) (fun o=>?_);clear K L mK;obtain⟨r,ab⟩:∃r,u2.heap.size=r:=⟨_,rfl⟩;obtain⟨u3,O⟩:∃u3,u2.alloc (TC (.slice none 0 0) (.slice none 0 0))=u3:=⟨_,rfl⟩;have EX:u2.alloc (.cells #[.slice none 0 0,.slice none 0 0] 38)=u3:=O;(have Fl:I.heap.size<=r:=al)
     (have Fk:r<u3.heap.size:=by rw[<- ab, <- O];exact rR);rw[ab,O] at H;clear cR rR;have cR:=Fl;have rR:=Fk;clear Fl Fk;rw[ab] at yJ;rw[O] at yE;rw[O] at E A;simp only[EX] at o⊢;simp only[ab];clear O EX ab;(try simp only[gE,aP]);obtain⟨b0,b1,Ot,Oq⟩:=H.o.facts;refine aG [13] (cA ?_ aI);intro L K;go_simp;have yF:=hid (H.o.put (.slice xs n f) (.slice s m h));have T8:=hid (qU A.o (aL al cR) (.slice xs n f) (.slice s m h));have F3:=hid (qU E.o cR (.slice xs n f) (.slice s m h));have Dz:=hid ((yE.o.off (g:=r) (j:=0) (.slice xs n f) yJ.o).off (g:=r) (j:=1) (.slice s m h) yJ.o);clear o;refine K.o _ _ (ur.o _ F3.o) (fun o=>?_);clear K L b0 b1 Ot Oq H A E yE yJ;refine az 14 (.int .i64 0) ?_;(try simp only[gE,aP]);refine gj ao ?_ _;clear o;obtain⟨u4,x6⟩:∃u4,((u3.setCell ⟨r,0,none⟩ (.slice xs n f)).setCell ⟨r,1,none⟩ (.slice s m h))=u4:=⟨_,rfl⟩
    rotate_left
    focus
     intro L K;go_simp;have mK:=(au _ u1).alloc (ah _) (TC (.slice none 0 0) (.slice none 0 0));replace A:=hid (A.o.trans (mK.af A.o.size));have cR:I.heap.size<=u1.heap.size:=E.o.size;replace E:=hid (E.o.trans (mK.af E.o.size));have H:=hid (bw.at (w:=u1) rfl (.slice none 0 0) (.slice none 0 0));(have rR:u1.heap.size<(u1.alloc (TC (.slice none 0 0) (.slice none 0 0))).heap.size:=aE);replace Al:=hid (Al.o.aa mK);clear o;refine K.o _ _ (ur.o _ E.o) (fun o=>?_);clear K L mK;obtain⟨r,ab⟩:∃r,u1.heap.size=r:=⟨_,rfl⟩;obtain⟨u3,O⟩:∃u3,u1.alloc (TC (.slice none 0 0) (.slice none 0 0))=u3:=⟨_,rfl⟩;have EX:u1.alloc (.cells #[.slice none 0 0,.slice none 0 0] 38)=u3:=O;(have Fl:I.heap.size<=r:=al);(have Fk:r<u3.heap.size:=by rw[<- ab, <- O];exact rR);rw[ab,O] at H;clear cR rR;have cR:=Fl;have rR:=Fk;clear Fl Fk;rw[O] at Al;rw[O] at E A;simp only[EX] at o⊢;simp only[ab];clear O EX ab;refine aG [8] (cA ?_ aI);intro L K;go_simp;refine(vQ.o x1 y1 u3 A.o Al.o).af ?_;rintro e u2 ⟨⟨x2,y2,rfl,ad,jq⟩,ae⟩;have q7:Hid (∀R,R<I.heap.size ->ig R OT (x2,y2)):=fun R hR=>jq R (aO hR E.o.size);have yJ:Hid (ig r OT (x2,y2)):=jq _ rR;replace H:=hid (H.o.aa ae H.o.lt);replace A:=hid (A.o.trans (ae.af A.o.size));replace E:=hid (E.o.trans (ae.af E.o.size));have yE:=hid ad;obtain⟨xs,n,f,rfl⟩:=ad.slices.1;obtain⟨s,m,h,rfl⟩:=ad.slices.2;refine K.o _ _ (ur.o u2 E.o) (fun ak=>?_);clear ae ad jq K L o
     have o:=ak;clear ak;refine az 9 (.tuple #[.agg #[.slice xs n f,.slice s m h],.int .i64 0]) ?_;refine az 10 (.agg #[.slice xs n f,.slice s m h]) ?_;refine az 11 (.int .i64 0) ?_;(try simp only[gE,aP]);obtain⟨b0,b1,Ot,Oq⟩:=H.o.facts;refine aG [13] (cA ?_ aI);intro L K;go_simp;have yF:=hid (H.o.put (.slice xs n f) (.slice s m h));have T8:=hid (qU A.o (aL al cR) (.slice xs n f) (.slice s m h));have F3:=hid (qU E.o cR (.slice xs n f) (.slice s m h));have Dz:=hid ((yE.o.off (g:=r) (j:=0) (.slice xs n f) yJ.o).off (g:=r) (j:=1) (.slice s m h) yJ.o);clear o;refine K.o _ _ (ur.o _ F3.o) (fun o=>?_);clear K L b0 b1 Ot Oq H A E yE yJ;refine az 14 (.int .i64 0) ?_;(try simp only[gE,aP]);refine gj ao ?_ _;clear o;obtain⟨u4,x6⟩:∃u4,((u2.setCell ⟨r,0,none⟩ (.slice xs n f)).setCell ⟨r,1,none⟩ (.slice s m h))=u4:=⟨_,rfl⟩
   rotate_left 2
   focus
    intro L K;go_simp;have mK:=(au _ I).alloc (ah _) (TC (.slice none 0 0) (.slice none 0 0));replace A:=hid (A.o.trans (mK.af A.o.size));have cR:I.heap.size<=I.heap.size:=E.o.size;replace E:=hid (E.o.trans (mK.af E.o.size));have H:=hid (bw.at (w:=I) rfl (.slice none 0 0) (.slice none 0 0));(have rR:I.heap.size<(I.alloc (TC (.slice none 0 0) (.slice none 0 0))).heap.size:=aE);replace ax:=hid (ax.o.aa mK);clear o;refine K.o _ _ (ur.o _ E.o) (fun o=>?_);clear K L mK;obtain⟨r,ab⟩:∃r,I.heap.size=r:=⟨_,rfl⟩;obtain⟨u3,O⟩:∃u3,I.alloc (TC (.slice none 0 0) (.slice none 0 0))=u3:=⟨_,rfl⟩;have EX:I.alloc (.cells #[.slice none 0 0,.slice none 0 0] 38)=u3:=O;(have Fl:I.heap.size<=r:=al);(have Fk:r<u3.heap.size:=by rw[<- ab, <- O];exact rR);rw[ab,O] at H;clear cR rR;have cR:=Fl;have rR:=Fk;clear Fl Fk;rw[O] at ax;rw[O] at E A;simp only[EX] at o⊢;simp only[ab];clear O EX ab;refine aG [5] (cA ?_ aI);intro L K;go_simp;refine(IW.o za zc u3 A.o ax.o).af ?_;rintro e u1 ⟨x1,y1,rfl,oM,an⟩;replace A:=hid (A.o.trans (an.af A.o.size));replace E:=hid (E.o.trans (an.af E.o.size));replace H:=hid (H.o.aa an H.o.lt);have Al:=hid oM;clear o;refine K.o _ _ (ur.o u1 E.o) (fun o=>?_);clear K L an oM;have bZ:r<u1.heap.size:=H.o.lt;refine aG [8] (cA ?_ aI);intro L K;go_simp;refine(vQ.o x1 y1 u1 A.o Al.o).af ?_;rintro e u2 ⟨⟨x2,y2,rfl,ad,jq⟩,ae⟩
    have q7:Hid (∀R,R<I.heap.size ->ig R OT (x2,y2)):=fun R hR=>jq R (aO hR E.o.size);have yJ:Hid (ig r OT (x2,y2)):=jq _ bZ;replace H:=hid (H.o.aa ae H.o.lt);replace A:=hid (A.o.trans (ae.af A.o.size));replace E:=hid (E.o.trans (ae.af E.o.size));have yE:=hid ad;obtain⟨xs,n,f,rfl⟩:=ad.slices.1;obtain⟨s,m,h,rfl⟩:=ad.slices.2;clear o;refine K.o _ _ (ur.o u2 E.o) (fun o=>?_);clear K L ae ad jq;refine az 9 (.tuple #[.agg #[.slice xs n f,.slice s m h],.int .i64 0]) ?_;refine az 10 (.agg #[.slice xs n f,.slice s m h]) ?_;refine az 11 (.int .i64 0) ?_;(try simp only[gE,aP]);obtain⟨b0,b1,Ot,Oq⟩:=H.o.facts;refine aG [13] (cA ?_ aI);intro L K;go_simp;have yF:=hid (H.o.put (.slice xs n f) (.slice s m h));have T8:=hid (qU A.o (aL al cR) (.slice xs n f) (.slice s m h));have F3:=hid (qU E.o cR (.slice xs n f) (.slice s m h));have Dz:=hid ((yE.o.off (g:=r) (j:=0) (.slice xs n f) yJ.o).off (g:=r) (j:=1) (.slice s m h) yJ.o);clear o;refine K.o _ _ (ur.o _ F3.o) (fun o=>?_);clear K L b0 b1 Ot Oq H A E yE yJ;refine az 14 (.int .i64 0) ?_;(try simp only[gE,aP]);refine gj ao ?_ _;clear o;obtain⟨u4,x6⟩:∃u4,((u2.setCell ⟨r,0,none⟩ (.slice xs n f)).setCell ⟨r,1,none⟩ (.slice s m h))=u4:=⟨_,rfl⟩
   all_goals
    rw[x6] at yF T8 F3 Dz⊢;clear x6;have a6:=hid (a1.o.under F3.o);have Fz:=(au u4.heap.size u4).alloc (ah _) (TC (.slice xs n f) (.slice s m h));have lp:=hid (a6.o.under Fz);have Tp:=hid (Dz.o.aa Fz);have X6:=bw.at (w:=u4) rfl (.slice xs n f) (.slice s m h);have bp:=hid X6.c0;have bo:=hid X6.c1;have uu:Hid (W4.heap.size<=(u4.alloc (TC (.slice xs n f) (.slice s m h))).heap.size):=lp.o.fr.size;have b8:=a6.o.box.cells.2.2;have g0:=yF.o.c0;have b4:=yF.o.c1;have bd:Hid (∀R,tv.ownBlock=some R ->ig R OT ((.slice xs n f),(.slice s m h))):=fun R hR=>q7.o R (a1.o.own.lt R hR).2;clear Fz X6 yF F3 Dz
    have HKEY:Hid (∀(V:Value) (z:World),z.ownsRow W4.heap.size 38 2 V ((T P.length).length+1) (fH Q++[(.slice xs n f),(.slice s m h)]) ->(u4.alloc (TC (.slice xs n f) (.slice s m h))).grownBy z tv.ownBlock ->(V.ownBlock=tv.ownBlock∨∀k,V.ownBlock=some k ->(u4.alloc (TC (.slice xs n f) (.slice s m h))).heap.size<=k) ->(∃a' c',V=Value.slice a' OP.length c')/\vF w.heap.size W4 J.heap.size (.slice a S.length ca) (.slice d F.length M) V (Q++[((.slice xs n f),(.slice s m h))]) OP (z.setCell ⟨J.heap.size,2,none⟩ V)/\z.cell? ⟨J.heap.size,2,none⟩=some tv/\z.frozen? ⟨J.heap.size,2,none⟩=false):=fun V z X gM jb=>by
     have hM:=lp.o.push al a7 Tp.o bd.o (fun R _ hR=>q7.o R al) X gM jb;rw[<- I1.o] at hM;have Fy:bY z J.heap.size (.slice a S.length ca) (.slice d F.length M) tv:=(gM.block _ lp.o.box.lt (fun e=>by have:=(lp.o.own.lt _ e.symm).1;omega)).trans lp.o.box;exact⟨by rw[<- b6];exact xT X,hM,Fy.cells.2.2,Fy.fz 2⟩
    go_upto_region 12 with (at_builtin;refine Qj rfl _ _ rfl W4.heap.size tv (T P.length).length (fH Q) (.slice xs n f) (.slice s m h) rfl lp.o.own.own u4.heap.size rfl bp.o bo.o (slv _ _ _) (slv _ _ _) al uu.o ?_;intro V z X gM jb;obtain⟨⟨AZ,AY,rfl⟩,zS,bN,bz⟩:=HKEY.o V z X gM jb;have q9:=hid zS;clear zS X gM jb)
    obtain⟨VV,br⟩:∃VV,z.setCell ⟨J.heap.size,2,none⟩ (.slice AZ OP.length AY)=VV:=⟨_,rfl⟩;rw[br] at q9⊢;clear br bN bz b8 g0 b4 HKEY bd uu bp bo Tp lp a6 q7 Al T8;have Dc:=q9.o.fr.size;have yL:Hid (db w VV):=N3 fV.o q9.o.fr al al;have xr:Hid (bY VV (w.heap.size+1) (.slice none 0 0) (.slice none 0 0) (.slice none 0 0)):=(q9.o.fr.block _ gH.o.lt (fun e=>by have:=ko e;omega)).trans gH.o;have NX:aC VV d F:=MQ I8.o bS.o q9.o.fr;obtain⟨x0,cm,cn⟩:=q9.o.box.cells;obtain⟨r0,r1,r2⟩:=xr.o.cells;have QF:=xr.o.fz 0;have QE:=xr.o.fz 1;have QD:=xr.o.fz 2;have DM:=hid (xr.o.put (.slice a S.length ca) (.slice d F.length M) (.slice AZ OP.length AY));have rp:=hid (fL yL.o (show w.heap.size<=w.heap.size+1 by omega) (.slice a S.length ca) (.slice d F.length M) (.slice AZ OP.length AY))
    have iy:Value.ownBlock (.slice AZ OP.length AY)≠some (w.heap.size+1):=fun e=>by
     have:=(q9.o.own.lt _ e).1;omega
    have Fv:=((q9.o.own.off (g:=w.heap.size+1) (j:=0) (.slice a S.length ca) (q9.o.far _ al al) iy).off (g:=w.heap.size+1) (j:=1) (.slice d F.length M) (q9.o.far _ al al) iy).off (g:=w.heap.size+1) (j:=2) (.slice AZ OP.length AY) (q9.o.far _ al al) iy;obtain⟨ck,cl,e2,EY⟩:=Fv.row;injection e2 with e3 e4 e5;subst e3 e5;clear e4;have OM:=hid EY;have Ci:=hid (((NX.off (g:=w.heap.size+1) (j:=0) (y:=.slice a S.length ca) uA.o).off (g:=w.heap.size+1) (j:=1) (y:=.slice d F.length M) uA.o).off (g:=w.heap.size+1) (j:=2) (y:=.slice AZ OP.length AY) uA.o);have cZ:=hid ((VH q9.o.own.own).up (show w.heap.size<=W4.heap.size by omega));clear Fv EY NX iy;go_wp2;refine cP (DM.o.result1 rfl _ rfl) rfl ?_;exact⟨d,M,AZ,AY,rfl,Ci.o,OM.o,cZ.o,rp.o⟩
theorem acJ {V:World} {o:Nat} {u:Value} (b:bY V g x y z) (h:cO x) (a:cO y) (d:cO z) (c:V.cell? ⟨g,o,none⟩=some u):cO u:=by
 rw[bh V g o _ _ (0,0) b] at c;match o,c with
 |0,c=>cases c;exact h
 |1,c=>cases c;exact a
 |2,c=>cases c;exact d
 |o+3,c=>simp at c
theorem aeq {V:World} {b:Kd} (h:aC V b l) (f:bY V g x y z) (j:cO x) (k:cO y) (m:cO z):∀g' o,b=some ⟨g',o,none⟩ ->l≠[] ->g'≠g:=fun g' o e n c=>by
 obtain⟨p,q,a,_,i⟩:=h 0 (by cases hl:l with |nil=>exact absurd hl n |cons x l=>simp);rw[e] at a;cases a;subst c;obtain⟨_,_,_,d⟩:=acJ f j k m i;cases d
theorem apD {V:World} {b:Kd} {l:List Fr} (h:cE V b l) (f:bY V g x y z) (j:cO x) (k:cO y) (m:cO z):∀g' o,b=some ⟨g',o,none⟩ ->l≠[] ->g'≠g:=fun g' o e n c=>by
 obtain⟨p,q,a,_,i,_⟩:=h 0 (by cases hl:l with |nil=>exact absurd hl n |cons x l=>simp);rw[e] at a;cases a;subst c;obtain⟨_,_,_,d⟩:=acJ f j k m i;cases d
theorem UU {V:World} {t:Tb} {p q:Value} (h:eL V p q t) (d:bY V g x y z) (f:cO x) (i:cO y) (j:cO z):ig g t (p,q):=by
 obtain⟨b,c,cb,cc,rfl,rfl,l,m,r⟩:=h;exact⟨fun g' o n k e a=>by injection e with e1 _ _;exact aeq l d f i j g' o e1 a,fun g' o n k e a=>by injection e with e1 _ _;exact apD m d f i j g' o e1 a⟩
theorem jf.offP {V:World} {P:List Tb} (u:Value) (h:jf V a P) (n:∀g' m,a=some ⟨g',m,none⟩ ->g'≠g) (t:∀k (b:k<P.length) p q,eL V p q P[k] ->ig g P[k] (p,q)):jf (V.setCell ⟨g,j,none⟩ u) a P:=fun k b=>by
 obtain⟨g',o,p,q,e,l,f,i,c⟩:=h k b;have d:(V.setCell ⟨g,j,none⟩ u).heap[g']? =V.heap[g']?:=eN V ⟨g,j,none⟩ u g' (n g' o e);exact⟨g',o,p,q,e,aO l (jD V _ _).size,(iz (a:=⟨g',_,none⟩) d).trans f,(iz (a:=⟨g',_,none⟩) d).trans i,c.off u (t k b p q c)⟩
theorem jf.putP {V:World} {P:List Tb} (h:jf V a P) (b:bY V g x y z) (i:cO x) (e:cO y) (c:cO z) (n:∀g' o,a=some ⟨g',o,none⟩ ->g'≠g) {u v:Value} (d:cO u) (f:cO v) (s:Value):jf (((V.setCell ⟨g,0,none⟩ u).setCell ⟨g,1,none⟩ v).setCell ⟨g,2,none⟩ s) a P:=
 ((h.offP u n fun _ _ _ _ t=>UU t b i e c).offP v n fun _ _ _ _ t=>UU t (b.set0 u) d e c).offP s n fun _ _ _ _ t=>UU t ((b.set0 u).set1 v) d f c
theorem aC.putP {V:World} (h:aC V a l) (b:bY V g x y z) (c:cO x) (d:cO y) (e:cO z) (u v s:Value):aC (((V.setCell ⟨g,0,none⟩ u).setCell ⟨g,1,none⟩ v).setCell ⟨g,2,none⟩ s) a l:=by
 have n:=aeq h b c d e;exact((h.off n).off n).off n
theorem ak8 (a b t q:Kd) (ca cb m cq:Nat) (S:Ki) (f vars:Kh) (P:List Tb) (D:Nat) (c:Nat ->Nat) (ad:Bool) (j:Nat ->List Tb) (F:Nat ->Kh) (w:World) (aQ:gI (iL S)) (hs:aC w a (iL S)) (hb:aC w b f) (hP:jf w t P) (hq:aC w q vars) (eO:vars.length<=1000)
  (h0:j 0=P/\F 0=f) (hk:∀i (h:i<f.length),vars.contains f[i]=true ->j (i+1)=j i/\F (i+1)=F i)
  (ho:∀i (h:i<f.length),vars.contains f[i]=false ->∃v:Nat,f[i]=(v:Int)/\j (i+1)=mq S v ad (j i)/\F (i+1)=cI (F i) v/\v<S.length/\∃t∈j i,v∈ag t.1)
  (iE:∀i,i<=f.length ->gW S S.length (j i) D (c i)/\(j i).length<=999/\(F i).length<=1000/\2*(B D).size+(B (c i)).size+2<=8192):
  da 152 #[.agg #[.slice a S.length ca,.slice b f.length cb,.slice t P.length m],.slice q vars.length cq,.bool ad] w fun e w'=>∃x y,e=.returned (.agg #[x,y])/\eL w' x y (allT S (j f.length))/\db w w':=by
 have IW:Hid (∀(k:Kd) (l:Nat) (U:World),db w U ->jf U k (j f.length) ->da 208 #[.slice a S.length ca,.slice k (j f.length).length l] U fun e w'=>∃x y,e=.returned (.agg #[x,y])/\eL w' x y (allT S (j f.length))/\db U w'):=fun k l U K h=>by
  obtain⟨A,h2,_,h4⟩:=iE f.length (ah _);exact acz a k ca l S _ D _ U aQ (hs.aa K) h A al h4
 have uF:Hid (∀(x:Int) (U:World),db w U ->da 98 #[.slice q vars.length cq,.int .i64 x] U fun e w'=>e=.returned (.bool (vars.contains x))/\db U w'):=fun x U K=>Mn q cq vars x U (hq.aa K) al
 have I0:Hid (∀(i:Nat) (h:i<f.length),vars.contains f[i]=false ->∀(n k:Kd) (s l:Nat) (U:World),db w U ->aC U n (F i) ->jf U k (j i) ->da 207 #[.agg #[.slice a S.length ca,.slice n (F i).length s,.slice k (j i).length l],.int .i64 f[i],.bool ad] U fun e w'=>∃d r k l,e=.returned (.agg #[.slice a S.length ca,.slice d (F (i+1)).length r,.slice k (j (i+1)).length l])/\aC w' d (F (i+1))/\jf w' k (j (i+1))/\iR U.heap.size k l/\db U w'):=fun i h hc n k s l U K A h2=>by
  obtain⟨v,Z,e2,e3,e4,e5⟩:=ho i h hc;obtain⟨g1,g2,g3,g4⟩:=iE i al;rw[Z,e2,e3];exact ak6 a n k ca s l S (F i) (j i) D (c i) v ad U aQ (hs.aa K) A h2 g1 g2 g3 g4 e4 e5
 have HK:=hid hk;have kf:f.length<=1000:=by have:=(iE 0 (aU _)).2.2.1;rwa [h0.2] at this
 have ak:=hid hb;obtain⟨e0,X⟩:=h0;have H0:Hid (bY ((w.alloc (.cells #[.slice a S.length ca,.slice b f.length cb,.slice t P.length m] 177)).alloc (TC (.slice none 0 0) (.slice none 0 0))) w.heap.size (.slice a S.length ca) (.slice b (F 0).length cb) (.slice t (j 0).length m)):=by rw[e0,X];exact(bY.at (w:=w) rfl _ _ _).alloc _
 have hA:db w ((w.alloc (.cells #[.slice a S.length ca,.slice b f.length cb,.slice t P.length m] 177)).alloc (TC (.slice none 0 0) (.slice none 0 0))):=by
  have A:=(au w.heap.size w).alloc (ah _) (.cells #[.slice a S.length ca,.slice b f.length cb,.slice t P.length m] 177);exact A.alloc A.size _
 have Ax:Hid (aC ((w.alloc (.cells #[.slice a S.length ca,.slice b f.length cb,.slice t P.length m] 177)).alloc (TC (.slice none 0 0) (.slice none 0 0))) b (F 0)):=by rw[X];exact hb.aa hA
 have DD:Hid (jf ((w.alloc (.cells #[.slice a S.length ca,.slice b f.length cb,.slice t P.length m] 177)).alloc (TC (.slice none 0 0) (.slice none 0 0))) t (j 0)):=by rw[e0];exact hP.aa hA
 have qi:Hid (bw ((w.alloc (.cells #[.slice a S.length ca,.slice b f.length cb,.slice t P.length m] 177)).alloc (TC (.slice none 0 0) (.slice none 0 0))) (w.heap.size+1) (.slice none 0 0) (.slice none 0 0)):=bw.at (w:=w.alloc (.cells #[.slice a S.length ca,.slice b f.length cb,.slice t P.length m] 177)) aE _ _;have HA:=hid hA;have aj:=H0.o.cells.2.1;rw[X] at aj;clear hs hb hP hq hk ho iE aQ hA e0 X;go_enter Tryz.func152,Tryz.ntmps152;go_wp2_with fail
 generalize ((w.alloc (.cells #[.slice a S.length ca,.slice b f.length cb,.slice t P.length m] 177)).alloc (TC (.slice none 0 0) (.slice none 0 0)))=W0 at *;clear aj;go_loopw [12] (fun iv wr=>∃(i:Nat) (n k:Kd) (s l:Nat),i<=f.length/\iv=.int .i64 i/\Hid (bY wr w.heap.size (.slice a S.length ca) (.slice n (F i).length s) (.slice k (j i).length l))/\Hid (aC wr n (F i))/\Hid (jf wr k (j i))/\Hid (bw wr (w.heap.size+1) (.slice none 0 0) (.slice none 0 0))/\Hid (db w wr)) (fun iv _=>f.length - (intOf iv).toNat)
 case atStart=>exact⟨0,_,_,_,_,aU _,rfl,H0,Ax,DD,qi,HA⟩
 case round=>
  obtain⟨i,n,k,s,l,hi,rfl,z,HI,HT,R,H⟩:=hrel;clear H0 Ax DD qi HA;obtain⟨M,O,Q⟩:=z.o.cells;have QT:=z.o.fz 0;have QS:=z.o.fz 1;have QR:=z.o.fz 2;by_cases ae:i<f.length
  ·obtain⟨g,ao,rfl,hg,k0⟩:=ak.o i ae;replace k0:=(H.o.cell (p:=⟨g,_,none⟩) hg).trans k0;have HC:=hid (uF.o f[i]);have ai:=hid (HK.o i ae);have Ty:=hid (I0.o i ae);generalize f[i]=x at *;generalize uZ:vars.contains x=cx at *;clear uZ;go_wp2_with fail
   refine(HC.o wr H.o).af ?_;rintro e w2 ⟨rfl,E⟩;have Y:=hid (H.o.trans (E.af H.o.size));have I:=hid (z.o.aa E z.o.lt);have tu:=hid (HI.o.aa E);have vJ:=hid (HT.o.aa E);have dr:=hid (R.o.aa E R.o.lt);clear E z HI HT R H M O Q QT QS QR;obtain⟨M,O,Q⟩:=I.o.cells;have aq:=I.o.lt;cases cx with
   |true=>
    obtain⟨Z,e2⟩:=ai.o rfl;rw[<- Z] at vJ I;rw[<- e2] at tu I;clear Z e2;have HX:=hid (And.intro I.o (And.intro tu.o vJ.o));go_wp2;go_roundw
    case rel=>exact⟨i+1,_,_,_,_,al,b5,HX.o.1,HX.o.2.1,HX.o.2.2,dr,Y⟩
    case measure=>simp[intOf];omega
   |false=>
    have DX:=hid (Ty.o rfl n k s l w2 Y.o tu.o vJ.o);clear Ty ai;go_wp2_with fail
    refine DX.o.af ?_;rintro e w3 ⟨d,r,V,T,rfl,zD,Ho,zu,o⟩;have u:=I.o.aa o I.o.lt;have L:=dr.o.aa o dr.o.lt;have J:=Y.o.trans (o.af Y.o.size);clear M O Q;obtain⟨M,O,Q⟩:=u.cells;have QT:=u.fz 0;have QS:=u.fz 1;have QR:=u.fz 2;have DT:=hid (u.put (.slice a S.length ca) (.slice d (F (i+1)).length r) (.slice V (j (i+1)).length T));have I7:=hid (zD.putP u (slv _ _ _) (slv _ _ _) (slv _ _ _) (.slice a S.length ca) (.slice d (F (i+1)).length r) (.slice V (j (i+1)).length T));have BX:=hid (Ho.putP u (slv _ _ _) (slv _ _ _) (slv _ _ _) (fun g' o' e=>by have:=zu.2 g' o' e;omega) (slv a S.length ca) (slv d (F (i+1)).length r) (.slice V (j (i+1)).length T));have sA:=hid (((L.off w.heap.size 0 (.slice a S.length ca) al).off w.heap.size 1 (.slice d (F (i+1)).length r) al).off w.heap.size 2 (.slice V (j (i+1)).length T) al);have fh:=hid (fL J (ah _) (.slice a S.length ca) (.slice d (F (i+1)).length r) (.slice V (j (i+1)).length T));clear zD Ho zu o u L J;go_wp2;go_roundw
    case rel=>exact⟨i+1,_,_,_,_,al,b5,DT,I7,BX,sA,fh⟩
    case measure=>simp[intOf];omega
  ·obtain rfl:i=f.length:=al
   have an:=hid (IW.o k l wr H.o HT.o);go_wp2_with fail
   refine an.o.af ?_;rintro e w3 ⟨x,y,rfl,ab,o⟩;obtain⟨xs,xn,xc,rfl⟩:=ab.slices.1;obtain⟨ys,yn,yc,rfl⟩:=ab.slices.2;have L:=R.o.aa o R.o.lt;have J:=H.o.trans (o.af H.o.size);obtain⟨t0,t1,f0,f1⟩:=L.facts;have DU:=hid (L.put (.slice xs xn xc) (.slice ys yn yc));have Dz:=hid (ab.putT L (slv _ _ _) (slv _ _ _) (slv xs xn xc) (.slice ys yn yc));have fV:=hid (qU (g:=w.heap.size+1) J al (.slice xs xn xc) (.slice ys yn yc));clear ab o L J M O Q QT QS QR;go_wp2;refine cP (DU.o.result1 rfl _ rfl) rfl ?_;exact⟨_,_,rfl,Dz.o,fV.o⟩
variable {vs:Ki}
def jN (S:Ki):Ki ->Nat
 |[]=>1
 |v::vs=>sz S v*jN S vs
theorem abi (h:Pos S):∀l,1<=jN S l
 |[]=>ah _
 |v::l=>LO (jE h v) (abi h l)
theorem abh (h:Pos S):∀(l:Ki) (k:Nat),jN S (l.take k)<=jN S l
 |[],k=>by rw[List.take_nil];exact ah _
 |v::l,0=>abi h _
 |v::l,k+1=>mi _ (abh h l k)
theorem gW.outs (p:Pos S) (m:Bool) (e:Nat ->Bool):∀(vs:Ki) {P:List Tb} {D c:Nat},gW S n P D c ->∃d,gW S n (kx S m e vs P) D d/\d<=jN S vs*c
 |[],P,D,c,h=>⟨c,h,by rw[jN,kO];exact ah _⟩
 |v::vs,P,D,c,h=>by
  have g:=jE p v;have f:jN S vs*c<=jN S (v::vs)*c:=lB _ (Em _ g);rw[kx];cases hk:e v with
  |true=>
   obtain⟨d,a,b⟩:=gW.outs p m e vs h;exact⟨d,by rw[aw rfl];exact a,aL b f⟩
  |false=>
   cases m with
   |true=>
    obtain⟨d,a,b⟩:=gW.outs p true e vs (h.most p v);exact⟨d,by rw[aA bd];exact a,aL b f⟩
   |false=>
    obtain⟨d,a,b⟩:=gW.outs p false e vs (h.o p v);refine⟨d,by rw[aA bd];exact a,aL b (Nat.le_of_eq ?_)⟩;show jN S vs*(sz S v*c)=sz S v*jN S vs*c;rw[<- jh,eB (jN S vs)]
theorem VI (S:Ki) (m:Bool) (e:Nat ->Bool) (v:Nat):∀(vs:Ki) (P:List Tb),kx S m e (vs++[v]) P=if e v then kx S m e vs P else mq S v m (kx S m e vs P)
 |[],P=>rfl
 |u::vs,P=>by rw[fS,kx,kx,VI S m e v vs]
theorem ac0 (S:Ki) (m:Bool) (e:Nat ->Bool):∀(vs:Ki) (P:List Tb),(kx S m e vs P).length<=P.length+vs.length
 |[],P=>ah _
 |v::vs,P=>by
  rw[kx];refine aL (ac0 S m e vs _) ?_
  have:(mq S v m P).length<=P.length+1:=by
   rw[mq,bU];exact Nat.add_le_add_right (od ..) 1
  split
  ·simp only[dV];omega
  ·simp only[dV];omega
def zY (keep:Int ->Bool):Kh ->Kh ->Kh
 |[],f=>f
 |x::l,f=>zY keep l (if keep x then f else cI f x)
theorem YR (e:Int ->Bool) (x:Int):∀(l f:Kh),zY e (l++[x]) f=if e x then zY e l f else cI (zY e l f) x
 |[],f=>rfl
 |y::l,f=>by rw[fS,zY,zY,YR e x l]
theorem afH (e:Int ->Bool):∀(l f:Kh),(zY e l f).length<=f.length
 |[],f=>ah _
 |x::l,f=>by
  rw[zY];refine aL (afH e l _) ?_;split
  ·exact ah _
  ·exact od ..
theorem PI.gone (p:Pos S) (m:Bool) (k:Nat ->Bool) {f:Ki} {P:List Tb} {F:(Nat ->Nat) ->Rat} (h:PI S n f P F) (g:NN S P) (c:v∈f) (d:¬v∈vs):∃t∈kx S m k vs P,v∈ag t.1:=by
 cases m with
 |false=>
  obtain⟨r,a,b⟩:=PI.outs p k vs h;exact b.sup v ((a v).2 ⟨c,fun e=>absurd e d⟩)
 |true=>
  obtain⟨r,a,b,_⟩:=PI.mosts p k vs h g;exact b.sup v ((a v).2 ⟨c,fun e=>absurd e d⟩)
theorem ak7 (a b t q:Kd) (ca cb u s:Nat) (S:Ki) (f:Ki) (vars:Kh) (P:List Tb) (F:(Nat ->Nat) ->Rat) (D c:Nat) (m:Bool) (w:World) (Q:gI (iL S)) (hs:aC w a (iL S)) (J:aC w b (iL f)) (I:jf w t P) (K:aC w q vars) (O:vars.length<=1000)
  (Z:f.Nodup) (U:∀v∈f,v<S.length) (L:PI S S.length f P F) (M:NN S P) (A:gW S S.length P D c) (Y:P.length+f.length<=999) (X:2*(B D).size+(B (jN S f*c)).size+2<=8192):
  da 152 #[.agg #[.slice a S.length ca,.slice b f.length cb,.slice t P.length u],.slice q vars.length s,.bool m] w fun e w'=>∃x y,e=.returned (.agg #[x,y])/\eL w' x y (allT S (kx S m (fun v=>vars.contains (v:Int)) f P))/\db w w':=by
 have p:Pos S:=by have:=Q.pos;rwa [iJ] at this
 have R:∀i,∃d,gW S S.length (kx S m (fun v=>vars.contains (v:Int)) (f.take i) P) D d/\d<=jN S f*c:=fun i=>by
  obtain⟨d,n,o⟩:=gW.outs p m (fun v=>vars.contains (v:Int)) (f.take i) A;exact⟨d,n,aL o (lB _ (abh p _ _))⟩
 obtain⟨cc,T⟩:=Classical.axiomOfChoice R;have r:(iL f).length=f.length:=bL f;have z:∀i (h:i<(iL f).length) (g:i<f.length),(iL f)[i]=(f[i]:Int):=fun i h g=>by simp[iL]
 have j:∀i (g:i<f.length),f.take (i+1)=f.take i++[f[i]]:=fun i g=>im g
 have:=ak8 a b t q ca cb u s S (iL f) vars P D cc m (fun i=>kx S m (fun v=>vars.contains (v:Int)) (f.take i) P) (fun i=>zY (fun x=>vars.contains x) (iL (f.take i)) (iL f)) w Q hs J I K O ⟨rfl,rfl⟩
  (fun i h k=>by
   (have g:i<f.length:=by rw[<- r];exact h);rw[z i h g] at k;refine⟨?_,?_⟩
   ·show kx _ _ _ (f.take (i+1)) _=_;rw[j i g,VI,aw k]
   ·show zY _ (iL (f.take (i+1))) _=_;rw[j i g,iL,eh,fG,ng,YR,aw k];rfl)
  (fun i h k=>by
   (have g:i<f.length:=by rw[<- r];exact h);rw[z i h g] at k⊢;refine⟨f[i],rfl,?_,?_,U _ (bP g),PI.gone p m _ L M (bP g) ?_⟩
   ·show kx _ _ _ (f.take (i+1)) _=_;rw[j i g,VI,aA (by rw[k];decide)]
   ·show zY _ (iL (f.take (i+1))) _=_;rw[j i g,iL,eh,fG,ng,YR,aA (by rw[k];decide)];rfl
   ·intro E;have l:(f.take (i+1)).Nodup:=Z.sublist (List.take_sublist ..);rw[j i g,lC] at l;exact l.2.2 _ E _ (dS.2 rfl) rfl)
  (fun i _=>by
   obtain⟨n,o⟩:=T i;have l:=ac0 S m (fun v=>vars.contains (v:Int)) (f.take i) P;rw[eW] at l;have H:=afH (fun x=>vars.contains x) (iL (f.take i)) (iL f);rw[bL] at H;have V:=kW o;exact⟨n,by show List.length _<=_;omega,by show List.length _<=_;omega,al⟩)
 rw[r] at this;simp only[iY] at this;exact this
variable {i:Nat}
def oQ (S:Ki) (n:Nat) (F:List (Int×Int)) (i:Nat):Int:=
 if ¬(0<=(F.getD i (0,0)).1/\(F.getD i (0,0)).1<(n:Int)) then 11 else if ¬(0<=(F.getD i (0,0)).2/\(F.getD i (0,0)).2<(sz S (F.getD i (0,0)).1.toNat:Int)) then 12 else if ((F.take i).any fun p=>p.1==(F.getD i (0,0)).1)=true then 7 else 0
def ir (V:List Vr) (L:List Kh) (R:List (List Fr)) (F:List (Int×Int)):Int:=if aW V L R=0 then jU (oQ (ar V) V.length F) F.length else aW V L R
theorem Sy (h:i<F.length):F.getD i (0,0)=F[i]:=by rw[bF,aV h];rfl
theorem af6 (a:i<F.length) (h:¬(0<=F[i].1/\F[i].1<(n:Int))):oQ S n F i=11:=by rw[oQ,Sy a,aw h]
theorem af7 (b:i<F.length) (h:0<=F[i].1/\F[i].1<(n:Int)) (a:¬(0<=F[i].2/\F[i].2<(sz S F[i].1.toNat:Int))):oQ S n F i=12:=by rw[oQ,Sy b,aA (fun e=>e h),aw a]
theorem af8 (c:i<F.length) (h:0<=F[i].1/\F[i].1<(n:Int)) (a:0<=F[i].2/\F[i].2<(sz S F[i].1.toNat:Int)) (b:((F.take i).any fun p=>p.1==F[i].1)=true):oQ S n F i=7:=by rw[oQ,Sy c,aA (fun e=>e h),aA (fun e=>e a),aw b]
theorem af9 (c:i<F.length) (h:0<=F[i].1/\F[i].1<(n:Int)) (a:0<=F[i].2/\F[i].2<(sz S F[i].1.toNat:Int)) (b:((F.take i).any fun p=>p.1==F[i].1)=false):oQ S n F i=0:=by rw[oQ,Sy c,aA (fun e=>e h),aA (fun e=>e a),aA (by rw[b];decide)]
theorem GW (h:v<V.length):sz (ar V) v=V[v].2.length:=by rw[sz,Mo h];rfl
theorem Wv (a b c d:Kd) (ca cb cc s:Nat) (V:List Vr) (L:List Kh) (R:List (List Fr)) (F:List (Int×Int)) (w:World) (h:iT w a b c V L R) (hs:sk V L R) (X:ju w d F) (hn:F.length<=1000) (zI:F.length<=s):
  da 36 #[.agg #[.slice a V.length ca,.slice b L.length cb,.slice c R.length cc],.slice d F.length s] w (du w (.int .i64 (ir V L R F))):=by
 have A:=(au w.heap.size w).alloc (ah _) (NC (.slice a V.length ca) (.slice b L.length cb) (.slice c R.length cc));have uB:=hid (bW.at (w:=w) rfl (.slice a V.length ca) (.slice b L.length cb) (.slice c R.length cc));have jt:=hid (agK a b c ca cb cc V L R _ (h.aa A) hs);have K:=hid A;have uo:=hid h.vars;have HF:=hid X;have NI:V.length<=5000:=hs.vars.1;have Dy:Hid (∀v (m:v<V.length),V[v].2.length<=5000):=fun v m=>hs.vars.2 _ (bP m) |>.2.1;obtain⟨y,x⟩:∃y,ir V L R F=y:=⟨_,rfl⟩;have uE:Hid (aW V L R≠0 ->aW V L R=y):=fun e=>by rw[<- x,ir,aA e]
 have pg:Hid (aW V L R=0 ->∀i,i<F.length ->(∀j,j< i ->oQ (ar V) V.length F j=0) ->∀k,oQ (ar V) V.length F i=k ->k≠0 ->k=y):=fun e i hi hz k hk aQ=>by rw[<- x,ir,aw e,N8 hz (by rw[hk];exact aQ) hi,hk]
 have xD:Hid (aW V L R=0 ->(∀j,j<F.length ->oQ (ar V) V.length F j=0) ->0=y):=fun e hz=>by rw[<- x,ir,aw e,BL hz]
 have TK:=hid (fun (i:Nat) (v:Int) (U:World) (Y:db w U)=>Ww d s (F.take i) v U ((X.aa Y).take i) (by rw[eW];omega));rw[x];clear h hs X A x;go_enter Tryz.func36,Tryz.ntmps36;go_wp2_with fail
 refine jt.o.af ?_;rintro e w1 ⟨rfl,ab⟩;have Q:=hid (K.o.trans (ab.af K.o.size));have Gc:=hid (uB.o.aa ab uB.o.lt);clear ab jt uB K;by_cases u:aW V L R=0
 ·rw[u];have Au:=hid u;clear u;go_wp2_with fail
  go_loopw [15] (fun iv wr=>∃i:Nat,i<=F.length/\iv=.int .i64 i/\Hid (∀j,j< i ->oQ (ar V) V.length F j=0)/\Hid (bW wr w.heap.size (.slice a V.length ca) (.slice b L.length cb) (.slice c R.length cc))/\Hid (db w wr)) (fun iv _=>F.length - (intOf iv).toNat)
  case atStart=>exact⟨0,aU _,rfl,(fun j hj=>absurd hj al),Gc,Q⟩
  case round=>
   obtain⟨i,hi,rfl,Z,HN,H⟩:=hrel;clear Gc Q;by_cases t:i<F.length
   ·obtain⟨g,ad,rfl,hg,h0,h1⟩:=HF.o i t;have k0:=(H.o.cell (p:=⟨g,_,none⟩) hg).trans h0;have k1:=(H.o.cell (p:=⟨g,_,none⟩) hg).trans h1;have M:=hid (pg.o Au.o i t Z.o);have T1:Hid (¬(0<=F[i].1/\F[i].1<(V.length:Int)) ->oQ (ar V) V.length F i=11):=af6 t;have Pk:Hid (0<=F[i].1/\F[i].1<(V.length:Int) ->¬(0<=F[i].2/\F[i].2<(sz (ar V) F[i].1.toNat:Int)) ->oQ (ar V) V.length F i=12):=af7 t;have Pj:Hid (0<=F[i].1/\F[i].1<(V.length:Int) ->(0<=F[i].2/\F[i].2<(sz (ar V) F[i].1.toNat:Int)) ->((F.take i).any fun p=>p.1==F[i].1)=true ->oQ (ar V) V.length F i=7):=af8 t;have Cn:Hid (0<=F[i].1/\F[i].1<(V.length:Int) ->(0<=F[i].2/\F[i].2<(sz (ar V) F[i].1.toNat:Int)) ->((F.take i).any fun p=>p.1==F[i].1)=false ->oQ (ar V) V.length F i=0):=af9 t;have qm:Hid (oQ (ar V) V.length F i=0 ->∀j,j<i+1 ->oQ (ar V) V.length F j=0):=fun e=>Uz Z.o e;have aj:=hid (TK.o i F[i].1);(have rL:(F.take i).length=i:=by rw[eW];omega);rw[rL] at aj;generalize oQ (ar V) V.length F i=fe at *;generalize ((F.take i).any fun p=>p.1==F[i].1)=fq at *;generalize F[i].1=l at *;generalize F[i].2=f at *;have A:=(au wr.heap.size wr).alloc (ah _) (.cells #[.int .i64 l,.int .i64 f] 30);(have iD:(wr.alloc (.cells #[.int .i64 l,.int .i64 f] 30)).heap.size=wr.heap.size+1:=aE);have Nt:(wr.alloc (.cells #[.int .i64 l,.int .i64 f] 30)).heap[wr.heap.size]? =some (.cells #[.int .i64 l,.int .i64 f] 30 (0,0)):=eM wr _;have o:=hid Nt;have O:=hid (HN.o.aa A HN.o.lt)
    have n:=hid (H.o.trans (A.af H.o.size));have nc:=O.o.cells.1;clear h0 h1 rL A Nt;by_cases m:0<=l/\l<(V.length:Int)
    ·obtain⟨v,rfl⟩:∃v:Nat,l=v:=⟨l.toNat,al⟩;(have J:v<V.length:=al);obtain⟨gv,ov,bv,cv,rfl,Ky,aR,oM,_,_⟩:=uo.o v J;have zm:sz (ar V) v=V[v].2.length:=GW J;have aS:=Dy.o v J;rw[qE,zm] at Pk Pj Cn;have kv:=(n.o.cell (p:=⟨gv,_,none⟩) Ky).trans oM;generalize V[v].2.length=sv at *;have P:=hid m;clear aR oM m zm;obtain⟨an,av⟩:(wr.alloc (.cells #[.int .i64 (v:Nat),.int .i64 f] 30)).cell? ⟨wr.heap.size,0,none⟩=some (.int .i64 (v:Nat))/\(wr.alloc (.cells #[.int .i64 (v:Nat),.int .i64 f] 30)).cell? ⟨wr.heap.size,1,none⟩=some (.int .i64 f):=⟨by rw[bh _ _ 0 _ _ (0,0) o.o];rfl,by rw[bh _ _ 1 _ _ (0,0) o.o];rfl⟩;by_cases D:0<=f/\f<(sv:Int)
     ·obtain⟨z,rfl⟩:∃z:Nat,f=z:=⟨f.toNat,al⟩;(have a6:z<sv:=al);have ae:=hid D;clear D;go_upto_region 11 with (go_quiet (fail))
      have ay:Hid (((wr.alloc (.cells #[.int .i64 (v:Nat),.int .i64 (z:Nat)] 30)).drewN nq).heap[wr.heap.size]? =some (.cells #[.int .i64 (v:Nat),.int .i64 (z:Nat)] 30 (0,0))):=o.o;have uA:Hid (bW ((wr.alloc (.cells #[.int .i64 (v:Nat),.int .i64 (z:Nat)] 30)).drewN nq) w.heap.size (.slice (some ⟨gv,ov,none⟩) V.length ca) (.slice b L.length cb) (.slice c R.length cc)):=O.o;have T:=hid (below_drewN n.o nq);(have Hp:wr.heap.size<((wr.alloc (.cells #[.int .i64 (v:Nat),.int .i64 (z:Nat)] 30)).drewN nq).heap.size:=by show wr.heap.size<(wr.alloc _).heap.size;rw[iD];omega);clear an av kv nc o O n iD;generalize (wr.alloc (.cells #[.int .i64 (v:Nat),.int .i64 (z:Nat)] 30)).drewN nq=W3 at *
      have uw:Hid (∀U:World,Below W3.drew.heap.size W3.drew U ->U.cell? ⟨wr.heap.size,0,none⟩=some (.int .i64 (v:Nat))):=fun U Y=>(Y.cell (p:=⟨wr.heap.size,0,none⟩) Hp).trans (by
       have:W3.drew.heap[wr.heap.size]? =some (.cells #[.int .i64 (v:Nat),.int .i64 (z:Nat)] 30 (0,0)):=ay.o;rw[bh _ _ 0 _ _ (0,0) this];rfl)
      have ai:=hid (aj.o W3.drew T.o.drew);(have a1:(i:Int)<=(s:Int):=al);refine jZ (S:=fun U=>U.cell? ⟨wr.heap.size,0,none⟩=some (.int .i64 (v:Nat))) ao (uw.o _ (au _ _)) (fun aq=>?_);refine az 0 (.slice (some ⟨g,ad,none⟩) F.length s) ?_;refine az 1 (.int .i64 (i:Nat)) ?_;refine az 2 (.slice (some ⟨g,ad,none⟩) i s) ?_;refine az 3 (.pointer (some ⟨wr.heap.size,0,none⟩)) ?_;refine az 4 (.int .i64 (v:Nat)) ?_;refine aG [5] (cA ?_ aI);intro K' ax;go_simp;refine ai.o.af ?_;rintro r w5 ⟨rfl,I⟩;refine ax.o _ _ (uw.o w5 I) (fun ak=>?_);clear ax K' aq;(try simp only[gE,aP]);refine gj ao ?_ _;clear ak;have fh:Hid (db w w5):=T.o.drew.trans (I.af T.o.drew.size);have I3:Hid (bW w5 w.heap.size (.slice (some ⟨gv,ov,none⟩) V.length ca) (.slice b L.length cb) (.slice c R.length cc)):=bW.aa (w:=W3.drew) uA.o I uA.o.lt;clear I ai uw;cases fq with
      |true=>
       have q:=hid (M.o 7 (Pj.o P.o ae.o rfl) bd);go_wp2;go_ret;exact⟨by rw[<- q.o];rfl,fh.o⟩
      |false=>
       have aN:=hid (qm.o (Cn.o P.o ae.o rfl));go_wp2;go_roundw
       case rel=>exact⟨i+1,al,b5,aN,I3,fh⟩
       case measure=>simp[intOf];omega
     ·have q:=hid (M.o 12 (Pk.o P.o D) bd);rcases Int.lt_or_le f 0 with E |E
      ·have wP:decide (f<0)=true:=bX E;clear D;go_wp2_with (go_quiet (fail))
       go_ret;exact⟨by rw[<- q.o];rfl,below_drewN n.o _⟩
      ·have wP:decide (f<0)=false:=cF al;have pY:decide ((sv:Int)<=f)=true:=bX al;clear D;go_wp2_with (go_quiet (fail))
       go_ret;exact⟨by rw[<- q.o];rfl,below_drewN n.o _⟩
    ·have q:=hid (M.o 11 (T1.o m) bd);obtain⟨an,av⟩:(wr.alloc (.cells #[.int .i64 l,.int .i64 f] 30)).cell? ⟨wr.heap.size,0,none⟩=some (.int .i64 l)/\(wr.alloc (.cells #[.int .i64 l,.int .i64 f] 30)).cell? ⟨wr.heap.size,1,none⟩=some (.int .i64 f):=⟨by rw[bh _ _ 0 _ _ (0,0) o.o];rfl,by rw[bh _ _ 1 _ _ (0,0) o.o];rfl⟩;rcases Int.lt_or_le l 0 with E |E
     ·clear m;go_wp2_with fail
      go_ret;exact⟨by rw[<- q.o];rfl,n.o⟩
     ·have h3:(V.length:Int)<=l:=al
      (have h4:¬l<0:=al);clear m;go_wp2_with fail
      go_ret;exact⟨by rw[<- q.o];rfl,n.o⟩
   ·obtain rfl:i=F.length:=al
    have q:=hid (xD.o Au.o Z.o);go_wp2;go_ret;exact⟨by rw[<- q.o];rfl,H.o⟩
 ·have q:=hid (uE.o u);have aT:(aW V L R==0)=false:=by simpa using u
  clear u uE pg xD;generalize aW V L R=ne at *;go_wp2;go_ret;exact⟨by rw[<- q.o];rfl,Q.o⟩
variable {kl:Nat×Bool ->Lit} {W3:World}
theorem aaA (w:World):(zeroValue 244).run Tryz.prog w=.ok (.agg #[]) w:=by
 obtain⟨a,c,h,z,b⟩:=eA (show (Tryz.prog.info? 244).map (fun i=>(i.zero,i.size,i.bytes))=some (some (.agg #[]),0,0) by kernel_rfl);simp[zeroValue,typeInfo,c,h]
structure xo (kl:Nat×Bool ->Lit) (W3:World) (b:Nat) (S W:List (Nat×Bool)) (D:DataW Unit) (wv:Value) (V:World):Prop where
 map:Cq kl V b S D
 row:xm V W3.heap.size wv W
 fr:W3.grownBy V (some b)
theorem xo.alloc {b:Nat} {S W:List (Nat×Bool)} {D:DataW Unit} {V:World} (h:xo kl W3 b S W D wv V) (o:Obj):xo kl W3 b S W D wv (V.alloc o):=
 ⟨h.map.kept (World.grownBy_alloc V o none) aE,LI h.row o,by
  have A:=(au V.heap.size V).alloc (ah _) o;exact⟨A.os.trans h.fr.os,A.tape.trans h.fr.tape,A.output.trans h.fr.output,aL h.fr.size A.size,fun k a e=>(A.block k (aO a h.fr.size)).trans (h.fr.block k a e)⟩⟩
theorem xo.put (i:∀p:Nat×Bool,p.1< 8 ->keyOf Tryz.prog 243 (CT p)=some (kl p)) {b:Nat} {S W:List (Nat×Bool)} {D:DataW Unit} {V:World} (h:xo kl W3 b S W D wv V) (l:b<W3.heap.size) {p:Nat×Bool} (j:p.1<8) {d:DataW Unit} (o:V'.ownsMap Tryz.prog 243 (unitElem (H:=Unit)) b (S.length+1) (D.put (kl p) d)) (a:V.grownBy V' (some b)):xo kl W3 b (p::S) W (D.put (kl p) d) wv V':=by
 refine⟨h.map.put i j o,LH h.row a ?_,⟨a.os.trans h.fr.os,a.tape.trans h.fr.tape,a.output.trans h.fr.output,aL h.fr.size a.size,fun k c n=>(a.block k (aO c h.fr.size) n).trans (h.fr.block k c n)⟩⟩;cases e:wv.ownBlock with
 |none=>exact .inl rfl
 |some g=>
  refine .inr fun f=>?_;cases f;have:=acX h.row b e;omega
theorem xo.more {b:Nat} {S W W':List (Nat×Bool)} {D:DataW Unit} {v:Value} {V:World} (h:xo kl W3 b S W D wv V) (c:b<W3.heap.size) (r:xm V' W3.heap.size v W') (g:Gm V V' wv v):xo kl W3 b S W' D v V':=by
 have n:∀k,k<W3.heap.size ->some k≠wv.ownBlock:=fun k a e=>by
  have:=acX h.row k e.symm;omega
 exact⟨h.map.kept g.1 (n b c),r,⟨g.1.os.trans h.fr.os,g.1.tape.trans h.fr.tape,g.1.output.trans h.fr.output,aL h.fr.size g.1.size,fun k a d=>(g.1.block k (aO a h.fr.size) (n k a)).trans (h.fr.block k a d)⟩⟩
theorem xm.init {B:Nat} {d:Kd} {T:List (Nat×Bool)} {p:Nat×Bool} (h:xm w B (.slice d n c) (T++[p])):∃g,d=some ⟨g,0,none⟩/\n=T.length+1/\T.length<=c/\T.length+1<=c/\B<=g/\g<w.heap.size/\w.cell? ⟨g,T.length*2,none⟩=some (.int .i64 (p.1:Nat))/\w.cell? ⟨g,T.length*2+1,none⟩=some (.bool p.2)/\xm w B (.slice (some ⟨g,0,none⟩) T.length c) T:=by
 have m:(T++[p]).length=T.length+1:=aE
 have l:=Zp T;rcases h.2 with ⟨i,a⟩ |⟨g,cap,s,i,a,e,k,q,r,b⟩
 ·rw[m] at a;omega
 ·injection i with e1 e2 e3;subst e1;subst e3;rw[m] at k b e2;rw[Zq] at b
  have o:∀j u,(uk T++uk [p])[j]? =some u ->w.cell? ⟨g,j,none⟩=some u:=fun j u f=>by
   rw[bh w g j _ _ (0,0) e]
   have:j<(T.length+1)*2:=by
    have:=(nk.1 f).1;rw[bU,l] at this;simp[uk] at this;omega
   rw[<- b,wy,aw this,AV] at f;exact f
  refine⟨g,rfl,e2,al,k,a,(dD.1 e).1,o _ _ ?_,o _ _ ?_,Zp T,.inr ⟨g,c,s,rfl,a,e,al,q,r,?_⟩⟩
  ·rw[AP al,l,rz];rfl
  ·rw[AP al,l,show T.length*2+1 - T.length*2=1 by omega];rfl
  ·have:=ed (List.take (T.length*2)) b;rw[List.take_take,show min (T.length*2) ((T.length+1)*2)=T.length*2 by omega] at this;rw[this, <- l,List.take_left]
variable {A:Nat}
theorem Sw {V:World} {row:Option Nat} {v c:Value} {t:TypeId} (h:V.heap[A]? =some (.cells #[v,c] t (0,0))) (g:V.grownBy V' row) (e:some A≠row):V'.heap[A]? =some (.cells #[v,c] t (0,0)):=(g.block A (dD.1 h).1 e).trans h
theorem S6 {V:World} {v c:Value} {t:TypeId} (h:V.heap[A]? =some (.cells #[v,c] t (0,0))):V.cell? ⟨A,0,none⟩=some v/\V.cell? ⟨A,1,none⟩=some c:=
 ⟨by rw[bh V A 0 _ _ (0,0) h];rfl,by rw[bh V A 1 _ _ (0,0) h];rfl⟩
theorem xm.shape {B:Nat} {v:Value} {l:List (Nat×Bool)} (h:xm w B v l):∃d c,v=.slice d l.length c:=by
 rcases h.2 with ⟨a,b⟩ |⟨g,cap,r,a,_⟩
 ·exact⟨none,0,by rw[a,b]⟩
 ·exact⟨_,cap,a⟩
theorem anL (G n cG:Nat) (P:List Ki) (x y z:Ki) (w:World) (hn:P.length=n) (h8:n<=8) (hU:cU w G (P.map aB)) (hP:∀v,∀u∈P.getD v [],u<n/\v<n) (Yw:∀p∈P,∀u∈p,u<n) (hx:∀u∈x,u<n) (hy:∀u∈y,u<n) (h:∀u∈z,u<n):
  da 178 #[.slice (some ⟨G,0,none⟩) n cG,.int .u32 (aB x:Nat),.int .u32 (aB y:Nat),.int .u32 (aB z:Nat)] w fun e w'=>∃q,e=.returned (.bool q)/\(q=true↔∃v c,v∈y/\ix (fun u v=>u∈P.getD v []) (·∈x) (·∈z) (·∈cX P z n) v c)/\db w w':=by
 obtain⟨kl,dF⟩:=anG;have a6:=hid dF;have Lx:=hid (agJ G n cG P w hn h8 hU Yw);have vW:=hid (fun (U:World) (hb:db w U)=>ag9 G n cG P z U hn h8 (hU.aa hb hU.lt) Yw h);have s8:∀ {s:Ki},(∀u∈s,u<n) ->∀u∈s,u<8:=fun ab u hu=>by have:=ab u hu;omega
 have bo:∀u∈cX P z n,u<n:=K6 (fun v u hu=>(hP v u hu).1) h n;have bb:=hid (fun (v:Nat) (U:World) (Y:v<8)=>JM y v U (s8 hy) Y);have FX:=hid (fun (v:Nat) (U:World) (Y:v<8)=>JM z v U (s8 h) Y);have TB:=hid (fun (v:Nat) (U:World) (Y:v<8)=>JM (cX P z n) v U (s8 bo) Y);have aT:=hid (fun (B:Nat) (U:World) (hB:B<=U.heap.size)=>Zm B (.slice none 0 0) [] x true U (s8 hx) ⟨rfl,.inl ⟨rfl,rfl⟩⟩ aE hB);have aR:Hid (∀(v:Nat),v< n ->∀(B:Nat) (M:Value) (l:List (Nat×Bool)) (U:World),xm U B M l ->l.length<=1000 ->B<=U.heap.size ->da 221 #[M,.int .u32 (aB (P.getD v []):Nat),.bool true] U fun e w'=>∃v',e=.returned v'/\xm w' B v' (l++(bQ (P.getD v []) 8).map fun u=>(u,true))/\Gm U w' M v'):=fun v _ B M l U h1 h2 h3=>Zm B M l (P.getD v []) true U (s8 fun u hu=>(hP v u hu).1) h1 h2 h3;have aQ:Hid (∀(v:Nat),v< n ->∀(B:Nat) (M:Value) (l:List (Nat×Bool)) (U:World),xm U B M l ->l.length<=1000 ->B<=U.heap.size ->da 221 #[M,.int .u32 (aB (eK P v n):Nat),.bool false] U fun e w'=>∃v',e=.returned v'/\xm w' B v' (l++(bQ (eK P v n) 8).map fun u=>(u,false))/\Gm U w' M v'):=fun v _ B M l U h1 h2 h3=>Zm B M l (eK P v n) false U (s8 fun u hu=>(FP.1 hu).1) h1 h2 h3
 have a8:Hid (∀(U:World),db w U ->∀v,v< n ->U.cell? ⟨G,v,none⟩=some (.int .u32 (aB (P.getD v []):Nat))):=fun U hb v Y=>by
  have:=(hU.aa hb hU.lt).cell v (by rw[cH,hn];exact Y);rw[this,EN (by rw[hn];exact Y)]
 have a1:Hid (∀(U:World) (g:Nat),cU U g ((lg P n n).map aB) ->∀v,v< n ->U.cell? ⟨g,v,none⟩=some (.int .u32 (aB (eK P v n):Nat))):=fun U g ab v Y=>by
  have:=ab.cell v (by rw[cH,Zw];exact Y);rw[this];simp[lg]
 have lY:=hid (sj.new (P:=P) (n:=n) (y:=y) (z:=z) (an:=cX P z n) hx h8);have Eh:=hid (fun (S T:List (Nat×Bool)) (p:Nat×Bool) (ab:sj P n x y z (cX P z n) S (T++[p])) (h1:¬p∈S) (h2:¬p.1∈y)=>ab.add hP h1 h2);have Ph:=hid (fun (S:List (Nat×Bool)) (ab:sj P n x y z (cX P z n) S [])=>ab.fin hP h8);have Jd:=hid (fun (S T:List (Nat×Bool)) (ab:sj P n x y z (cX P z n) S T)=>ab.few h8);have F4:Hid (∀p:Nat×Bool,Ez P n z (cX P z n) p=(if (p.2&&!decide (p.1∈z) ||!p.2&&decide (p.1∈cX P z n))=true then(bQ (P.getD p.1 []) 8).map fun u=>(u,true) else[])++(if p.1∈z then[] else(bQ (eK P p.1 n) 8).map fun u=>(u,false))):=fun p=>rfl;clear hU hP Yw hx hy h bo s8 dF hn;generalize aB (cX P z n)=ma at *;have b4:= @run_makeMap Tryz.prog;go_enter Tryz.func178,Tryz.ntmps178;go_wp2_with fail
 go_step3
 go_wp2_with fail
 refine Lx.o.af ?_;rintro e w1 ⟨rfl,br,aq⟩;have bk:=hid (vW.o w1 aq);have bS:=hid aq;have gR:=hid br;clear aq br Lx vW;go_wp2_with fail
 refine bk.o.af ?_;rintro e b ⟨rfl,av⟩;have aS:=hid (bS.o.trans (av.af bS.o.size));have dr:=hid (gR.o.aa av gR.o.lt);clear av bk bS gR;have hA:=(au b.heap.size b).alloc (ah _) (.map #[] 0);have i:(b.alloc (.map #[] 0)).heap.size=b.heap.size+1:=aE
 have dZ:=hid (aS.o.trans (hA.af aS.o.size));have mV:=hid (dr.o.aa hA dr.o.lt);have Pb:=hid (Cq.new kl b);have bm:=hid (aT.o (b.heap.size+1) (b.alloc (.map #[] 0)) (by rw[i];exact ah _));have bs:w.heap.size<=b.heap.size:=aS.o.size;clear hA aT aS;go_wp2_with fail
 refine bm.o.af ?_;rintro e w4 ⟨bN,rfl,Xw,bp⟩;rw[fX] at Xw
 have q8:Hid (xo kl (b.alloc (.map #[] 0)) b.heap.size [] ((bQ x 8).map fun u=>(u,true)) (.map []) bN w4):=
  (xo.mk (W:=[]) (wv:=.slice none 0 0) Pb.o ⟨rfl,.inl ⟨rfl,rfl⟩⟩ (World.grownBy.refl _ _)).more (by rw[i];omega) (by rw[i];exact Xw) bp
 clear Xw bp bm Pb;go_wp2_with fail
 go_step3
 go_wp2_with fail
 go_loopg [12] 2000 (fun k wv wr=>∃(S W:List (Nat×Bool)) (D:DataW Unit) (d:Kd) (c:Nat),wv=.slice d W.length c/\Hid (sj P n x y z (cX P z n) S W)/\Hid (xo kl (b.alloc (.map #[] 0)) b.heap.size S W D (.slice d W.length c) wr)/\(16 - S.length)*100+W.length<=k)
 case atStart=>
  obtain⟨d0,c0,rfl⟩:=q8.o.row.shape;refine⟨[],_,_,d0,c0,rfl,lY,q8,?_⟩;have:=kZ x 8;simp;omega
 case round=>
  obtain⟨S,W,D,d,c,rfl,F,Gd,XN⟩:=hrel;clear q8 lY
  have b0:b.heap.size+1<=wr.heap.size:=by
   have:=Gd.o.fr.size;rw[i] at this;exact this
  have yL:Hid (db w wr):=dZ.o.grown Gd.o.fr (by rw[i];omega) (fun k e=>by cases e;exact bs);have b2:=Jd.o S W F.o;have Sb:=F.o.len;rcases List.eq_nil_or_concat W with rfl |⟨T,p,rfl⟩
  ·go_wp2;rw[Exit.noGoto_ret];go_ret;exact⟨false,rfl,⟨(fun e=>by cases e),fun e=>absurd e (Ph.o S F.o)⟩,yL.o⟩
  ·rw[List.concat_eq_append] at F Gd XN Sb⊢;obtain⟨g,rfl,bC,b3,bZ,b1,rR,b5,b6,hT⟩:=Gd.o.row.init;obtain⟨pv,j⟩:=p;have HT:=hid hT;clear hT bC;(have bu:(T++[(pv,j)]).length=T.length+1:=aE);rw[bu] at Gd XN Sb⊢;(have Yr:T.length<=300:=al);clear bu Sb;have ax:=F.o.low (pv,j) (.inr (LV _ c5));have nJ:pv<n:=ax.1;have bx:=hid ax.2;have aN:keyOf Tryz.prog 243 (.agg #[.int .i64 (pv:Nat),.bool j])=some (kl (pv,j)):=a6.o (pv,j) (by show pv<8;omega);have a7:Hid (xo kl (b.alloc (.map #[] 0)) b.heap.size S T D (.slice (some ⟨g,0,none⟩) T.length c) wr):=⟨Gd.o.map,HT.o,Gd.o.fr⟩;have lZ:=hid (a7.o.alloc (.cells #[.int .i64 (pv:Nat),.bool j] 243));have aj:=hid (lZ.o.alloc (.cells #[] 244));have bg:=eM wr (.cells #[.int .i64 (pv:Nat),.bool j] 243);(have iD:(wr.alloc (.cells #[.int .i64 (pv:Nat),.bool j] 243)).heap.size=wr.heap.size+1:=aE)
   have bD:((wr.alloc (.cells #[.int .i64 (pv:Nat),.bool j] 243)).alloc (.cells #[] 244)).heap[wr.heap.size]? =some (.cells #[.int .i64 (pv:Nat),.bool j] 243 (0,0)):=by
    rw[uK _ _ _ (by rw[iD];omega)];exact bg
   have rj:=hid bD;clear ax bg bD iD Gd HT a7;by_cases ad:(pv,j)∈S
   ·have bO:Maps.has D (kl (pv,j))=true:=by rw[lZ.o.map.has (pv,j) (by show pv<8;omega),bX ad]
    have vK:=hid (F.o.skip ad);clear ad
    go_wp2_with (first
     |(at_lookup;refine wpList_lookup_own_unit _ rfl _ _ 239 rfl 243 244 ML Tryz.underlying239 (aaA _) b.heap.size S.length D rfl lZ.o.map.own _ _ rfl aN ?_))
    go_roundg ((16 - S.length)*100+T.length)
    case measure=>omega
    case rel=>exact⟨S,T,D,_,c,rfl,vK,aj,ah _⟩
   ·have bO:Maps.has D (kl (pv,j))=false:=by rw[lZ.o.map.has (pv,j) (by show pv<8;omega),cF ad]
    have Gg:=hid ad;clear ad
    go_wp2_with (first
     |(at_lookup;refine wpList_lookup_own_unit _ rfl _ _ 239 rfl 243 244 ML Tryz.underlying239 (aaA _) b.heap.size S.length D rfl lZ.o.map.own _ _ rfl aN ?_)
     |(at_mapUpdate;refine wpList_mapUpdate_own _ rfl _ _ _ 239 rfl 243 244 ML Tryz.underlying239 (unitElem (H:=Unit)) b.heap.size S.length D rfl aj.o.map.own (by unfold maxLen;omega) _ _ _ rfl rfl aN _ [] unitElem_mk ?_;intro m RJ Nr;have I:=hid (aj.o.put a6.o (by rw[i];omega) (p:=(pv,j)) (by show pv<8;omega) RJ Nr);have Pu:=hid (Sw rj.o Nr (by intro e;injection e with e;omega));obtain⟨Ws,Wq⟩:=S6 Pu.o;clear RJ Nr))
    have ay:wr.heap.size+1<=m.heap.size:=by
     have:=(dD.1 Pu.o).1;omega
    have fh:Hid (db w m):=dZ.o.grown I.o.fr (by rw[i];omega) (fun k e=>by cases e;exact bs);refine(bb.o pv m al).af ?_;rintro e a ⟨rfl,f⟩;rw[f];clear f a;by_cases hy:pv∈y
    ·rw[bX hy];have bz:=hid hy;clear hy;go_wp2;rw[Exit.noGoto_ret];go_ret;exact⟨true,rfl,⟨fun _=>⟨pv,j,bz.o,bx.o⟩,fun _=>rfl⟩,fh.o⟩
    ·rw[cF hy];have Lk:=hid hy;have Aw:=hid (a8.o m fh.o pv nJ);have ai:Hid (∀U:World,(b.alloc (.map #[] 0)).grownBy U (some b.heap.size) ->U.cell? ⟨w.heap.size,pv,none⟩=some (.int .u32 (aB (eK P pv n):Nat))):=fun U hU=>a1.o U w.heap.size ((hU.block w.heap.size mV.o.lt (by intro e;injection e with e;have:=dr.o.lt;omega)).trans mV.o) pv nJ;have ak:=hid (aR.o pv nJ);have ao:=hid (aQ.o pv nJ);clear hy bb a8 a1 aR aQ;generalize aB (P.getD pv [])=mu at *;generalize aB (eK P pv n)=md at *;cases j with
     |true=>
      by_cases h:pv∈z
      ·go_wp2_with fail
       refine(FX.o pv m al).af ?_;rintro e a ⟨rfl,f⟩;rw[f,bX h];clear f a;go_wp2_with fail
       refine(FX.o pv m al).af ?_;rintro e a ⟨rfl,f⟩;rw[f,bX h];clear f a;go_wp2;have Z:=hid (Eh.o S T (pv,true) F.o Gg.o Lk.o);rw[F4.o] at Z;have V:=Jd.o _ _ Z.o;(have K:(if ((pv,true).2&&!decide ((pv,true).1∈z) ||!(pv,true).2&&decide ((pv,true).1∈cX P z n))=true then(bQ (P.getD (pv,true).1 []) 8).map (fun u=>(u,true)) else[])=([]:List (Nat×Bool)):=by simp[h]);(have L:(if (pv,true).1∈z then[] else(bQ (eK P (pv,true).1 n) 8).map (fun u=>(u,false)))=([]:List (Nat×Bool)):=by simp[h]);rw[K,L] at Z;rw[kQ] at Z;rw[kQ] at Z;have ae:=kZ (P.getD pv []) 8;have bj:=kZ (eK P pv n) 8;skip
       skip
       have C8:T.length<=T.length+16:=by
        skip
        skip
        (try simp only[bU,cH])
        omega
       rw[dV] at V;go_roundg ((16 - (S.length+1))*100+T.length)
       case measure=>omega
       case rel=>exact⟨_,_,_,_,_,rfl,Z,I,ah _⟩
      ·go_wp2_with fail
       refine(FX.o pv m al).af ?_;rintro e a ⟨rfl,f⟩;rw[f,cF h];clear f a;have Ni:=Aw.o;go_wp2_with fail
       refine(ak.o _ _ T m I.o.row al (by rw[i];omega)).af ?_;rintro e J ⟨v7,rfl,E8,E⟩;have t:=hid (I.o.more (by rw[i];omega) E8 E);have Ed:=hid (Sw Pu.o E.1 (fun e=>by have e':wr.heap.size=g:=ko e;omega));have DI:=hid (aL ay E.1.size);have RD:wr.heap.size+1<=J.heap.size:=DI.o
       have X:Hid ((T++(bQ (P.getD pv []) 8).map fun u=>(u,true)).length<=400):=by
        have:=kZ (P.getD pv []) 8;show _<=_;rw[bU,cH];omega
       obtain⟨bf,bd⟩:=S6 Ed.o;clear Ws Wq E8 E Ni;obtain⟨r,R⟩:∃r,T++(bQ (P.getD pv []) 8).map (fun u=>(u,true))=r:=⟨_,rfl⟩;rw[R] at t X;have FZ:=hid R;have XH:r.length<=400:=X.o;clear R;obtain⟨d7,c7,rfl⟩:=t.o.row.shape;go_wp2_with fail
       refine(FX.o pv J al).af ?_;rintro e a ⟨rfl,f⟩;rw[f,cF h];clear f a;have Nl:=ai.o J t.o.fr;go_wp2_with fail
       refine(ao.o _ _ r J t.o.row (by have:=X.o;omega) (by rw[i];omega)).af ?_;rintro e w8 ⟨v8,rfl,E7,wO⟩;have O:=hid (t.o.more (by rw[i];omega) E7 wO);clear E7 wO Nl;obtain⟨A,Q⟩:∃A,r++(bQ (eK P pv n) 8).map (fun u=>(u,false))=A:=⟨_,rfl⟩;rw[Q] at O;have FY:=hid Q;clear Q;obtain⟨d8,c8,rfl⟩:=O.o.row.shape;go_wp2;have Z:=hid (Eh.o S T (pv,true) F.o Gg.o Lk.o);rw[F4.o] at Z;have V:=Jd.o _ _ Z.o;(have K:(if ((pv,true).2&&!decide ((pv,true).1∈z) ||!(pv,true).2&&decide ((pv,true).1∈cX P z n))=true then(bQ (P.getD (pv,true).1 []) 8).map (fun u=>(u,true)) else[])=(bQ (P.getD pv []) 8).map (fun u=>(u,true)):=by simp[h]);(have L:(if (pv,true).1∈z then[] else(bQ (eK P (pv,true).1 n) 8).map (fun u=>(u,false)))=(bQ (eK P pv n) 8).map (fun u=>(u,false)):=by simp[h]);rw[K,L] at Z;rw[<- ny] at Z;have ae:=kZ (P.getD pv []) 8;have bj:=kZ (eK P pv n) 8;rw[FZ.o] at Z;rw[FY.o] at Z
       have C8:A.length<=T.length+16:=by
        rw[<- FY.o];rw[<- FZ.o];(try simp only[bU,cH])
        omega
       rw[dV] at V;go_roundg ((16 - (S.length+1))*100+A.length)
       case measure=>omega
       case rel=>exact⟨_,_,_,_,_,rfl,Z,O,ah _⟩
     |false=>
      by_cases ha:pv∈cX P z n
      ·by_cases h:pv∈z
       ·go_wp2_with fail
        refine(TB.o pv m al).af ?_;rintro e a ⟨rfl,f⟩;rw[f,bX ha];clear f a;have Ni:=Aw.o;go_wp2_with fail
        refine(ak.o _ _ T m I.o.row al (by rw[i];omega)).af ?_;rintro e J ⟨v7,rfl,E8,E⟩;have t:=hid (I.o.more (by rw[i];omega) E8 E);have Ed:=hid (Sw Pu.o E.1 (fun e=>by have e':wr.heap.size=g:=ko e;omega));have DI:=hid (aL ay E.1.size);have RD:wr.heap.size+1<=J.heap.size:=DI.o
        have X:Hid ((T++(bQ (P.getD pv []) 8).map fun u=>(u,true)).length<=400):=by
         have:=kZ (P.getD pv []) 8;show _<=_;rw[bU,cH];omega
        obtain⟨bf,bd⟩:=S6 Ed.o;clear Ws Wq E8 E Ni;obtain⟨r,R⟩:∃r,T++(bQ (P.getD pv []) 8).map (fun u=>(u,true))=r:=⟨_,rfl⟩;rw[R] at t X;have FZ:=hid R;have XH:r.length<=400:=X.o;clear R;obtain⟨d7,c7,rfl⟩:=t.o.row.shape;go_wp2_with fail
        refine(FX.o pv J al).af ?_;rintro e a ⟨rfl,f⟩;rw[f,bX h];clear f a;go_wp2;have Z:=hid (Eh.o S T (pv,false) F.o Gg.o Lk.o);rw[F4.o] at Z;have V:=Jd.o _ _ Z.o;(have K:(if ((pv,false).2&&!decide ((pv,false).1∈z) ||!(pv,false).2&&decide ((pv,false).1∈cX P z n))=true then(bQ (P.getD (pv,false).1 []) 8).map (fun u=>(u,true)) else[])=(bQ (P.getD pv []) 8).map (fun u=>(u,true)):=by simp[ha]);(have L:(if (pv,false).1∈z then[] else(bQ (eK P (pv,false).1 n) 8).map (fun u=>(u,false)))=([]:List (Nat×Bool)):=by simp[h]);rw[K,L] at Z;rw[kQ] at Z;have ae:=kZ (P.getD pv []) 8;have bj:=kZ (eK P pv n) 8;rw[FZ.o] at Z;skip
        have C8:r.length<=T.length+16:=by
         skip
         rw[<- FZ.o];(try simp only[bU,cH])
         omega
        rw[dV] at V;go_roundg ((16 - (S.length+1))*100+r.length)
        case measure=>omega
        case rel=>exact⟨_,_,_,_,_,rfl,Z,t,ah _⟩
       ·go_wp2_with fail
        refine(TB.o pv m al).af ?_;rintro e a ⟨rfl,f⟩;rw[f,bX ha];clear f a;have Ni:=Aw.o;go_wp2_with fail
        refine(ak.o _ _ T m I.o.row al (by rw[i];omega)).af ?_;rintro e J ⟨v7,rfl,E8,E⟩;have t:=hid (I.o.more (by rw[i];omega) E8 E);have Ed:=hid (Sw Pu.o E.1 (fun e=>by have e':wr.heap.size=g:=ko e;omega));have DI:=hid (aL ay E.1.size);have RD:wr.heap.size+1<=J.heap.size:=DI.o
        have X:Hid ((T++(bQ (P.getD pv []) 8).map fun u=>(u,true)).length<=400):=by
         have:=kZ (P.getD pv []) 8;show _<=_;rw[bU,cH];omega
        obtain⟨bf,bd⟩:=S6 Ed.o;clear Ws Wq E8 E Ni;obtain⟨r,R⟩:∃r,T++(bQ (P.getD pv []) 8).map (fun u=>(u,true))=r:=⟨_,rfl⟩;rw[R] at t X;have FZ:=hid R;have XH:r.length<=400:=X.o;clear R;obtain⟨d7,c7,rfl⟩:=t.o.row.shape;go_wp2_with fail
        refine(FX.o pv J al).af ?_;rintro e a ⟨rfl,f⟩;rw[f,cF h];clear f a;have Nl:=ai.o J t.o.fr;go_wp2_with fail
        refine(ao.o _ _ r J t.o.row (by have:=X.o;omega) (by rw[i];omega)).af ?_;rintro e w8 ⟨v8,rfl,E7,wO⟩;have O:=hid (t.o.more (by rw[i];omega) E7 wO);clear E7 wO Nl;obtain⟨A,Q⟩:∃A,r++(bQ (eK P pv n) 8).map (fun u=>(u,false))=A:=⟨_,rfl⟩;rw[Q] at O;have FY:=hid Q;clear Q;obtain⟨d8,c8,rfl⟩:=O.o.row.shape;go_wp2;have Z:=hid (Eh.o S T (pv,false) F.o Gg.o Lk.o);rw[F4.o] at Z;have V:=Jd.o _ _ Z.o;(have K:(if ((pv,false).2&&!decide ((pv,false).1∈z) ||!(pv,false).2&&decide ((pv,false).1∈cX P z n))=true then(bQ (P.getD (pv,false).1 []) 8).map (fun u=>(u,true)) else[])=(bQ (P.getD pv []) 8).map (fun u=>(u,true)):=by simp[ha]);(have L:(if (pv,false).1∈z then[] else(bQ (eK P (pv,false).1 n) 8).map (fun u=>(u,false)))=(bQ (eK P pv n) 8).map (fun u=>(u,false)):=by simp[h]);rw[K,L] at Z;rw[<- ny] at Z;have ae:=kZ (P.getD pv []) 8;have bj:=kZ (eK P pv n) 8;rw[FZ.o] at Z;rw[FY.o] at Z
        have C8:A.length<=T.length+16:=by
         rw[<- FY.o];rw[<- FZ.o];(try simp only[bU,cH])
         omega
        rw[dV] at V;go_roundg ((16 - (S.length+1))*100+A.length)
        case measure=>omega
        case rel=>exact⟨_,_,_,_,_,rfl,Z,O,ah _⟩
      ·by_cases h:pv∈z
       ·go_wp2_with fail
        refine(TB.o pv m al).af ?_;rintro e a ⟨rfl,f⟩;rw[f,cF ha];clear f a;go_wp2_with fail
        refine(FX.o pv m al).af ?_;rintro e a ⟨rfl,f⟩;rw[f,bX h];clear f a;go_wp2;have Z:=hid (Eh.o S T (pv,false) F.o Gg.o Lk.o);rw[F4.o] at Z;have V:=Jd.o _ _ Z.o;(have K:(if ((pv,false).2&&!decide ((pv,false).1∈z) ||!(pv,false).2&&decide ((pv,false).1∈cX P z n))=true then(bQ (P.getD (pv,false).1 []) 8).map (fun u=>(u,true)) else[])=([]:List (Nat×Bool)):=by simp[ha]);(have L:(if (pv,false).1∈z then[] else(bQ (eK P (pv,false).1 n) 8).map (fun u=>(u,false)))=([]:List (Nat×Bool)):=by simp[h]);rw[K,L] at Z;rw[kQ] at Z;rw[kQ] at Z;have ae:=kZ (P.getD pv []) 8;have bj:=kZ (eK P pv n) 8;skip
        skip
        have C8:T.length<=T.length+16:=by
         skip
         skip
         (try simp only[bU,cH])
         omega
        rw[dV] at V;go_roundg ((16 - (S.length+1))*100+T.length)
        case measure=>omega
        case rel=>exact⟨_,_,_,_,_,rfl,Z,I,ah _⟩
       ·go_wp2_with fail
        refine(TB.o pv m al).af ?_;rintro e a ⟨rfl,f⟩;rw[f,cF ha];clear f a;go_wp2_with fail
        refine(FX.o pv m al).af ?_;rintro e a ⟨rfl,f⟩;rw[f,cF h];clear f a;have Nl:=ai.o m I.o.fr;go_wp2_with fail
        refine(ao.o _ _ T m I.o.row al (by rw[i];omega)).af ?_;rintro e w8 ⟨v8,rfl,E7,wO⟩;have O:=hid (I.o.more (by rw[i];omega) E7 wO);clear E7 wO Nl;obtain⟨A,Q⟩:∃A,T++(bQ (eK P pv n) 8).map (fun u=>(u,false))=A:=⟨_,rfl⟩;rw[Q] at O;have FY:=hid Q;clear Q;obtain⟨d8,c8,rfl⟩:=O.o.row.shape;go_wp2;have Z:=hid (Eh.o S T (pv,false) F.o Gg.o Lk.o);rw[F4.o] at Z;have V:=Jd.o _ _ Z.o;(have K:(if ((pv,false).2&&!decide ((pv,false).1∈z) ||!(pv,false).2&&decide ((pv,false).1∈cX P z n))=true then(bQ (P.getD (pv,false).1 []) 8).map (fun u=>(u,true)) else[])=([]:List (Nat×Bool)):=by simp[ha]);(have L:(if (pv,false).1∈z then[] else(bQ (eK P (pv,false).1 n) 8).map (fun u=>(u,false)))=(bQ (eK P pv n) 8).map (fun u=>(u,false)):=by simp[h]);rw[K,L] at Z;rw[fX] at Z;have ae:=kZ (P.getD pv []) 8;have bj:=kZ (eK P pv n) 8;skip
        rw[FY.o] at Z
        have C8:A.length<=T.length+16:=by
         rw[<- FY.o];skip
         (try simp only[bU,cH])
         omega
        rw[dV] at V;go_roundg ((16 - (S.length+1))*100+A.length)
        case measure=>omega
        case rel=>exact⟨_,_,_,_,_,rfl,Z,O,ah _⟩
variable {U:World}
def ApR (L:List Kh) (x y z:Kh) (e:Ending):Prop:=
 (aX L≠0/\e=.returned (.tuple #[.bool false,.int .i64 (aX L)]))∨(aX L=0/\iP L.length [x,y,z]=false/\e=.returned (.tuple #[.bool false,.int .i64 11]))∨
 (aX L=0/\iP L.length [x,y,z]=true/\e=.returned (.tuple #[.bool (!lH L x y z),.int .i64 0]))
theorem aba {b l a:Kd} {cx cy cz:Nat} {x y z:Kh} (d:aC U b x) (f:aC U l y) (g:aC U a z):dC (U.alloc (.cells #[.slice b x.length cx,.slice l y.length cy,.slice a z.length cz] 27)) (some ⟨U.heap.size,0,none⟩) [x,y,z]:=fun k c=>by
 have h:=(au U.heap.size U).alloc (ah _) (.cells #[.slice b x.length cx,.slice l y.length cy,.slice a z.length cz] 27);have e:=eM U (.cells #[.slice b x.length cx,.slice l y.length cy,.slice a z.length cz] 27);have t:=(dD.1 e).1;match k,c with
 |0,_=>exact⟨_,0,b,cx,rfl,t,by rw[bh _ U.heap.size _ _ _ (0,0) e];rfl,d.aa h⟩
 |1,_=>exact⟨_,0,l,cy,rfl,t,by rw[bh _ U.heap.size _ _ _ (0,0) e];rfl,f.aa h⟩
 |2,_=>exact⟨_,0,a,cz,rfl,t,by rw[bh _ U.heap.size _ _ _ (0,0) e];rfl,g.aa h⟩
theorem apq (a X lT Y:Kd) (ca cx cy cz:Nat) (L:List Kh) (x y z:Kh) (w:World) (h:dC w a L) (hl:∀l∈L,l.length<=140737488355328) (hx:aC w X x) (hy:aC w lT y) (hz:aC w Y z) (tR:x.length<=140737488355328) (CW:y.length<=140737488355328) (bf:z.length<=140737488355328):
  da 124 #[.slice a L.length ca,.slice X x.length cx,.slice lT y.length cy,.slice Y z.length cz] w fun e w'=>db w w'/\ApR L x y z e:=by
 have HR:=hid (SB a ca L w h hl);have sF:Hid (∀U:World,db w U ->dC (U.alloc (.cells #[.slice X x.length cx,.slice lT y.length cy,.slice Y z.length cz] 27)) (some ⟨U.heap.size,0,none⟩) [x,y,z]):=fun U f=>aba (hx.aa f) (hy.aa f) (hz.aa f)
 have DF:Hid (aX L=0 ->∀(G:Nat) (U:World),dC U (some ⟨G,0,none⟩) [x,y,z] ->da 177 #[.slice (some ⟨G,0,none⟩) 3 3,.int .i64 (L.length:Nat)] U fun e w'=>db U w'/\
   ((kh [x,y,z] L.length=true/\∃G,e=.returned (.tuple #[.slice (some ⟨G,0,none⟩) 3 3,.bool true])/\U.heap.size<=G/\cU w' G (jn [x,y,z]))∨(kh [x,y,z] L.length=false/\e=.returned (.tuple #[.slice none 0 0,.bool false])))):=fun g G U f=>abV (some ⟨G,0,none⟩) 3 L.length [x,y,z] U f aE (lQ (vr g).1).2.1 (fun l al=>by
  simp only[bT,fR,iV] at al;rcases al with rfl |rfl |rfl<;>assumption)
 have aT:kh [x,y,z] L.length=true ->Up x L.length/\Up y L.length/\Up z L.length:=fun d=>⟨j8 (eX.1 d x aE),j8 (eX.1 d y aE),j8 (eX.1 d z aE)⟩
 have T:Hid (aX L=0 ->kh [x,y,z] L.length=true ->∀(G c:Nat) (U:World),cU U G (jn L) ->da 178 #[.slice (some ⟨G,0,none⟩) L.length c,.int .u32 (aB (ag x):Nat),.int .u32 (aB (ag y):Nat),.int .u32 (aB (ag z):Nat)] U fun e w'=>∃q,e=.returned (.bool q)/\(iP L.length [x,y,z]=true ->q=lH L x y z)/\db U w'):=fun g d G c U f=>by
  have ab:=(vr g).1;have h8:=(lQ ab).2.1;obtain⟨j,k,h3⟩:=aT d;rw[Hg] at f;refine(anL G L.length c (aF L) (ag x) (ag y) (ag z) U (jQ L) h8 f (fun v u m=>JW ab m) (JV ab) (uM j) (uM k) (uM h3)).af ?_;rintro e w' ⟨q,rfl,Z,hb⟩;exact⟨q,rfl,fun a7=>xL.2 (Z.trans (adk g h8 a7).symm),hb⟩
 have R:Hid (kh [x,y,z] L.length=true ->(iP L.length [x,y,z]=true↔aB ((ag x).filter fun v=>decide (v∈ag y))=0/\aB ((ag x++ag y).filter fun v=>decide (v∈ag z))=0)):=ag3;have Q:Hid (kh [x,y,z] L.length=false ->iP L.length [x,y,z]=false):=fun d=>by rw[iP,d];rfl
 have V:Hid (aX L=0 ->kh [x,y,z] L.length=true ->bits BinOp.and IntKind.u32 (aB (ag x):Nat) (aB (ag y):Nat)=((aB ((ag x).filter fun v=>decide (v∈ag y)):Nat):Int)/\bits BinOp.or IntKind.u32 (aB (ag x):Nat) (aB (ag y):Nat)=((aB (ag x++ag y):Nat):Int)/\bits BinOp.and IntKind.u32 (aB (ag x++ag y):Nat) (aB (ag z):Nat)=((aB ((ag x++ag y).filter fun v=>decide (v∈ag z)):Nat):Int)):=fun g d=>by
  have h8:=(lQ (vr g).1).2.1;obtain⟨j,k,h3⟩:=aT d;have n:∀u∈ag x,u<8:=fun u m=>by have:=uM j u m;omega
  have s:∀u∈ag y,u<8:=fun u m=>by have:=uM k u m;omega
  have k3:∀u∈ag z,u<8:=fun u m=>by have:=uM h3 u m;omega
  exact⟨agS _ _ n s,S7 _ _ n s,agS _ _ (ZG n s) k3⟩
 have iU:Hid (jn [x,y,z]=[aB (ag x),aB (ag y),aB (ag z)]):=rfl;clear h hl hx hy hz aT;go_enter Tryz.func124,Tryz.ntmps124;go_wp2_with fail
 refine HR.o.af ?_;rintro e w1 ⟨O,⟨g,G,rfl,hG,f⟩ |⟨g,rfl⟩⟩
 ·have i:=hid O;have D:=hid g;have HU:=hid f;have gi:=hid (DF.o g w1.heap.size _ (sF.o w1 O));have hA:=(au w1.heap.size w1).alloc (ah _) (.cells #[.slice X x.length cx,.slice lT y.length cy,.slice Y z.length cz] 27);have A:=hid hA;clear O hA HR DF sF g f;go_wp2_with fail
  refine gi.o.af ?_;rintro e t ⟨P,⟨d,b,rfl,KH,E⟩ |⟨d,rfl⟩⟩
  ·have H:=hid ((i.o.trans (A.o.af i.o.size)).trans (P.af (aL i.o.size A.o.size)));obtain⟨a8,ye,aR⟩:=V.o D.o d;have F:=R.o d;have ai:cU t G (jn L):=((HU.o.aa A.o HU.o.lt)).aa P (aO HU.o.lt A.o.size);have aQ:=hid ai;rw[iU.o] at E;have IM:=hid E;have k0:=E.cell 0 aE;have n:=E.cell 1 aE;have s:=E.cell 2 aE;have a1:=hid (T.o D.o d G L.length);simp only[List.getElem_cons_zero,Us] at k0 n s;clear d P gi T R V iU Q E ai;generalize aB ((ag x).filter fun v=>decide (v∈ag y))=ax at *;generalize aB ((ag x++ag y).filter fun v=>decide (v∈ag z))=ae at *;generalize aB (ag x++ag y)=mu at *;generalize aB (ag x)=I at *;generalize aB (ag y)=J at *;generalize aB (ag z)=K at *;by_cases j:ax=0
   ·by_cases k:ae=0
    ·have M:=hid (F.2 ⟨j,k⟩);subst j;subst k;clear F;go_upto_region 7 with (go_quiet (fail))
     have aN:Hid (cU (t.drewN nq) b [I,J,K]):=IM.o;have a6:Hid (cU (t.drewN nq).drew G (jn L)):=aQ.o;have dZ:=hid (below_drewN H.o nq);have an:(t.drewN nq).drew.cell? ⟨b,0,none⟩=some (.int .u32 (I:Nat)):=k0;have av:(t.drewN nq).drew.cell? ⟨b,1,none⟩=some (.int .u32 (J:Nat)):=n;have MO:(t.drewN nq).drew.cell? ⟨b,2,none⟩=some (.int .u32 (K:Nat)):=s;clear k0 n s a8 ye aR;generalize t.drewN nq=W3 at *;have YC:=aN.o.lt;have ay:Hid (∀U:World,Below W3.drew.heap.size W3.drew U ->U.cell? ⟨b,0,none⟩=some (.int .u32 (I:Nat))/\U.cell? ⟨b,1,none⟩=some (.int .u32 (J:Nat))/\U.cell? ⟨b,2,none⟩=some (.int .u32 (K:Nat))):=fun U f=>⟨(f.cell (p:=⟨b,0,none⟩) YC).trans an,(f.cell (p:=⟨b,1,none⟩) YC).trans av,(f.cell (p:=⟨b,2,none⟩) YC).trans MO⟩;refine jZ (S:=fun U=>U.cell? ⟨b,0,none⟩=some (.int .u32 (I:Nat))/\U.cell? ⟨b,1,none⟩=some (.int .u32 (J:Nat))/\U.cell? ⟨b,2,none⟩=some (.int .u32 (K:Nat))) ao ⟨an,av,MO⟩ (fun aq=>?_);refine az 0 (.slice (some ⟨G,0,none⟩) L.length L.length) ?_;refine az 1 (.slice (some ⟨b,0,none⟩) 3 3) ?_;refine az 2 (.pointer (some ⟨b,0,none⟩)) ?_;refine az 3 (.int .u32 (I:Nat)) ?_;refine az 4 (.slice (some ⟨b,0,none⟩) 3 3) ?_;refine az 5 (.pointer (some ⟨b,1,none⟩)) ?_;refine az 6 (.int .u32 (J:Nat)) ?_;refine az 7 (.slice (some ⟨b,0,none⟩) 3 3) ?_;refine az 8 (.pointer (some ⟨b,2,none⟩)) ?_;refine az 9 (.int .u32 (K:Nat)) ?_;refine aG [10] (cA ?_ aI);intro K' aj;go_simp
     refine(a1.o W3.drew a6.o).af ?_;rintro r w5 ⟨q,rfl,Z,ad⟩;refine aj.o _ _ (ay.o w5 ad) (fun ak=>?_);clear aj K' aq;refine az 11 (.bool (!q)) ?_;refine az 12 (.bool (!q)) ?_;refine az 13 (.int .i64 0) ?_;(try simp only[gE,aP]);refine gj ao ?_ _;clear ak;have fh:Hid (db w w5):=dZ.o.drew.trans (ad.af dZ.o.drew.size);have HQ:=hid (Z M.o);clear Z ad;go_wp2;go_ret2;exact⟨fh.o,.inr (.inr ⟨D.o,M.o,by rw[HQ.o];rfl⟩)⟩
    ·have M:Hid (iP L.length [x,y,z]=false):=Uy.2 fun e=>k (F.1 e).2;subst j;(have bd:((ae:Int)==0)=false:=by simp;omega);clear F;go_wp2_with (go_quiet (fail))
     go_ret2;exact⟨below_drewN H.o _,.inr (.inl ⟨D.o,M.o,rfl⟩)⟩
   ·have M:Hid (iP L.length [x,y,z]=false):=Uy.2 fun e=>j (F.1 e).1;(have bb:((ax:Int)==0)=false:=by simp;omega);clear F;go_wp2_with (go_quiet (fail))
    go_ret2;exact⟨below_drewN H.o _,.inr (.inl ⟨D.o,M.o,rfl⟩)⟩
  ·have M:=hid (Q.o d);have H:=hid ((i.o.trans (A.o.af i.o.size)).trans (P.af (aL i.o.size A.o.size)));clear d P gi T R V iU Q;go_wp2_with (go_quiet (fail))
   go_ret2;exact⟨below_drewN H.o _,.inr (.inl ⟨D.o,M.o,rfl⟩)⟩
 ·have Pe:=hid g;have i:=hid O;have ab:(aX L==0)=false:=by simpa using g
  clear g O sF DF T R Q V iU HR;generalize hge:aX L=ge at *;have Ay:=hid hge;clear hge;go_wp2;go_ret2;exact⟨i.o,.inl ⟨by rw[Ay.o];exact Pe.o,by rw[Ay.o];rfl⟩⟩
variable {Ls:List Kh} {s:Ki}
theorem aa1 (h:Up l n):l.length<=n:=by
 have f:(ag l).Nodup:=AO.2 (yS.2 fun i j a b p=>by
  have d:=h.lt i j b p;have e:=h.each i a;omega)
 have:=EL f (m:=List.range n) fun x c=>by
  have:=uM h x c;exact bM.2 this
 simpa [ag] using this
structure vE (L Ls:List Kh) (i:Nat) (bn:Kh):Prop where
 ok:0< i ->aX L=0
 ris:∀l∈Ls.take i,dN l L.length=true
 nd:(Ls.take i).flatten.Nodup
 up:Up bn L.length
 mem:∀x,x∈bn↔x∈(Ls.take i).flatten
theorem vE.start (L Ls:List Kh):vE L Ls 0 []:=⟨fun h=>absurd h al,(fun l a=>by cases a),aE,⟨fun i h=>absurd h aE,fun i j h=>absurd h aE⟩,fun x=>aE⟩
theorem UW (h:i<Ls.length):(Ls.take (i+1)).flatten=(Ls.take i).flatten++Ls[i]:=by
 rw[im h,List.flatten_append];simp
theorem vE.disj {bn:Kh} (h:vE L Ls i bn) (g:i<Ls.length) (r:dN Ls[i] L.length=true) (f:∀x∈Ls[i],¬x∈bn):(bn++Ls[i]).Nodup:=by
 refine lC.2 ⟨y5 h.up,y5 (j8 r),fun a c b d e=>?_⟩;subst e;exact f a d c
theorem vE.next {bn:Kh} (h:vE L Ls i bn) (d:i<Ls.length) (k:aX L=0) (r:dN Ls[i] L.length=true) (j:∀x∈Ls[i],¬x∈bn):vE L Ls (i+1) (ei bn Ls[i]):=by
 have u:=j8 r;refine⟨fun _=>k,fun l c=>?_,?_,CJ h.up u,fun x=>?_⟩
 ·rw[im d] at c;rcases aZ.1 c with c |c
  ·exact h.ris l c
  ·rw[dS.1 c];exact r
 ·rw[UW d];refine lC.2 ⟨h.nd,y5 u,fun a f b g e=>?_⟩;subst e;exact j a g ((h.mem a).2 f)
 ·rw[(Ex _ _).2,UW d,aZ,h.mem]
theorem vE.twice {bn:Kh} (h:vE L Ls i bn) (c:i<Ls.length) {x:Int} (d:x∈Ls[i]) (b:x∈bn):iP L.length Ls=false:=by
 refine Uy.2 fun e=>?_;have n:=(K5.1 e).2;rw[<- yR (i+1) Ls,List.flatten_append,UW c] at n;have a:=(lC.1 (lC.1 n).1).2.2;exact a x ((h.mem x).1 b) x d rfl
theorem vE.fin {bn:Kh} (h:vE L Ls Ls.length bn) (p:0<Ls.length):kr L Ls=0:=by
 have a:=h.ris;have b:=h.nd;rw[iY] at a b;rw[kr,aw (h.ok p),aw (K5.2 ⟨a,b⟩)]
theorem abD (g:aX L=0) (h:iP L.length Ls=false):kr L Ls=11:=by rw[kr,aw g,aA (by rw[h];decide)]
theorem ai9 (g:aX L≠0):kr L Ls=aX L:=by rw[kr,aA g]
theorem arS (a:i<Ls.length) (h:dN Ls[i] n=false):iP n Ls=false:=Uy.2 fun e=>by
 have:=(K5.1 e).1 _ (bP a);rw[h] at this;cases this
theorem alL {m:Kh}:(oF l m).length<l.length↔∃x∈l,x∈m:=by
 rw[oF];constructor
 ·intro h;refine AU fun n=>?_;have e:l.filter (fun u=>decide (¬u∈m))=l:=List.filter_eq_self.2 fun x b=>bX fun a=>n ⟨x,b,a⟩;rw[e] at h;omega
 ·rintro⟨x,b,a⟩;exact List.length_filter_lt_length_iff_exists.2 ⟨x,b,by simp[a]⟩
theorem ajE (a s:Kd) (ca cs:Nat) (L Ls:List Kh) (w:World) (h:dC w a L) (hl:∀l∈L,l.length<=140737488355328) (hs:dC w s Ls) (X:oZ w s Ls) (Z:∀l∈Ls,l.length<=1000) (hp:0<Ls.length) (Xu:Ls.length<=8):
  da 73 #[.slice a L.length ca,.slice s Ls.length cs] w (du w (.int .i64 (kr L Ls))):=by
 have HF:Hid (∀i (v:i<Ls.length),∃g o b c,s=some ⟨g,o,none⟩/\g<w.heap.size/\w.cell? ⟨g,o+i,none⟩=some (.slice b Ls[i].length c)/\aC w b Ls[i]/\(b=none ->c=0)):=fun i v=>by
  obtain⟨g,o,b,c,h1,h2,h3,h4⟩:=hs i v;exact⟨g,o,b,c,h1,h2,h3,h4,X i v g o b _ c h1 h3⟩
 have Aq:=hid Z;have vW:=hid (fun (b:Kd) (cb:Nat) (l:Kh) (U:World) (hU:db w U) (m:aC U b l) (hn:l.length<=1000)=>YX a b ca cb L l U (h.aa hU) hl m al);have Ce:Hid (aX L=0 ->L.length<=8):=fun F=>(lQ (vr F).1).2.1;have nS:=hid (vE.start L Ls);have D:Hid (∀n,kr L Ls=n ->(Ending.returned (.int .i64 n))=.returned (.int .i64 (kr L Ls))):=fun n e=>by rw[e]
 clear h hl hs X Z;go_enter Tryz.func73,Tryz.ntmps73;go_wp2_with fail
 go_loopw [5,12] (fun bv iv wr=>∃(i:Nat) (bn:Kh) (d:Kd) (c:Nat),i<=Ls.length/\iv=.int .i64 i/\bv=.slice d bn.length c/\Hid (vE L Ls i bn)/\Hid (aC wr d bn)/\Hid (d=none ->c=0)/\Hid (db w wr)) (fun _ iv _=>Ls.length - (intOf iv).toNat)
 case atStart=>exact⟨0,[],none,0,aU _,rfl,rfl,nS,(fun k hk=>absurd hk aE),(fun _=>rfl),au _ _⟩
 case round=>
  obtain⟨i,bn,d,c,v,rfl,rfl,q,P,Ea,H⟩:=hrel;clear nS;by_cases t:i<Ls.length
  ·obtain⟨g,o,b,cb,rfl,F,hc,m,ai⟩:=HF.o i t;have kc:wr.cell? ⟨g,o+i,none⟩=some (.slice b Ls[i].length cb):=(H.o.cell (p:=⟨g,_,none⟩) F).trans hc;have ay:=Aq.o _ (bP t);have O:=hid (vW.o b cb Ls[i] wr H.o (m.aa H.o) ay);have Y:=hid (m.aa H.o);have rq:=hid ai;have av:Hid (dN Ls[i] L.length=false ->iP L.length Ls=false):=arS t;have ao:Hid (∀x∈Ls[i],x∈bn ->iP L.length Ls=false):=fun x u m=>q.o.twice t u m;have an:Hid (dN Ls[i] L.length=true ->(∀x∈Ls[i],¬x∈bn) ->(bn++Ls[i]).Nodup):=q.o.disj t;have qm:Hid (aX L=0 ->dN Ls[i] L.length=true ->(∀x∈Ls[i],¬x∈bn) ->vE L Ls (i+1) (ei bn Ls[i])):=q.o.next t;have Pv:=hid (aa1 q.o.up);clear hc m ai q;generalize Ls[i]=f at *;go_wp2_with fail
   refine O.o.af ?_;rintro e w1 ⟨ax,y⟩;have S:=hid (H.o.trans (y.af H.o.size));have J:=hid (P.o.aa y);have K:=hid (Y.o.aa y);clear y O P Y kc;rcases ax with ⟨j,rfl⟩ |⟨j,r,rfl⟩ |⟨j,r,d2,S4,rfl,qM⟩
   ·have aQ:(aX L==0)=false:=by simpa using j
    have R:=hid (D.o _ (ai9 j));clear j;generalize aX L=ge at *;go_wp2;go_ret;exact⟨R.o,S.o⟩
   ·have R:=hid (D.o _ (abD j (av.o r)));clear j r;go_wp2;go_ret;exact⟨R.o,S.o⟩
   ·have aN:bn.length<=8:=aL Pv.o (Ce.o j);have Q:=hid (VN b d cb c f bn w1 K.o J.o al al);have V:Hid ((oF f bn).length<f.length↔∃x∈f,x∈bn):=alL;have rh:=hid j;have ab:=hid r;generalize (eY (cX (aF L) (ag f) L.length)).length=ml at *;generalize (oF f bn).length=ol at *;clear qM j r;go_wp2_with fail
    refine Q.o.af ?_;rintro e w2 ⟨d3,c3,rfl,_,_,z⟩;have E:=hid (S.o.trans (z.af S.o.size));have tu:=hid (J.o.aa z);have aq:=hid (K.o.aa z);clear z Q J K;by_cases ad:ol<f.length
    ·have R:=hid (D.o _ (abD rh.o (by obtain⟨x,u,I⟩:=V.o.1 ad;exact ao.o x u I)));go_wp2;go_ret;exact⟨R.o,E.o⟩
    ·have A:∀x∈f,¬x∈bn:=fun x u I=>ad (V.o.2 ⟨x,u,I⟩);have T:=hid (aa4 d b c cb bn f w2 tu.o aq.o Ea.o rq.o al al (an.o ab.o A));have HN:=hid (qm.o rh.o ab.o A);clear A;go_wp2_with fail
     refine T.o.af ?_;rintro e w3 ⟨d4,c4,rfl,M,ae,aj⟩;have dZ:=hid (E.o.trans (aj.af E.o.size));have I8:=hid M;have ak:=hid ae;clear M ae aj T;go_wp2;go_roundw
     case rel=>exact⟨i+1,_,d4,c4,al,b5,rfl,HN,I8,ak,dZ⟩
     case measure=>simp[intOf];omega
  ·obtain rfl:i=Ls.length:=al
   have R:=hid (D.o _ (q.o.fin hp));go_wp2;go_ret;exact⟨R.o,H.o⟩
theorem arw (a b T c:Kd) (ca cx cy cz:Nat) (L:List Kh) (x y z:Kh) (w:World) (h:dC w a L) (d:∀l∈L,l.length<=140737488355328) (f:aC w b x) (i:aC w T y) (j:aC w c z) (t:x.length<=140737488355328) (n:y.length<=140737488355328) (r:z.length<=140737488355328) (g:aX L=0) (p:iP L.length [x,y,z]=true):
  da 75 #[.slice a L.length ca,.slice b x.length cx,.slice T y.length cy,.slice c z.length cz] w (du w (.bool (!lH L x y z))):=by
 have A:Hid (da 124 #[.slice a L.length ca,.slice b x.length cx,.slice T y.length cy,.slice c z.length cz] w fun e w'=>e=.returned (.tuple #[.bool (!lH L x y z),.int .i64 0])/\db w w'):=(apq a b T c ca cx cy cz L x y z w h d f i j t n r).af fun e w' h=>by
  rcases h.2 with ⟨k,_⟩ |⟨_,k,_⟩ |⟨_,_,k⟩
  ·exact absurd g k
  ·rw[p] at k;cases k
  ·exact⟨k,h.1⟩
 clear h d f i j g p;generalize (!lH L x y z)=q at *;go_enter Tryz.func75,Tryz.ntmps75;go_wp2_with fail
 refine A.o.af ?_;rintro e s ⟨rfl,m⟩;have H:=hid m;clear m;go_wp2;go_ret;exact⟨rfl,H.o⟩
theorem Wd (a:u<8):(eY s).contains (u:Int)=decide (u∈s):=by
 refine xL.2 ?_;rw[AQ,eG,eY,iL,aH];constructor
 ·rintro⟨v,b,e⟩;obtain rfl:v=u:=al
  exact(uU.1 b).2
 ·exact fun h=>⟨u,uU.2 ⟨a,h⟩,rfl⟩
variable {ws:Ki} {Pa:Nat ->Nat ->Prop}
def zF (l:List (Nat×Nat)):List (Int×Int):=l.map fun p=>((p.1:Int),(p.2:Int))
theorem yZ (l:List (Nat×Nat)):(zF l).length=l.length:=by simp[zF]
structure eV (S:Ki) (n:Nat) (l:List (Nat×Nat)):Prop where
 nd:(l.map (·.1)).Nodup
 lt:∀p∈l,p.1<n
 val:∀p∈l,p.2<sz S p.1
theorem ap0 (h:ir V L R F=0):aW V L R=0/\∃l,F=zF l/\eV (ar V) V.length l:=by
 have n:aW V L R=0:=by
  by_cases e:aW V L R=0
  ·exact e
  ·rw[ir,aA e] at h;exact h
 rw[ir,aw n] at h;have z:=Dp h
 have g:∀i (d:i<F.length),(0<=F[i].1/\F[i].1<(V.length:Int))/\(0<=F[i].2/\F[i].2<(sz (ar V) F[i].1.toNat:Int))/\((F.take i).any fun p=>p.1==F[i].1)=false:=fun i d=>by
  have f:=z i d;by_cases a:0<=F[i].1/\F[i].1<(V.length:Int)
  ·by_cases b:0<=F[i].2/\F[i].2<(sz (ar V) F[i].1.toNat:Int)
   ·refine⟨a,b,?_⟩;cases c:(F.take i).any fun p=>p.1==F[i].1 with
    |false=>rfl
    |true=>rw[af8 d a b c] at f;exact absurd f bd
   ·rw[af7 d a b] at f;exact absurd f bd
  ·rw[af6 d a] at f;exact absurd f bd
 refine⟨n,F.map fun p=>(p.1.toNat,p.2.toNat),?_,?_,?_,?_⟩
 ·rw[zF,yT];refine pJ aE fun i d _=>?_;rw[mn];obtain⟨⟨a,_⟩,⟨b,_⟩,_⟩:=g i d;show F[i]=(((F[i].1.toNat:Nat):Int),((F[i].2.toNat:Nat):Int));rw[Uw a,Uw b]
 ·rw[yT,List.Nodup,AO];refine yS.2 fun i j d q v e=>?_;obtain⟨⟨s,_⟩,_,_⟩:=g i d;obtain⟨⟨t,_⟩,_,o⟩:=g j q
  have:=Jw.1 o F[i] (by
   (have r:i<(F.take j).length:=by rw[eW];omega);have:=bP r;rwa [yV] at this)
  refine this (xG.2 ?_);have u:F[i].1.toNat=F[j].1.toNat:=e;omega
 ·intro p k;obtain⟨x,m,rfl⟩:=aH.1 k;obtain⟨i,d,rfl⟩:=iI m;obtain⟨⟨a,b⟩,_,_⟩:=g i d;show F[i].1.toNat<_;omega
 ·intro p k;obtain⟨x,m,rfl⟩:=aH.1 k;obtain⟨i,d,rfl⟩:=iI m;obtain⟨_,⟨a,b⟩,_⟩:=g i d;show F[i].2.toNat<sz _ F[i].1.toNat;omega
def AW (L:List Kh) (A:Ki):Ki:=(jx L).filter fun v:Nat=>(eY (cX (aF L) A L.length)).contains (v:Int)
theorem GR (h:Up l n):∀x∈l,0<=x/\x<n:=(jM.1 h).1
theorem aa0 (h:Up l n):(ag l).Pairwise (·<·):=by
 rw[ag,AO];refine List.Pairwise.imp_of_mem (fun {a b} c d g=>?_) (jM.1 h).2;have e:=GR h a c;have f:=GR h b d;omega
theorem VB (L:List Kh) (i:Nat):(aF L).getD i []=ag (L.getD i []):=by
 rw[aF,bF,kq,bF];cases L[i]? with
 |none=>rfl
 |some x=>rfl
theorem VS (g:gB L=true) (h1:1<=L.length) (a:L.length<=8) (h:v∈jx L):v<L.length:=by
 have p:((jx L).filter fun v=>decide (v<L.length)).Perm (List.range L.length):=
  (Gw ((adf g h1 a).sublist Ju) qC).2 fun u=>by
   rw[cQ,bM,eG];exact⟨fun h=>h.2,fun h=>⟨adg g h1 a h,h⟩⟩
 have l:=p.length_eq;have n:(jx L).length=L.length:=by rw[Q4];simp
 rw[yU] at l;replace l:=l.trans n.symm;exact mg (List.length_filter_eq_length_iff.1 l v h)
theorem ar3 (g:gB L=true) {A:Ki} (a:∀v∈A,v<L.length) (h:v∈cX (aF L) A L.length):v<L.length:=
 K6 (fun x u b=>(Wc g x u b).1) a L.length v h
theorem aaD (g:gB L=true) (h1:1<=L.length) (c:L.length<=8) {A:Ki} (e:∀v∈A,v<L.length):v∈AW L A↔v∈cX (aF L) A L.length:=by
 rw[AW,cQ];constructor
 ·rintro⟨a,b⟩;have d:=VS g h1 c a;rw[Wd al] at b;exact mg b
 ·intro h;have d:=ar3 g e h;exact⟨adg g h1 c d,by rw[Wd al];exact bX h⟩
theorem ahI (g:gB L=true) (h1:1<=L.length) (h:L.length<=8) (A:Ki):(AW L A).Nodup:=(adf g h1 h).sublist Ju
theorem ahJ (g:gB L=true) (h1:1<=L.length) (a:L.length<=8) {A:Ki} (h:v∈AW L A):v<L.length:=VS g h1 a (cQ.1 h).1
theorem arY {w:Nat} (h:Pa u v) (a:fM Pa v w):fM Pa u w:=by
 induction a using fM.ind with
 |one h3=>exact .more (.one h) h3
 |more _ h3 ih=>exact .more ih h3
theorem ahK (j:aX L=0) (h1:1<=L.length) (c:L.length<=8) {A:Ki} (d:∀v∈A,v<L.length):ru L (·∈AW L A):=fun v h u a=>by
 have g:=yq j;show u∈AW L A;have h:v∈AW L A:=h;rw[aaD g h1 c d,Ow j c d] at h⊢;obtain⟨b,f,e⟩:=h;rw[<- VB] at a;refine⟨b,f,.inr ?_⟩;rcases e with rfl |e
 ·exact .one a
 ·exact arY (Pa:=fun u v=>u∈(aF L).getD v []) a e
theorem aaE (d:aX L=0) (h1:1<=L.length) (h:L.length<=8) {A:Ki} (a:∀v∈A,v<L.length) (b:v∈A):v∈AW L A:=by
 rw[aaD (yq d) h1 h a,Ow d h a];exact⟨v,b,.inl rfl⟩
def gT (V:List Vr) (L:List Kh) (R:List (List Fr)) (ws:Ki):List Tb:=ws.map fun v=>(gU L v,gL V L R v)
theorem apj (h0:aW V L R=0) (h:∀v∈ws,v<V.length) (c:ru L (·∈ws)):gW (ar V) V.length (gT V L R ws) (gP R ws) 1:=
 ⟨(PI.net h0 h c).ok,PD.net h0 h,fun t a=>by
  obtain⟨v,_,rfl⟩:=aH.1 a;exact apl V L R v⟩
theorem gW.fixes (a:Pos S):∀ {l:List (Nat×Nat)} {P:List Tb} {D c:Nat},gW S n P D c ->(∀p∈l,p.2<sz S p.1) ->gW S n (p6 S l P) D c
 |[],_,_,_,h,_=>h
 |p::l,_,_,_,h,hx=>gW.fixes a (l:=l) (h.fix a (hx p c5)) fun q b=>hx q (dM _ b)
theorem Y6 (S:Ki):∀(l:List (Nat×Nat)) (P:List Tb),(p6 S l P).length=P.length
 |[],_=>rfl
 |p::l,P=>by rw[p6,Y6 S l,cH]
theorem aiT (p:Pos S) {a b:Ki} (h:a.Sublist b):jN S a<=jN S b:=by
 induction h with
 |slnil=>exact ah _
 |cons x _ ih=>rw[jN];exact aL ih (Em _ (jE p x))
 |cons_cons x _ ih=>rw[jN,jN];exact mi _ ih
theorem aej:∀(l:List (Nat×Nat)) (fr:Ki),(lM fr l).Sublist fr
 |[],_=>List.Sublist.refl _
 |_::l,_=>(aej l _).trans Ju
def gV (V:List Vr) (L:List Kh) (R:List (List Fr)) (q:Kh) (l:List (Nat×Nat)):Tb:=
 (q,(List.range (cnt (ar V) (ag q))).map fun K=>qF (qI V L R (qV (ar V) (ag q) K++l)))
theorem aih {a b:Kh} (c:Up a n) (d:Up b m) (h:∀u,u∈ag a↔u∈ag b):a=b:=by
 have e:ag a=ag b:=by
  refine List.Perm.eq_of_pairwise (le:=(·<·)) (fun x y _ _ g i=>al) (aa0 c) (aa0 d) ?_;exact(Gw c.nodup d.nodup).2 h
 have g:iL (ag a)=a:=by
  rw[iL,ag,yT];refine(wu fun x f=>?_).trans (List.map_id _);have:=(GR c x f).1;show ((x.toNat:Nat):Int)=x;omega
 have i:iL (ag b)=b:=by
  rw[iL,ag,yT];refine(wu fun x f=>?_).trans (List.map_id _);have:=(GR d x f).1;show ((x.toNat:Nat):Int)=x;omega
 rw[<- g, <- i,e]
theorem akE {q:Kh} (h:Up q n) (v:Nat):q.contains (v:Int)=(ag q).contains v:=by
 rw[xL,AQ,AQ];constructor
 ·intro a;exact aH.2 ⟨_,a,aE⟩
 ·intro a;obtain⟨x,b,e⟩:=aH.1 a;have:=(GR h x b).1;have c:x.toNat=v:=e;have:x=(v:Int):=al
  rwa [<- this]
theorem aiq (h0:aW V L R=0) (d:Pos (ar V)) {l:List (Nat×Nat)} {q:Kh} (y:ws.Nodup) (o:∀v∈ws,v<V.length) (m:ru L (·∈ws)) (i:eV (ar V) V.length l) (F:∀p∈l,p.1∈ws) (j:Up q V.length) (s:∀v∈ag q,v∈ws/\¬v∈l.map (·.1)):
  allT (ar V) (kx (ar V) false (fun v=>q.contains (v:Int)) (lM ws l) (p6 (ar V) l (gT V L R ws)))=gV V L R q l:=by
 have r:(fun v:Nat=>q.contains (v:Int))=fun v=>(ag q).contains v:=funext (akE j);rw[r];have D:PI (ar V) V.length (lM ws l) (p6 (ar V) l (gT V L R ws)) (fun g=>eT V L R (dH l g) ws):=(PI.net h0 o m).fixes d i.nd i.val;obtain⟨H,x,e⟩:=PI.outs d (fun v=>(ag q).contains v) (lM ws l) D;have f:=BP d e.ok
 have E:∀u,u∈H↔u∈ag q:=fun u=>by
  rw[x u,Rk];constructor
  ·rintro⟨⟨a,b⟩,c⟩;exact AQ.1 (c ⟨a,b⟩)
  ·intro h;exact⟨s u h,fun _=>AQ.2 h⟩
 have n:(allT (ar V) (kx (ar V) false (fun v=>(ag q).contains v) (lM ws l) (p6 (ar V) l (gT V L R ws)))).1=q:=by
  refine aih f.1.up j fun u=>?_;rw[f.2.1 u, <- E u];exact⟨fun ⟨t,z,A⟩=>e.sub t z u A,fun h=>e.sup u h⟩
 refine Prod.ext n ?_;rw[abc d f.1 (ag8 _ _),n];refine wu fun K w=>?_;have k:=bM.1 w;rw[f.2.2 _ (fun u=>yA d _ _ u k),e.val _ (fun u=>yA d _ _ u k)];exact ed qF (anr h0 y o m i.nd F i.val j.nodup s k)
def pK (V:List Vr) (L:List Kh) (R:List (List Fr)) (k:Nat):Rat:=wF V L R (bA (ar V) (List.range V.length) k) V.length
theorem aqS (h:NM V L R):cnt (ar V) (List.range V.length)<=729:=by
 have a:=Zn (S:=ar V) h.szs (List.range V.length);rw[yU] at a;have b:3^V.length<=3^6:=kN bd h.six;omega
variable {us:Ki} {k:Nat}
theorem MG (a:us.Nodup) (l:∀v∈us,v<n):us.Perm ((List.range n).filter fun v=>us.contains v):=
 (Gw a (qC.sublist Ju)).2 fun v=>by
  rw[cQ,bM,AQ];exact⟨fun h=>⟨l v h,h⟩,fun h=>h.2⟩
theorem aqm {a b:Ki} (h:a.Perm b):gP R a=gP R b:=by
 induction h with
 |nil=>rfl
 |cons x _ ih=>rw[gP,gP,ih]
 |swap x y l=>simp only[gP];rw[<- jh, <- jh,eB (p7 _) (p7 _)]
 |trans _ _ h1 h2=>rw[h1,h2]
theorem aql {a b:Ki} (h:a.Sublist b):gP R a<=gP R b:=by
 induction h with
 |slnil=>exact ah _
 |cons x _ ih=>rw[gP];exact aL ih (Em _ (lA (KS _)))
 |cons_cons x _ ih=>rw[gP,gP];exact mi _ ih
theorem aqn (h:us.Nodup) (l:∀v∈us,v<n):gP R us<=gP R (List.range n):=by
 rw[aqm (MG h l)];exact aql Ju
theorem Qu (S:Ki):∀l,jN S l=cnt S l
 |[]=>rfl
 |v::l=>by rw[jN,cnt,Qu S l]
theorem agE (h:∀v,sz S v<=4):∀l:Ki,cnt S l<=4^l.length
 |[]=>ah _
 |v::l=>by
  rw[cnt,dV,jw,eB];exact kp (agE h l) (h v)
theorem aiR (f:gI (iL S)) (v:Nat):sz S v<=4:=by
 by_cases h:v<S.length
 ·have a:=(f.each v (by rw[bL];exact h)).2;have b:(iL S)[v]'(by rw[bL];exact h)=(S[v]:Int):=by simp[iL]
  rw[b] at a;rw[sz,aV h];show S[v]<=4;omega
 ·rw[sz,iA al];decide
theorem S1 (f:gI (iL S)) (n:us.Nodup) (l:∀v∈us,v<S.length):cnt S us<=65536:=by
 have c:=(MG n l).length_eq;have d:((List.range S.length).filter fun v=>us.contains v).length<=S.length:=aL (od ..) aE;have h:=f.eight;rw[bL] at h;have a:=agE (aiR f) us;have b:4^us.length<=4^8:=kN bd al;exact aL a b
theorem ahG (h:n<=65536):(B n).size<=3:=by
 have a:=kW h;have b:(B 65536).size<=3:=by rw[mY];exact rX 3 65536 bd
 omega
def tE (V:List Vr) (R:List (List Fr)):Prop:=(B (gP R (List.range V.length))).size<=4000
theorem tE.at (h:tE V R) (n:us.Nodup) (l:∀v∈us,v<V.length):(B (gP R us)).size<=4000:=aL (kW (aqn n l)) h
theorem tE.pool (h:tE V R) (h0:aW V L R=0) (n:us.Nodup) (l:∀v∈us,v<V.length) (b:vs.Nodup) (e:∀v∈vs,v<V.length):2*(B (gP R us)).size+(B (jN (ar V) vs*1)).size+2<=8192:=by
 have c:=h.at n l
 have a:jN (ar V) vs*1<=65536:=by
  rw[qA,Qu];exact S1 (gC h0).fine b (by rw[nE];exact e)
 have d:=ahG a;omega
theorem J8 (h0:aW V L R=0):aX L=0:=by
 rw[aW] at h0;by_cases a:L.length=V.length/\R.length=V.length
 ·rw[aw a] at h0;by_cases h:aX L=0
  ·exact h
  ·rw[aA h] at h0;exact absurd h0 h
 ·rw[aA a] at h0;exact absurd h0 bd
theorem aki (h0:aW V L R=0):ru L (·∈List.range V.length):=fun v _ u h=>by
 have a:=gC h0;rw[<- VB] at h;have:=(Wc (yq (J8 h0)) v u h).1;rw[a.len] at this;exact bM.2 this
theorem ala (h0:aW V L R=0) (p:Pos (ar V)) (c:k<cnt (ar V) (List.range V.length)):fQ (gP R (List.range V.length)) (pK V L R k)/\l8 1 (pK V L R k):=by
 have f:Fit (ar V) (bA (ar V) (List.range V.length) k):=fun u=>yA p _ _ u c;have a:=(PD.net (R:=R) (L:=L) (ws:=List.range V.length) h0 (fun v h=>bM.1 h)).prod f;have b:=(PI.net h0 (fun v h=>bM.1 h) (aki h0)).val _ f;rw[b, <- QM] at a;exact a
def aK (V:List Vr) (L:List Kh) (R:List (List Fr)) (l:List (Nat×Nat)) (k:Nat):Rat:=bR l (bA (ar V) (List.range V.length) k)*pK V L R k
theorem Wj (V:List Vr) (L:List Kh) (R:List (List Fr)) (l:List (Nat×Nat)):qI V L R l=bG (aK V L R l) (cnt (ar V) (List.range V.length)):=rfl
theorem ZT (h0:aW V L R=0) (p:Pos (ar V)) (l:List (Nat×Nat)) (c:k<cnt (ar V) (List.range V.length)):fQ (gP R (List.range V.length)) (aK V L R l k)/\l8 1 (aK V L R l k):=by
 obtain⟨a,b⟩:=ala h0 p c;rw[aK,Yh];by_cases h:KC l (bA (ar V) (List.range V.length) k)=true
 ·rw[aw h,wj];exact⟨a,b⟩
 ·rw[aA h,Jn];exact⟨fQ.zero _,by constructor<;>decide⟩
theorem aiW (h0:aW V L R=0) (D:tE V R) {g:Nat ->Rat} (j:n<=65536) (a:∀k,k< n ->fQ (gP R (List.range V.length)) (g k)/\l8 1 (g k)):qw (bG g n)<=8003:=by
 have z:gP R (List.range V.length)≠0:=(PD.net (V:=V) (L:=L) h0 (fun v d=>bM.1 d)).nz.1;have b:=fQ.sum (k:=n) fun x h=>(a x h).1;have c:=l8.sum (k:=n) fun x h=>(a x h).2;have e:=b.size z c;have f:=ahG (n:=n*1) al;have i:(B (gP R (List.range V.length))).size<=4000:=D;omega
theorem ag6 (h0:aW V L R=0):cnt (ar V) (List.range V.length)<=65536:=S1 (gC h0).fine qC fun v h=>by rw[nE];exact bM.1 h
theorem ann (h0:aW V L R=0) (p:Pos (ar V)) (h:tE V R) (l:List (Nat×Nat)) (a:n<=cnt (ar V) (List.range V.length)):qw (bG (aK V L R l) n)<=8003:=
 aiW h0 h (aL a (ag6 h0)) fun k b=>ZT h0 p l al
theorem y9 (h0:aW V L R=0):Pos (ar V):=by have:=(gC h0).fine.pos;rwa [iJ] at this
variable {T:Nat ->Prop}
theorem CP (L:List Kh) (v:Nat):(aF L).getD v []=ag (L.getD v []):=by
 by_cases h:v<L.length
 ·rw[G6 h,bF,aV h];rfl
 ·rw[bF,iA (by rw[jQ];omega),bF,iA al];rfl
theorem ar1 {a b:Nat} (h:fM (fun u v=>u∈(aF L).getD v []) a b):dL L T b ->dL L T a:=by
 induction h using fM.ind with
 |one h1=>exact fun c=>.step c (by rw[<- CP];exact h1)
 |more _ h1 ih=>exact fun c=>ih (.step c (by rw[<- CP];exact h1))
theorem ar0 {a b:Nat} (h1:a∈(aF L).getD v []) (h:fM (fun u v=>u∈(aF L).getD v []) v b):fM (fun u v=>u∈(aF L).getD v []) a b:=by
 induction h using fM.ind with
 |one hp=>exact .more (.one h1) hp
 |more _ hp ih=>exact .more ih hp
theorem ZK (h:aX L=0) (e:L.length<=8) (hs:∀v∈s,v<L.length) (u:Nat):dL L (·∈s) u↔u∈cX (aF L) s L.length:=by
 rw[Ow h e hs];constructor
 ·intro f;induction f using dL.ind with
  |base c=>exact⟨_,c,.inl rfl⟩
  |step _ h2 ih=>
   obtain⟨b,a,d⟩:=ih;rw[<- CP] at h2;rcases d with rfl |d
   ·exact⟨_,a,.inr (.one h2)⟩
   ·exact⟨b,a,.inr (ar0 h2 d)⟩
 ·rintro⟨b,a,rfl |c⟩
  ·exact .base a
  ·exact ar1 c (.base a)
theorem adi (h:aX L=0) (b:L.length<=8) {x y z:Kh} (p:iP L.length [x,y,z]=true):lH L x y z=true↔qX L L.length (·∈ag x) (·∈ag y) (·∈ag z):=by
 have r:kh [x,y,z] L.length=true:=by
  rw[iP,iB] at p;exact p.1
 have d:Up z L.length:=j8 (eX.1 r z aE);have l:=uM d;have g:=(vr h).1;rw[adk h b p];constructor
 ·rintro⟨v,c,a,w⟩;refine⟨v,c,a,?_⟩;clear a;induction w using ix.ind with
  |start hx=>exact .start hx
  |up _ h1 h2 ih=>exact .up ih h1 (by rw[<- CP];exact h2)
  |down _ h1 h2 ih=>exact .down ih h1 (JW g h2).2 (by rw[<- CP];exact h2)
  |meet _ h1 h2 ih=>exact .meet ih ((ZK h b l _).2 h1) (by rw[<- CP];exact h2)
 ·rintro⟨v,c,a,w⟩;refine⟨v,c,a,?_⟩;clear a;induction w using iw.ind with
  |start hx=>exact .start hx
  |up _ h1 h2 ih=>exact .up ih h1 (by rw[CP];exact h2)
  |down _ h1 _ h2 ih=>exact .down ih h1 (by rw[CP];exact h2)
  |meet _ h1 h2 ih=>exact .meet ih ((ZK h b l _).1 h1) (by rw[CP];exact h2)
theorem arR (h:aX L=0) (c:L.length<=8) {x y z:Kh} (p:iP L.length [x,y,z]=true) (o:lH L x y z=true):x≠[]/\y≠[]:=by
 obtain⟨⟨u,a⟩,v,b⟩:=((adi h c p).1 o).some;exact⟨(fun e=>by rw[e] at a;cases a),(fun e=>by rw[e] at b;cases b)⟩
def rB (n x:Nat):List Fr:=(List.range n).map fun k=>qF (if k=x then 1 else 0)
theorem GX (n x:Nat):(rB n x).length=n:=by simp[rB]
theorem abk {x:Nat} (h:k<n):cT (rB n x) k=qF (if k=x then 1 else 0):=by
 rw[vA (by rw[GX];exact h)];simp[rB]
theorem aiV {x:Nat} (c:x<n):i6 (rB n x)=true:=by
 rw[i6,iB,eG,eX];constructor
 ·intro f a;obtain⟨k,_,rfl⟩:=aH.1 a;rw[eG,nP];split<;>decide
 ·rw[afP,GX,fY (h:=fun k=>(if k=x then 1 else 0)*1) fun k b=>by rw[abk b,nP,tG]];exact JE (g:=fun _=>1) c
def xP {α:Type} (f:Nat×Nat ->α) (d:List (Nat×Nat)) (L:List α):List α:=d.foldl (fun L p=>L.set p.1 (f p)) L
theorem Vv {α:Type} (f:Nat×Nat ->α):∀(d:List (Nat×Nat)) (L:List α),(xP f d L).length=L.length
 |[],_=>rfl
 |p::d,L=>by rw[xP,uJ];exact(Vv f d _).trans iq
theorem JP {α:Type} [Inhabited α] {f:Nat×Nat ->α} {z:α}:∀ {d:List (Nat×Nat)} {L:List α},¬v∈d.map (·.1) ->(xP f d L).getD v z=L.getD v z
 |[],_,_=>rfl
 |p::d,L,h=>by
  rw[fG,bT,not_or] at h;rw[xP,uJ];refine(JP (d:=d) h.2).trans ?_;rw[bF,bF,wA fun e=>h.1 e.symm]
theorem QL {α:Type} [Inhabited α] {f:Nat×Nat ->α} {z:α} {p:Nat×Nat}:∀ {d:List (Nat×Nat)} {L:List α},(d.map (·.1)).Nodup ->p∈d ->p.1<L.length ->(xP f d L).getD p.1 z=f p
 |[],_,_,h,_=>by cases h
 |q::d,L,hn,h,hl=>by
  rw[fG,nZ] at hn;rw[xP,uJ];rcases bT.1 h with rfl |h
  ·refine(JP (d:=d) hn.1).trans ?_;rw[bF,GG hl];rfl
  ·exact QL (d:=d) hn.2 h (by rw[iq];exact hl)
def dw (d:List (Nat×Nat)) (L:List Kh):List Kh:=xP (fun _=>[]) d L
def eJ (V:List Vr) (d:List (Nat×Nat)) (R:List (List Fr)):List (List Fr):=xP (fun p=>rB (sz (ar V) p.1) p.2) d R
theorem rT (d:List (Nat×Nat)) (L:List Kh):(dw d L).length=L.length:=Vv _ d L
theorem Ze (V:List Vr) (d:List (Nat×Nat)) (R:List (List Fr)):(eJ V d R).length=R.length:=Vv _ d R
theorem FM {d:List (Nat×Nat)} (v:Nat):(dw d L).getD v []=if v∈d.map (·.1) then[] else L.getD v []:=by
 by_cases e:v∈d.map (·.1)
 ·rw[aw e]
  have k:∀(d:List (Nat×Nat)) (L:List Kh),v∈d.map (·.1)∨L.getD v []=[] ->(dw d L).getD v []=[]:=fun d=>by
   induction d with
   |nil=>exact fun L h=>h.elim (fun h=>by cases h) id
   |cons p d ih=>
    intro L h;rw[dw,xP,uJ];refine ih (L.set p.1 []) ?_;by_cases a:p.1=v
    ·refine .inr ?_;subst a;rw[bF];by_cases l:p.1<L.length
     ·rw[GG l];rfl
     ·rw[iA (by rw[iq];omega)];rfl
    ·rcases h with h |h
     ·rw[fG,bT] at h;exact .inl (h.resolve_left fun b=>a b.symm)
     ·refine .inr ?_;rw[bF,wA a, <- bF];exact h
  exact k d L (.inl e)
 ·rw[aA e];exact JP e
theorem Zf (d:List (Nat×Nat)) (L:List Kh) (v:Nat):((dw d L).getD v []).Sublist (L.getD v []):=by
 rw[FM];split
 ·exact List.nil_sublist _
 ·exact List.Sublist.refl _
theorem aqk {d:List (Nat×Nat)}:dw d L=bB L (d.map fun p=>(p.1:Int)) []:=by
 apply pJ ((rT d L).trans (nR L _ _).symm);intro v a c;have f:v<L.length:=by rw[rT] at a;exact a
 have e:=FM (d:=d) (L:=L) v;rw[bF,aV a] at e;rw[KU,Oh,show (dw d L)[v]=_ from e]
 have m:((v:Int)∈d.map fun p=>(p.1:Int))↔v∈d.map (·.1):=by
  rw[aH,aH];exact⟨fun ⟨p,b,e⟩=>⟨p,b,al⟩,fun ⟨p,b,e⟩=>⟨p,b,al⟩⟩
 by_cases e:v∈d.map (·.1)
 ·rw[aw e,aw (m.2 e)]
 ·rw[aA e,aA fun h=>e (m.1 h)]
section
variable {V : List Vr} {L : List Kh} {R : List (List Fr)} {d : List (Nat × Nat)}
theorem Od (h0:aW V L R=0) (g:eV (ar V) V.length d):aW V (dw d L) (eJ V d R)=0:=by
 have k:=gC h0;have h:=h0;rw[aW,aw ⟨k.len,k.lenR⟩] at h;by_cases a:aX L=0
 ·rw[aw a] at h;by_cases b:lF V=0
  ·rw[aw b] at h;rw[aW,aw ⟨(rT d L).trans k.len,(Ze V d R).trans k.lenR⟩,aw (afI a (rT d L) fun v _=>Zf d L v),aw b];refine BL fun v o=>?_;have l:=Dp h v o;by_cases e:v∈d.map (·.1)
   ·obtain⟨p,j,rfl⟩:=aH.1 e;have f:(eJ V d R).getD p.1 []=rB (sz (ar V) p.1) p.2:=QL g.nd j (by rw[k.lenR];exact g.lt p j);(have c:(dw d L).getD p.1 []=[]:=by rw[FM,aw e]);rw[jm,f,c,GX];have m:cnt (ar V) (ag [])=1:=rfl;rw[m,kO,aw rfl,aw];rw[eX];intro i n;(have:i=0:=by have:=bM.1 n;omega);subst this;rw[fK,nW,Er,kP (by rw[GX];exact ah _)];exact aiV (g.val p j)
   ·have f:(eJ V d R).getD v []=R.getD v []:=JP e;(have c:(dw d L).getD v []=L.getD v []:=by rw[FM,aA e]);rw[jm,f,c];exact l
  ·rw[aA b] at h;exact absurd h b
 ·rw[aA a] at h;exact absurd h a
def tO (V:List Vr) (L:List Kh) (R:List (List Fr)) (v:Nat) (g:Nat ->Nat):Rat:=ba (fk V L R g v)
theorem amf (h0:aW V L R=0):fW (ar V) V.length L (tO V L R):=by
 have k:=gC h0;have b:=J8 h0;refine⟨y9 h0,fun v h u c a g x=>?_,fun v h g b=>row_one h0 h b,fun v h g b=>Rg h0 h b,fun v h u a=>?_,tJ (aF L),fun v h u a=>?_⟩
 ·show ba (fk V L R (aM g u x) v)=ba (fk V L R g v);rw[Wl (fun e=>c e.symm) a]
 ·have f:v<L.length:=by rw[k.len];exact h
  rw[bF,aV f] at a;obtain⟨z,m,rfl⟩:=aH.1 a;have:=(jM.1 (k.up v f)).1 z m;omega
 ·exact GZ b (by rw[VB];exact a)
theorem acD (g:Nat ->Nat):∀o:Ki,cC (tO V L R) g o=eT V L R g o
 |[]=>rfl
 |v::o=>by rw[cC,eT,acD g o];rfl
theorem ans (_h0:aW V L R=0) (l:List (Nat×Nat)):qI V L R l=bV (ar V) V.length (tO V L R) l:=by
 have e:=V1 (S:=ar V) (fun g=>bR l g*wF V L R g V.length) (List.range V.length) (fun _=>0) qC;rw[fY (h:=fun k=>bR l (bA (ar V) (List.range V.length) k)*wF V L R (bA (ar V) (List.range V.length) k) V.length) fun k _=>by rw[acZ]] at e;rw[qI,e,bV];congr 1
 funext g
 rw[acD,QM]
theorem ano (h0:aW V L R=0) (h:eV (ar V) V.length d) (l:List (Nat×Nat)):qI V (dw d L) (eJ V d R) l=bV (ar V) V.length (cM d (tO V L R)) l:=by
 have k:=gC h0;rw[ans (Od h0 h),bV,bV];refine xV (fun g j=>?_) _ _ (fun u=>jE (y9 h0) u);congr 1
 refine QN fun v m=>?_;have Y:=bM.1 m;rw[cM];by_cases e:v∈d.map (·.1)
 ·rw[aw e];obtain⟨p,c,rfl⟩:=aH.1 e;have b:(eJ V d R).getD p.1 []=rB (sz (ar V) p.1) p.2:=QL h.nd c (by rw[k.lenR];exact h.lt p c);have a:(dw d L).getD p.1 []=[]:=by rw[FM,aw e]
  have i:=j p.1
  have f:sO (ar V) (ag []) g p.1=g p.1:=by
   show 0*_+g p.1=g p.1;rw[nW,bH]
  rw[tO,fk,b,a,f,abk i,nP,EF h.nd (x:=p.2) c];rfl
 ·rw[aA e];have b:(eJ V d R).getD v []=R.getD v []:=JP e;have a:(dw d L).getD v []=L.getD v []:=by rw[FM,aA e]
  rw[tO,tO,fk,fk,b,a]
theorem Zd (h0:aW V L R=0) (a:eV (ar V) V.length d):fW (ar V) V.length (dw d L) (cM d (tO V L R)):=by
 refine(amf h0).isDo a.nd a.val (fun v _ b u h=>?_) (fun v _ u h=>?_)
 ·rw[FM,aA b];exact h
 ·obtain⟨x,c,rfl⟩:=aH.1 h;exact aH.2 ⟨x,(Zf d L v).subset c,rfl⟩
theorem anl (v:Nat) (g:Nat ->Nat):tO V L (cK R) v g=tO V L R v g:=by
 rw[tO,tO,fk,fk,YT,cT,cT,kq];cases (R.getD v [])[sO (ar V) (ag (L.getD v [])) g v]? with
 |none=>rfl
 |some f=>exact SH f
end
theorem aiU {x:Nat}:(List.replicate n (qF 0)).set x (qF 1)=rB n x:=by
 apply pJ (by simp[rB]);intro k h b;rw[GD];simp only[rB,mn,GF,List.getElem_replicate];by_cases e:x=k
 ·rw[aw e,aw e.symm]
 ·rw[aA e,aA fun a=>e a.symm]
theorem arp (n x:Nat) (w:World) (h1:1<=n) (q:n<=1000) (s:x<n):
  da 38 #[.int .i64 (n:Nat),.int .i64 (x:Nat)] w fun e w'=>∃G,e=.returned (.slice (some ⟨G,0,none⟩) n n)/\w.heap.size<=G/\gQ w' G (rB n x)/\db w w':=by
 have D:Hid (∀U:World,da 88 #[.int .i64 0] U fun e w'=>e=.returned (.agg #[.bool (bK 0),.string (nu 0),.string (de 0)])/\db U w'):=fun U=>Iw (k:=0) (w:=U) 0 0 rfl bd rfl;have j:Hid (∀U:World,da 88 #[.int .i64 1] U fun e w'=>e=.returned (.agg #[.bool (bK 1),.string (nu 1),.string (de 1)])/\db U w'):=fun U=>Iw (k:=1) (w:=U) 1 1 rfl bd rfl;have F:Hid (∀(g:Nat) (U:World),aJ U g (bK 0) (nu 0) (de 0) ->da 87 #[.slice (some ⟨g,0,none⟩) 1 1,.int .i64 (n:Nat)] U fun e w'=>∃G,e=.returned (.slice (some ⟨G,0,none⟩) n n)/\U.heap.size<=G/\gQ w' G (List.replicate n (qF 0))/\db U w'):=fun g U b=>aji g n (qF 0) U b h1 q;have t:(x:Int)<(n:Int):=al
 go_enter Tryz.func38,Tryz.ntmps38;go_wp2_with fail
 refine(D.o _).af ?_;rintro e c ⟨rfl,h⟩;have f:db c (c.alloc (.cells #[.bool (bK 0),.string (nu 0),.string (de 0)] 63)):=(au _ c).alloc (ah _) _;have l:=h.trans (f.af h.size);have X:=hid (aJ.new c (bK 0) (nu 0) (de 0));have a:=hid l;clear h f l;go_wp2_with fail
 refine(F.o _ _ X.o).af ?_;rintro e I ⟨G,rfl,i,r,b⟩;have m:w.heap.size<=G:=aL a.o.size i;have d:=hid (a.o.trans (b.af a.o.size));have R:=hid r;clear b a X i r F D;go_wp2_with fail
 refine(j.o _).af ?_;rintro e J ⟨rfl,b⟩;have V:=hid (d.o.trans (b.af d.o.size));have H:=hid (R.o.aa b R.o.lt);clear b d R j;obtain⟨u,v,y⟩:=H.o.cells x (by rw[xJ];exact s);have z:=H.o.fz (x*3);have A:=H.o.fz (x*3+1);have E:=H.o.fz (x*3+2);have P:=hid (H.o.put x (qF 1));go_wp2_with fail
 go_ret;refine⟨G,rfl,m,?_,((V.o.setCell (p:=⟨G,x*3,none⟩) m _).setCell (p:=⟨G,x*3+1,none⟩) m _).setCell (p:=⟨G,x*3+2,none⟩) m _⟩;have:=P.o;rw[aiU] at this;exact this
variable {fv nO oz:Value}
structure mQ (W:World) (b:Nat) (x fv tv nO oz:Value) (l:Kh) (Q:List (Value×Value)) (P:List Tb) (V:World):Prop where
 box:bY V b x fv tv
 fo:bJ V W.heap.size nO l
 own:mR V W.heap.size oz Q P
 far:∀R,R<=b ->∀k (h:k<P.length) (h':k<Q.length),ig R P[k] Q[k]
 farF:∀R,nO.ownBlock=some R ->∀k (h:k<P.length) (h':k<Q.length),ig R P[k] Q[k]
 ne:∀R,nO.ownBlock=some R ->oz.ownBlock≠some R
 fr:W.grownBy V (some b)
theorem mQ.start {W:World} {b:Nat} (h:bY W b x (.slice none 0 0) (.slice none 0 0)):mQ W b x (.slice none 0 0) (.slice none 0 0) (.slice none 0 0) (.slice none 0 0) [] [] [] W:=
 ⟨h,⟨rfl,.inl ⟨rfl,rfl⟩⟩,mR.nil _ _,(fun R _ k h=>absurd h aE),(fun R e=>by cases e),(fun R e=>by cases e),YU _ _⟩
theorem mQ.under {W V:World} {b:Nat} {Q:List (Value×Value)} {P:List Tb} (h:mQ W b x fv tv nO oz l Q P V) (a:db V V'):mQ W b x fv tv nO oz l Q P V':=
 ⟨h.box.aa a h.box.lt,JY h.fo (Du.aa a),h.own.under a,h.far,h.farF,h.ne,YV h.fr a⟩
theorem mQ.pushF {W V:World} {b:Nat} {D:Value} {l':Kh} {Q:List (Value×Value)} {P:List Tb} (h:mQ W b x fv tv nO oz l Q P V) (j:b<W.heap.size) (o:bJ V' W.heap.size D l') (g:V.grownBy V' nO.ownBlock) (n:D.ownBlock=nO.ownBlock∨∀k,D.ownBlock=some k ->V.heap.size<=k):mQ W b x fv tv D oz l' Q P V':=by
 have f:∀k,nO.ownBlock=some k ->W.heap.size<=k:=fun k e=>(tM h.fo k e).1;refine⟨(g.block b h.box.lt (fun e=>by have:=f b e.symm;omega)).trans h.box,o,⟨h.own.len,QX h.own.own g (fun R e d=>h.ne R d e),fun k a c=>(h.own.val k a c).keepR (fun r i=>h.farF r i k a c) g,h.own.far⟩,h.far,fun R e k a c=>?_,fun R e d=>?_,N4 h.fr g f⟩
 ·rcases n with n |n
  ·exact h.farF R (by rw[<- n];exact e) k a c
  ·exact(h.own.val k a c).lt (n R e)
 ·rcases n with n |n
  ·exact h.ne R (by rw[<- n];exact e) d
  ·have a:=n R e;have c:=(h.own.lt R d).2;omega
theorem mQ.pushT {W V:World} {b:Nat} {w:Value} {Q:List (Value×Value)} {P:List Tb} {t:Tb} (h:mQ W b x fv tv nO oz l Q P V) (u:b<W.heap.size) (q:eL V u1 u2 t) (o:∀R,oz.ownBlock=some R ->ig R t (u1,u2)) (r:∀R,nO.ownBlock=some R ->ig R t (u1,u2)) (s:∀R,R<=b ->ig R t (u1,u2)) (p:V'.ownsRow W.heap.size 38 2 w (P.length+1) (fH Q++[u1,u2])) (g:V.grownBy V' oz.ownBlock) (n:w.ownBlock=oz.ownBlock∨∀k,w.ownBlock=some k ->V.heap.size<=k):mQ W b x fv tv nO w l (Q++[(u1,u2)]) (P++[t]) V':=by
 have c:∀k,oz.ownBlock=some k ->W.heap.size<=k:=fun k e=>(h.own.lt k e).1
 have j:∀R,(∀k (f:k<P.length) (i:k<Q.length),ig R P[k] Q[k]) ->ig R t (u1,u2) ->∀k (f:k<(P++[t]).length) (i:k<(Q++[(u1,u2)]).length),ig R (P++[t])[k] (Q++[(u1,u2)])[k]:=fun R m T k f i=>by
  by_cases d:k<P.length
  ·have F:k<Q.length:=by rw[h.own.len];exact d
   rw[nh F,nh d];exact m k d F
  ·have F:¬k<Q.length:=by rw[h.own.len];exact d
   rw[tI al,tI al];simp only[P7];exact T
 refine⟨(g.block b h.box.lt (fun e=>by have:=c b e.symm;omega)).trans h.box,QX h.fo g (fun R e a=>h.ne R e a),h.own.push q o p g n,(fun R c=>j R (h.far R c) (s R c)),fun R e=>j R (h.farF R e) (r R e),fun R e a=>?_,N4 h.fr g c⟩;rcases n with n |n
 ·rw[n] at a;exact h.ne R e a
 ·have f:=n R a;have i:=(tM h.fo R e).2;omega
theorem mQ.set1 {W V:World} {b:Nat} {Q:List (Value×Value)} {P:List Tb} (h:mQ W b x fv tv nO oz l Q P V) (a:b<W.heap.size) (u:Value):mQ W b x u tv nO oz l Q P (V.setCell ⟨b,1,none⟩ u):=
 ⟨h.box.set1 u,PJ h.fo (fun e=>by have:=(tM h.fo b e).1;omega) u,h.own.off u (h.far b (ah b)) (fun e=>by have:=(h.own.lt b e).1;omega),h.far,h.farF,h.ne,Sz h.fr _ _⟩
theorem mQ.set2 {W V:World} {b:Nat} {Q:List (Value×Value)} {P:List Tb} (h:mQ W b x fv tv nO oz l Q P V) (a:b<W.heap.size) (u:Value):mQ W b x fv u nO oz l Q P (V.setCell ⟨b,2,none⟩ u):=
 ⟨h.box.set2 u,PJ h.fo (fun e=>by have:=(tM h.fo b e).1;omega) u,h.own.off u (h.far b (ah b)) (fun e=>by have:=(h.own.lt b e).1;omega),h.far,h.farF,h.ne,Sz h.fr _ _⟩
theorem amX (a:Kd) (ca:Nat) (L:List Kh) (w:World) (h:dC w a L) (j:∀l∈L,l.length<=140737488355328) (g:aX L=0):
  da 203 #[.slice a L.length ca] w fun e w'=>∃G,e=.returned (.tuple #[.slice (some ⟨G,0,none⟩) L.length L.length,.int .i64 0])/\dC w' (some ⟨G,0,none⟩) (oJ L)/\db w w':=
 (apk a ca L w h j).af fun e w' i=>by
  rcases i with ⟨⟨b,_⟩ |⟨_,G,c,d⟩,f⟩
  ·exact absurd g b
  ·exact⟨G,c,d,f⟩
theorem apV (a:Kd) (ca:Nat) (L:List Kh) (w:World) (h:dC w a (oJ L)) (j:gB L=true) (h1:1<=L.length) (g:L.length<=8):
  da 204 #[.slice a L.length ca] w fun e w'=>∃d c G,e=.returned (.tuple #[.slice d L.length c,.slice (some ⟨G,0,none⟩) L.length L.length,.int .i64 0])/\aC w' d (iL (jx L))/\db w w':=by
 have:=apm a ca (oJ L) w h (fun l m=>by
  obtain⟨s,_,rfl⟩:=aH.1 m;rw[eY,bL,bQ];exact aL (od ..) aE)
 rw[CS] at this;refine this.af fun e w' k=>?_;rcases k with ⟨⟨_,d,c,G,b,f,_⟩ |⟨b,_⟩,i⟩
 ·rw[CS] at b;exact⟨d,c,G,b,f,i⟩
 ·rw[amY j h1 g] at b;cases b
theorem apf (a b c:Kd) (ca cb cc v:Nat) (V:List Vr) (L:List Kh) (R:List (List Fr)) (w:World) (h:iT w a b c V L R) (f:oZ w b L) (hs:sk V L R) (i:∀l∈R,fw l<=4200) (h0:aW V L R=0) (g:v<V.length) (m:∀U:World,iT U a b c V L R ->da 81 #[.agg #[.slice a V.length ca,.slice b L.length cb,.slice c R.length cc]] U fun e w'=>e=.returned (.int .i64 (aW V L R))/\db U w'):
  da 205 #[.agg #[.slice a V.length ca,.slice b L.length cb,.slice c R.length cc],.int .i64 (v:Nat)] w fun e w'=>FT w.heap.size (gU L v,gL V L R v) e w'/\db w w':=
 (amB a b c ca cb cc v V L R w h f hs i h0 g m).af fun _ _ d=>⟨xg.tb (t:=(gU L v,gL V L R v)) d.1,d.2⟩
variable {K:Act ->World ->Prop}
theorem UB {o:Oper} {a:Act} (s x:Operand)
  (H:o.op=.call {callee:=.builtin .append,args:= #[s,x],argTypes:= #[27,27]}) (base:Nat) (v:Value) (l:Kh) (f:Int) (hs:a.eval s=v) (q:bJ w base v l) (g:Nat) (I:a.eval x=.slice (some ⟨g,0,none⟩) 1 1) (F:w.cell? ⟨g,0,none⟩=some (.int .i64 f)) (ab:l.length+1<=100000) (T:base<=w.heap.size)
  (h:∀v' w',bJ w' base v' (l++[f]) ->w.grownBy w' v.ownBlock ->(v'.ownBlock=v.ownBlock∨∀k,v'.ownBlock=some k ->w.heap.size<=k) ->K (a.put o.dst v') w'):o.wp Tryz.prog a w K Q:=by
 obtain⟨i,D,m,z,p⟩:=eA Tryz.infoInt
 have n:∀j u,[Value.int .i64 f][j]? =some u ->w.cell? ((⟨g,0,none⟩:Addr).add j)=some u:=fun j u c=>by
  match j,c with
  |0,c=>cases c;exact F
  |j+1,c=>simp at c
 have S:∀u∈[Value.int .i64 f],u.oneCell'=true:=fun u t=>by
  simp only[bT,fR,iV] at t;subst t;rfl
 have O:l.length+1<=maxLen:=by unfold maxLen;omega
 obtain⟨v',w',r,A,E, -⟩:=run_append_own (P:=Tryz.prog) w base 27 o.type 3 i (.int .i64 0) 1 8 Tryz.underlying27 D m z p rfl bd v l.length _ q ⟨g,0,none⟩ 1 1 [.int .i64 f] rfl n S O al T
 have R:v'.ownBlock=v.ownBlock∨∀k,v'.ownBlock=some k ->w.heap.size<=k:=by
  rcases q.2 with ⟨b,X⟩ |⟨g',cap,L,b,Z,J,V,aa,M,Y⟩
  ·right
   have e:=run_append_nil (P:=Tryz.prog) w 27 o.type 3 i (.int .i64 0) Tryz.underlying27 D m ⟨g,0,none⟩ 1 1 [.int .i64 f] (by rw[z];rfl) n bd bd (by rw[p];decide);rw[b] at r;rw[r] at e;cases e;intro k d;cases d;exact ah _
  ·rw[b] at r;by_cases U:l.length+1<=cap
   ·left
    have e:=run_append_room (P:=Tryz.prog) w 27 o.type 3 i Tryz.underlying27 D g' l.length cap L J ⟨g,0,none⟩ 1 1 [.int .i64 f] (by rw[z];rfl) n S U (by rw[z,M];simp;omega);rw[r] at e;cases e;rw[b];rfl
   ·right
    have y:=q;rw[b] at y;have e:=run_append_grow (P:=Tryz.prog) w 27 o.type 3 i (.int .i64 0) Tryz.underlying27 D m ⟨g',0,none⟩ l.length cap (l.map (Value.int .i64)) (by rw[z];simp) (World.ownsRow.cells y rfl) ⟨g,0,none⟩ 1 1 [.int .i64 f] (by rw[z];rfl) n al al (PM al (by rw[p];omega));rw[r] at e;cases e;intro k d;cases d;exact ah _
 unfold Oper.wp execOp;simp only[H,resolve,invoke,builtin,Jm,AG,xI,Jp,fG,ng,hs,I,r];refine h v' w' ?_ E R;rw[bJ,bU,eh];exact A
theorem UA {o:Oper} {a:Act} (s x:Operand)
  (d:o.op=.call {callee:=.builtin .append,args:= #[s,x],argTypes:= #[175,175]}) (base:Nat) (v:Value) (n:Nat) (xs:List Value) (u1 u2:Value) (hs:a.eval s=v) (A:w.ownsRow base 38 2 v n xs) (g:Nat) (e:a.eval x=.slice (some ⟨g,0,none⟩) 1 1) (h0:w.cell? ⟨g,0,none⟩=some u1) (h1:w.cell? ⟨g,1,none⟩=some u2) (p:cO u1) (q:cO u2) (F:n+1<=100000) (E:base<=w.heap.size)
  (h:∀v' w',w'.ownsRow base 38 2 v' (n+1) (xs++[u1,u2]) ->w.grownBy w' v.ownBlock ->(v'.ownBlock=v.ownBlock∨∀k,v'.ownBlock=some k ->w.heap.size<=k) ->K (a.put o.dst v') w'):o.wp Tryz.prog a w K Q:=by
 obtain⟨i,D,z,t,y⟩:=eA Tryz.infoTable
 obtain⟨v',w',r,f,l,m⟩:=Vh (P:=Tryz.prog) w base 175 o.type 38 i (.agg #[.slice none 0 0,.slice none 0 0]) 2 48 Tryz.underlying175 D z t y rfl bd v n xs A ⟨g,0,none⟩ 1 1 [u1,u2] rfl (fun j u b=>by
  match j,b with
  |0,b=>cases b;exact h0
  |1,b=>cases b;exact h1
  |j+2,b=>simp at b) (fun u c=>by
  simp only[bT,fR,iV] at c;rcases c with rfl |rfl
  ·obtain⟨_,_,_,rfl⟩:=p;rfl
  ·obtain⟨_,_,_,rfl⟩:=q;rfl) (by unfold maxLen;omega) al E bd
 unfold Oper.wp execOp;simp only[d,resolve,invoke,builtin,Jm,AG,xI,Jp,fG,ng,hs,e,r];exact h v' w' f l m
variable {U':World}
structure oY (U:World) (B:Nat) (u1 u2 fv tv:Value):Prop where
 tb:bw U B u1 u2
 nf:fv.ownBlock≠some B
 nt:tv.ownBlock≠some B
theorem oY.under {B:Nat} (h:oY U B u1 u2 fv tv) (b:db U U'):oY U' B u1 u2 fv tv:=⟨h.tb.aa b h.tb.lt,h.nf,h.nt⟩
theorem oY.pushF {B:Nat} {D:Value} (h:oY U B u1 u2 fv tv) (g:U.grownBy U' fv.ownBlock) (n:D.ownBlock=fv.ownBlock∨∀k,D.ownBlock=some k ->U.heap.size<=k):oY U' B u1 u2 D tv:=
 ⟨(g.block B h.tb.lt (fun e=>h.nf e.symm)).trans h.tb,fun e=>by
  rcases n with n |n
  ·exact h.nf (n▸e)
  ·have:=n B e;have:=h.tb.lt;omega,h.nt⟩
theorem oY.pushT {B:Nat} {w:Value} (h:oY U B u1 u2 fv tv) (g:U.grownBy U' tv.ownBlock) (n:w.ownBlock=tv.ownBlock∨∀k,w.ownBlock=some k ->U.heap.size<=k):oY U' B u1 u2 fv w:=
 ⟨(g.block B h.tb.lt (fun e=>h.nt e.symm)).trans h.tb,h.nf,fun e=>by
  rcases n with n |n
  ·exact h.nt (n▸e)
  ·have:=n B e;have:=h.tb.lt;omega⟩
theorem oY.off {B:Nat} (h:oY U B u1 u2 fv tv) (b j:Nat) (u:Value) (e:B≠b):oY (U.setCell ⟨b,j,none⟩ u) B u1 u2 fv tv:=⟨(eN U ⟨b,j,none⟩ u B e).trans h.tb,h.nf,h.nt⟩
theorem oY.new {W V:World} {b:Nat} {Q:List (Value×Value)} {P:List Tb} (h:mQ W b x fv tv nO oz l Q P V) (u1 u2:Value):oY (V.alloc (TC u1 u2)) V.heap.size u1 u2 nO oz:=
 ⟨bw.at rfl u1 u2,fun e=>by have:=(tM h.fo _ e).2;omega,fun e=>by have:=(h.own.lt _ e).2;omega⟩
def lU (b B:Nat) (fv tv u1 u2:Value) (c:Bool) (U:World):Prop:=(U.cell? ⟨B,0,none⟩=some u1/\U.cell? ⟨B,1,none⟩=some u2)/\(c=false ->U.cell? ⟨b,1,none⟩=some fv/\U.cell? ⟨b,2,none⟩=some tv)
theorem lU.of {W:World} {b B:Nat} {Q:List (Value×Value)} {P:List Tb} (h:mQ W b x fv tv nO oz l Q P U) (o:oY U B u1 u2 nO oz) (c:Bool):lU b B fv tv u1 u2 c U:=⟨⟨o.tb.c0,o.tb.c1⟩,fun _=>h.box.cells.2⟩
theorem lU.late {b B:Nat} (o:oY U B u1 u2 nO oz):lU b B fv tv u1 u2 true U:=⟨⟨o.tb.c0,o.tb.c1⟩,fun e=>by cases e⟩
theorem akU (a b c q:Kd) (ca cb cc cq:Nat) (V:List Vr) (L:List Kh) (R:List (List Fr)) (vars:Kh) (w:World) (h:iT w a b c V L R) (hN:oZ w b L) (hs:sk V L R) (hw:∀l∈R,fw l<=4200) (h0:aW V L R=0) (jd:aX L=0) (h1:1<=L.length) (dQ:∀l∈L,l.length<=140737488355328) (hq:aC w q vars) (eO:vars.length<=1000) (ym:∀U:World,iT U a b c V L R ->da 81 #[.agg #[.slice a V.length ca,.slice b L.length cb,.slice c R.length cc]] U fun e w'=>e=.returned (.int .i64 (aW V L R))/\db U w'):
  da 150 #[.agg #[.slice a V.length ca,.slice b L.length cb,.slice c R.length cc],.slice q vars.length cq] w fun e w'=>∃g d cd t' gD,e=.returned (.agg #[.slice (some ⟨g,0,none⟩) V.length V.length,.slice d ((jx L).filter fun v:Nat=>vars.contains (v:Int)).length cd,.slice t' ((jx L).filter fun v:Nat=>vars.contains (v:Int)).length gD])/\aC w' (some ⟨g,0,none⟩) (iL (ar V))/\aC w' d (iL ((jx L).filter fun v:Nat=>vars.contains (v:Int)))/\jf w' t' (((jx L).filter fun v:Nat=>vars.contains (v:Int)).map fun v=>(gU L v,gL V L R v))/\db w w'/\iR w.heap.size t' gD:=by
 have a8:=gC h0;have h8:L.length<=8:=by rw[a8.len];exact a8.n8
 have bb:=hid (fun (U:World) (hU:db w U)=>amX b cb L U (h.aa hU).pars dQ jd);have dt:=hid (fun (x:Kd) (cx:Nat) (U:World) (hx:dC U x (oJ L))=>apV x cx L U hx (yq jd) h1 h8);have ij:=hid (fun (U:World) (hU:db w U)=>Q8 a b c ca cb cc L.length R.length V U (h.aa hU).vars hs.vars.1);have ay:=hid (fun (v:Nat) (hv:v<V.length) (U:World) (hU:db w U)=>apf a b c ca cb cc v V L R U (h.aa hU) (hN.aa h.pars hU) hs hw h0 hv ym);have uF:Hid (∀(x:Int) (U:World),db w U ->da 98 #[.slice q vars.length cq,.int .i64 x] U fun e w'=>e=.returned (.bool (vars.contains x))/\db U w'):=fun x U hU=>Mn q cq vars x U (hq.aa hU) al;have wX:=(au w.heap.size w).alloc (ah _) (NC (.slice a V.length ca) (.slice b L.length cb) (.slice c R.length cc));have p4:=wX.alloc wX.size (.cells #[.slice none 0 0,.slice none 0 0,.slice none 0 0] 177);have Yz:=bW.at (w:=w) rfl (.slice a V.length ca) (.slice b L.length cb) (.slice c R.length cc);have Si:=Yz.aa ((au _ _).alloc (ah _) (.cells #[.slice none 0 0,.slice none 0 0,.slice none 0 0] 177)) Yz.lt;have kD:bY ((w.alloc (NC (.slice a V.length ca) (.slice b L.length cb) (.slice c R.length cc))).alloc (.cells #[.slice none 0 0,.slice none 0 0,.slice none 0 0] 177)) (w.heap.size+1) (.slice none 0 0) (.slice none 0 0) (.slice none 0 0):=bY.at (w:=w.alloc (NC (.slice a V.length ca) (.slice b L.length cb) (.slice c R.length cc))) aE _ _ _;have n1:=Si.cells.2.1
 obtain⟨F,Fw⟩:∃F:Nat ->Ki,∀k,((jx L).take k).filter (fun v:Nat=>vars.contains (v:Int))=F k:=⟨fun k=>((jx L).take k).filter (fun v:Nat=>vars.contains (v:Int)),fun _=>rfl⟩;obtain⟨TL,ui⟩:∃TL:Nat ->List Tb,∀k,(F k).map (fun v=>(gU L v,gL V L R v))=TL k:=⟨fun k=>(F k).map (fun v=>(gU L v,gL V L R v)),fun _=>rfl⟩;have Hu:(jx L).length=L.length:=by rw[Q4];simp
 have qj:Hid (∀i,i<L.length ->∃v:Nat,v<V.length/\(∀(d1:Kd) (U:World),aC U d1 (iL (jx L)) ->∃g ab,d1=some ⟨g,ab,none⟩/\g<U.heap.size/\U.cell? ⟨g,ab+i,none⟩=some (.int .i64 (v:Nat)))/\(vars.contains (v:Int)=true ->F (i+1)=F i++[v])/\(vars.contains (v:Int)=false ->F (i+1)=F i)):=fun i hi=>by
  have RT:i<(jx L).length:=al
  have Nq:i<(iL (jx L)).length:=by rw[bL];exact RT
  refine⟨(jx L)[i],?_,fun d1 U hU=>?_,fun h=>?_,fun h=>?_⟩
  ·rw[<- a8.len];exact VS (yq jd) h1 h8 (bP RT)
  ·obtain⟨g,ab,e,hg,hc⟩:=hU i Nq;refine⟨g,ab,e,hg,?_⟩;rw[hc];simp[iL]
  ·rw[<- Fw, <- Fw,im RT,xK,yX (p:=fun v:Nat=>vars.contains (v:Int)) h];rfl
  ·rw[<- Fw, <- Fw,im RT,xK,yY (p:=fun v:Nat=>vars.contains (v:Int)) (by rw[h];decide)];simp
 have Pm:Hid (F 0=[]/\TL 0=[]):=by show _/\_;rw[<- ui, <- Fw];exact⟨rfl,rfl⟩
 have jg:Hid (∀k,(F k).length<=8):=fun k=>by rw[<- Fw];exact aL (od ..) (by rw[eW];omega)
 have aQ:Hid (∀k,(TL k).length<=8):=fun k=>by rw[<- ui,cH];exact jg.o k
 have BW:Hid (∀(k v:Nat),F (k+1)=F k++[v] ->iL (F (k+1))=iL (F k)++[(v:Int)]/\TL (k+1)=TL k++[(gU L v,gL V L R v)]):=fun k v h=>by rw[<- ui, <- ui,h,eh,iL,eh];exact⟨rfl,rfl⟩
 have OL:Hid (∀k,F (k+1)=F k ->TL (k+1)=TL k):=fun k h=>by rw[<- ui, <- ui,h]
 have ax:Hid (F L.length=(jx L).filter (fun v:Nat=>vars.contains (v:Int))):=by show _=_;rw[<- Fw, <- Hu,iY]
 have vI:Hid (TL L.length=((jx L).filter (fun v:Nat=>vars.contains (v:Int))).map fun v=>(gU L v,gL V L R v)):=by show _=_;rw[<- ui,ax.o]
 have bk:(TL L.length).length=(F L.length).length:=by rw[<- ui,cH]
 rw[<- ax.o] at vI⊢;rw[<- vI.o];clear Fw ui ax vI Hu h hN hs hw hq ym wX Yz;go_enter Tryz.func150,Tryz.ntmps150;go_wp2_with fail
 generalize ((w.alloc (NC (.slice a V.length ca) (.slice b L.length cb) (.slice c R.length cc))).alloc (.cells #[.slice none 0 0,.slice none 0 0,.slice none 0 0] 177))=W0 at *;refine(bb.o W0 p4).af ?_;rintro e w1 ⟨G1,rfl,ke,an⟩;have aS:=p4.trans (an.af p4.size);have BG:=Si.aa an Si.lt;have aT:=kD.aa an kD.lt;have T1:=hid (dt.o _ L.length w1 ke);clear n1 Si kD p4 an ke;go_wp2_with fail
 refine T1.o.af ?_;rintro e w2 ⟨d1,bu,G2,rfl,qM,av⟩;have aj:=aS.trans (av.af aS.size);have zR:=BG.aa av BG.lt;have ak:=aT.aa av aT.lt;obtain⟨n0,n1,n2⟩:=zR.cells;have tk:=hid (ij.o w2 aj);clear aS BG aT av T1;go_wp2_with fail
 refine tk.o.af ?_;rintro e m ⟨G,rfl,hG,a6,ai⟩;have cS:=aj.trans (ai.af aj.size);have Yy:=zR.aa ai zR.lt;have mL:=ak.aa ai ak.lt;have NZ:=qM.aa ai;have bx:=ak.lt;have bz:=ai.size;have nN:=(au m.heap.size m).alloc (ah _) (.cells #[.slice (some ⟨G,0,none⟩) V.length V.length,.slice none 0 0,.slice none 0 0] 177);have lN:(m.alloc (.cells #[.slice (some ⟨G,0,none⟩) V.length V.length,.slice none 0 0,.slice none 0 0] 177)).heap.size=m.heap.size+1:=aE
 have fV:=hid (cS.trans (nN.af cS.size));have xA:=hid (Yy.aa nN Yy.lt);have gH:=hid (mL.alloc (.cells #[.slice (some ⟨G,0,none⟩) V.length V.length,.slice none 0 0,.slice none 0 0] 177));have I8:=hid (NZ.aa nN);have br:=hid (a6.ints.aa nN);have Ip:=a6.lt;have q8:Hid (mQ (m.alloc (.cells #[.slice (some ⟨G,0,none⟩) V.length V.length,.slice none 0 0,.slice none 0 0] 177)) m.heap.size (.slice (some ⟨G,0,none⟩) V.length V.length) (.slice none 0 0) (.slice none 0 0) (.slice none 0 0) (.slice none 0 0) (iL []) [] [] (m.alloc (.cells #[.slice (some ⟨G,0,none⟩) V.length V.length,.slice none 0 0,.slice none 0 0] 177))):=mQ.start (bY.at (w:=m) rfl (.slice (some ⟨G,0,none⟩) V.length V.length) (.slice none 0 0) (.slice none 0 0));have bo:=hid nN
 have a7:Hid (∀U:World,(m.alloc (.cells #[.slice (some ⟨G,0,none⟩) V.length V.length,.slice none 0 0,.slice none 0 0] 177)).grownBy U (some m.heap.size) ->aC U d1 (iL (jx L))):=fun U hU=>MQ I8.o (fun g ab e ae e2=>by
  obtain⟨g',o',e',ie,_⟩:=NZ 0 (by cases hl:iL (jx L) with |nil=>exact absurd hl ae |cons x l=>simp);rw[e] at e';cases e';cases e2;omega) hU
 have bp:Hid (∀U:World,(m.alloc (.cells #[.slice (some ⟨G,0,none⟩) V.length V.length,.slice none 0 0,.slice none 0 0] 177)).grownBy U (some m.heap.size) ->aC U (some ⟨G,0,none⟩) (iL (ar V))):=fun U hU=>MQ br.o (fun g ab e ae e2=>by
  cases e;cases e2;omega) hU
 clear aj cS zR Yy ak mL NZ qM nN a6 ai n0 n1 n2 tk ij bb dt h0 jd a8 dQ;go_wp2_with fail
 generalize (m.alloc (.cells #[.slice (some ⟨G,0,none⟩) V.length V.length,.slice none 0 0,.slice none 0 0] 177))=W4 at *;have ad:m.heap.size<W4.heap.size:=al
 go_loopw [32] (fun iv wr=>∃(i:Nat) (fv tv:Value) (Q:List (Value×Value)),i<=L.length/\iv=.int .i64 i/\Hid (mQ W4 m.heap.size (.slice (some ⟨G,0,none⟩) V.length V.length) fv tv fv tv (iL (F i)) Q (TL i) wr)) (fun iv _=>L.length - (intOf iv).toNat)
 case atStart=>exact⟨0,_,_,_,aU _,rfl,by rw[Pm.o.1,Pm.o.2];exact q8⟩
 case round=>
  obtain⟨i,fv,tv,Q,hi,rfl,H⟩:=hrel;have Dc:=H.o.fr.size;have HB:Hid (db w wr):=N3 fV.o H.o.fr al al;have Ec:Hid (db m wr):=N3 bo.o H.o.fr al al;have Lj:Hid (bW wr w.heap.size (.slice a V.length ca) (.slice b L.length cb) (.slice c R.length cc)):=(H.o.fr.block _ xA.o.lt (fun e=>by have:=ko e;omega)).trans xA.o;have tq:Hid (bY wr (w.heap.size+1) (.slice none 0 0) (.slice none 0 0) (.slice none 0 0)):=(H.o.fr.block _ gH.o.lt (fun e=>by have:=ko e;omega)).trans gH.o;by_cases bs:i<L.length
  ·obtain⟨v,hv,bm,a1,Yv⟩:=qj.o i bs;obtain⟨g,ab,rfl,hg,hc⟩:=bm d1 wr (a7.o wr H.o.fr);have HX:=hid (uF.o (v:Int) wr HB.o);have uD:=hid (ay.o v hv);have gi:=hid (fun h=>BW.o i v (a1 h));have nS:=hid Yv;clear bm a1 Yv gH xA tq;generalize vars.contains (v:Int)=bv at *;go_wp2_with fail
   refine HX.o.af ?_;rintro e w5 ⟨rfl,NF⟩;have lp:=hid (H.o.under NF);have I3:=hid (Lj.o.aa NF Lj.o.lt);have fh:=hid (HB.o.trans (NF.af HB.o.size));have bC:=NF.size;have vR:Hid (∀Z,fv.ownBlock=some Z ->Z<wr.heap.size):=fun Z hZ=>(tM H.o.fo Z hZ).2;have vQ:Hid (∀Z,tv.ownBlock=some Z ->Z<wr.heap.size):=fun Z hZ=>(H.o.own.lt Z hZ).2;clear hc HX H Lj HB NF Ec;cases bv with
   |false=>
    replace nS:=hid (nS.o rfl);replace OL:=hid (OL.o i nS.o);go_wp2;go_roundw
    case rel=>exact⟨i+1,fv,tv,Q,al,b5,by rw[nS.o,OL.o];exact lp⟩
    case measure=>simp[intOf];omega
   |true=>
    obtain⟨n0,n1,n2⟩:=I3.o.cells;have qo:=hid (uD.o w5 fh.o);replace gi:=hid (gi.o rfl);clear uD nS fh ay uF OL BW;go_wp2_with fail
    refine qo.o.af ?_;rintro e w6 ⟨⟨u1,u2,rfl,Bp,Hv⟩,je⟩;have Aq:=hid Bp.slices;have bD:=je.size;have q7:Hid (∀Z,Z<wr.heap.size ->ig Z (gU L v,gL V L R v) (u1,u2)):=fun Z hZ=>Hv Z al;have I4:=hid (lp.o.under je);have bf:=hid Bp;obtain⟨t,S,A,rfl⟩:=Bp.slices.1;obtain⟨u,z,T,rfl⟩:=Bp.slices.2;clear Bp Hv qo n0 n1 n2 I3 lp;go_upto_region 9 with (fail)
    have BH:=(au w6.heap.size w6).alloc (ah _) (TC (.slice t S A) (.slice u z T));have O:=hid (oY.new I4.o (.slice t S A) (.slice u z T));have H:=hid (I4.o.under BH);have n:=hid (bf.o.aa BH);(have ae:w6.heap.size≠m.heap.size:=al);clear BH I4 bf je;generalize ao4:w6.heap.size=Ji at *;obtain⟨W8,ug⟩:∃W8,w6.alloc (TC (.slice t S A) (.slice u z T))=W8:=⟨_,rfl⟩;have bj:w6.alloc (.cells #[.slice t S A,.slice u z T] 38)=W8:=ug;rw[ug] at O H n;simp only[bj];clear ug bj ao4;have zV:db W8 W8.drew:=(au W8.heap.size W8).drew;replace O:=hid (O.o.under zV);replace H:=hid (H.o.under zV);replace n:=hid (n.o.aa zV);clear zV;obtain⟨D5,Dm⟩:∃D5,W8.drew=D5:=⟨_,rfl⟩;rw[Dm] at O H n;refine aaG 11 (lU m.heap.size Ji fv tv (.slice t S A) (.slice u z T)) ao (by rw[Dm];exact lU.of H.o O.o false) (fun f=>?_);rw[Dm] at f⊢;clear Dm;(try simp only[gE,aP]);refine pL (i:=0) (oi:=_) (v:=.pointer (some ⟨m.heap.size,1,none⟩)) (b:=false) rfl ao ao ao bd (fun _ _ _ h=>h) (Or.inl ⟨by rfl,?_⟩) ao c6 ?_
    ·intro u' aN;go_simp
    (try simp only[gE,aP]);refine UC (i:=1) (oi:=_) (v:=fv) rfl ao ao ao bd rfl ao (fun _ _ _ h=>h) (Or.inl ⟨by rfl,?_⟩) ao c6 ?_
    ·intro u' aN;(try simp only[gE]);obtain⟨⟨_,_⟩,Sh⟩:=aN;obtain⟨Sg,Sd⟩:=Sh rfl;go_simp
    (try simp only[gE,aP]);refine pL (i:=2) (oi:=_) (v:=.int .i64 (v:Nat)) (b:=false) rfl ao ao ao bd (fun _ _ _ h=>h) (Or.inl ⟨by rfl,?_⟩) ao c6 ?_
    ·intro u' aN;go_simp
    (try simp only[gE,aP]);refine pL (i:=5) (oi:=_) (v:=.pointer (some ⟨m.heap.size,2,none⟩)) (b:=false) rfl ao ao ao bd (fun _ _ _ h=>h) (Or.inl ⟨by rfl,?_⟩) ao c6 ?_
    ·intro u' aN;go_simp
    (try simp only[gE,aP]);refine UC (i:=6) (oi:=_) (v:=tv) rfl ao ao ao bd rfl ao (fun _ _ _ h=>h) (Or.inl ⟨by rfl,?_⟩) ao c6 ?_
    ·intro u' aN;(try simp only[gE]);obtain⟨⟨_,_⟩,Sh⟩:=aN;obtain⟨Sg,Sd⟩:=Sh rfl;go_simp
    (try simp only[gE,aP]);refine pL (i:=7) (oi:=_) (v:=.agg #[.slice t S A,.slice u z T]) (b:=false) rfl ao ao ao bd (fun _ _ _ h=>h) (Or.inl ⟨by rfl,?_⟩) ao c6 ?_
    ·intro u' aN;(try simp only[gE]);obtain⟨_,⟨Yv,a1⟩,_⟩:=aN;go_simp
    (try simp only[gE,aP]);refine pM (rs:=[3,8]) ao aE (eR.cons (b:=false) rfl ao ?_ (eR.cons (b:=false) rfl ao ?_ (eR.nil)))
    ·intro o K;go_simp;have s:=(au D5.heap.size D5).alloc (ah _) (.cells #[.int .i64 (v:Nat)] 3);have l5:=hid (bt D5 3 (.int .i64 (v:Nat))).cell;replace H:=hid (H.o.under s);replace O:=hid (O.o.under s);replace n:=hid (n.o.aa s);clear f;refine K.o _ _ (lU.of H.o O.o false) (fun f=>?_);clear K o s;obtain⟨ga,BC⟩:∃ga,D5.heap.size=ga:=⟨_,rfl⟩;obtain⟨ua,nI⟩:∃ua,D5.alloc (.cells #[.int .i64 (v:Nat)] 3)=ua:=⟨_,rfl⟩;rw[BC,nI] at l5;rw[nI] at H O n;simp only[nI] at f⊢;simp only[BC];clear nI BC;(try simp only[gE,aP]);refine pM (rs:=[4,8]) ao aE (eR.cons (b:=false) rfl ao ?_ (eR.cons (b:=false) rfl ao ?_ (eR.nil)))
     ·intro o K;rw[aw (by rfl)];refine UB _ _ rfl W4.heap.size fv (iL (F i)) (v:Int) rfl H.o.fo ga rfl l5.o (by rw[bL];have:=jg.o i;omega) H.o.fr.size ?_;intro FE w9 tW X Y
      have Gb:Hid (∀Z,FE.ownBlock=some Z ->ig Z (gU L v,gL V L R v) (.slice t S A,.slice u z T)):=fun Z hR=>by
       rcases Y with hn |hn
       ·exact q7.o Z (vR.o Z (by rw[<- hn];exact hR))
       ·exact n.o.lt (hn Z hR)
      replace n:=hid (n.o.keepR (fun r hr=>q7.o r (vR.o r hr)) X);replace O:=hid (O.o.pushF X Y);replace H:=hid (H.o.pushF ad tW X Y)
      obtain⟨P,D,E,rfl⟩:∃P D E,FE=Value.slice D P E:=by
       obtain⟨D,E,e⟩:=xT tW;exact⟨_,D,E,e⟩
      clear f;refine K.o _ _ (lU.of H.o O.o false) (fun f=>?_);clear K o tW X Y l5;(try simp only[gE,aP]);refine pL (i:=10) (oi:=_) (v:=.pointer (some ⟨m.heap.size,1,none⟩)) (b:=false) rfl ao ao ao bd (fun _ _ _ h=>h) (Or.inl ⟨by rfl,?_⟩) ao c6 ?_
      ·intro u' aN;go_simp
      (try simp only[gE,aP]);refine pM (rs:=[8]) ao aE (eR.cons (b:=false) rfl ao ?_ (eR.nil))
      ·intro o K;go_simp;have s:=(au w9.heap.size w9).alloc (ah _) (TC (.slice t S A) (.slice u z T));have I:=hid (oY.new H.o (.slice t S A) (.slice u z T));replace H:=hid (H.o.under s);replace O:=hid (O.o.under s);replace n:=hid (n.o.aa s);clear f;refine K.o _ _ (lU.of H.o O.o false) (fun f=>?_);clear K o s;obtain⟨gt,mI⟩:∃gt,w9.heap.size=gt:=⟨_,rfl⟩;obtain⟨ut,pS⟩:∃ut,w9.alloc (TC (.slice t S A) (.slice u z T))=ut:=⟨_,rfl⟩;have EW:w9.alloc (.cells #[.slice t S A,.slice u z T] 38)=ut:=pS;rw[mI,pS] at I;rw[pS] at H O n;simp only[EW] at f⊢;simp only[mI];clear pS EW mI;(try simp only[gE,aP]);refine pM (rs:=[9]) ao aE (eR.cons (b:=false) rfl ao ?_ (eR.nil))
       ·intro o K;rw[aw (by rfl)];refine UA _ _ rfl W4.heap.size tv (TL i).length (fH Q) (.slice t S A) (.slice u z T) rfl H.o.own.own gt rfl I.o.tb.c0 I.o.tb.c1 Aq.o.1 Aq.o.2 (by have:=aQ.o i;omega) H.o.fr.size ?_;intro eI dh gZ gM jb;replace O:=hid (O.o.pushT gM jb);replace H:=hid (H.o.pushT ad n.o (fun Z hZ=>q7.o Z (vQ.o Z hZ)) Gb.o (fun Z hZ=>q7.o Z al) gZ gM jb);obtain⟨J,M,rfl⟩:=xT gZ;clear f;refine K.o _ _ (lU.of H.o O.o false) (fun f=>?_);clear K o gZ gM jb I n Gb;have c1:=H.o.box.cells.2.1;have f1:=H.o.box.fz 1;refine pM (rs:=[11]) ao aE (eR.cons (b:=true) rfl ao ?_ (eR.nil))
        ·intro o K;go_simp;replace H:=hid (H.o.set1 ad (.slice D P E));replace O:=hid (O.o.off m.heap.size 1 (.slice D P E) ae);clear f;refine K.o _ _ (lU.late O.o) (fun f=>?_);clear K o c1 f1;(try simp only[gE,aP]);refine pL (i:=12) (oi:=_) (v:=.pointer (some ⟨m.heap.size,2,none⟩)) (b:=true) rfl ao ao ao bd (fun _ _ _ h=>h) (Or.inl ⟨by rfl,?_⟩) ao c6 ?_
         ·intro u' aN;go_simp
         have c2:=H.o.box.cells.2.2;have f2:=H.o.box.fz 2;refine pM (rs:=[13]) ao aE (eR.cons (b:=true) rfl ao ?_ (eR.nil))
         ·intro o K;go_simp;replace H:=hid (H.o.set2 ad (.slice J ((TL i).length+1) M));replace O:=hid (O.o.off m.heap.size 2 (.slice J ((TL i).length+1) M) ae);clear f;refine K.o _ _ (lU.late O.o) (fun f=>?_);clear K o c2 f2;(try simp only[gE,aP]);refine Qi ao ?_ _;clear f O;generalize (((dh.setCell ⟨m.heap.size,1,none⟩ (.slice D P E))).setCell ⟨m.heap.size,2,none⟩ (.slice J ((TL i).length+1) M))=xO at *;go_wp2;go_roundw
          case rel=>exact⟨i+1,_,_,_,al,b5,by rw[gi.o.1,gi.o.2];exact H⟩
          case measure=>simp[intOf];omega
     ·intro o K;go_simp;have s:=(au ua.heap.size ua).alloc (ah _) (TC (.slice t S A) (.slice u z T));have I:=hid (oY.new H.o (.slice t S A) (.slice u z T));replace H:=hid (H.o.under s);replace O:=hid (O.o.under s);replace n:=hid (n.o.aa s);replace l5:=hid (((s.cell (p:=⟨ga,0,none⟩) (World.block_lt_of_cell? _ _ l5.o))).trans l5.o);clear f;refine K.o _ _ (lU.of H.o O.o false) (fun f=>?_);clear K o s;obtain⟨gt,mI⟩:∃gt,ua.heap.size=gt:=⟨_,rfl⟩;obtain⟨ut,pS⟩:∃ut,ua.alloc (TC (.slice t S A) (.slice u z T))=ut:=⟨_,rfl⟩;have EW:ua.alloc (.cells #[.slice t S A,.slice u z T] 38)=ut:=pS;rw[mI,pS] at I;rw[pS] at H O n l5;simp only[EW] at f⊢;simp only[mI];clear pS EW mI;(try simp only[gE,aP]);refine pM (rs:=[4]) ao aE (eR.cons (b:=false) rfl ao ?_ (eR.nil))
      ·intro o K;rw[aw (by rfl)];refine UB _ _ rfl W4.heap.size fv (iL (F i)) (v:Int) rfl H.o.fo ga rfl l5.o (by rw[bL];have:=jg.o i;omega) H.o.fr.size ?_;intro FE w9 tW X Y
       have Gb:Hid (∀Z,FE.ownBlock=some Z ->ig Z (gU L v,gL V L R v) (.slice t S A,.slice u z T)):=fun Z hR=>by
        rcases Y with hn |hn
        ·exact q7.o Z (vR.o Z (by rw[<- hn];exact hR))
        ·exact n.o.lt (hn Z hR)
       replace n:=hid (n.o.keepR (fun r hr=>q7.o r (vR.o r hr)) X);replace I:=hid (I.o.pushF X Y);replace O:=hid (O.o.pushF X Y);replace H:=hid (H.o.pushF ad tW X Y)
       obtain⟨P,D,E,rfl⟩:∃P D E,FE=Value.slice D P E:=by
        obtain⟨D,E,e⟩:=xT tW;exact⟨_,D,E,e⟩
       clear f;refine K.o _ _ (lU.of H.o O.o false) (fun f=>?_);clear K o tW X Y l5;(try simp only[gE,aP]);refine pL (i:=10) (oi:=_) (v:=.pointer (some ⟨m.heap.size,1,none⟩)) (b:=false) rfl ao ao ao bd (fun _ _ _ h=>h) (Or.inl ⟨by rfl,?_⟩) ao c6 ?_
       ·intro u' aN;go_simp
       (try simp only[gE,aP]);refine pM (rs:=[9]) ao aE (eR.cons (b:=false) rfl ao ?_ (eR.nil))
       ·intro o K;rw[aw (by rfl)];refine UA _ _ rfl W4.heap.size tv (TL i).length (fH Q) (.slice t S A) (.slice u z T) rfl H.o.own.own gt rfl I.o.tb.c0 I.o.tb.c1 Aq.o.1 Aq.o.2 (by have:=aQ.o i;omega) H.o.fr.size ?_;intro eI dh gZ gM jb;replace O:=hid (O.o.pushT gM jb);replace H:=hid (H.o.pushT ad n.o (fun Z hZ=>q7.o Z (vQ.o Z hZ)) Gb.o (fun Z hZ=>q7.o Z al) gZ gM jb);obtain⟨J,M,rfl⟩:=xT gZ;clear f;refine K.o _ _ (lU.of H.o O.o false) (fun f=>?_);clear K o gZ gM jb I n Gb;have c1:=H.o.box.cells.2.1;have f1:=H.o.box.fz 1;refine pM (rs:=[11]) ao aE (eR.cons (b:=true) rfl ao ?_ (eR.nil))
        ·intro o K;go_simp;replace H:=hid (H.o.set1 ad (.slice D P E));replace O:=hid (O.o.off m.heap.size 1 (.slice D P E) ae);clear f;refine K.o _ _ (lU.late O.o) (fun f=>?_);clear K o c1 f1;(try simp only[gE,aP]);refine pL (i:=12) (oi:=_) (v:=.pointer (some ⟨m.heap.size,2,none⟩)) (b:=true) rfl ao ao ao bd (fun _ _ _ h=>h) (Or.inl ⟨by rfl,?_⟩) ao c6 ?_
         ·intro u' aN;go_simp
         have c2:=H.o.box.cells.2.2;have f2:=H.o.box.fz 2;refine pM (rs:=[13]) ao aE (eR.cons (b:=true) rfl ao ?_ (eR.nil))
         ·intro o K;go_simp;replace H:=hid (H.o.set2 ad (.slice J ((TL i).length+1) M));replace O:=hid (O.o.off m.heap.size 2 (.slice J ((TL i).length+1) M) ae);clear f;refine K.o _ _ (lU.late O.o) (fun f=>?_);clear K o c2 f2;(try simp only[gE,aP]);refine Qi ao ?_ _;clear f O;generalize (((dh.setCell ⟨m.heap.size,1,none⟩ (.slice D P E))).setCell ⟨m.heap.size,2,none⟩ (.slice J ((TL i).length+1) M))=xO at *;go_wp2;go_roundw
          case rel=>exact⟨i+1,_,_,_,al,b5,by rw[gi.o.1,gi.o.2];exact H⟩
          case measure=>simp[intOf];omega
    ·intro o K;go_simp;have s:=(au D5.heap.size D5).alloc (ah _) (TC (.slice t S A) (.slice u z T));have I:=hid (oY.new H.o (.slice t S A) (.slice u z T));replace H:=hid (H.o.under s);replace O:=hid (O.o.under s);replace n:=hid (n.o.aa s);clear f;refine K.o _ _ (lU.of H.o O.o false) (fun f=>?_);clear K o s;obtain⟨gt,mI⟩:∃gt,D5.heap.size=gt:=⟨_,rfl⟩;obtain⟨ut,pS⟩:∃ut,D5.alloc (TC (.slice t S A) (.slice u z T))=ut:=⟨_,rfl⟩;have EW:D5.alloc (.cells #[.slice t S A,.slice u z T] 38)=ut:=pS;rw[mI,pS] at I;rw[pS] at H O n;simp only[EW] at f⊢;simp only[mI];clear pS EW mI;(try simp only[gE,aP]);refine pM (rs:=[3]) ao aE (eR.cons (b:=false) rfl ao ?_ (eR.nil))
     ·intro o K;go_simp;have s:=(au ut.heap.size ut).alloc (ah _) (.cells #[.int .i64 (v:Nat)] 3);have l5:=hid (bt ut 3 (.int .i64 (v:Nat))).cell;replace H:=hid (H.o.under s);replace O:=hid (O.o.under s);replace I:=hid (I.o.under s);replace n:=hid (n.o.aa s);clear f;refine K.o _ _ (lU.of H.o O.o false) (fun f=>?_);clear K o s;obtain⟨ga,BC⟩:∃ga,ut.heap.size=ga:=⟨_,rfl⟩;obtain⟨ua,nI⟩:∃ua,ut.alloc (.cells #[.int .i64 (v:Nat)] 3)=ua:=⟨_,rfl⟩;rw[BC,nI] at l5;rw[nI] at H O n I;simp only[nI] at f⊢;simp only[BC];clear nI BC;(try simp only[gE,aP]);refine pM (rs:=[4]) ao aE (eR.cons (b:=false) rfl ao ?_ (eR.nil))
      ·intro o K;rw[aw (by rfl)];refine UB _ _ rfl W4.heap.size fv (iL (F i)) (v:Int) rfl H.o.fo ga rfl l5.o (by rw[bL];have:=jg.o i;omega) H.o.fr.size ?_;intro FE w9 tW X Y
       have Gb:Hid (∀Z,FE.ownBlock=some Z ->ig Z (gU L v,gL V L R v) (.slice t S A,.slice u z T)):=fun Z hR=>by
        rcases Y with hn |hn
        ·exact q7.o Z (vR.o Z (by rw[<- hn];exact hR))
        ·exact n.o.lt (hn Z hR)
       replace n:=hid (n.o.keepR (fun r hr=>q7.o r (vR.o r hr)) X);replace I:=hid (I.o.pushF X Y);replace O:=hid (O.o.pushF X Y);replace H:=hid (H.o.pushF ad tW X Y)
       obtain⟨P,D,E,rfl⟩:∃P D E,FE=Value.slice D P E:=by
        obtain⟨D,E,e⟩:=xT tW;exact⟨_,D,E,e⟩
       clear f;refine K.o _ _ (lU.of H.o O.o false) (fun f=>?_);clear K o tW X Y l5;(try simp only[gE,aP]);refine pL (i:=10) (oi:=_) (v:=.pointer (some ⟨m.heap.size,1,none⟩)) (b:=false) rfl ao ao ao bd (fun _ _ _ h=>h) (Or.inl ⟨by rfl,?_⟩) ao c6 ?_
       ·intro u' aN;go_simp
       (try simp only[gE,aP]);refine pM (rs:=[9]) ao aE (eR.cons (b:=false) rfl ao ?_ (eR.nil))
       ·intro o K;rw[aw (by rfl)];refine UA _ _ rfl W4.heap.size tv (TL i).length (fH Q) (.slice t S A) (.slice u z T) rfl H.o.own.own gt rfl I.o.tb.c0 I.o.tb.c1 Aq.o.1 Aq.o.2 (by have:=aQ.o i;omega) H.o.fr.size ?_;intro eI dh gZ gM jb;replace O:=hid (O.o.pushT gM jb);replace H:=hid (H.o.pushT ad n.o (fun Z hZ=>q7.o Z (vQ.o Z hZ)) Gb.o (fun Z hZ=>q7.o Z al) gZ gM jb);obtain⟨J,M,rfl⟩:=xT gZ;clear f;refine K.o _ _ (lU.of H.o O.o false) (fun f=>?_);clear K o gZ gM jb I n Gb;have c1:=H.o.box.cells.2.1;have f1:=H.o.box.fz 1;refine pM (rs:=[11]) ao aE (eR.cons (b:=true) rfl ao ?_ (eR.nil))
        ·intro o K;go_simp;replace H:=hid (H.o.set1 ad (.slice D P E));replace O:=hid (O.o.off m.heap.size 1 (.slice D P E) ae);clear f;refine K.o _ _ (lU.late O.o) (fun f=>?_);clear K o c1 f1;(try simp only[gE,aP]);refine pL (i:=12) (oi:=_) (v:=.pointer (some ⟨m.heap.size,2,none⟩)) (b:=true) rfl ao ao ao bd (fun _ _ _ h=>h) (Or.inl ⟨by rfl,?_⟩) ao c6 ?_
         ·intro u' aN;go_simp
         have c2:=H.o.box.cells.2.2;have f2:=H.o.box.fz 2;refine pM (rs:=[13]) ao aE (eR.cons (b:=true) rfl ao ?_ (eR.nil))
         ·intro o K;go_simp;replace H:=hid (H.o.set2 ad (.slice J ((TL i).length+1) M));replace O:=hid (O.o.off m.heap.size 2 (.slice J ((TL i).length+1) M) ae);clear f;refine K.o _ _ (lU.late O.o) (fun f=>?_);clear K o c2 f2;(try simp only[gE,aP]);refine Qi ao ?_ _;clear f O;generalize (((dh.setCell ⟨m.heap.size,1,none⟩ (.slice D P E))).setCell ⟨m.heap.size,2,none⟩ (.slice J ((TL i).length+1) M))=xO at *;go_wp2;go_roundw
          case rel=>exact⟨i+1,_,_,_,al,b5,by rw[gi.o.1,gi.o.2];exact H⟩
          case measure=>simp[intOf];omega
  ·obtain rfl:i=L.length:=al
   obtain⟨d,cd,rfl,bg⟩:=H.o.fo.ints;obtain⟨J,M,rfl,EZ⟩:=H.o.own.row;obtain⟨x0,t,u⟩:=H.o.box.cells;obtain⟨r0,r1,r2⟩:=tq.o.cells;have QF:=tq.o.fz 0;have QE:=tq.o.fz 1;have QD:=tq.o.fz 2;have e1:(iL (F L.length)).length=(F L.length).length:=bL _;rw[e1] at H t;rw[bk] at H u;have DM:=hid (tq.o.put (.slice (some ⟨G,0,none⟩) V.length V.length) (.slice d (F L.length).length cd) (.slice J (F L.length).length M));have rp:=hid (fL HB.o (show w.heap.size<=w.heap.size+1 by omega) (.slice (some ⟨G,0,none⟩) V.length V.length) (.slice d (F L.length).length cd) (.slice J (F L.length).length M))
   have iy:Value.ownBlock (.slice J (F L.length).length M)≠some (w.heap.size+1):=fun e=>by
    have:=(H.o.own.lt _ e).1;omega
   have Fv:=((H.o.own.off (g:=w.heap.size+1) (j:=0) (.slice (some ⟨G,0,none⟩) V.length V.length) (H.o.far _ al) iy).off (g:=w.heap.size+1) (j:=1) (.slice d (F L.length).length cd) (H.o.far _ al) iy).off (g:=w.heap.size+1) (j:=2) (.slice J (F L.length).length M) (H.o.far _ al) iy;obtain⟨bN,bO,e2,EY⟩:=Fv.row;rw[bk] at e2;injection e2 with e3 e4 e5;subst e3 e5;clear e4;have OM:=hid EY
   have uA:∀g ab,d=some ⟨g,ab,none⟩ ->iL (F L.length)≠[] ->g≠w.heap.size+1:=fun g ab e _ e2=>by
    subst e;have:=(tM H.o.fo g rfl).1;omega
   have Ci:=hid (((bg.off (g:=w.heap.size+1) (j:=0) (y:=.slice (some ⟨G,0,none⟩) V.length V.length) uA).off (g:=w.heap.size+1) (j:=1) (y:=.slice d (F L.length).length cd) uA).off (g:=w.heap.size+1) (j:=2) (y:=.slice J (F L.length).length M) uA)
   have D6:∀g ab,(some ⟨G,0,none⟩:Kd)=some ⟨g,ab,none⟩ ->iL (ar V)≠[] ->g≠w.heap.size+1:=fun g ab e _ e2=>by
    cases e;omega
   have TP:=hid ((((bp.o wr H.o.fr).off (g:=w.heap.size+1) (j:=0) (y:=.slice (some ⟨G,0,none⟩) V.length V.length) D6).off (g:=w.heap.size+1) (j:=1) (y:=.slice d (F L.length).length cd) D6).off (g:=w.heap.size+1) (j:=2) (y:=.slice J (F L.length).length M) D6);have cZ:=hid ((VH H.o.own.own).up (show w.heap.size<=W4.heap.size by omega));clear Fv EY EZ bg D6 uA iy H HB Ec Lj tq a7 qj ay uF BW OL;go_wp2;refine cP (DM.o.result1 rfl _ rfl) rfl ?_;exact⟨G,d,cd,J,M,rfl,TP.o,Ci.o,OM.o,rp.o,cZ.o⟩
theorem akV (a b c q:Kd) (ca cb cc i:Nat) (V:List Vr) (L:List Kh) (R:List (List Fr)) (vars:Kh) (w:World) (h:iT w a b c V L R) (j:oZ w b L) (hs:sk V L R) (m:∀l∈R,fw l<=4200) (h0:aW V L R=0) (n:aX L=0) (h1:1<=L.length) (Q:∀l∈L,l.length<=140737488355328) (k:aC w q vars) (O:vars.length<=1000) (y:∀U:World,iT U a b c V L R ->da 81 #[.agg #[.slice a V.length ca,.slice b L.length cb,.slice c R.length cc]] U fun e w'=>e=.returned (.int .i64 (aW V L R))/\db U w'):
  da 150 #[.agg #[.slice a V.length ca,.slice b L.length cb,.slice c R.length cc],.slice q vars.length i] w fun e w'=>∃g d f t D,e=.returned (.agg #[.slice (some ⟨g,0,none⟩) V.length V.length,.slice d ((jx L).filter fun v:Nat=>vars.contains (v:Int)).length f,.slice t ((jx L).filter fun v:Nat=>vars.contains (v:Int)).length D])/\aC w' (some ⟨g,0,none⟩) (iL (ar V))/\aC w' d (iL ((jx L).filter fun v:Nat=>vars.contains (v:Int)))/\jf w' t (((jx L).filter fun v:Nat=>vars.contains (v:Int)).map fun v=>(gU L v,gL V L R v))/\db w w':=
 (akU a b c q ca cb cc i V L R vars w h j hs m h0 n h1 Q k O y).af fun _ _ ⟨g,d,f,t,D,e,o,p,r,s,_⟩=>⟨g,d,f,t,D,e,o,p,r,s⟩
theorem ajh {B:Nat} (d:Kd) (n c:Nat) (l:Kh) (w:World) (h:bJ w B (.slice d n c) l) (r:B<=w.heap.size) (E:l.length<=100000):
  da 133 #[.slice d n c] w fun e w'=>e=.returned (.tuple #[])/\n=l.length/\aC w' d (l.mergeSort fun x y=>decide (x<=y))/\Below B w w':=by
 rcases h.cases with ⟨e,rfl⟩ |⟨g,cap,e,v,a,F,I,f⟩
 ·cases e;refine(Tryz.slices_Sort_int_none none 0 w).af ?_;rintro e u ⟨rfl,rfl⟩;exact⟨rfl,rfl,fun k t=>absurd t aE,au _ _⟩
 ·cases e;refine(Tryz.slices_Sort_int g 0 c l w f a al).af ?_;have D:(l.mergeSort fun x y=>decide (x<=y)).length=l.length:=LW _;generalize (l.mergeSort fun x y=>decide (x<=y))=s at *;rintro e u ⟨rfl,q,o,rfl⟩;have A:s.toArray.size=l.toArray.size:=by simp;exact D
  have z:Holds (Value.int .i64) (grow (putRow (Value.int .i64) (Sort.ahead w q) g 0 s.toArray) o) g 0 s.toArray:=fun j b=>by
   obtain⟨m,p⟩:=holds_putRow (Value.int .i64) (Sort.ahead w q) g 0 _ s.toArray f A j b;(have i:g<(putRow (Value.int .i64) (Sort.ahead w q) g 0 s.toArray).heap.size:=by rw[size_putRow];exact a);refine⟨(cell?_grow _ _ _ i).trans m,?_⟩;rw[frozen?_grow _ _ _ i];exact p
  have H:g<(grow (putRow (Value.int .i64) (Sort.ahead w q) g 0 s.toArray) o).heap.size:=aO a (LD (w:=w) (g:=g) (n:=q) (os:=o) s.toArray).size;exact⟨rfl,rfl,E6 z H (fun j b=>⟨by simpa using b,aE⟩),S8 s.toArray (au _ _) r v⟩
theorem ajd (d:∀x∈l,0<=x/\x<n) (f:l.Nodup):Up (l.mergeSort fun x y=>decide (x<=y)) n:=by
 have hs:(l.mergeSort fun x y=>decide (x<=y)).Pairwise (fun x y=>decide (x<=y)=true):=Uo (fun a b c=>by simp;omega) (fun a b=>by simp;omega) _;have p:=P5 l fun x y=>decide (x<=y);have e:(l.mergeSort fun x y=>decide (x<=y)).Nodup:=p.nodup_iff.2 f;refine jM.2 ⟨fun x g=>d x (p.mem_iff.1 g),(hs.and e).imp fun {a b} h=>?_⟩;have i:=mg h.1;have j:=h.2;omega
def wZ (q:Kh) (l:List (Nat×Nat)):Kh:=q++(zF l).map (·.1)
def Ac (q:Kh) (l:List (Nat×Nat)):Kh:=(wZ q l).mergeSort fun x y=>decide (x<=y)
theorem agW {q:Kh} {l:List (Nat×Nat)} (v:Nat):v∈ag (Ac q l)↔v∈ag q∨v∈l.map (·.1):=by
 have c:=P5 (wZ q l) fun x y=>decide (x<=y)
 have m:v∈ag (Ac q l)↔∃x∈wZ q l,x.toNat=v:=by
  rw[Ac,ag,aH];exact⟨fun ⟨x,h,e⟩=>⟨x,c.mem_iff.1 h,e⟩,fun ⟨x,h,e⟩=>⟨x,c.mem_iff.2 h,e⟩⟩
 rw[m];constructor
 ·rintro⟨x,a,rfl⟩;rcases aZ.1 a with a |a
  ·exact .inl (aH.2 ⟨x,a,rfl⟩)
  ·obtain⟨p,d,rfl⟩:=aH.1 a;obtain⟨r,b,rfl⟩:=aH.1 d;exact .inr (aH.2 ⟨r,b,aE⟩)
 ·rintro(h |h)
  ·obtain⟨x,a,e⟩:=aH.1 h;exact⟨x,aZ.2 (.inl a),e⟩
  ·obtain⟨r,b,rfl⟩:=aH.1 h;exact⟨(r.1:Int),aZ.2 (.inr (aH.2 ⟨_,aH.2 ⟨r,b,rfl⟩,rfl⟩)),aE⟩
theorem arJ {q:Kh} {l:List (Nat×Nat)} (i:Up q n) (g:eV S n l) (j:∀v∈ag q,¬v∈l.map (·.1)):Up (Ac q l) n:=by
 refine ajd (fun x c=>?_) ?_
 ·rcases aZ.1 c with c |c
  ·exact GR i x c
  ·obtain⟨p,f,rfl⟩:=aH.1 c;obtain⟨r,d,rfl⟩:=aH.1 f;have:=g.lt r d;show 0<=(r.1:Int)/\(r.1:Int)<n;omega
 ·refine lC.2 ⟨?_,?_,fun x c y k e=>?_⟩
  ·exact(jM.1 i).2.imp fun h=>al
  ·rw[zF,yT];refine(AO.2 ?_);exact(AO.1 g.nd).imp fun {a b} h e=>h (by have m:(a.1:Int)=(b.1:Int):=e;omega)
  ·subst e;obtain⟨p,f,rfl⟩:=aH.1 k;obtain⟨r,d,rfl⟩:=aH.1 f;exact j r.1 (aH.2 ⟨_,c,aE⟩) (aH.2 ⟨r,d,rfl⟩)
theorem eV.len {l:List (Nat×Nat)} (h:eV S n l):l.length<=n:=by
 have a:=(MG h.nd (n:=n) fun v c=>by
  obtain⟨p,b,rfl⟩:=aH.1 c;exact h.lt p b).length_eq
 have d:((List.range n).filter fun v=>(l.map (·.1)).contains v).length<=n:=aL (od ..) aE;rw[cH] at a;omega
theorem ar2 (b d:Kd) (cb c:Nat) (L:List Kh) (A:Kh) (w:World) (h:dC w b L) (o:∀l∈L,l.length<=140737488355328) (j:aC w d A) (m:aX L=0) (u:Up A L.length) (v:A.length<=1000):
  da 78 #[.slice b L.length cb,.slice d A.length c] w fun e w'=>∃d c,e=.returned (.tuple #[.slice d (eY (cX (aF L) (ag A) L.length)).length c,.int .i64 0])/\aC w' d (eY (cX (aF L) (ag A) L.length))/\db w w':=
 (YX b d cb c L A w h o j al).af fun e w' n=>by
  rcases n with ⟨⟨f,_⟩ |⟨_,a,_⟩ |⟨_,_,d,c,g,i⟩,k⟩
  ·exact absurd m f
  ·rw[aa2 u] at a;cases a
  ·exact⟨d,c,g,i,k⟩
theorem afZ (S:Ki) (p:Nat×Nat):∀(l:List (Nat×Nat)) (P:List Tb),p6 S (l++[p]) P=(p6 S l P).map (lR S p.1 p.2)
 |[],_=>rfl
 |x::l,P=>by rw[fS,p6,p6,afZ S p l]
theorem aek (p:Nat×Nat):∀(l:List (Nat×Nat)) (f:Ki),lM f (l++[p])=(lM f l).filter fun u=>!(u==p.1)
 |[],_=>rfl
 |x::l,f=>by rw[fS,lM,lM,aek p l]
theorem anA (f:Ki) (v:Nat):cI (iL f) (v:Int)=iL (f.filter fun u=>!(u==v)):=by
 rw[cI,iL,P8];congr 1
 refine P9 fun x _=>?_;show (!((x:Int)==(v:Int)))=!(x==v);congr 1
 rw[xL,xG,xG];omega
def p5 (ws:Ki) (l:List (Nat×Nat)) (i:Nat):Kh:=iL (lM ws (l.take i))
def oO (V:List Vr) (L:List Kh) (R:List (List Fr)) (ws:Ki) (l:List (Nat×Nat)) (i:Nat):List Tb:=p6 (ar V) (l.take i) (gT V L R ws)
theorem apt {l:List (Nat×Nat)} (h:i<l.length):p5 ws l (i+1)=cI (p5 ws l i) (l[i].1:Int):=by
 rw[p5,p5,im h,aek,anA]
theorem apr {l:List (Nat×Nat)} (h:i<l.length):oO V L R ws l (i+1)=(oO V L R ws l i).map (lR (ar V) l[i].1 l[i].2):=by
 rw[oO,oO,im h,afZ]
theorem afK (h0:aW V L R=0) (t:∀v∈ws,v<V.length) (c:ru L (·∈ws)) {l:List (Nat×Nat)} (h:eV (ar V) V.length l) (i:Nat):gW (ar V) V.length (oO V L R ws l i) (gP R ws) 1:=
 gW.fixes (y9 h0) (apj h0 t c) fun p a=>h.val p (List.mem_of_mem_take a)
theorem aps (V:List Vr) (L:List Kh) (R:List (List Fr)) (ws:Ki) (l:List (Nat×Nat)) (i:Nat):(oO V L R ws l i).length=ws.length:=by rw[oO,Y6,gT,cH]
theorem apu (ws:Ki) (l:List (Nat×Nat)) (i:Nat):(p5 ws l i).length<=ws.length:=by rw[p5,bL];exact(aej _ _).length_le
theorem V5 (h:ws.Nodup) (l:∀v∈ws,v<n):ws.length<=n:=by
 have a:=(MG h l).length_eq;have b:((List.range n).filter fun v=>ws.contains v).length<=n:=aL (od ..) aE;omega
theorem apP (h0:aW V L R=0) (q:tE V R) (n:ws.Nodup) (g:∀v∈ws,v<V.length) (u:ru L (·∈ws)) {l:List (Nat×Nat)} (a:eV (ar V) V.length l) (h:i<l.length) (s b t:Kd) (c cb k:Nat) (w:World) (hs:aC w s (iL (ar V))) (r:aC w b (p5 ws l i)) (P:jf w t (oO V L R ws l i)):
  da 151 #[.agg #[.slice s V.length c,.slice b (p5 ws l i).length cb,.slice t (oO V L R ws l i).length k],.agg #[.int .i64 (l[i].1:Nat),.int .i64 (l[i].2:Nat)]] w fun e w'=>∃d p f m,e=.returned (.agg #[.slice s V.length c,.slice d (p5 ws l (i+1)).length p,.slice f (oO V L R ws l (i+1)).length m])/\aC w' d (p5 ws l (i+1))/\jf w' f (oO V L R ws l (i+1))/\iR w.heap.size f m/\db w w':=by
 have j:=gC h0;have D:(ar V).length=V.length:=nE V;have F:=V5 n g;have E:=j.n8;have z:=apu ws l i;have A:=aps V L R ws l i;have o:=afK h0 g u a i;have x:=q.pool h0 n g (vs:=[]) List.nodup_nil (fun v y=>by cases y);have:=ak9 s b t c cb k (ar V) (p5 ws l i) (oO V L R ws l i) (gP R ws) 1 l[i].1 l[i].2 w j.fine hs r P (by rw[D];exact o) al al x (by rw[D];exact a.lt _ (bP h)) (a.val _ (bP h));rw[D] at this;rw[apt h,apr h,cH];exact this
theorem alW (h0:aW V L R=0) (z:tE V R) (n:ws.Nodup) (h:∀v∈ws,v<V.length) (c:ru L (·∈ws)) {l:List (Nat×Nat)} (a:eV (ar V) V.length l) (F:∀p∈l,p.1∈ws) {Q:Kh} (r:Up Q V.length) (u:∀v∈ag Q,v∈ws/\¬v∈l.map (·.1)) (s b t q:Kd) (k cb m j:Nat) (w:World) (hs:aC w s (iL (ar V))) (o:aC w b (p5 ws l l.length)) (P:jf w t (oO V L R ws l l.length)) (A:aC w q Q):
  da 152 #[.agg #[.slice s V.length k,.slice b (p5 ws l l.length).length cb,.slice t (oO V L R ws l l.length).length m],.slice q Q.length j,.bool false] w fun e w'=>∃x y,e=.returned (.agg #[x,y])/\eL w' x y (gV V L R Q l)/\db w w':=by
 have i:=gC h0;have d:=y9 h0;have D:(ar V).length=V.length:=nE V;have S:=V5 n h;have M:=i.n8;have f:=Wn (l:=l) n;have H:∀v∈lM ws l,v<V.length:=fun v I=>h v (Rk.1 I).1;have J:p5 ws l l.length=iL (lM ws l):=by rw[p5,iY]
 have E:oO V L R ws l l.length=p6 (ar V) l (gT V L R ws):=by rw[oO,iY]
 have g:=afK h0 h c a l.length;rw[E] at g P⊢;rw[J] at o⊢;have K:=V5 f H;have O:(p6 (ar V) l (gT V L R ws)).length=ws.length:=by rw[Y6,gT,cH]
 have:=ak7 s b t q k cb m j (ar V) (lM ws l) Q (p6 (ar V) l (gT V L R ws)) _ (gP R ws) 1 false w i.fine hs o P A (by have:=r.length;omega) f (by rw[D];exact H) (by rw[D];exact(PI.net h0 h c).fixes d a.nd a.val) (NN.fixes d a.val (PI.net h0 h c).ok (NN.net h0 h)) (by rw[D];exact g) al (z.pool h0 n h f H);rw[D,aiq h0 d n h c a F r u] at this;rw[bL];exact this
theorem anR (a b c q f:Kd) (ca cb cc cq cf:Nat) (V:List Vr) (L:List Kh) (R:List (List Fr)) (Q:Kh) (l:List (Nat×Nat)) (w:World) (h:iT w a b c V L R) (hN:oZ w b L) (hs:sk V L R) (hw:∀l∈R,fw l<=4200) (h0:aW V L R=0) (hD:tE V R) (hq:aC w q Q) (RI:Up Q V.length) (hF:ju w f (zF l)) (hl:eV (ar V) V.length l) (hd:∀v∈ag Q,¬v∈l.map (·.1)) (ym:∀U:World,iT U a b c V L R ->da 81 #[.agg #[.slice a V.length ca,.slice b L.length cb,.slice c R.length cc]] U fun e w'=>e=.returned (.int .i64 (aW V L R))/\db U w'):
  da 95 #[.agg #[.slice a V.length ca,.slice b L.length cb,.slice c R.length cc],.slice q Q.length cq,.slice f l.length cf] w fun e w'=>∃x y,e=.returned (.agg #[x,y])/\eL w' x y (gV V L R Q l)/\db w w':=by
 have u:=gC h0;have h8:=u.n8;have T:=J8 h0;have aj:=yq T
 have O:1<=L.length:=by
  have:=u.fine.one;rw[bL,nE] at this;rw[u.len];exact this
 have KG:L.length<=8:=by rw[u.len];exact h8
 have dQ:∀x∈L,x.length<=140737488355328:=fun x hx=>by
  obtain⟨i,m,rfl⟩:=iI hx;have:=(u.up i m).length;omega
 have eO:=RI.length;have kf:=hl.len;have Yg:=arJ RI hl hd;have Sv:(Ac Q l).length=(wZ Q l).length:=LW _;have b0:(wZ Q l).length=Q.length+l.length:=by rw[wZ,bU,cH,yZ]
 have hA:∀v∈ag (Ac Q l),v<L.length:=fun v S=>by rw[u.len];exact Yg.aa v S
 obtain⟨ws,Y⟩:∃ws,AW L (ag (Ac Q l))=ws:=⟨_,rfl⟩;have wL:ws.Nodup:=by rw[<- Y];exact ahI aj O KG _
 have an:∀v∈ws,v<V.length:=fun v S=>by rw[<- u.len];rw[<- Y] at S;exact ahJ aj O KG S
 have ak:ru L (·∈ws):=by rw[<- Y];exact ahK T O KG hA
 have bj:∀p∈l,p.1∈ws:=fun p hp=>by
  rw[<- Y];exact aaE T O KG hA ((agW _).2 (.inr (aH.2 ⟨p,hp,rfl⟩)))
 have fJ:∀v∈ag Q,v∈ws/\¬v∈l.map (·.1):=fun v S=>⟨by
  rw[<- Y];exact aaE T O KG hA ((agW _).2 (.inl S)),hd v S⟩
 have pj:=hid (fun (U:World) (t:db w U)=>JJ q cq Q U (hq.aa t) al);have ay:Hid (∀(d:Kd) (n j B:Nat) (U:World),bJ U B (.slice d n j) (wZ Q l) ->B<=U.heap.size ->da 133 #[.slice d n j] U fun e w'=>e=.returned (.tuple #[])/\n=(wZ Q l).length/\aC w' d (Ac Q l)/\Below B U w'):=fun d n j B U I h2=>ajh d n j (wZ Q l) U I h2 al;obtain⟨J,Rq⟩:∃J,eY (cX (aF L) (ag (Ac Q l)) L.length)=J:=⟨_,rfl⟩;have eZ:J.length<=8:=by rw[<- Rq,eY,bL,bQ];exact aL (od ..) aE
 have vW:Hid (∀(d:Kd) (j:Nat) (U:World),db w U ->aC U d (Ac Q l) ->da 78 #[.slice b L.length cb,.slice d (wZ Q l).length j] U fun e w'=>∃d j,e=.returned (.tuple #[.slice d J.length j,.int .i64 0])/\aC w' d J/\db U w'):=fun d j U t m=>by
  have:=ar2 b d cb j L (Ac Q l) U (h.aa t).pars dQ m T (by rw[u.len];exact Yg) al;rwa [Rq,Sv] at this
 have IX:Hid (∀(d:Kd) (j:Nat) (U:World),db w U ->aC U d J ->da 150 #[.agg #[.slice a V.length ca,.slice b L.length cb,.slice c R.length cc],.slice d J.length j] U fun e w'=>∃g d j K gD,e=.returned (.agg #[.slice (some ⟨g,0,none⟩) V.length V.length,.slice d (p5 ws l 0).length j,.slice K (oO V L R ws l 0).length gD])/\aC w' (some ⟨g,0,none⟩) (iL (ar V))/\aC w' d (p5 ws l 0)/\jf w' K (oO V L R ws l 0)/\db U w'):=fun d j U t m=>by
  have:=akV a b c d ca cb cc j V L R J U (h.aa t) (hN.aa h.pars t) hs hw h0 T O dQ m al ym;have e:(jx L).filter (fun v:Nat=>J.contains (v:Int))=ws:=by rw[<- Y,AW,Rq]
  rw[e] at this;have e1:p5 ws l 0=iL ws:=rfl;have e2:oO V L R ws l 0=ws.map fun v=>(gU L v,gL V L R v):=rfl;rw[e1,e2,bL,cH];exact this
 have Cm:=hid (fun (i:Nat) (m:i<l.length) (s b ae:Kd) (cs cb ct:Nat) (U:World)=>apP (L:=L) h0 hD wL an ak hl m s b ae cs cb ct U);have br:=hid (fun (s b ae:Kd) (cs cb ct:Nat) (U:World) (t:db w U) I h2 h3=>alW h0 hD wL an ak hl bj RI fJ s b ae q cs cb ct cq U I h2 h3 (hq.aa t))
 have HF:Hid (∀i (m:i<l.length) (U:World),db w U ->∃g o,f=some ⟨g,o,none⟩/\g<U.heap.size/\U.cell? ⟨g,o+i*2,none⟩=some (.int .i64 (l[i].1:Nat))/\U.cell? ⟨g,o+i*2+1,none⟩=some (.int .i64 (l[i].2:Nat))):=fun i m U t=>by
  have hz:i<(zF l).length:=by rw[yZ];exact m
  obtain⟨g,o,e,hg,h0,I⟩:=(hF.aa t) i hz;have e1:(zF l)[i]=((l[i].1:Int),(l[i].2:Int)):=by simp[zF]
  rw[e1] at h0 I;exact⟨g,o,e,hg,h0,I⟩
 obtain⟨A,KM⟩:∃A:Nat ->Kh,∀k,Q++(l.take k).map (fun p=>(p.1:Int))=A k:=⟨fun k=>Q++(l.take k).map (fun p=>(p.1:Int)),fun _=>rfl⟩;have T9:Hid (A 0=Q):=by show _=_;rw[<- KM];simp
 have aq:Hid (∀k (hk:k<l.length),A (k+1)=A k++[((l[k].1:Nat):Int)]):=fun k hk=>by rw[<- KM, <- KM,im hk,eh,ny];rfl
 have ai:Hid (A l.length=wZ Q l):=by show _=_;rw[<- KM,iY,wZ,zF,yT];rfl
 have ao:Hid (∀k,(A k).length<=16):=fun k=>by
  rw[<- KM,bU,cH,eW];omega
 have uB:=hid (bW.at (w:=w) rfl (.slice a V.length ca) (.slice b L.length cb) (.slice c R.length cc));clear KM h hN hs hw h0 hD hq RI hF hl hd ym u T aj dQ Yg Sv b0 hA Y wL an ak bj fJ Rq O;generalize p5 ws l=F at *;generalize oO V L R ws l=P at *;generalize gV V L R Q l=TT at *
 have HA:Hid (db w ((w.alloc (NC (.slice a V.length ca) (.slice b L.length cb) (.slice c R.length cc))).alloc (TC (.slice none 0 0) (.slice none 0 0)))):=by
  have I:=(au w.heap.size w).alloc (ah _) (NC (.slice a V.length ca) (.slice b L.length cb) (.slice c R.length cc));exact I.alloc I.size _
 have Au:Hid (bW ((w.alloc (NC (.slice a V.length ca) (.slice b L.length cb) (.slice c R.length cc))).alloc (TC (.slice none 0 0) (.slice none 0 0))) w.heap.size (.slice a V.length ca) (.slice b L.length cb) (.slice c R.length cc)):=uB.o.aa ((au _ _).alloc (ah _) (TC (.slice none 0 0) (.slice none 0 0))) uB.o.lt;have qi:Hid (bw ((w.alloc (NC (.slice a V.length ca) (.slice b L.length cb) (.slice c R.length cc))).alloc (TC (.slice none 0 0) (.slice none 0 0))) (w.heap.size+1) (.slice none 0 0) (.slice none 0 0)):=bw.at (w:=w.alloc (NC (.slice a V.length ca) (.slice b L.length cb) (.slice c R.length cc))) aE _ _;clear uB;go_enter Tryz.func95,Tryz.ntmps95;go_wp2_with fail
 generalize ((w.alloc (NC (.slice a V.length ca) (.slice b L.length cb) (.slice c R.length cc))).alloc (TC (.slice none 0 0) (.slice none 0 0)))=W0 at *;refine(pj.o W0 HA.o).af ?_;rintro e w1 ⟨av,rfl,bf,a1⟩;have b3:=qi.o.lt;have aQ:=hid bf;have bS:=hid a1;clear bf a1 pj;go_wp2_with fail
 go_loopw [7,19] (fun av iv wr=>∃i:Nat,i<=l.length/\iv=.int .i64 i/\Hid (bJ wr W0.heap.size av (A i))/\Hid (db W0 wr)) (fun _ iv _=>l.length - (intOf iv).toNat)
 case atStart=>exact⟨0,aU _,rfl,by rw[T9.o];exact aQ,bS⟩
 case round=>
  obtain⟨i,m,rfl,DJ,X⟩:=hrel;clear aQ bS;have H:=hid (HA.o.trans (X.o.af HA.o.size));obtain⟨d,j,rfl⟩:=xT DJ.o;by_cases bb:i<l.length
  ·obtain⟨g,o,rfl,hg,k0,k1⟩:=HF.o i bb wr H.o;have bN:=hid (aq.o i bb);generalize l[i].1=v at *;generalize l[i].2=z at *;have M:=(au wr.heap.size wr).alloc (ah _) (.cells #[.int .i64 (v:Nat),.int .i64 (z:Nat)] 30);(have SR:(wr.alloc (.cells #[.int .i64 (v:Nat),.int .i64 (z:Nat)] 30)).cell? ⟨wr.heap.size,0,none⟩=some (.int .i64 (v:Nat)):=by rw[bh _ _ 0 _ _ (0,0) (eM wr _)];rfl);(have bg:(wr.alloc (.cells #[.int .i64 (v:Nat),.int .i64 (z:Nat)] 30)).heap.size=wr.heap.size+1:=aE);have a7:=(au _ (wr.alloc (.cells #[.int .i64 (v:Nat),.int .i64 (z:Nat)] 30))).alloc (ah _) (.cells #[.int .i64 (v:Nat)] 3)
   have bm:Hid (((wr.alloc (.cells #[.int .i64 (v:Nat),.int .i64 (z:Nat)] 30)).alloc (.cells #[.int .i64 (v:Nat)] 3)).cell? ⟨wr.heap.size+1,0,none⟩=some (.int .i64 (v:Nat))):=by
    have:=(bt (wr.alloc (.cells #[.int .i64 (v:Nat),.int .i64 (z:Nat)] 30)) 3 (.int .i64 (v:Nat))).cell;rwa [bg] at this
   have gg:=M.trans (a7.af M.size);have aN:=hid (JY DJ.o (Du.aa gg));have vU:=hid (X.o.trans (gg.af X.o.size));have b1:=ao.o i;have OW:Hid (W0.heap.size<=((wr.alloc (.cells #[.int .i64 (v:Nat),.int .i64 (z:Nat)] 30)).alloc (.cells #[.int .i64 (v:Nat)] 3)).heap.size):=vU.o.size;clear M a7 gg bg DJ X H;go_wp2_with (at_builtin;refine UD rfl _ _ rfl W0.heap.size (.slice d (A i).length j) (A i) (v:Int) rfl aN.o (wr.heap.size+1) rfl bm.o al OW.o ?_;intro bO w9 tW eU j9;have bD:=hid tW;have nV:=hid (vU.o.grown eU OW.o (fun k e=>(tM aN.o k e).1));obtain⟨n9,d9,c9,rfl⟩:∃n d c,bO=Value.slice d n c:=(xT tW).elim fun d h=>h.elim fun c e=>⟨_,d,c,e⟩;clear tW eU j9)
   go_roundw
   case rel=>exact⟨i+1,al,b5,by rw[bN.o];exact bD,nV⟩
   case measure=>simp[intOf];omega
  ·obtain rfl:i=l.length:=al
   rw[ai.o] at DJ;(have e1:(A l.length).length=(wZ Q l).length:=by rw[ai.o]);rw[e1];clear e1 ai aq ao T9;have gi:=hid (ay.o d _ j W0.heap.size wr DJ.o X.o.size);clear DJ H ay;go_wp2_with fail
   refine gi.o.af ?_;rintro e w2 ⟨rfl, -,qM,a6⟩;have Ss:=X.o.trans a6;have aS:=hid (HA.o.trans (Ss.af HA.o.size));have o6:=hid (Au.o.aa Ss Au.o.lt);have dr:=hid (qi.o.aa Ss qi.o.lt);have qZ:=hid (vW.o d j w2 aS.o qM);have n1:=o6.o.cells.2.1;clear qM a6 Ss X gi vW Au qi HA;go_wp2_with fail
   refine qZ.o.af ?_;rintro e w3 ⟨d3,bZ,rfl,zD,ab⟩;have dZ:=hid (aS.o.trans (ab.af aS.o.size));have Ll:=hid (o6.o.aa ab o6.o.lt);have mV:=hid (dr.o.aa ab dr.o.lt);have Ak:=hid (IX.o d3 bZ w3 dZ.o zD);clear n1;obtain⟨n0,n1,n2⟩:=Ll.o.cells;clear zD ab qZ IX o6 dr aS;go_wp2_with fail
   refine Ak.o.af ?_;rintro e r ⟨G,d4,z8,t4,Oi,rfl,aR,C9,Kl,ad⟩;have nN:=ad.alloc ad.size (.cells #[.slice (some ⟨G,0,none⟩) V.length V.length,.slice d4 (F 0).length z8,.slice t4 (P 0).length Oi] 177);have Fz:=(au r.heap.size r).alloc (ah _) (.cells #[.slice (some ⟨G,0,none⟩) V.length V.length,.slice d4 (F 0).length z8,.slice t4 (P 0).length Oi] 177);have fh:=hid (dZ.o.trans (nN.af dZ.o.size));have sA:=hid (mV.o.aa nN mV.o.lt);have DT:Hid (bY (r.alloc (.cells #[.slice (some ⟨G,0,none⟩) V.length V.length,.slice d4 (F 0).length z8,.slice t4 (P 0).length Oi] 177)) r.heap.size (.slice (some ⟨G,0,none⟩) V.length V.length) (.slice d4 (F 0).length z8) (.slice t4 (P 0).length Oi)):=bY.at (w:=r) rfl _ _ _;have qo:=hid (aR.aa Fz);have I7:=hid (C9.aa Fz);have BX:=hid (Kl.aa Fz);have b2:w.heap.size+1<r.heap.size:=(mV.o.aa ad mV.o.lt).lt;clear aR C9 Kl ad nN Fz Ak dZ Ll mV n0 n1 n2;go_wp2_with fail
   generalize (r.alloc (.cells #[.slice (some ⟨G,0,none⟩) V.length V.length,.slice d4 (F 0).length z8,.slice t4 (P 0).length Oi] 177))=W5 at *;go_loopw [43] (fun iv wr=>∃(i:Nat) (b' K:Kd) (eP gD:Nat),i<=l.length/\iv=.int .i64 i/\Hid (bY wr r.heap.size (.slice (some ⟨G,0,none⟩) V.length V.length) (.slice b' (F i).length eP) (.slice K (P i).length gD))/\Hid (aC wr (some ⟨G,0,none⟩) (iL (ar V)))/\Hid (aC wr b' (F i))/\Hid (jf wr K (P i))/\Hid (bw wr (w.heap.size+1) (.slice none 0 0) (.slice none 0 0))/\Hid (db w wr)) (fun iv _=>l.length - (intOf iv).toNat)
   case atStart=>exact⟨0,_,_,_,_,aU _,rfl,DT,qo,I7,BX,sA,fh⟩
   case round=>
    obtain⟨i,b',K,eP,gD,m,rfl,vP,HG,HI,HT,HR,H⟩:=hrel;clear DT qo I7 BX sA fh;rename World=>W6
    obtain⟨p0,p1,p2⟩:=vP.o.cells;by_cases bk:i<l.length
    ·obtain⟨g,o,rfl,hg,k0,k1⟩:=HF.o i bk W6 H.o;have ax:=hid (Cm.o i bk);generalize l[i].1=v at *;generalize l[i].2=z at *;have M:=(au W6.heap.size W6).alloc (ah _) (.cells #[.int .i64 (v:Nat),.int .i64 (z:Nat)] 30);(have SR:(W6.alloc (.cells #[.int .i64 (v:Nat),.int .i64 (z:Nat)] 30)).cell? ⟨W6.heap.size,0,none⟩=some (.int .i64 (v:Nat)):=by rw[bh _ _ 0 _ _ (0,0) (eM W6 _)];rfl);(have Y9:(W6.alloc (.cells #[.int .i64 (v:Nat),.int .i64 (z:Nat)] 30)).cell? ⟨W6.heap.size,1,none⟩=some (.int .i64 (z:Nat)):=by rw[bh _ _ 1 _ _ (0,0) (eM W6 _)];rfl);have Tx:=hid (vP.o.aa M vP.o.lt);have TW:=hid (HG.o.aa M);have gR:=hid (HR.o.aa M HR.o.lt);have bS:=hid (H.o.trans (M.af H.o.size));have HX:=hid (ax.o (some ⟨G,0,none⟩) b' K V.length eP gD _ TW.o (HI.o.aa M) (HT.o.aa M));clear p0 p1 p2 vP HG HI HT HR H ax M;obtain⟨p0,p1,p2⟩:=Tx.o.cells;go_wp2_with fail
     refine HX.o.af ?_;rintro e w7 ⟨d7,Ds,t7,KW,rfl,Fh,Kk,bd,E⟩;have D:=Tx.o.aa E Tx.o.lt;have Z:=gR.o.aa E gR.o.lt;have zW:=bS.o.trans (E.af bS.o.size);have aT:=TW.o.aa E;have XH:=Tx.o.lt;clear p0 p1 p2 SR Y9 k0 k1;obtain⟨p0,p1,p2⟩:=D.cells;have QT:=D.fz 0;have QS:=D.fz 1;have QR:=D.fz 2;have bu:=hid (D.put (.slice (some ⟨G,0,none⟩) V.length V.length) (.slice d7 (F (i+1)).length Ds) (.slice t7 (P (i+1)).length KW));have bo:=hid (aT.putP D (slv _ _ _) (slv _ _ _) (slv _ _ _) (.slice (some ⟨G,0,none⟩) V.length V.length) (.slice d7 (F (i+1)).length Ds) (.slice t7 (P (i+1)).length KW));have bp:=hid (Fh.putP D (slv _ _ _) (slv _ _ _) (slv _ _ _) (.slice (some ⟨G,0,none⟩) V.length V.length) (.slice d7 (F (i+1)).length Ds) (.slice t7 (P (i+1)).length KW));have bz:=hid (Kk.putP D (slv _ _ _) (slv _ _ _) (slv _ _ _) (fun g' o' e=>by have:=bd.2 g' o' e;omega) (slv (some ⟨G,0,none⟩) V.length V.length) (slv d7 (F (i+1)).length Ds) (.slice t7 (P (i+1)).length KW));have bx:=hid (((Z.off r.heap.size 0 (.slice (some ⟨G,0,none⟩) V.length V.length) al).off r.heap.size 1 (.slice d7 (F (i+1)).length Ds) al).off r.heap.size 2 (.slice t7 (P (i+1)).length KW) al);have vU:=hid (fL zW (show w.heap.size<=r.heap.size by omega) (.slice (some ⟨G,0,none⟩) V.length V.length) (.slice d7 (F (i+1)).length Ds) (.slice t7 (P (i+1)).length KW));clear Fh Kk bd E D Z zW aT HX;go_wp2;go_roundw
     case rel=>exact⟨i+1,_,_,_,_,al,b5,bu,bo,bp,bz,bx,vU⟩
     case measure=>simp[intOf];omega
    ·obtain rfl:i=l.length:=al
     have bs:=hid (br.o (some ⟨G,0,none⟩) b' K V.length eP gD W6 H.o HG.o HI.o HT.o);go_wp2_with fail
     refine bs.o.af ?_;rintro e w7 ⟨x,y,rfl,Rt,E⟩;obtain⟨xs,xn,xc,rfl⟩:=Rt.slices.1;obtain⟨ys,yn,yc,rfl⟩:=Rt.slices.2;have Z:=HR.o.aa E HR.o.lt;have zW:=H.o.trans (E.af H.o.size);obtain⟨t0,t1,f0,f1⟩:=Z.facts;have sB:=hid (Z.put (.slice xs xn xc) (.slice ys yn yc));have bC:=hid (Rt.putT Z (slv _ _ _) (slv _ _ _) (slv xs xn xc) (.slice ys yn yc));have nV:=hid (qU (g:=w.heap.size+1) zW al (.slice xs xn xc) (.slice ys yn yc));clear Rt E Z zW p0 p1 p2;go_wp2;refine cP (sB.o.result1 rfl _ rfl) rfl ?_;exact⟨_,_,rfl,bC.o,nV.o⟩
structure FV (w:World) (a b c:Kd) (V:List Vr) (L:List Kh) (R:List (List Fr)):Prop where
 net:iT w a b c V L R
 ls:oZ w b L
 sm:sk V L R
 wt:∀l∈R,fw l<=4200
 lt:tE V R
 few:aW V L R=0 ->cnt (ar V) (List.range V.length)<=800
theorem FV.aa {b c:Kd} (h:FV w a b c V L R) (d:db w w'):FV w' a b c V L R:=⟨h.net.aa d,h.ls.aa h.net.pars d,h.sm,h.wt,h.lt,h.few⟩
def nF (F:List (Int×Int)):List (Nat×Nat):=F.map fun p=>(p.1.toNat,p.2.toNat)
theorem He (l:List (Nat×Nat)):nF (zF l)=l:=by
 rw[nF,zF,yT];refine(wu fun p _=>?_).trans (List.map_id l);show (((p.1:Int).toNat),((p.2:Int).toNat))=p;simp
theorem SQ (h:ir V L R F=0):aW V L R=0/\F=zF (nF F)/\eV (ar V) V.length (nF F):=by
 obtain⟨a,l,rfl,b⟩:=ap0 h;rw[He];exact⟨a,rfl,b⟩
def prF (V:List Vr) (L:List Kh) (R:List (List Fr)) (F:List (Int×Int)):Fr:=if ir V L R F=0 then qF (qI V L R (nF F)) else(false,⟨#[]⟩,⟨#[]⟩)
end Go.Proofs.YtkflnpjapgiajaaGreatDoor
