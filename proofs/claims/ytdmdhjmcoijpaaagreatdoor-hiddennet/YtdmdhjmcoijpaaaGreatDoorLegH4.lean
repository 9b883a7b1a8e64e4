/- Part4: part 4. -/
import Derived.Test.YtdmdhjmcoijpaaaGreatDoorLegH3
set_option maxRecDepth 100000
set_option maxHeartbeats 400000000
set_option linter.unusedSimpArgs false
set_option linter.unusedVariables false
namespace Go.Proofs.YtdmdhjmcoijpaaaGreatDoor
section
open Go.RowKit Go.Shelf
attribute [local go_sem] Oper.semAt_some
variable {ds:List Deferred} {c g j k lo n u v:Nat} {W' w:World}
def nh (U:List (List Nat)) (u:Nat):Nat ->List Nat
 |0=>[]
 |v+1=>if u∈U.getD v [] then v::nh U u v else nh U u v
theorem K5 {U:List (List Nat)}:∀ {v x:Nat},x∈nh U u v↔x<v/\u∈U.getD x []
 |0,x=>by simp[nh]
 |v+1,x=>by
  rw[nh];by_cases h:u∈U.getD v []
  ·rw[aA h,dU,K5];constructor
   ·rintro(rfl |⟨b,a⟩)
    ·exact⟨al,h⟩
    ·exact⟨al,a⟩
   ·rintro⟨b,a⟩;by_cases e:x=v
    ·exact .inl e
    ·exact .inr ⟨al,a⟩
  ·rw[aD h,K5];constructor
   ·rintro⟨b,a⟩;exact⟨al,a⟩
   ·rintro⟨b,a⟩;exact⟨by rcases cT x v with c |c;exact c;exact absurd (show x=v by omega) (fun e=>h (e▸a)),a⟩
def lH (U:List (List Nat)) (n v k:Nat):List (List Nat):=(List.range n).map fun u=>if u<k/\u∈U.getD v [] then v::nh U u v else nh U u v
def lI (U:List (List Nat)) (n v:Nat):List (List Nat):=(List.range n).map fun u=>nh U u v
theorem amh (U:List (List Nat)) (n v:Nat):lH U n v 0=lI U n v:=by simp[lH,lI]
theorem amm {U:List (List Nat)} (h:n<=8):lH U n v 8=lI U n (v+1):=by
 apply sG;intro u b;have:=cI.1 b;rw[nh];by_cases a:u∈U.getD v []
 ·rw[aA ⟨al,a⟩,aA a]
 ·rw[aD (fun e=>a e.2),aD a]
theorem ami {U:List (List Nat)} (m:k∈U.getD v []):lH U n v (k+1)=(lH U n v k).set k (v::nh U k v):=by
 apply sI (by simp[lH]);intro i c d;rw[MG];simp only[lH,nO,DF];by_cases h:k=i
 ·subst h;rw[aA ⟨al,m⟩,aA rfl]
 ·rw[aD h];have e:(i<k+1/\i∈U.getD v [])↔(i<k/\i∈U.getD v []):=⟨fun ⟨a,b⟩=>⟨al,b⟩,fun ⟨a,b⟩=>⟨al,b⟩⟩;simp only[e]
theorem amj {U:List (List Nat)} (m:¬k∈U.getD v []):lH U n v (k+1)=lH U n v k:=by
 apply sG;intro i c;have e:(i<k+1/\i∈U.getD v [])↔(i<k/\i∈U.getD v []):=⟨fun ⟨a,b⟩=>⟨by rcases cT i k with h |h;exact h;exact absurd (show i=k by omega) (fun e=>m (e▸b)),b⟩,fun ⟨a,b⟩=>⟨al,b⟩⟩;simp only[e]
theorem aml {U:List (List Nat)} (a:u<n) (h:¬u<k):(lH U n v k)[u]? =some (nh U u v):=by
 simp[lH,a,h]
theorem amk (U:List (List Nat)) (n v k:Nat):(lH U n v k).length=n:=by simp[lH]
theorem acH (U:List (List Nat)) (n v:Nat):(lI U n v).length=n:=by simp[lI]
theorem Shut.putAt {B:Nat} {W:World} (h:Shut lo B ds W) (i:g<lo) (v:Value):Shut lo B ds (W.setCell ⟨g,j,none⟩ v):=by
 induction ds generalizing B with
 |nil=>trivial
 |cons d ds ih=>
  obtain⟨r,a,b,c,e,f⟩:=h;exact⟨r,a,b,c,(fQ W ⟨g,j,none⟩ v r (by show r≠g;omega)).trans e,ih f⟩
theorem Rn {β:Type} {B:Nat}:OwnFrom B (fun (_:β) W=>B<=W.heap.size/\Shut lo B ds W):=fun _ W W' o h g r=>
 ⟨aR h.1 g.size,h.2.keep fun k a=>g.block k al (fun e=>by have:=(r k e.symm).1;omega)⟩
def sD (w:World) (n c:Nat) (l:List Nat) (W:World):Prop:=cF W w.heap.size l/\Boxed W (w.heap.size+1) 137 (.slice (some ⟨w.heap.size,0,none⟩) n c)/\ef w W
theorem sD.shut {l:List Nat} (o:w.heap.size+1<lo) (W:World) (r:Nat) (h:sD w n c l W) (a:lo<=r) (d:W.heap[r]? =some (.deferred (some []))):sD w n c l (W.putObj r (.deferred none)):=
 ⟨(yj al).trans h.1,(yj al).trans h.2.1,h.2.2.trans (uP (w:=w) (aq _) W r _ _ al d rfl rfl)⟩
theorem sD.own {β:Type} {B:Nat} (f:β ->List Nat) (h:w.heap.size<=B):OwnFrom B (fun (s:β) W=>sD w n c (f s) W):=
 fP (gZ (Nb _ f) _) (fP (gZ (jN _ _ (fun _=>_)) _) (zM (aq _) h))
theorem sD.aa {W:World} {l:List Nat} (h:sD w n c l W) (b:ef W W'):sD w n c l W':=⟨h.1.aa b h.1.lt,xK h.2.1 b h.2.1.lt,h.2.2.trans (b.af h.2.2.size)⟩
theorem amc (G n c:Nat) (U:List (List Nat)) (w:World) (hn:U.length=n) (h8:n<=8) (T:cF w G (U.map aB)) (S:∀p∈U,∀u∈p,u<n):
  du 201 #[.slice (some ⟨G,0,none⟩) n c] w fun e w'=>e=.returned (.slice (some ⟨w.heap.size,0,none⟩) n n)/\cF w' w.heap.size ((lI U n n).map aB)/\ef w w':=by
 refine(ix (n:=6)).1 ?_;obtain⟨i0,bM,aT,a1,a6⟩:=dJ Tryz.infoSet;have hG:=T.lt;have uw:∀p∈U,∀u∈p,u<8:=fun p hp u E=>by have:=S p hp u E;omega
 have Fg:Hid (∀(V:World) (v:Nat),ef w V ->v< n ->V.cell? ⟨G,v,none⟩=some (.int .u32 (aB (U.getD v []):Nat))):=fun V v hB X=>by
  have:=(T.aa hB hG).cell v (by rw[dM];omega);rwa [D8 al] at this
 have rp:=hid (fun v=>CR uw v)
 have LW:Hid (∀v k,v< n ->k∈U.getD v [] ->k<n):=fun v k X j=>by
  rw[bY,bj al] at j;exact S _ (bF _) k j
 have Pv:=hid (fun (u v:Nat) (X:v<n) (V:World)=>F5 (nh U u v) v V (fun x hx=>by have:=(K5.1 hx).1;omega) al)
 have Fw:Hid (∀(V:World) (g v k u:Nat),u< n ->¬u< k ->cF V g ((lH U n v k).map aB) ->V.cell? ⟨g,u,none⟩=some (.int .u32 (aB (nh U u v):Nat))/\V.frozen? ⟨g,u,none⟩=false):=fun V g v k u E ax R=>by
  have h1:u<(lH U n v k).length:=by rw[amk];exact E
  have O:=R.cell u (by rw[dM];exact h1);obtain⟨h3,f⟩:=mH.1 (aml (U:=U) (v:=v) E ax);rw[nO,f] at O;exact⟨O,R.fz u⟩
 have kY:Hid (∀(V:World) (g v k:Nat),k∈U.getD v [] ->cF V g ((lH U n v k).map aB) ->cF (V.setCell ⟨g,k,none⟩ (.int .u32 (aB (v::nh U k v):Nat))) g ((lH U n v (k+1)).map aB)):=fun V g v k m R=>by
  have:=R.set k (aB (v::nh U k v));rwa [ami m,DD]
 have fD:Hid (∀v k,¬k∈U.getD v [] ->lH U n v (k+1)=lH U n v k):=fun v k h=>amj h;have HZ:=hid (fun v=>amh U n v);have HA:=hid (fun v=>amm (U:=U) (v:=v) h8)
 have hz:(lI U n 0).map aB=List.replicate n 0:=by
  apply sI (by simp[lI]);intro i h1 O;simp[lI,nh,aB]
 clear T S uw;refine uN Tryz.func201 rfl trivial ?_ rfl;simp only[Tryz.ntmps201,nJ,ew,mG,Nat.reduceAdd,Nat.reduceSub,nR,nQ,nK,mI,jy,fG];have av:=fun V=>run_make_row' (P:=Tryz.prog) 137 141 (.int .u32 0) 4 Tryz.underlying137 Tryz.infoSet rfl .i64 .i64 n al al V;gi_wp2
 clear av;obtain⟨y,I⟩:∃y,y=(w.alloc (.cells (madeCells #[.int .u32 0] n) 141)).alloc (.cells #[.slice (some ⟨w.heap.size,0,none⟩) n n] 137):=⟨_,rfl⟩
 have ae:sD w n n ((lI U n 0).map aB) y:=by
  rw[I,hz];refine⟨?_,?_,((au _ w).alloc (aq _) _).alloc aE _⟩
  ·have h:=dB w (.cells (madeCells #[.int .u32 0] n) 141)
   have e:(madeCells #[.int .u32 0] n).toList=(List.replicate n (0:Nat)).map uv:=by
    have:=Sp n;rwa [kF] at this
   (have e2:madeCells #[Value.int .u32 0] n=((List.replicate n (0:Nat)).map uv).toArray:=by rw[<- e]);rw[cF,wF _ _ _ aE,h,e2]
  ·have h:=a8 (w.alloc (.cells (madeCells #[.int .u32 0] n) 141)) 137 (.slice (some ⟨w.heap.size,0,none⟩) n n);rwa [dE] at h
 rw[<- I];have aO:y.heap.size=w.heap.size+2:=by rw[I];simp
 have k6:=hid ae;clear I ae hz;refine wpIn_loop (fun z w'=>∃(v:Nat) (ds:List Deferred) (u4 u5 u13 u14 u15 u16 Jk Jj z7:Value),z= {tmps:= #[.slice (some ⟨G,0,none⟩) n c,undef,.slice none 0 0,.pointer (some ⟨w.heap.size+1,0,none⟩),u4,u5,undef,.slice (some ⟨G,0,none⟩) n c,.int .i64 (n:Nat),.slice (some ⟨w.heap.size,0,none⟩) n n,.slice (some ⟨G,0,none⟩) n c,.int .i64 (n:Nat),.int .i64 (v:Nat),u13,u14,u15,u16,Jk,Jj,undef,undef,undef,undef,undef,undef,undef,undef,undef,undef,z7,undef],defers:=ds}/\v<=n/\Hid (sD w n n ((lI U n v).map aB) w')/\Hid (Shut (w.heap.size+2) w'.heap.size ds w')) (fun z _=>n - (intOf (z.tmps.getD 12 undef)).toNat) ?_ ?_
 ·exact⟨0,[],_,_,_,_,_,_,_,_,_,rfl,aV _,k6,trivial⟩
 intro z wr ay;obtain⟨v,ds,u4,u5,u13,u14,u15,u16,Jk,Jj,z7,rfl,X,A,F⟩:=ay;clear k6;by_cases ad:v<n
 ·have kv:=Fg.o wr v A.o.2.2 ad;have hs:=rp.o v;have ai:=hid (fun k j=>LW.o v k ad j);have aj:=hid (fun u=>Pv.o u v ad);have Wv:=hid (fun V g k u=>Fw.o V g v k u);have Vm:=hid (fun V g k=>kY.o V g v k);have VB:=hid (fun k=>fD.o v k);have TJ:=HZ.o v;have Uf:=HA.o v;generalize U.getD v []=bv at *;have cP:w.heap.size+1<wr.heap.size:=A.o.2.1.lt;gi_wp2
  obtain⟨a,t⟩:∃a,a=wr.alloc (.cells #[.int .i64 (v:Nat)] 3):=⟨_,rfl⟩;have b4:Boxed a wr.heap.size 3 (.int .i64 (v:Nat)):=by rw[t];exact a8 wr _ _
  have ab:ef wr a:=by rw[t];exact(au _ wr).alloc (aq _) _
  have aS:a.heap.size=wr.heap.size+1:=by rw[t];simp
  rw[<- t];clear t kv;have Z:=A.o.aa ab;have Kv:=(F.o.aa ab).af (show wr.heap.size<=a.heap.size by omega);have E2:=hid (F.o);clear A F E2;rw[<- TJ] at Z
  refine DJ al bv hs rfl rfl
   (fun k V=>sD w n n ((lH U n v k).map aB) V/\Boxed V wr.heap.size 3 (.int .i64 (v:Nat))/\(a.heap.size<=V.heap.size/\Shut (w.heap.size+2) a.heap.size ds V))
   (fP (sD.own (fun k:Nat=>(lH U n v k).map aB) al) (fP (gZ (jN _ _ (fun _=>_)) _) Rn))
   ⟨Z,b4,aq _,Kv⟩
   (fun k=> {tmps:= #[.slice (some ⟨G,0,none⟩) n c,undef,.slice none 0 0,.pointer (some ⟨w.heap.size+1,0,none⟩),.pointer (some ⟨wr.heap.size,0,none⟩),.int .u32 (aB bv:Nat),.int .i64 (k:Nat),.slice (some ⟨G,0,none⟩) n c,.int .i64 (n:Nat),.slice (some ⟨w.heap.size,0,none⟩) n n,.slice (some ⟨G,0,none⟩) n c,.int .i64 (n:Nat),.int .i64 (v:Nat),.bool true,.int .i64 (v:Nat),.pointer (some ⟨G,v,none⟩),.int .u32 (aB bv:Nat),.int .u32 (aB bv:Nat),.func (.func 148) #[.int .u32 (aB bv:Nat)] #[],.int .i64 (k:Nat),undef,undef,undef,undef,undef,undef,undef,undef,undef,z7,undef],defers:=[]}) ?assign ?body ?skip ?done
  case assign=>
   intro l k W K r;gi_wp2
   exact r
  case body=>
   rintro l k V j m ⟨b,f,Y,s⟩;have an:=ai.o k m;have k1:=b.2.1.cell;have k4:=f.cell;obtain⟨kU,fU⟩:=Wv.o V w.heap.size k k an al b.1;have EU:=hid (aj.o k);have LA:=hid (fun W hW=>Vm.o W w.heap.size k m hW);generalize aB (v::nh U k v)=m1 at *;generalize aB (nh U k v)=m0 at *;generalize aB bv=mv at *;gi_wp2_with fail
   refine yL (fun u=>u.cell? ⟨w.heap.size+1,0,none⟩=some (.slice (some ⟨w.heap.size,0,none⟩) n n)/\u.cell? ⟨wr.heap.size,0,none⟩=some (.int .i64 (v:Nat))) ao ao (fun ⟨_,_,h⟩=>h) ⟨k1,k4⟩ ?_;intro M;have Q:KeepsOthers V V.drew:=zW V;have H:sD w n n ((lH U n v k).map aB) V.drew:=⟨b.1,b.2.1,b.2.2.drew⟩;have q4:Boxed V.drew wr.heap.size 3 (.int .i64 (v:Nat)):=f;have qS:Shut (w.heap.size+2) a.heap.size ds V.drew:=s.keep fun _ _=>rfl;have qz:a.heap.size<=V.drew.heap.size:=Y;have a7:V.drew.cell? ⟨w.heap.size,k,none⟩=some (.int .u32 (m0:Nat)):=kU;have aC:V.drew.frozen? ⟨w.heap.size,k,none⟩=false:=fU;clear k1 k4 kU fU b f s Y b4 ab Z Kv;generalize V.drew=J at *;refine ar 0 (.slice (some ⟨w.heap.size,0,none⟩) n n) ?_;refine ar 1 (.int .i64 (k:Nat)) ?_;refine ar 2 (.slice (some ⟨w.heap.size,0,none⟩) n n) ?_;refine ar 3 (.int .i64 (k:Nat)) ?_;refine ar 4 (.pointer (some ⟨w.heap.size,k,none⟩)) ?_;refine ar 6 (.int .i64 (v:Nat)) ?_;refine aG [5] (cA ?_ aF);intro q d;go_simp;refine d.o _ _ M (fun L=>?_);clear d q L;refine aG [7] (cA ?_ aF);intro q d;go_simp;refine(EU.o _).af ?_;rintro e U1 ⟨rfl,fN⟩;subst fN;refine d.o _ _ M (fun L=>?_);clear d q L;generalize U1=J at *;refine ar 8 (.pointer (some ⟨w.heap.size,k,none⟩)) ?_;refine aG [9] (cA ?_ aF);intro q d;go_simp;refine d.o _ _ ⟨(jJ H.2.1 w.heap.size k _ al).cell,(jJ q4 w.heap.size k _ al).cell⟩ (fun _=>dS ao ?_ _);clear d q M;gi_wp2
   exact⟨(Q.trans (kh J _ _)).from _,⟨LA.o J H.1,jJ H.2.1 w.heap.size k _ al,H.2.2.setCell (p:=⟨w.heap.size,k,none⟩) (aq _) _⟩,jJ q4 w.heap.size k _ al,by simpa using qz,qS.putAt al _⟩
  case skip=>
   rintro k V j m h;rw[VB.o k m];exact h
  case done=>
   rintro D V Q ⟨b,f,Y,s⟩ r;rw[Uf] at b;have AD:D<V.heap.size:=(cJ.1 r).1;have EY:Hid (Shut (w.heap.size+2) V.heap.size ({target:=.collected D,args:= #[]}::ds) V):=⟨D,al,AD,rfl,r,s.af Q⟩;have LY:=hid b;clear b f s r;gi_wp2
   refine⟨⟨v+1,_,_,_,_,_,_,_,_,_,_,rfl,al,LY,EY⟩,?_⟩;simp[intOf];omega
 ·obtain rfl:v=n:=al
  have kc:=A.o.2.1.cell;gi_wp2
  refine Ea (lo:=w.heap.size+2) (K:=sD w v v ((lI U v v).map aB)) (sD.shut al) (fun az hZ=>⟨_,Bx rfl _ _ _,rfl,hZ.1,hZ.2.2⟩) _ wr.heap.size wr F.o A.o
end
open Go.RowKit Go.Shelf
variable {L:List (List Int)} {i:Nat} {w:World}
theorem alR {l1 l2:List Nat} (h1:i<l1.length) (a:i<l2.length) (h:l1[i]≠l2[i]):decide (l1=l2)=false:=eK fun e=>h (by subst e;rfl)
theorem alS {l1 l2:List Nat} (l:l1.length=l2.length) (h:∀i (a:i<l1.length) (b:i<l2.length),l1[i]=l2[i]):decide (l1=l2)=true:=eD (sI l h)
theorem afG (c d n t u:Nat) (l1 l2:List Nat) (w:World) (z:l1.length=n) (A:l2.length=n) (L:n<=5000) (h1:cF w c l1) (g:cF w d l2):
  du 200 #[.slice (some ⟨c,0,none⟩) n t,.slice (some ⟨d,0,none⟩) n u] w (eS w (.bool (decide (l1=l2)))):=by
 have e:=hid h1;have f:=hid g;have m:=hid (fun i (a:i<l1.length) (b:i<l2.length) h=>alR a b h);have E:=hid (fun h=>alS (l1:=l1) (l2:=l2) al h);generalize decide (l1=l2)=r at *;clear h1 g;go_enter Tryz.func200,Tryz.ntmps200;go_wp2_with fail
 go_loopw [13] (fun iv wr=>∃i:Nat,i<=n/\iv=.int .i64 i/\Hid (∀j (a:j<l1.length) (b:j<l2.length),j< i ->l1[j]=l2[j])/\Hid (ef w wr)) (fun iv _=>n - (intOf iv).toNat)
 case atStart=>exact⟨0,aV _,rfl,fun j _ _ h=>absurd h al,au _ _⟩
 case round=>
  obtain⟨i,F,rfl,I,H⟩:=hrel;by_cases O:i<n
  ·have q:=(e.o.aa H.o e.o.lt).cell i al;have s:=(f.o.aa H.o f.o.lt).cell i al;have J:=hid (m.o i al al)
   have p:Hid (l1[i]'al=l2[i]'al ->∀j (a:j<l1.length) (b:j<l2.length),j<i+1 ->l1[j]=l2[j]):=fun h j a b K=>by
    rcases cT j i with k |k
    ·exact I.o j a b k
    ·obtain rfl:j=i:=al
     exact h
   generalize l1[i]'al=x at *;generalize l2[i]'al=y at *;go_upto_region 6 with fail
   go_quiet (fail)
   have l:=hid (below_drewN H.o nq);clear q s;generalize wr.drewN nq=M at *;by_cases S:x=y
   ·have v:=hid (p.o S);subst S;go_wp2;go_roundw
    case rel=>exact⟨i+1,al,b5,v,l⟩
    case measure=>simp[intOf];omega
   ·have R:=hid (J.o S)
    have D:((x:Int) !=(y:Int))=true:=by
     (have:¬(x:Int)=(y:Int):=al);simpa using this
    clear S;go_wp2;go_ret;exact⟨by rw[R.o];rfl,l.o⟩
  ·obtain rfl:i=n:=al
   have R:=hid (E.o fun j a b=>I.o j a b al);go_wp2;go_ret;exact⟨by rw[R.o];rfl,H.o⟩
def uf (L:List (List Int)):Bool:=gB L&&decide (jU L=(lI (aN L) L.length L.length).map aB)
theorem JC (h:gB L=true):∀p∈aN L,∀u∈p,u<L.length:=by
 obtain⟨_,_,r,_⟩:=rX h;intro p e u f;obtain⟨l,d,rfl⟩:=ba.1 e;obtain⟨x,g,rfl⟩:=ba.1 f;obtain⟨i,b,rfl⟩:=jz d;have a:=DU (U6 r b);obtain⟨j,c,rfl⟩:=jz g;have:=a.each j c;omega
theorem Gl (h:gB L=true):tA L.length (aN L):=by
 refine⟨l5 L,JC h,fun u a=>?_⟩;obtain⟨_,_,_,s⟩:=rX h;by_cases l:u<L.length
 ·rw[RG l] at a;rw[ZL l a] at s;cases s
 ·rw[bY,jA (by rw[l5];omega)] at a;simp at a
theorem af4 (a:Option Addr) (ca:Nat) (L:List (List Int)) (w:World) (h:gW w a L) (p:∀l∈L,l.length<=140737488355328):
  du 152 #[.slice a L.length ca] w fun e w'=>ef w w'/\
   ((uf L=true/\∃G,e=.returned (.tuple #[.slice (some ⟨G,0,none⟩) L.length L.length,.bool true])/\w.heap.size<=G/\cF w' G (jU L))∨(uf L=false/\e=.returned (.tuple #[.slice none 0 0,.bool false]))):=by
 have F:=hid (YG a ca L w h p);have k:Hid (uf L=(gB L&&decide (jU L=(lI (aN L) L.length L.length).map aB))):=rfl
 have y:Hid (gB L=true ->∀(G:Nat) (U:World),cF U G (jU L) ->du 201 #[.slice (some ⟨G,0,none⟩) L.length L.length] U fun e w'=>e=.returned (.slice (some ⟨U.heap.size,0,none⟩) L.length L.length)/\cF w' U.heap.size ((lI (aN L) L.length L.length).map aB)/\ef U w'):=fun g G U b=>by
  rw[Gp] at b;exact amc G L.length L.length (aN L) U (l5 L) (rX g).2.1 b (JC g)
 have q:Hid (gB L=true ->∀(c d:Nat) (U:World),cF U c (jU L) ->cF U d ((lI (aN L) L.length L.length).map aB) ->du 200 #[.slice (some ⟨c,0,none⟩) L.length L.length,.slice (some ⟨d,0,none⟩) L.length L.length] U fun e w'=>e=.returned (.bool (decide (jU L=(lI (aN L) L.length L.length).map aB)))/\ef U w'):=fun g c d U u x=>afG c d L.length L.length L.length _ _ U (Z1 L) (by rw[dM,acH]) (by have:=(rX g).2.1;omega) u x;generalize uf L=nb at *;generalize decide (jU L=(lI (aN L) L.length L.length).map aB)=t at *;generalize (lI (aN L) L.length L.length).map aB=J at *;clear h p;go_enter Tryz.func152,Tryz.ntmps152;go_wp2_with fail
 refine F.o.af ?_;rintro e K ⟨f,⟨g,G,rfl,z,b⟩ |⟨g,v,rfl⟩⟩
 ·have HC:=hid (y.o g G);have E:=hid (q.o g G);rw[g] at k;have i:=hid b;have H:=hid f;clear b f y q;go_wp2_with fail
  refine(HC.o _ i.o).af ?_;rintro e M ⟨rfl,s,m⟩;have j:=hid (i.o.aa m i.o.lt);have D:=hid s;have A:=hid (H.o.trans (m.af H.o.size));clear s m HC;go_wp2_with fail
  refine(E.o _ _ j.o D.o).af ?_;rintro e O ⟨rfl,n⟩;have I:=hid (j.o.aa n j.o.lt);have r:=hid (A.o.trans (n.af A.o.size));clear n E;cases t
  ·go_wp2;go_ret2;exact⟨r.o,.inr ⟨k.o,rfl⟩⟩
  ·go_wp2;go_ret2;exact⟨r.o,.inl ⟨k.o,G,rfl,z,I.o⟩⟩
 ·rw[g] at k;have H:=hid f;clear f y q g;go_wp2;go_ret2;exact⟨H.o,.inr ⟨k.o,rfl⟩⟩
theorem xN.cells {B:Nat} {v:Value} {l:List Nat} (h:xN w B v l):∃d i,v=.slice d l.length i/\∀k (f:k<l.length),∃g o,d=some ⟨g,o,none⟩/\g<w.heap.size/\w.cell? ⟨g,o+k,none⟩=some (.int .u32 (l[k]:Nat)):=by
 rcases h.2 with ⟨a,b⟩ |⟨g,cap,r,a,b,c,p,q,s,m⟩
 ·have:l=[]:=I0.1 b;subst this;exact⟨none,0,a,fun k f=>absurd f aE⟩
 ·refine⟨_,_,a,fun j n=>⟨g,0,rfl,(cJ.1 c).1,?_⟩⟩;rw[bB,bG w g j _ _ (0,0) c]
  have e:r[j]? =(r.toList.take (l.length*1))[j]?:=by
   rw[pI,aA al,uU]
  rw[e,m,lU,bj n];rfl
def FlR (L:List (List Int)) (e:Ending) (w':World):Prop:=
 (uf L=true/\∃d cd G,e=.returned (.tuple #[.slice d L.length cd,.slice (some ⟨G,0,none⟩) L.length L.length,.int .i64 0])/\aJ w' d (iL (bC (aN L) L.length L.length).ord)/\gW w' (some ⟨G,0,none⟩) ((bC (aN L) L.length L.length).bag.map gP))∨
 (uf L=false/\e=.returned (.tuple #[.slice none 0 0,.slice none 0 0,.int .i64 11]))
theorem akI (a:Option Addr) (ca:Nat) (L:List (List Int)) (w:World) (h:gW w a L) (F:∀l∈L,l.length<=140737488355328):
  du 100 #[.slice a L.length ca] w fun e w'=>FlR L e w'/\ef w w':=by
 have Q:=hid (af4 a ca L w h F)
 have v:Hid (uf L=true ->∀(G:Nat) (U:World),cF U G (jU L) ->du 153 #[.slice (some ⟨G,0,none⟩) L.length L.length] U fun e w'=>∃nv bv,e=.returned (.tuple #[nv,bv])/\nE U w' G nv bv (iL (bC (aN L) L.length L.length).ord) ((bC (aN L) L.length L.length).bag.map aB) ((bC (aN L) L.length L.length).nei.map aB)):=fun n G U i=>by
  have f:gB L=true:=by
   rw[uf,kj] at n;exact n.1
  rw[Gp] at i;exact akC G L.length L.length (aN L) U (rX f).1 (rX f).2.1 i (Gl f)
 have M:Hid (uf L=true ->(bC (aN L) L.length L.length).ord.length=L.length/\(bC (aN L) L.length L.length).bag.length=L.length/\L.length<=8/\∀p∈(bC (aN L) L.length L.length).bag,∀u∈p,u<8):=fun n=>by
  have f:gB L=true:=by
   rw[uf,kj] at n;exact n.1
  have z:=(rX f).2.1;have r:=(rX f).1;have b:=fun k=>O1 (Gl f) k;refine⟨(b L.length).2.2.1,(b L.length).2.2.2,z,?_⟩
  have ae:∀k,∀p∈(bC (aN L) L.length k).bag,∀u∈p,u<8:=fun k=>by
   induction k with
   |zero=>intro p c;simp[bC] at c
   |succ k ih=>
    intro p c u j;rw[bC] at c;rcases ck.1 c with c |c
    ·exact ih p c u j
    ·rw[dT.1 c] at j;rcases dU.1 j with rfl |j
     ·have:=ab5 (P:=(bC (aN L) L.length k).nei) r (b k).2.1;omega
     ·have:=(b k).1.at _ u j;omega
  exact ae _
 clear h F;go_enter Tryz.func100,Tryz.ntmps100;go_wp2_with fail
 refine Q.o.af ?_;rintro e w1 ⟨m,⟨n,G,rfl,hG,i⟩ |⟨n,rfl⟩⟩
 ·have T:=hid (v.o n G _ i);obtain⟨ho,O,z,Z⟩:=M.o n;have q:=hid n;have H:=hid m;have eV:=hid Z;clear i m v M n Z;generalize hS:bC (aN L) L.length L.length=S at *;have D:=hid hS;clear hS;go_wp2_with fail
  refine T.o.af ?_;rintro e J ⟨nv,bv,rfl,X⟩;obtain⟨d,cd,rfl,I⟩:=X.nd.ints;obtain⟨d2,ad,rfl,E⟩:=X.bg.cells;have A:Hid (ef w J):=⟨X.grow.os.trans H.o.os,X.grow.tape.trans H.o.tape,X.grow.output.trans H.o.output,aR H.o.size X.grow.size,fun k b=>(X.grow.block k (aU b H.o.size) (fun e=>by have:=oP e;omega)).trans (H.o.block k b)⟩;have x:(iL S.ord).length=L.length:=by rw[bI];exact ho
  have y:(S.bag.map aB).length=L.length:=by rw[dM];exact O
  rw[x,y]
  have t:=hid (aaa d2 ad S.bag J eV.o al (fun k b=>by
   obtain⟨g,o,r,h2,h3⟩:=E k (by rw[dM];exact b);exact⟨g,o,r,h2,by rw[h3,nO]⟩))
  rw[O] at t;have V:=hid I;clear X I E x y;go_wp2_with fail
  refine t.o.af ?_;rintro e w3 ⟨R,rfl,OL,K,s⟩;have ab:=hid (V.o.aa s);have Y:=hid K;have iE:=hid (A.o.trans (s.af A.o.size));clear s K;go_wp2;refine cj (results_tmp3 rfl _ _ _) rfl ?_;exact⟨.inl ⟨q.o,d,cd,R,rfl,by rw[D.o];exact ab.o,by rw[D.o];exact Y.o⟩,iE.o⟩
 ·have q:=hid n;have H:=hid m;clear n m;go_wp2;refine cj (results_tmp3 rfl _ _ _) rfl ?_;exact⟨.inr ⟨q.o,rfl⟩,H.o⟩
variable {xs:List Value} {n s:Nat} {w':World}
def AV (t:TypeId) (w w':World):Prop:=∀(k:Nat) (c:Array Value) (fr:Nat×Nat),w.heap[k]? =some (Obj.cells c t fr) ->w'.heap[k]? =some (Obj.cells c t fr)
theorem AV.aa {t:TypeId} (b:ef w w'):AV t w w':=fun k _ _ h=>(b.block k (cJ.1 h).1).trans h
theorem Ge {B:Nat} {e:TypeId} {v:Value} (h:w.ownsRow B e s v n xs) (k:AV e w w'):w'.ownsRow B e s v n xs:=by
 refine⟨h.1,?_⟩;rcases h.2 with a |⟨g,cap,r,a,b,c,d⟩
 ·exact .inl a
 ·exact .inr ⟨g,cap,r,a,b,k _ _ _ c,d⟩
variable {ops:Array Oper} {Q:Exit ->Act ->World ->Prop} {rest:List Oper}
theorem ad2 {o:Oper} {a:Act} (R:o.guard=none) (s x:Operand)
  (F:o.op=.call {callee:=.builtin .append,args:= #[s,x],argTypes:= #[22,22]}) (base:Nat) (v:Value) (l:List Int) (f:Int) (H:a.eval s=v) (q:bP w base v l) (g:Nat) (I:a.eval x=.slice (some ⟨g,0,none⟩) 1 1) (E:w.cell? ⟨g,0,none⟩=some (.int .i64 f)) (ae:l.length+1<=100000) (V:base<=w.heap.size)
  (h:∀v' w',bP w' base v' (l++[f]) ->w.grownBy w' v.ownBlock ->(v'.ownBlock=v.ownBlock∨∀k,v'.ownBlock=some k ->w.heap.size<=k) ->wpList Tryz.prog ops Q rest (a.put o.dst v') w'):wpList Tryz.prog ops Q (o::rest) a w:=by
 obtain⟨i,M,m,z,p⟩:=dJ Tryz.infoInt
 have n:∀j u,[Value.int .i64 f][j]? =some u ->w.cell? ((⟨g,0,none⟩:Addr).add j)=some u:=fun j u c=>by
  match j,c with
  |0,c=>cases c;exact E
  |j+1,c=>simp at c
 have U:∀u∈[Value.int .i64 f],u.oneCell'=true:=fun u t=>by
  simp only[dU,nL,tV] at t;subst t;rfl
 have S:l.length+1<=maxLen:=by unfold maxLen;omega
 obtain⟨v',w',r,A,D, -⟩:=run_append_own (P:=Tryz.prog) w base 22 o.type 3 i (.int .i64 0) 1 8 Tryz.underlying22 M m z p rfl bd v l.length _ q ⟨g,0,none⟩ 1 1 [.int .i64 f] rfl n U S al V
 have T:v'.ownBlock=v.ownBlock∨∀k,v'.ownBlock=some k ->w.heap.size<=k:=by
  rcases q.2 with ⟨b,Z⟩ |⟨g',cap,L,b,ab,J,Y,ad,O,aa⟩
  ·right
   have e:=run_append_nil (P:=Tryz.prog) w 22 o.type 3 i (.int .i64 0) Tryz.underlying22 M m ⟨g,0,none⟩ 1 1 [.int .i64 f] (by rw[z];rfl) n bd bd (by rw[p];decide);rw[b] at r;rw[r] at e;cases e;intro k d;cases d;exact aq _
  ·rw[b] at r;by_cases X:l.length+1<=cap
   ·left
    have e:=run_append_room (P:=Tryz.prog) w 22 o.type 3 i Tryz.underlying22 M g' l.length cap L J ⟨g,0,none⟩ 1 1 [.int .i64 f] (by rw[z];rfl) n U X (by rw[z,O];simp;omega);rw[r] at e;cases e;rw[b];rfl
   ·right
    have y:=q;rw[b] at y;have e:=run_append_grow (P:=Tryz.prog) w 22 o.type 3 i (.int .i64 0) Tryz.underlying22 M m ⟨g',0,none⟩ l.length cap (l.map (Value.int .i64)) (by rw[z];simp) (World.ownsRow.cells y rfl) ⟨g,0,none⟩ 1 1 [.int .i64 f] (by rw[z];rfl) n al al (FN al (by rw[p];omega));rw[r] at e;cases e;intro k d;cases d;exact aq _
 refine wpList_plain R fun _ K=>?_;unfold Oper.wp execOp;simp only[F,resolve,invoke,builtin,IH,Bz,wB,IY,iy,nM,H,I,r];refine K _ _ (h v' w' ?_ D T);rw[bP,bK,eP];exact A
section
attribute [local go_sem] Oper.semAt_some
theorem Yw {P:Program} (w:World) (base:Nat) (t y e:TypeId) (i:TypeInfo) (z:Value) (d A:Nat) (o:P.underlying t=some (.slice e)) (g:P.info? e=some i) (r:i.zero=some z) (K:i.size=d) (I:i.bytes=A) (X:z.cells.size=d) (V:0<d)
  (v:Value) (n:Nat) (xs:List Value) (x:w.ownsRow base e d v n xs) (a:Addr) (m c:Nat) (s:List Value) (l:s.length=m*d) (p:∀j u,s[j]? =some u ->w.cell? (a.add j)=some u) (h1:∀u∈s,u.oneCell'=true)
  (H:n+m<=maxLen) (E:(n+m)*A<=140737488355328) (Y:base<=w.heap.size) (R:0<m):
  ∃v' w',(Builtin.append_ #[t,t] y #[v,.slice (some a) m c]).run P w=.ok v' w'/\w'.ownsRow base e d v' (n+m) (xs++s)/\w.grownBy w' v.ownBlock/\(v'.ownBlock=v.ownBlock∨∀k,v'.ownBlock=some k ->w.heap.size<=k):=by
 obtain⟨v',w',h,L,M, -⟩:=run_append_own (P:=P) w base t y e i z d A o g r K I X V v n xs x a m c s l p h1 H E Y;refine⟨v',w',h,L,M,?_⟩;have ab:n+m<=9223372036854775807:=by simp only[maxLen] at H;omega
 subst K;subst I
 rcases x.2 with ⟨f,O⟩ |⟨g',cap,F,f,ad,S,Z,ae,U,aa⟩
 ·right
  have b:=run_append_nil (P:=P) w t y e i z o g r a m c s l p R al (by
   have Q:=E;rw[O,bB] at Q;omega)
  rw[f] at h;rw[h] at b;cases b;intro k q;cases q;exact aq _
 ·rw[f] at h;by_cases J:n+m<=cap
  ·left
   (have T:n*i.size+s.length<=F.size:=by rw[l,U, <- fF];exact lS _ J);have b:=run_append_room (P:=P) w t y e i o g g' n cap F S a m c s l p h1 J T;rw[h] at b;cases b;rw[f];rfl
  ·right
   have D:=x;rw[f] at D;have b:=run_append_grow (P:=P) w t y e i z o g r ⟨g',0,none⟩ n cap xs D.1 (World.ownsRow.cells D rfl) a m c s l p al al (FN al E);rw[h] at b;cases b;intro k q;cases q;exact aq _
end
variable {l:List Fr} {P:List Tb} {cb cc m:Nat} {a:Option Addr} {v' x y:Value} {W':World}
def ei (w:World) (x y:Value) (t:Tb):Prop:=∃b c cb cc,x=.slice b t.1.length cb/\y=.slice c t.2.length cc/\aJ w b t.1/\aW w c t.2/\(b=none ->cb=0)
theorem ei.aa {t:Tb} (h:ei w x y t) (a:ef w w'):ei w' x y t:=by
 obtain⟨b,c,cb,cc,d,e,f,g,i⟩:=h;exact⟨b,c,cb,cc,d,e,f.aa a,g.aa a,i⟩
def iu (w:World) (a:Option Addr) (P:List Tb):Prop:=∀k (h:k<P.length),∃g o x y,a=some ⟨g,o,none⟩/\g<w.heap.size/\w.cell? ⟨g,o+k*2,none⟩=some x/\w.cell? ⟨g,o+k*2+1,none⟩=some y/\ei w x y P[k]
theorem iu.aa (h:iu w a P) (b:ef w w'):iu w' a P:=fun k j=>by
 obtain⟨g,o,x,y,d,c,e,f,i⟩:=h k j;exact⟨g,o,x,y,d,aU c b.size,(b.cell (p:=⟨g,_,none⟩) c).trans e,(b.cell (p:=⟨g,_,none⟩) c).trans f,i.aa b⟩
def eM:List (Value×Value) ->List Value
 |[]=>[]
 |p::l=>p.1::p.2::eM l
theorem Jn:∀l,(eM l).length=l.length*2
 |[]=>rfl
 |p::l=>by
  show (eM l).length+1+1=(l.length+1)*2;rw[Jn l];omega
theorem Jo (m:List (Value×Value)):∀l,eM (l++m)=eM l++eM m
 |[]=>rfl
 |q::l=>by
  show _::_::eM (l++m)=_::_::(eM l++eM m);rw[Jo m l]
theorem MX:∀(l:List (Value×Value)) (k:Nat) (h:k<l.length),(eM l)[k*2]? =some l[k].1/\(eM l)[k*2+1]? =some l[k].2
 |p::l,0,_=>⟨rfl,rfl⟩
 |p::l,k+1,h=>by
  have:=MX l k (by simpa using h);rw[show (k+1)*2=k*2+1+1 by omega];exact this
def gA (R:Nat) (t:Tb) (p:Value×Value):Prop:=(∀g o n c,p.1=.slice (some ⟨g,o,none⟩) n c ->t.1≠[] ->g≠R)/\∀g o n c,p.2=.slice (some ⟨g,o,none⟩) n c ->t.2≠[] ->g≠R
structure lN (w:World) (B:Nat) (v:Value) (Q:List (Value×Value)) (P:List Tb):Prop where
 len:Q.length=P.length
 own:w.ownsRow B 49 2 v P.length (eM Q)
 val:∀k (h:k<P.length) (h':k<Q.length),ei w Q[k].1 Q[k].2 P[k]
 far:∀R,v.ownBlock=some R ->∀k (h:k<P.length) (h':k<Q.length),gA R P[k] Q[k]
theorem lN.nil (w:World) (B:Nat):lN w B (.slice none 0 0) [] []:=⟨rfl,⟨rfl,.inl ⟨rfl,rfl⟩⟩,(fun k h=>absurd h aE),fun R e=>by cases e⟩
theorem lN.row {B:Nat} {v:Value} {Q:List (Value×Value)} (h:lN w B v Q P):∃a c,v=.slice a P.length c/\iu w a P:=by
 rcases h.own.2 with ⟨d,i⟩ |⟨g,cap,t,d,i,l,p,r,s,n⟩
 ·exact⟨none,0,by rw[d,i],fun k b=>absurd b al⟩
 ·refine⟨_,cap,d,fun k b=>?_⟩;have f:k<Q.length:=by rw[h.len];exact b
  obtain⟨q,o⟩:=MX Q k f;have x:=Jn Q
  have m:∀j u,(eM Q)[j]? =some u ->w.cell? ⟨g,j,none⟩=some u:=fun j u e=>by
   rw[bG w g j _ _ (0,0) l];have y:=(mH.1 e).1;rw[<- n,pI,aA (by have:=h.len;omega),uU] at e;exact e
  exact⟨g,0,_,_,rfl,(cJ.1 l).1,by rw[bB];exact m _ _ q,by rw[bB];exact m _ _ o,h.val k b f⟩
theorem JM {W:World} {R:Option Nat} {b:Option Addr} {l:List Int} (h:aJ W b l) (n:∀g o,b=some ⟨g,o,none⟩ ->l≠[] ->some g≠R) (a:W.grownBy W' R):aJ W' b l:=fun k f=>by
 obtain⟨g,o,e,c,d⟩:=h k f;have i:=n g o e (fun e=>by rw[e] at f;exact absurd f aE);exact⟨g,o,e,aU c a.size,(nH (a.block g c i)).trans d⟩
theorem ak2 {W:World} {R:Option Nat} {b:Option Addr} (h:aW W b l) (p:∀g o,b=some ⟨g,o,none⟩ ->l≠[] ->some g≠R) (i:W.grownBy W' R):aW W' b l:=fun k f=>by
 obtain⟨g,o,e,d,j,m,n⟩:=h k f;have q:=p g o e (fun e=>by rw[e] at f;exact absurd f aE);have c:=i.block g d q;exact⟨g,o,e,aU d i.size,(nH (a:=⟨g,_,none⟩) c).trans j,(nH (a:=⟨g,_,none⟩) c).trans m,(nH (a:=⟨g,_,none⟩) c).trans n⟩
theorem ei.keepR {W:World} {R:Option Nat} {t:Tb} (h:ei W x y t) (f:∀r,R=some r ->gA r t (x,y)) (d:W.grownBy W' R):ei W' x y t:=by
 obtain⟨b,c,cb,cc,rfl,rfl,i,j,k⟩:=h;refine⟨b,c,cb,cc,rfl,rfl,JM i (fun g o e n a=>?_) d,ak2 j (fun g o e n a=>?_) d,k⟩
 ·exact(f g a.symm).1 g o _ _ (by rw[e]) n rfl
 ·exact(f g a.symm).2 g o _ _ (by rw[e]) n rfl
theorem ei.lt {t:Tb} (h:ei w x y t) {R:Nat} (p:w.heap.size<=R):gA R t (x,y):=by
 obtain⟨b,c,cb,cc,rfl,rfl,i,j,m⟩:=h;refine⟨fun g o n f e d k=>?_,fun g o n f e d k=>?_⟩
 ·injection e with e1 _ _;obtain⟨g',o',a,I,_⟩:=i 0 (by cases ht:t.1 with |nil=>exact absurd ht d |cons x l=>simp);rw[e1] at a;cases a;omega
 ·injection e with e1 _ _;obtain⟨g',o',a,I,_⟩:=j 0 (by cases ht:t.2 with |nil=>exact absurd ht d |cons x l=>simp);rw[e1] at a;cases a;omega
theorem lN.push {B:Nat} {v:Value} {Q:List (Value×Value)} {t:Tb} (h:lN w B v Q P) (d:ei w x y t) (b:∀R,v.ownBlock=some R ->gA R t (x,y)) (o:w'.ownsRow B 49 2 v' (P.length+1) (eM Q++[x,y])) (c:w.grownBy w' v.ownBlock) (n:v'.ownBlock=v.ownBlock∨∀k,v'.ownBlock=some k ->w.heap.size<=k):lN w' B v' (Q++[(x,y)]) (P++[t]):=by
 have e:(P++[t]).length=P.length+1:=aE
 refine⟨by simp[h.len],by rw[e,Jo];exact o,fun k i H=>?_,fun R a k i H=>?_⟩
 ·by_cases f:k<P.length
  ·have g:k<Q.length:=by rw[h.len];exact f
   rw[sH g,sH f];exact(h.val k f g).keepR (fun r j=>h.far r j k f g) c
  ·have g:¬k<Q.length:=by rw[h.len];exact f
   rw[tY al,tY al];simp only[ME];exact d.keepR b c
 ·by_cases f:k<P.length
  ·have g:k<Q.length:=by rw[h.len];exact f
   rw[sH g,sH f];rcases n with n |n
   ·exact h.far R (by rw[<- n];exact a) k f g
   ·exact(h.val k f g).lt (n R a)
  ·have g:¬k<Q.length:=by rw[h.len];exact f
   rw[tY al,tY al];simp only[ME];rcases n with n |n
   ·exact b R (by rw[<- n];exact a)
   ·exact d.lt (n R a)
theorem lN.under {B:Nat} {v:Value} {Q:List (Value×Value)} (h:lN w B v Q P) (b:ef w w'):lN w' B v Q P:=
 ⟨h.len,Ge h.own (AV.aa b),fun k a c=>(h.val k a c).aa b,h.far⟩
theorem lN.lt {B:Nat} {v:Value} {Q:List (Value×Value)} (h:lN w B v Q P):∀R,v.ownBlock=some R ->B<=R/\R<w.heap.size:=fun R a=>by
 rcases h.own.2 with ⟨b,c⟩ |⟨g,cap,r,b,c,d,_⟩
 ·rw[b] at a;cases a
 ·rw[b] at a;cases a;exact⟨c,(cJ.1 d).1⟩
theorem gA.new {B R:Nat} {t:Tb} {b c:Option Addr} (h:ij B b cb) (d:ij B c cc) (f:R<B):gA R t (.slice b n cb,.slice c m cc):=
 ⟨fun g o n' a e _=>by
  injection e with e1 _ _;have:=h.2 g o e1;omega,fun g o n' a e _=>by
  injection e with e1 _ _;have:=d.2 g o e1;omega⟩
theorem Tryz.infoTable:(Tryz.prog.info? 49).map (fun i=>(i.zero,i.size,i.bytes))=some (some (.agg #[.slice none 0 0,.slice none 0 0]),2,48):=ao
variable {D E c d:Nat} {p q:Rat}
def eR (D:Nat) (q:Rat):Prop:=∃z:Int,q=mkRat z D
theorem eR.own (q:Rat):eR q.den q:=⟨q.num,(Rat.mkRat_self q).symm⟩
theorem eR.zero (D:Nat):eR D 0:=⟨0,aE⟩
theorem eR.one:eR 1 1:=⟨1,rfl⟩
theorem eR.add (h:eR D p) (a:eR D q):eR D (p+q):=by
 obtain⟨x,rfl⟩:=h;obtain⟨y,rfl⟩:=a;refine⟨x+y,?_⟩;rw[IL,IL,IL,rC,rC,rC, <- Rat.add_mul,Rat.intCast_add]
theorem eR.mul (h:eR D p) (a:eR E q):eR (D*E) (p*q):=by
 obtain⟨x,rfl⟩:=h;obtain⟨y,rfl⟩:=a;exact⟨x*y,Rat.mkRat_mul_mkRat ..⟩
theorem eR.times (a:D≠0) (h:eR D q) (b:E≠0):eR (D*E) q:=by
 obtain⟨x,rfl⟩:=h;refine⟨x*E,?_⟩;rw[Rat.mkRat_eq_iff a (Dy a b),lW,Int.mul_assoc,Int.mul_comm (E:Int)]
theorem eR.dvd (a:D≠0) (h:eR D q):q.den∣D:=by
 obtain⟨x,rfl⟩:=h;rw[<- Rat.normalize_eq_mkRat a,Rat.normalize_eq];exact Nat.div_dvd_of_dvd (Nat.gcd_dvd_right _ _)
def k9 (c:Nat) (q:Rat):Prop:=0<=q/\q<=(c:Rat)
theorem eR.size (b:D≠0) (h:eR D q) (d:k9 c q):qw q<=2*(B D).size+(B c).size:=by
 have e:=Nat.le_of_dvd (lR b) (h.dvd b);have a:=(Rat.le_iff _ _).1 d.2;have i:=Rat.num_nonneg.2 d.1
 have j:q.num.natAbs<=c*D:=by
  have f:((c:Nat):Rat).num=(c:Int):=rfl;have g:((c:Nat):Rat).den=1:=rfl;rw[f,g] at a;have k:(c:Int)*(q.den:Int)<=(c:Int)*(D:Int):=Int.mul_le_mul_of_nonneg_left (Int.ofNat_le.2 e) (ML c)
  have l:q.num<=(c:Int)*(D:Int):=by
   (have:q.num*((1:Nat):Int)=q.num:=aE);rw[this] at a;exact Int.le_trans a k
  have m:((q.num.natAbs:Nat):Int)=q.num:=Int.natAbs_of_nonneg i;have n:((q.num.natAbs:Nat):Int)<=((c*D:Nat):Int):=by rw[m,lW];exact l
  exact Int.ofNat_le.1 n
 have s:=lY j;have o:=yH c D;have p:=lY e;simp only[qw];omega
theorem k9.mul (h:k9 c p) (a:k9 d q):k9 (c*d) (p*q):=by
 refine⟨IK h.1 a.1,?_⟩;rw[zP];exact ym (WH h.2 a.1) (WI a.2 (ym h.1 h.2))
theorem k9.add (h:k9 c p) (a:k9 d q):k9 (c+d) (p+q):=by
 refine⟨Rat.add_nonneg h.1 a.1,?_⟩;rw[Rat.natCast_add];exact ym (QB.2 h.2) (QC.2 a.2)
theorem eR.sum {g:Nat ->Rat}:∀ {k:Nat},(∀x,x< k ->eR D (g x)) ->eR D (bq g k)
 |0,_=>eR.zero D
 |k+1,h=>by rw[bq];exact(eR.sum fun x a=>h x al).add (h k (Nat.lt_succ_self k))
theorem k9.sum {g:Nat ->Rat}:∀ {k:Nat},(∀x,x< k ->k9 c (g x)) ->k9 (k*c) (bq g k)
 |0,_=>by rw[bq,jO];exact⟨Dx,Dx⟩
 |k+1,h=>by rw[bq,Nat.succ_mul];exact(k9.sum fun x a=>h x al).add (h k (Nat.lt_succ_self k))
variable {R:List (List Fr)} {S:List Nat} {v:Nat} {f:Nat ->Nat}
structure oA (S:List Nat) (t:Tb) (D c:Nat):Prop where
 nz:D≠0
 one:1<=c
 isD:∀g,Fit S g ->eR D (tQ S (tN t) g)
 btw:∀g,Fit S g ->k9 c (tQ S (tN t) g)
def PD (S:List Nat) (P:List Tb) (D c:Nat):Prop:=∀M:List Tb ->Nat ->Nat ->Prop,M [] 1 1 ->(∀t P D c E d,oA S t D c ->M P E d ->M (t::P) (D*E) (c*d)) ->M P D c
theorem PD.nil:PD S [] 1 1:=fun _ h _=>h
theorem PD.cons {t:Tb} (h:oA S t D c) (p:PD S P E d):PD S (t::P) (D*E) (c*d):=fun M b a=>a _ _ _ _ _ _ h (p M b a)
theorem PD.ind {M:∀P D c,PD S P D c ->Prop} (nil:M [] 1 1 .nil) (cons:∀ {t:Tb} {P:List Tb} {D c E d:Nat} (h:oA S t D c) (p:PD S P E d),M P E d p ->M (t::P) (D*E) (c*d) (.cons h p)):∀ {P:List Tb} {D c:Nat} (h:PD S P D c),M P D c h:=fun {_ _ _} h=>by
 obtain⟨_,k⟩:=h (fun P D c=>∃h,M P D c h) ⟨_,nil⟩ (fun _ _ _ _ _ _ a ⟨_,i⟩=>⟨_,cons a _ i⟩);exact k
theorem PD.nz (h:PD S P D c):D≠0/\1<=c:=by
 induction h using PD.ind with
 |nil=>exact⟨bd,bd⟩
 |cons ht _ ih=>exact⟨Dy ht.nz ih.1,iO ht.one ih.2⟩
theorem PD.append {Q:List Tb} (h:PD S P D c) (q:PD S Q E d):PD S (P++Q) (D*E) (c*d):=by
 induction h using PD.ind with
 |nil=>rw[jP,jP];exact q
 |cons ht _ ih=>rw[iP,iP];exact PD.cons ht ih
theorem PD.single {t:Tb} (h:oA S t D c):PD S [t] D c:=by
 have:=PD.cons h (PD.nil (S:=S));rwa [kF,kF] at this
theorem PD.parts (p:Tb ->Bool) (h:PD S P D c):∃a e b f,PD S (P.filter fun t=>!p t) a e/\PD S (P.filter p) b f/\a*b=D/\e*f=c:=by
 induction h using PD.ind with
 |nil=>exact⟨1,1,1,1,.nil,.nil,rfl,rfl⟩
 | @cons t P D c E d ht _ ih=>
  obtain⟨a,e,b,f,g,i,rfl,rfl⟩:=ih;cases hp:p t with
  |false=>
   refine⟨D*a,c*e,b,f,?_,?_,iP ..,iP ..⟩
   ·rw[BI (by simp[hp])];exact .cons ht g
   ·rw[BK (by simp[hp])];exact i
  |true=>
   refine⟨a,e,D*b,c*f,?_,?_,zR ..,zR ..⟩
   ·rw[BK (by simp[hp])];exact g
   ·rw[BI hp];exact .cons ht i
theorem PD.prod (h:PD S P D c) {g:Nat ->Nat} (a:Fit S g):eR D (pQ S g (P.map tN))/\k9 c (pQ S g (P.map tN)):=by
 induction h using PD.ind with
 |nil=>exact⟨eR.one,by rw[nM,pQ];exact⟨bd,bd⟩⟩
 |cons ht _ ih=>rw[iy,pQ];exact⟨(ht.isD g a).mul ih.1,(ht.btw g a).mul ih.2⟩
theorem PD.all (p:Pos S) (o:∀t∈P,dP S n t) (h:PD S P D c):oA S (allT S P) D c:=by
 obtain⟨_,_,b⟩:=zl p o;exact⟨h.nz.1,h.nz.2,fun g a=>by rw[b g a];exact(h.prod a).1,fun g a=>by rw[b g a];exact(h.prod a).2⟩
theorem oA.o (p:Pos S) {t:Tb} (o:dP S n t) (h:oA S t D c) (v:Nat):oA S (outT S v false t) D (sz S v*c):=by
 have e:∀g,Fit S g ->tQ S (tN (outT S v false t)) g=bq (fun x=>tQ S (tN t) (aM g v x)) (sz S v):=fun g a=>XE p (uh o.up _).nodup (B6 o.up v) _ a;refine⟨h.nz,iO (nT p v) h.one,fun g a=>?_,fun g a=>?_⟩
 ·rw[e g a];exact eR.sum fun x b=>h.isD _ (a.with b)
 ·rw[e g a];exact k9.sum fun x b=>h.btw _ (a.with b)
theorem oA.most (p:Pos S) {t:Tb} (o:dP S n t) (h:oA S t D c) (v:Nat):oA S (outT S v true t) D c:=by
 have s:=nT p v
 have e:∀g,Fit S g ->∃x,x<sz S v/\tQ S (tN (outT S v true t)) g=tQ S (tN t) (aM g v x):=fun g a=>by
  have d:tQ S (tN (outT S v true t)) g=jT true (fun x=>tQ S (tN t) (aM g v x)) (sz S v - 1):=XF p (uh o.up _).nodup (B6 o.up v) _ a;obtain⟨x,b,f⟩:=JE (fun x=>tQ S (tN t) (aM g v x)) (sz S v - 1);exact⟨x,al,d.trans f⟩
 refine⟨h.nz,h.one,fun g a=>?_,fun g a=>?_⟩
 ·obtain⟨x,b,e⟩:=e g a;rw[e];exact h.isD _ (a.with b)
 ·obtain⟨x,b,e⟩:=e g a;rw[e];exact h.btw _ (a.with b)
theorem oA.fix (p:Pos S) {t:Tb} (o:dP S n t) (h:oA S t D c) {x:Nat} (b:x<sz S v):oA S (kR S v x t) D c:=by
 have e:∀g,Fit S g ->tQ S (tN (kR S v x t)) g=tQ S (tN t) (aM g v x):=fun g a=>Q9 p (uh o.up _).nodup (B6 o.up v) _ a;exact⟨h.nz,h.one,fun g a=>by rw[e g a];exact h.isD _ (a.with b),fun g a=>by rw[e g a];exact h.btw _ (a.with b)⟩
theorem PD.o (p:Pos S) (e:∀t∈P,dP S n t) (h:PD S P D c) (v:Nat):PD S (lq S v false P) D (sz S v*c):=by
 obtain⟨g,j,i,k,b,d,rfl,rfl⟩:=h.parts fun t=>decide (v∈ag t.1);have a:∀t∈P.filter (fun t=>decide (v∈ag t.1)),dP S n t:=fun t f=>e t (eL.1 f).1;have:=b.append (PD.single ((d.all p a).o p (zl p a).1 v));rw[zR] at this;exact this
theorem PD.most (p:Pos S) (d:∀t∈P,dP S n t) (h:PD S P D c) (v:Nat):PD S (lq S v true P) D c:=by
 obtain⟨f,i,g,j,a,b,rfl,rfl⟩:=h.parts fun t=>decide (v∈ag t.1);have o:∀t∈P.filter (fun t=>decide (v∈ag t.1)),dP S n t:=fun t e=>d t (eL.1 e).1;exact a.append (PD.single ((b.all p o).most p (zl p o).1 v))
theorem PD.fix (p:Pos S) (h:PD S P D c) (o:∀t∈P,dP S n t) {x:Nat} (a:x<sz S v):PD S (P.map (kR S v x)) D c:=by
 induction h using PD.ind with
 |nil=>exact .nil
 |cons ht _ ih=>exact .cons (ht.fix p (o _ dp) a) (ih fun t h=>o t (dF _ h))
theorem oA.size {t:Tb} (h:oA S t D c) {g:Nat ->Nat} (a:Fit S g):qw (tQ S (tN t) g)<=2*(B D).size+(B c).size:=(h.isD g a).size h.nz (h.btw g a)
def vI:List Fr ->Nat
 |[]=>1
 |f::l=>(aQ f).den*vI l
theorem KY:∀l,vI l≠0
 |[]=>bd
 |f::l=>Dy (aQ f).den_nz (KY l)
theorem acq:∀ {l:List Fr} {f:Fr},f∈l ->eR (vI l) (aQ f)
 |g::l,f,h=>by
  rcases dU.1 h with rfl |h
  ·exact(eR.own _).times (aQ f).den_nz (KY l)
  ·rw[vI,dK];exact(acq h).times (KY l) (aQ g).den_nz
def gS (R:List (List Fr)):List Nat ->Nat
 |[]=>1
 |v::vs=>vI (R.getD v [])*gS R vs
theorem aiP {V:List Vr} (h0:bH V L R=0) (l:v<V.length) (b:Fit (aw V) f):aQ (fg V L R f v)<=1:=by
 have n:=row_one h0 l b
 have r:∀ {g:Nat ->Rat} {k x:Nat},x< k ->(∀y,y< k ->0<=g y) ->g x<=bq g k:=fun {g k x} p i=>by
  have Z:∀j,j<=k ->0<=bq g j:=fun j=>by
   induction j with
   |zero=>intro _;exact Dx
   |succ j ih=>intro o;rw[bq];exact Rat.add_nonneg (ih al) (i j al)
  have:∀j,x< j ->j<=k ->g x<=bq g j:=fun j=>by
   induction j with
   |zero=>intro h;omega
   |succ j ih=>
    intro h o;rw[bq];rcases cT x j with m |m
    ·have a:=(QC (c:=bq g j)).2 (i j al);rw[IM] at a;exact ym (ih m al) a
    ·have e:x=j:=al
     have a:=(QB (c:=g j)).2 (Z j al);rw[IJ] at a;rw[e];exact a
  exact this k p (aq _)
 have d:=r (g:=fun x=>aQ (fg V L R (aM f v x) v)) (k:=sz (aw V) v) (b v) fun y q=>Su h0 l (b.with q);rw[n] at d;simpa only[aeh] using d
theorem PD.net {V:List Vr} (h0:bH V L R=0):∀ {ws:List Nat},(∀v∈ws,v<V.length) ->PD (aw V) (ws.map fun v=>(gU L v,gL V L R v)) (gS R ws) 1
 |[],_=>.nil
 |v::ws,h=>by
  have b:=h v dp;have T:=kN h0;have p:v<L.length:=by rw[T.len];exact b
  have q:v<R.length:=by rw[T.lenR];exact b
  have t:oA (aw V) (gU L v,gL V L R v) (vI (R.getD v [])) 1:=by
   have e:∀g,Fit (aw V) g ->tQ (aw V) (tN (gU L v,gL V L R v)) g=aQ (fg V L R g v):=fun g a=>Q8 h0 b a;refine⟨KY _,aq _,fun g a=>?_,fun g a=>?_⟩
   ·rw[e g a,fg,bD];cases hk:(R.getD v [])[qL (aw V) (ag (L.getD v [])) g v]? with
    |none=>exact⟨0,by rw[Option.getD_none];show aQ zi=_;rw[show aQ zi=0 from FV rfl];simp⟩
    |some f=>exact acq (List.mem_of_getElem? hk)
   ·rw[e g a];exact⟨Su h0 b a,aiP h0 b a⟩
  exact PD.cons t (PD.net h0 fun u c=>h u (dF _ c))
theorem alb (S:List Nat) (v x:Nat) (t:Tb):Low (kR S v x t).2:=fun f h=>by
 obtain⟨K,_,rfl⟩:=ba.1 h;rw[mZ]
theorem ahh (S:List Nat) (v:Nat) (m:Bool) (t:Tb):Low (outT S v m t).2:=fun f h=>by
 obtain⟨K,_,rfl⟩:=ba.1 h;rw[mZ]
theorem akH (V:List Vr) (L:List (List Int)) (R:List (List Fr)) (v:Nat):Low (gL V L R v):=fun f h=>by
 obtain⟨K,_,rfl⟩:=ba.1 h;rw[mZ]
structure fW (S:List Nat) (n:Nat) (P:List Tb) (D c:Nat):Prop where
 ok:∀t∈P,dP S n t
 pd:PD S P D c
 low:∀t∈P,Low t.2
theorem PD.each (h:PD S P D c):∀t∈P,∃E d,oA S t E d/\E<=D/\d<=c:=by
 induction h using PD.ind with
 |nil=>intro t g;cases g
 | @cons t P D c E d h1 h2 ih=>
  have n:=h2.nz;have f:=lR n.1;intro u a;rcases dU.1 a with rfl |a
  ·exact⟨D,c,h1,Nat.le_mul_of_pos_right D f,Nat.le_mul_of_pos_right c n.2⟩
  ·obtain⟨b,e,k,i,j⟩:=ih u a;exact⟨b,e,k,aR i (Dz E (lR h1.nz)),aR j (Dz d h1.one)⟩
theorem PD.take (h:PD S P D c):∀k,∃E d,PD S (P.take k) E d/\E<=D/\d<=c:=by
 induction h using PD.ind with
 |nil=>intro k;exact⟨1,1,by rw[List.take_nil];exact .nil,aq _,aq _⟩
 | @cons t P D c E d h1 h2 ih=>
  have n:=h2.nz;intro k;cases k with
  |zero=>
   exact⟨1,1,.nil,Nat.mul_pos (lR h1.nz) (lR n.1),Nat.mul_pos h1.one n.2⟩
  |succ k=>
   obtain⟨a,b,e,f,g⟩:=ih k;exact⟨D*a,c*b,.cons h1 e,jg _ f,jg _ g⟩
theorem PD.filter (h:PD S P D c) (p:Tb ->Bool):∃E d,PD S (P.filter p) E d/\E<=D/\d<=c:=by
 obtain⟨j,k,b,e,i,a,f,g⟩:=h.parts p;have n:=i.nz;have l:=a.nz;exact⟨b,e,a,by rw[<- f];exact Dz _ (lR n.1),by rw[<- g];exact Dz _ n.2⟩
theorem XC (p:Pos S) {t:Tb} (i:dP S n t) (o:Low t.2) (h:oA S t E d) (j:E<=D) (l:d<=c) (s:2*(B D).size+(B c).size+2<=m):Cw m t.2:=fun k a=>by
 have f:k<cnt S (ag t.1):=by rw[<- i.len];exact a
 have e:bD t.2 k=qF (tQ S (tN t) (aY S (ag t.1) k)):=by
  rw[kS a];have:=XB p i o;have b:t.2[k]? =((List.range (cnt S (ag t.1))).map fun K=>qF (tQ S (tN t) (aY S (ag t.1) K)))[k]?:=by rw[<- this]
  rw[bj a,lU,List.getElem?_range f] at b;exact oP b
 have w:=h.size (g:=aY S (ag t.1) k) (fun u=>vK p _ k u f);have q:=lY j;have r:=lY l;rw[e];show (nu _).size+(de _).size+2<=m;have v:(nu (tQ S (tN t) (aY S (ag t.1) k))).size+(de (tQ S (tN t) (aY S (ag t.1) k))).size=qw (tQ S (tN t) (aY S (ag t.1) k)):=rfl;omega
theorem fW.cw (p:Pos S) (h:fW S n P D c) (b:2*(B D).size+(B c).size+2<=m):∀t∈P,Cw m t.2:=fun t a=>by
 obtain⟨E,d,k,e,f⟩:=h.pd.each t a;exact XC p (h.ok t a) (h.low t a) k e f b
theorem fW.part (p:Pos S) (h:fW S n P D c) (b:2*(B D).size+(B c).size+2<=m) (k:Nat):dP S n (allT S (P.take k))/\Cw m (allT S (P.take k)).2:=by
 obtain⟨E,d,f,g,i⟩:=h.pd.take k;have o:∀t∈P.take k,dP S n t:=fun t e=>h.ok t (QK e);have a:=(zl p o).1;exact⟨a,XC p a (acY S _) (PD.all p o f) g i b⟩
theorem fW.filter (h:fW S n P D c) (p:Tb ->Bool):∃E d,fW S n (P.filter p) E d/\E<=D/\d<=c:=by
 obtain⟨E,d,k,b,e⟩:=h.pd.filter p;exact⟨E,d,⟨fun t a=>h.ok t (eL.1 a).1,k,fun t a=>h.low t (eL.1 a).1⟩,b,e⟩
theorem fW.fix (p:Pos S) (h:fW S n P D c) {x:Nat} (d:x<sz S v):fW S n (P.map (kR S v x)) D c:=
 ⟨fun t a=>by
  obtain⟨u,b,rfl⟩:=ba.1 a;exact(h.ok u b).fix v x,h.pd.fix p h.ok d,fun t a=>by
  obtain⟨u,_,rfl⟩:=ba.1 a;exact alb S v x u⟩
theorem Zi (p:Pos S) (h:∀t∈P,dP S n t) (v:Nat) (m:Bool):∀t∈lq S v m P,dP S n t:=fun t a=>by
 rcases ck.1 a with a |a
 ·exact h t (eL.1 a).1
 ·rw[dT.1 a];exact((zl p fun u b=>h u (eL.1 b).1).1).o v m
theorem Zj (h:∀t∈P,Low t.2) (v:Nat) (m:Bool):∀t∈lq S v m P,Low t.2:=fun t a=>by
 rcases ck.1 a with a |a
 ·exact h t (eL.1 a).1
 ·rw[dT.1 a];exact ahh S v m _
theorem fW.o (p:Pos S) (h:fW S n P D c) (v:Nat):fW S n (lq S v false P) D (sz S v*c):=⟨Zi p h.ok v false,h.pd.o p h.ok v,Zj h.low v false⟩
theorem fW.most (p:Pos S) (h:fW S n P D c) (v:Nat):fW S n (lq S v true P) D c:=⟨Zi p h.ok v true,h.pd.most p h.ok v,Zj h.low v true⟩
section
attribute [local go_sem] Oper.semAt_some
theorem amI (a b:Option Addr) (ca cb:Nat) (sizes vars:List Int) (K:Nat) (w:World) (hs:aJ w a sizes) (hv:aJ w b vars) (S:fX sizes) (bJ:Up vars sizes.length) (A:K<cnt (ag sizes) (ag vars)):
  du 204 #[.slice a sizes.length ca,.slice b vars.length cb,.int .i64 (K:Nat)] w fun e w'=>∃(g:Nat) (cc:Nat),e=.returned (.slice (some ⟨g,0,none⟩) (mn (ag sizes) (ag vars) K).length cc)/\w.heap.size<=g/\cM w' g (mn (ag sizes) (ag vars) K)/\ef w w':=by
 refine(ix (n:=6)).1 ?_;have rR:=S.eight;have oY:=bJ.length;have an:cnt (ag sizes) (ag vars)<=65536:=vJ S.sz_le (by rw[gM];omega);have aj:=fun V=>run_make_row' (P:=Tryz.prog) 22 3 (.int .i64 0) 8 Tryz.underlying22 Tryz.infoInt rfl .i64 .i64 vars.length al al V;have HS:=hid hs;have HV:=hid hv;have X:=hid S;have lQ:=hid bJ;have Ey:(mn (ag sizes) (ag vars) K).length=vars.length:=by rw[acw,gM]
 have sB:=hid (amM A);rw[gM] at sB;rw[Ey];clear hs hv S bJ;refine uN Tryz.func204 rfl trivial ?_ rfl;simp only[Tryz.ntmps204,nJ,ew,mG,Nat.reduceAdd,Nat.reduceSub,nR,nQ,nK,mI,jy,fG];gi_wp2_with ((refine⟨trivial,?_⟩;gi_at_call 231;refine(UY _ _ _ _ _).af ?_;rintro e w2 ⟨rfl,rfl⟩))
 obtain⟨m,q⟩:∃m,m=(((((w.alloc (.cells #[.slice a sizes.length ca] 22)).alloc (.cells #[.int .i64 (K:Nat)] 3)).alloc (.cells (madeCells #[.int .i64 0] vars.length) 3)).alloc (.cells #[.slice (some ⟨w.heap.size+1+1,0,none⟩) vars.length vars.length] 22)).alloc (.cells #[.slice b vars.length cb] 22)):=⟨_,rfl⟩;have yZ:m.heap.size=w.heap.size+1+1+1+1+1:=by rw[q];simp
 have b0:Boxed m w.heap.size 22 (.slice a sizes.length ca):=by rw[q];exact((((a8 w _ _).alloc _).alloc _).alloc _).alloc _
 have b1:Boxed m (w.heap.size+1) 3 (.int .i64 (K:Nat)):=by
  have h:=((((a8 (w.alloc (.cells #[.slice a sizes.length ca] 22)) 3 (.int .i64 (K:Nat))).alloc (.cells (madeCells #[.int .i64 0] vars.length) 3)).alloc (.cells #[.slice (some ⟨w.heap.size+1+1,0,none⟩) vars.length vars.length] 22)).alloc (.cells #[.slice b vars.length cb] 22));rw[dE] at h;rw[q];exact h
 have r2:cM m (w.heap.size+1+1) (List.replicate vars.length 0):=by
  have h:=((Z3 ((w.alloc (.cells #[.slice a sizes.length ca] 22)).alloc (.cells #[.int .i64 (K:Nat)] 3)) vars.length).alloc (.cells #[.slice (some ⟨w.heap.size+1+1,0,none⟩) vars.length vars.length] 22)).alloc (.cells #[.slice b vars.length cb] 22);rw[dE,dE] at h;rw[q];exact h
 have b3:Boxed m (w.heap.size+1+1+1) 22 (.slice (some ⟨w.heap.size+1+1,0,none⟩) vars.length vars.length):=by
  have h:=(a8 (((w.alloc (.cells #[.slice a sizes.length ca] 22)).alloc (.cells #[.int .i64 (K:Nat)] 3)).alloc (.cells (madeCells #[.int .i64 0] vars.length) 3)) 22 (.slice (some ⟨w.heap.size+1+1,0,none⟩) vars.length vars.length)).alloc (.cells #[.slice b vars.length cb] 22);rw[dE,dE,dE] at h;rw[q];exact h
 have b4:Boxed m (w.heap.size+1+1+1+1) 22 (.slice b vars.length cb):=by
  have h:=a8 ((((w.alloc (.cells #[.slice a sizes.length ca] 22)).alloc (.cells #[.int .i64 (K:Nat)] 3)).alloc (.cells (madeCells #[.int .i64 0] vars.length) 3)).alloc (.cells #[.slice (some ⟨w.heap.size+1+1,0,none⟩) vars.length vars.length] 22)) 22 (.slice b vars.length cb);rw[dE,dE,dE,dE] at h;rw[q];exact h
 have ad:ef w m:=by
  rw[q];exact(((((au _ w).alloc (aq _) _).alloc aE _).alloc (by simp;omega) _).alloc (by simp;omega) _).alloc (by simp;omega) _
 rw[<- q];clear q
 refine Mr (α:=At vars) rfl al (gf:=243) (lb:= #[.pointer (some ⟨w.heap.size+1+1+1+1,0,none⟩)]) rfl trivial (enters_of Tryz.func243 ao rfl)
  (UX 5 al (w.heap.size+1+1+1+1) w.heap.size b cb vars al m al al b4.cell (HV.o.toB.aa ad)) tC.t (tC.b al al) (au _ _) (fun _=>rfl)
  (fun (d:List (At vars)) V=>Boxed V w.heap.size 22 (.slice a sizes.length ca)/\Boxed V (w.heap.size+1) 3 (.int .i64 ((qh (ag sizes) (ag vars) K vars.length (d.map (·.1))).1:Nat))/\cM V (w.heap.size+1+1) (qh (ag sizes) (ag vars) K vars.length (d.map (·.1))).2/\Boxed V (w.heap.size+1+1+1) 22 (.slice (some ⟨w.heap.size+1+1,0,none⟩) vars.length vars.length)/\Boxed V (w.heap.size+1+1+1+1) 22 (.slice b vars.length cb)/\ef w V)
  (fun _ _ _=>False)
  (fP (gZ (jN _ _ (fun _=>_)) _) (fP (gZ (jN _ _ (fun d:List (At vars)=>.int .i64 ((qh (ag sizes) (ag vars) K vars.length (d.map (·.1))).1:Nat))) _) (fP (gZ (Na _ (fun d:List (At vars)=>(qh (ag sizes) (ag vars) K vars.length (d.map (·.1))).2)) _) (fP (gZ (jN _ _ (fun _=>_)) _) (fP (gZ (jN _ _ (fun _=>_)) _) (zM (aq _) al))))))
  (fun _ _ _ _ _ hs _ _=>hs)
  ⟨b0,b1,r2,b3,b4,ad⟩
  (fun x=> {tmps:= #[.slice a sizes.length ca,.slice b vars.length cb,.int .i64 (K:Nat),.pointer (some ⟨w.heap.size,0,none⟩),undef,.pointer (some ⟨w.heap.size+1,0,none⟩),.slice none 0 0,.pointer (some ⟨w.heap.size+1+1+1,0,none⟩),.int .i64 (x.1:Nat),.int .i64 (vars[x.1]'x.2),.slice b vars.length cb,.int .i64 (vars.length:Nat),.slice (some ⟨w.heap.size+1+1,0,none⟩) vars.length vars.length,.slice b vars.length cb,.func (.func 243) #[] #[.pointer (some ⟨w.heap.size+1+1+1+1,0,none⟩)],.int .i64 (x.1:Nat),.int .i64 (vars[x.1]'x.2),undef,undef,undef,undef,undef,undef,undef,undef,undef,undef,undef,undef,undef,undef,undef,undef],defers:=[]}) ?assign ?body ?done ?stop
 case assign=>
  intro l x V K A;gi_wp2
  exact A
 case body=>
  rintro l d ⟨i,Z⟩ V ⟨h0,Q,J,L,h4,Y⟩ aC;obtain⟨l6,mR⟩:=lQ.o.nat Z
  have ab:Hid (qh (ag sizes) (ag vars) K vars.length ((d++[(⟨i,Z⟩:At vars)]).map (·.1))=((qh (ag sizes) (ag vars) K vars.length (d.map (·.1))).1/sz (ag sizes) vars[i].toNat,(qh (ag sizes) (ag vars) K vars.length (d.map (·.1))).2.set i ((qh (ag sizes) (ag vars) K vars.length (d.map (·.1))).1 % sz (ag sizes) vars[i].toNat))):=by
   show _=_;rw[eP,iy,nM,acT,EL,CQ (show i<(ag vars).length by rw[gM];exact Z),uY Z]
  obtain⟨jV,ae⟩:=amL (ag sizes) (ag vars) K vars.length (d.map (·.1));have hz:=nT X.o.pos vars[i].toNat;have Gt:=X.o.sz_le vars[i].toNat;generalize hV:vars[i].toNat=v at *;rw[<- l6];obtain⟨g',o',rfl,iI,T⟩:=(HS.o.aa Y) v mR;rw[<- X.o.sz_eq mR] at T
  have az:g'<w.heap.size:=by
   obtain⟨g3,o3,e3,L,_⟩:=HS.o v mR;cases e3;exact L
  clear l6 hV;generalize qh (ag sizes) (ag vars) K vars.length (d.map (·.1))=st at *;obtain⟨p,EM⟩:=st;simp only at Q J jV ae ab;generalize sz (ag sizes) v=s at *;have bb:=J.cell i al;have ay:=J.fz i;have k0:=h0.cell;have k1:=Q.cell;have k3:=L.cell;have f1:=Q.frozen;have sU:(p:Int) % (s:Int)=((p % s:Nat):Int):=(yz _ _).symm;have iV:(p:Int)/(s:Int)=((p/s:Nat):Int):=(yA _ _).symm;have aT:p % s<=65536:=aR (Nat.mod_le _ _) al;have bz:p/s<=65536:=aR (zS _ _) al;generalize p % s=mm at *;generalize p/s=dd at *;have a7:¬(s:Int)=0:=al
  have av:¬w.heap.size+1+1=w.heap.size+1:=al
  have ax:¬w.heap.size+1=w.heap.size+1+1:=al
  have nY:i<EM.length:=al
  generalize EM[i]=z at *;have a1:IntKind.i64.wrap ((p:Int) % (s:Int))=(p:Int) % (s:Int):=by rw[sU,fj];omega
  have a6:IntKind.i64.wrap ((p:Int)/(s:Int))=(p:Int)/(s:Int):=by rw[iV,fj];omega
  have qj:=hid sU;have oK:=hid iV;clear sU iV aj b0 b1 r2 b3 b4 ad yZ Ey sB lQ X HV an A ae;gi_wp2_with fail
  refine yL (fun u=>u.cell? ⟨w.heap.size+1+1+1,0,none⟩=some (.slice (some ⟨w.heap.size+1+1,0,none⟩) vars.length vars.length)/\u.cell? ⟨w.heap.size+1,0,none⟩=some (.int .i64 (p:Nat))/\u.cell? ⟨w.heap.size,0,none⟩=some (.slice (some ⟨g',o',none⟩) sizes.length ca)/\u.cell? ⟨g',o'+v,none⟩=some (.int .i64 (s:Nat))) ao ao (fun ⟨_,_,h⟩=>h) ⟨k3,k1,k0,T⟩ ?_;intro R;refine ed 0 (.slice (some ⟨w.heap.size+1+1,0,none⟩) vars.length vars.length) ?_ ?_
  ·intro u O;obtain⟨E,F,f,k⟩:=O;simp only[gE];go_simp
  simp only[gE,aP];refine ed 1 (.int .i64 (i:Nat)) ?_ ?_
  ·intro u O;obtain⟨E,F,f,k⟩:=O;simp only[gE];go_simp
  simp only[gE,aP];refine ed 2 (.int .i64 (p:Nat)) ?_ ?_
  ·intro u O;obtain⟨E,F,f,k⟩:=O;simp only[gE];go_simp
  simp only[gE,aP];refine ed 3 (.slice (some ⟨g',o',none⟩) sizes.length ca) ?_ ?_
  ·intro u O;obtain⟨E,F,f,k⟩:=O;simp only[gE];go_simp
  simp only[gE,aP];refine ed 4 (.int .i64 (v:Nat)) ?_ ?_
  ·intro u O;obtain⟨E,F,f,k⟩:=O;simp only[gE];go_simp
  simp only[gE,aP];refine ed 5 (.pointer (some ⟨g',o'+v,none⟩)) ?_ ?_
  ·intro u O;obtain⟨E,F,f,k⟩:=O;simp only[gE];go_simp
  simp only[gE,aP];refine ed 6 (.int .i64 (s:Nat)) ?_ ?_
  ·intro u O;obtain⟨E,F,f,k⟩:=O;simp only[gE];go_simp
  simp only[gE,aP];refine ed 7 (.int .i64 ((p:Int) % (s:Int))) ?_ ?_
  ·intro u O;obtain⟨E,F,f,k⟩:=O;simp only[gE];go_simp;rw[aD (show ¬s=0 by omega),Int.tmod_eq_emod_of_nonneg (ML _)]
  simp only[gE,aP];refine ed 8 (.pointer (some ⟨w.heap.size+1+1,i,none⟩)) ?_ ?_
  ·intro u O;obtain⟨E,F,f,k⟩:=O;simp only[gE];go_simp
  simp only[gE,aP];refine aG [9] (cA ?_ aF);intro M I;simp only[gE];go_simp;have H:∀(b j:Nat) (y:Value),¬w.heap.size+1+1=b ->(V.setCell ⟨w.heap.size+1+1,i,none⟩ y).drew.cell? ⟨b,j,none⟩=V.cell? ⟨b,j,none⟩:=fun b j y hb=>dY _ _ _ _ (fun e=>hb (by cases e;rfl));refine I.o _ _ ⟨(H _ _ _ al).trans k3,(H _ _ _ al).trans k1,(H _ _ _ al).trans k0,(H _ _ _ al).trans T⟩ (fun _=>dS ao ?_ _);clear I M R;have m0:=(H w.heap.size 0 (.int .i64 ((p:Int) % (s:Int))) al).trans k0;have m1:=(H (w.heap.size+1) 0 (.int .i64 ((p:Int) % (s:Int))) al).trans k1;have m2:=(H g' (o'+v) (.int .i64 ((p:Int) % (s:Int))) al).trans T;have ah:=J.set i mm;rw[<- qj.o] at ah;have q0:Boxed (V.setCell ⟨w.heap.size+1+1,i,none⟩ (.int .i64 ((p:Int) % (s:Int)))).drew w.heap.size 22 (.slice (some ⟨g',o',none⟩) sizes.length ca):=ic h0 _ i _ al;have q1:Boxed (V.setCell ⟨w.heap.size+1+1,i,none⟩ (.int .i64 ((p:Int) % (s:Int)))).drew (w.heap.size+1) 3 (.int .i64 (p:Nat)):=ic Q _ i _ al;have q3:Boxed (V.setCell ⟨w.heap.size+1+1,i,none⟩ (.int .i64 ((p:Int) % (s:Int)))).drew (w.heap.size+1+1+1) 22 (.slice (some ⟨w.heap.size+1+1,0,none⟩) vars.length vars.length):=ic L _ i _ al;have q4:Boxed (V.setCell ⟨w.heap.size+1+1,i,none⟩ (.int .i64 ((p:Int) % (s:Int)))).drew (w.heap.size+1+1+1+1) 22 (.slice b vars.length cb):=ic h4 _ i _ al
  have q2:cM (V.setCell ⟨w.heap.size+1+1,i,none⟩ (.int .i64 ((p:Int) % (s:Int)))).drew (w.heap.size+1+1) (EM.set i mm):=ah;have qB:ef w (V.setCell ⟨w.heap.size+1+1,i,none⟩ (.int .i64 ((p:Int) % (s:Int)))).drew:=(Y.setCell (p:=⟨w.heap.size+1+1,i,none⟩) (by simp;omega) _).drew;have qK:Below w.heap.size V (V.setCell ⟨w.heap.size+1+1,i,none⟩ (.int .i64 ((p:Int) % (s:Int)))).drew:=((au w.heap.size V).setCell (p:=⟨w.heap.size+1+1,i,none⟩) (by simp;omega) _).drew;have qO:KeepsOthers V (V.setCell ⟨w.heap.size+1+1,i,none⟩ (.int .i64 ((p:Int) % (s:Int)))).drew:=(kh V _ _).trans (zW _);have fU:=q1.frozen;have j4:oF (w.heap.size+1+1+1+1) V (V.setCell ⟨w.heap.size+1+1,i,none⟩ (.int .i64 ((p:Int) % (s:Int)))).drew:=q4.cell.trans h4.cell.symm;clear H;generalize (V.setCell ⟨w.heap.size+1+1,i,none⟩ (.int .i64 ((p:Int) % (s:Int)))).drew=U at *;gi_wp2_with fail
  refine yL (fun u=>u.cell? ⟨w.heap.size,0,none⟩=some (.slice (some ⟨g',o',none⟩) sizes.length ca)/\u.cell? ⟨g',o'+v,none⟩=some (.int .i64 (s:Nat))) ao ao (fun ⟨_,_,h⟩=>h) ⟨m0,m2⟩ ?_;intro R;refine ed 1 (.slice (some ⟨g',o',none⟩) sizes.length ca) ?_ ?_
  ·intro u O;obtain⟨f,k⟩:=O;simp only[gE];go_simp
  simp only[gE,aP];refine ed 2 (.int .i64 (v:Nat)) ?_ ?_
  ·intro u O;obtain⟨f,k⟩:=O;simp only[gE];go_simp
  simp only[gE,aP];refine ed 3 (.pointer (some ⟨g',o'+v,none⟩)) ?_ ?_
  ·intro u O;obtain⟨f,k⟩:=O;simp only[gE];go_simp
  simp only[gE,aP];refine ed 4 (.int .i64 (s:Nat)) ?_ ?_
  ·intro u O;obtain⟨f,k⟩:=O;simp only[gE];go_simp
  simp only[gE,aP];refine aG [0] (cA ?_ aF);intro M I;simp only[gE];go_simp;refine I.o _ _ R (fun _=>?_);clear I M;refine ed 5 (.int .i64 ((p:Int)/(s:Int))) ?_ ?_
  ·intro u O;obtain⟨f,k⟩:=O;simp only[gE];go_simp;omega
  simp only[gE,aP];refine aG [6] (cA ?_ aF);intro M I;simp only[gE];go_simp;refine I.o _ _ ⟨(ic q0 (w.heap.size+1) 0 _ al).cell,(dY _ _ _ _ (fun e=>(show ¬w.heap.size+1=g' by omega) (dh Addr.block e))).trans m2⟩ (fun _=>dS ao ?_ _);clear I M R;gi_wp2
  rw[oK.o];refine⟨(qO.trans ((kh U _ _).trans (zW _))).from _,⟨j4.t ((ic q4 (w.heap.size+1) 0 (.int .i64 (dd:Nat)) al).cell.trans q4.cell.symm),(qK.setCell (p:=⟨w.heap.size+1,0,none⟩) aE _).drew⟩,?_⟩;refine⟨ic q0 _ 0 _ al,?_,?_,ic q3 _ 0 _ al,ic q4 _ 0 _ al,(qB.setCell (p:=⟨w.heap.size+1,0,none⟩) aE _).drew⟩
  ·rw[ab.o];exact q1.set _
  ·rw[ab.o];exact q2.off _ 0 _ al
 case done=>
  rintro D ys V hD Ca ⟨h0,Q,J,L,h4,Y⟩ A;rw[Ca,sB.o] at J;have hc:=L.cell;gi_wp2
  refine⟨aE,.inl ⟨_,_,rfl,Bu A,?_⟩⟩;refine⟨_,Bx rfl _ _ _,?_⟩;refine⟨w.heap.size+1+1,⟨vars.length,rfl⟩,al,?_,Y.trans (uP (w:=w) (aq _) V D _ _ al A rfl rfl)⟩;have ai:cM (V.putObj D (.deferred none)) (w.heap.size+1+1) (mn (ag sizes) (ag vars) K):=Na (w.heap.size+1+1) (fun (_:Unit)=>mn (ag sizes) (ag vars) K) () V _ (some D) J (grownBy_putObj' V D _) (fun r e=>by cases e;exact⟨_,A,rfl⟩);exact ai
 case stop=>
  rintro D c d V _ _ h _;exact h.elim
theorem aeO (a b:Option Addr) (ca cb K:Nat) (sizes vars:List Int) (w:World) (s:aJ w a sizes) (v:aJ w b vars) (S:fX sizes) (J:Up vars sizes.length) (l:K<cnt (ag sizes) (ag vars)):
  du 156 #[.slice a sizes.length ca,.slice b vars.length cb,.int .i64 (K:Nat)] w fun e w'=>∃(g:Nat) (cc:Nat),e=.returned (.tuple #[.slice (some ⟨g,0,none⟩) vars.length cc,.int .i64 0])/\w.heap.size<=g/\cM w' g (mn (ag sizes) (ag vars) K)/\ef w w':=by
 have r:=S.eight;have Y:=J.length;have H:=hid s;have i:=hid v;have j:countB sizes vars=true:=K3 S J;have HC:=hid (fun V d f=>MZ a b ca cb sizes vars V d f al al);rw[Pb j] at HC;simp only at HC;have A:=hid (fun V d f=>amI a b ca cb sizes vars K V d f S J l);have y:(mn (ag sizes) (ag vars) K).length=vars.length:=by rw[acw,gM]
 rw[y] at A;clear s v j S J y;generalize mn (ag sizes) (ag vars) K=ds at *;generalize cnt (ag sizes) (ag vars)=k at *;have x:(0:Int)<=(K:Int):=al
 have n:(K:Int)<(k:Int):=al
 go_enter Tryz.func156,Tryz.ntmps156;go_wp2_with fail
 refine(HC.o _ H.o i.o).af ?_;rintro e p ⟨rfl,h⟩;go_wp2_with fail
 refine(A.o _ (H.o.aa h) (i.o.aa h)).af ?_;rintro e q ⟨c,cc,rfl,t,u,m⟩;have z:=h.size;go_wp2;go_ret2;exact⟨c,cc,rfl,al,u,h.trans (m.af h.size)⟩
end
open Go.Sort Go.Lib
variable {K:Act ->World ->Prop} {la:List Int} {A:List Nat} {Ab g:Nat} {z:Value} {V wr wr':World}
theorem afe {a:Addr} (i:aJ w (some a) la):∀j u,(la.map (Value.int .i64))[j]? =some u ->w.cell? (a.add j)=some u:=by
 intro j u h;rw[lU] at h;cases hq:la[j]? with
 |none=>rw[hq] at h;cases h
 |some z=>
  rw[hq] at h;cases h;obtain⟨v,X⟩:=mH.1 hq;obtain⟨g,o',e,_,c⟩:=i j v;cases e;rw[<- X];rw[Addr.add];by_cases b:j=0
  ·subst b;simpa using c
  ·simpa [b] using c
theorem aaU {c:Array Value} {l:List Int} (h:w.heap[g]? =some (.cells c 3 (0,0))) (b:∀j (a:j<l.length),c[j]? =some (.int .i64 l[j])):Holds (Value.int .i64) w g 0 l.toArray:=fun j a=>by
 have d:j<l.length:=by simpa using a
 refine⟨?_,jw w g (0+j) _ _ h⟩;rw[bB,bG w g j _ _ (0,0) h,b j d,IE l.toArray j a];simp
theorem adZ {o:Oper} {a:Act} (s x:Operand)
  (q:o.op=.call {callee:=.builtin .append,args:= #[s,x],argTypes:= #[22,22]}) (b:Nat) (z:Int) (la:List Int) (r:a.eval s=.slice (some ⟨b,0,none⟩) 1 1) (m:w.heap[b]? =some (.cells #[.int .i64 z] 3 (0,0))) (p:Option Addr) (ca:Nat) (t:a.eval x=.slice p la.length ca) (y:aJ w p la) (H:p=none ->ca=0) (T:la.length<=100000)
  (h:∀D cap w',(D=b∨w.heap.size<=D) ->D<w'.heap.size ->Holds (Value.int .i64) w' D 0 ([z]++la).toArray ->w.grownBy w' (some b) ->K (a.put o.dst (.slice (some ⟨D,0,none⟩) ([z]++la).length cap)) w'):o.wp Tryz.prog a w K Q:=by
 obtain⟨f,M,J,A,L⟩:=dJ Tryz.infoInt;have I:b<w.heap.size:=(cJ.1 m).1
 have U:Holds (Value.int .i64) w b 0 ([z]++[]).toArray:=aaU m fun j c=>by
  have:j=0:=by simp at c;omega
  subst this;rfl
 have E:∀(i:la=[]),K (a.put o.dst (.slice (some ⟨b,0,none⟩) 1 1)) w:=fun i=>by
  subst i;exact h b 1 w (.inl rfl) I U ⟨rfl,rfl,rfl,aq _,fun _ _ _=>rfl⟩
 cases p with
 |none=>
  have d:la=[]:=by
   cases la with
   |nil=>rfl
   |cons x l=>obtain⟨g,o,e,_⟩:=y 0 aE;cases e
  have F:=H rfl;have k:=E d;subst d F;have O:w.ownsRow b 3 1 (.slice (some ⟨b,0,none⟩) 1 1) 1 [.int .i64 z]:=⟨rfl,.inr ⟨b,1,_,rfl,aq _,m,aq _,by unfold maxLen;omega,rfl,rfl⟩⟩;have n:=run_append_owned_none (P:=Tryz.prog) (w:=w) b 22 o.type 3 f 1 Tryz.underlying22 M (.slice (some ⟨b,0,none⟩) 1 1) 1 _ O;unfold Oper.wp;simp[execOp,q,resolve,invoke,builtin,r,t,n,Result.andThen];exact k
 |some ad=>
  have R:=afe y;have d:(la.map (Value.int .i64)).length=la.length*f.size:=by rw[A];simp
  by_cases i:la=[]
  ·have k:=E i;subst i;have n:=run_append_room_cells (P:=Tryz.prog) (w:=w) 22 o.type 3 f Tryz.underlying22 M b 0 1 1 ad 0 ca [] aE aE aE (aq _) aE aE;unfold Oper.wp execOp;simp only[q,resolve,invoke,builtin,IH,Bz,wB,IY,iy,nM,r,t,mG,n];exact k
  ·have S:0<la.length:=List.length_pos_iff.2 i
   have n:=run_append_grow (P:=Tryz.prog) w 22 o.type 3 f (.int .i64 0) Tryz.underlying22 M J ⟨b,0,none⟩ 1 1 [.int .i64 z] (by rw[A];rfl) (fun j u c=>by
    match j,c with
    |0,c=>cases c;rw[show (⟨b,0,none⟩:Addr).add 0=⟨b,0,none⟩ from rfl,bG w b 0 _ _ (0,0) m];rfl
    |j+1,c=>simp at c) ad la.length ca (la.map (Value.int .i64)) d R al al (FN al (by rw[L];omega))
   unfold Oper.wp execOp;simp only[q,resolve,invoke,builtin,IH,Bz,wB,IY,iy,nM,r,t,n];have v:=h w.heap.size (grownCap w (1+la.length) 1 3) (w.drew.alloc (.cells ([Value.int .i64 z].toArray++(la.map (Value.int .i64)).toArray++Builtin.zeroCells (Value.int .i64 0).cells (grownCap w (1+la.length) 1 3 - (1+la.length))) 3)) (.inr (aq _)) aE ?_ ⟨rfl,rfl,rfl,aE,fun _ k _=>wF w.drew _ _ k⟩
   ·have e:([z]++la).length=1+la.length:=by simp;omega
    rw[e] at v;exact v
   ·refine aaU (dB w.drew _) fun j c=>?_;rw[Array.getElem?_append_left (by simp at c⊢;omega)];simp only[mI,List.getElem?_toArray];rw[show [Value.int .i64 z]++la.map (Value.int .i64)=([z]++la).map (Value.int .i64) by simp,lU,bj c];rfl
theorem afY (g cap:Nat) (l:List Int) (w:World) (b:Holds (Value.int .i64) w g 0 l.toArray) (h:g<w.heap.size) (u:l.length<=100000):
  du 155 #[.slice (some ⟨g,0,none⟩) l.length cap] w fun e w'=>e=.returned (.slice (some ⟨g,0,none⟩) l.length cap)/\aJ w' (some ⟨g,0,none⟩) (l.mergeSort fun x y=>decide (x<=y))/\w.grownBy w' (some g):=by
 have p:=hid (Tryz.slices_Sort_int g 0 cap l w b h al);have t:(l.mergeSort fun x y=>decide (x<=y)).length=l.length:=MD _;generalize (l.mergeSort fun x y=>decide (x<=y))=s at *;have H:=hid b;clear b;go_enter Tryz.func155,Tryz.ntmps155;go_wp2_with fail
 refine p.o.af ?_;rintro e k ⟨rfl,q,a,rfl⟩;have z:s.toArray.size=l.toArray.size:=by simp;exact t
 have J:Holds (Value.int .i64) (grow (putRow (Value.int .i64) (Sort.ahead w q) g 0 s.toArray) a) g 0 s.toArray:=fun j c=>by
  obtain⟨d,i⟩:=holds_putRow (Value.int .i64) (Sort.ahead w q) g 0 _ s.toArray H.o z j c;have f:g<(putRow (Value.int .i64) (Sort.ahead w q) g 0 s.toArray).heap.size:=by rw[size_putRow];exact h
  refine⟨(cell?_grow _ _ _ f).trans d,?_⟩;rw[frozen?_grow _ _ _ f];exact i
 have r:=Mt (w:=w) (g:=g) (n:=q) (os:=a) s.toArray;have K:g<(grow (putRow (Value.int .i64) (Sort.ahead w q) g 0 s.toArray) a).heap.size:=aU h r.size;generalize grow (putRow (Value.int .i64) (Sort.ahead w q) g 0 s.toArray) a=k at *;have m:=hid J;clear J;go_wp2;go_ret;exact⟨rfl,GW m.o K (fun j c=>⟨by simpa using c,aE⟩),r⟩
structure GV (w:World) (x y z:Value) (G D C Ab:Nat) (S:List Nat) (U:List Int) (wr:World) (F:List Fr) (A:List Nat):Prop where
 gk:GK w wr x y z
 szs:cM wr G S
 us:aJ wr (some ⟨D,0,none⟩) U
 cs:eN wr C F
 vs:cM wr Ab A
 oG:w.heap.size+2<=G
 oD:w.heap.size+2<=D
 oGC:G<C
 oDC:D<C
 oCA:C<Ab
theorem GV.step {G C:Nat} {U:List Int} {F:List Fr} (h:GV w x y z G D C Ab S U wr F A) (b:ef wr wr'):GV w x y z G D C Ab S U wr' F A:=
 ⟨h.gk.step b,h.szs.aa b h.szs.lt,h.us.aa b,h.cs.aa b h.cs.lt,h.vs.aa b h.vs.lt,h.oG,h.oD,h.oGC,h.oDC,h.oCA⟩
theorem aJ.far {o:Nat} {l:List Int} (h:aJ w (some ⟨g,o,none⟩) l) (b j:Nat) (y:Value) (n:g≠b):aJ (w.setCell ⟨b,j,none⟩ y) (some ⟨g,o,none⟩) l:=fun k d=>by
 obtain⟨g',o',e,a,c⟩:=h k d;cases e;exact⟨g,o,rfl,by simpa using a,(dY _ _ _ _ (fun e=>n (by cases e;rfl))).trans c⟩
theorem GK.far (h:GK w V x y z) (b j:Nat) (u:Value) (a:w.heap.size+2<=b):GK w (V.setCell ⟨b,j,none⟩ u) x y z:=
 ⟨⟨(fQ V ⟨b,j,none⟩ u w.heap.size (by show w.heap.size≠b;omega)).trans h.1.1,h.1.2.setCell (p:=⟨b,j,none⟩) (by show w.heap.size<=b;omega) u⟩,h.2.off b j u al⟩
theorem GV.setA {G C:Nat} {U:List Int} {F:List Fr} (h:GV w x y z G D C Ab S U wr F A) (j k:Nat):GV w x y z G D C Ab S U (wr.setCell ⟨Ab,j,none⟩ (.int .i64 (k:Nat))) F (A.set j k):=by
 have:=h.oG;have:=h.oD;have:=h.oGC;have:=h.oDC;have:=h.oCA;exact⟨h.gk.far _ _ _ al,h.szs.off _ _ _ al,h.us.far _ _ _ al,h.cs.off _ _ _ al,h.vs.set _ _,h.oG,h.oD,h.oGC,h.oDC,h.oCA⟩
theorem GV.setC {G C:Nat} {U:List Int} {F:List Fr} (h:GV w x y z G D C Ab S U wr F A) (k:Nat) (f:Fr):GV w x y z G D C Ab S U (((wr.setCell ⟨C,k*3,none⟩ (.bool f.1)).setCell ⟨C,k*3+1,none⟩ (.string f.2.1)).setCell ⟨C,k*3+2,none⟩ (.string f.2.2)) (F.set k f) A:=by
 have:=h.oG;have:=h.oD;have:=h.oGC;have:=h.oDC;have:=h.oCA;exact⟨((h.gk.far _ _ _ al).far _ _ _ al).far _ _ _ al,((h.szs.off _ _ _ al).off _ _ _ al).off _ _ _ al,((h.us.far _ _ _ al).far _ _ _ al).far _ _ _ al,h.cs.put k f,((h.vs.off _ _ _ al).off _ _ _ al).off _ _ _ al,h.oG,h.oD,h.oGC,h.oDC,h.oCA⟩
variable {fn:Func} {x':Value}
theorem dP.check {t:Tb} (h:dP S S.length t) (f:fX (iL S)):j7 (iL S) t.1 t.2.length=0:=UN (K3 f (by rw[bI];exact h.up)) (by rw[jC];exact h.len)
theorem dP.small {t:Tb} (h:dP S S.length t) (f:fX (iL S)):t.1.length<=8:=by
 have b:=h.up.length;have a:=f.eight;rw[bI] at a;omega
def CZ (B:Nat) (t:Tb) (e:Ending) (w':World):Prop:=∃x y,e=.returned (.tuple #[.agg #[x,y],.int .i64 0])/\ei w' x y t/\∀R,R< B ->gA R t (x,y)
theorem uD.tb {B:Nat} {t:Tb} {e:Ending} (h:uD B t.1 t.2 0 e w'):CZ B t e w':=by
 obtain⟨b,c,cb,cc,d,f,g,a,i⟩:=h;exact⟨_,_,d,⟨b,c,cb,cc,rfl,rfl,f,g,a.1⟩,fun R j=>gA.new a i j⟩
theorem aih (a:Option Addr) (ca:Nat) (S:List Nat) (x y x' g:Value) (s t:Tb) (w:World) (d:fX (iL S)) (r:aJ w a (iL S)) (h:ei w x y s) (m:ei w x' g t) (o:dP S S.length s) (i:dP S S.length t) (u:Cw 100000 s.2) (D:Cw 100000 t.2):
  du 165 #[.slice a S.length ca,.agg #[x,y],.agg #[x',g]] w fun e w'=>CZ w.heap.size (yS S s t) e w'/\ef w w':=by
 obtain⟨b,c,cb,cc,rfl,rfl,n,p,q⟩:=h;obtain⟨j,k,U,X,rfl,rfl,v,z,A⟩:=m;have l:=d.eight;rw[bI] at l;have E:=o.small d;have F:=i.small d;have:=aeS a b c j k ca cb cc U X (iL S) s.1 t.1 s.2 t.2 w r n v p z (by rw[bI];omega) al al q A (o.check d) (i.check d) u D;rw[bI,jC] at this;exact this.af fun e w' f=>⟨uD.tb (t:=yS S s t) f.1,f.2⟩
theorem ahz (w:World):ei (w.alloc (.cells #[.bool (bw 1),.string (nu 1),.string (de 1)] 42)) (.slice none 0 0) (.slice (some ⟨w.heap.size,0,none⟩) 1 1) BZ:=by
 have e:=dB w (.cells #[.bool (bw 1),.string (nu 1),.string (de 1)] 42);refine⟨none,_,0,1,rfl,rfl,(fun k h=>absurd h (by simp[BZ])),fun k h=>?_,fun _=>rfl⟩;obtain rfl:k=0:=by simp[BZ] at h;omega
 exact⟨_,0,rfl,(cJ.1 e).1,(bG _ _ 0 _ _ (0,0) e).trans rfl,(bG _ _ 1 _ _ (0,0) e).trans rfl,(bG _ _ 2 _ _ (0,0) e).trans rfl⟩
theorem ei.putT {u v:Value} {t:Tb} (h:ei V x y t) (d:bE V g u v) (e:cV u) (f:cV v) (i:cV x') (a:Value):ei ((V.setCell ⟨g,0,none⟩ x').setCell ⟨g,1,none⟩ a) x y t:=by
 obtain⟨b,c,cb,cc,j,k,l,m,n⟩:=h;exact⟨b,c,cb,cc,j,k,l.putT d e f i a,m.putT d e f i a,n⟩
theorem ei.slices {t:Tb} (h:ei w x y t):cV x/\cV y:=by
 obtain⟨b,c,cb,cc,rfl,rfl,_⟩:=h;exact⟨slv _ _ _,slv _ _ _⟩
theorem bE.result1 (h:bE w g x y) {p:Tmp} (r:fn.results= #[.cell p 49]) (m:Array Value) (a:m.getD p undef=.pointer (some ⟨g,0,none⟩)):
  (results fn m).run Tryz.prog w=.ok (.agg #[x,y]) w:=FM r m w g _ _ _ _ a h Tryz.underlying49 rfl ao
theorem YS (a b:Option Addr) (ca cb:Nat) (S:List Nat) (P:List Tb) (D c:Nat) (w:World) (L:fX (iL S)) (hs:aJ w a (iL S)) (hP:iu w b P) (m:fW S S.length P D c) (aO:P.length<=1000) (X:2*(B D).size+(B c).size+2<=8192):
  du 106 #[.slice a S.length ca,.slice b P.length cb] w fun e w'=>∃x y,e=.returned (.agg #[x,y])/\ei w' x y (allT S P)/\ef w w':=by
 have O:Pos S:=by have:=L.pos;rwa [jC] at this
 have qm:Hid (∀U:World,du 18 #[.int .i64 1] U fun e w'=>e=.returned (.agg #[.bool (bw 1),.string (nu 1),.string (de 1)])/\ef U w'):=fun U=>xI (k:=1) (w:=U) 1 1 rfl bd rfl
 have ae:Hid (∀(k:Nat) (r:k<P.length) (x y x' z:Value) (U:World),ef w U ->ei U x y (allT S (P.take k)) ->ei U x' z P[k] ->du 165 #[.slice a S.length ca,.agg #[x,y],.agg #[x',z]] U fun e w'=>CZ U.heap.size (allT S (P.take (k+1))) e w'/\ef U w'):=fun k r x y x' z U hU h1 h2=>by
  have h3:=m.part O X k;have h4:=m.cw O X P[k] (bF r);have e:allT S (P.take (k+1))=yS S (allT S (P.take k)) P[k]:=by rw[allT,iF r,List.foldl_append];rfl
  rw[e];exact aih a ca S x y x' z _ _ U L (hs.aa hU) h1 h2 h3.1 (m.ok _ (bF r)) (h3.2.up bd) (h4.up bd)
 have HP:=hid hP;have H0:Hid (allT S (P.take 0)=BZ):=rfl;clear hs hP m L O X;obtain⟨T,Q⟩:∃T:Nat ->Tb,∀k,allT S (P.take k)=T k:=⟨fun k=>allT S (P.take k),fun _=>rfl⟩;have vQ:Hid (T P.length=allT S P):=by show _=_;rw[<- Q,jR]
 simp only[Q] at ae H0;clear Q;go_enter Tryz.func106,Tryz.ntmps106;go_wp2_with fail
 have Z:=(au w.heap.size w).alloc (aq _) (TC (.slice none 0 0) (.slice none 0 0));have I:=bE.at (w:=w) rfl (.slice none 0 0) (.slice none 0 0);refine(qm.o _).af ?_;rintro e d ⟨rfl,ad⟩;have ab:=Z.trans (ad.af Z.size);have J:=I.aa ad I.lt;have K:=ab.alloc ab.size (.cells #[.bool (bw 1),.string (nu 1),.string (de 1)] 42);have mU:=ahz d;have ak:(d.alloc (.cells #[.bool (bw 1),.string (nu 1),.string (de 1)] 42)).heap.size=d.heap.size+1:=aE
 have u:=J.alloc (.cells #[.bool (bw 1),.string (nu 1),.string (de 1)] 42);have mj:=K.alloc K.size (TC (.slice none 0 0) (.slice (some ⟨d.heap.size,0,none⟩) 1 1));have Kt:=u.alloc (TC (.slice none 0 0) (.slice (some ⟨d.heap.size,0,none⟩) 1 1));have CA:=bE.at (w:=d.alloc (.cells #[.bool (bw 1),.string (nu 1),.string (de 1)] 42)) ak (.slice none 0 0) (.slice (some ⟨d.heap.size,0,none⟩) 1 1);have aj:=mU.aa ((au _ _).alloc (aq _) (TC (.slice none 0 0) (.slice (some ⟨d.heap.size,0,none⟩) 1 1)));have aC:=J.lt;have o:=hid mj;have vR:=hid Kt;have tE:=hid CA;have E9:=hid aj;clear Z I ad ab J K mU ak u mj Kt CA aj;go_wp2_with fail
 go_loopw [13] (fun iv wr=>∃(i:Nat) (x y:Value),i<=P.length/\iv=.int .i64 i/\Hid (bE wr (d.heap.size+1) x y)/\Hid (ei wr x y (T i))/\Hid (bE wr w.heap.size (.slice none 0 0) (.slice none 0 0))/\Hid (ef w wr)) (fun iv _=>P.length - (intOf iv).toNat)
 case atStart=>exact⟨0,_,_,aV _,rfl,tE,by rw[H0.o];exact E9,vR,o⟩
 case round=>
  obtain⟨i,x,y,hi,rfl,HX,V,l,H⟩:=hrel;clear tE E9 vR o;obtain⟨ai,ah⟩:=V.o.slices;obtain⟨x0,x1,ax,ay⟩:=HX.o.facts;by_cases an:i<P.length
  ·obtain⟨g,az,p,q,rfl,hg,k0,k1,v⟩:=(HP.o.aa H.o) i an;have A:=(au wr.heap.size wr).alloc (aq _) (TC p q);have R:=hid (H.o.trans (A.af H.o.size));have Y:=hid (HX.o.alloc (TC p q));have q7:=hid (l.o.alloc (TC p q));have M:=bE.at (w:=wr) rfl p q;obtain⟨ao,av,_,_⟩:=Y.o.facts;have b0:=M.c0;have b1:=M.c1;have HM:=hid (ae.o i an x y p q _ R.o (V.o.aa A) (v.aa A));obtain⟨ps,pn,pc,rfl⟩:=v.slices.1;obtain⟨qs,qn,qc,rfl⟩:=v.slices.2;clear v A M x0 x1 ax ay;go_wp2_with fail
   refine HM.o.af ?_;rintro e w3 ⟨⟨x2,y2,rfl,F,_⟩,E⟩;have t:=Y.o.aa E Y.o.lt;have u:=q7.o.aa E q7.o.lt;have bT:=R.o.trans (E.af R.o.size);obtain⟨c0,c1,f0,f1⟩:=t.facts;obtain⟨xs,n,f,rfl⟩:=F.slices.1;obtain⟨s,j,h,rfl⟩:=F.slices.2;have tD:=hid (t.put (.slice xs n f) (.slice s j h));have H3:=hid (F.putT t ai ah (slv xs n f) (.slice s j h));have H4:Hid (bE ((w3.setCell ⟨d.heap.size+1,0,none⟩ (.slice xs n f)).setCell ⟨d.heap.size+1,1,none⟩ (.slice s j h)) w.heap.size (.slice none 0 0) (.slice none 0 0)):=(u.off _ _ _ al).off _ _ _ al;have dI:=hid (o9 (g:=d.heap.size+1) bT al (.slice xs n f) (.slice s j h));clear F E t u bT HM ao av b0 b1 k0 k1;go_wp2;go_roundw
   case rel=>exact⟨i+1,_,_,al,b5,tD,H3,H4,dI⟩
   case measure=>simp[intOf];omega
  ·obtain rfl:i=P.length:=al
   rw[vQ.o] at V;obtain⟨t0,t1,f0,f1⟩:=l.o.facts;obtain⟨xs,n,f,rfl⟩:=ai;obtain⟨s,j,h,rfl⟩:=ah;have A8:=hid (l.o.put (.slice xs n f) (.slice s j h));have xU:=hid (V.o.putT l.o (slv _ _ _) (slv _ _ _) (slv xs n f) (.slice s j h));have o:=hid (o9 H.o (aq _) (.slice xs n f) (.slice s j h));go_wp2;refine cj (A8.o.result1 rfl _ rfl) rfl ?_;exact⟨_,_,rfl,xU.o,o.o⟩
def PlC (x y z:Value):Obj:=.cells #[x,y,z] 100
def bQ (w:World) (g:Nat) (x y z:Value):Prop:=w.heap[g]? =some (.cells #[x,y,z] 100 (0,0))
theorem bQ.at (h:w.heap.size=g) (x y z:Value):bQ (w.alloc (PlC x y z)) g x y z:=by subst h;exact dB w _
theorem bQ.lt (h:bQ w g x y z):g<w.heap.size:=(cJ.1 h).1
theorem bQ.aa {b:Nat} (h:bQ w g x y z) (a:Below b w w') (c:g<b):bQ w' g x y z:=(a.block g c).trans h
theorem bQ.alloc (h:bQ w g x y z) (o:Obj):bQ (w.alloc o) g x y z:=(wF w o g h.lt).trans h
theorem bQ.cells (h:bQ w g x y z):w.cell? ⟨g,0,none⟩=some x/\w.cell? ⟨g,1,none⟩=some y/\w.cell? ⟨g,2,none⟩=some z:=
 ⟨by rw[bG w g 0 _ _ (0,0) h];rfl,by rw[bG w g 1 _ _ (0,0) h];rfl,by rw[bG w g 2 _ _ (0,0) h];rfl⟩
theorem bQ.fz (h:bQ w g x y z) (j:Nat):w.frozen? ⟨g,j,none⟩=false:=jw w g j _ _ h
theorem bQ.set0 (h:bQ w g x y z) (u:Value):bQ (w.setCell ⟨g,0,none⟩ u) g u y z:=jf w g 0 _ _ u h
theorem bQ.set1 (h:bQ w g x y z) (u:Value):bQ (w.setCell ⟨g,1,none⟩ u) g x u z:=jf w g 1 _ _ u h
theorem bQ.set2 (h:bQ w g x y z) (u:Value):bQ (w.setCell ⟨g,2,none⟩ u) g x y u:=jf w g 2 _ _ u h
theorem bQ.put (h:bQ w g x y z) (u v s:Value):bQ (((w.setCell ⟨g,0,none⟩ u).setCell ⟨g,1,none⟩ v).setCell ⟨g,2,none⟩ s) g u v s:=((h.set0 u).set1 v).set2 s
theorem bQ.result1 (h:bQ w g x y z) {p:Tmp} (r:fn.results= #[.cell p 100]) (m:Array Value) (a:m.getD p undef=.pointer (some ⟨g,0,none⟩)):
  (results fn m).run Tryz.prog w=.ok (.agg #[x,y,z]) w:=FM r m w g _ _ _ _ a h Tryz.underlying100 rfl ao
theorem YY (u v:Int) (B:Nat) (W:World) (c:W.cell? ⟨B,0,none⟩=some (.int .i64 v)):
  FnGives Tryz.prog 159 #[.pointer (some ⟨B,0,none⟩)] #[.int .i64 u] (.bool (u==v)) W:=by
 show du 159 #[.int .i64 u,.pointer (some ⟨B,0,none⟩)] W _;go_enter Tryz.func159,Tryz.ntmps159;go_wp2
 all_goals (go_ret;exact⟨by simp_all,0,rfl⟩)
theorem agJ (v:Int) (B:Nat) (w:World) (h:B<w.heap.size) (c:w.cell? ⟨B,0,none⟩=some (.int .i64 v)):
  PredAt Tryz.prog 159 #[.pointer (some ⟨B,0,none⟩)] (Value.int .i64) (fun u=>u==v) w:=
 fun W x b=>YY x v B W ((b.cell (p:=⟨B,0,none⟩) h).trans c)
theorem agI (v:Int) (B b f i:Nat) (w:World) (h:B<w.heap.size) (e:B≠b) (c:w.cell? ⟨B,0,none⟩=some (.int .i64 v)):
  PredOver Tryz.prog 159 #[.pointer (some ⟨B,0,none⟩)] (Value.int .i64) (fun u=>u==v) b f i w:=
 fun n o d x _=>YY x v B _ (by
  unfold sortWorld;rw[cell?_grow _ _ _ (by show B<(putRow _ _ _ _ _).heap.size;rw[size_putRow];exact h),cell?_putRow_other _ _ b f _ _ (Or.inl e)];exact c)
theorem Y0 (x z:Value) (b:Option Addr) (cb:Nat) (f:List Int) (v:Int) (w:World) (hx:cV x) (hz:cV z) (h:aJ w b f) (hn:f.length<=1000):
  du 103 #[.agg #[x,.slice b f.length cb,z],.int .i64 v] w fun e w'=>∃d cd,e=.returned (.agg #[x,.slice d (bS f v).length cd,.slice none 0 0])/\aJ w' d (bS f v)/\ij w.heap.size d cd/\ef w w':=by
 obtain⟨a,i,c,rfl⟩:=hx;obtain⟨l,p,m,rfl⟩:=hz;have HV:=hid h;obtain⟨L,T⟩:∃L,bS f v=L:=⟨_,rfl⟩;rw[T];have S:=hid T;clear h T;go_enter Tryz.func103,Tryz.ntmps103;go_wp2_with fail
 have K:ef w (((w.alloc (.cells #[.slice a i c,.slice b f.length cb,.slice l p m] 100)).alloc (.cells #[.int .i64 v] 3)).alloc (.cells #[.slice none 0 0,.slice none 0 0,.slice none 0 0] 100)):=by
  have D:=(au w.heap.size w).alloc (aq _) (.cells #[.slice a i c,.slice b f.length cb,.slice l p m] 100);have h2:=D.alloc D.size (.cells #[.int .i64 v] 3);exact h2.alloc h2.size _
 have Y:bQ (((w.alloc (.cells #[.slice a i c,.slice b f.length cb,.slice l p m] 100)).alloc (.cells #[.int .i64 v] 3)).alloc (.cells #[.slice none 0 0,.slice none 0 0,.slice none 0 0] 100)) w.heap.size (.slice a i c) (.slice b f.length cb) (.slice l p m):=((bQ.at (w:=w) rfl _ _ _).alloc _).alloc _
 have aj:Boxed (((w.alloc (.cells #[.slice a i c,.slice b f.length cb,.slice l p m] 100)).alloc (.cells #[.int .i64 v] 3)).alloc (.cells #[.slice none 0 0,.slice none 0 0,.slice none 0 0] 100)) (w.heap.size+1) 3 (.int .i64 v):=by
  have:=(a8 (w.alloc (.cells #[.slice a i c,.slice b f.length cb,.slice l p m] 100)) 3 (.int .i64 v)).alloc (.cells #[.slice none 0 0,.slice none 0 0,.slice none 0 0] 100);rwa [dE] at this
 have Z:bQ (((w.alloc (.cells #[.slice a i c,.slice b f.length cb,.slice l p m] 100)).alloc (.cells #[.int .i64 v] 3)).alloc (.cells #[.slice none 0 0,.slice none 0 0,.slice none 0 0] 100)) (w.heap.size+1+1) (.slice none 0 0) (.slice none 0 0) (.slice none 0 0):=bQ.at (w:=(w.alloc (.cells #[.slice a i c,.slice b f.length cb,.slice l p m] 100)).alloc (.cells #[.int .i64 v] 3)) aE _ _ _;generalize (((w.alloc (.cells #[.slice a i c,.slice b f.length cb,.slice l p m] 100)).alloc (.cells #[.int .i64 v] 3)).alloc (.cells #[.slice none 0 0,.slice none 0 0,.slice none 0 0] 100))=W at *;refine(M6 b cb f _ (HV.o.aa K) al).af ?_;rintro e E ⟨x,rfl,hr,t⟩;have O:=aX aj t;have H:=Y.aa t Y.lt;have J:=Z.aa t Z.lt;have I:=K.trans (t.af K.size);have ax:=Z.lt;have ay:=t.size;clear aj Y Z K t;rcases hr.cases with ⟨rfl,rfl⟩ |⟨g,cap,rfl,av,hg,ah,ak,U⟩
 ·go_wp2_with fail
  refine(Yg _ _).af ?_;rintro e s ⟨rfl,ab⟩;have A:=H.aa ab H.lt;have R:=J.aa ab J.lt;have F:=I.trans (ab.af I.size);have AB:L=[]:=S.o.symm;subst AB;obtain⟨p0,p1,p2⟩:=A.cells;obtain⟨r0,r1,r2⟩:=R.cells;have r:=R.fz;have Nf:=r 0;have Nd:=r 1;have Nc:=r 2;have Q:=hid (R.put (.slice a i c) (.slice none 0 0) (.slice none 0 0));have X:=hid (dV F (show w.heap.size<=w.heap.size+1+1 by omega) (.slice a i c) (.slice none 0 0) (.slice none 0 0));clear r A R F;go_wp2;refine cj (Q.o.result1 rfl _ rfl) rfl ?_;exact⟨none,0,rfl,fun k V=>absurd V aE,ij.nil _,X.o⟩
 ·have P:=Tryz.slices_DeleteFunc (Value.int .i64) (fun _=>rfl) (fun u=>u==v) 159 #[.pointer (some ⟨w.heap.size+1,0,none⟩)] (enters_of Tryz.func159 ao rfl) 0 Tryz.zeroValue3 g 0 cap f.toArray E (agJ v _ _ O.lt O.cell) (agI v _ g 0 _ _ O.lt al O.cell) U (by simp;omega) (by simpa using ah);have ai:f.toArray.size=f.length:=aE
  rw[ai] at P;have fA:f.toArray.toList.filter (fun x=>!(x==v))=bS f v:=by simp[bS]
  rw[fA,S.o] at P;have dD:L.length<=f.length:=by rw[<- S.o];exact pH _ _
  have Ml:=hid P;have HH:=hid U;have pE:=hid dD;clear P U hr ai fA ah ak dD;go_wp2_with fail
  refine Ml.o.af ?_;rintro e s ⟨rfl,q,M⟩
  have GI:(L++List.replicate (f.length - L.length) 0).toArray.size=f.toArray.size:=by
   have:=pE.o;simp;omega
  have ae:aJ s (some ⟨g,0,none⟩) L:=by
   rw[M];exact GW (holds_putRow (Value.int .i64) (Sort.ahead E q) g 0 f.toArray _ HH.o GI) (by rw[size_putRow];exact hg) (fun j hj=>⟨by simp;omega,by simp[sH,hj]⟩)
  have ad:∀k,k<E.heap.size ->k≠g ->s.heap[k]? =E.heap[k]?:=fun k V an=>by
   rw[M];have D:=Mt (w:=E) (g:=g) (n:=q) (os:= #[]) ((L++List.replicate (f.length - L.length) 0).toArray);rw[grow_empty] at D;exact D.block k V (fun e=>an (oP e))
  have A:bQ s w.heap.size (.slice a i c) (.slice b f.length cb) (.slice l p m):=(ad _ H.lt al).trans H;have R:bQ s (w.heap.size+1+1) (.slice none 0 0) (.slice none 0 0) (.slice none 0 0):=(ad _ J.lt al).trans J;have F:ef w s:=by rw[M];exact UW _ I I.size al
  obtain⟨p0,p1,p2⟩:=A.cells;obtain⟨r0,r1,r2⟩:=R.cells;have r:=R.fz;have Nf:=r 0;have Nd:=r 1;have Nc:=r 2;have Q:=hid (R.put (.slice a i c) (.slice (some ⟨g,0,none⟩) L.length cap) (.slice none 0 0));have X:=hid (dV F (show w.heap.size<=w.heap.size+1+1 by omega) (.slice a i c) (.slice (some ⟨g,0,none⟩) L.length cap) (.slice none 0 0));have Qb:=hid (((ae.off (g:=w.heap.size+1+1) (j:=0) (y:=.slice a i c) (fun g' o' e _=>by cases e;omega)).off (g:=w.heap.size+1+1) (j:=1) (y:=.slice (some ⟨g,0,none⟩) L.length cap) (fun g' o' e _=>by cases e;omega)).off (g:=w.heap.size+1+1) (j:=2) (y:=.slice none 0 0) (fun g' o' e _=>by cases e;omega));clear r A R F ae ad GI M;go_wp2;refine cj (Q.o.result1 rfl _ rfl) rfl ?_;exact⟨some ⟨g,0,none⟩,cap,rfl,Qb.o,ij.at al,X.o⟩
variable {j lo:Nat} {tv u1 u2:Value} {V':World}
theorem Uq (W:World) (b:Option Nat):W.grownBy W b:=World.grownBy.refl _ _
theorem Ur {W:World} {b:Option Nat} (h:W.grownBy V b) (a:ef V V'):W.grownBy V' b:=
 ⟨a.os.trans h.os,a.tape.trans h.tape,a.output.trans h.output,aR h.size a.size,fun k c e=>(a.block k (aU c h.size)).trans (h.block k c e)⟩
theorem KM {W:World} {b r:Option Nat} (h:W.grownBy V b) (g:V.grownBy V' r) (c:∀k,r=some k ->W.heap.size<=k):W.grownBy V' b:=
 ⟨g.os.trans h.os,g.tape.trans h.tape,g.output.trans h.output,aR h.size g.size,fun k a n=>(g.block k (aU a h.size) fun e=>by have:=c k e.symm;omega).trans (h.block k a n)⟩
theorem OW {W:World} {b:Nat} (h:W.grownBy V (some b)) (j:Nat) (y:Value):W.grownBy (V.setCell ⟨b,j,none⟩ y) (some b):=by
 have a:=(au 0 V).setCell (p:=⟨b,j,none⟩) (aV _) y;exact⟨a.os.trans h.os,a.tape.trans h.tape,a.output.trans h.output,aR h.size a.size,fun k d n=>(fQ V ⟨b,j,none⟩ y k (fun e=>n (by rw[e]))).trans (h.block k d n)⟩
theorem KL {W:World} {b B:Nat} (d:Below B w W) (h:W.grownBy V (some b)) (c:B<=b) (a:B<=W.heap.size):Below B w V:=d.grown h a (fun k e=>by cases e;exact c)
theorem aW.off {d:Option Addr} (h:aW w d l) (p:∀g' o',d=some ⟨g',o',none⟩ ->l≠[] ->g'≠g):aW (w.setCell ⟨g,j,none⟩ y) d l:=fun k c=>by
 obtain⟨g',o',e,n,f,i,m⟩:=h k c;have o:=p g' o' e (fun e=>by rw[e] at c;exact absurd c aE);have b:(w.setCell ⟨g,j,none⟩ y).heap[g']? =w.heap[g']?:=fQ w ⟨g,j,none⟩ y g' o;exact⟨g',o',e,aU n (kh w _ _).size,(nH (a:=⟨g',_,none⟩) b).trans f,(nH (a:=⟨g',_,none⟩) b).trans i,(nH (a:=⟨g',_,none⟩) b).trans m⟩
theorem ei.off {t:Tb} (h:ei w x y t) (u:Value) (a:gA g t (x,y)):ei (w.setCell ⟨g,j,none⟩ u) x y t:=by
 obtain⟨b,c,cb,cc,rfl,rfl,d,f,i⟩:=h;exact⟨b,c,cb,cc,rfl,rfl,d.off (fun g' o' e n=>a.1 g' o' _ _ (by rw[e]) n),f.off (fun g' o' e n=>a.2 g' o' _ _ (by rw[e]) n),i⟩
theorem lN.off {B:Nat} {v:Value} {Q:List (Value×Value)} (h:lN w B v Q P) (u:Value) (f:∀k (h:k<P.length) (c:k<Q.length),gA g P[k] Q[k]) (e:v.ownBlock≠some g):lN (w.setCell ⟨g,j,none⟩ u) B v Q P:=
 ⟨h.len,Ms h.own e u,fun k a b=>(h.val k a b).off u (f k a b),h.far⟩
theorem RN {B:Nat} {e:TypeId} (h:w.ownsRow B e s (.slice a m c) n xs):ij B a c:=by
 rcases h.2 with ⟨b,d⟩ |⟨g,cap,r,b,d,_⟩
 ·injection b with h3 h4 h5;subst h3 h5;exact ij.nil B
 ·injection b with h3 h4 h5;subst h3;exact ij.at d
theorem MP {o:Oper} {a:Act} (q:o.guard=none) (s x:Operand)
  (d:o.op=.call {callee:=.builtin .append,args:= #[s,x],argTypes:= #[98,98]}) (base:Nat) (v:Value) (n:Nat) (xs:List Value) (u1 u2:Value) (e:a.eval s=v) (E:w.ownsRow base 49 2 v n xs) (g:Nat) (f:a.eval x=.slice (some ⟨g,0,none⟩) 1 1) (h0:w.cell? ⟨g,0,none⟩=some u1) (h1:w.cell? ⟨g,1,none⟩=some u2) (t:cV u1) (y:cV u2) (H:n+1<=100000) (F:base<=w.heap.size)
  (h:∀v' w',w'.ownsRow base 49 2 v' (n+1) (xs++[u1,u2]) ->w.grownBy w' v.ownBlock ->(v'.ownBlock=v.ownBlock∨∀k,v'.ownBlock=some k ->w.heap.size<=k) ->wpList Tryz.prog ops Q rest (a.put o.dst v') w'):wpList Tryz.prog ops Q (o::rest) a w:=by
 obtain⟨i,M,z,A,D⟩:=dJ Tryz.infoTable
 obtain⟨v',w',r,l,m,p⟩:=Yw (P:=Tryz.prog) w base 98 o.type 49 i (.agg #[.slice none 0 0,.slice none 0 0]) 2 48 Tryz.underlying98 M z A D rfl bd v n xs E ⟨g,0,none⟩ 1 1 [u1,u2] rfl (fun j u b=>by
  match j,b with
  |0,b=>cases b;exact h0
  |1,b=>cases b;exact h1
  |j+2,b=>simp at b) (fun u c=>by
  simp only[dU,nL,tV] at c;rcases c with rfl |rfl
  ·obtain⟨_,_,_,rfl⟩:=t;rfl
  ·obtain⟨_,_,_,rfl⟩:=y;rfl) (by unfold maxLen;omega) al F bd
 refine wpList_plain q fun _ K=>?_;unfold Oper.wp execOp;simp only[d,resolve,invoke,builtin,IH,Bz,wB,IY,iy,nM,e,f,r];exact K _ _ (h v' w' l m p)
structure tz (lo:Nat) (W:World) (b:Nat) (x y:Value) (tv:Value) (Q:List (Value×Value)) (P:List Tb) (V:World):Prop where
 box:bQ V b x y tv
 own:lN V W.heap.size tv Q P
 far:∀R,lo<=R ->R<=b ->∀k (h:k<P.length) (h':k<Q.length),gA R P[k] Q[k]
 fr:W.grownBy V (some b)
theorem tz.start {W:World} {b:Nat} (h:bQ W b x y (.slice none 0 0)):tz lo W b x y (.slice none 0 0) [] [] W:=⟨h,lN.nil _ _,(fun R _ _ k h=>absurd h aE),Uq _ _⟩
theorem tz.under {W:World} {b:Nat} {Q:List (Value×Value)} (h:tz lo W b x y tv Q P V) (a:ef V V'):tz lo W b x y tv Q P V':=⟨h.box.aa a h.box.lt,h.own.under a,h.far,Ur h.fr a⟩
theorem tz.push {W:World} {b:Nat} {d:Value} {Q:List (Value×Value)} {t:Tb} (h:tz lo W b x y tv Q P V) (u:lo<=b) (v:b<W.heap.size) (q:ei V u1 u2 t) (n:∀R,tv.ownBlock=some R ->gA R t (u1,u2)) (s:∀R,lo<=R ->R<=b ->gA R t (u1,u2)) (p:V'.ownsRow W.heap.size 49 2 d (P.length+1) (eM Q++[u1,u2])) (a:V.grownBy V' tv.ownBlock) (o:d.ownBlock=tv.ownBlock∨∀k,d.ownBlock=some k ->V.heap.size<=k):
  tz lo W b x y d (Q++[(u1,u2)]) (P++[t]) (V'.setCell ⟨b,2,none⟩ d):=by
 have c:∀k,tv.ownBlock=some k ->W.heap.size<=k:=fun k e=>(h.own.lt k e).1;have O:=h.own.push q n p a o;have m:bQ V' b x y tv:=(a.block b h.box.lt (fun e=>by have:=c b e.symm;omega)).trans h.box
 have r:∀R,lo<=R ->R<=b ->∀k (j:k<(P++[t]).length) (l:k<(Q++[(u1,u2)]).length),gA R (P++[t])[k] (Q++[(u1,u2)])[k]:=fun R D i k j l=>by
  by_cases f:k<P.length
  ·have g:k<Q.length:=by rw[h.own.len];exact f
   rw[sH g,sH f];exact h.far R D i k f g
  ·have g:¬k<Q.length:=by rw[h.own.len];exact f
   rw[tY al,tY al];simp only[ME];exact s R D i
 refine⟨m.set2 d,O.off _ (r b u (aq _)) (fun e=>?_),r,OW (KM h.fr a c) _ _⟩;have:=(O.lt b e).1;omega
theorem ala (a:Option Addr) (ca:Nat) (S:List Nat) (x y:Value) (t:Tb) (v z:Nat) (w:World) (d:fX (iL S)) (s:aJ w a (iL S)) (h:ei w x y t) (o:dP S S.length t) (l:Cw 100000 t.2) (k:v<S.length) (m:z<sz S v):
  du 104 #[.slice a S.length ca,.agg #[x,y],.int .i64 (v:Nat),.int .i64 (z:Nat)] w fun e w'=>CZ w.heap.size (kR S v z t) e w'/\ef w w':=by
 obtain⟨b,c,cb,cc,rfl,rfl,i,j,p⟩:=h;have g:=d.eight;rw[bI] at g;have n:=o.small d;have:=aeX a b c ca cb cc (iL S) t.1 t.2 v z w s i j (by rw[bI];omega) al (o.check d) l (by rw[bI];exact k) (by rw[jC];exact m);rw[bI,jC] at this;exact this.af fun e w' f=>⟨uD.tb (t:=kR S v z t) f.1,f.2⟩
theorem agU (a b t:Option Addr) (ca cb E:Nat) (S:List Nat) (f:List Int) (P:List Tb) (D c v z:Nat) (w:World) (aS:fX (iL S)) (hs:aJ w a (iL S)) (hb:aJ w b f) (hP:iu w t P) (aT:fW S S.length P D c) (a7:P.length<=1000) (fA:f.length<=1000) (hm:2*(B D).size+(B c).size+2<=8192) (hv:v<S.length) (hz:z<sz S v):
  du 55 #[.agg #[.slice a S.length ca,.slice b f.length cb,.slice t P.length E],.agg #[.int .i64 (v:Nat),.int .i64 (z:Nat)]] w fun e w'=>∃d h t' fB,e=.returned (.agg #[.slice a S.length ca,.slice d (bS f v).length h,.slice t' P.length fB])/\aJ w' d (bS f v)/\iu w' t' (P.map (kR S v z))/\ij w.heap.size t' fB/\ef w w':=by
 have dN:Pos S:=by have:=aS.pos;rwa [jC] at this
 have mq:=hid (fun (U:World) (hU:ef w U)=>Y0 (.slice a S.length ca) (.slice t P.length E) b cb f (v:Int) U (slv _ _ _) (slv _ _ _) (hb.aa hU) fA);have je:Hid (∀(k:Nat) (O:k<P.length) (x y:Value) (U:World),ef w U ->ei U x y P[k] ->du 104 #[.slice a S.length ca,.agg #[x,y],.int .i64 (v:Nat),.int .i64 (z:Nat)] U fun e w'=>CZ U.heap.size (kR S v z P[k]) e w'/\ef U w'):=fun k O x y U hU J=>ala a ca S x y _ v z U aS (hs.aa hU) J (aT.ok _ (bF O)) ((aT.cw dN hm P[k] (bF O)).up bd) hv hz;have HP:=hid hP;clear hs hb hP aT aS dN hm hz;go_enter Tryz.func55,Tryz.ntmps55;go_wp2_with fail
 have ab:ef w (((w.alloc (.cells #[.slice a S.length ca,.slice b f.length cb,.slice t P.length E] 100)).alloc (.cells #[.int .i64 (v:Nat),.int .i64 (z:Nat)] 39)).alloc (.cells #[.slice none 0 0,.slice none 0 0,.slice none 0 0] 100)):=by
  have J:=(au w.heap.size w).alloc (aq _) (.cells #[.slice a S.length ca,.slice b f.length cb,.slice t P.length E] 100);have h2:=J.alloc J.size (.cells #[.int .i64 (v:Nat),.int .i64 (z:Nat)] 39);exact h2.alloc h2.size _
 have xz:bQ (((w.alloc (.cells #[.slice a S.length ca,.slice b f.length cb,.slice t P.length E] 100)).alloc (.cells #[.int .i64 (v:Nat),.int .i64 (z:Nat)] 39)).alloc (.cells #[.slice none 0 0,.slice none 0 0,.slice none 0 0] 100)) w.heap.size (.slice a S.length ca) (.slice b f.length cb) (.slice t P.length E):=((bQ.at (w:=w) rfl _ _ _).alloc _).alloc _
 have KG:(((w.alloc (.cells #[.slice a S.length ca,.slice b f.length cb,.slice t P.length E] 100)).alloc (.cells #[.int .i64 (v:Nat),.int .i64 (z:Nat)] 39)).alloc (.cells #[.slice none 0 0,.slice none 0 0,.slice none 0 0] 100)).heap[w.heap.size+1]? =some (.cells #[.int .i64 (v:Nat),.int .i64 (z:Nat)] 39 (0,0)):=by
  rw[wF _ _ _ aE];have:=dB (w.alloc (.cells #[.slice a S.length ca,.slice b f.length cb,.slice t P.length E] 100)) (.cells #[.int .i64 (v:Nat),.int .i64 (z:Nat)] 39);rwa [dE] at this
 have jZ:bQ (((w.alloc (.cells #[.slice a S.length ca,.slice b f.length cb,.slice t P.length E] 100)).alloc (.cells #[.int .i64 (v:Nat),.int .i64 (z:Nat)] 39)).alloc (.cells #[.slice none 0 0,.slice none 0 0,.slice none 0 0] 100)) (w.heap.size+1+1) (.slice none 0 0) (.slice none 0 0) (.slice none 0 0):=bQ.at (w:=(w.alloc (.cells #[.slice a S.length ca,.slice b f.length cb,.slice t P.length E] 100)).alloc (.cells #[.int .i64 (v:Nat),.int .i64 (z:Nat)] 39)) aE _ _ _;have AY:=hid (mq.o _ ab);clear mq;generalize (((w.alloc (.cells #[.slice a S.length ca,.slice b f.length cb,.slice t P.length E] 100)).alloc (.cells #[.int .i64 (v:Nat),.int .i64 (z:Nat)] 39)).alloc (.cells #[.slice none 0 0,.slice none 0 0,.slice none 0 0] 100))=W0 at *;refine AY.o.af ?_;rintro e m ⟨d,h,rfl,Eu,JU,K⟩;have a6:=jZ.lt;have mj:=(au m.heap.size m).alloc (aq _) (.cells #[.slice a S.length ca,.slice d (bS f v).length h,.slice none 0 0] 100);have ku:(m.alloc (.cells #[.slice a S.length ca,.slice d (bS f v).length h,.slice none 0 0] 100)).heap.size=m.heap.size+1:=aE
 have fh:=(ab.trans (K.af ab.size)).trans (mj.af (aR ab.size K.size));have EF:=(xz.aa K xz.lt).alloc (.cells #[.slice a S.length ca,.slice d (bS f v).length h,.slice none 0 0] 100);have Ay:=(jZ.aa K jZ.lt).alloc (.cells #[.slice a S.length ca,.slice d (bS f v).length h,.slice none 0 0] 100)
 have ai:(m.alloc (.cells #[.slice a S.length ca,.slice d (bS f v).length h,.slice none 0 0] 100)).heap[w.heap.size+1]? =some (.cells #[.int .i64 (v:Nat),.int .i64 (z:Nat)] 39 (0,0)):=by
  rw[wF _ _ _ (by have:=K.size;omega),K.block _ al];exact KG
 have Kw:tz w.heap.size (m.alloc (.cells #[.slice a S.length ca,.slice d (bS f v).length h,.slice none 0 0] 100)) m.heap.size (.slice a S.length ca) (.slice d (bS f v).length h) (.slice none 0 0) [] [] (m.alloc (.cells #[.slice a S.length ca,.slice d (bS f v).length h,.slice none 0 0] 100)):=tz.start (bQ.at (w:=m) rfl (.slice a S.length ca) (.slice d (bS f v).length h) (.slice none 0 0));have KC:=Eu.aa mj;have bb:=K.size
 have VH:Hid (∀g o,d=some ⟨g,o,none⟩ ->bS f v≠[] ->some g≠some m.heap.size):=fun g o e az e2=>by
  obtain⟨g',o',e',iI,_⟩:=Eu 0 (by cases hl:bS f v with |nil=>exact absurd hl az |cons x l=>simp);rw[e] at e';cases e';cases e2;omega
 have sj:Hid (∀g o,d=some ⟨g,o,none⟩ ->bS f v≠[] ->g≠w.heap.size+1+1):=fun g o e _ e2=>by
  have:=JU.2 g o e;omega
 clear Eu JU K ab xz KG jZ mj AY;have eW:=hid fh;have A8:=hid EF;have kd:=hid Ay;have zH:=hid ai;have vV:=hid Kw;have Md:=hid KC;have y5:=EF.cells.2.2;clear fh EF Ay ai Kw KC;generalize Hf:bS f v=L at *;have Ij:=hid Hf;clear Hf;go_wp2_with fail
 generalize (m.alloc (.cells #[.slice a S.length ca,.slice d L.length h,.slice none 0 0] 100))=M at *;clear y5;obtain⟨T,V⟩:∃T:Nat ->List Tb,∀k,(P.take k).map (kR S v z)=T k:=⟨fun k=>(P.take k).map (kR S v z),fun _=>rfl⟩;have tG:Hid (T 0=[]):=by show _=_;rw[<- V];rfl
 have Da:Hid (∀k (O:k<P.length),T (k+1)=T k++[kR S v z P[k]]):=fun k O=>by rw[<- V, <- V,iF O,eP];rfl
 have vQ:Hid (T P.length=P.map (kR S v z)):=by show _=_;rw[<- V,jR]
 have uI:Hid (∀k,k<=P.length ->(T k).length=k):=fun k O=>by rw[<- V,dM,eE];omega
 clear V;go_loopw [17] (fun iv wr=>∃(i:Nat) (tv:Value) (Q:List (Value×Value)),i<=P.length/\iv=.int .i64 i/\Hid (tz w.heap.size M m.heap.size (.slice a S.length ca) (.slice d L.length h) tv Q (T i) wr)) (fun iv _=>P.length - (intOf iv).toNat)
 case atStart=>exact⟨0,_,_,aV _,rfl,by rw[tG.o];exact vV⟩
 case round=>
  obtain⟨i,tv,Q,hi,rfl,H⟩:=hrel;have y9:=H.o.fr.size;have HB:Hid (ef w wr):=KL eW.o H.o.fr al al;have LM:Hid (bQ wr w.heap.size (.slice a S.length ca) (.slice b f.length cb) (.slice t P.length E)):=(H.o.fr.block _ A8.o.lt (fun e=>by have:=oP e;omega)).trans A8.o;have q9:Hid (bQ wr (w.heap.size+1+1) (.slice none 0 0) (.slice none 0 0) (.slice none 0 0)):=(H.o.fr.block _ kd.o.lt (fun e=>by have:=oP e;omega)).trans kd.o;have Wh:Hid (wr.heap[w.heap.size+1]? =some (.cells #[.int .i64 (v:Nat),.int .i64 (z:Nat)] 39 (0,0))):=(H.o.fr.block _ al (fun e=>by have:=oP e;omega)).trans zH.o;by_cases ae:i<P.length
  ·obtain⟨g,o,p,q,rfl,hg,k0,k1,sV⟩:=(HP.o.aa HB.o) i ae;have hA:=(au wr.heap.size wr).alloc (aq _) (TC p q);have dR:=hid (HB.o.trans (hA.af HB.o.size));(have GN:(wr.alloc (TC p q)).heap.size=wr.heap.size+1:=aE);have aj:=LM.o.alloc (TC p q);have an:=aj.cells.1;have Ua:(wr.alloc (TC p q)).heap[w.heap.size+1]? =some (.cells #[.int .i64 (v:Nat),.int .i64 (z:Nat)] 39 (0,0)):=(wF _ _ _ al).trans Wh.o;(have O4:(wr.alloc (TC p q)).cell? ⟨w.heap.size+1,0,none⟩=some (.int .i64 (v:Nat)):=by rw[bG _ _ 0 _ _ (0,0) Ua];rfl);(have UC:(wr.alloc (TC p q)).cell? ⟨w.heap.size+1,1,none⟩=some (.int .i64 (z:Nat)):=by rw[bG _ _ 1 _ _ (0,0) Ua];rfl);have bL:=bE.at (w:=wr) rfl p q;have b0:=bL.c0;have b1:=bL.c1;have LX:=hid (H.o.under hA);have HX:=hid (je.o i ae p q _ dR.o (sV.aa hA));have ax:=hid (Da.o i ae);have rV:=uI.o i hi;obtain⟨ps,pn,pc,rfl⟩:=sV.slices.1;obtain⟨qs,qn,qc,rfl⟩:=sV.slices.2;have Ib:Hid (∀R,tv.ownBlock=some R ->M.heap.size<=R/\R<wr.heap.size):=H.o.own.lt;clear sV hA bL aj Ua;generalize kR S v z P[i]=ft at *;go_wp2_with fail
   refine HX.o.af ?_;rintro e F ⟨⟨x2,y2,rfl,ad,gj⟩,dw⟩;obtain⟨xs,r,n,rfl⟩:=ad.slices.1;obtain⟨A,u,s,rfl⟩:=ad.slices.2;rw[GN] at gj;have aC:=dw.size;rw[GN] at aC;have Fe:=hid (LX.o.under dw);have zh:=(au F.heap.size F).alloc (aq _) (TC (.slice xs r n) (.slice A u s));have vU:=hid (Fe.o.under zh);(have GP:(F.alloc (TC (.slice xs r n) (.slice A u s))).heap.size=F.heap.size+1:=aE);have EB:=bE.at (w:=F) rfl (.slice xs r n) (.slice A u s);have aO:=EB.c0;have a1:=EB.c1;have bc:=vU.o.box.cells.2.2;have Uh:=(au (F.alloc (TC (.slice xs r n) (.slice A u s))).heap.size (F.alloc (TC (.slice xs r n) (.slice A u s)))).alloc (aq _) (TC (.slice xs r n) (.slice A u s));have Dj:=hid (vU.o.under Uh);have Vi:=hid ((ad.aa zh).aa Uh);have Ha:=bE.at (w:=F.alloc (TC (.slice xs r n) (.slice A u s))) GP (.slice xs r n) (.slice A u s);have av:=hid Ha.c0;have ao:=hid Ha.c1;have A0:=hid ad.slices;have jd:=hid gj;have ak:Hid (M.heap.size<=((F.alloc (TC (.slice xs r n) (.slice A u s))).alloc (TC (.slice xs r n) (.slice A u s))).heap.size):=Dj.o.fr.size;have ay:=vV.o.box.lt;clear ad dw zh Uh EB Ha gj HX LX k0 k1 b0 b1 an O4 UC
   have ah:∀(Z:Value) (I:World),I.ownsRow M.heap.size 49 2 Z ((T i).length+1) (eM Q++[.slice xs r n,.slice A u s]) ->((F.alloc (TC (.slice xs r n) (.slice A u s))).alloc (TC (.slice xs r n) (.slice A u s))).grownBy I tv.ownBlock ->(Z.ownBlock=tv.ownBlock∨∀k,Z.ownBlock=some k ->((F.alloc (TC (.slice xs r n) (.slice A u s))).alloc (TC (.slice xs r n) (.slice A u s))).heap.size<=k) ->(∃a' n' c',Z=Value.slice a' n' c')/\(tz w.heap.size M m.heap.size (.slice a S.length ca) (.slice d L.length h) Z (Q++[(.slice xs r n,.slice A u s)]) (T (i+1)) (I.setCell ⟨m.heap.size,2,none⟩ Z))/\I.cell? ⟨m.heap.size,2,none⟩=some tv/\I.frozen? ⟨m.heap.size,2,none⟩=false:=fun Z I gi gR im=>by
    have hM:=Dj.o.push al ay Vi.o (fun R hR=>jd.o R (by have:=(Ib.o R hR).2;omega)) (fun R _ hR=>jd.o R al) gi gR im;rw[<- ax.o] at hM;have CO:bQ I m.heap.size (.slice a S.length ca) (.slice d L.length h) tv:=(gR.block _ Dj.o.box.lt (fun e=>by have:=(Ib.o _ e.symm).1;omega)).trans Dj.o.box;refine⟨?_,hM,CO.cells.2.2,CO.fz 2⟩;rcases gi.2 with ⟨J,_⟩ |⟨g',bg,bh,J,_⟩
    ·exact⟨_,_,_,J⟩
    ·exact⟨_,_,_,J⟩
   have HKEY:=hid ah;clear ah;go_wp2_with (at_builtin;refine MP rfl _ _ rfl M.heap.size tv (T i).length (eM Q) (.slice xs r n) (.slice A u s) rfl Dj.o.own.own (F.heap.size+1) rfl av.o ao.o A0.o.1 A0.o.2 al ak.o ?_;intro Z I gi gR im;obtain⟨⟨yG,bf,yF,rfl⟩,xA,bl,bk⟩:=HKEY.o Z I gi gR im;have mz:=hid xA;clear xA gi gR im)
   go_roundw
   case rel=>exact⟨i+1,_,_,al,b5,mz⟩
   case measure=>simp[intOf];omega
  ·obtain rfl:i=P.length:=al
   rw[vQ.o] at H;obtain⟨X,Y,rfl,Cg⟩:=H.o.own.row;obtain⟨x0,x1,x2⟩:=H.o.box.cells;obtain⟨r0,r1,r2⟩:=q9.o.cells;have Nf:=q9.o.fz 0;have Nd:=q9.o.fz 1;have Nc:=q9.o.fz 2;(have sX:(P.map (kR S v z)).length=P.length:=aE);rw[sX] at H x2;have KB:aJ wr d L:=JM Md.o VH.o H.o.fr;have A4:=hid (q9.o.put (.slice a S.length ca) (.slice d L.length h) (.slice X P.length Y));have k8:=hid (dV HB.o (show w.heap.size<=w.heap.size+1+1 by omega) (.slice a S.length ca) (.slice d L.length h) (.slice X P.length Y))
   have fD:Value.ownBlock (.slice X P.length Y)≠some (w.heap.size+1+1):=fun e=>by
    have:=(H.o.own.lt _ e).1;omega
   have CG:=((H.o.own.off (g:=w.heap.size+1+1) (j:=0) (.slice a S.length ca) (H.o.far _ al al) fD).off (g:=w.heap.size+1+1) (j:=1) (.slice d L.length h) (H.o.far _ al al) fD).off (g:=w.heap.size+1+1) (j:=2) (.slice X P.length Y) (H.o.far _ al al) fD;obtain⟨XD,Xz,e2,Cf⟩:=CG.row;rw[sX] at e2;injection e2 with e3 e4 e5;subst e3 e5;clear e4;have Lu:=hid Cf;have zE:=hid (((KB.off (g:=w.heap.size+1+1) (j:=0) (y:=.slice a S.length ca) sj.o).off (g:=w.heap.size+1+1) (j:=1) (y:=.slice d L.length h) sj.o).off (g:=w.heap.size+1+1) (j:=2) (y:=.slice X P.length Y) sj.o);have LQ:=hid ((RN H.o.own.own).up (show w.heap.size<=M.heap.size by omega));clear CG Cf KB Cg;go_wp2;refine cj (A4.o.result1 rfl _ rfl) rfl ?_;have e6:=Ij.o;subst e6;exact⟨d,h,X,Y,rfl,zE.o,Lu.o,LQ.o,k8.o⟩
variable {Q2:List (Value×Value)} {P2:List Tb} {wv:Value}
theorem abw {t:Tb} (h:Up t.1 n):t.1.contains (v:Int)=decide (v∈ag t.1):=by
 have:(v:Int)∈t.1↔v∈ag t.1:=by
  rw[ag,ba];constructor
  ·intro a;exact⟨_,a,aE⟩
  ·rintro⟨x,b,e⟩;have:=((rG.1 h).1 x b).1;rw[show (v:Int)=x by omega];exact b
 by_cases a:v∈ag t.1
 ·rw[eD a,BO];exact this.2 a
 ·rw[eK a, <- Bool.not_eq_true,BO];exact fun e=>a (this.1 e)
theorem ahg (a:Option Addr) (ca:Nat) (S:List Nat) (x y:Value) (t:Tb) (v:Nat) (m:Bool) (w:World) (f:fX (iL S)) (s:aJ w a (iL S)) (h:ei w x y t) (o:dP S S.length t) (l:Cw 8192 t.2) (k:v<S.length) (E:v∈ag t.1):
  du 164 #[.slice a S.length ca,.agg #[x,y],.int .i64 (v:Nat),.bool m] w fun e w'=>CZ w.heap.size (outT S v m t) e w'/\ef w w':=by
 obtain⟨b,c,cb,cc,rfl,rfl,i,j,q⟩:=h;have n:=f.eight;rw[bI] at n;have p:=o.small f;have g:t.1.contains (v:Int)=true:=by rw[abw o.up,eD E]
 cases m with
 |false=>
  have:=aeT a b c ca cb cc (iL S) t.1 t.2 v w s i j (by rw[bI];omega) al (o.check f) l g (by rw[bI];exact k);rw[bI,jC] at this;exact this.af fun e w' d=>⟨uD.tb (t:=outT S v false t) d.1,d.2⟩
 |true=>
  have:=aeU a b c ca cb cc (iL S) t.1 t.2 v w s i j (by rw[bI];omega) al (o.check f) l g (by rw[bI];exact k);rw[bI,jC] at this;exact this.af fun e w' d=>⟨uD.tb (t:=outT S v true t) d.1,d.2⟩
theorem Nt {B:Nat} {e:TypeId} {v:Value} {r:Option Nat} (h:w.ownsRow B e s v n xs) (f:w.grownBy w' r) (i:∀R,v.ownBlock=some R ->r≠some R):w'.ownsRow B e s v n xs:=by
 refine⟨h.1,?_⟩;rcases h.2 with a |⟨g,cap,u,a,c,b,d⟩
 ·exact .inl a
 ·exact .inr ⟨g,cap,u,a,c,(f.block g (cJ.1 b).1 (fun e=>i g (by rw[a];rfl) e.symm)).trans b,d⟩
theorem rJ {B:Nat} {e:TypeId} {v:Value} (h:w.ownsRow B e s v n xs):∀R,v.ownBlock=some R ->B<=R/\R<w.heap.size:=fun R a=>by
 rcases h.2 with ⟨b,c⟩ |⟨g,cap,r,b,c,d,_⟩
 ·rw[b] at a;cases a
 ·rw[b] at a;cases a;exact⟨c,(cJ.1 d).1⟩
theorem vg {B:Nat} {e:TypeId} {v:Value} (h:w.ownsRow B e s v n xs):∃a c,v=.slice a n c:=by
 rcases h.2 with ⟨b,d⟩ |⟨g,cap,r,b,_⟩
 ·exact⟨none,0,by rw[b,d]⟩
 ·exact⟨_,_,b⟩
structure xM (w:World) (Q:List (Value×Value)) (P:List Tb):Prop where
 len:Q.length=P.length
 val:∀k (h:k<P.length) (h':k<Q.length),ei w Q[k].1 Q[k].2 P[k]
theorem xM.nil (w:World):xM w [] []:=⟨rfl,fun k h=>absurd h aE⟩
theorem xM.push {Q:List (Value×Value)} {t:Tb} (h:xM w Q P) (a:ei w x y t):xM w (Q++[(x,y)]) (P++[t]):=by
 refine⟨by simp[h.len],fun k b d=>?_⟩;by_cases f:k<P.length
 ·have g:k<Q.length:=by rw[h.len];exact f
  rw[sH g,sH f];exact h.val k f g
 ·have g:¬k<Q.length:=by rw[h.len];exact f
  rw[tY al,tY al];simp only[ME];exact a
theorem xM.owt {B:Nat} {v:Value} {Q:List (Value×Value)} (h:xM w Q P) (e:ef w V) (c:w.heap.size<=B) (o:V.ownsRow B 49 2 v P.length (eM Q)):lN V B v Q P:=
 ⟨h.len,o,fun k a b=>(h.val k a b).aa e,fun R d k a b=>(h.val k a b).lt (aR c (rJ o R d).1)⟩
structure np (w W:World) (b:Nat) (x y tv wv:Value) (Q Q2:List (Value×Value)) (P P2:List Tb) (V:World):Prop where
 box:bQ V b x y tv
 own:V.ownsRow W.heap.size 49 2 tv P.length (eM Q)
 own2:V.ownsRow W.heap.size 49 2 wv P2.length (eM Q2)
 q:xM w Q P
 q2:xM w Q2 P2
 ne:∀R,tv.ownBlock=some R ->wv.ownBlock≠some R
 fr:W.grownBy V (some b)
theorem np.start {W:World} {b:Nat} (h:bQ W b x y (.slice none 0 0)):np w W b x y (.slice none 0 0) (.slice none 0 0) [] [] [] [] W:=
 ⟨h,(lN.nil _ _).own,(lN.nil _ _).own,xM.nil _,xM.nil _,(fun R e=>by cases e),Uq _ _⟩
theorem np.under {W:World} {b:Nat} {Q:List (Value×Value)} (h:np w W b x y tv wv Q Q2 P P2 V) (a:ef V V'):np w W b x y tv wv Q Q2 P P2 V':=
 ⟨h.box.aa a h.box.lt,Ge h.own (AV.aa a),Ge h.own2 (AV.aa a),h.q,h.q2,h.ne,Ur h.fr a⟩
theorem np.push2 {W:World} {b:Nat} {M:Value} {Q:List (Value×Value)} {t:Tb} (h:np w W b x y tv wv Q Q2 P P2 V) (j:b<W.heap.size) (d:ei w u1 u2 t) (o:V'.ownsRow W.heap.size 49 2 M (P2.length+1) (eM Q2++[u1,u2])) (g:V.grownBy V' wv.ownBlock) (n:M.ownBlock=wv.ownBlock∨∀k,M.ownBlock=some k ->V.heap.size<=k):
  np w W b x y tv M Q (Q2++[(u1,u2)]) P (P2++[t]) V':=by
 have c:∀k,wv.ownBlock=some k ->W.heap.size<=k:=fun k e=>(rJ h.own2 k e).1;refine⟨(g.block b h.box.lt (fun e=>by have:=c b e.symm;omega)).trans h.box,Nt h.own g h.ne,by rw[Jo,bK];exact o,h.q,h.q2.push d,fun R e a=>?_,KM h.fr g c⟩;rcases n with n |n
 ·rw[n] at a;exact h.ne R e a
 ·have f:=n R a;have i:=(rJ h.own R e).2;omega
theorem np.push1 {W:World} {b:Nat} {d:Value} {Q:List (Value×Value)} {t:Tb} (h:np w W b x y tv wv Q Q2 P P2 V) (r:b<W.heap.size) (l:ei w u1 u2 t) (j:V'.ownsRow W.heap.size 49 2 d (P.length+1) (eM Q++[u1,u2])) (g:V.grownBy V' tv.ownBlock) (n:d.ownBlock=tv.ownBlock∨∀k,d.ownBlock=some k ->V.heap.size<=k):
  np w W b x y d wv (Q++[(u1,u2)]) Q2 (P++[t]) P2 (V'.setCell ⟨b,2,none⟩ d)/\bQ V' b x y tv:=by
 have f:∀k,tv.ownBlock=some k ->W.heap.size<=k:=fun k e=>(rJ h.own k e).1;have c:bQ V' b x y tv:=(g.block b h.box.lt (fun e=>by have:=f b e.symm;omega)).trans h.box;have i:V'.ownsRow W.heap.size 49 2 wv P2.length (eM Q2):=Nt h.own2 g (fun R e a=>h.ne R a e);have o:V'.ownsRow W.heap.size 49 2 d (P++[t]).length (eM (Q++[(u1,u2)])):=by rw[Jo,bK];exact j
 refine⟨⟨c.set2 d,Ms o (fun e=>?_) _,Ms i (fun e=>?_) _,h.q.push l,h.q2,fun R e a=>?_,OW (KM h.fr g f) _ _⟩,c⟩
 ·have:=(rJ o b e).1;omega
 ·have:=(rJ i b e).1;omega
 ·rcases n with n |n
  ·rw[n] at e;exact h.ne R e a
  ·have m:=n R e;have p:=(rJ h.own2 R a).2;omega
theorem np.plm {W:World} {b:Nat} {Q:List (Value×Value)} (h:np w W b x y tv wv Q Q2 P P2 V) (e:ef w V) (d:w.heap.size<=W.heap.size):tz w.heap.size W b x y tv Q P V:=
 ⟨h.box,h.q.owt e d h.own,fun _ R _ k a c=>(h.q.val k a c).lt R,h.fr⟩
theorem np.row2 {W:World} {b:Nat} {Q:List (Value×Value)} (h:np w W b x y tv wv Q Q2 P P2 V) (e:ef w V) (d:w.heap.size<=W.heap.size):∃a c,wv=.slice a P2.length c/\iu V a P2:=(h.q2.owt e d h.own2).row
theorem agR (a b t:Option Addr) (ca cb ct:Nat) (S:List Nat) (fr:List Int) (P:List Tb) (D c v:Nat) (ai:Bool) (w:World) (aS:fX (iL S)) (hs:aJ w a (iL S)) (hb:aJ w b fr) (hP:iu w t P) (aT:fW S S.length P D c) (b4:P.length<=999) (fA:fr.length<=1000) (hm:2*(B D).size+(B c).size+2<=8192) (hv:v<S.length) (bo:∃t∈P,v∈ag t.1):
  du 105 #[.agg #[.slice a S.length ca,.slice b fr.length cb,.slice t P.length ct],.int .i64 (v:Nat),.bool ai] w fun e w'=>∃d V t' fB,e=.returned (.agg #[.slice a S.length ca,.slice d (bS fr v).length V,.slice t' (lq S v ai P).length fB])/\aJ w' d (bS fr v)/\iu w' t' (lq S v ai P)/\ij w.heap.size t' fB/\ef w w':=by
 have dN:Pos S:=by have:=aS.pos;rwa [jC] at this
 have mq:=hid (fun (U:World) (hU:ef w U)=>Y0 (.slice a S.length ca) (.slice t P.length ct) b cb fr (v:Int) U (slv _ _ _) (slv _ _ _) (hb.aa hU) fA)
 have wk:Hid (∀(k:Nat) (hk:k<P.length) (x:Option Addr) (cx:Nat) (U:World),aJ U x P[k].1 ->du 101 #[.slice x P[k].1.length cx,.int .i64 (v:Nat)] U fun e w'=>e=.returned (.bool (decide (v∈ag P[k].1)))/\ef U w'):=fun k hk x cx U h=>by
  have ho:=aT.ok _ (bF hk);have:=Jt x cx P[k].1 (v:Int) U h (by have:=ho.small aS;omega);rwa [abw ho.up] at this
 obtain⟨E1,d1,k1,k2,k3⟩:=aT.filter (fun t=>decide (v∈ag t.1))
 have a6:2*(B E1).size+(B d1).size+2<=8192:=by
  have h1:=lY k2;have h2:=lY k3;omega
 have aO:=k1.part dN a6 (P.filter fun t=>decide (v∈ag t.1)).length;rw[jR] at aO
 have bp:v∈ag (allT S (P.filter fun t=>decide (v∈ag t.1))).1:=((zl dN k1.ok).2.1 v).2 (by
  obtain⟨t,ht,Ee⟩:=bo;exact⟨t,eL.2 ⟨ht,eD Ee⟩,Ee⟩)
 have bx:(P.filter fun t=>decide (v∈ag t.1)).length<=1000:=aR (pH ..) al;have xX:Hid (∀(wa:Option Addr) (cw:Nat) (U:World),ef w U ->iu U wa (P.filter fun t=>decide (v∈ag t.1)) ->du 106 #[.slice a S.length ca,.slice wa (P.filter fun t=>decide (v∈ag t.1)).length cw] U fun e w'=>∃x y,e=.returned (.agg #[x,y])/\ei w' x y (allT S (P.filter fun t=>decide (v∈ag t.1)))/\ef U w'):=fun wa cw U hU h=>YS a wa ca cw S _ E1 d1 U aS (hs.aa hU) h k1 bx a6;have Df:Hid (∀(x y:Value) (U:World),ef w U ->ei U x y (allT S (P.filter fun t=>decide (v∈ag t.1))) ->du 164 #[.slice a S.length ca,.agg #[x,y],.int .i64 (v:Nat),.bool ai] U fun e w'=>CZ U.heap.size (outT S v ai (allT S (P.filter fun t=>decide (v∈ag t.1)))) e w'/\ef U w'):=fun x y U hU h=>ahg a ca S x y _ v ai U aS (hs.aa hU) h aO.1 aO.2 hv bp;have HP:=hid hP;clear hs hb hP aT aS dN hm bo k1 k2 k3 a6 aO bp bx;obtain⟨T,hT⟩:∃T:Nat ->List Tb,∀k,(P.take k).filter (fun t=>!decide (v∈ag t.1))=T k:=⟨fun k=>(P.take k).filter (fun t=>!decide (v∈ag t.1)),fun _=>rfl⟩;obtain⟨Z,hZ⟩:∃Z:Nat ->List Tb,∀k,(P.take k).filter (fun t=>decide (v∈ag t.1))=Z k:=⟨fun k=>(P.take k).filter (fun t=>decide (v∈ag t.1)),fun _=>rfl⟩;have tG:Hid (T 0=[]/\Z 0=[]):=by show _/\_;rw[<- hT, <- hZ];exact⟨rfl,rfl⟩
 have j8:Hid (∀k (hk:k<P.length),decide (v∈ag P[k].1)=true ->T (k+1)=T k/\Z (k+1)=Z k++[P[k]]):=fun k hk h=>by
  rw[<- hT, <- hT, <- hZ, <- hZ,iF hk,BL,BL,BK (by simp only[h];decide),BI (p:=fun t:Tb=>decide (v∈ag t.1)) h];simp
 have tH:Hid (∀k (hk:k<P.length),decide (v∈ag P[k].1)=false ->T (k+1)=T k++[P[k]]/\Z (k+1)=Z k):=fun k hk h=>by
  rw[<- hT, <- hT, <- hZ, <- hZ,iF hk,BL,BL,BI (by simp only[h];decide),BK (by simp only[h];decide)];simp
 have vQ:Hid (T P.length=(P.filter fun t=>!decide (v∈ag t.1))/\Z P.length=P.filter fun t=>decide (v∈ag t.1)):=by show _/\_;rw[<- hT, <- hZ,jR];exact⟨rfl,rfl⟩
 have uI:Hid (∀k,(T k).length<=P.length/\(Z k).length<=P.length):=fun k=>by rw[<- hT, <- hZ];exact⟨aR (pH ..) (by rw[eE];omega),aR (pH ..) (by rw[eE];omega)⟩
 clear hT hZ;obtain⟨OP,TX⟩:∃OP,lq S v ai P=OP:=⟨_,rfl⟩;have a7:Hid (OP=T P.length++[outT S v ai (allT S (Z P.length))]):=by show _=_;rw[<- TX,vQ.o.1,vQ.o.2];rfl
 rw[<- vQ.o.2] at xX Df;rw[TX];generalize outT S v ai (allT S (Z P.length))=OT at *;generalize allT S (Z P.length)=AT at *;clear TX vQ;obtain⟨L,Hf⟩:∃L,bS fr v=L:=⟨_,rfl⟩;rw[Hf] at mq;rw[Hf];clear Hf;go_enter Tryz.func105,Tryz.ntmps105;go_wp2_with fail
 have az:ef w ((w.alloc (.cells #[.slice a S.length ca,.slice b fr.length cb,.slice t P.length ct] 100)).alloc (.cells #[.slice none 0 0,.slice none 0 0,.slice none 0 0] 100)):=by
  have h1:=(au w.heap.size w).alloc (aq _) (.cells #[.slice a S.length ca,.slice b fr.length cb,.slice t P.length ct] 100);exact h1.alloc h1.size _
 have xz:bQ ((w.alloc (.cells #[.slice a S.length ca,.slice b fr.length cb,.slice t P.length ct] 100)).alloc (.cells #[.slice none 0 0,.slice none 0 0,.slice none 0 0] 100)) w.heap.size (.slice a S.length ca) (.slice b fr.length cb) (.slice t P.length ct):=(bQ.at (w:=w) rfl _ _ _).alloc _;have jZ:bQ ((w.alloc (.cells #[.slice a S.length ca,.slice b fr.length cb,.slice t P.length ct] 100)).alloc (.cells #[.slice none 0 0,.slice none 0 0,.slice none 0 0] 100)) (w.heap.size+1) (.slice none 0 0) (.slice none 0 0) (.slice none 0 0):=bQ.at (w:=w.alloc (.cells #[.slice a S.length ca,.slice b fr.length cb,.slice t P.length ct] 100)) aE _ _ _;have AY:=hid (mq.o _ az);clear mq;generalize ((w.alloc (.cells #[.slice a S.length ca,.slice b fr.length cb,.slice t P.length ct] 100)).alloc (.cells #[.slice none 0 0,.slice none 0 0,.slice none 0 0] 100))=W0 at *;refine AY.o.af ?_;rintro e M ⟨d,V,rfl,Eu,JU,ax⟩;have b3:=jZ.lt;have mj:=(au M.heap.size M).alloc (aq _) (.cells #[.slice a S.length ca,.slice d L.length V,.slice none 0 0] 100);have ku:(M.alloc (.cells #[.slice a S.length ca,.slice d L.length V,.slice none 0 0] 100)).heap.size=M.heap.size+1:=aE
 have fh:=(az.trans (ax.af az.size)).trans (mj.af (aR az.size ax.size));have EF:=(xz.aa ax xz.lt).alloc (.cells #[.slice a S.length ca,.slice d L.length V,.slice none 0 0] 100);have Ay:=(jZ.aa ax jZ.lt).alloc (.cells #[.slice a S.length ca,.slice d L.length V,.slice none 0 0] 100);have Kw:np w (M.alloc (.cells #[.slice a S.length ca,.slice d L.length V,.slice none 0 0] 100)) M.heap.size (.slice a S.length ca) (.slice d L.length V) (.slice none 0 0) (.slice none 0 0) [] [] [] [] (M.alloc (.cells #[.slice a S.length ca,.slice d L.length V,.slice none 0 0] 100)):=np.start (bQ.at (w:=M) rfl (.slice a S.length ca) (.slice d L.length V) (.slice none 0 0));have KC:=Eu.aa mj;have b7:=ax.size
 have VH:Hid (∀g an,d=some ⟨g,an,none⟩ ->L≠[] ->some g≠some M.heap.size):=fun g an e bT e2=>by
  obtain⟨g',o',e',iI,_⟩:=Eu 0 (by cases hl:L with |nil=>exact absurd hl bT |cons x l=>simp);rw[e] at e';cases e';cases e2;omega
 have sj:Hid (∀g an,d=some ⟨g,an,none⟩ ->L≠[] ->g≠w.heap.size+1):=fun g an e _ e2=>by
  have:=JU.2 g an e;omega
 clear Eu JU ax az xz jZ mj AY;have eW:=hid fh;have A8:=hid EF;have kd:=hid Ay;have vV:=hid Kw;have Md:=hid KC;have y5:=EF.cells.2.2;clear fh EF Ay Kw KC;go_wp2_with fail
 generalize (M.alloc (.cells #[.slice a S.length ca,.slice d L.length V,.slice none 0 0] 100))=W4 at *;clear y5;go_loopw [8,19] (fun zv iv wr=>∃(i:Nat) (tv:Value) (Q Q2:List (Value×Value)),i<=P.length/\iv=.int .i64 i/\Hid (np w W4 M.heap.size (.slice a S.length ca) (.slice d L.length V) tv zv Q Q2 (T i) (Z i) wr)) (fun _ iv _=>P.length - (intOf iv).toNat)
 case atStart=>exact⟨0,_,_,_,aV _,rfl,by rw[tG.o.1,tG.o.2];exact vV⟩
 case round=>
  obtain⟨i,tv,Q,Q2,hi,rfl,HM⟩:=hrel;have y9:=HM.o.fr.size;have HB:Hid (ef w wr):=KL eW.o HM.o.fr al al;have LM:Hid (bQ wr w.heap.size (.slice a S.length ca) (.slice b fr.length cb) (.slice t P.length ct)):=(HM.o.fr.block _ A8.o.lt (fun e=>by have:=oP e;omega)).trans A8.o;have q9:Hid (bQ wr (w.heap.size+1) (.slice none 0 0) (.slice none 0 0) (.slice none 0 0)):=(HM.o.fr.block _ kd.o.lt (fun e=>by have:=oP e;omega)).trans kd.o;have a1:M.heap.size<W4.heap.size:=al
  obtain⟨za,zc,rfl⟩:=vg HM.o.own2;by_cases aC:i<P.length
  ·obtain⟨g,an,p,q,rfl,hg,k0,k1,bf⟩:=HP.o i aC;replace k0:=(HB.o.cell (p:=⟨g,_,none⟩) hg).trans k0;replace k1:=(HB.o.cell (p:=⟨g,_,none⟩) hg).trans k1;have H7:=hid bf;have hA:=(au wr.heap.size wr).alloc (aq _) (TC p q);have dR:=hid (HB.o.trans (hA.af HB.o.size));(have GN:(wr.alloc (TC p q)).heap.size=wr.heap.size+1:=aE);have bL:=bE.at (w:=wr) rfl p q;have b0:=bL.c0;have LX:=hid (HM.o.under hA);obtain⟨ps,qs,pc,qc,rfl,rfl,Co,_,_⟩:=bf;have HX:=hid (wk.o i aC ps pc _ (Co.aa dR.o));have qu:=hid bL;have bN:=hid (j8.o i aC);have bM:=hid (tH.o i aC);have rV:=uI.o i;clear Co hA bL HM HB LM q9;have bA:Hid (Below (wr.alloc (TC (.slice ps P[i].1.length pc) (.slice qs P[i].2.length qc))).heap.size (wr.alloc (TC (.slice ps P[i].1.length pc) (.slice qs P[i].2.length qc))) (wr.alloc (TC (.slice ps P[i].1.length pc) (.slice qs P[i].2.length qc)))):=au _ _;generalize P[i]=E at *;generalize hdc:decide (v∈ag E.1)=dc at *;clear hdc;go_wp2_with fail
   refine HX.o.af ?_;rintro e w7 ⟨rfl,dw⟩;have Fe:=hid (LX.o.under dw);have WA:=hid (qu.o.aa dw qu.o.lt);have bX:=WA.o.c0;have b2:=WA.o.c1;have zh:=(au w7.heap.size w7).alloc (aq _) (TC (.slice ps E.1.length pc) (.slice qs E.2.length qc));have vU:=hid (Fe.o.under zh);have EB:=bE.at (w:=w7) rfl (.slice ps E.1.length pc) (.slice qs E.2.length qc);have bh:=hid EB.c0;have bg:=hid EB.c1;have LC:Hid (W4.heap.size<=(w7.alloc (TC (.slice ps E.1.length pc) (.slice qs E.2.length qc))).heap.size):=vU.o.fr.size;have bW:=Fe.o.box.cells.2.2;clear dw zh EB HX LX k0 k1 b0 qu dR WA bA;cases dc with
   |true=>
    obtain⟨e1,e2⟩:=bN.o rfl
    have ay:∀(BQ:Value) (F:World),F.ownsRow W4.heap.size 49 2 BQ ((Z i).length+1) (eM Q2++[.slice ps E.1.length pc,.slice qs E.2.length qc]) ->(w7.alloc (TC (.slice ps E.1.length pc) (.slice qs E.2.length qc))).grownBy F (Value.ownBlock (.slice za (Z i).length zc)) ->(BQ.ownBlock=Value.ownBlock (.slice za (Z i).length zc)∨∀k,BQ.ownBlock=some k ->(w7.alloc (TC (.slice ps E.1.length pc) (.slice qs E.2.length qc))).heap.size<=k) ->(∃a' c',BQ=Value.slice a' ((Z i).length+1) c')/\np w W4 M.heap.size (.slice a S.length ca) (.slice d L.length V) tv BQ Q (Q2++[(.slice ps E.1.length pc,.slice qs E.2.length qc)]) (T (i+1)) (Z (i+1)) F:=fun BQ F gi gR im=>by
     have hM:=vU.o.push2 a1 H7.o gi gR im;rw[<- e2, <- e1] at hM;exact⟨vg gi,hM⟩
    have HKEY:=hid ay;clear ay e1 e2 bW;go_wp2_with (at_builtin;refine MP rfl _ _ rfl W4.heap.size (.slice za (Z i).length zc) (Z i).length (eM Q2) (.slice ps E.1.length pc) (.slice qs E.2.length qc) rfl vU.o.own2 w7.heap.size rfl bh.o bg.o (slv _ _ _) (slv _ _ _) al LC.o ?_;intro BQ F gi gR im;obtain⟨⟨yG,yF,rfl⟩,xA⟩:=HKEY.o BQ F gi gR im;have mz:=hid xA;clear xA gi gR im)
    go_roundw
    case rel=>exact⟨i+1,_,_,_,al,b5,mz⟩
    case measure=>simp[intOf];omega
   |false=>
    obtain⟨e1,e2⟩:=bM.o rfl
    have ay:∀(Y:Value) (F:World),F.ownsRow W4.heap.size 49 2 Y ((T i).length+1) (eM Q++[.slice ps E.1.length pc,.slice qs E.2.length qc]) ->(w7.alloc (TC (.slice ps E.1.length pc) (.slice qs E.2.length qc))).grownBy F tv.ownBlock ->(Y.ownBlock=tv.ownBlock∨∀k,Y.ownBlock=some k ->(w7.alloc (TC (.slice ps E.1.length pc) (.slice qs E.2.length qc))).heap.size<=k) ->(∃a' c',Y=Value.slice a' ((T i).length+1) c')/\np w W4 M.heap.size (.slice a S.length ca) (.slice d L.length V) Y (.slice za (Z i).length zc) (Q++[(.slice ps E.1.length pc,.slice qs E.2.length qc)]) Q2 (T (i+1)) (Z (i+1)) (F.setCell ⟨M.heap.size,2,none⟩ Y)/\F.cell? ⟨M.heap.size,2,none⟩=some tv/\F.frozen? ⟨M.heap.size,2,none⟩=false:=fun Y F gi gR im=>by
     obtain⟨hM,CO⟩:=vU.o.push1 a1 H7.o gi gR im;rw[<- e2, <- e1] at hM;rw[e2] at hM;exact⟨vg gi,by rw[e2];exact hM,CO.cells.2.2,CO.fz 2⟩
    have HKEY:=hid ay;clear ay e1 e2;go_wp2_with (at_builtin;refine MP rfl _ _ rfl W4.heap.size tv (T i).length (eM Q) (.slice ps E.1.length pc) (.slice qs E.2.length qc) rfl vU.o.own w7.heap.size rfl bh.o bg.o (slv _ _ _) (slv _ _ _) al LC.o ?_;intro Y F gi gR im;obtain⟨⟨yG,yF,rfl⟩,xA,bz,bu⟩:=HKEY.o Y F gi gR im;have mz:=hid xA;clear xA gi gR im)
    go_roundw
    case rel=>exact⟨i+1,_,_,_,al,b5,mz⟩
    case measure=>simp[intOf];omega
  ·obtain rfl:i=P.length:=al
   obtain⟨cc,cf,ez,br⟩:=HM.o.row2 HB.o al;injection ez with ez1 ez2 ez3;subst ez1 ez3;clear ez2;have po:=hid (HM.o.plm HB.o al);have bd:=hid br;have rV:=(uI.o P.length).1;clear br HM vV j8 tH uI wk;(have bR:(T P.length).length+1=OP.length:=by rw[a7.o,bK];rfl);go_upto_region 10 with (go_quiet (fail))
   have xE:ef wr wr.drew:=(au wr.heap.size wr).drew;have J:Hid (ef w wr.drew):=HB.o.drew;have H8:Hid (bQ wr.drew w.heap.size (.slice a S.length ca) (.slice b fr.length cb) (.slice t P.length ct)):=LM.o;have Vx:=hid (po.o.under xE);have av:=hid (bd.o.aa xE);have Ei:W4.heap.size<=wr.drew.heap.size:=y9;clear po bd HB LM q9 xE y9;obtain⟨I,AE⟩:∃I,wr.drew=I:=⟨_,rfl⟩;rw[AE] at J H8 Vx av Ei;have sf:Hid (∀U:World,ef I U ->U.cell? ⟨w.heap.size,0,none⟩=some (.slice a S.length ca)):=fun U hU=>(H8.o.aa hU H8.o.lt).cells.1;have f:Hid (ef I I):=au _ _;refine gI (S:=fun U=>U.cell? ⟨w.heap.size,0,none⟩=some (.slice a S.length ca)) ao (by rw[AE];exact sf.o _ f.o) (fun z=>?_);rw[AE] at z⊢;clear AE;refine ar 0 (.pointer (some ⟨w.heap.size,0,none⟩)) ?_;refine ar 1 (.slice a S.length ca) ?_;refine ar 2 (.pointer (some ⟨w.heap.size,0,none⟩)) ?_;refine ar 3 (.slice a S.length ca) ?_;refine ar 4 (.slice za (Z P.length).length zc) ?_;refine ar 6 (.int .i64 (v:Nat)) ?_;refine ar 7 (.bool ai) ?_;refine aG [5,12] (cA ?_ (cA ?_ aF))
   focus
    intro O K;go_simp;refine(xX.o za zc I J.o av.o).af ?_;rintro e u1 ⟨x1,y1,rfl,pT,aj⟩;replace J:=hid (J.o.trans (aj.af J.o.size));replace f:=hid (f.o.trans (aj.af f.o.size));have xV:=hid pT;refine K.o _ _ (sf.o u1 f.o) (fun u=>?_);clear aj pT K O z;have z:=u;clear u;refine aG [8,12] (cA ?_ (cA ?_ aF))
    focus
     intro O K;go_simp;refine(Df.o x1 y1 u1 J.o xV.o).af ?_;rintro e u2 ⟨⟨x2,y2,rfl,ad,gj⟩,ae⟩;have pz:Hid (∀R,R<I.heap.size ->gA R OT (x2,y2)):=fun R hR=>gj R (aU hR f.o.size);replace J:=hid (J.o.trans (ae.af J.o.size));replace f:=hid (f.o.trans (ae.af f.o.size));have nC:=hid ad;obtain⟨xs,n,m,rfl⟩:=ad.slices.1;obtain⟨s,r,o,rfl⟩:=ad.slices.2;refine K.o _ _ (sf.o u2 f.o) (fun u=>?_);clear ae ad gj K O z;have z:=u;clear u;refine ar 9 (.tuple #[.agg #[.slice xs n m,.slice s r o],.int .i64 0]) ?_;refine ar 10 (.agg #[.slice xs n m,.slice s r o]) ?_;refine ar 11 (.int .i64 0) ?_;refine aG [12] (cA ?_ aF);intro O K;go_simp;have jF:=(au _ u2).alloc (aq _) (TC (.slice none 0 0) (.slice none 0 0));replace J:=hid (J.o.trans (jF.af J.o.size));have cR:I.heap.size<=u2.heap.size:=f.o.size;replace f:=hid (f.o.trans (jF.af f.o.size));have H:=hid (bE.at (w:=u2) rfl (.slice none 0 0) (.slice none 0 0));(have oZ:u2.heap.size<(u2.alloc (TC (.slice none 0 0) (.slice none 0 0))).heap.size:=aE);have vT:Hid (gA u2.heap.size OT (.slice xs n m,.slice s r o)):=nC.o.lt (aq _);replace nC:=hid (nC.o.aa jF);refine K.o _ _ (sf.o _ f.o) (fun u=>?_);clear jF K O z;have z:=u;clear u;obtain⟨A,ab⟩:∃A,u2.heap.size=A:=⟨_,rfl⟩;obtain⟨u3,X⟩:∃u3,u2.alloc (TC (.slice none 0 0) (.slice none 0 0))=u3:=⟨_,rfl⟩;have Ce:u2.alloc (.cells #[.slice none 0 0,.slice none 0 0] 49)=u3:=X;(have Cq:I.heap.size<=A:=al)
     (have Cp:A<u3.heap.size:=by rw[<- ab, <- X];exact oZ);rw[ab,X] at H;clear cR oZ;have cR:=Cq;have oZ:=Cp;clear Cq Cp;rw[ab] at vT;rw[X] at nC;rw[X] at f J;simp only[Ce] at z⊢;simp only[ab];clear X Ce ab;(try simp only[gE,aP]);obtain⟨b0,b1,Lc,K9⟩:=H.o.facts;refine aG [13] (cA ?_ aF);intro O K;go_simp;have vR:=hid (H.o.put (.slice xs n m) (.slice s r o));have Qs:=hid (o9 J.o (aR al cR) (.slice xs n m) (.slice s r o));have C8:=hid (o9 f.o cR (.slice xs n m) (.slice s r o));have xU:=hid ((nC.o.off (g:=A) (j:=0) (.slice xs n m) vT.o).off (g:=A) (j:=1) (.slice s r o) vT.o);refine K.o _ _ (sf.o _ C8.o) (fun u=>?_);clear b0 b1 Lc K9 H J f nC vT K O z;have z:=u;clear u;refine ar 14 (.int .i64 0) ?_;(try simp only[gE,aP]);refine dS ao ?_ _;clear z;obtain⟨u4,vu⟩:∃u4,((u3.setCell ⟨A,0,none⟩ (.slice xs n m)).setCell ⟨A,1,none⟩ (.slice s r o))=u4:=⟨_,rfl⟩
    rotate_left
    focus
     intro O K;go_simp;have jF:=(au _ u1).alloc (aq _) (TC (.slice none 0 0) (.slice none 0 0));replace J:=hid (J.o.trans (jF.af J.o.size));have cR:I.heap.size<=u1.heap.size:=f.o.size;replace f:=hid (f.o.trans (jF.af f.o.size));have H:=hid (bE.at (w:=u1) rfl (.slice none 0 0) (.slice none 0 0));(have oZ:u1.heap.size<(u1.alloc (TC (.slice none 0 0) (.slice none 0 0))).heap.size:=aE);replace xV:=hid (xV.o.aa jF);refine K.o _ _ (sf.o _ f.o) (fun u=>?_);clear jF K O z;have z:=u;clear u;obtain⟨A,ab⟩:∃A,u1.heap.size=A:=⟨_,rfl⟩;obtain⟨u3,X⟩:∃u3,u1.alloc (TC (.slice none 0 0) (.slice none 0 0))=u3:=⟨_,rfl⟩;have Ce:u1.alloc (.cells #[.slice none 0 0,.slice none 0 0] 49)=u3:=X;(have Cq:I.heap.size<=A:=al);(have Cp:A<u3.heap.size:=by rw[<- ab, <- X];exact oZ);rw[ab,X] at H;clear cR oZ;have cR:=Cq;have oZ:=Cp;clear Cq Cp;rw[X] at xV;rw[X] at f J;simp only[Ce] at z⊢;simp only[ab];clear X Ce ab;refine aG [8] (cA ?_ aF);intro O K;go_simp;refine(Df.o x1 y1 u3 J.o xV.o).af ?_;rintro e u2 ⟨⟨x2,y2,rfl,ad,gj⟩,ae⟩;have pz:Hid (∀R,R<I.heap.size ->gA R OT (x2,y2)):=fun R hR=>gj R (aU hR f.o.size);have vT:Hid (gA A OT (x2,y2)):=gj _ oZ;replace H:=hid (H.o.aa ae H.o.lt);replace J:=hid (J.o.trans (ae.af J.o.size));replace f:=hid (f.o.trans (ae.af f.o.size));have nC:=hid ad;obtain⟨xs,n,m,rfl⟩:=ad.slices.1;obtain⟨s,r,o,rfl⟩:=ad.slices.2;refine K.o _ _ (sf.o u2 f.o) (fun u=>?_);clear ae ad gj K O z
     have z:=u;clear u;refine ar 9 (.tuple #[.agg #[.slice xs n m,.slice s r o],.int .i64 0]) ?_;refine ar 10 (.agg #[.slice xs n m,.slice s r o]) ?_;refine ar 11 (.int .i64 0) ?_;(try simp only[gE,aP]);obtain⟨b0,b1,Lc,K9⟩:=H.o.facts;refine aG [13] (cA ?_ aF);intro O K;go_simp;have vR:=hid (H.o.put (.slice xs n m) (.slice s r o));have Qs:=hid (o9 J.o (aR al cR) (.slice xs n m) (.slice s r o));have C8:=hid (o9 f.o cR (.slice xs n m) (.slice s r o));have xU:=hid ((nC.o.off (g:=A) (j:=0) (.slice xs n m) vT.o).off (g:=A) (j:=1) (.slice s r o) vT.o);refine K.o _ _ (sf.o _ C8.o) (fun u=>?_);clear b0 b1 Lc K9 H J f nC vT K O z;have z:=u;clear u;refine ar 14 (.int .i64 0) ?_;(try simp only[gE,aP]);refine dS ao ?_ _;clear z;obtain⟨u4,vu⟩:∃u4,((u2.setCell ⟨A,0,none⟩ (.slice xs n m)).setCell ⟨A,1,none⟩ (.slice s r o))=u4:=⟨_,rfl⟩
   rotate_left 2
   focus
    intro O K;go_simp;have jF:=(au _ I).alloc (aq _) (TC (.slice none 0 0) (.slice none 0 0));replace J:=hid (J.o.trans (jF.af J.o.size));have cR:I.heap.size<=I.heap.size:=f.o.size;replace f:=hid (f.o.trans (jF.af f.o.size));have H:=hid (bE.at (w:=I) rfl (.slice none 0 0) (.slice none 0 0));(have oZ:I.heap.size<(I.alloc (TC (.slice none 0 0) (.slice none 0 0))).heap.size:=aE);replace av:=hid (av.o.aa jF);refine K.o _ _ (sf.o _ f.o) (fun u=>?_);clear jF K O z;have z:=u;clear u;obtain⟨A,ab⟩:∃A,I.heap.size=A:=⟨_,rfl⟩;obtain⟨u3,X⟩:∃u3,I.alloc (TC (.slice none 0 0) (.slice none 0 0))=u3:=⟨_,rfl⟩;have Ce:I.alloc (.cells #[.slice none 0 0,.slice none 0 0] 49)=u3:=X;(have Cq:I.heap.size<=A:=al);(have Cp:A<u3.heap.size:=by rw[<- ab, <- X];exact oZ);rw[ab,X] at H;clear cR oZ;have cR:=Cq;have oZ:=Cp;clear Cq Cp;rw[X] at av;rw[X] at f J;simp only[Ce] at z⊢;simp only[ab];clear X Ce ab;refine aG [5] (cA ?_ aF);intro O K;go_simp;refine(xX.o za zc u3 J.o av.o).af ?_;rintro e u1 ⟨x1,y1,rfl,pT,aj⟩;replace J:=hid (J.o.trans (aj.af J.o.size));replace f:=hid (f.o.trans (aj.af f.o.size));replace H:=hid (H.o.aa aj H.o.lt);have xV:=hid pT;refine K.o _ _ (sf.o u1 f.o) (fun u=>?_);clear aj pT K O z;have z:=u;clear u;have bJ:A<u1.heap.size:=H.o.lt;refine aG [8] (cA ?_ aF);intro O K;go_simp;refine(Df.o x1 y1 u1 J.o xV.o).af ?_;rintro e u2 ⟨⟨x2,y2,rfl,ad,gj⟩,ae⟩
    have pz:Hid (∀R,R<I.heap.size ->gA R OT (x2,y2)):=fun R hR=>gj R (aU hR f.o.size);have vT:Hid (gA A OT (x2,y2)):=gj _ bJ;replace H:=hid (H.o.aa ae H.o.lt);replace J:=hid (J.o.trans (ae.af J.o.size));replace f:=hid (f.o.trans (ae.af f.o.size));have nC:=hid ad;obtain⟨xs,n,m,rfl⟩:=ad.slices.1;obtain⟨s,r,o,rfl⟩:=ad.slices.2;refine K.o _ _ (sf.o u2 f.o) (fun u=>?_);clear ae ad gj K O z;have z:=u;clear u;refine ar 9 (.tuple #[.agg #[.slice xs n m,.slice s r o],.int .i64 0]) ?_;refine ar 10 (.agg #[.slice xs n m,.slice s r o]) ?_;refine ar 11 (.int .i64 0) ?_;(try simp only[gE,aP]);obtain⟨b0,b1,Lc,K9⟩:=H.o.facts;refine aG [13] (cA ?_ aF);intro O K;go_simp;have vR:=hid (H.o.put (.slice xs n m) (.slice s r o));have Qs:=hid (o9 J.o (aR al cR) (.slice xs n m) (.slice s r o));have C8:=hid (o9 f.o cR (.slice xs n m) (.slice s r o));have xU:=hid ((nC.o.off (g:=A) (j:=0) (.slice xs n m) vT.o).off (g:=A) (j:=1) (.slice s r o) vT.o);refine K.o _ _ (sf.o _ C8.o) (fun u=>?_);clear b0 b1 Lc K9 H J f nC vT K O z;have z:=u;clear u;refine ar 14 (.int .i64 0) ?_;(try simp only[gE,aP]);refine dS ao ?_ _;clear z;obtain⟨u4,vu⟩:∃u4,((u2.setCell ⟨A,0,none⟩ (.slice xs n m)).setCell ⟨A,1,none⟩ (.slice s r o))=u4:=⟨_,rfl⟩
   all_goals
    rw[vu] at vR Qs C8 xU⊢;clear vu;have Vy:=hid (Vx.o.under C8.o);have CP:=(au u4.heap.size u4).alloc (aq _) (TC (.slice xs n m) (.slice s r o));have sk:=hid (Vy.o.under CP);have H3:=hid (xU.o.aa CP);have Cu:=bE.at (w:=u4) rfl (.slice xs n m) (.slice s r o);have bl:=hid Cu.c0;have bk:=hid Cu.c1;have bc:Hid (W4.heap.size<=(u4.alloc (TC (.slice xs n m) (.slice s r o))).heap.size):=sk.o.fr.size;have bV:=Vy.o.box.cells.2.2;have g0:=vR.o.c0;have bO:=vR.o.c1;have bb:Hid (∀R,tv.ownBlock=some R ->gA R OT ((.slice xs n m),(.slice s r o))):=fun R hR=>pz.o R (Vx.o.own.lt R hR).2;clear CP Cu vR C8 xU
    have HKEY:Hid (∀(Y:Value) (F:World),F.ownsRow W4.heap.size 49 2 Y ((T P.length).length+1) (eM Q++[(.slice xs n m),(.slice s r o)]) ->(u4.alloc (TC (.slice xs n m) (.slice s r o))).grownBy F tv.ownBlock ->(Y.ownBlock=tv.ownBlock∨∀k,Y.ownBlock=some k ->(u4.alloc (TC (.slice xs n m) (.slice s r o))).heap.size<=k) ->(∃a' c',Y=Value.slice a' OP.length c')/\tz w.heap.size W4 M.heap.size (.slice a S.length ca) (.slice d L.length V) Y (Q++[((.slice xs n m),(.slice s r o))]) OP (F.setCell ⟨M.heap.size,2,none⟩ Y)/\F.cell? ⟨M.heap.size,2,none⟩=some tv/\F.frozen? ⟨M.heap.size,2,none⟩=false):=fun Y F gi gR im=>by
     have hM:=sk.o.push al a1 H3.o bb.o (fun R _ hR=>pz.o R al) gi gR im;rw[<- a7.o] at hM;have CO:bQ F M.heap.size (.slice a S.length ca) (.slice d L.length V) tv:=(gR.block _ sk.o.box.lt (fun e=>by have:=(sk.o.own.lt _ e.symm).1;omega)).trans sk.o.box;exact⟨by rw[<- bR];exact vg gi,hM,CO.cells.2.2,CO.fz 2⟩
    go_upto_region 12 with (at_builtin;refine MP rfl _ _ rfl W4.heap.size tv (T P.length).length (eM Q) (.slice xs n m) (.slice s r o) rfl sk.o.own.own u4.heap.size rfl bl.o bk.o (slv _ _ _) (slv _ _ _) al bc.o ?_;intro Y F gi gR im;obtain⟨⟨yG,yF,rfl⟩,xA,bz,bu⟩:=HKEY.o Y F gi gR im;have mz:=hid xA;clear xA gi gR im)
    obtain⟨VV,bm⟩:∃VV,F.setCell ⟨M.heap.size,2,none⟩ (.slice yG OP.length yF)=VV:=⟨_,rfl⟩;rw[bm] at mz⊢;clear bm bz bu bV g0 bO HKEY bb bc bl bk H3 sk Vy pz xV Qs;have y9:=mz.o.fr.size;have zJ:Hid (ef w VV):=KL eW.o mz.o.fr al al;have A2:Hid (bQ VV (w.heap.size+1) (.slice none 0 0) (.slice none 0 0) (.slice none 0 0)):=(mz.o.fr.block _ kd.o.lt (fun e=>by have:=oP e;omega)).trans kd.o;have KB:aJ VV d L:=JM Md.o VH.o mz.o.fr;obtain⟨x0,b8,b9⟩:=mz.o.box.cells;obtain⟨r0,r1,r2⟩:=A2.o.cells;have Nf:=A2.o.fz 0;have Nd:=A2.o.fz 1;have Nc:=A2.o.fz 2;have A4:=hid (A2.o.put (.slice a S.length ca) (.slice d L.length V) (.slice yG OP.length yF));have k8:=hid (dV zJ.o (show w.heap.size<=w.heap.size+1 by omega) (.slice a S.length ca) (.slice d L.length V) (.slice yG OP.length yF))
    have fD:Value.ownBlock (.slice yG OP.length yF)≠some (w.heap.size+1):=fun e=>by
     have:=(mz.o.own.lt _ e).1;omega
    have CG:=((mz.o.own.off (g:=w.heap.size+1) (j:=0) (.slice a S.length ca) (mz.o.far _ al al) fD).off (g:=w.heap.size+1) (j:=1) (.slice d L.length V) (mz.o.far _ al al) fD).off (g:=w.heap.size+1) (j:=2) (.slice yG OP.length yF) (mz.o.far _ al al) fD;obtain⟨XD,Xz,e2,Cf⟩:=CG.row;injection e2 with e3 e4 e5;subst e3 e5;clear e4;have Lu:=hid Cf;have zE:=hid (((KB.off (g:=w.heap.size+1) (j:=0) (y:=.slice a S.length ca) sj.o).off (g:=w.heap.size+1) (j:=1) (y:=.slice d L.length V) sj.o).off (g:=w.heap.size+1) (j:=2) (y:=.slice yG OP.length yF) sj.o);have LQ:=hid ((RN mz.o.own.own).up (show w.heap.size<=W4.heap.size by omega));clear CG Cf KB fD;go_wp2;refine cj (A4.o.result1 rfl _ rfl) rfl ?_;exact⟨d,V,yG,yF,rfl,zE.o,Lu.o,LQ.o,k8.o⟩
theorem YZ {o:Nat} {u:Value} (b:bQ V g x y z) (h:cV x) (a:cV y) (d:cV z) (c:V.cell? ⟨g,o,none⟩=some u):cV u:=by
 rw[bG V g o _ _ (0,0) b] at c;match o,c with
 |0,c=>cases c;exact h
 |1,c=>cases c;exact a
 |2,c=>cases c;exact d
 |o+3,c=>simp at c
theorem aar {b:Option Addr} {l:List Int} (h:aJ V b l) (f:bQ V g x y z) (j:cV x) (k:cV y) (m:cV z):∀g' o',b=some ⟨g',o',none⟩ ->l≠[] ->g'≠g:=fun g' o' e n c=>by
 obtain⟨o,p,a,_,i⟩:=h 0 (by cases hl:l with |nil=>exact absurd hl n |cons x l=>simp);rw[e] at a;cases a;subst c;obtain⟨_,_,_,d⟩:=YZ f j k m i;cases d
theorem ak1 {b:Option Addr} (h:aW V b l) (f:bQ V g x y z) (j:cV x) (k:cV y) (m:cV z):∀g' o',b=some ⟨g',o',none⟩ ->l≠[] ->g'≠g:=fun g' o' e n c=>by
 obtain⟨o,p,a,_,i,_⟩:=h 0 (by cases hl:l with |nil=>exact absurd hl n |cons x l=>simp);rw[e] at a;cases a;subst c;obtain⟨_,_,_,d⟩:=YZ f j k m i;cases d
theorem Q7 {t:Tb} {p q:Value} (h:ei V p q t) (d:bQ V g x y z) (f:cV x) (i:cV y) (j:cV z):gA g t (p,q):=by
 obtain⟨b,c,cb,cc,rfl,rfl,l,m,o⟩:=h;exact⟨fun g' o' n k e a=>by injection e with e1 _ _;exact aar l d f i j g' o' e1 a,fun g' o' n k e a=>by injection e with e1 _ _;exact ak1 m d f i j g' o' e1 a⟩
theorem iu.offP (u:Value) (h:iu V a P) (n:∀g' o',a=some ⟨g',o',none⟩ ->g'≠g) (t:∀k (b:k<P.length) p q,ei V p q P[k] ->gA g P[k] (p,q)):iu (V.setCell ⟨g,j,none⟩ u) a P:=fun k b=>by
 obtain⟨g',o,p,q,e,l,f,i,c⟩:=h k b;have d:(V.setCell ⟨g,j,none⟩ u).heap[g']? =V.heap[g']?:=fQ V ⟨g,j,none⟩ u g' (n g' o e);exact⟨g',o,p,q,e,aU l (kh V _ _).size,(nH (a:=⟨g',_,none⟩) d).trans f,(nH (a:=⟨g',_,none⟩) d).trans i,c.off u (t k b p q c)⟩
theorem iu.putP (h:iu V a P) (b:bQ V g x y z) (i:cV x) (e:cV y) (c:cV z) (n:∀g' o',a=some ⟨g',o',none⟩ ->g'≠g) {u v:Value} (d:cV u) (f:cV v) (s:Value):iu (((V.setCell ⟨g,0,none⟩ u).setCell ⟨g,1,none⟩ v).setCell ⟨g,2,none⟩ s) a P:=
 ((h.offP u n fun _ _ _ _ t=>Q7 t b i e c).offP v n fun _ _ _ _ t=>Q7 t (b.set0 u) d e c).offP s n fun _ _ _ _ t=>Q7 t ((b.set0 u).set1 v) d f c
theorem aJ.putP {l:List Int} (h:aJ V a l) (b:bQ V g x y z) (c:cV x) (d:cV y) (e:cV z) (u v s:Value):aJ (((V.setCell ⟨g,0,none⟩ u).setCell ⟨g,1,none⟩ v).setCell ⟨g,2,none⟩ s) a l:=by
 have n:=aar h b c d e;exact((h.off n).off n).off n
theorem agT (a b t q:Option Addr) (ca cb m cq:Nat) (S:List Nat) (f vars:List Int) (P:List Tb) (D:Nat) (c:Nat ->Nat) (ad:Bool) (j:Nat ->List Tb) (F:Nat ->List Int) (w:World) (aS:fX (iL S)) (hs:aJ w a (iL S)) (hb:aJ w b f) (hP:iu w t P) (hq:aJ w q vars) (eC:vars.length<=1000)
  (h0:j 0=P/\F 0=f) (hk:∀i (h:i<f.length),vars.contains f[i]=true ->j (i+1)=j i/\F (i+1)=F i)
  (ho:∀i (h:i<f.length),vars.contains f[i]=false ->∃v:Nat,f[i]=(v:Int)/\j (i+1)=lq S v ad (j i)/\F (i+1)=bS (F i) v/\v<S.length/\∃t∈j i,v∈ag t.1)
  (jV:∀i,i<=f.length ->fW S S.length (j i) D (c i)/\(j i).length<=999/\(F i).length<=1000/\2*(B D).size+(B (c i)).size+2<=8192):
  du 56 #[.agg #[.slice a S.length ca,.slice b f.length cb,.slice t P.length m],.slice q vars.length cq,.bool ad] w fun e w'=>∃x y,e=.returned (.agg #[x,y])/\ei w' x y (allT S (j f.length))/\ef w w':=by
 have xX:Hid (∀(k:Option Addr) (l:Nat) (U:World),ef w U ->iu U k (j f.length) ->du 106 #[.slice a S.length ca,.slice k (j f.length).length l] U fun e w'=>∃x y,e=.returned (.agg #[x,y])/\ei w' x y (allT S (j f.length))/\ef U w'):=fun k l U L h=>by
  obtain⟨I,h2,_,h4⟩:=jV f.length (aq _);exact YS a k ca l S _ D _ U aS (hs.aa L) h I al h4
 have wk:Hid (∀(x:Int) (U:World),ef w U ->du 101 #[.slice q vars.length cq,.int .i64 x] U fun e w'=>e=.returned (.bool (vars.contains x))/\ef U w'):=fun x U L=>Jt q cq vars x U (hq.aa L) al
 have E8:Hid (∀(i:Nat) (h:i<f.length),vars.contains f[i]=false ->∀(n k:Option Addr) (u l:Nat) (U:World),ef w U ->aJ U n (F i) ->iu U k (j i) ->du 105 #[.agg #[.slice a S.length ca,.slice n (F i).length u,.slice k (j i).length l],.int .i64 f[i],.bool ad] U fun e w'=>∃d s k l,e=.returned (.agg #[.slice a S.length ca,.slice d (F (i+1)).length s,.slice k (j (i+1)).length l])/\aJ w' d (F (i+1))/\iu w' k (j (i+1))/\ij U.heap.size k l/\ef U w'):=fun i h hc n k u l U L I h2=>by
  obtain⟨v,X,Y,e3,e4,e5⟩:=ho i h hc;obtain⟨g1,g2,g3,g4⟩:=jV i al;rw[X,Y,e3];exact agR a n k ca u l S (F i) (j i) D (c i) v ad U aS (hs.aa L) I h2 g1 g2 g3 g4 e4 e5
 have HK:=hid hk;have fA:f.length<=1000:=by have:=(jV 0 (aV _)).2.2.1;rwa [h0.2] at this
 have aj:=hid hb;obtain⟨e0,Q⟩:=h0;have H0:Hid (bQ ((w.alloc (.cells #[.slice a S.length ca,.slice b f.length cb,.slice t P.length m] 100)).alloc (TC (.slice none 0 0) (.slice none 0 0))) w.heap.size (.slice a S.length ca) (.slice b (F 0).length cb) (.slice t (j 0).length m)):=by rw[e0,Q];exact(bQ.at (w:=w) rfl _ _ _).alloc _
 have Z:ef w ((w.alloc (.cells #[.slice a S.length ca,.slice b f.length cb,.slice t P.length m] 100)).alloc (TC (.slice none 0 0) (.slice none 0 0))):=by
  have I:=(au w.heap.size w).alloc (aq _) (.cells #[.slice a S.length ca,.slice b f.length cb,.slice t P.length m] 100);exact I.alloc I.size _
 have Me:Hid (aJ ((w.alloc (.cells #[.slice a S.length ca,.slice b f.length cb,.slice t P.length m] 100)).alloc (TC (.slice none 0 0) (.slice none 0 0))) b (F 0)):=by rw[Q];exact hb.aa Z
 have tG:Hid (iu ((w.alloc (.cells #[.slice a S.length ca,.slice b f.length cb,.slice t P.length m] 100)).alloc (TC (.slice none 0 0) (.slice none 0 0))) t (j 0)):=by rw[e0];exact hP.aa Z
 have mr:Hid (bE ((w.alloc (.cells #[.slice a S.length ca,.slice b f.length cb,.slice t P.length m] 100)).alloc (TC (.slice none 0 0) (.slice none 0 0))) (w.heap.size+1) (.slice none 0 0) (.slice none 0 0)):=bE.at (w:=w.alloc (.cells #[.slice a S.length ca,.slice b f.length cb,.slice t P.length m] 100)) aE _ _;have HA:=hid Z;have ai:=H0.o.cells.2.1;rw[Q] at ai;clear hs hb hP hq hk ho jV aS Z e0 Q;go_enter Tryz.func56,Tryz.ntmps56;go_wp2_with fail
 generalize ((w.alloc (.cells #[.slice a S.length ca,.slice b f.length cb,.slice t P.length m] 100)).alloc (TC (.slice none 0 0) (.slice none 0 0)))=W0 at *;clear ai;go_loopw [12] (fun iv wr=>∃(i:Nat) (n k:Option Addr) (u l:Nat),i<=f.length/\iv=.int .i64 i/\Hid (bQ wr w.heap.size (.slice a S.length ca) (.slice n (F i).length u) (.slice k (j i).length l))/\Hid (aJ wr n (F i))/\Hid (iu wr k (j i))/\Hid (bE wr (w.heap.size+1) (.slice none 0 0) (.slice none 0 0))/\Hid (ef w wr)) (fun iv _=>f.length - (intOf iv).toNat)
 case atStart=>exact⟨0,_,_,_,_,aV _,rfl,H0,Me,tG,mr,HA⟩
 case round=>
  obtain⟨i,n,k,u,l,hi,rfl,A,HI,HT,R,H⟩:=hrel;clear H0 Me tG mr HA;obtain⟨M,p1,p2⟩:=A.o.cells;have Nr:=A.o.fz 0;have Nq:=A.o.fz 1;have Np:=A.o.fz 2;by_cases ae:i<f.length
  ·obtain⟨g,ak,rfl,hg,k0⟩:=aj.o i ae;replace k0:=(H.o.cell (p:=⟨g,_,none⟩) hg).trans k0;have HC:=hid (wk.o f[i]);have ah:=hid (HK.o i ae);have PO:=hid (E8.o i ae);generalize f[i]=x at *;generalize o6:vars.contains x=cx at *;clear o6;go_wp2_with fail
   refine(HC.o wr H.o).af ?_;rintro e w2 ⟨rfl,J⟩;have V:=hid (H.o.trans (J.af H.o.size));have r:=hid (A.o.aa J A.o.lt);have V3:=hid (HI.o.aa J);have zA:=hid (HT.o.aa J);have iC:=hid (R.o.aa J R.o.lt);clear J A HI HT R H M p1 p2 Nr Nq Np;obtain⟨M,p1,p2⟩:=r.o.cells;have an:=r.o.lt;cases cx with
   |true=>
    obtain⟨X,Y⟩:=ah.o rfl;rw[<- X] at zA r;rw[<- Y] at V3 r;clear X Y;have HX:=hid (And.intro r.o (And.intro V3.o zA.o));go_wp2;go_roundw
    case rel=>exact⟨i+1,_,_,_,_,al,b5,HX.o.1,HX.o.2.1,HX.o.2.2,iC,V⟩
    case measure=>simp[intOf];omega
   |false=>
    have Bc:=hid (PO.o rfl n k u l w2 V.o V3.o zA.o);clear PO ah;go_wp2_with fail
    refine Bc.o.af ?_;rintro e w3 ⟨d,s,O,K,rfl,Cn,Eh,jW,o⟩;have E:=r.o.aa o r.o.lt;have z:=iC.o.aa o iC.o.lt;have T:=V.o.trans (o.af V.o.size);clear M p1 p2;obtain⟨M,p1,p2⟩:=E.cells;have Nr:=E.fz 0;have Nq:=E.fz 1;have Np:=E.fz 2;have PM:=hid (E.put (.slice a S.length ca) (.slice d (F (i+1)).length s) (.slice O (j (i+1)).length K));have Fl:=hid (Cn.putP E (slv _ _ _) (slv _ _ _) (slv _ _ _) (.slice a S.length ca) (.slice d (F (i+1)).length s) (.slice O (j (i+1)).length K));have H4:=hid (Eh.putP E (slv _ _ _) (slv _ _ _) (slv _ _ _) (fun g' o' e=>by have:=jW.2 g' o' e;omega) (slv a S.length ca) (slv d (F (i+1)).length s) (.slice O (j (i+1)).length K));have rh:=hid (((z.off w.heap.size 0 (.slice a S.length ca) al).off w.heap.size 1 (.slice d (F (i+1)).length s) al).off w.heap.size 2 (.slice O (j (i+1)).length K) al);have dI:=hid (dV T (aq _) (.slice a S.length ca) (.slice d (F (i+1)).length s) (.slice O (j (i+1)).length K));clear Cn Eh jW o E z T;go_wp2;go_roundw
    case rel=>exact⟨i+1,_,_,_,_,al,b5,PM,Fl,H4,rh,dI⟩
    case measure=>simp[intOf];omega
  ·obtain rfl:i=f.length:=al
   have VA:=hid (xX.o k l wr H.o HT.o);go_wp2_with fail
   refine VA.o.af ?_;rintro e w3 ⟨x,y,rfl,ab,o⟩;obtain⟨xs,xn,xc,rfl⟩:=ab.slices.1;obtain⟨ys,yn,yc,rfl⟩:=ab.slices.2;have z:=R.o.aa o R.o.lt;have T:=H.o.trans (o.af H.o.size);obtain⟨t0,t1,f0,f1⟩:=z.facts;have A8:=hid (z.put (.slice xs xn xc) (.slice ys yn yc));have xU:=hid (ab.putT z (slv _ _ _) (slv _ _ _) (slv xs xn xc) (.slice ys yn yc));have eW:=hid (o9 (g:=w.heap.size+1) T al (.slice xs xn xc) (.slice ys yn yc));clear ab o z T M p1 p2 Nr Nq Np;go_wp2;refine cj (A8.o.result1 rfl _ rfl) rfl ?_;exact⟨_,_,rfl,xU.o,eW.o⟩
variable {free vs:List Nat}
def pJ (S:List Nat):List Nat ->Nat
 |[]=>1
 |v::vs=>sz S v*pJ S vs
theorem XH (h:Pos S):∀l,1<=pJ S l
 |[]=>aq _
 |v::l=>Nat.mul_pos (nT h v) (XH h l)
theorem XG (h:Pos S):∀(l:List Nat) (k:Nat),pJ S (l.take k)<=pJ S l
 |[],k=>by rw[List.take_nil];exact aq _
 |v::l,0=>XH h _
 |v::l,k+1=>jg _ (XG h l k)
theorem fW.outs (p:Pos S) (m:Bool) (e:Nat ->Bool):∀(vs:List Nat) {P:List Tb} {D c:Nat},fW S n P D c ->∃d,fW S n (jS S m e vs P) D d/\d<=pJ S vs*c
 |[],P,D,c,h=>⟨c,h,by rw[pJ,jP];exact aq _⟩
 |v::vs,P,D,c,h=>by
  have g:=nT p v;have f:pJ S vs*c<=pJ S (v::vs)*c:=lS _ (Dz _ g);rw[jS];cases hk:e v with
  |true=>
   obtain⟨d,a,b⟩:=fW.outs p m e vs h;exact⟨d,by rw[aA rfl];exact a,aR b f⟩
  |false=>
   cases m with
   |true=>
    obtain⟨d,a,b⟩:=fW.outs p true e vs (h.most p v);exact⟨d,by rw[aD bd];exact a,aR b f⟩
   |false=>
    obtain⟨d,a,b⟩:=fW.outs p false e vs (h.o p v);refine⟨d,by rw[aD bd];exact a,aR b (Nat.le_of_eq ?_)⟩;show pJ S vs*(sz S v*c)=sz S v*pJ S vs*c;rw[<- iP,dK (pJ S vs)]
theorem RO (S:List Nat) (m:Bool) (e:Nat ->Bool) (v:Nat):∀(vs:List Nat) (P:List Tb),jS S m e (vs++[v]) P=if e v then jS S m e vs P else lq S v m (jS S m e vs P)
 |[],P=>rfl
 |u::vs,P=>by rw[fG,jS,jS,RO S m e v vs]
theorem Ze (S:List Nat) (m:Bool) (e:Nat ->Bool):∀(vs:List Nat) (P:List Tb),(jS S m e vs P).length<=P.length+vs.length
 |[],P=>aq _
 |v::vs,P=>by
  rw[jS];refine aR (Ze S m e vs _) ?_
  have:(lq S v m P).length<=P.length+1:=by
   rw[lq,bK];exact Nat.add_le_add_right (pH ..) 1
  split
  ·simp only[ew];omega
  ·simp only[ew];omega
def xF (keep:Int ->Bool):List Int ->List Int ->List Int
 |[],f=>f
 |x::l,f=>xF keep l (if keep x then f else bS f x)
theorem Um (e:Int ->Bool) (x:Int):∀(l f:List Int),xF e (l++[x]) f=if e x then xF e l f else bS (xF e l f) x
 |[],f=>rfl
 |y::l,f=>by rw[fG,xF,xF,Um e x l]
theorem abJ (e:Int ->Bool):∀(l f:List Int),(xF e l f).length<=f.length
 |[],f=>aq _
 |x::l,f=>by
  rw[xF];refine aR (abJ e l _) ?_;split
  ·exact aq _
  ·exact pH ..
theorem PI.gone (p:Pos S) (m:Bool) (k:Nat ->Bool) {F:(Nat ->Nat) ->Rat} (h:PI S n free P F) (d:NN S P) (c:v∈free) (g:¬v∈vs):∃t∈jS S m k vs P,v∈ag t.1:=by
 cases m with
 |false=>
  obtain⟨f,a,b⟩:=PI.outs p k vs h;exact b.sup v ((a v).2 ⟨c,fun e=>absurd e g⟩)
 |true=>
  obtain⟨f,a,b,_⟩:=PI.mosts p k vs h d;exact b.sup v ((a v).2 ⟨c,fun e=>absurd e g⟩)
theorem agS (a b t q:Option Addr) (ca cb z u:Nat) (S:List Nat) (f:List Nat) (vars:List Int) (P:List Tb) (F:(Nat ->Nat) ->Rat) (D c:Nat) (m:Bool) (w:World) (s:fX (iL S)) (M:aJ w a (iL S)) (K:aJ w b (iL f)) (J:iu w t P) (L:aJ w q vars) (H:vars.length<=1000)
  (O:f.Nodup) (U:∀v∈f,v<S.length) (Y:PI S S.length f P F) (Z:NN S P) (T:fW S S.length P D c) (aa:P.length+f.length<=999) (X:2*(B D).size+(B (pJ S f*c)).size+2<=8192):
  du 56 #[.agg #[.slice a S.length ca,.slice b f.length cb,.slice t P.length z],.slice q vars.length u,.bool m] w fun e w'=>∃x y,e=.returned (.agg #[x,y])/\ei w' x y (allT S (jS S m (fun v=>vars.contains (v:Int)) f P))/\ef w w':=by
 have n:Pos S:=by have:=s.pos;rwa [jC] at this
 have Q:∀i,∃d,fW S S.length (jS S m (fun v=>vars.contains (v:Int)) (f.take i) P) D d/\d<=pJ S f*c:=fun i=>by
  obtain⟨d,o,p⟩:=fW.outs n m (fun v=>vars.contains (v:Int)) (f.take i) T;exact⟨d,o,aR p (lS _ (XG n _ _))⟩
 obtain⟨cc,R⟩:=Classical.axiomOfChoice Q;have r:(iL f).length=f.length:=bI f;have A:∀i (h:i<(iL f).length) (g:i<f.length),(iL f)[i]=(f[i]:Int):=fun i h g=>by simp[iL]
 have j:∀i (g:i<f.length),f.take (i+1)=f.take i++[f[i]]:=fun i g=>iF g
 have:=agT a b t q ca cb z u S (iL f) vars P D cc m (fun i=>jS S m (fun v=>vars.contains (v:Int)) (f.take i) P) (fun i=>xF (fun x=>vars.contains x) (iL (f.take i)) (iL f)) w s M K J L H ⟨rfl,rfl⟩
  (fun i h k=>by
   (have g:i<f.length:=by rw[<- r];exact h);rw[A i h g] at k;refine⟨?_,?_⟩
   ·show jS _ _ _ (f.take (i+1)) _=_;rw[j i g,RO,aA k]
   ·show xF _ (iL (f.take (i+1))) _=_;rw[j i g,iL,eP,iy,nM,Um,aA k];rfl)
  (fun i h k=>by
   (have g:i<f.length:=by rw[<- r];exact h);rw[A i h g] at k⊢;refine⟨f[i],rfl,?_,?_,U _ (bF g),PI.gone n m _ Y Z (bF g) ?_⟩
   ·show jS _ _ _ (f.take (i+1)) _=_;rw[j i g,RO,aD (by rw[k];decide)]
   ·show xF _ (iL (f.take (i+1))) _=_;rw[j i g,iL,eP,iy,nM,Um,aD (by rw[k];decide)];rfl
   ·intro E;have l:(f.take (i+1)).Nodup:=O.sublist (List.take_sublist ..);rw[j i g,IX] at l;exact l.2.2 _ E _ (dT.2 rfl) rfl)
  (fun i _=>by
   obtain⟨o,p⟩:=R i;have l:=Ze S m (fun v=>vars.contains (v:Int)) (f.take i) P;rw[eE] at l;have I:=abJ (fun x=>vars.contains x) (iL (f.take i)) (iL f);rw[bI] at I;have V:=lY p;exact⟨o,by show List.length _<=_;omega,by show List.length _<=_;omega,al⟩)
 rw[r] at this;simp only[jR] at this;exact this
variable {fv ml mL:Value}
structure lM (W:World) (b:Nat) (x fv tv ml mL:Value) (l:List Int) (Q:List (Value×Value)) (P:List Tb) (V:World):Prop where
 box:bQ V b x fv tv
 fo:bP V W.heap.size ml l
 own:lN V W.heap.size mL Q P
 far:∀R,R<=b ->∀k (h:k<P.length) (h':k<Q.length),gA R P[k] Q[k]
 farF:∀R,ml.ownBlock=some R ->∀k (h:k<P.length) (h':k<Q.length),gA R P[k] Q[k]
 ne:∀R,ml.ownBlock=some R ->mL.ownBlock≠some R
 fr:W.grownBy V (some b)
theorem lM.start {W:World} {b:Nat} (h:bQ W b x (.slice none 0 0) (.slice none 0 0)):lM W b x (.slice none 0 0) (.slice none 0 0) (.slice none 0 0) (.slice none 0 0) [] [] [] W:=
 ⟨h,⟨rfl,.inl ⟨rfl,rfl⟩⟩,lN.nil _ _,(fun R _ k h=>absurd h aE),(fun R e=>by cases e),(fun R e=>by cases e),Uq _ _⟩
theorem lM.under {W:World} {b:Nat} {l:List Int} {Q:List (Value×Value)} (h:lM W b x fv tv ml mL l Q P V) (a:ef V V'):lM W b x fv tv ml mL l Q P V':=
 ⟨h.box.aa a h.box.lt,Ge h.fo (AV.aa a),h.own.under a,h.far,h.farF,h.ne,Ur h.fr a⟩
theorem lM.pushF {W:World} {b:Nat} {S:Value} {l l':List Int} {Q:List (Value×Value)} (h:lM W b x fv tv ml mL l Q P V) (j:b<W.heap.size) (o:bP V' W.heap.size S l') (g:V.grownBy V' ml.ownBlock) (n:S.ownBlock=ml.ownBlock∨∀k,S.ownBlock=some k ->V.heap.size<=k):lM W b x fv tv S mL l' Q P V':=by
 have f:∀k,ml.ownBlock=some k ->W.heap.size<=k:=fun k e=>(rJ h.fo k e).1;refine⟨(g.block b h.box.lt (fun e=>by have:=f b e.symm;omega)).trans h.box,o,⟨h.own.len,Nt h.own.own g (fun R e d=>h.ne R d e),fun k a c=>(h.own.val k a c).keepR (fun r i=>h.farF r i k a c) g,h.own.far⟩,h.far,fun R e k a c=>?_,fun R e d=>?_,KM h.fr g f⟩
 ·rcases n with n |n
  ·exact h.farF R (by rw[<- n];exact e) k a c
  ·exact(h.own.val k a c).lt (n R e)
 ·rcases n with n |n
  ·exact h.ne R (by rw[<- n];exact e) d
  ·have a:=n R e;have c:=(h.own.lt R d).2;omega
theorem lM.pushT {W:World} {b:Nat} {S:Value} {l:List Int} {Q:List (Value×Value)} {t:Tb} (h:lM W b x fv tv ml mL l Q P V) (u:b<W.heap.size) (r:ei V u1 u2 t) (p:∀R,mL.ownBlock=some R ->gA R t (u1,u2)) (F:∀R,ml.ownBlock=some R ->gA R t (u1,u2)) (s:∀R,R<=b ->gA R t (u1,u2)) (q:V'.ownsRow W.heap.size 49 2 S (P.length+1) (eM Q++[u1,u2])) (g:V.grownBy V' mL.ownBlock) (n:S.ownBlock=mL.ownBlock∨∀k,S.ownBlock=some k ->V.heap.size<=k):lM W b x fv tv ml S l (Q++[(u1,u2)]) (P++[t]) V':=by
 have c:∀k,mL.ownBlock=some k ->W.heap.size<=k:=fun k e=>(h.own.lt k e).1
 have m:∀R,(∀k (i:k<P.length) (j:k<Q.length),gA R P[k] Q[k]) ->gA R t (u1,u2) ->∀k (i:k<(P++[t]).length) (j:k<(Q++[(u1,u2)]).length),gA R (P++[t])[k] (Q++[(u1,u2)])[k]:=fun R o T k i j=>by
  by_cases f:k<P.length
  ·have d:k<Q.length:=by rw[h.own.len];exact f
   rw[sH d,sH f];exact o k f d
  ·have d:¬k<Q.length:=by rw[h.own.len];exact f
   rw[tY al,tY al];simp only[ME];exact T
 refine⟨(g.block b h.box.lt (fun e=>by have:=c b e.symm;omega)).trans h.box,Nt h.fo g (fun R e a=>h.ne R e a),h.own.push r p q g n,(fun R c=>m R (h.far R c) (s R c)),fun R e=>m R (h.farF R e) (F R e),fun R e a=>?_,KM h.fr g c⟩;rcases n with n |n
 ·rw[n] at a;exact h.ne R e a
 ·have i:=n R a;have j:=(rJ h.fo R e).2;omega
theorem lM.set1 {W:World} {b:Nat} {l:List Int} {Q:List (Value×Value)} (h:lM W b x fv tv ml mL l Q P V) (a:b<W.heap.size) (u:Value):lM W b x u tv ml mL l Q P (V.setCell ⟨b,1,none⟩ u):=
 ⟨h.box.set1 u,Ms h.fo (fun e=>by have:=(rJ h.fo b e).1;omega) u,h.own.off u (h.far b (aq b)) (fun e=>by have:=(h.own.lt b e).1;omega),h.far,h.farF,h.ne,OW h.fr _ _⟩
theorem lM.set2 {W:World} {b:Nat} {l:List Int} {Q:List (Value×Value)} (h:lM W b x fv tv ml mL l Q P V) (a:b<W.heap.size) (u:Value):lM W b x fv u ml mL l Q P (V.setCell ⟨b,2,none⟩ u):=
 ⟨h.box.set2 u,Ms h.fo (fun e=>by have:=(rJ h.fo b e).1;omega) u,h.own.off u (h.far b (aq b)) (fun e=>by have:=(h.own.lt b e).1;omega),h.far,h.farF,h.ne,OW h.fr _ _⟩
structure ac2 (n:Nat) (ord:Nat ->Nat) (nr:Nat ->Nat ->Nat ->Prop):Prop where
 all:∀v,v< n ->∃i,i<n/\ord i=v
 inj:∀i j,i< n ->j< n ->ord i=ord j ->i=j
 lt:∀u w,nr 0 u w ->u<n/\w<n
 self:∀u,¬nr 0 u u
 symm:∀u w,nr 0 u w ->nr 0 w u
 step:∀i,i< n ->∀u w,nr (i+1) u w↔u≠ord i/\w≠ord i/\u≠w/\(nr i u w∨nr i u (ord i)/\nr i (ord i) w)
variable {k u:Nat}
theorem NA:∀ {l m:List Nat},l.Nodup ->(∀x∈l,x∈m) ->l.length<=m.length
 |[],_,_,_=>aV _
 |a::l,m,hn,hs=>by
  have b:a∈m:=hs a (dp ..);have h:=pG.1 hn;have:=NA (l:=l) (m:=m.erase a) h.2 (fun x c=>(List.mem_erase_of_ne (fun e=>h.1 (by rw[<- e];exact c))).2 (hs x (dF _ c)));rw[WQ b] at this;have p:=List.length_pos_of_mem b;show l.length+1<=m.length;omega
def kJ (P:List (List Nat)) (n i:Nat):Nat:=j6 (bC P n i).nei (bC P n i).lft
theorem abN {s:List Nat}:∀ {k x:Nat},x< k ->x∈s ->∃b m,jH f s k=some (b,m)
 |k+1,x,hx,hs=>by
  rw[jH];by_cases a:k∈s
  ·rw[aA a];cases jH f s k with
   |none=>exact⟨_,_,rfl⟩
   |some p=>
    obtain⟨b,m⟩:=p;simp only;split
    ·exact⟨_,_,rfl⟩
    ·exact⟨_,_,rfl⟩
  ·rw[aD a];exact abN (by rcases cT x k with h |h;exact h;exact absurd (by rw[show k=x by omega];exact hs) a) hs
theorem alj {P:List (List Nat)} {s:List Nat} {x:Nat} (a:x<8) (h:x∈s):j6 P s∈s:=by
 obtain⟨b,m,e⟩:=abN (f:=pS P) a h;rw[j6,e];exact OY e
structure FI (P:List (List Nat)) (n k:Nat):Prop where
 left:∀x,x∈(bC P n k).lft↔x<n/\∀i,i< k ->kJ P n i≠x
 inj:∀i j,i< k ->j< k ->kJ P n i=kJ P n j ->i=j
 lt:∀i,i< k ->kJ P n i<n
 sym:∀u,u∈(bC P n k).lft ->∀w,w∈(bC P n k).nei.getD u [] ->w∈(bC P n k).lft/\u∈(bC P n k).nei.getD w []/\u≠w
theorem FI.here {P:List (List Nat)} (h:FI P n k) (f:k<n) (d:n<=8):kJ P n k∈(bC P n k).lft:=by
 have c:∃x,x∈(bC P n k).lft:=by
  refine I6 fun o=>?_
  have l:∀x∈List.range n,x∈(List.range k).map (kJ P n):=fun x a=>by
   refine I6 fun m=>o ⟨x,(h.left x).2 ⟨cI.1 a,fun i b e=>m (ba.2 ⟨i,cI.2 b,e⟩)⟩⟩
  have:=NA BD l;rw[wD,dM,wD] at this;omega
 obtain⟨x,a⟩:=c;exact alj (by have:=((h.left x).1 a).1;omega) a
theorem aeN {P:List (List Nat)} (h:u<P.length):(sK P v).getD u []=if u<8/\u∈P.getD v [] then yP P v u else P.getD u []:=by
 rw[bY,bj (by rw[sK,F0];exact h)];simp[sK,ik]
theorem FI.next {P:List (List Nat)} (l:tA n P) (h:FI P n k) (m:k<n) (j:n<=8) {w:Nat} (f:u∈(bC P n k).lft) (_hne:u≠kJ P n k):w∈(bC P n (k+1)).nei.getD u []↔w≠kJ P n k/\u≠w/\(w∈(bC P n k).nei.getD u []∨kJ P n k∈(bC P n k).nei.getD u []/\w∈(bC P n k).nei.getD (kJ P n k) []):=by
 have o:=(O1 l k).1;have i:u<n:=((h.left u).1 f).1;have v:=h.here m j;show w∈(sK (bC P n k).nei (kJ P n k)).getD u []↔_;rw[aeN (by rw[o.len];exact i)];by_cases d:u∈(bC P n k).nei.getD (kJ P n k) []
 ·rw[aA ⟨al,d⟩,Sd];have s:=(h.sym _ v u d).2.1;exact⟨fun ⟨a,b,c⟩=>⟨c,fun e=>b e.symm,a.imp id fun a=>⟨s,a⟩⟩,fun ⟨a,b,c⟩=>⟨c.imp id fun c=>c.2,fun e=>b e.symm,a⟩⟩
 ·rw[aD fun e=>d e.2];constructor
  ·intro g;have s:=h.sym u f w g;exact⟨fun e=>d (by rw[<- e];exact s.2.1),s.2.2,.inl g⟩
  ·rintro⟨_,_,c |c⟩
   ·exact c
   ·exact absurd (h.sym u f _ c.1).2.1 d
theorem FI.step {P:List (List Nat)} (q:tA n P) (h:FI P n k) (o:k<n) (l:n<=8):FI P n (k+1):=by
 have v:=h.here o l
 have T:∀x,x∈(bC P n (k+1)).lft↔x∈(bC P n k).lft/\x≠kJ P n k:=fun x=>by
  show x∈(bC P n k).lft.filter (fun u=>decide (u≠kJ P n k))↔_;rw[eL,gY]
 have s:∀i,i< k ->kJ P n i≠kJ P n k:=((h.left _).1 v).2;refine⟨fun x=>?_,fun i j m y e=>?_,fun i m=>?_,fun u d w t=>?_⟩
 ·rw[T,h.left];constructor
  ·rintro⟨⟨a,b⟩,c⟩;refine⟨a,fun i m e=>?_⟩;rcases cT i k with p |p
   ·exact b i p e
   ·exact c (by rw[<- e,show i=k by omega])
  ·rintro⟨a,b⟩;exact⟨⟨a,fun i m=>b i al⟩,fun e=>b k al e.symm⟩
 ·rcases cT i k with f |f
  ·rcases cT j k with g |g
   ·exact h.inj i j f g e
   ·exact absurd (by rw[e,show j=k by omega]) (s i f)
  ·rcases cT j k with g |g
   ·exact absurd (by rw[<- e,show i=k by omega]) (s j g)
   ·omega
 ·rcases cT i k with f |f
  ·exact h.lt i f
  ·rw[show i=k by omega];exact((h.left _).1 v).1
 ·rw[T] at d;obtain⟨a,b,c⟩:=(h.next q o l d.1 d.2).1 t
  have r:w∈(bC P n k).lft:=by
   rcases c with c |c
   ·exact(h.sym u d.1 w c).1
   ·exact(h.sym _ v w c.2).1
  refine⟨(T w).2 ⟨r,a⟩,(h.next q o l r a).2 ⟨d.2,fun e=>b e.symm,?_⟩,b⟩;rcases c with c |c
  ·exact .inl (h.sym u d.1 w c).2.1
  ·exact .inr ⟨(h.sym _ v w c.2).2.1,(h.sym u d.1 _ c.1).2.1⟩
theorem FI.all {P:List (List Nat)} (b:tA n P) (s:∀u,u< n ->∀w,w∈P.getD u [] ->u∈P.getD w []) (d:n<=8):∀k,k<=n ->FI P n k
 |0,_=>⟨fun x=>⟨fun h=>⟨zZ.1 h,fun i a=>absurd a (BA _)⟩,fun h=>zZ.2 h.1⟩,fun i _ a=>absurd a (BA _),fun i a=>absurd a (BA _),fun u f w c=>by
  have y:u<n:=zZ.1 f;exact⟨zZ.2 (b.at u w c),s u y w c,fun e=>b.self u (by rw[<- e] at c;exact c)⟩⟩
 |k+1,hk=>(FI.all b s d k al).step b al d
def ZH (P:List (List Nat)) (n i u w:Nat):Prop:=u∈(bC P n i).lft/\w∈(bC P n i).nei.getD u []
theorem alg {P:List (List Nat)} (k:tA n P) (t:∀u,u< n ->∀w,w∈P.getD u [] ->u∈P.getD w []) (o:n<=8):ac2 n (kJ P n) (ZH P n):=by
 have F:=FI.all k t o;refine⟨fun v p=>?_,fun i j f H e=>(F n (aq _)).inj i j f H e,fun u w l=>⟨zZ.1 l.1,k.at u w l.2⟩,fun u J=>k.self u J.2,fun u w l=>⟨zZ.2 (k.at u w l.2),t u (zZ.1 l.1) w l.2⟩,fun i f u w=>?_⟩
 ·refine I6 fun M=>?_
  have K:(v::(List.range n).map (kJ P n)).Nodup:=by
   refine pG.2 ⟨fun I=>?_,?_⟩
   ·obtain⟨i,f,e⟩:=ba.1 I;exact M ⟨i,cI.1 f,e⟩
   ·refine FR.2 (BD.imp_of_mem fun {a b} D E L e=>L ((F n (aq _)).inj a b (cI.1 D) (cI.1 E) e))
  have:=NA K (m:=List.range n) fun x q=>by
   rcases dU.1 q with rfl |q
   ·exact cI.2 p
   ·obtain⟨i,f,e⟩:=ba.1 q;rw[<- e];exact cI.2 ((F n (aq _)).lt i (cI.1 f))
  rw[ew,dM,wD] at this;omega
 ·have h:=F i al;have p:=h.here f o
  have s:u∈(bC P n (i+1)).lft↔u∈(bC P n i).lft/\u≠kJ P n i:=by
   show u∈(bC P n i).lft.filter (fun u=>decide (u≠kJ P n i))↔_;rw[eL,gY]
  constructor
  ·rintro⟨a,b⟩;obtain⟨g,r⟩:=s.1 a;obtain⟨y,z,A⟩:=(h.next k f o g r).1 b;exact⟨r,y,z,A.imp (fun c=>⟨g,c⟩) fun c=>⟨⟨g,c.1⟩,⟨p,c.2⟩⟩⟩
  ·rintro⟨a,b,c,d⟩;have g:u∈(bC P n i).lft:=d.elim (fun d=>d.1) fun d=>d.1.1;exact⟨s.2 ⟨g,a⟩,(h.next k f o g a).2 ⟨b,c,d.imp (fun d=>d.2) fun d=>⟨d.1.2,d.2.2⟩⟩⟩
theorem abX (P:List (List Nat)) (n:Nat):∀k,(bC P n k).ord=(List.range k).map (kJ P n)
 |0=>rfl
 |k+1=>by rw[qC,eP, <- abX P n k];rfl
theorem ahS (g:gB L=true):uf L=true↔∀v u,v<L.length ->u<L.length ->(decide (u∈(aN L).getD v [])=decide (v∈(aN L).getD u [])):=by
 rw[uf,g,I7,gY,Gp];have l:∀v,v<L.length ->v<(aN L).length:=fun v a=>by rw[l5];exact a
 have m:=JC g
 have t:∀v,v<L.length ->∀u,u∈(aN L).getD v [] ->u<L.length:=fun v a u b=>by
  rw[bY,bj (l v a)] at b;exact m _ (bF (l v a)) u b
 have k:∀v,v<L.length ->((((aN L).map aB)[v]? =((lI (aN L) L.length L.length).map aB)[v]?)↔∀u,u<L.length ->(decide (u∈(aN L).getD v [])=decide (v∈(aN L).getD u []))):=fun v a=>by
  have d:((aN L).map aB)[v]? =some (aB ((aN L).getD v [])):=by rw[lU,bY,bj (l v a)];rfl
  have f:((lI (aN L) L.length L.length).map aB)[v]? =some (aB (nh (aN L) v L.length)):=by simp[lI,a]
  rw[d,f];constructor
  ·intro e u b;have c:=oP e;have i:=rK ((aN L).getD v []) u;have j:=rK (nh (aN L) v L.length) u;rw[<- i,c,j,zO,K5];exact⟨fun h=>h.2,fun h=>⟨b,h⟩⟩
  ·intro h;congr 1
   refine Si fun u=>?_;rw[K5];constructor
   ·intro b;have:=t v a u b;exact⟨this,(zO.1 (h u this)).1 b⟩
   ·exact fun b=>(zO.1 (h u b.1)).2 b.2
 constructor
 ·intro e v u a b;exact(k v a).1 (by rw[e]) u b
 ·intro h;refine I3 fun v=>?_;rcases cT v L.length with a |a
  ·exact(k v a).2 fun u b=>h v u a b
  ·rw[jA (by rw[dM,l5];exact a),jA (by rw[dM,acH];exact a)]
variable {Pa:Nat ->Nat ->Prop}
def lh (Pa:Nat ->Nat ->Prop) (u v:Nat):Prop:=∀M:Nat ->Prop,(∀v,Pa u v ->M v) ->(∀v w,M v ->Pa v w ->M w) ->M v
theorem lh.one (h:Pa u v):lh Pa u v:=fun _ a _=>a _ h
theorem lh.more {w:Nat} (h:lh Pa u v) (p:Pa v w):lh Pa u w:=fun M b a=>a _ _ (h M b a) p
theorem lh.ind {M:∀v,lh Pa u v ->Prop} (one:∀ {v:Nat} (h:Pa u v),M v (.one h)) (more:∀ {v w:Nat} (h:lh Pa u v) (p:Pa v w),M v h ->M w (h.more p)):∀ {v:Nat} (h:lh Pa u v),M v h:=fun {_} h=>by
 obtain⟨_,k⟩:=h (fun v=>∃h,M v h) (fun _ p=>⟨_,one p⟩) (fun _ _ ⟨_,i⟩ p=>⟨_,more _ p i⟩);exact k
theorem lh.last {w:Nat} (h:lh Pa u w):Pa u w∨∃v,lh Pa u v/\Pa v w:=by
 induction h using lh.ind with
 |one hp=>exact .inl hp
 |more h hp _=>exact .inr ⟨_,h,hp⟩
section
attribute [local go_sem] Oper.semAt_some
def oz (P:List (List Nat)) (t:List Nat) (k:Nat):List Nat:=t++(fL t k).flatMap fun v=>P.getD v []
theorem am3 (P:List (List Nat)) (t:List Nat):oz P t 0=t:=by simp[oz,fL]
theorem am4 {P:List (List Nat)} {t:List Nat} (h:k∈t):oz P t (k+1)=oz P t k++P.getD k []:=by rw[oz,Sl h,List.flatMap_append, <- lV,oz];simp
theorem am5 {P:List (List Nat)} {t:List Nat} (h:¬k∈t):oz P t (k+1)=oz P t k:=by rw[oz,NJ h,oz]
def ie (P:List (List Nat)) (s:List Nat):Nat ->List Nat
 |0=>s
 |r+1=>oz P (ie P s r) 8
theorem ac0 {P:List (List Nat)} {t:List Nat} (b:∀v,∀u∈P.getD v [],u<n) (c:∀u∈t,u<n) (k:Nat):∀u∈oz P t k,u<n:=fun u d=>by
 rcases ck.1 d with h |h
 ·exact c u h
 ·obtain⟨v,_,a⟩:=List.mem_flatMap.1 h;exact b v u a
theorem Le {P:List (List Nat)} {s:List Nat} (h:∀v,∀u∈P.getD v [],u<n) (a:∀u∈s,u<n):∀r,∀u∈ie P s r,u<n
 |0=>a
 |r+1=>ac0 h (Le h a r) 8
def wz (w:World) (G n c m:Nat) (W:World):Prop:=Boxed W w.heap.size 137 (.slice (some ⟨G,0,none⟩) n c)/\Boxed W (w.heap.size+1) 141 (.int .u32 (m:Nat))/\ef w W
theorem wz.shut {G:Nat} (l:w.heap.size+1<lo) (W:World) (r:Nat) (h:wz w G n c m W) (a:lo<=r) (d:W.heap[r]? =some (.deferred (some []))):wz w G n c m (W.putObj r (.deferred none)):=
 ⟨(yj al).trans h.1,(yj al).trans h.2.1,h.2.2.trans (uP (w:=w) (aq _) W r _ _ al d rfl rfl)⟩
theorem wz.own {β:Type} {G B:Nat} (f:β ->Nat) (h:w.heap.size<=B):OwnFrom B (fun (s:β) W=>wz w G n c (f s) W):=
 fP (gZ (jN _ _ (fun _=>_)) _) (fP (gZ (jN _ _ (fun s:β=>.int .u32 (f s:Nat))) _) (zM (aq _) h))
theorem am0 (G n c:Nat) (P:List (List Nat)) (s:List Nat) (w:World) (hn:P.length=n) (h8:n<=8) (J:cF w G (P.map aB)) (S:∀p∈P,∀u∈p,u<n) (L:∀u∈s,u<n):
  du 97 #[.slice (some ⟨G,0,none⟩) n c,.int .u32 (aB s:Nat)] w fun e  w'=>e=.returned (.int .u32 (aB (ie P s n):Nat))/\ef w w':=by
 refine(ix (n:=6)).1 ?_;have hG:=J.lt
 have g:∀v,∀u∈P.getD v [],u<n:=fun v u b=>by
  by_cases M:v<P.length
  ·rw[bY,bj M] at b;exact S _ (bF M) u b
  ·rw[bY,jA al] at b;simp at b
 have Fg:Hid (∀(V:World) (v:Nat),ef w V ->v< n ->V.cell? ⟨G,v,none⟩=some (.int .u32 (aB (P.getD v []):Nat))):=fun V v hB M=>by
  have:=(J.aa hB hG).cell v (by rw[dM];omega);rwa [D8 al] at this
 have L0:=hid (fun r=>Le g L r);have LO:=hid (fun (r k:Nat)=>UT (oz P (ie P s r) k) (P.getD k []) (fun u b=>by have:=ac0 g (Le g L r) k u b;omega) (fun u b=>by have:=g k u b;omega));have HY:=hid (fun (r k:Nat) (h:k∈ie P s r)=>am4 (P:=P) h);have HN:=hid (fun (r k:Nat) (h:¬k∈ie P s r)=>am5 (P:=P) h);have HZ:=hid (fun (r:Nat)=>am3 P (ie P s r));have kX:Hid (∀r,oz P (ie P s r) 8=ie P s (r+1)):=fun r=>rfl;have a:ie P s 0=s:=rfl;clear J S g L;refine uN Tryz.func97 rfl trivial ?_ rfl;simp only[Tryz.ntmps97,nJ,ew,mG,Nat.reduceAdd,Nat.reduceSub,nR,nQ,nK,mI,jy,fG];obtain⟨q,j⟩:∃q,q=(w.alloc (.cells #[.slice (some ⟨G,0,none⟩) n c] 137)).alloc (.cells #[.int .u32 (aB s:Nat)] 141):=⟨_,rfl⟩
 have O:wz w G n c (aB (ie P s 0)) q:=by
  rw[j,a];refine⟨(a8 w _ _).alloc _,?_,((au _ w).alloc (aq _) _).alloc aE _⟩;have h:=a8 (w.alloc (.cells #[.slice (some ⟨G,0,none⟩) n c] 137)) 141 (.int .u32 (aB s:Nat));rwa [dE] at h
 have f:=O.1.cell;rw[j] at f;gi_wp2
 rw[<- j];have aS:q.heap.size=w.heap.size+2:=by rw[j];simp
 have k6:=hid O;clear j O f a;generalize hab:ie P s=y at *;have yg:=hid hab;clear hab;generalize aB s=Z at *;refine wpIn_loop (fun x w'=>∃(r:Nat) (ds:List Deferred) (u9 u10 u11 FY:Value),x= {tmps:= #[.slice (some ⟨G,0,none⟩) n c,.int .u32 (Z:Nat),.pointer (some ⟨w.heap.size,0,none⟩),.pointer (some ⟨w.heap.size+1,0,none⟩),.int .u32 0,undef,.slice (some ⟨G,0,none⟩) n c,.int .i64 (n:Nat),.int .i64 (r:Nat),u9,u10,u11,undef,undef,undef,undef,undef,undef,undef,FY,undef],defers:=ds}/\r<=n/\Hid (wz w G n c (aB (y r)) w')/\Hid (Shut (w.heap.size+2) w'.heap.size ds w')) (fun x _=>n - (intOf (x.tmps.getD 8 undef)).toNat) ?_ ?_
 ·exact⟨0,[],_,_,_,_,rfl,aV _,k6,trivial⟩
 intro x wr ax;obtain⟨r,ds,u9,u10,u11,FY,rfl,hr,m,Y⟩:=ax;clear k6;by_cases aO:r<n
 ·have X:=L0.o r;have Lk:=hid (HY.o r);have Ie:=hid (HN.o r);have ad:=hid (LO.o r);have aj:=HZ.o r;have ai:=kX.o r;have cP:w.heap.size+1<wr.heap.size:=m.o.2.1.lt;have A:=m.o.2.1.cell;have av:∀u∈y r,u<8:=fun u b=>by have:=X u b;omega
  generalize y r=t at *;gi_wp2
  clear A;have Q:=m.o;rw[<- aj] at Q
  refine DJ al t av rfl rfl
   (fun k V=>wz w G n c (aB (oz P t k)) V/\(wr.heap.size<=V.heap.size/\Shut (w.heap.size+2) wr.heap.size ds V))
   (fP (wz.own (fun k:Nat=>aB (oz P t k)) al) Rn)
   ⟨Q,aq _,Y.o⟩
   (fun k=> {tmps:= #[.slice (some ⟨G,0,none⟩) n c,.int .u32 (Z:Nat),.pointer (some ⟨w.heap.size,0,none⟩),.pointer (some ⟨w.heap.size+1,0,none⟩),.int .u32 0,.int .i64 (k:Nat),.slice (some ⟨G,0,none⟩) n c,.int .i64 (n:Nat),.int .i64 (r:Nat),.bool true,.int .u32 (aB t:Nat),.func (.func 148) #[.int .u32 (aB t:Nat)] #[],.int .i64 (k:Nat),undef,undef,undef,undef,undef,undef,FY,undef],defers:=[]}) ?assign ?body ?skip ?done
  case assign=>
   intro l k W K d;gi_wp2
   exact d
  case body=>
   rintro l k V hk z ⟨a,T,U⟩;have an:=X k z;have f:=a.1.cell;have kG:=Fg.o V k a.2.2 an;have aC:=ad.o k;have ae:=hid (Lk.o k z);have A:=a.2.1.cell;have R:=a.2.1.frozen;generalize hm1:aB (oz P t k++P.getD k [])=m1 at *;have Ff:=hid hm1;clear hm1;generalize aB (oz P t k)=m0 at *;generalize aB (P.getD k [])=mu at *;generalize aB t=mt at *;gi_wp2_with fail
   refine yL (fun u=>u.cell? ⟨w.heap.size,0,none⟩=some (.slice (some ⟨G,0,none⟩) n c)/\u.cell? ⟨G,k,none⟩=some (.int .u32 (mu:Nat))) ao ao (fun ⟨_,_,h⟩=>h) ⟨f,kG⟩ ?_;intro H;have I:KeepsOthers V V.drew:=zW V;have E:wz w G n c m0 V.drew:=⟨a.1,a.2.1,a.2.2.drew⟩;have qS:Shut (w.heap.size+2) wr.heap.size ds V.drew:=U.keep fun _ _=>rfl;have qz:wr.heap.size<=V.drew.heap.size:=T;have aT:V.drew.cell? ⟨w.heap.size+1,0,none⟩=some (.int .u32 (m0:Nat)):=A;have az:V.drew.frozen? ⟨w.heap.size+1,0,none⟩=false:=R;clear f kG A R a U T Q;generalize V.drew=U0 at *;refine ar 1 (.slice (some ⟨G,0,none⟩) n c) ?_;refine ar 2 (.int .i64 (k:Nat)) ?_;refine ar 3 (.pointer (some ⟨G,k,none⟩)) ?_;refine ar 4 (.int .u32 (mu:Nat)) ?_;refine aG [0] (cA ?_ aF);intro F i;go_simp;refine i.o _ _ H (fun ah=>?_);clear i F ah;refine ar 5 (.int .u32 (m1:Nat)) ?_;refine aG [6] (cA ?_ aF);intro F i;go_simp;refine i.o _ _ ⟨(jJ E.1 (w.heap.size+1) 0 _ al).cell,(dY _ _ _ _ (fun e=>(show ¬w.heap.size+1=G by omega) (dh Addr.block e))).trans H.2⟩ (fun _=>dS ao ?_ _);clear i F H;gi_wp2
   exact⟨(I.trans (kh U0 _ _)).from _,⟨jJ E.1 (w.heap.size+1) 0 _ al,by rw[ae.o,Ff.o];exact E.2.1.set _,E.2.2.setCell (p:=⟨w.heap.size+1,0,none⟩) aE _⟩,by simpa using qz,qS.putAt al _⟩
  case skip=>
   rintro k V hk z h;rw[Ie.o k z];exact h
  case done=>
   rintro D V I ⟨a,T,U⟩ d;rw[ai] at a;have AD:D<V.heap.size:=(cJ.1 d).1;have EY:Hid (Shut (w.heap.size+2) V.heap.size ({target:=.collected D,args:= #[]}::ds) V):=⟨D,al,AD,rfl,d,U.af I⟩;have LY:=hid a;clear a U d;gi_wp2
   refine⟨⟨r+1,_,_,_,_,_,rfl,al,LY,EY⟩,?_⟩;simp[intOf];omega
 ·obtain rfl:r=n:=al
  have kc:=m.o.2.1.cell;gi_wp2
  refine Ea (lo:=w.heap.size+2) (K:=wz w G r c (aB (y r))) (wz.shut al) (fun ay hZ=>⟨_,Bx rfl _ _ _,by rw[yg.o];rfl,hZ.2.2⟩) _ wr.heap.size wr Y.o m.o
end
def AbR (L:List (List Int)) (l:List Int) (e:Ending) (w':World):Prop:=
 (bZ L≠0/\e=.returned (.tuple #[.slice none 0 0,.int .i64 (bZ L)]))∨
 (bZ L=0/\fT l L.length=false/\e=.returned (.tuple #[.slice none 0 0,.int .i64 11]))∨
 (bZ L=0/\fT l L.length=true/\∃d cd,e=.returned (.tuple #[.slice d (gP (ie (aN L) (ag l) L.length)).length cd,.int .i64 0])/\aJ w' d (gP (ie (aN L) (ag l) L.length)))
theorem vG (h:bZ L=0):gB L=true:=by
 rw[bZ] at h;by_cases e:gB L=true
 ·exact e
 ·rw[aD e] at h;exact absurd h bd
theorem akM (a b:Option Addr) (ca cb:Nat) (L:List (List Int)) (l:List Int) (w:World) (h:gW w a L) (M:∀l∈L,l.length<=140737488355328) (K:aJ w b l) (dD:l.length<=140737488355328):
  du 53 #[.slice a L.length ca,.slice b l.length cb] w fun e w'=>AbR L l e w'/\ef w w':=by
 have HR:=hid (Ut a ca L w h M);have Z:=hid K;have z:=hid (fun (U:World) (f:aJ U b l) (hn:L.length<=8)=>Yq b cb l L.length U f dD hn)
 have y:Hid (bZ L=0 ->fT l L.length=true ->∀(G c:Nat) (U:World),cF U G (jU L) ->du 97 #[.slice (some ⟨G,0,none⟩) L.length c,.int .u32 (aB (ag l):Nat)] U fun e w'=>e=.returned (.int .u32 (aB (ie (aN L) (ag l) L.length):Nat))/\ef U w'):=fun g r G c U f=>by
  rw[Gp] at f;have k:=vG g
  exact am0 G L.length c (aN L) (ag l) U (l5 L) (rX k).2.1 f (JC k) (fun u i=>by
   obtain⟨x,D,rfl⟩:=ba.1 i;obtain⟨j,A,rfl⟩:=jz D;have:=(DU r).each j A;omega)
 have q:Hid (bZ L=0 ->fT l L.length=true ->∀U:World,du 98 #[.int .u32 (aB (ie (aN L) (ag l) L.length):Nat)] U fun e w'=>∃v,e=.returned v/\bP w' U.heap.size v (iL (fL (ie (aN L) (ag l) L.length) 8))/\ef U w'):=fun g r U=>aab _ U (fun u i=>by
  have k:=vG g;have F:=(rX k).2.1
  have:=Le (n:=L.length) (P:=aN L) (s:=ag l) (fun v u i=>(Gl k).at v u i) (fun u i=>by
   obtain⟨x,D,rfl⟩:=ba.1 i;obtain⟨j,A,rfl⟩:=jz D;have:=(DU r).each j A;omega) L.length u i
  omega)
 have t:Hid (fT l L.length=true ->setA l L.length=aB (ag l)):=Yr;clear h M K;go_enter Tryz.func53,Tryz.ntmps53;go_wp2_with fail
 refine HR.o.af ?_;rintro e w1 ⟨p,⟨g,G,rfl,hG,f⟩ |⟨g,rfl⟩⟩
 ·have F:=(rX (vG g)).2.1;have H:=hid (z.o w1 (Z.o.aa p) F);have HU:=hid f;have m:=hid p;have I:=hid g;clear f p z g;cases r:fT l L.length with
  |false=>
   rw[r] at H;have LD:=hid r;clear r y q t;generalize setA l L.length=sa at *;go_wp2_with fail
   refine H.o.af ?_;rintro e w2 ⟨rfl,E⟩;subst E;go_wp2;go_ret2;exact⟨.inr (.inl ⟨I.o,LD.o,rfl⟩),m.o⟩
  |true=>
   rw[r,t.o r] at H;have ad:=hid r;have Y:=hid (y.o I.o r G L.length);have HL:=hid (q.o I.o r);clear r y q t;generalize hab:ie (aN L) (ag l) L.length=ab at *;have S:=hid hab;clear hab;generalize aB (ag l)=m0 at *;go_wp2_with fail
   refine H.o.af ?_;rintro e w2 ⟨rfl,E⟩;subst E;go_wp2_with fail
   refine(Y.o _ HU.o).af ?_;rintro e w3 ⟨rfl,T⟩;have Q:=hid (m.o.trans (T.af m.o.size));clear T;go_wp2_with fail
   refine(HL.o _).af ?_;rintro e w4 ⟨v,rfl,O,V⟩;obtain⟨d,cd,rfl,J⟩:=O.ints;have HI:=hid J;have eW:=hid (Q.o.trans (V.af Q.o.size));clear O J V;go_wp2;go_ret2;exact⟨.inr (.inr ⟨I.o,ad.o,d,cd,by rw[S.o];rfl,by rw[S.o];exact HI.o⟩),eW.o⟩
 ·have X:=hid g;have m:=hid p;have k:(bZ L==0)=false:=by simpa using g
  clear g p y q t z;generalize hge:bZ L=ge at *;have R:=hid hge;clear hge;go_wp2;go_ret2;exact⟨.inl ⟨by rw[R.o];exact X.o,by rw[R.o];rfl⟩,m.o⟩
section
attribute [local go_sem] Oper.semAt_some
variable {o':Obj}
def iJ (P:List (List Nat)) (v:Nat):List Nat:=v::P.getD v []
def iT (P:List (List Nat)) (u:Nat):Nat ->List Nat
 |0=>[]
 |v+1=>if u∈iJ P v then iT P u v++(iJ P v).filter (fun x=>decide (x≠u)) else iT P u v
def lu (P:List (List Nat)) (n v k:Nat):List (List Nat):=(List.range n).map fun u=>if u<k/\u∈iJ P v then iT P u v++(iJ P v).filter (fun x=>decide (x≠u)) else iT P u v
def mO (P:List (List Nat)) (n v:Nat):List (List Nat):=(List.range n).map fun u=>iT P u v
theorem aip (P:List (List Nat)) (n v:Nat):lu P n v 0=mO P n v:=by simp[lu,mO]
theorem aiu {P:List (List Nat)} (h:n<=8):lu P n v 8=mO P n (v+1):=by
 apply sG;intro u b;have:=cI.1 b;rw[iT];by_cases a:u∈iJ P v
 ·rw[aA ⟨al,a⟩,aA a]
 ·rw[aD (fun e=>a e.2),aD a]
theorem aiq {P:List (List Nat)} (m:k∈iJ P v):lu P n v (k+1)=(lu P n v k).set k (iT P k v++(iJ P v).filter (fun x=>decide (x≠k))):=by
 apply sI (by simp[lu]);intro i c d;rw[MG];simp only[lu,nO,DF];by_cases h:k=i
 ·subst h;rw[aA ⟨al,m⟩,aA rfl]
 ·rw[aD h];have e:(i<k+1/\i∈iJ P v)↔(i<k/\i∈iJ P v):=⟨fun ⟨a,b⟩=>⟨al,b⟩,fun ⟨a,b⟩=>⟨al,b⟩⟩;simp only[e]
theorem air {P:List (List Nat)} (m:¬k∈iJ P v):lu P n v (k+1)=lu P n v k:=by
 apply sG;intro i c;have e:(i<k+1/\i∈iJ P v)↔(i<k/\i∈iJ P v):=⟨fun ⟨a,b⟩=>⟨by rcases cT i k with h |h;exact h;exact absurd (show i=k by omega) (fun e=>m (e▸b)),b⟩,fun ⟨a,b⟩=>⟨al,b⟩⟩;simp only[e]
theorem ait {P:List (List Nat)} (a:u<n) (h:¬u<k):(lu P n v k)[u]? =some (iT P u v):=by
 simp[lu,a,h]
theorem ais (P:List (List Nat)) (n v k:Nat):(lu P n v k).length=n:=by simp[lu]
theorem ZU (P:List (List Nat)) (n v:Nat):(mO P n v).length=n:=by simp[mO]
theorem O3 {P:List (List Nat)} (a:∀v,∀u∈P.getD v [],u<n) (c:v<n):∀u∈iJ P v,u<n:=fun u b=>by
 rcases dU.1 b with rfl |h
 ·exact c
 ·exact a v u h
theorem NF {P:List (List Nat)} (b:∀v,∀u∈P.getD v [],u<n) (u:Nat):∀v,v<=n ->∀x∈iT P u v,x<n
 |0,_,x,hx=>by simp[iT] at hx
 |v+1,hv,x,hx=>by
  rw[iT] at hx;by_cases h:u∈iJ P v
  ·rw[aA h] at hx;rcases ck.1 hx with a |a
   ·exact NF b u v al x a
   ·exact O3 b al x (eL.1 a).1
  ·rw[aD h] at hx;exact NF b u v al x hx
theorem acJ {W:World} {r:Nat} {p:Addr} {o:Obj} (h:W.cell? p=some x) (a:W.heap[r]? =some o) (c:o.isCells=false):(W.putObj r o').cell? p=some x:=by
 have n:p.block≠r:=fun e=>by
  rw[World.cell?,e,a] at h;cases o<;>simp_all [Obj.isCells]
 rw[<- h];exact nH (yj n)
theorem aJ.putObj {W:World} {r:Nat} {d:Option Addr} {l:List Int} {o:Obj} (h:aJ W d l) (i:W.heap[r]? =some o) (e:o.isCells=false):aJ (W.putObj r o') d l:=fun k f=>by
 obtain⟨g,q,a,b,c⟩:=h k f;exact⟨g,q,a,by simpa using b,acJ c i e⟩
theorem gW.putObj {W:World} {r:Nat} {o:Obj} (h:gW W a L) (e:W.heap[r]? =some o) (d:o.isCells=false):gW (W.putObj r o') a L:=fun k m=>by
 obtain⟨g,q,b,c,f,i,j,l⟩:=h k m;exact⟨g,q,b,c,f,by simpa using i,acJ j e d,l.putObj e d⟩
def zr (w:World) (R n:Nat) (l:List Nat) (W:World):Prop:=cF W R l/\Boxed W (R+1) 137 (.slice (some ⟨R,0,none⟩) n n)/\Below R w W
theorem zr.own {β:Type} {R B:Nat} (f:β ->List Nat) (a:R<=B) (b:R<=w.heap.size):OwnFrom B (fun (s:β) W=>zr w R n (f s) W):=
 fP (gZ (Nb _ f) _) (fP (gZ (jN _ _ (fun _=>_)) _) (fun _ _ _ _ h g r=>h.grown g (aR b h.size) (fun k e=>aR a (r k e).1)))
theorem zr.aa {W:World} {R:Nat} {l:List Nat} (h:zr w R n l W) (b:ef W W'):zr w R n l W':=⟨h.1.aa b h.1.lt,xK h.2.1 b h.2.1.lt,h.2.2.trans (b.af (yo h.1.lt))⟩
def MoR (L:List (List Int)) (e:Ending) (w':World):Prop:=
 (bZ L≠0/\e=.returned (.tuple #[.slice none 0 0,.int .i64 (bZ L)]))∨
 (bZ L=0/\∃G,e=.returned (.tuple #[.slice (some ⟨G,0,none⟩) L.length L.length,.int .i64 0])/\gW w' (some ⟨G,0,none⟩) ((mO (aN L) L.length L.length).map gP))
theorem akG (a:Option Addr) (ca:Nat) (L:List (List Int)) (w:World) (h:gW w a L) (hl:∀l∈L,l.length<=140737488355328):
  du 99 #[.slice a L.length ca] w fun e w'=>MoR L e w'/\ef w w':=by
 refine(ix (n:=6)).1 ?_;obtain⟨i0,bM,bp,br,bu⟩:=dJ Tryz.infoSet;have HR:=hid (Ut a ca L w h hl);have hn:(aN L).length=L.length:=l5 L;have H8:Hid (bZ L=0 ->∀v,∀u∈(aN L).getD v [],u<L.length):=fun d v u f=>(Gl (vG d)).at v u f;have rk:Hid (bZ L=0 ->L.length<=8):=fun d=>(rX (vG d)).2.1;have aj:Hid (jU L=(aN L).map aB):=Gp L;have aC:Hid (∀e w',MoR L e w'=((bZ L≠0/\e=.returned (.tuple #[.slice none 0 0,.int .i64 (bZ L)]))∨(bZ L=0/\∃G,e=.returned (.tuple #[.slice (some ⟨G,0,none⟩) L.length L.length,.int .i64 0])/\gW w' (some ⟨G,0,none⟩) ((mO (aN L) L.length L.length).map gP)))):=fun _ _=>rfl;generalize aN L=P at *;clear h hl;by_cases d:bZ L=0
 case neg=>
  have Bo:=hid d;have bl:(bZ L==0)=false:=by simpa using d
  refine uN Tryz.func99 rfl trivial ?_ rfl;simp only[Tryz.ntmps99,nJ,ew,mG,Nat.reduceAdd,Nat.reduceSub,nR,nQ,nK,mI,jy,fG];gi_wp2_with (refine⟨trivial,?_⟩;gi_at_call 95;refine(ix.2 HR.o).af ?_;rintro e b ⟨ad,y6⟩;obtain rfl:=(y6.resolve_left fun h=>d h.1).2)
  exact⟨_,results_tmp2 rfl _ _ _,.inl ⟨Bo.o,rfl⟩,ad⟩
 case pos=>
  have h8:=rk.o d;have a6:=fun V=>run_make_row' (P:=Tryz.prog) 137 141 (.int .u32 0) 4 Tryz.underlying137 Tryz.infoSet rfl .i64 .i64 L.length al al V;refine uN Tryz.func99 rfl trivial ?_ rfl;simp only[Tryz.ntmps99,nJ,ew,mG,Nat.reduceAdd,Nat.reduceSub,nR,nQ,nK,mI,jy,fG];gi_wp2_with (refine⟨trivial,?_⟩;gi_at_call 95;refine(ix.2 HR.o).af ?_;rintro e b ⟨ad,y6⟩;obtain⟨-,G,rfl,hG,hU⟩:=y6.resolve_right fun h=>h.1 d)
  clear a6;have F:=H8.o d;rw[aj.o] at hU;have OJ:=hU.lt;have Ip:=hid d;have bh:=hid ad
  have Fg:Hid (∀(V:World) (v:Nat),ef b V ->v<L.length ->V.cell? ⟨G,v,none⟩=some (.int .u32 (aB (P.getD v []):Nat))):=fun V v J t=>by
   have:=(hU.aa J OJ).cell v (by rw[dM];omega);rwa [D8 al] at this
  have Ir:Hid (∀v,v<L.length ->∀u∈iJ P v,u<L.length):=fun v t=>O3 F t;have xT:=hid (fun (v:Nat) (t:v<L.length) (U:World)=>F5 (P.getD v []) v U (fun u f=>by have:=F v u f;omega) al);have ay:Hid (∀v,v::P.getD v []=iJ P v):=fun v=>rfl;have mq:=hid (fun (v:Nat) (t:v<L.length) (u:Nat) (f:u<8) (U:World)=>Ju (iJ P v) u U (fun x O=>by have:=O3 F t x O;omega) f);have LO:=hid (fun (v u:Nat) (t:v<L.length)=>UT (iT P u v) ((iJ P v).filter fun x=>decide (x≠u)) (fun x O=>by have:=NF F u v al x O;omega) (KU (fun x O=>by have:=O3 F t x O;omega) _))
  have Fw:Hid (∀(V:World) (g v k u:Nat),u<L.length ->¬u< k ->cF V g ((lu P L.length v k).map aB) ->V.cell? ⟨g,u,none⟩=some (.int .u32 (aB (iT P u v):Nat))/\V.frozen? ⟨g,u,none⟩=false):=fun V g v k u f a7 E=>by
   (have h1:u<(lu P L.length v k).length:=by rw[ais];exact f);have h2:=E.cell u (by rw[dM];exact h1);obtain⟨h3,z⟩:=mH.1 (ait (P:=P) (v:=v) f a7);rw[nO,z] at h2;exact⟨h2,E.fz u⟩
  have kY:Hid (∀(V:World) (g v k:Nat),k∈iJ P v ->cF V g ((lu P L.length v k).map aB) ->cF (V.setCell ⟨g,k,none⟩ (.int .u32 (aB (iT P k v++(iJ P v).filter (fun x=>decide (x≠k))):Nat))) g ((lu P L.length v (k+1)).map aB)):=fun V g v k H E=>by
   have:=E.set k (aB (iT P k v++(iJ P v).filter (fun x=>decide (x≠k))));rwa [aiq H,DD]
  have fD:Hid (∀v k,¬k∈iJ P v ->lu P L.length v (k+1)=lu P L.length v k):=fun v k h=>air h;have HZ:=hid (fun v=>aip P L.length v);have HA:=hid (fun v=>aiu (P:=P) (v:=v) h8)
  have hz:(mO P L.length 0).map aB=List.replicate L.length 0:=by
   apply sI (by simp[mO]);intro i h1 h2;simp[mO,iT,aB]
  have tK:Hid (∀(R:Nat) (U:World),cF U R ((mO P L.length L.length).map aB) ->du 151 #[.slice (some ⟨R,0,none⟩) L.length L.length] U fun e w'=>∃G,e=.returned (.slice (some ⟨G,0,none⟩) L.length L.length)/\U.heap.size<=G/\gW w' (some ⟨G,0,none⟩) ((mO P L.length L.length).map gP)/\ef U w'):=fun R U E=>by
   have:=aaa (some ⟨R,0,none⟩) L.length (mO P L.length L.length) U (fun p hp u f=>by
    obtain⟨x,_,rfl⟩:=ba.1 hp;have:=NF F x L.length (aq _) u f
    omega) (by rw[ZU];omega) (fun k hk=>⟨R,0,rfl,E.lt,by
     have:=E.cell k (by rw[dM];exact hk);rw[bB,this,nO]⟩)
   rwa [ZU] at this
  clear hU d ad H8 rk aj F HR;generalize L.length=n at *;obtain⟨Y,ab⟩:∃Y,Y=(b.alloc (.cells (madeCells #[.int .u32 0] n) 141)).alloc (.cells #[.slice (some ⟨b.heap.size,0,none⟩) n n] 137):=⟨_,rfl⟩
  have av:zr b b.heap.size n ((mO P n 0).map aB) Y:=by
   rw[ab,hz];refine⟨?_,?_,((au _ b).alloc (aq _) _).alloc aE _⟩
   ·have h:=dB b (.cells (madeCells #[.int .u32 0] n) 141)
    have e:(madeCells #[.int .u32 0] n).toList=(List.replicate n (0:Nat)).map uv:=by
     have:=Sp n;rwa [kF] at this
    (have e2:madeCells #[Value.int .u32 0] n=((List.replicate n (0:Nat)).map uv).toArray:=by rw[<- e]);rw[cF,wF _ _ _ aE,h,e2]
   ·have h:=a8 (b.alloc (.cells (madeCells #[.int .u32 0] n) 141)) 137 (.slice (some ⟨b.heap.size,0,none⟩) n n);rwa [dE] at h
  rw[<- ab];have bm:Y.heap.size=b.heap.size+2:=by rw[ab];simp
  have k6:=hid av;clear ab av hz;refine wpIn_loop (fun Z w'=>∃(v:Nat) (ds:List Deferred) (u7 u8 u24 Ji u26 Jh u28 z7 Jg Jf u32 FX:Value),Z= {tmps:= #[.slice a n ca,undef,.slice none 0 0,.int .i64 0,.slice (some ⟨G,0,none⟩) n n,.int .i64 0,.pointer (some ⟨b.heap.size+1,0,none⟩),u7,u8,undef,.tuple #[.slice (some ⟨G,0,none⟩) n n,.int .i64 0],.slice a n ca,.tuple #[.slice (some ⟨G,0,none⟩) n n,.int .i64 0],.slice (some ⟨G,0,none⟩) n n,.int .i64 0,.int .i64 0,.bool false,undef,.slice (some ⟨G,0,none⟩) n n,.int .i64 (n:Nat),.slice (some ⟨b.heap.size,0,none⟩) n n,.slice (some ⟨G,0,none⟩) n n,.int .i64 (n:Nat),.int .i64 (v:Nat),u24,Ji,u26,Jh,u28,z7,Jg,Jf,u32,undef,undef,undef,undef,undef,undef,undef,undef,undef,undef,FX,undef,undef],defers:=ds}/\v<=n/\Hid (zr b b.heap.size n ((mO P n v).map aB) w')/\Hid (Shut (b.heap.size+2) w'.heap.size ds w')) (fun Z _=>n - (intOf (Z.tmps.getD 23 undef)).toNat) ?_ ?_
  ·exact⟨0,[],_,_,_,_,_,_,_,_,_,_,_,_,rfl,aV _,k6,trivial⟩
  intro Z wr bc;obtain⟨v,ds,u7,u8,u24,Ji,u26,Jh,u28,z7,Jg,Jf,u32,FX,rfl,t,A,jK⟩:=bc;clear k6;by_cases T:v<n
  ·have kv:=Fg.o wr v A.o.2.2 T;have hs:=Ir.o v T;(have GP:∀u∈iJ P v,u<8:=fun u f=>by have:=hs u f;omega);have an:=hid (xT.o v T);rw[ay.o v] at an;have aS:=hid (mq.o v T);have aO:=hid (fun u=>LO.o v u T);have Wv:=hid (fun V g k u=>Fw.o V g v k u);have Vm:=hid (fun V g k=>kY.o V g v k);have VB:=hid (fun k=>fD.o v k);have TJ:=HZ.o v;have Uf:=HA.o v;have cP:b.heap.size+1<wr.heap.size:=A.o.2.1.lt;generalize aB (P.getD v [])=mp at *;generalize iJ P v=m at *;gi_wp2_with (refine⟨trivial,?_⟩;gi_at_call 147;refine(ix.2 (an.o _)).af ?_;rintro e w4 ⟨rfl,bb⟩;subst bb)
   obtain⟨j,S⟩:∃j,j=wr.alloc (.cells #[.int .u32 (aB m:Nat)] 141):=⟨_,rfl⟩;(have b8:Boxed j wr.heap.size 141 (.int .u32 (aB m:Nat)):=by rw[S];exact a8 wr _ _);(have ai:ef wr j:=by rw[S];exact(au _ wr).alloc (aq _) _);(have bo:j.heap.size=wr.heap.size+1:=by rw[S];simp);rw[<- S];have ae:=A.o.aa ai;have Kv:=(jK.o.aa ai).af (show wr.heap.size<=j.heap.size by omega);rw[<- TJ] at ae;clear S kv A jK
   refine DJ al m GP rfl rfl
    (fun k V=>zr b b.heap.size n ((lu P n v k).map aB) V/\Boxed V wr.heap.size 141 (.int .u32 (aB m:Nat))/\(j.heap.size<=V.heap.size/\Shut (b.heap.size+2) j.heap.size ds V))
    (fP (zr.own (fun k:Nat=>(lu P n v k).map aB) al (aq _)) (fP (gZ (jN _ _ (fun _=>_)) _) Rn))
    ⟨ae,b8,aq _,Kv⟩
    (fun k=> {tmps:= #[.slice a n ca,undef,.slice none 0 0,.int .i64 0,.slice (some ⟨G,0,none⟩) n n,.int .i64 0,.pointer (some ⟨b.heap.size+1,0,none⟩),.int .i64 (v:Nat),.pointer (some ⟨wr.heap.size,0,none⟩),.int .i64 (k:Nat),.tuple #[.slice (some ⟨G,0,none⟩) n n,.int .i64 0],.slice a n ca,.tuple #[.slice (some ⟨G,0,none⟩) n n,.int .i64 0],.slice (some ⟨G,0,none⟩) n n,.int .i64 0,.int .i64 0,.bool false,undef,.slice (some ⟨G,0,none⟩) n n,.int .i64 (n:Nat),.slice (some ⟨b.heap.size,0,none⟩) n n,.slice (some ⟨G,0,none⟩) n n,.int .i64 (n:Nat),.int .i64 (v:Nat),.bool true,.int .i64 (v:Nat),.pointer (some ⟨G,v,none⟩),.int .u32 (mp:Nat),.int .u32 (mp:Nat),.int .i64 (v:Nat),.int .u32 (aB m:Nat),.int .u32 (aB m:Nat),.func (.func 148) #[.int .u32 (aB m:Nat)] #[],.int .i64 (k:Nat),undef,undef,undef,undef,undef,undef,undef,undef,undef,FX,undef,undef],defers:=[]}) ?assign ?body ?skip ?done
   case assign=>
    intro l k W K M;gi_wp2
    exact M
   case body=>
    rintro l k V hk H ⟨q,z,wT,Q⟩;have a1:=hs k H;have k1:=q.2.1.cell;have k4:=z.cell;obtain⟨kU,fU⟩:=Wv.o V b.heap.size k k a1 al q.1;have EU:=hid (aS.o k hk);have bk:=aO.o k;have LA:=hid (fun W hW=>Vm.o W b.heap.size k H hW);generalize aB (iT P k v++m.filter (fun x=>decide (x≠k)))=m1 at *;generalize aB (m.filter fun x=>decide (x≠k))=m2 at *;generalize aB (iT P k v)=m0 at *;generalize aB m=mf at *;gi_wp2_with fail
    refine yL (fun u=>u.cell? ⟨b.heap.size+1,0,none⟩=some (.slice (some ⟨b.heap.size,0,none⟩) n n)/\u.cell? ⟨wr.heap.size,0,none⟩=some (.int .u32 (mf:Nat))) ao ao (fun ⟨_,_,h⟩=>h) ⟨k1,k4⟩ ?_;intro I;have hD:KeepsOthers V V.drew:=zW V;have q0:zr b b.heap.size n ((lu P n v k).map aB) V.drew:=⟨q.1,q.2.1,q.2.2.drew⟩;have q4:Boxed V.drew wr.heap.size 141 (.int .u32 (mf:Nat)):=z;have qS:Shut (b.heap.size+2) j.heap.size ds V.drew:=Q.keep fun _ _=>rfl;have qz:j.heap.size<=V.drew.heap.size:=wT;have bx:V.drew.cell? ⟨b.heap.size,k,none⟩=some (.int .u32 (m0:Nat)):=kU;have bf:V.drew.frozen? ⟨b.heap.size,k,none⟩=false:=fU;clear k1 k4 kU fU q z Q wT b8 ai ae Kv;generalize V.drew=X at *;refine ar 0 (.slice (some ⟨b.heap.size,0,none⟩) n n) ?_;refine ar 1 (.int .i64 (k:Nat)) ?_;refine ar 2 (.pointer (some ⟨b.heap.size,k,none⟩)) ?_;refine ar 4 (.int .u32 (mf:Nat)) ?_;refine ar 5 (.int .i64 (k:Nat)) ?_;refine aG [3,6] (cA ?_ (cA ?_ aF))
    focus
     intro s c;go_simp;refine c.o _ _ I (fun y=>?_);clear c s y;refine aG [6] (cA ?_ aF);intro s c;go_simp;refine(EU.o _).af ?_;rintro e U1 ⟨rfl,fN⟩;subst fN;refine c.o _ _ I (fun y=>?_);clear c s y;generalize U1=X at *
    rotate_left
    focus
     intro s c;go_simp;refine(EU.o _).af ?_;rintro e U1 ⟨rfl,fN⟩;subst fN;refine c.o _ _ I (fun y=>?_);clear c s y;generalize U1=X at *;refine aG [3] (cA ?_ aF);intro s c;go_simp;refine c.o _ _ I (fun y=>?_);clear c s y
    all_goals
     refine ar 7 (.int .u32 (m1:Nat)) ?_;refine ar 8 (.pointer (some ⟨b.heap.size,k,none⟩)) ?_;refine aG [9] (cA ?_ aF);intro s c;go_simp;refine c.o _ _ ⟨(jJ q0.2.1 b.heap.size k _ al).cell,(jJ q4 b.heap.size k _ al).cell⟩ (fun _=>dS ao ?_ _);clear c s I;gi_wp2
     exact⟨(hD.trans (kh X _ _)).from _,⟨LA.o X q0.1,jJ q0.2.1 b.heap.size k _ al,q0.2.2.setCell (p:=⟨b.heap.size,k,none⟩) (aq _) _⟩,jJ q4 b.heap.size k _ al,by simpa using qz,qS.putAt al _⟩
   case skip=>
    rintro k V hk H h;rw[VB.o k H];exact h
   case done=>
    rintro D V hD ⟨q,z,wT,Q⟩ M;rw[Uf] at q;have AD:D<V.heap.size:=(cJ.1 M).1;have EY:Hid (Shut (b.heap.size+2) V.heap.size ({target:=.collected D,args:= #[]}::ds) V):=⟨D,al,AD,rfl,M,Q.af hD⟩;have LY:=hid q;clear q z Q M;gi_wp2
    refine⟨⟨v+1,_,_,_,_,_,_,_,_,_,_,_,_,_,rfl,al,LY,EY⟩,?_⟩;simp[intOf];omega
  ·obtain rfl:v=n:=al
   have kc:=A.o.2.1.cell;have az:=hid (tK.o b.heap.size wr A.o.1);have cP:b.heap.size+1<wr.heap.size:=A.o.2.1.lt;gi_wp2_with (refine⟨trivial,?_⟩;gi_at_call 151;refine(ix.2 az.o).af ?_;rintro e w5 ⟨G5,rfl,bg,aT,ax⟩)
   have KJ:ef w w5:=(bh.o.trans (A.o.2.2.af bh.o.size)).trans (ax.af (aR bh.o.size (yo (Nat.lt_trans (Nat.lt_succ_self _) cP))));refine Ea (lo:=b.heap.size+2) (K:=fun W=>gW W (some ⟨G5,0,none⟩) ((mO P v v).map gP)/\ef w W) ?_ ?_ _ wr.heap.size w5 (jK.o.aa ax) ⟨aT,KJ⟩
   ·rintro W r ⟨hL,J⟩ hr hd;exact⟨hL.putObj hd rfl,J.trans (uP (w:=w) (aq _) W r _ _ (by have:=bh.o.size;omega) hd rfl rfl)⟩
   ·rintro bd ⟨hL,J⟩;refine⟨_,results_tmp2 rfl _ _ _,?_,J⟩;rw[aC.o];exact .inr ⟨Ip.o,G5,rfl,hL⟩
end
theorem RV {P:List (List Nat)} (h:sO P (aZ P k)=some v):¬v∈aZ P k/\∀u∈P.getD v [],u∈aZ P k:=by
 have:=List.find?_some h;rw[jI,kj,Bool.not_eq_true',Qz,gY] at this;exact this
theorem RU (P:List (List Nat)):∀k,(aZ P k).Nodup
 |0=>List.nodup_nil
 |k+1=>by
  rw[aZ];cases e:sO P (aZ P k) with
  |none=>exact RU P k
  |some v=>
   refine IX.2 ⟨RU P k,aE,fun a h b d=>?_⟩;rw[dT.1 d];exact fun c=>(RV e).1 (c▸h)
theorem RS {P:List (List Nat)}:∀k,v∈aZ P k ->∃A B,aZ P k=A++v::B/\¬v∈A/\∀u∈P.getD v [],u∈A
 |0,h=>by cases h
 |k+1,h=>by
  rw[aZ] at h⊢;cases e:sO P (aZ P k) with
  |none=>
   rw[e] at h;exact RS k h
  |some w=>
   rw[e] at h;show ∃A B,aZ P k++[w]=A++v::B/\_;rcases ck.1 h with h |h
   ·obtain⟨A,B,a,b,c⟩:=RS k h;exact⟨A,B++[w],by rw[a];simp,b,c⟩
   ·obtain rfl:=dT.1 h;exact⟨aZ P k,[],rfl,(RV e).1,(RV e).2⟩
def wL (P:List (List Nat)) (v:Nat):Nat:=(aZ P P.length).idxOf v
theorem afX {P:List (List Nat)} (e:v∈aZ P P.length) (d:u∈P.getD v []):wL P u<wL P v:=by
 obtain⟨A,B,a,b,c⟩:=RS P.length e;have h:=c u d;rw[wL,wL,a,List.idxOf_append,List.idxOf_append,aA h,aD b,List.idxOf_cons_self,bB];exact List.idxOf_lt_length_of_mem h
theorem OV (h:bZ L=0):gB L=true/\∀v,v<L.length ->v∈aZ (aN L) (aN L).length:=by
 have g:=vG h;refine⟨g,fun v b=>?_⟩;rw[bZ,aA g] at h;have d:¬(aZ (aN L) L.length).length<L.length:=fun c=>by rw[aA c] at h;cases h
 rw[l5];refine I6 fun n=>?_
 have:=NA (l:=v::aZ (aN L) L.length) (m:=List.range L.length) (pG.2 ⟨n,RU _ _⟩) fun x a=>by
  rcases dU.1 a with rfl |a
  ·exact cI.2 b
  ·have:=DV (aN L) L.length x a;rw[l5] at this;exact cI.2 this
 rw[ew,wD] at this;omega
theorem Y7 (g:gB L=true) (h:u∈(aN L).getD v []):u<L.length/\v<L.length:=by
 have b:v<L.length:=by
  rcases cT v L.length with a |a
  ·exact a
  ·rw[bY,jA (by rw[l5];exact a)] at h;cases h
 refine⟨?_,b⟩;rw[bY,bj (by rw[l5];exact b)] at h;exact JC g _ (bF _) u h
theorem Ru (h:bZ L=0) (a:u∈(aN L).getD v []):wL (aN L) u<wL (aN L) v:=
 afX ((OV h).2 v (Y7 (OV h).1 a).2) a
theorem afW (h:bZ L=0) (c:v<L.length):wL (aN L) v<L.length:=by
 have a:=List.idxOf_lt_length_of_mem ((OV h).2 v c);have b:=Gf (aN L) (aN L).length;rw[l5] at b;rw[wL];rw[l5] at a⊢;omega
theorem amY (h:bZ L=0) (a:lh (fun u v=>u∈(aN L).getD v []) u v):wL (aN L) u<wL (aN L) v:=by
 induction a using lh.ind with
 |one hp=>exact Ru h hp
 |more _ hp ih=>exact Nat.lt_trans ih (Ru h hp)
theorem Va {P:List (List Nat)} {s:List Nat}:∀ {r:Nat} (d:Nat),u∈ie P s r ->u∈ie P s (r+d)
 |_,0,h=>h
 |r,d+1,h=>by
  show u∈oz P (ie P s (r+d)) 8;exact List.mem_append_left _ (Va d h)
theorem am2 (h:bZ L=0) {s:List Nat} (i:L.length<=8):∀m j v,wL (aN L) v<=m ->v<L.length ->v∈ie (aN L) s j ->∀a,lh (fun u v=>u∈(aN L).getD v []) a v ->a∈ie (aN L) s (j+m):=fun m=>by
 induction m with
 |zero=>
  intro j v d _ _ a b;have:=amY h b;omega
 |succ m ih=>
  intro j v d k f a b;have e:∀w,w∈(aN L).getD v [] ->w∈ie (aN L) s (j+1):=fun w g=>List.mem_append_right _ (List.mem_flatMap.2 ⟨v,Gn.2 ⟨al,f⟩,g⟩);rcases lh.last b with p |⟨w,c,p⟩
  ·rw[show j+(m+1)=(j+1)+m by omega];exact Va m (e a p)
  ·have:=Ru h p;rw[show j+(m+1)=(j+1)+m by omega];exact ih (j+1) w al (Y7 (OV h).1 p).1 (e w p) a c
theorem acZ (h:bZ L=0) {s:List Nat} (g:L.length<=8) (f:∀v∈s,v<L.length) (a:Nat):a∈ie (aN L) s L.length↔∃b∈s,a=b∨lh (fun u v=>u∈(aN L).getD v []) a b:=by
 constructor
 ·have:∀r a,a∈ie (aN L) s r ->∃b∈s,a=b∨lh (fun u v=>u∈(aN L).getD v []) a b:=fun r=>by
   induction r with
   |zero=>exact fun a c=>⟨a,c,.inl rfl⟩
   |succ r ih=>
    intro a c;rcases ck.1 c with c |c
    ·exact ih a c
    ·obtain⟨v,i,p⟩:=List.mem_flatMap.1 c;obtain⟨b,d,e⟩:=ih v (Gn.1 i).2;refine⟨b,d,.inr ?_⟩;rcases e with rfl |e
     ·exact .one p
     ·clear d;induction e using lh.ind with
      |one h2=>exact .more (.one p) h2
      |more _ h2 SB=>exact .more SB h2
  exact this _ a
 ·rintro⟨b,d,rfl |c⟩
  ·have:=Va (P:=aN L) (s:=s) (r:=0) L.length d;rwa [bB] at this
  ·have e:=afW h (f b d);have:=am2 h g L.length 0 b al (f b d) d a c;rwa [bB] at this
def Sj (P:List (List Nat)) (n v u:Nat):Bool:=(decide (u∈P.getD v []) ||decide (v∈P.getD u [])) ||(List.range n).any fun w=>decide (u∈P.getD w [])&&decide (v∈P.getD w [])
theorem JI {P:List (List Nat)} {u x:Nat}:∀ {n:Nat},x∈iT P u n↔x≠u/\∃v,v<n/\u∈iJ P v/\x∈iJ P v
 |0=>by simp[iT]
 |n+1=>by
  have i:=JI (P:=P) (u:=u) (x:=x) (n:=n);rw[iT];by_cases h:u∈iJ P n
  ·rw[aA h,ck,i,eL,gY];constructor
   ·rintro(⟨a,v,b,c⟩ |⟨a,b⟩)
    ·exact⟨a,v,al,c⟩
    ·exact⟨b,n,al,h,a⟩
   ·rintro⟨a,v,b,c,d⟩;rcases cT v n with e |e
    ·exact .inl ⟨a,v,e,c,d⟩
    ·rw[show v=n by omega] at d;exact .inr ⟨d,a⟩
  ·rw[aD h,i];refine and_congr_right fun _=>⟨fun ⟨v,a,b⟩=>⟨v,al,b⟩,fun ⟨v,a,b,c⟩=>⟨v,?_,b,c⟩⟩;rcases cT v n with e |e
   ·exact e
   ·rw[show v=n by omega] at b;exact absurd b h
theorem aio {P:List (List Nat)} (c:u<n) (d:v<n):u∈iT P v n↔(Sj P n v u&&decide (u≠v))=true:=by
 rw[JI,kj,gY,Sj,Bool.or_eq_true,Bool.or_eq_true,gY,gY,uT];constructor
 ·rintro⟨e,w,b,h,a⟩;refine⟨?_,e⟩;rcases dU.1 h with rfl |h
  ·rcases dU.1 a with rfl |a
   ·exact absurd rfl e
   ·exact .inl (.inl a)
  ·rcases dU.1 a with rfl |a
   ·exact .inl (.inr h)
   ·exact .inr ⟨w,cI.2 b,by rw[eD a,eD h];rfl⟩
 ·rintro⟨(h |h) |⟨w,b,h⟩,e⟩
  ·exact⟨e,v,d,dp,dF _ h⟩
  ·exact⟨e,u,c,dF _ h,dp⟩
  ·rw[kj,gY,gY] at h;exact⟨e,w,cI.1 b,dF _ h.2,dF _ h.1⟩
def ZT (P:List (List Nat)) (n v u:Nat):List Nat:=(List.range u).filter fun u=>Sj P n v u&&decide (u≠v)
theorem ain {P:List (List Nat)} (b:∀v,∀u∈P.getD v [],u<n/\v<n) (j:n<=8) (f:v<n):iL (ZT P n v n)=gP (iT P v n):=by
 have l:∀x,x∈iT P v n ->x<n:=fun x i=>by
  obtain⟨_,w,g,_,h⟩:=JI.1 i;rcases dU.1 h with rfl |h
  ·exact g
  ·exact(b _ _ h).1
 have e:∀d,fL (iT P v n) (n+d)=fL (iT P v n) n:=fun d=>by
  induction d with
  |zero=>rfl
  |succ d ih=>
   rw[show n+(d+1)=(n+d)+1 by omega,NJ,ih];intro m;have:=l _ m;omega
 have a:=e (8 - n);rw[show n+(8 - n)=8 by omega] at a;rw[gP,a,ZT,fL];congr 1
 refine List.filter_congr fun u c=>wE.2 ?_;rw[<- aio (cI.1 c) f,gY]
theorem af0 (p:Nat ->Bool) (n:Nat):fT (iL ((List.range n).filter p)) n=true:=by
 have s:((List.range n).filter p).Pairwise (·<·):=List.Pairwise.filter _ List.pairwise_lt_range;refine iQ.2 fun i a=>?_;have h:i<((List.range n).filter p).length:=by rw[cI,bI] at a;exact a
 have g:∀j (b:j<((List.range n).filter p).length),(iL ((List.range n).filter p)).getD j 0=(((List.range n).filter p)[j]:Int):=fun j b=>by
  rw[bY,iL,lU,bj b];rfl
 refine eD ⟨?_,?_,fun c=>?_⟩
 ·rw[g i h];omega
 ·rw[g i h];have:=cI.1 (eL.1 (bF h)).1;omega
 ·rw[g i h,g (i - 1) al];have:=(zU.1 s) (i - 1) i al h al;omega
def mP (L:List (List Int)):List (List Int):=(mO (aN L) L.length L.length).map gP
theorem Ah (L:List (List Int)):(mP L).length=L.length:=by simp[mP,mO]
theorem aix (h:v<L.length):(aN (mP L)).getD v []=fL (iT (aN L) v L.length) 8:=by
 rw[bY,aN,lU,mP,lU,mO,lU,List.getElem?_range h];show ag (gP _)=_;rw[gP,jC]
theorem Sk (g:gB L=true):∀v,∀u∈(aN L).getD v [],u<L.length/\v<L.length:=fun v u a=>by
 refine⟨(Gl g).at v u a,?_⟩;by_cases h:v<L.length
 ·exact h
 ·rw[bY,jA (by rw[l5];omega)] at a;cases a
theorem NG (b:L.length<=8) (a:v<L.length) (c:u<L.length):u∈(aN (mP L)).getD v []↔u≠v/\∃x,x<L.length/\v∈iJ (aN L) x/\u∈iJ (aN L) x:=by
 rw[aix a,Gn,JI];exact⟨fun h=>h.2,fun h=>⟨al,h⟩⟩
theorem ZV (g:gB L=true) (h1:1<=L.length) (a:L.length<=8):gB (mP L)=true:=by
 refine akK (by rw[Ah];exact h1) (by rw[Ah];exact a) fun i b=>?_;have c:i<L.length:=by rwa [Ah] at b
 have e:(mP L)[i]=gP (iT (aN L) i L.length):=by simp[mP,mO]
 rw[e,Ah];refine⟨?_,?_⟩
 ·rw[<- ain (Sk g) a c];exact af0 _ _
 ·rw[gP,jC,Gn,JI];exact fun h=>h.2.1 rfl
theorem aiw (i:gB L=true) (h1:1<=L.length) (d:L.length<=8):uf (mP L)=true:=by
 refine(ahS (ZV i h1 d)).2 fun v u g f=>?_;rw[Ah] at g f;rw[zO,NG d g f,NG d f g];exact⟨fun ⟨h,x,a,b,c⟩=>⟨fun e=>h e.symm,x,a,c,b⟩,fun ⟨h,x,a,b,c⟩=>⟨fun e=>h e.symm,x,a,c,b⟩⟩
def iG (L:List (List Int)):List Nat:=(bC (aN (mP L)) (mP L).length (mP L).length).ord
theorem Zn (k:gB L=true) (h1:1<=L.length) (d:L.length<=8):ac2 L.length (kJ (aN (mP L)) L.length) (ZH (aN (mP L)) L.length):=by
 have g:tA L.length (aN (mP L)):=by have:=Gl (ZV k h1 d);rwa [Ah] at this
 refine alg g (fun u i w f=>?_) d;have j:=g.at u w f;rw[NG d i j] at f;rw[NG d j i];obtain⟨h,x,a,b,c⟩:=f;exact⟨fun e=>h e.symm,x,a,c,b⟩
theorem Nx (L:List (List Int)):iG L=(List.range L.length).map (kJ (aN (mP L)) L.length):=by rw[iG,Ah,abX]
theorem Zp (g:gB L=true) (h1:1<=L.length) (h:L.length<=8):(iG L).Nodup:=by
 rw[Nx,List.Nodup,FR];refine List.Pairwise.imp_of_mem (fun {i j} a b c e=>?_) (BD (n:=L.length));exact c ((Zn g h1 h).inj i j (cI.1 a) (cI.1 b) e)
theorem Zq (g:gB L=true) (h1:1<=L.length) (h:L.length<=8) (b:v<L.length):v∈iG L:=by
 obtain⟨i,a,e⟩:=(Zn g h1 h).all v b;rw[Nx];exact ba.2 ⟨i,cI.2 a,e⟩
theorem GK.grown (h:GK w V x y z) (c:V.grownBy V' (some g)) (b:w.heap.size+2<=g):GK w V' x y z:=
 have a:Below (w.heap.size+2) V V':=(au _ V).grown c (by have:=h.2.lt;omega) (fun k e=>by cases e;exact b);⟨h.1.grow (a.af al),h.2.aa a al⟩
theorem aib (a b c:Option Addr) (ca cb cc v:Nat) (V:List Vr) (L:List (List Int)) (R:List (List Fr)) (w:World) (h:lO w a b c V L R) (hN:xQ w b L) (hs:xP V L R) (hw:∀l∈R,fw l<=4200) (h0:bH V L R=0) (hv:v<V.length) (vE:∀U:World,lO U a b c V L R ->du 50 #[.agg #[.slice a V.length ca,.slice b L.length cb,.slice c R.length cc]] U fun e w'=>e=.returned (.int .i64 (bH V L R))/\ef U w'):
  du 102 #[.agg #[.slice a V.length ca,.slice b L.length cb,.slice c R.length cc],.int .i64 (v:Nat)] w fun e w'=>uD w.heap.size (gU L v) (gL V L R v) 0 e w'/\ef w w':=by
 have T:=kN h0;have Kr:=hs.vars.1;have b1:=T.n8;have I:v<L.length:=by rw[T.len];exact hv
 have qN:v<R.length:=by rw[T.lenR];exact hv
 have l8:=T.up v I;have aj:=ZJ h0 I;have VJ:=hid vE;rw[h0] at VJ;have Vo:Hid ((([(v:Int)]++L[v]).mergeSort fun x y=>decide (x<=y))=gU L v):=Yd I l8 aj;have Wc:Hid (([(v:Int)]++L[v]).length=(gU L v).length):=by show _=_;rw[<- Vo.o,MD]
 have bc:gU L v=kr L[v] [(v:Int)]:=by rw[gU,bY,bj I];rfl
 have r7:Hid (Up (gU L v) V.length):=by rw[bc];exact FZ l8 (QZ hv)
 have bR:Hid (0<(gU L v).length):=by show _<_;rw[<- Wc.o];simp
 have aS:=T.fine;have ku:∀u,sz (aw V) u<=4:=fun u=>by have:=aS.sz_le u;rwa [jC] at this
 have dN:Pos (aw V):=by have:=aS.pos;rwa [jC] at this
 have b3:cnt (aw V) (ag (gU L v))<=65536:=vJ ku (by rw[gM];have:=r7.o.length;omega);have fO:Hid ((gL V L R v).length=cnt (aw V) (ag (gU L v))):=by show _=_;simp[gL]
 have bb:R[v].length=(gL V L R v).length:=by rw[fO.o,al0 _ I l8 aj];exact T.rows v I qN
 have qo:Hid (∀k (h:k<(gL V L R v).length),(gL V L R v)[k]=qF (aQ (fg V L R (aY (aw V) (ag (gU L v)) k) v))):=fun k h=>by simp[gL]
 have tK:Hid (∀K,K<cnt (aw V) (ag (gU L v)) ->(fg V L R (aY (aw V) (ag (gU L v)) K) v).2.1.size+(fg V L R (aY (aw V) (ag (gU L v)) K) v).2.2.size<=4200):=fun K hK=>aiQ T (fun u=>vK dN _ K u hK) hw hv
 have LG:Hid (∀(K:Nat) (U:World) (G:Nat),K<cnt (aw V) (ag (gU L v)) ->lO U a b c V L R ->cM U G (pO V.length (aY (aw V) (ag (gU L v)) K)) ->du 157 #[.agg #[.slice a V.length ca,.slice b L.length cb,.slice c R.length cc],.int .i64 (v:Nat),.slice (some ⟨G,0,none⟩) V.length V.length] U fun e w'=>e=.returned (iB (fg V L R (aY (aw V) (ag (gU L v)) K) v))/\ef U w'):=fun K U G hK h1 h2=>by
  rw[NP I qN];have:=aiK a b c (some ⟨G,0,none⟩) ca cb cc V.length v V L R (pO V.length (aY (aw V) (ag (gU L v)) K)) U h1 h2.ints (DT _ _) b1 hv I qN aS l8 (T.rows v I qN) (aY (aw V) (ag (gU L v)) K) (fun u=>vK dN _ K u hK) (fun u hu=>Rm hu);rwa [DT] at this
 have eH:(iL (aw V)).length=V.length:=by rw[bI,oT]
 have bu:Hid (∀(U:World) (G D cd K:Nat),K<cnt (aw V) (ag (gU L v)) ->cM U G (aw V) ->aJ U (some ⟨D,0,none⟩) (gU L v) ->du 156 #[.slice (some ⟨G,0,none⟩) V.length V.length,.slice (some ⟨D,0,none⟩) (gU L v).length cd,.int .i64 (K:Nat)] U fun e w'=>∃(g:Nat) (cc:Nat),e=.returned (.tuple #[.slice (some ⟨g,0,none⟩) (gU L v).length cc,.int .i64 0])/\U.heap.size<=g/\cM w' g (mn (aw V) (ag (gU L v)) K)/\ef U w'):=fun U G D cd K hK h1 h2=>by
  have:=aeO (some ⟨G,0,none⟩) (some ⟨D,0,none⟩) V.length cd K (iL (aw V)) (gU L v) U h1.ints h2 aS (by rw[eH];exact r7.o) (by rw[jC];exact hK);rwa [eH,jC] at this
 have bp:Hid (∀K i (hi:i<(ag (gU L v)).length),(mn (aw V) (ag (gU L v)) K)[i]? =some (aY (aw V) (ag (gU L v)) K (ag (gU L v))[i])):=fun K i hi=>acS r7.o.nodup hi;have ax:Hid (∀K u,¬u∈ag (gU L v) ->aY (aw V) (ag (gU L v)) K u=0):=fun K u hu=>EO hu;have jc:=hid (fun (U:World) (hU:vL U a V)=>NB a b c ca cb cc L.length R.length V U hU Kr);have Qb:=hid (h.pars v I);have b2:=hs.pars.2 L[v] (bF I);replace b2:L[v].length<=50000:=al
 have Bd:=hid (hN v I);obtain⟨J,E,br,cr,rfl,ab,r1, -, -⟩:=h.rows v qN;rw[bb] at r1;have ri:=hid r1;have HI:=hid h;generalize gL V L R v=F at *;generalize gU L v=U at *;obtain⟨m,f,bl,cl,rfl,fM,p1,nY⟩:=Qb.o;have PT:=hid (Bd.o m f bl _ cl rfl p1);have eO:=hid p1;have De:=hid nY;generalize ajv:L[v]=pl at *;clear h hs hw h0 T l8 bc aS ku dN eH Qb p1 nY ajv aj hN Bd bb r1 vE;have eo:=hid (GK.new w (.slice a V.length ca) (.slice (some ⟨m,f,none⟩) L.length cb) (.slice (some ⟨J,E,none⟩) R.length cc));obtain⟨P,Q,Y⟩:=eo.o.1.1.cells;go_enter Tryz.func102,Tryz.ntmps102;go_wp2_with fail
 generalize ((w.alloc (NC (.slice a V.length ca) (.slice (some ⟨m,f,none⟩) L.length cb) (.slice (some ⟨J,E,none⟩) R.length cc))).alloc (TC (.slice none 0 0) (.slice none 0 0)))=w1 at *;refine(VJ.o _ (HI.o.aa eo.o.1.2)).af ?_;rintro e W ⟨rfl,Z⟩;have d:=eo.o.step Z;clear Z eo P Q Y VJ;obtain⟨P,Q,Y⟩:=d.1.1.cells;have ct:(0:Int)<=(v:Int):=al
 have pT:(v:Int)<(V.length:Int):=al
 have Wd:=hid d;clear d;go_upto_region 6 with fail
 clear P Q Y;have kz:decide (V.length<=v)=false:=by simp;exact hv
 have jX:decide ((v:Int)<0)=false:=aE
 simp only[kz,jX,Bool.or_false];go_cut [7,8] from 32 to 42 (fun s t wx=>∃G D cd,s=.slice (some ⟨G,0,none⟩) V.length V.length/\t=.slice (some ⟨D,0,none⟩) U.length cd/\w.heap.size+2<=G/\w.heap.size+2<=D/\cM wx G (aw V)/\aJ wx (some ⟨D,0,none⟩) U/\GK w wx (.slice a V.length ca) (.slice (some ⟨m,f,none⟩) L.length cb) (.slice (some ⟨J,E,none⟩) R.length cc))
 case first=>
  have d:=Wd.o;clear Wd;replace d:GK w W.drew (.slice a V.length ca) (.slice (some ⟨m,f,none⟩) L.length cb) (.slice (some ⟨J,E,none⟩) R.length cc):=⟨⟨d.1.1,d.1.2.drew⟩,d.2⟩;refine gI (S:=fun u=>u.cell? ⟨w.heap.size,0,none⟩=some (.slice a V.length ca)/\u.cell? ⟨w.heap.size,1,none⟩=some (.slice (some ⟨m,f,none⟩) L.length cb)/\u.cell? ⟨w.heap.size,2,none⟩=some (.slice (some ⟨J,E,none⟩) R.length cc)/\u.cell? ⟨m,f+v,none⟩=some (.slice bl pl.length cl)) ao ⟨d.1.1.cells.1,d.1.1.cells.2.1,d.1.1.cells.2.2,(d.1.2.cell (p:=⟨m,f+v,none⟩) fM).trans eO.o⟩ (fun M=>?_);generalize W.drew=u0 at *;refine ar 0 (.agg #[.slice a V.length ca,.slice (some ⟨m,f,none⟩) L.length cb,.slice (some ⟨J,E,none⟩) R.length cc]) ?_;refine ar 2 (.int .i64 (v:Nat)) ?_;refine ar 4 (.pointer (some ⟨w.heap.size,1,none⟩)) ?_;refine ar 5 (.slice (some ⟨m,f,none⟩) L.length cb) ?_;refine ar 6 (.int .i64 (v:Nat)) ?_;refine ar 7 (.pointer (some ⟨m,f+v,none⟩)) ?_;refine ar 8 (.slice bl pl.length cl) ?_;refine aG [1,3] (cA ?_ (cA ?_ aF))
  focus
   intro O q;go_simp;refine(jc.o _ (HI.o.aa d.1.2).vars).af ?_;rintro e uS ⟨G,rfl,xC,ad,Z⟩;(have a6:w.heap.size+2<=G:=by have:=d.2.lt;omega);replace d:=d.step Z;refine q.o _ _ ⟨d.1.1.cells.1,d.1.1.cells.2.1,d.1.1.cells.2.2,(d.1.2.cell (p:=⟨m,f+v,none⟩) fM).trans eO.o⟩ (fun r=>?_);clear Z xC q O M;have M:=r;clear r;refine aG [3] (cA ?_ aF);intro O q;go_simp;have ai:(uS.alloc (.cells #[.int .i64 (v:Int)] 3)).heap[uS.heap.size]? =some (.cells #[.int .i64 (v:Int)] 3 (0,0)):=dB uS _;have bL:G<uS.heap.size:=ad.lt;replace ad:=ad.alloc (.cells #[.int .i64 (v:Int)] 3);(have bA:w.heap.size+2<=uS.heap.size:=by have:=d.2.lt;omega);replace d:=d.step ((au _ uS).alloc (aq _) (.cells #[.int .i64 (v:Int)] 3));refine q.o _ _ ⟨d.1.1.cells.1,d.1.1.cells.2.1,d.1.1.cells.2.2,(d.1.2.cell (p:=⟨m,f+v,none⟩) fM).trans eO.o⟩ (fun r=>?_);generalize (uS.alloc (.cells #[.int .i64 (v:Int)] 3))=u2 at *;generalize uS.heap.size=gb at *
  rotate_left
  focus
   intro O q;go_simp;have ai:(u0.alloc (.cells #[.int .i64 (v:Int)] 3)).heap[u0.heap.size]? =some (.cells #[.int .i64 (v:Int)] 3 (0,0)):=dB u0 _;(have bA:w.heap.size+2<=u0.heap.size:=by have:=d.2.lt;omega);(have bz:u0.heap.size<(u0.alloc (.cells #[.int .i64 (v:Int)] 3)).heap.size:=aE);replace d:=d.step ((au _ u0).alloc (aq _) (.cells #[.int .i64 (v:Int)] 3));refine q.o _ _ ⟨d.1.1.cells.1,d.1.1.cells.2.1,d.1.1.cells.2.2,(d.1.2.cell (p:=⟨m,f+v,none⟩) fM).trans eO.o⟩ (fun r=>?_);generalize (u0.alloc (.cells #[.int .i64 (v:Int)] 3))=u2 at *;generalize u0.heap.size=gb at *;clear q O M;have M:=r;clear r;refine aG [1] (cA ?_ aF);intro O q;go_simp;refine(jc.o _ (HI.o.aa d.1.2).vars).af ?_;rintro e uS ⟨G,rfl,xC,ad,Z⟩;(have a6:w.heap.size+2<=G:=by have:=d.2.lt;omega);(have bL:gb<G:=al);replace d:=d.step Z;replace ai:=(Z.block gb bz).trans ai;refine q.o _ _ ⟨d.1.1.cells.1,d.1.1.cells.2.1,d.1.1.cells.2.2,(d.1.2.cell (p:=⟨m,f+v,none⟩) fM).trans eO.o⟩ (fun r=>?_);clear Z xC
  all_goals
   clear q O M;have M:=r;clear r;refine aG [9] (cA ?_ aF);intro O q;rw[aA (by rfl)];refine adZ _ _ rfl gb (v:Int) pl rfl ai bl cl rfl (De.o.aa d.1.2) PT.o al ?_;intro D cap u3 hD b0 a7 ab;have KE:GK w u3 (.slice a V.length ca) (.slice (some ⟨m,f,none⟩) L.length cb) (.slice (some ⟨J,E,none⟩) R.length cc):=d.grown ab al;have SV:cM u3 G (aw V):=(ab.block G ad.lt (fun e=>by cases e;omega)).trans ad;(have bW:w.heap.size+2<=D:=by have:=d.2.lt;omega);(have bX:D≠G:=by have:=ad.lt;omega);clear d ad ai ab hD;have d:=KE;clear KE;refine q.o _ _ ⟨d.1.1.cells.1,d.1.1.cells.2.1,d.1.1.cells.2.2,(d.1.2.cell (p:=⟨m,f+v,none⟩) fM).trans eO.o⟩ (fun r=>?_);clear q O M;have M:=r;clear r;refine aG [10] (cA ?_ aF);intro O q;go_simp;refine(afY D cap ([(v:Int)]++pl) u3 a7 b0 (by simp;omega)).af ?_;rintro e u4 ⟨rfl,bm,ab⟩;rw[Vo.o] at bm;have KE:GK w u4 (.slice a V.length ca) (.slice (some ⟨m,f,none⟩) L.length cb) (.slice (some ⟨J,E,none⟩) R.length cc):=d.grown ab al;have bJ:cM u4 G (aw V):=(ab.block G SV.lt (fun e=>bX (oP e).symm)).trans SV;clear d SV ab a7;have d:=KE;clear KE;refine q.o _ _ ⟨d.1.1.cells.1,d.1.1.cells.2.1,d.1.1.cells.2.2,(d.1.2.cell (p:=⟨m,f+v,none⟩) fM).trans eO.o⟩ (fun r=>?_);clear q O M;have M:=r;clear r;refine ar 11 (.slice (some ⟨G,0,none⟩) V.length V.length) ?_;refine ar 12 (.slice (some ⟨D,0,none⟩) ([(v:Int)]++pl).length cap) ?_;(try simp only[gE,aP])
   refine dS ao ?_ _;clear M;go_wp2_with fail
   go_meet
   rw[Wc.o];exact⟨G,D,cap,rfl,rfl,a6,bW,bJ,bm,d⟩
 case rest=>
 obtain⟨G,D,cd,rfl,rfl,oG,oD,N9,Ei,d⟩:=hcut;clear kz jX Vo Wc De eO PT jc Wd;have b4:=d.2.lt;obtain⟨P,Q,Y⟩:=d.1.1.cells;have r2:=(d.1.2.cell (p:=⟨J,E+v,none⟩) ab).trans ri.o;have ch:(v:Int)<(R.length:Int):=al
 obtain⟨i1,Co,vp,b7,b8⟩:=dJ Tryz.infoFrac;obtain⟨i0,bM,b9,cf,cg⟩:=dJ Tryz.infoInt;have T9:F.length<=65536:=by rw[fO.o];exact b3
 have HG:=hid d;clear d
 go_wp2_with (first
  |(at_make;refine lj _ rfl _ _ 24 rfl wc.heap.size 42 i1 (.agg #[.bool false,.string ⟨#[]⟩,.string ⟨#[]⟩]) 3 Tryz.underlying24 Co vp b7 .i64 .i64 _ _ F.length rfl rfl b5 b5 (by rw[b8];omega) (by unfold maxLen;omega) (aq _) ?_;intro w3 aC a1;have bT:ef wc w3:=(au _ wc).grown a1 (aq _) (fun k e=>by cases e);have OL:=HG.o.step bT;clear P Q Y r2;obtain⟨P,Q,Y⟩:=OL.1.1.cells)
  |(at_make;refine lj _ rfl _ _ 22 rfl w3.heap.size 3 i0 (.int .i64 0) 1 Tryz.underlying22 bM b9 cf .i64 .i64 _ _ V.length rfl rfl b5 b5 (by rw[cg];omega) (by unfold maxLen;omega) (aq _) ?_;intro w4 pW Ev))
 have an:=Ht aC;rw[Gr] at an;have av:=qg pW;rw[Gq] at av;have fh:ef w3 w4:=(au _ w3).grown Ev (aq _) (fun k e=>by cases e);have lC:eN w3 wc.heap.size (List.replicate F.length zi):=an;have Ay:cM w4 w3.heap.size (List.replicate V.length 0):=av;have bo:=lC.lt;have Ue:=bT.trans (fh.af bT.size)
 have e0:List.replicate V.length 0=pO V.length (fun _=>0):=by
  apply sI<;>simp[pO]
 rw[e0] at Ay;have aO:=N9.lt
 have bk:D<wc.heap.size:=by
  obtain⟨g',o',e,h2,_⟩:=Ei 0 (by have:=bR.o;omega);cases e;exact h2
 have tF:Hid (GV w (.slice a V.length ca) (.slice (some ⟨m,f,none⟩) L.length cb) (.slice (some ⟨J,E,none⟩) R.length cc) G D wc.heap.size w3.heap.size (aw V) U w4 (List.replicate F.length zi) (pO V.length (fun _=>0))):=⟨OL.step fh,N9.aa Ue N9.lt,Ei.aa Ue,lC.aa fh lC.lt,Ay,oG,oD,aO,bk,bo⟩;clear aC a1 pW Ev an av bT fh lC Ay bo Ue e0 aO bk N9 Ei OL HG P Q Y oG oD b4;generalize wc.heap.size=C at *;generalize w3.heap.size=Ab at *;go_wp2_with fail
 go_loopw [56] (fun iv wr=>∃(i:Nat) (A:Nat ->Nat),i<=F.length/\iv=.int .i64 i/\Hid (∀u,¬u∈ag U ->A u=0)/\Hid (GV w (.slice a V.length ca) (.slice (some ⟨m,f,none⟩) L.length cb) (.slice (some ⟨J,E,none⟩) R.length cc) G D C Ab (aw V) U wr (iR F i) (pO V.length A))) (fun iv _=>F.length - (intOf iv).toNat)
 case atStart=>exact⟨0,fun _=>0,aV _,rfl,fun _ _=>rfl,by rw[Ga];exact tF⟩
 case round=>
  obtain⟨i,A,hi,rfl,Qv,H⟩:=hrel;clear tF;by_cases ae:i<F.length
  ·have Tm:i<cnt (aw V) (ag U):=by rw[<- fO.o];exact ae
   go_wp2_with fail
   refine(bu.o _ G D cd i Tm H.o.szs H.o.us).af ?_;rintro e u1 ⟨g5,cn,rfl,bx,Tn,bd⟩;have bN:=H.o.vs.lt;(have bV:g5≠Ab:=al);have jb:=hid (H.o.step bd);have Fl:=hid Tn;clear Tn bd H bx bN;go_wp2_with fail
   go_loopw [68] (fun jv wr=>∃j:Nat,j<=U.length/\jv=.int .i64 j/\Hid (GV w (.slice a V.length ca) (.slice (some ⟨m,f,none⟩) L.length cb) (.slice (some ⟨J,E,none⟩) R.length cc) G D C Ab (aw V) U wr (iR F i) (pO V.length (yU A (aY (aw V) (ag U) i) (ag U) j)))/\Hid (cM wr g5 (mn (aw V) (ag U) i))) (fun jv _=>U.length - (intOf jv).toNat)
   case atStart=>exact⟨0,aV _,rfl,by rw[aiC];exact jb,Fl⟩
   case round=>
    obtain⟨j,hj,rfl,H,Qo⟩:=hrel;clear jb Fl;have cq:=r7.o.length;by_cases ky:j<U.length
    ·obtain⟨l6,mR⟩:=r7.o.nat ky;(have bh:j<(ag U).length:=by rw[gM];exact ky);have Ig:=hid (aiD A (aY (aw V) (ag U) i) V.length bh);have G8:=bp.o i j bh;rw[uY ky] at Ig G8;obtain⟨g',o',e, -,cu⟩:=H.o.us j ky;cases e;rw[bB] at cu;generalize U[j].toNat=u at *;rw[<- l6] at cu;clear l6;obtain⟨Ey,bg⟩:=mH.1 G8;have cv:=Qo.o.cell j Ey;rw[bg] at cv;have cm:=H.o.vs.cell u (by rw[DT];exact mR);have cp:=H.o.vs.fz u;generalize aY (aw V) (ag U) i u=z at *;have az:=hid (H.o.setA u z);rw[Ig.o] at az;have bO:=hid (Qo.o.off Ab u (.int .i64 (z:Nat)) bV);clear G8 bg H Qo;go_wp2;go_roundw
     case rel=>exact⟨j+1,al,b5,az,bO⟩
     case measure=>simp[intOf];omega
    ·obtain rfl:j=U.length:=al
     have X:=H.o;rw[show yU A (aY (aw V) (ag U) i) (ag U) U.length=aY (aw V) (ag U) i by rw[<- gM U];exact aiE Qv.o (ax.o i)] at X;obtain⟨P,Q,Y⟩:=X.gk.1.1.cells;have Ps:=hid X;clear X H Qo;go_wp2_with fail
     refine(LG.o i _ Ab Tm (HI.o.aa Ps.o.gk.1.2) Ps.o.vs).af ?_;rintro e u3 ⟨rfl,dw⟩;have jt:=hid (Ps.o.step dw);clear P Q Y dw Ps;have Kf:=qo.o i ae;have bf:=tK.o i Tm;generalize fg V L R (aY (aw V) (ag U) i) v=fr at *;obtain⟨fn,fx,fy⟩:=fr;replace bf:fx.size+fy.size<=4200:=bf;have hq:F[i]=qF (val fn fx fy):=Kf;have HQ:=hid hq;clear Kf hq;go_wp2_with fail
     refine(Qw (n:=fn) (x:=fx) (y:=fy) (w:=u3) (val fn fx fy) rfl al).af ?_;rintro e u5 ⟨rfl,iZ⟩;have tD:=hid (jt.o.step iZ);clear iZ jt;have ay:=hid (Gb F ae);rw[HQ.o] at ay;obtain⟨k0,k1,k2⟩:=tD.o.cs.cells i (by rw[wM _ hi];exact ae);have f0:=tD.o.cs.fz (i*3);have f1:=tD.o.cs.fz (i*3+1);have f2:=tD.o.cs.fz (i*3+2);generalize (iR F i)[i]'(by rw[wM _ hi];exact ae)=zf at *;obtain⟨zn,zx,zy⟩:=zf;simp only at k0 k1 k2;have HP:=hid (tD.o.setC i (qF (val fn fx fy)));rw[ay.o] at HP;generalize val fn fx fy=qq at *;go_wp2;go_roundw
     case rel=>exact⟨i+1,_,al,b5,ax.o i,HP⟩
     case measure=>simp[intOf];omega
  ·obtain rfl:i=F.length:=al
   have X:=H.o;rw[Gc] at X;obtain⟨k0,k1,f0,f1⟩:=X.gk.2.facts;have h1:=X.oD;have h2:=X.oDC;clear H;go_wp2;refine cj ((X.gk.2.put _ _).result2 rfl _ rfl) rfl ?_;exact⟨⟨some ⟨D,0,none⟩,some ⟨C,0,none⟩,cd,F.length,rfl,(X.us.far _ _ _ al).far _ _ _ al,((X.cs.off _ _ _ al).off _ _ _ al).fr,ij.at al,ij.at al⟩,o9 X.gk.1.2 al _ _⟩
theorem aid (a b c:Option Addr) (ca cb cc:Nat) (V:List Vr) (L:List (List Int)) (R:List (List Fr)) (w:World) (h:lO w a b c V L R) (s:xP V L R)
  (ab:L.length=V.length ->R.length=V.length ->bZ L=0 ->oQ V=0 ->∀U:World,lO U a b c V L R ->du 92 #[.agg #[.slice a V.length ca,.slice b L.length cb,.slice c R.length cc]] U fun e w'=>e=.returned (.int .i64 (jr (lp (aw V) L R) V.length))/\ef U w'):
  du 50 #[.agg #[.slice a V.length ca,.slice b L.length cb,.slice c R.length cc]] w (eS w (.int .i64 (bH V L R))):=by
 have I:=hid h;have Kr:=s.vars.1;have ah:=s.pars.1;have ai:=s.rows.1;have q:Hid (¬(L.length=V.length/\R.length=V.length) ->bH V L R=8):=fun h=>aD h;have S:Hid (L.length=V.length ->R.length=V.length ->bZ L≠0 ->bH V L R=bZ L):=fun m n p=>by rw[bH,aA ⟨m,n⟩,aD p]
 have P:Hid (L.length=V.length ->R.length=V.length ->bZ L=0 ->oQ V≠0 ->bH V L R=oQ V):=fun m n p J=>by rw[bH,aA ⟨m,n⟩,aA p,aD J]
 have Y:Hid (L.length=V.length ->R.length=V.length ->bZ L=0 ->oQ V=0 ->bH V L R=jr (lp (aw V) L R) V.length):=fun m n p J=>by rw[bH,aA ⟨m,n⟩,aA p,aA J]
 have X:=hid (fun (U:World) (M:gW U b L)=>akJ b cb L U M (fun l hl=>by have:=s.pars.2 l hl;omega));have Z:=hid (fun (U:World) (M:vL U a V)=>amd a ca V U M s.vars);have Q:=hid ab;generalize bH V L R=ne at *;clear h s ab;have k:=hid (NK.new w (.slice a V.length ca) (.slice b L.length cb) (.slice c R.length cc));obtain⟨f,g,i⟩:=k.o.1.cells;by_cases r:L.length=V.length
 ·by_cases u:R.length=V.length
  ·have O:((L.length:Int) !=(V.length:Int))=false:=by rw[r];simp
   (have ad:((R.length:Int) !=(V.length:Int))=false:=by rw[u];simp);have y:=hid (S.o r u);have E:=hid (P.o r u);have x:=hid (Y.o r u);have A:=hid (Q.o r u);clear r u q S P Y Q;generalize jr (lp (aw V) L R) V.length=fe at *;generalize bZ L=ge at *;generalize oQ V=T at *;go_enter Tryz.func50,Tryz.ntmps50;go_wp2_with fail
   generalize (w.alloc (NC (.slice a V.length ca) (.slice b L.length cb) (.slice c R.length cc)))=w1 at *;refine(X.o _ (I.o.aa k.o.2).pars).af ?_;rintro e w2 ⟨rfl,d⟩;have K:=k.o.step d;clear d k f g i O ad X;obtain⟨f,g,i⟩:=K.1.cells;by_cases t:ge=0
   ·subst t;have D:=hid (E.o rfl);have F:=hid (x.o rfl);have z:=hid (A.o rfl);have j:=hid K;clear y E x A K;go_wp2_with fail
    refine(Z.o _ (I.o.aa j.o.2).vars).af ?_;rintro e w3 ⟨rfl,d⟩;have K:=j.o.step d;clear d j f g i Z;obtain⟨f,g,i⟩:=K.1.cells;by_cases v:T=0
    ·subst v;have H:=hid (F.o rfl);have ae:=hid (z.o rfl);have j:=hid K;clear D F z K;go_wp2_with fail
     refine(ae.o _ (I.o.aa j.o.2)).af ?_;rintro e w4 ⟨rfl,d⟩;have K:=j.o.step d;clear f g i d;go_wp2;go_ret;exact⟨by rw[H.o];rfl,K.2⟩
    ·have H:=hid (D.o v);(have uj:(T==0)=false:=by simpa using v);clear v D F z f g i;go_wp2;go_ret;exact⟨by rw[H.o];rfl,K.2⟩
   ·have H:=hid (y.o t);(have aj:(ge==0)=false:=by simpa using t);clear t y E x A f g i;go_wp2;go_ret;exact⟨by rw[H.o];rfl,K.2⟩
  ·have H:=hid (q.o fun h=>u h.2);(have O:((L.length:Int) !=(V.length:Int))=false:=by rw[r];simp)
   have ad:((R.length:Int) !=(V.length:Int))=true:=by
    (have:¬(R.length:Int)=(V.length:Int):=al);simpa using this
   clear r u q Q;go_enter Tryz.func50,Tryz.ntmps50;go_wp2;go_ret;exact⟨by rw[H.o];rfl,k.o.2⟩
 ·have H:=hid (q.o fun h=>r h.1)
  have O:((L.length:Int) !=(V.length:Int))=true:=by
   (have:¬(L.length:Int)=(V.length:Int):=al);simpa using this
  clear r q Q;go_enter Tryz.func50,Tryz.ntmps50;go_wp2;go_ret;exact⟨by rw[H.o];rfl,k.o.2⟩
section
attribute [local go_sem] Oper.semAt_some
def zu (Bs Bk B:Nat) (V V':World):Prop:=oF Bs V V'/\oF Bk V V'/\Below B V V'
theorem zu.t {s a B:Nat} {X Y Z:World} (h:zu s a B X Y) (k:zu s a B Y Z):zu s a B X Z:=⟨h.1.t k.1,h.2.1.t k.2.1,h.2.2.trans k.2.2⟩
theorem zu.b {s k B:Nat} (f:s<w.heap.size) (e:k<w.heap.size) (d:B<=w.heap.size) (V:World) (l:Nat) (o o':Obj) (c:w.heap.size<=l) (h1:V.heap[l]? =some o) (h:o.isCells=false) (a:o.isWalk=false):zu s k B V (V.putObj l o'):=
 ⟨oF.b f V l o o' c h1 h a,oF.b e V l o o' c h1 h a,uP d V l o o' c h1 h a⟩
theorem grown_drew (w:World):w.grownBy w.drew none:=⟨rfl,rfl,rfl,aq _,fun _ _ _=>rfl⟩
abbrev zL (N:Nat):Type:= {i:Nat//i<N}
abbrev UO (gf fK k N:Nat) (x:zL N):Array Value:= #[.slice (some ⟨gf,fK+x.1*k*3,none⟩) k k]
theorem amb (n:Nat) (hn:1<=n) (l s a B gf f cap k N T:Nat) (h:T=N*k) (hk:1<=k) (ai:k<=4) (M:N<=65536) (od:T<=cap) (J d:List (zL N) ->World ->Prop) (L:∀p V,J p V ->J p V.drew)
  (Y:∀p x V,J p V ->p.length< N ->YieldAt Fence.wide (n - 1) Tryz.prog l (UO gf f k N x) V fun e V'=>
   (e=.returned (.bool true)/\J (p++[x]) V'/\zu s a B V V')∨(e=.returned (.bool false)/\d (p++[x]) V'))
  (V:World) (Z:V.cell? ⟨s,0,none⟩=some (.slice (some ⟨gf,f,none⟩) T cap)) (z:V.cell? ⟨a,0,none⟩=some (.int .i64 (k:Nat))) (h0:J [] V):
  CallsIn Fence.wide n Tryz.prog 188 #[.func (.yield l) #[] #[],.pointer (some ⟨s,0,none⟩),.pointer (some ⟨a,0,none⟩)] V fun e V'=>(∃v,e=.returned v)/\
   ((∃y:List (zL N),y.map (·.1)=List.range N/\J y V')∨(∃p:List (zL N),(∃j,j<=N/\p.map (·.1)=List.range j)/\d p V')):=by
 refine FO Tryz.func188 rfl trivial ?_ rfl;simp only[Tryz.ntmps188,nJ,ew,mG,Nat.reduceAdd,Nat.reduceSub,nR,nQ,nK,mI,jy,fG];have r:=hid h;have Kt:T<=262144:=by rw[h];exact aR (iO M ai) bd
 clear h;gi_wp2
 gi_loopw [4] (fun i wr=>∃(j:Nat) (p:List (zL N)),j<=N/\i=.int .i64 (j*k:Nat)/\Hid (p.map (·.1)=List.range j)/\J p wr/\wr.cell? ⟨s,0,none⟩=some (.slice (some ⟨gf,f,none⟩) T cap)/\wr.cell? ⟨a,0,none⟩=some (.int .i64 (k:Nat)))
  (fun i _=>T - (intOf i).toNat)
 case atStart=>exact⟨0,[],aV _,by rw[jO];rfl,rfl,h0,Z,z⟩
 case round=>
  obtain⟨j,p,hj,rfl,H,b,X,A⟩:=hrel;by_cases t:j<N
  ·have av:p.length=j:=by have:=dh List.length H.o;rwa [dM,wD] at this
   (have S:Hid ((p++[(⟨j,t⟩:zL N)]).map (·.1)=List.range (j+1)):=by show _=_;rw[eP,H.o,qC];rfl);(have Q:(j+1)*k<=T:=by rw[r.o];exact lS k t);(have g:(j+1)*k=j*k+k:=by rw[fF,jP]);have F:Hid ((j+1)*k=j*k+k):=g;(have ao:j*k+k<=T:=al);have D:Hid (j*k=j*k):=rfl;clear g Q;have K:=fun W P=>Y p ⟨j,t⟩ W P al;simp only[UO] at K;generalize Uc:j*k=lo at *;have aa:=hid K;clear K D;have Wm:=hid Uc;clear Uc;(have an:¬cap=lo:=al);(have iW:lo<=T:=al);(have ab:min (k:Int) ((T - lo:Nat):Int)=(k:Int):=al);gi_wp2
   gi_region
   have ah:=L p wr b;have m:wr.drew.cell? ⟨s,0,none⟩=some (.slice (some ⟨gf,f,none⟩) T cap):=X;have u:wr.drew.cell? ⟨a,0,none⟩=some (.int .i64 (k:Nat)):=A;clear X A b ab;generalize wr.drew=U at *;obtain⟨fn,aO,aS,aC,hy,R⟩:=aa.o U ah;have w:=hid R;clear R;(have ax:IntKind.i64.wrap ((lo:Int)+(k:Int))=((lo+k:Nat):Int):=by rw[fj];omega);(have kz:(lo+k:Nat) - lo=k:=al);(have ay:((lo+k:Nat):Int)<=(cap:Int):=al);generalize hhi:lo+k=q at *;(have az:lo<=q:=al);have I:=hid hhi;clear hhi;gi_wp2
   refine w.o.af ?_;rintro e W3 (⟨rfl,ae,c⟩ |⟨rfl,aj⟩)
   ·have O:=Eq.trans c.1 m;have ad:=Eq.trans c.2.1 u;have E:Hid ((j+1)*k=q):=F.o;(have aE:lo<q:=by have:=I.o;omega);(have ak:q<=T:=by have:=I.o;omega);clear m u c;gi_wp2
    go_roundw
    case rel=>exact⟨j+1,_,al,by rw[E.o],S,ae,O,ad⟩
    case measure=>simp[intOf];omega
   ·gi_wp2
    refine cj (results_none rfl _ _ _) rfl ?_;exact⟨⟨_,rfl⟩,.inr ⟨_,⟨j+1,al,S.o⟩,aj⟩⟩
  ·obtain rfl:j=N:=al
   rw[<- r.o];gi_wp2
   go_end0
   exact⟨⟨_,rfl⟩,.inl ⟨_,H.o,b⟩⟩
theorem ama (n:Nat) (a:Option Addr) (T cap k:Nat) (h:1<=k) (w:World):
  CallsIn Fence.wide n Tryz.prog 132 #[.slice a T cap,.int .i64 (k:Nat)] w fun e w'=>e=.returned (.func (.func 188) #[] #[.pointer (some ⟨w.heap.size,0,none⟩),.pointer (some ⟨w.heap.size+1,0,none⟩)])/\w'=(w.alloc (.cells #[.slice a T cap] 24)).alloc (.cells #[.int .i64 (k:Nat)] 3):=by
 refine FO Tryz.func132 rfl trivial ?_ rfl;simp only[Tryz.ntmps132,nJ,ew,mG,Nat.reduceAdd,Nat.reduceSub,nR,nQ,nK,mI,jy,fG];have b:(1:Int)<=(k:Int):=al
 gi_wp2
 go_ret;exact⟨rfl,rfl⟩
theorem al9 (n:Nat) (t:1<=n) (s a B gf f cap k N T:Nat) (m:T=N*k) (q:1<=k) (v:k<=4) (i:N<=65536) (u:T<=cap) (w:World) (D:s<w.heap.size) (H:a<w.heap.size) (h1:w.cell? ⟨s,0,none⟩=some (.slice (some ⟨gf,f,none⟩) T cap)) (d:w.cell? ⟨a,0,none⟩=some (.int .i64 (k:Nat))):
  SeqStopsK Fence.wide n Tryz.prog 188 #[.pointer (some ⟨s,0,none⟩),.pointer (some ⟨a,0,none⟩)] (UO gf f k N) (zu s a B) (fun y=>y.map (·.1)=List.range N) (fun b=>∃j,j<=N/\b.map (·.1)=List.range j) N w:=fun l J x V h g _ Y c=>
 amb n t l s a B gf f cap k N T m q v i u J x (fun b U o=>g b U U.drew none o (grown_drew U) (fun r e=>by cases e)) Y V ((h.cell (p:=⟨s,0,none⟩) D).trans h1) ((h.cell (p:=⟨a,0,none⟩) H).trans d) c
end
section
attribute [local go_sem] Oper.semAt_some
variable {ds:List Deferred}
theorem Rv {k:Int} (h:Boxed w g 34 (.int .i64 k)) {p:Tmp} (r:fn.results= #[.cell p 34]) (m:Array Value) (a:m.getD p undef=.pointer (some ⟨g,0,none⟩)):(results fn m).run Tryz.prog w=.ok (.int .i64 k) w:=by
 have b:m[p]?.getD undef=.pointer (some ⟨g,0,none⟩):=by simpa using a
 have c:=h.cell;simp only[results,r];simp[b,asAddr];go_simp
theorem acP (h:ef V V'):KeepsOthers V V':=⟨h.size,fun k _ a _=>(h.block k (cJ.1 a).1).trans a⟩
theorem ahd {β:Type} {n B:Nat} {Q:β ->World ->Prop} (c:n<=B):OwnFrom B (fun (s:β) W=>∃V,Q s V/\n<=V.heap.size/\Below n V W):=fun s W W' o d g r=>by
 obtain⟨V,b,h,a⟩:=d;exact⟨V,b,h,a.grown g (aR h a.size) (fun k e=>aR c (r k e).1)⟩
def nG (w:World) (k:Int) (W:World):Prop:=Boxed W (w.heap.size+1) 34 (.int .i64 k)/\ef w W
theorem nG.shut {k:Int} (l:w.heap.size+1<lo) (W:World) (r:Nat) (h:nG w k W) (a:lo<=r) (d:W.heap[r]? =some (.deferred (some []))):nG w k (W.putObj r (.deferred none)):=
 ⟨(yj al).trans h.1,h.2.trans (uP (w:=w) (aq _) W r _ _ al d rfl rfl)⟩
theorem nG.put {W:World} {k:Int} (h:nG w k W) (j:Int):nG w j (W.setCell ⟨w.heap.size+1,0,none⟩ (.int .i64 j)):=⟨h.1.set _,h.2.setCell (p:=⟨w.heap.size+1,0,none⟩) aE _⟩
theorem Shut.put {B:Nat} {W:World} (h:Shut lo B ds W) (i:g<lo) (v:Value):Shut lo B ds (W.setCell ⟨g,0,none⟩ v):=by
 induction ds generalizing B with
 |nil=>trivial
 |cons d ds ih=>
  obtain⟨r,a,b,c,e,f⟩:=h;exact⟨r,a,b,c,(fQ W ⟨g,0,none⟩ v r (by show r≠g;omega)).trans e,ih f⟩
theorem ame (a b c:Option Addr) (ca cb cc:Nat) (V:List Vr) (L:List (List Int)) (R:List (List Fr)) (w:World) (h:lO w a b c V L R) (hs:xP V L R) (rW:L.length=V.length) (xu:R.length=V.length) (hg:bZ L=0) (hv:oQ V=0):
  du 92 #[.agg #[.slice a V.length ca,.slice b L.length cb,.slice c R.length cc]] w (eS w (.int .i64 (jr (lp (aw V) L R) V.length))):=by
 refine(ix (n:=6)).1 ?_;obtain⟨aS,b3,O⟩:=ab4 rW hg hv;have HI:=hid h;have Kr:=hs.vars.1;have E2:=hid hs.rows.2;have cS:=hid aS;have lQ:=hid O;have jc:=hid (fun (U:World) (hU:vL U a V)=>NB a b c ca cb cc L.length R.length V U hU Kr);have HA:Hid (∀i,i<V.length ->(∀j,j< i ->lp (aw V) L R j=0) ->∀k,lp (aw V) L R i=k ->k≠0 ->jr (lp (aw V) L R) V.length=k):=fun i S hz k hk br=>by rw[KS hz (by rw[hk];exact br) S,hk]
 have HZ:Hid ((∀j,j<V.length ->lp (aw V) L R j=0) ->jr (lp (aw V) L R) V.length=0):=fun h=>CU h;have x7:=hid rW;have A2:=hid xu;generalize jr (lp (aw V) L R) V.length=fe at *;clear h hs aS O rW xu hg hv;have T6:NK w ((w.alloc (NC (.slice a V.length ca) (.slice b L.length cb) (.slice c R.length cc))).alloc (.cells #[.int .i64 0] 34)) (.slice a V.length ca) (.slice b L.length cb) (.slice c R.length cc):=(NK.new w (.slice a V.length ca) (.slice b L.length cb) (.slice c R.length cc)).step ((au _ _).alloc (aq _) _)
 have aC:Boxed ((w.alloc (NC (.slice a V.length ca) (.slice b L.length cb) (.slice c R.length cc))).alloc (.cells #[.int .i64 0] 34)) (w.heap.size+1) 34 (.int .i64 0):=by
  have h:=a8 (w.alloc (NC (.slice a V.length ca) (.slice b L.length cb) (.slice c R.length cc))) 34 (.int .i64 0);rwa [dE] at h
 have eo:=hid T6;have Wq:=hid aC;obtain⟨c0,c1,c2⟩:=T6.1.cells;clear T6 aC;refine uN Tryz.func92 rfl trivial ?_ rfl;simp only[Tryz.ntmps92,nJ,ew,mG,Nat.reduceAdd,Nat.reduceSub,nR,nQ,nK,mI,jy,fG];gi_wp2_with (refine⟨trivial,?_⟩;gi_at_call 26;refine(ix.2 (jc.o _ (HI.o.aa eo.o.2).vars)).af ?_;rintro e s ⟨G,rfl,xC,bc,g⟩;have ai:=eo.o.step g;have kA:=(g.block (w.heap.size+1) (cJ.1 Wq.o).1).trans Wq.o;clear c0 c1 c2;obtain⟨c0,c1,c2⟩:=ai.1.cells)
 clear g;have L9:=hid ai;have rq:Hid (Boxed s (w.heap.size+1) 34 (.int .i64 0)):=kA;have E3:=hid bc;have OM:w.heap.size+1<s.heap.size:=(cJ.1 kA).1;clear ai kA bc c0 c1 c2 eo Wq jc xC;refine wpIn_loop (fun a' w'=>∃(v:Nat) (ds:List Deferred) (u4 u5 u6 u7 u15 u16 Jk Jj FY Xu Xt Xs u23 u24 Ji u26 Jh u28 z7 Jg Jf u32 u33 Xr Xq u36 Xp u38 Xo Xn Xm Xl FX Q4:Value),a'= {tmps:= #[.agg #[.slice a V.length ca,.slice b L.length cb,.slice c R.length cc],.pointer (some ⟨w.heap.size,0,none⟩),.pointer (some ⟨w.heap.size+1,0,none⟩),.slice (some ⟨G,0,none⟩) V.length V.length,u4,u5,u6,u7,undef,.agg #[.slice a V.length ca,.slice b L.length cb,.slice c R.length cc],.slice (some ⟨G,0,none⟩) V.length V.length,.pointer (some ⟨w.heap.size,2,none⟩),.slice c R.length cc,.int .i64 (R.length:Nat),.int .i64 (v:Nat),u15,u16,Jk,Jj,FY,Xu,Xt,Xs,u23,u24,Ji,u26,Jh,u28,z7,Jg,Jf,u32,u33,Xr,Xq,u36,Xp,u38,Xo,Xn,Xm,Xl,FX,undef,undef,undef,undef,Q4],defers:=ds}/\v<=R.length/\Hid (∀j,j< v ->lp (aw V) L R j=0)/\Hid (ef s w')/\Hid (Shut s.heap.size w'.heap.size ds w')) (fun a' _=>R.length - (intOf (a'.tmps.getD 14 undef)).toNat) ?_ ?_
 ·exact⟨0,[],_,_,_,_,_,_,_,_,_,_,_,_,_,_,_,_,_,_,_,_,_,_,_,_,_,_,_,_,_,_,_,_,_,_,rfl,aV _,(fun j hj=>absurd hj al),au _ _,trivial⟩
 intro a' wr bO;obtain⟨v,ds,u4,u5,u6,u7,u15,u16,Jk,Jj,FY,Xu,Xt,Xs,u23,u24,Ji,u26,Jh,u28,z7,Jg,Jf,u32,u33,Xr,Xq,u36,Xp,u38,Xo,Xn,Xm,Xl,FX,Q4,rfl,hv,AX,H,jK⟩:=bO;have bx:s.heap.size<=wr.heap.size:=H.o.size;by_cases ad:v<R.length
 ·have E:=L9.o.step H.o;have M:=E3.o.aa H.o E3.o.lt;have fp:v<L.length:=by rw[x7.o, <- A2.o];exact ad
  have Cb:v<V.length:=by rw[<- A2.o];exact ad
  obtain⟨gr,dG,bf,q,rfl,bo,r1,JP,wV⟩:=HI.o.rows v ad;obtain⟨gp,fZ,bp,cp,rfl,fM,p1,nY⟩:=HI.o.pars v fp;obtain⟨c0,c1,c2⟩:=E.1.cells;have r2:=(E.2.cell (p:=⟨gr,dG+v,none⟩) bo).trans r1;have p2:=(E.2.cell (p:=⟨gp,fZ+v,none⟩) fM).trans p1;have P:(aw V).length=V.length:=oT V;have O:Up L[v] V.length:=by rw[<- x7.o];exact lQ.o v fp
  have ku:∀u,sz (aw V) u<=4:=fun u=>by have:=cS.o.sz_le u;rwa [jC] at this
  have dN:Pos (aw V):=by have:=cS.o.pos;rwa [jC] at this
  have hN:cnt (aw V) (ag L[v])<=65536:=vJ ku (by rw[gM];have:=O.length;have:=x7.o;omega);have CH:1<=cnt (aw V) (ag L[v]):=K4 dN _;have a1:=ku v;have G4:=nT dN v;have sR:=M.cell v (by rw[P];exact Cb);have a7:(aw V)[v]'(by rw[P];exact Cb)=sz (aw V) v:=by rw[sz,bj (by rw[P];exact Cb)];rfl
  rw[a7] at sR;have b4:=O.length
  have wk:Hid (CallsIn Fence.wide 5 Tryz.prog 27 #[.slice (some ⟨G,0,none⟩) V.length V.length,.slice bp L[v].length cp] wr fun e w'=>e=.returned (.tuple #[.int .i64 (cnt (aw V) (ag L[v]):Nat),.int .i64 0])/\ef wr w'):=by
   have bm:countB (iL (aw V)) L[v]=true:=K3 cS.o (by rw[bI,P];exact O);have hc:=MZ (some ⟨G,0,none⟩) bp V.length cp (iL (aw V)) L[v] wr M.ints (nY.aa E.2) (by rw[bI,P];have:=x7.o;omega) (by have:=x7.o;omega);rw[Pb bm,jC,bI,P] at hc;exact ix.2 hc
  have E4:Hid (lp (aw V) L R v=if R[v].length=cnt (aw V) (ag L[v])*sz (aw V) v then(if ((List.range (cnt (aw V) (ag L[v]))).all fun i=>dt (gH R[v] (sz (aw V) v) i))=true then 0 else 9) else 8):=by
   show _=_;rw[lp,bY,bj ad,bY,bj fp];rfl
  have LD:=hid (JP.aa E.2);have GQ:=E2.o R[v] (bF ad);have ax:=hid (HA.o v Cb AX.o);generalize L[v]=pl at *;generalize R[v]=r at *;have Et:pl.length<=8:=by have:=x7.o;omega
  clear JP r1 p1 nY O ku dN a7 P;generalize hkk:sz (aw V) v=k at *;generalize cnt (aw V) (ag pl)=N at *;clear hkk;have bl:N*k<=262144:=aR (iO hN a1) bd;have an:(N:Int)*(k:Int)=((N*k:Nat):Int):=(lW _ _).symm;have bM:IntKind.i64.wrap ((N:Int)*(k:Int))=((N*k:Nat):Int):=by rw[an,fj];omega
  have bV:=hid an;clear an;by_cases hT:r.length=N*k
  ·rw[aA hT] at E4;rw[<- hT] at bM;have bu:k<=N*k:=Dz k CH;(have lB:0<r.length:=al);obtain⟨f,fK,rfl,Cr, -⟩:=LD.o 0 lB;have Lr:=hid hT;clear hT bl bu;have b1:r.length<=5000:=GQ.1;(have bz:((r.length:Int) !=(r.length:Int))=false:=aE)
   gi_wp2_with (first
    |(refine⟨trivial,?_⟩;gi_at_call 27;refine wk.o.af ?_;rintro e d ⟨rfl,g⟩;have ah:=E.step g;have bA:=M.aa g M.lt;have ay:=(g.cell (p:=⟨G,v,none⟩) M.lt).trans sR;clear c0 c1 c2 r2 p2 sR)
    |(refine⟨trivial,?_⟩;gi_at_call 132;refine(ama _ _ _ _ k G4 _).af ?_;rintro e y ⟨rfl,rfl⟩))
   (have bX:((d.alloc (.cells #[.slice (some ⟨f,fK,none⟩) r.length q] 24)).alloc (.cells #[.int .i64 (k:Nat)] 3)).heap.size=d.heap.size+1+1:=aE);have aj:((d.alloc (.cells #[.slice (some ⟨f,fK,none⟩) r.length q] 24)).alloc (.cells #[.int .i64 (k:Nat)] 3)).cell? ⟨d.heap.size,0,none⟩=some (.slice (some ⟨f,fK,none⟩) r.length q):=((a8 d 24 (.slice (some ⟨f,fK,none⟩) r.length q)).alloc _).cell
   have ak:((d.alloc (.cells #[.slice (some ⟨f,fK,none⟩) r.length q] 24)).alloc (.cells #[.int .i64 (k:Nat)] 3)).cell? ⟨d.heap.size+1,0,none⟩=some (.int .i64 (k:Nat)):=by
    have h:=(a8 (d.alloc (.cells #[.slice (some ⟨f,fK,none⟩) r.length q] 24)) 3 (.int .i64 (k:Nat))).cell;rwa [dE] at h
   have TE:ef d ((d.alloc (.cells #[.slice (some ⟨f,fK,none⟩) r.length q] 24)).alloc (.cells #[.int .i64 (k:Nat)] 3)):=((au _ d).alloc (aq _) _).alloc aE _;generalize ((d.alloc (.cells #[.slice (some ⟨f,fK,none⟩) r.length q] 24)).alloc (.cells #[.int .i64 (k:Nat)] 3))=y at *;have ku:=g.size;have T4:=ah.step TE;have rO:ef wr y:=g.trans (TE.af ku);have bg:=hid (LD.o.aa rO);have az:=hid ((jK.o.aa rO).af (show wr.heap.size<=y.heap.size by omega));have Fv:Hid (nG w 0 y):=⟨(rO.block (w.heap.size+1) al).trans ((H.o.block (w.heap.size+1) OM).trans rq.o),T4.2⟩;have Fh:=hid T4;have dI:=hid (H.o.trans (rO.af bx));clear g ah bA ay TE E M T4 wk E3 H jK LD rO
   refine Mr (α:=zL N) rfl al (gf:=188) (lb:= #[.pointer (some ⟨d.heap.size,0,none⟩),.pointer (some ⟨d.heap.size+1,0,none⟩)]) rfl trivial (enters_of Tryz.func188 ao rfl)
    (al9 5 al d.heap.size (d.heap.size+1) y.heap.size f fK q k N r.length Lr.o G4 a1 hN wV y al al aj ak) zu.t (zu.b al al (aq _)) (au _ _) (fun _=>rfl)
    (fun (T:List (zL N)) X=>ef y X/\∀x∈T,dt (gH r k x.1)=true)
    (fun cd (T:List (zL N)) X=>∃Y,(cd=Code.ret/\(∃x∈T,dt (gH r k x.1)=false)/\nG w 9 Y/\Shut s.heap.size y.heap.size ds Y)/\y.heap.size<=Y.heap.size/\Below y.heap.size Y X)
    (fP (zM (aq _) (aq _)) (fun _ _ _ _ hs _ _=>hs))
    (fun cd=>ahd (Q:=fun (T:List (zL N)) Y=>cd=Code.ret/\(∃x∈T,dt (gH r k x.1)=false)/\nG w 9 Y/\Shut s.heap.size y.heap.size ds Y) (aq _))
    ⟨au _ _,fun x A=>absurd A aE⟩
    (fun x=> {tmps:= #[.agg #[.slice a V.length ca,.slice (some ⟨gp,fZ,none⟩) L.length cb,.slice (some ⟨gr,dG,none⟩) R.length cc],.pointer (some ⟨w.heap.size,0,none⟩),.pointer (some ⟨w.heap.size+1,0,none⟩),.slice (some ⟨G,0,none⟩) V.length V.length,.int .i64 (v:Nat),.slice (some ⟨f,fK,none⟩) r.length q,.int .i64 (N:Nat),.int .i64 0,.slice (some ⟨f,fK+x.1*k*3,none⟩) k k,.agg #[.slice a V.length ca,.slice (some ⟨gp,fZ,none⟩) L.length cb,.slice (some ⟨gr,dG,none⟩) R.length cc],.slice (some ⟨G,0,none⟩) V.length V.length,.pointer (some ⟨w.heap.size,2,none⟩),.slice (some ⟨gr,dG,none⟩) R.length cc,.int .i64 (R.length:Nat),.int .i64 (v:Nat),.bool true,.int .i64 (v:Nat),.pointer (some ⟨gr,dG+v,none⟩),.slice (some ⟨f,fK,none⟩) r.length q,.tuple #[.int .i64 (N:Nat),.int .i64 0],.slice (some ⟨G,0,none⟩) V.length V.length,.pointer (some ⟨w.heap.size,1,none⟩),.slice (some ⟨gp,fZ,none⟩) L.length cb,.int .i64 (v:Nat),.pointer (some ⟨gp,fZ+v,none⟩),.slice bp pl.length cp,.tuple #[.int .i64 (N:Nat),.int .i64 0],.int .i64 (N:Nat),.int .i64 0,.slice (some ⟨f,fK,none⟩) r.length q,.int .i64 (r.length:Nat),.int .i64 (N:Nat),.slice (some ⟨G,0,none⟩) V.length V.length,.int .i64 (v:Nat),.pointer (some ⟨G,v,none⟩),.int .i64 (k:Nat),.int .i64 (r.length:Nat),.bool false,.slice (some ⟨f,fK,none⟩) r.length q,.slice (some ⟨G,0,none⟩) V.length V.length,.int .i64 (v:Nat),.pointer (some ⟨G,v,none⟩),.int .i64 (k:Nat),.func (.func 188) #[] #[.pointer (some ⟨d.heap.size,0,none⟩),.pointer (some ⟨d.heap.size+1,0,none⟩)],.slice (some ⟨f,fK+x.1*k*3,none⟩) k k,undef,undef,undef,Q4],defers:=[]}) ?assign ?body ?done ?stop
   case assign=>
    intro l x X K J;gi_wp2
    exact J
   case body=>
    rintro l T ⟨i,S⟩ X ⟨F,ae⟩ bR;(have bb:(i+1)*k<=r.length:=by rw[Lr.o];exact lS k S);obtain⟨Kg,a6⟩:=aW.chunk (m:=k) (bg.o.aa F) bb rfl;have Tk:=ai0 (some ⟨f,fK+i*k*3,none⟩) k (gH r k i) X Kg (aR (akS r k i) GQ.2) al;rw[a6] at Tk;have TM:=F.size;have zE:=hid Tk;have qu:=hid F;have sB:=hid ae;clear Tk Kg a6 bb F ae aj ak bR;cases sS:dt (gH r k i)
    case true=>
     rw[sS] at zE;have H6:=hid sS;clear sS;gi_wp2_with (refine⟨trivial,?_⟩;gi_at_call 133;refine(MM l (ix.2 zE.o)).af ?_;rintro e X2 ⟨rfl,I⟩)
     refine⟨(acP I).from _,⟨I.cell (p:=⟨d.heap.size,0,none⟩) (by show d.heap.size<X.heap.size;omega),I.cell (p:=⟨d.heap.size+1,0,none⟩) (by show d.heap.size+1<X.heap.size;omega),I.af TM⟩,qu.o.trans (I.af TM),fun x A=>?_⟩;rcases ck.1 A with A |A
     ·exact sB.o x A
     ·rw[dT.1 A];exact H6.o
    case false=>
     rw[sS] at zE;have H6:=hid sS;clear sS;gi_wp2_with (refine⟨trivial,?_⟩;gi_at_call 133;refine(MM l (ix.2 zE.o)).af ?_;rintro e X2 ⟨rfl,I⟩;have ab:=qu.o.trans (I.af TM);have z:=(ab.block (w.heap.size+1) al).trans Fv.o.1;have o6:=Boxed.cell z;have Ke:=Boxed.frozen z)
     have bk:nG w 9 (X2.setCell ⟨w.heap.size+1,0,none⟩ (.int .i64 9)):=nG.put (k:=0) ⟨z,Fv.o.2.trans (ab.af al)⟩ 9;refine⟨((acP I).trans (kh X2 _ _)).from _,_,⟨rfl,⟨⟨i,S⟩,aE,H6.o⟩,bk,(az.o.aa ab).put al _⟩,?_,au _ _⟩;have bW:=I.size;simp;omega
   case done=>
    rintro D ys X hD Ca ⟨F,ae⟩ J
    have PC:Hid (lp (aw V) L R v=0):=by
     show _=_;rw[E4.o,aA];rw[iQ];intro i S;rw[<- Ca] at S;obtain⟨x,A,rfl⟩:=ba.1 S;exact ae x A
    have AD:D<X.heap.size:=(cJ.1 J).1;have ab:=dI.o.trans (F.af al);have aO:Shut s.heap.size X.heap.size ({target:=.collected D,args:= #[]}::ds) X:=⟨D,al,AD,rfl,J,(az.o.aa F).af hD⟩;have qu:=hid ab;have EY:=hid aO;clear J ae Ca ab aO aj ak F;gi_wp2
    refine⟨⟨v+1,_,_,_,_,_,_,_,_,_,_,_,_,_,_,_,_,_,_,_,_,_,_,_,_,_,_,_,_,_,_,_,_,_,_,_,rfl,al,(fun j hj=>?_),qu,EY⟩,?_⟩
    ·rcases cT j v with h |h
     ·exact AX.o j h
     ·rw[show j=v by omega];exact PC.o
    ·simp[intOf];omega
   case stop=>
    rintro D cd T X hD b0 ⟨Y,⟨rfl,⟨x,A,bN⟩,aT,pV⟩,b2,F⟩ J
    have o0:fe=9:=ax.o 9 (by
     rw[E4.o,aD];intro h;rw[iQ] at h;have:=h x.1 (cI.2 x.2);rw[bN] at this;cases this) bd
    have AD:D<X.heap.size:=(cJ.1 J).1;have bh:nG w 9 X:=⟨(F.block (w.heap.size+1) al).trans aT.1,aT.2.trans (F.af al)⟩;gi_wp2
    refine Ea (lo:=s.heap.size) (K:=nG w 9) (nG.shut al) (fun av Z=>⟨_,Rv Z.1 rfl _ rfl,?_,Z.2⟩) _ X.heap.size X ⟨D,al,AD,rfl,J,(pV.aa F).af hD⟩ bh;rw[o0]
  ·rw[aD hT] at E4;have o0:fe=8:=ax.o 8 E4.o bd
   have bz:((r.length:Int) !=((N*k:Nat):Int))=true:=by
    (have:¬(r.length:Int)=((N*k:Nat):Int):=al);simpa using this
   clear hT;have bT:=H.o;gi_wp2_with (refine⟨trivial,?_⟩;gi_at_call 27;refine wk.o.af ?_;rintro e d ⟨rfl,g⟩;have ah:=E.step g;have ay:=(g.cell (p:=⟨G,v,none⟩) M.lt).trans sR;have z:Boxed d (w.heap.size+1) 34 (.int .i64 0):=(g.block (w.heap.size+1) al).trans ((H.o.block (w.heap.size+1) OM).trans rq.o);have o6:=Boxed.cell z;have Ke:=Boxed.frozen z;clear c0 c1 c2 r2 p2 sR)
   refine Ea (lo:=s.heap.size) (K:=nG w 8) (nG.shut al) (fun av Z=>⟨_,Rv Z.1 rfl _ rfl,?_,Z.2⟩) _ wr.heap.size _ ((jK.o.aa g).put al _) (nG.put (k:=0) ⟨z,ah.2⟩ 8);rw[o0]
 ·obtain rfl:v=R.length:=al
  have o0:fe=0:=HZ.o (fun j hj=>AX.o j (by rw[A2.o];exact hj));have z:Boxed wr (w.heap.size+1) 34 (.int .i64 0):=(H.o.block (w.heap.size+1) OM).trans rq.o;have o6:=Boxed.cell z;have Ke:=Boxed.frozen z;have E:=L9.o.step H.o;gi_wp2
  refine Ea (lo:=s.heap.size) (K:=nG w 0) (nG.shut al) (fun av Z=>⟨_,Rv Z.1 rfl _ rfl,?_,Z.2⟩) _ wr.heap.size _ (jK.o.put al _) (nG.put (k:=0) ⟨z,E.2⟩ 0);rw[o0]
end
theorem UM (a b c:Option Addr) (ca cb cc:Nat) (V:List Vr) (L:List (List Int)) (R:List (List Fr)) (w:World) (h:lO w a b c V L R) (s:xP V L R):
  du 50 #[.agg #[.slice a V.length ca,.slice b L.length cb,.slice c R.length cc]] w fun e w'=>e=.returned (.int .i64 (bH V L R))/\ef w w':=
 aid a b c ca cb cc V L R w h s fun d f g i U j=>ame a b c ca cb cc V L R U j s d f g i
theorem aiv (a:Option Addr) (ca:Nat) (L:List (List Int)) (w:World) (h:gW w a L) (j:∀l∈L,l.length<=140737488355328) (g:bZ L=0):
  du 99 #[.slice a L.length ca] w fun e w'=>∃G,e=.returned (.tuple #[.slice (some ⟨G,0,none⟩) L.length L.length,.int .i64 0])/\gW w' (some ⟨G,0,none⟩) (mP L)/\ef w w':=
 (akG a ca L w h j).af fun e w' i=>by
  rcases i with ⟨⟨b,_⟩ |⟨_,G,c,d⟩,f⟩
  ·exact absurd g b
  ·exact⟨G,c,d,f⟩
theorem alh (a:Option Addr) (ca:Nat) (L:List (List Int)) (w:World) (h:gW w a (mP L)) (j:gB L=true) (h1:1<=L.length) (g:L.length<=8):
  du 100 #[.slice a L.length ca] w fun e w'=>∃d c G,e=.returned (.tuple #[.slice d L.length c,.slice (some ⟨G,0,none⟩) L.length L.length,.int .i64 0])/\aJ w' d (iL (iG L))/\ef w w':=by
 have:=akI a ca (mP L) w h (fun l m=>by
  obtain⟨s,_,rfl⟩:=ba.1 m;rw[gP,bI,fL];exact aR (pH ..) aE)
 rw[Ah] at this;refine this.af fun e w' k=>?_;rcases k with ⟨⟨_,d,c,G,b,f,_⟩ |⟨b,_⟩,i⟩
 ·rw[Ah] at b;exact⟨d,c,G,b,f,i⟩
 ·rw[aiw j h1 g] at b;cases b
theorem akB (a b c:Option Addr) (ca cb cc v:Nat) (V:List Vr) (L:List (List Int)) (R:List (List Fr)) (w:World) (h:lO w a b c V L R) (f:xQ w b L) (s:xP V L R) (i:∀l∈R,fw l<=4200) (h0:bH V L R=0) (g:v<V.length) (E:∀U:World,lO U a b c V L R ->du 50 #[.agg #[.slice a V.length ca,.slice b L.length cb,.slice c R.length cc]] U fun e w'=>e=.returned (.int .i64 (bH V L R))/\ef U w'):
  du 102 #[.agg #[.slice a V.length ca,.slice b L.length cb,.slice c R.length cc],.int .i64 (v:Nat)] w fun e w'=>CZ w.heap.size (gU L v,gL V L R v) e w'/\ef w w':=
 (aib a b c ca cb cc v V L R w h f s i h0 g E).af fun _ _ d=>⟨uD.tb (t:=(gU L v,gL V L R v)) d.1,d.2⟩
def ng (S:List Nat) (n:Nat) (F:List (Int×Int)) (i:Nat):Int:=
 if ¬(0<=(F.getD i (0,0)).1/\(F.getD i (0,0)).1<(n:Int)) then 11 else if ¬(0<=(F.getD i (0,0)).2/\(F.getD i (0,0)).2<(sz S (F.getD i (0,0)).1.toNat:Int)) then 12 else if ((F.take i).any fun p=>p.1==(F.getD i (0,0)).1)=true then 7 else 0
def i7 (V:List Vr) (L:List (List Int)) (R:List (List Fr)) (F:List (Int×Int)):Int:=if bH V L R=0 then jr (ng (aw V) V.length F) F.length else bH V L R
theorem OU {F:List (Int×Int)} (h:i<F.length):F.getD i (0,0)=F[i]:=by rw[bY,bj h];rfl
theorem ab7 {F:List (Int×Int)} (a:i<F.length) (h:¬(0<=F[i].1/\F[i].1<(n:Int))):ng S n F i=11:=by rw[ng,OU a,aA h]
theorem ab8 {F:List (Int×Int)} (b:i<F.length) (h:0<=F[i].1/\F[i].1<(n:Int)) (a:¬(0<=F[i].2/\F[i].2<(sz S F[i].1.toNat:Int))):ng S n F i=12:=by rw[ng,OU b,aD (fun e=>e h),aA a]
theorem ab9 {F:List (Int×Int)} (c:i<F.length) (h:0<=F[i].1/\F[i].1<(n:Int)) (a:0<=F[i].2/\F[i].2<(sz S F[i].1.toNat:Int)) (b:((F.take i).any fun p=>p.1==F[i].1)=true):ng S n F i=7:=by rw[ng,OU c,aD (fun e=>e h),aD (fun e=>e a),aA b]
theorem aca {F:List (Int×Int)} (c:i<F.length) (h:0<=F[i].1/\F[i].1<(n:Int)) (a:0<=F[i].2/\F[i].2<(sz S F[i].1.toNat:Int)) (b:((F.take i).any fun p=>p.1==F[i].1)=false):ng S n F i=0:=by rw[ng,OU c,aD (fun e=>e h),aD (fun e=>e a),aD (by rw[b];decide)]
theorem aeZ {V:List Vr} (h:v<V.length):sz (aw V) v=V[v].2.length:=by rw[sz,M7 h];rfl
theorem aam (a b c d:Option Addr) (ca cb cc q:Nat) (V:List Vr) (L:List (List Int)) (R:List (List Fr)) (F:List (Int×Int)) (w:World) (h:lO w a b c V L R) (I:xP V L R) (hF:kD w d F) (hn:F.length<=1000) (a6:F.length<=q):
  du 21 #[.agg #[.slice a V.length ca,.slice b L.length cb,.slice c R.length cc],.slice d F.length q] w (eS w (.int .i64 (i7 V L R F))):=by
 have A:=(au w.heap.size w).alloc (aq _) (NC (.slice a V.length ca) (.slice b L.length cb) (.slice c R.length cc));have ke:=hid (dQ.at (w:=w) rfl (.slice a V.length ca) (.slice b L.length cb) (.slice c R.length cc));have gC:=hid (UM a b c ca cb cc V L R _ (h.aa A) I);have P:=hid A;have EW:=hid h.vars;have HF:=hid hF;have Kr:V.length<=5000:=I.vars.1;have aC:Hid (∀v (n:v<V.length),V[v].2.length<=5000):=fun v n=>I.vars.2 _ (bF n) |>.2.1;obtain⟨y,J⟩:∃y,i7 V L R F=y:=⟨_,rfl⟩;have ru:Hid (bH V L R≠0 ->bH V L R=y):=fun e=>by rw[<- J,i7,aD e]
 have rq:Hid (bH V L R=0 ->∀i,i<F.length ->(∀j,j< i ->ng (aw V) V.length F j=0) ->∀k,ng (aw V) V.length F i=k ->k≠0 ->k=y):=fun e i hi hz k hk aS=>by rw[<- J,i7,aA e,KS hz (by rw[hk];exact aS) hi,hk]
 have Ix:Hid (bH V L R=0 ->(∀j,j<F.length ->ng (aw V) V.length F j=0) ->0=y):=fun e hz=>by rw[<- J,i7,aA e,CU hz]
 have az:=hid (fun (i:Nat) (v:Int) (U:World) (hU:ef w U)=>aan d q (F.take i) v U ((hF.aa hU).take i) (by rw[eE];omega));rw[J];clear h I hF A J;go_enter Tryz.func21,Tryz.ntmps21;go_wp2_with fail
 refine gC.o.af ?_;rintro e w1 ⟨rfl,ab⟩;have Y:=hid (P.o.trans (ab.af P.o.size));have tJ:=hid (ke.o.aa ab ke.o.lt);clear ab gC ke P;by_cases u:bH V L R=0
 ·rw[u];have x6:=hid u;clear u;go_wp2_with fail
  go_loopw [15] (fun iv wr=>∃i:Nat,i<=F.length/\iv=.int .i64 i/\Hid (∀j,j< i ->ng (aw V) V.length F j=0)/\Hid (dQ wr w.heap.size (.slice a V.length ca) (.slice b L.length cb) (.slice c R.length cc))/\Hid (ef w wr)) (fun iv _=>F.length - (intOf iv).toNat)
  case atStart=>exact⟨0,aV _,rfl,(fun j hj=>absurd hj al),tJ,Y⟩
  case round=>
   obtain⟨i,hi,rfl,Z,HN,H⟩:=hrel;clear tJ Y;by_cases t:i<F.length
   ·obtain⟨g,ad,rfl,hg,h0,h1⟩:=HF.o i t;have k0:=(H.o.cell (p:=⟨g,_,none⟩) hg).trans h0;have k1:=(H.o.cell (p:=⟨g,_,none⟩) hg).trans h1;have Q:=hid (rq.o x6.o i t Z.o);have Dp:Hid (¬(0<=F[i].1/\F[i].1<(V.length:Int)) ->ng (aw V) V.length F i=11):=ab7 t;have Ql:Hid (0<=F[i].1/\F[i].1<(V.length:Int) ->¬(0<=F[i].2/\F[i].2<(sz (aw V) F[i].1.toNat:Int)) ->ng (aw V) V.length F i=12):=ab8 t;have Qk:Hid (0<=F[i].1/\F[i].1<(V.length:Int) ->(0<=F[i].2/\F[i].2<(sz (aw V) F[i].1.toNat:Int)) ->((F.take i).any fun p=>p.1==F[i].1)=true ->ng (aw V) V.length F i=7):=ab9 t;have zH:Hid (0<=F[i].1/\F[i].1<(V.length:Int) ->(0<=F[i].2/\F[i].2<(sz (aw V) F[i].1.toNat:Int)) ->((F.take i).any fun p=>p.1==F[i].1)=false ->ng (aw V) V.length F i=0):=aca t;have oN:Hid (ng (aw V) V.length F i=0 ->∀j,j<i+1 ->ng (aw V) V.length F j=0):=fun e=>QN Z.o e;have aj:=hid (az.o i F[i].1);(have sQ:(F.take i).length=i:=by rw[eE];omega);rw[sQ] at aj;generalize ng (aw V) V.length F i=fe at *;generalize ((F.take i).any fun p=>p.1==F[i].1)=fq at *;generalize F[i].1=l at *;generalize F[i].2=f at *;have A:=(au wr.heap.size wr).alloc (aq _) (.cells #[.int .i64 l,.int .i64 f] 39);(have GN:(wr.alloc (.cells #[.int .i64 l,.int .i64 f] 39)).heap.size=wr.heap.size+1:=aE);have Ke:(wr.alloc (.cells #[.int .i64 l,.int .i64 f] 39)).heap[wr.heap.size]? =some (.cells #[.int .i64 l,.int .i64 f] 39 (0,0)):=dB wr _;have s:=hid Ke;have T:=hid (HN.o.aa A HN.o.lt)
    have o:=hid (H.o.trans (A.af H.o.size));have nc:=T.o.cells.1;clear h0 h1 sQ A Ke;by_cases n:0<=l/\l<(V.length:Int)
    ·obtain⟨v,rfl⟩:∃v:Nat,l=v:=⟨l.toNat,al⟩;(have M:v<V.length:=al);obtain⟨gv,ov,bv,cv,rfl,G7,aT,pT,_,_⟩:=EW.o v M;have sR:sz (aw V) v=V[v].2.length:=aeZ M;have a1:=aC.o v M;rw[rD,sR] at Ql Qk zH;have kv:=(o.o.cell (p:=⟨gv,_,none⟩) G7).trans pT;generalize V[v].2.length=sv at *;have X:=hid n;clear aT pT n sR;obtain⟨an,av⟩:(wr.alloc (.cells #[.int .i64 (v:Nat),.int .i64 f] 39)).cell? ⟨wr.heap.size,0,none⟩=some (.int .i64 (v:Nat))/\(wr.alloc (.cells #[.int .i64 (v:Nat),.int .i64 f] 39)).cell? ⟨wr.heap.size,1,none⟩=some (.int .i64 f):=⟨by rw[bG _ _ 0 _ _ (0,0) s.o];rfl,by rw[bG _ _ 1 _ _ (0,0) s.o];rfl⟩;by_cases D:0<=f/\f<(sv:Int)
     ·obtain⟨z,rfl⟩:∃z:Nat,f=z:=⟨f.toNat,al⟩;(have bc:z<sv:=al);have ae:=hid D;clear D;go_upto_region 11 with (go_quiet (fail))
      have ay:Hid (((wr.alloc (.cells #[.int .i64 (v:Nat),.int .i64 (z:Nat)] 39)).drewN nq).heap[wr.heap.size]? =some (.cells #[.int .i64 (v:Nat),.int .i64 (z:Nat)] 39 (0,0))):=s.o;have sj:Hid (dQ ((wr.alloc (.cells #[.int .i64 (v:Nat),.int .i64 (z:Nat)] 39)).drewN nq) w.heap.size (.slice (some ⟨gv,ov,none⟩) V.length ca) (.slice b L.length cb) (.slice c R.length cc)):=T.o;have eJ:=hid (below_drewN o.o nq);(have Ei:wr.heap.size<((wr.alloc (.cells #[.int .i64 (v:Nat),.int .i64 (z:Nat)] 39)).drewN nq).heap.size:=by show wr.heap.size<(wr.alloc _).heap.size;rw[GN];omega);clear an av kv nc s T o GN;generalize (wr.alloc (.cells #[.int .i64 (v:Nat),.int .i64 (z:Nat)] 39)).drewN nq=x at *
      have O:Hid (∀U:World,Below x.drew.heap.size x.drew U ->U.cell? ⟨wr.heap.size,0,none⟩=some (.int .i64 (v:Nat))):=fun U hU=>(hU.cell (p:=⟨wr.heap.size,0,none⟩) Ei).trans (by
       have:x.drew.heap[wr.heap.size]? =some (.cells #[.int .i64 (v:Nat),.int .i64 (z:Nat)] 39 (0,0)):=ay.o;rw[bG _ _ 0 _ _ (0,0) this];rfl)
      have ai:=hid (aj.o x.drew eJ.o.drew);(have bb:(i:Int)<=(q:Int):=al);refine gI (S:=fun U=>U.cell? ⟨wr.heap.size,0,none⟩=some (.int .i64 (v:Nat))) ao (O.o _ (au _ _)) (fun ak=>?_);refine ar 0 (.slice (some ⟨g,ad,none⟩) F.length q) ?_;refine ar 1 (.int .i64 (i:Nat)) ?_;refine ar 2 (.slice (some ⟨g,ad,none⟩) i q) ?_;refine ar 3 (.pointer (some ⟨wr.heap.size,0,none⟩)) ?_;refine ar 4 (.int .i64 (v:Nat)) ?_;refine aG [5] (cA ?_ aF);intro K' ax;go_simp;refine ai.o.af ?_;rintro r w5 ⟨rfl,K⟩;refine ax.o _ _ (O.o w5 K) (fun ah=>?_);clear ax K' ak;(try simp only[gE,aP]);refine dS ao ?_ _;clear ah;have dI:Hid (ef w w5):=eJ.o.drew.trans (K.af eJ.o.drew.size);have Fc:Hid (dQ w5 w.heap.size (.slice (some ⟨gv,ov,none⟩) V.length ca) (.slice b L.length cb) (.slice c R.length cc)):=dQ.aa (w:=x.drew) sj.o K sj.o.lt;clear K ai O;cases fq with
      |true=>
       have m:=hid (Q.o 7 (Qk.o X.o ae.o rfl) bd);go_wp2;go_ret;exact⟨by rw[<- m.o];rfl,dI.o⟩
      |false=>
       have aO:=hid (oN.o (zH.o X.o ae.o rfl));go_wp2;go_roundw
       case rel=>exact⟨i+1,al,b5,aO,Fc,dI⟩
       case measure=>simp[intOf];omega
     ·have m:=hid (Q.o 12 (Ql.o X.o D) bd);rcases Int.lt_or_le f 0 with E |E
      ·have kz:decide (f<0)=true:=eD E;clear D;go_wp2_with (go_quiet (fail))
       go_ret;exact⟨by rw[<- m.o];rfl,below_drewN o.o _⟩
      ·have kz:decide (f<0)=false:=eK al;have jX:decide ((sv:Int)<=f)=true:=eD al;clear D;go_wp2_with (go_quiet (fail))
       go_ret;exact⟨by rw[<- m.o];rfl,below_drewN o.o _⟩
    ·have m:=hid (Q.o 11 (Dp.o n) bd);obtain⟨an,av⟩:(wr.alloc (.cells #[.int .i64 l,.int .i64 f] 39)).cell? ⟨wr.heap.size,0,none⟩=some (.int .i64 l)/\(wr.alloc (.cells #[.int .i64 l,.int .i64 f] 39)).cell? ⟨wr.heap.size,1,none⟩=some (.int .i64 f):=⟨by rw[bG _ _ 0 _ _ (0,0) s.o];rfl,by rw[bG _ _ 1 _ _ (0,0) s.o];rfl⟩;rcases Int.lt_or_le l 0 with E |E
     ·clear n;go_wp2_with fail
      go_ret;exact⟨by rw[<- m.o];rfl,o.o⟩
     ·have h3:(V.length:Int)<=l:=al
      (have h4:¬l<0:=al);clear n;go_wp2_with fail
      go_ret;exact⟨by rw[<- m.o];rfl,o.o⟩
   ·obtain rfl:i=F.length:=al
    have m:=hid (Ix.o x6.o Z.o);go_wp2;go_ret;exact⟨by rw[<- m.o];rfl,H.o⟩
 ·have m:=hid (ru.o u);have a7:(bH V L R==0)=false:=by simpa using u
  clear u ru rq Ix;generalize bH V L R=ne at *;go_wp2;go_ret;exact⟨by rw[<- m.o];rfl,Y.o⟩
theorem ZZ {s:List Nat} (a:u<8):(gP s).contains (u:Int)=decide (u∈s):=by
 refine wE.2 ?_;rw[BO,gY,gP,iL,ba];constructor
 ·rintro⟨v,b,e⟩;obtain rfl:v=u:=al
  exact(Gn.1 b).2
 ·exact fun h=>⟨u,Gn.2 ⟨a,h⟩,rfl⟩
variable {ws:List Nat}
def zF (l:List (Nat×Nat)):List (Int×Int):=l.map fun p=>((p.1:Int),(p.2:Int))
theorem yC (l:List (Nat×Nat)):(zF l).length=l.length:=by simp[zF]
structure tO (S:List Nat) (n:Nat) (l:List (Nat×Nat)):Prop where
 nd:(l.map (·.1)).Nodup
 lt:∀p∈l,p.1<n
 val:∀p∈l,p.2<sz S p.1
theorem aln {V:List Vr} {F:List (Int×Int)} (h:i7 V L R F=0):bH V L R=0/\∃l,F=zF l/\tO (aw V) V.length l:=by
 have n:bH V L R=0:=by
  by_cases e:bH V L R=0
  ·exact e
  ·rw[i7,aD e] at h;exact h
 rw[i7,aA n] at h;have z:=KR h
 have g:∀i (d:i<F.length),(0<=F[i].1/\F[i].1<(V.length:Int))/\(0<=F[i].2/\F[i].2<(sz (aw V) F[i].1.toNat:Int))/\((F.take i).any fun p=>p.1==F[i].1)=false:=fun i d=>by
  have f:=z i d;by_cases a:0<=F[i].1/\F[i].1<(V.length:Int)
  ·by_cases b:0<=F[i].2/\F[i].2<(sz (aw V) F[i].1.toNat:Int)
   ·refine⟨a,b,?_⟩;cases c:(F.take i).any fun p=>p.1==F[i].1 with
    |false=>rfl
    |true=>rw[ab9 d a b c] at f;exact absurd f bd
   ·rw[ab8 d a b] at f;exact absurd f bd
  ·rw[ab7 d a] at f;exact absurd f bd
 refine⟨n,F.map fun p=>(p.1.toNat,p.2.toNat),?_,?_,?_,?_⟩
 ·rw[zF,yw];refine sI aE fun i d _=>?_;rw[nO];obtain⟨⟨a,_⟩,⟨b,_⟩,_⟩:=g i d;show F[i]=(((F[i].1.toNat:Nat):Int),((F[i].2.toNat:Nat):Int));rw[Int.toNat_of_nonneg a,Int.toNat_of_nonneg b]
 ·rw[yw,List.Nodup,FR];refine zU.2 fun i j d q s e=>?_;obtain⟨⟨t,_⟩,_,_⟩:=g i d;obtain⟨⟨u,_⟩,_,o⟩:=g j q
  have:=I4.1 o F[i] (by
   (have r:i<(F.take j).length:=by rw[eE];omega);have:=bF r;rwa [zV] at this)
  refine this (uO.2 ?_);have v:F[i].1.toNat=F[j].1.toNat:=e;omega
 ·intro p k;obtain⟨x,m,rfl⟩:=ba.1 k;obtain⟨i,d,rfl⟩:=jz m;obtain⟨⟨a,b⟩,_,_⟩:=g i d;show F[i].1.toNat<_;omega
 ·intro p k;obtain⟨x,m,rfl⟩:=ba.1 k;obtain⟨i,d,rfl⟩:=jz m;obtain⟨_,⟨a,b⟩,_⟩:=g i d;show F[i].2.toNat<sz _ F[i].1.toNat;omega
def yD (L:List (List Int)) (A:List Nat):List Nat:=(iG L).filter fun v:Nat=>(gP (ie (aN L) A L.length)).contains (v:Int)
theorem DK {l:List Int} (h:Up l n):∀x∈l,0<=x/\x<n:=(rG.1 h).1
theorem Xi {l:List Int} (h:Up l n):(ag l).Pairwise (·<·):=by
 rw[ag,FR];refine List.Pairwise.imp_of_mem (fun {a b} c d g=>?_) (rG.1 h).2;have e:=DK h a c;have f:=DK h b d;omega
theorem Y6 (L:List (List Int)) (i:Nat):(aN L).getD i []=ag (L.getD i []):=by
 rw[aN,bY,lU,bY];cases L[i]? with
 |none=>rfl
 |some x=>rfl
theorem RY (g:gB L=true) (h1:1<=L.length) (a:L.length<=8) (h:v∈iG L):v<L.length:=by
 have p:((iG L).filter fun v=>decide (v<L.length)).Perm (List.range L.length):=
  (MA ((Zp g h1 a).sublist MI) BD).2 fun u=>by
   rw[eL,cI,gY];exact⟨fun h=>h.2,fun h=>⟨Zq g h1 a h,h⟩⟩
 have l:=p.length_eq;have n:(iG L).length=L.length:=by rw[Nx];simp
 rw[wD] at l;replace l:=l.trans n.symm;exact tW (List.length_filter_eq_length_iff.1 l v h)
theorem am1 (g:gB L=true) (a:∀v∈A,v<L.length) (h:v∈ie (aN L) A L.length):v<L.length:=
 Le (fun x u b=>(Sk g x u b).1) a L.length v h
theorem WT (g:gB L=true) (h1:1<=L.length) (c:L.length<=8) (e:∀v∈A,v<L.length):v∈yD L A↔v∈ie (aN L) A L.length:=by
 rw[yD,eL];constructor
 ·rintro⟨a,b⟩;have d:=RY g h1 c a;rw[ZZ al] at b;exact tW b
 ·intro h;have d:=am1 g e h;exact⟨Zq g h1 c d,by rw[ZZ al];exact eD h⟩
theorem adS (g:gB L=true) (h1:1<=L.length) (h:L.length<=8) (A:List Nat):(yD L A).Nodup:=(Zp g h1 h).sublist MI
theorem adT (g:gB L=true) (h1:1<=L.length) (a:L.length<=8) (h:v∈yD L A):v<L.length:=RY g h1 a (eL.1 h).1
theorem amX {w:Nat} (h:Pa u v) (a:lh Pa v w):lh Pa u w:=by
 induction a using lh.ind with
 |one h3=>exact .more (.one h) h3
 |more _ h3 ih=>exact .more ih h3
theorem adU (i:bZ L=0) (h1:1<=L.length) (c:L.length<=8) (d:∀v∈A,v<L.length):tS L (·∈yD L A):=fun v h u a=>by
 have g:=vG i;show u∈yD L A;have h:v∈yD L A:=h;rw[WT g h1 c d,acZ i c d] at h⊢;obtain⟨b,f,e⟩:=h;rw[<- Y6] at a;refine⟨b,f,.inr ?_⟩;rcases e with rfl |e
 ·exact .one a
 ·exact amX (Pa:=fun u v=>u∈(aN L).getD v []) a e
theorem WU (i:bZ L=0) (h1:1<=L.length) (h:L.length<=8) (a:∀v∈A,v<L.length) (b:v∈A):v∈yD L A:=by
 rw[WT (vG i) h1 h a,acZ i h a];exact⟨v,b,.inl rfl⟩
def gT (V:List Vr) (L:List (List Int)) (R:List (List Fr)) (ws:List Nat):List Tb:=ws.map fun v=>(gU L v,gL V L R v)
theorem akF {V:List Vr} (h0:bH V L R=0) (h:∀v∈ws,v<V.length) (c:tS L (·∈ws)):fW (aw V) V.length (gT V L R ws) (gS R ws) 1:=
 ⟨(PI.net h0 h c).ok,PD.net h0 h,fun t a=>by
  obtain⟨v,_,rfl⟩:=ba.1 a;exact akH V L R v⟩
theorem fW.fixes (a:Pos S):∀ {l:List (Nat×Nat)} {P:List Tb} {D c:Nat},fW S n P D c ->(∀p∈l,p.2<sz S p.1) ->fW S n (ow S l P) D c
 |[],_,_,_,h,_=>h
 |p::l,_,_,_,h,hx=>fW.fixes a (l:=l) (h.fix a (hx p dp)) fun q b=>hx q (dF _ b)
theorem UA (S:List Nat):∀(l:List (Nat×Nat)) (P:List Tb),(ow S l P).length=P.length
 |[],_=>rfl
 |p::l,P=>by rw[ow,UA S l,dM]
theorem aah:∀(l:List (Nat×Nat)) (fr:List Nat),(kO fr l).Sublist fr
 |[],_=>List.Sublist.refl _
 |_::l,_=>(aah l _).trans MI
def fk (V:List Vr) (L:List (List Int)) (R:List (List Fr)) (q:List Int) (l:List (Nat×Nat)):Tb:=
 (q,(List.range (cnt (aw V) (ag q))).map fun K=>qF (mQ V L R (qV (aw V) (ag q) K++l)))
theorem aet {a b:List Int} (c:Up a n) (d:Up b m) (h:∀u,u∈ag a↔u∈ag b):a=b:=by
 have e:ag a=ag b:=by
  refine List.Perm.eq_of_pairwise (le:=(·<·)) (fun x y _ _ g i=>al) (Xi c) (Xi d) ?_;exact(MA c.nodup d.nodup).2 h
 have g:iL (ag a)=a:=by
  rw[iL,ag,yw];refine(sG fun x f=>?_).trans (List.map_id _);have:=(DK c x f).1;show ((x.toNat:Nat):Int)=x;omega
 have i:iL (ag b)=b:=by
  rw[iL,ag,yw];refine(sG fun x f=>?_).trans (List.map_id _);have:=(DK d x f).1;show ((x.toNat:Nat):Int)=x;omega
 rw[<- g, <- i,e]
theorem agp {q:List Int} (h:Up q n) (v:Nat):q.contains (v:Int)=(ag q).contains v:=by
 rw[wE,BO,BO];constructor
 ·intro a;exact ba.2 ⟨_,a,aE⟩
 ·intro a;obtain⟨x,b,e⟩:=ba.1 a;have:=(DK h x b).1;have c:x.toNat=v:=e;have:x=(v:Int):=al
  rwa [<- this]
theorem aeA {V:List Vr} (h0:bH V L R=0) (d:Pos (aw V)) {l:List (Nat×Nat)} {q:List Int} (x:ws.Nodup) (o:∀v∈ws,v<V.length) (k:tS L (·∈ws)) (f:tO (aw V) V.length l) (J:∀p∈l,p.1∈ws) (i:Up q V.length) (m:∀v∈ag q,v∈ws/\¬v∈l.map (·.1)):
  allT (aw V) (jS (aw V) false (fun v=>q.contains (v:Int)) (kO ws l) (ow (aw V) l (gT V L R ws)))=fk V L R q l:=by
 have r:(fun v:Nat=>q.contains (v:Int))=fun v=>(ag q).contains v:=funext (agp i);rw[r];have Y:PI (aw V) V.length (kO ws l) (ow (aw V) l (gT V L R ws)) (fun g=>eI V L R (jl l g) ws):=(PI.net h0 o k).fixes d f.nd f.val;obtain⟨E,w,A⟩:=PI.outs d (fun v=>(ag q).contains v) (kO ws l) Y;have e:=zl d A.ok
 have D:∀u,u∈E↔u∈ag q:=fun u=>by
  rw[w u,NT];constructor
  ·rintro⟨⟨a,b⟩,c⟩;exact BO.1 (c ⟨a,b⟩)
  ·intro h;exact⟨m u h,fun _=>BO.2 h⟩
 have n:(allT (aw V) (jS (aw V) false (fun v=>(ag q).contains v) (kO ws l) (ow (aw V) l (gT V L R ws)))).1=q:=by
  refine aet e.1.up i fun u=>?_;rw[e.2.1 u, <- D u];exact⟨fun ⟨t,y,z⟩=>A.sub t y u z,fun h=>A.sup u h⟩
 refine Prod.ext n ?_;rw[XB d e.1 (acY _ _),n];refine sG fun K s=>?_;have j:=cI.1 s;rw[e.2.2 _ (fun u=>vK d _ _ u j),A.val _ (fun u=>vK d _ _ u j)];exact dh qF (aiM h0 x o k f.nd J f.val i.nodup m j)
theorem QQ {o:Oper} {a:Act} (s x:Operand)
  (F:o.op=.call {callee:=.builtin .append,args:= #[s,x],argTypes:= #[22,22]}) (base:Nat) (v:Value) (l:List Int) (f:Int) (H:a.eval s=v) (q:bP w base v l) (g:Nat) (I:a.eval x=.slice (some ⟨g,0,none⟩) 1 1) (E:w.cell? ⟨g,0,none⟩=some (.int .i64 f)) (ad:l.length+1<=100000) (T:base<=w.heap.size)
  (h:∀v' w',bP w' base v' (l++[f]) ->w.grownBy w' v.ownBlock ->(v'.ownBlock=v.ownBlock∨∀k,v'.ownBlock=some k ->w.heap.size<=k) ->K (a.put o.dst v') w'):o.wp Tryz.prog a w K Q:=by
 obtain⟨i,M,m,z,p⟩:=dJ Tryz.infoInt
 have n:∀j u,[Value.int .i64 f][j]? =some u ->w.cell? ((⟨g,0,none⟩:Addr).add j)=some u:=fun j u c=>by
  match j,c with
  |0,c=>cases c;exact E
  |j+1,c=>simp at c
 have U:∀u∈[Value.int .i64 f],u.oneCell'=true:=fun u t=>by
  simp only[dU,nL,tV] at t;subst t;rfl
 have R:l.length+1<=maxLen:=by unfold maxLen;omega
 obtain⟨v',w',r,A,D, -⟩:=run_append_own (P:=Tryz.prog) w base 22 o.type 3 i (.int .i64 0) 1 8 Tryz.underlying22 M m z p rfl bd v l.length _ q ⟨g,0,none⟩ 1 1 [.int .i64 f] rfl n U R al T
 have S:v'.ownBlock=v.ownBlock∨∀k,v'.ownBlock=some k ->w.heap.size<=k:=by
  rcases q.2 with ⟨b,Y⟩ |⟨g',cap,L,b,aa,J,X,ab,O,Z⟩
  ·right
   have e:=run_append_nil (P:=Tryz.prog) w 22 o.type 3 i (.int .i64 0) Tryz.underlying22 M m ⟨g,0,none⟩ 1 1 [.int .i64 f] (by rw[z];rfl) n bd bd (by rw[p];decide);rw[b] at r;rw[r] at e;cases e;intro k d;cases d;exact aq _
  ·rw[b] at r;by_cases V:l.length+1<=cap
   ·left
    have e:=run_append_room (P:=Tryz.prog) w 22 o.type 3 i Tryz.underlying22 M g' l.length cap L J ⟨g,0,none⟩ 1 1 [.int .i64 f] (by rw[z];rfl) n U V (by rw[z,O];simp;omega);rw[r] at e;cases e;rw[b];rfl
   ·right
    have y:=q;rw[b] at y;have e:=run_append_grow (P:=Tryz.prog) w 22 o.type 3 i (.int .i64 0) Tryz.underlying22 M m ⟨g',0,none⟩ l.length cap (l.map (Value.int .i64)) (by rw[z];simp) (World.ownsRow.cells y rfl) ⟨g,0,none⟩ 1 1 [.int .i64 f] (by rw[z];rfl) n al al (FN al (by rw[p];omega));rw[r] at e;cases e;intro k d;cases d;exact aq _
 unfold Oper.wp execOp;simp only[F,resolve,invoke,builtin,IH,Bz,wB,IY,iy,nM,H,I,r];refine h v' w' ?_ D S;rw[bP,bK,eP];exact A
theorem QP {o:Oper} {a:Act} (s x:Operand)
  (d:o.op=.call {callee:=.builtin .append,args:= #[s,x],argTypes:= #[98,98]}) (base:Nat) (v:Value) (n:Nat) (xs:List Value) (u1 u2:Value) (e:a.eval s=v) (D:w.ownsRow base 49 2 v n xs) (g:Nat) (f:a.eval x=.slice (some ⟨g,0,none⟩) 1 1) (h0:w.cell? ⟨g,0,none⟩=some u1) (h1:w.cell? ⟨g,1,none⟩=some u2) (q:cV u1) (t:cV u2) (F:n+1<=100000) (E:base<=w.heap.size)
  (h:∀v' w',w'.ownsRow base 49 2 v' (n+1) (xs++[u1,u2]) ->w.grownBy w' v.ownBlock ->(v'.ownBlock=v.ownBlock∨∀k,v'.ownBlock=some k ->w.heap.size<=k) ->K (a.put o.dst v') w'):o.wp Tryz.prog a w K Q:=by
 obtain⟨i,M,z,y,A⟩:=dJ Tryz.infoTable
 obtain⟨v',w',r,l,m,p⟩:=Yw (P:=Tryz.prog) w base 98 o.type 49 i (.agg #[.slice none 0 0,.slice none 0 0]) 2 48 Tryz.underlying98 M z y A rfl bd v n xs D ⟨g,0,none⟩ 1 1 [u1,u2] rfl (fun j u b=>by
  match j,b with
  |0,b=>cases b;exact h0
  |1,b=>cases b;exact h1
  |j+2,b=>simp at b) (fun u c=>by
  simp only[dU,nL,tV] at c;rcases c with rfl |rfl
  ·obtain⟨_,_,_,rfl⟩:=q;rfl
  ·obtain⟨_,_,_,rfl⟩:=t;rfl) (by unfold maxLen;omega) al E bd
 unfold Oper.wp execOp;simp only[d,resolve,invoke,builtin,IH,Bz,wB,IY,iy,nM,e,f,r];exact h v' w' l m p
variable {rs:List Nat} {oi:Oper}
section
variable {P : Program} {ops : Array Oper} {Q : Exit -> Act -> World -> Prop} {md : Region.Mode} {S : Bool -> World -> Prop} {k : Nat}
def nS (P:Program) (md:Region.Mode) (ops:Array Oper) (Q:Exit ->Act ->World ->Prop) (S:Bool ->World ->Prop) (k:Nat):Nat ->Array Bool ->Act ->World ->Prop
 |0,l,a,w=>Region.ready md ops l=[]/\Q .normal a w
 |n+1,l,a,w=>(Region.ready md ops l=[] ->Q .normal a w)/\∀i∈Region.ready md ops l,wpOp P ops Q i (fun a' w'=>S ((l.setIfInBounds i true).getD k true) w'/\nS P md ops Q S k n (l.setIfInBounds i true) a' w') a w
theorem WZ:∀(n:Nat) (l:Array Bool) (a:Act) (w:World),nS P md ops Q S k n l a w ->wpAny P md ops Q n l a w
 |0,_,_,_,h=>h
 |n+1,_,_,_,h=>⟨h.1,fun i d=>wpOp_mono (fun b w' c=>WZ n _ b w' c.2) (h.2 i d)⟩
theorem YF {l:Array Bool} (h:i∈Region.ready md ops l):l.getD i true=false:=(mem_ready.1 h).1
theorem WY {v:Value} (W:Bool ->Prop) (D:ops[i]? =some oi) (M:∀(j:Nat) (o:Oper) s b,ops[j]? =some o ->o.op≠.select s b)
  (Y:∀c a w,Q (.panic c) (a.put oi.dst v) w ->Q (.panic c) a w)
  (Z:∀(l:Array Bool) (j:Nat),i∈Region.ready md ops l ->j∈Region.ready md ops l ->j≠i ->W (l.getD k true) ->W ((l.setIfInBounds j true).getD k true)) (I:k≠i):
  ∀(n:Nat) (l:Array Bool) (a:Act) (w:World),
   (∀j g,ops[j]? =some g ->j≠i ->l.getD j true=false ->(∀e∈g.after,Region.binds md e=true ->e.on≠i) ->oi.apart ops g=true) ->
   i∈Region.ready md ops l ->YieldsIf P ops (fun u=>∃b,W b/\S b u) oi v a ->W (l.getD k true) ->S (l.getD k true) w ->
   nS P md ops Q S k n (l.setIfInBounds i true) (a.put oi.dst v) w ->nS P md ops Q S k (n+1) l a w:=by
 have L:∀l:Array Bool,(l.setIfInBounds i true).getD k true=l.getD k true:=fun l=>getD_set_ne true (Ne.symm I);intro n;induction n with
 |zero=>
  intro l a w _ d y t m H;refine⟨fun h=>(by rw[h] at d;cases d),fun j p=>?_⟩;by_cases r:j=i
  ·subst r;exact y.wpOp D ⟨_,t,m⟩ ⟨by rw[L];exact m,H⟩
  ·have:=ready_mono p r;rw[H.1] at this;cases this
 |succ n ih=>
  intro l a w J d y t m H;refine⟨fun h=>(by rw[h] at d;cases d),fun j p=>?_⟩;by_cases r:j=i
  ·subst r;exact y.wpOp D ⟨_,t,m⟩ ⟨by rw[L];exact m,H⟩
  ·have f:=H.2 j (ready_mono p r);obtain⟨K,g,X,ai⟩:=mem_ready.1 p
   have ab:∀e∈g.after,Region.binds md e=true ->e.on≠i:=fun e he hb ad=>by
    have f:=ai e he hb;have F:=YF d;rw[ad] at f;rcases cT i l.size with z |z
    ·simp[z] at F f;rw[F] at f;cases f
    ·simp[Array.getElem?_eq_none z] at f
   have V:=wpOp_putIf X (J j g X r K ab) (fun s b=>M i oi s b D) (fun s b=>M j g s b X) Y y f
   have aa:∀x q,ops[x]? =some q ->x≠i ->(l.setIfInBounds j true).getD x true=false ->(∀e∈q.after,Region.binds md e=true ->e.on≠i) ->oi.apart ops q=true:=fun x q hx ah E ae=>by
    refine J x q hx ah ?_ ae;by_cases T:j=x
    ·subst T;exact K
    ·rw[getD_set_ne true T] at E;exact E
   have af:=Z l j d p r t;have O:(l.setIfInBounds i true).setIfInBounds j true=(l.setIfInBounds j true).setIfInBounds i true:=Array.setIfInBounds_comm _ _ (Ne.symm r);refine wpOp_mono (fun U w' A=>?_) V
   have R:S ((l.setIfInBounds j true).getD k true) w':=by
    have:=A.2.1;rwa [O,getD_set_ne true (Ne.symm I)] at this
   refine⟨R,ih (l.setIfInBounds j true) U w' aa (ready_mono d (Ne.symm r)) A.1 af R ?_⟩;rw[<- O];exact A.2.2
theorem gF {v:Value} {l:Array Bool} {a:Act} (d:ops[i]? =some oi)
  (s:Region.noSelect ops=true) (o:Region.free md ops l i=true) (r:(Region.ready md ops l).contains i=true) (p:k≠i)
  (g:∀c a w,Q (.panic c) (a.put oi.dst v) w ->Q (.panic c) a w) (y:YieldsIf P ops (fun u=>∃b,S b u) oi v a) {b:Bool} (m:l.getD k true=b) (j:S b w)
  (h:nS P md ops Q S k n (l.setIfInBounds i true) (a.put oi.dst v) w):nS P md ops Q S k (n+1) l a w:=
 WY (fun _=>True) d (Region.noSelect_spec s) g (fun _ _ _ _ _ h=>h) p n l a w (Region.free_spec d o) (by simpa using r) (y.imp (fun ⟨e,f⟩=>⟨e,fun u ⟨b,_,q⟩=>f u ⟨b,q⟩⟩) id) trivial (by rw[m];exact j) h
theorem FU {ok:Oper} {v:Value} {l:Array Bool} {a:Act} (p:ops[i]? =some oi)
  (H:Region.noSelect ops=true) (A:Region.free md ops l i=true) (F:(Region.ready md ops l).contains i=true) (E:k≠i)
  (T:ops[k]? =some ok) (J:(ok.after.any fun e=>Region.binds md e&&e.on==i)=true)
  (x:∀c a w,Q (.panic c) (a.put oi.dst v) w ->Q (.panic c) a w) (K:YieldsIf P ops (S false) oi v a) (f:l.getD k true=false) (y:S false w)
  (h:nS P md ops Q S k n (l.setIfInBounds i true) (a.put oi.dst v) w):nS P md ops Q S k (n+1) l a w:=by
 refine WY (fun b=>b=false) p (Region.noSelect_spec H) x (fun l j L D R e=>?_) E n l a w (Region.free_spec p A) (by simpa using F) (K.imp (fun ⟨r,m⟩=>⟨r,fun u ⟨b,f,I⟩=>m u (by subst f;exact I)⟩) id) f (by rw[f];exact y) h;by_cases q:j=k
 ·subst q;exfalso
  obtain⟨_,O,X,M⟩:=mem_ready.1 D;rw[T] at X;cases X;obtain⟨e,z,m⟩:=Array.any_eq_true'.1 J;obtain⟨s,t⟩:=Bool.and_eq_true_iff.1 m;have d:=M e z s;have o:=YF L;rw[eq_of_beq t] at d;rcases cT i l.size with g |g
  ·simp[g] at o d;rw[o] at d;cases d
  ·simp[Array.getElem?_eq_none g] at d
 ·rw[getD_set_ne true q];exact e
def bt (P:Program) (md:Region.Mode) (ops:Array Oper) (Q:Exit ->Act ->World ->Prop) (S:Bool ->World ->Prop) (k n:Nat) (l:Array Bool) (a:Act) (w:World) (rs:List Nat):Prop:=
 ∀i∈rs,wpOp P ops Q i (fun a' w'=>S ((l.setIfInBounds i true).getD k true) w'/\nS P md ops Q S k n (l.setIfInBounds i true) a' w') a w
theorem bt.nil {l:Array Bool} {a:Act}:bt P md ops Q S k n l a w []:=fun _ h=>by cases h
theorem bt.cons {l:Array Bool} {a:Act} {o:Oper} {b:Bool} (g:ops[i]? =some o) (f:(l.setIfInBounds i true).getD k true=b)
  (h:∀K:Act ->World ->Prop,Go.Shut (∀a w,S b w ->(S b w ->nS P md ops Q S k n (l.setIfInBounds i true) a w) ->K a w) ->if Region.wanted o (yielded ops a.tmps)=true then Oper.wp P o a w K Q else K (a.put o.dst undef) w)
  (s:bt P md ops Q S k n l a w rs):bt P md ops Q S k n l a w (i::rs):=fun j c=>by
 rcases dU.1 c with rfl |c
 ·exact wpOp_step g (fun K e=>h K (fun a w d U=>e a w ⟨by rw[f];exact d,U d⟩))
 ·exact s j c
theorem fR {l:Array Bool} {a:Act} (r:Region.ready md ops l=rs) (e:rs≠[]) (h:bt P md ops Q S k n l a w rs):nS P md ops Q S k (n+1) l a w:=
 ⟨fun b=>absurd (r▸b) e,r▸h⟩
theorem I8 {l:Array Bool} {a:Act} (r:Region.ready md ops l=[]) (h:Q .normal a w):∀n,nS P md ops Q S k n l a w
 |0=>⟨r,h⟩
 |_+1=>⟨fun _=>h,by rw[r];simp⟩
theorem QO {id:Nat} {a:Act} (k:Nat) (S:Bool ->World ->Prop) (m:P.follows .mixedOrders=true) (b:S false w.drew) (h:S false w.drew ->nS P .any ops Q S k ops.size (Array.replicate ops.size false) a w.drew):(Code.region id ops true).wp P Q a w:=
 wp_region_any m (WZ _ _ _ _ (h b))
end
variable {U U':World}
structure nB (U:World) (B:Nat) (u1 u2 fv tv:Value):Prop where
 tb:bE U B u1 u2
 nf:fv.ownBlock≠some B
 nt:tv.ownBlock≠some B
theorem nB.under {B:Nat} (h:nB U B u1 u2 fv tv) (b:ef U U'):nB U' B u1 u2 fv tv:=⟨h.tb.aa b h.tb.lt,h.nf,h.nt⟩
theorem nB.pushF {B:Nat} {S:Value} (h:nB U B u1 u2 fv tv) (g:U.grownBy U' fv.ownBlock) (n:S.ownBlock=fv.ownBlock∨∀k,S.ownBlock=some k ->U.heap.size<=k):nB U' B u1 u2 S tv:=
 ⟨(g.block B h.tb.lt (fun e=>h.nf e.symm)).trans h.tb,fun e=>by
  rcases n with n |n
  ·exact h.nf (n▸e)
  ·have:=n B e;have:=h.tb.lt;omega,h.nt⟩
theorem nB.pushT {B:Nat} {S:Value} (h:nB U B u1 u2 fv tv) (g:U.grownBy U' tv.ownBlock) (n:S.ownBlock=tv.ownBlock∨∀k,S.ownBlock=some k ->U.heap.size<=k):nB U' B u1 u2 fv S:=
 ⟨(g.block B h.tb.lt (fun e=>h.nt e.symm)).trans h.tb,h.nf,fun e=>by
  rcases n with n |n
  ·exact h.nt (n▸e)
  ·have:=n B e;have:=h.tb.lt;omega⟩
theorem nB.off {B:Nat} (h:nB U B u1 u2 fv tv) (b j:Nat) (u:Value) (e:B≠b):nB (U.setCell ⟨b,j,none⟩ u) B u1 u2 fv tv:=⟨(fQ U ⟨b,j,none⟩ u B e).trans h.tb,h.nf,h.nt⟩
theorem nB.new {W:World} {b:Nat} {l:List Int} {Q:List (Value×Value)} (h:lM W b x fv tv ml mL l Q P V) (u1 u2:Value):nB (V.alloc (TC u1 u2)) V.heap.size u1 u2 ml mL:=
 ⟨bE.at rfl u1 u2,fun e=>by have:=(rJ h.fo _ e).2;omega,fun e=>by have:=(h.own.lt _ e).2;omega⟩
def kV (b B:Nat) (fv tv u1 u2:Value) (c:Bool) (U:World):Prop:=(U.cell? ⟨B,0,none⟩=some u1/\U.cell? ⟨B,1,none⟩=some u2)/\(c=false ->U.cell? ⟨b,1,none⟩=some fv/\U.cell? ⟨b,2,none⟩=some tv)
theorem kV.of {W:World} {b B:Nat} {l:List Int} {Q:List (Value×Value)} (h:lM W b x fv tv ml mL l Q P U) (o:nB U B u1 u2 ml mL) (c:Bool):kV b B fv tv u1 u2 c U:=⟨⟨o.tb.c0,o.tb.c1⟩,fun _=>h.box.cells.2⟩
theorem kV.late {b B:Nat} (o:nB U B u1 u2 ml mL):kV b B fv tv u1 u2 true U:=⟨⟨o.tb.c0,o.tb.c1⟩,fun e=>by cases e⟩
end Go.Proofs.YtdmdhjmcoijpaaaGreatDoor
