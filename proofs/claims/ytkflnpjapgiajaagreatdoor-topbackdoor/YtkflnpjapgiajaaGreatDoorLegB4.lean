/- Part4: part 4. -/
import Derived.Test.YtkflnpjapgiajaaGreatDoorLegB3
set_option maxRecDepth 100000
set_option maxHeartbeats 400000000
set_option linter.unusedSimpArgs false
set_option linter.unusedVariables false
namespace Go.Proofs.YtkflnpjapgiajaaGreatDoor
open Value renaming slice→J,int→E,string→zX,pointer→zZ,bool→zd,agg→zp,tuple→zz
open IntKind renaming i64→yR,u32→yW
open Obj renaming cells→yd
open Ending renaming returned→yk
open Or renaming inl→yp,inr→xS
open Option renaming none→O,some→I
open Bool renaming true→xq,false→x3
open Go renaming World→wA,Value→wQ,undef→wd
open RowKit renaming Hid→we
open Go.Proofs.Tryz
open List renaming length→Z
open World renaming alloc→AC
open World renaming setCell→AF
open World renaming cell?→AJ
section
open Go.RowKit Go.Shelf
attribute [local go_sem] Oper.semAt_some
variable {w:wA}
def Ch (Bs Bk B:Nat) (V V':wA):Prop:=qX Bs V V'/\qX Bk V V'/\Below B V V'
theorem Ch.t {s a B:Nat} {X Y B1:wA} (h:Ch s a B X Y) (k:Ch s a B Y B1):Ch s a B X B1:=⟨h.1.t k.1,h.2.1.t k.2.1,h.2.2.trans k.2.2⟩
theorem Ch.b {s k B:Nat} (hs:s<w.heap.size) (e:k<w.heap.size) (d:B<=w.heap.size) (V:wA) (l:Nat) (o o':Obj) (c:w.heap.size<=l) (h1:V.heap[l]? =I o) (h:o.isCells=x3) (a:o.isWalk=x3):Ch s k B V (V.putObj l o'):=
 ⟨qX.b hs V l o o' c h1 h a,qX.b e V l o o' c h1 h a,xY d V l o o' c h1 h a⟩
theorem grown_drew (w:wA):w.grownBy w.drew none:=⟨rfl,rfl,rfl,ak _,fun _ _ _=>rfl⟩
abbrev CH (N:Nat):Type:= {i:Nat//i<N}
abbrev chV (gf gV k N:Nat) (x:CH N):Array Value:= #[J (I ⟨gf,gV+x.1*k*3,O⟩) k k]
theorem asT (n:Nat) (hn:1<=n) (l s a B gf b cap k N T:Nat) (h:T=N*k) (hk:1<=k) (aj:k<=4) (B2:N<=65536) (vI:T<=cap) (B6 f:List (CH N) ->wA ->Prop) (M:∀p V,B6 p V ->B6 p V.drew)
  (U:∀p x V,B6 p V ->Z p< N ->YieldAt Fence.wide (n - 1) prog l (chV gf b k N x) V fun e V'=>
   (e=yk (zd xq)/\B6 (p++[x]) V'/\Ch s a B V V')∨(e=yk (zd x3)/\f (p++[x]) V'))
  (V:wA) (A:AJ V ⟨s,0,O⟩=I (J (I ⟨gf,b,O⟩) T cap)) (L:AJ V ⟨a,0,O⟩=I (E yR (k:Nat))) (h0:B6 [] V):
  CallsIn Fence.wide n prog 239 #[.func (.yield l) #[] #[],zZ (I ⟨s,0,O⟩),zZ (I ⟨a,0,O⟩)] V fun e V'=>(∃v,e=yk v)/\
   ((∃y:List (CH N),y.map (·.1)=List.range N/\B6 y V')∨(∃p:List (CH N),(∃j,j<=N/\p.map (·.1)=List.range j)/\f p V')):=by
 refine JP func239 rfl trivial ?_ rfl;simp only[ntmps239,mX,dX,mo,Nat.reduceAdd,Nat.reduceSub,o8,o7,o6,oB,iH,gC];have B9:=Fa h;have ZH:T<=262144:=by rw[h];exact aO (ld B2 aj) a6
 clear h;gi_wp2
 gi_loopw [4] (fun i wr=>∃(j:Nat) (p:List (CH N)),j<=N/\i=E yR (j*k:Nat)/\we (p.map (·.1)=List.range j)/\B6 p wr/\wr.cell? ⟨s,0,O⟩=I (J (I ⟨gf,b,O⟩) T cap)/\wr.cell? ⟨a,0,O⟩=I (E yR (k:Nat)))
  (fun i _=>T - (intOf i).toNat)
 case atStart=>exact⟨0,[],aX _,by rw[oY];rfl,rfl,h0,A,L⟩
 case round=>
  obtain⟨j,p,hj,rfl,H,c,Y,m⟩:=hrel;by_cases t:j<N
  ·have ax:Z p=j:=by have:=eG List.length H.o;rwa [dm,A0] at this
   (have S:we ((p++[(⟨j,t⟩:CH N)]).map (·.1)=List.range (j+1)):=by show _=_;rw[gK,H.o,xZ];rfl);(have F:(j+1)*k<=T:=by rw[B9.o];exact mn k t);(have q:(j+1)*k=j*k+k:=by rw[iG,lK]);have K:we ((j+1)*k=j*k+k):=q;(have av:j*k+k<=T:=al);have Q:we (j*k=j*k):=rfl;clear q F;have z:=fun W P=>U p ⟨j,t⟩ W P al;simp only[chV] at z;generalize ZW:j*k=lo at *;have B1:=Fa z;clear z Q;have ao:=Fa ZW;clear ZW;(have ar:¬cap=lo:=al);(have jE:lo<=T:=al);(have ad:min (k:Int) ((T - lo:Nat):Int)=(k:Int):=al);gi_wp2
   gi_region
   have ai:=M p wr c;have r:AJ wr.drew ⟨s,0,O⟩=I (J (I ⟨gf,b,O⟩) T cap):=Y;have u:AJ wr.drew ⟨a,0,O⟩=I (E yR (k:Nat)):=m;clear Y m c ad;generalize wr.drew=X at *;obtain⟨fn,aR,aW,aJ,hy,R⟩:=B1.o X ai;have D:=Fa R;clear R;(have ay:IntKind.i64.wrap ((lo:Int)+(k:Int))=((lo+k:Nat):Int):=by rw[jx];omega);(have xo:(lo+k:Nat) - lo=k:=al);(have az:((lo+k:Nat):Int)<=(cap:Int):=al);generalize hhi:lo+k=g at *;(have aE:lo<=g:=al);have B7:=Fa hhi;clear hhi;gi_wp2
   refine D.o.af ?_;rintro e W3 (⟨rfl,ae,d⟩ |⟨rfl,an⟩)
   ·have aa:=Eq.trans d.1 r;have ab:=Eq.trans d.2.1 u;have w:we ((j+1)*k=g):=K.o;(have aM:lo<g:=by have:=B7.o;omega);(have aq:g<=T:=by have:=B7.o;omega);clear r u d;gi_wp2
    go_roundw
    case rel=>exact⟨j+1,_,al,by rw[w.o],S,ae,aa,ab⟩
    case measure=>simp[intOf];omega
   ·gi_wp2
    refine cN (results_none rfl _ _ _) rfl ?_;exact⟨⟨_,rfl⟩,xS ⟨_,⟨j+1,al,S.o⟩,an⟩⟩
  ·obtain rfl:j=N:=al
   rw[<- B9.o];gi_wp2
   go_end0
   exact⟨⟨_,rfl⟩,yp ⟨_,H.o,c⟩⟩
theorem asS (n:Nat) (a:Kd) (T cap k:Nat) (h:1<=k) (w:wA):
  CallsIn Fence.wide n prog 189 #[J a T cap,E yR (k:Nat)] w fun e w'=>e=yk (.func (.func 239) #[] #[zZ (I ⟨w.heap.size,0,O⟩),zZ (I ⟨w.heap.size+1,0,O⟩)])/\w'=AC (AC w (yd #[J a T cap] 36)) (yd #[E yR (k:Nat)] 3):=by
 refine JP func189 rfl trivial ?_ rfl;simp only[ntmps189,mX,dX,mo,Nat.reduceAdd,Nat.reduceSub,o8,o7,o6,oB,iH,gC];have b:(1:Int)<=(k:Int):=al
 gi_wp2
 go_ret;exact⟨rfl,rfl⟩
theorem asQ (n:Nat) (t:1<=n) (s a B gf g cap k N T:Nat) (m:T=N*k) (q:1<=k) (u:k<=4) (i:N<=65536) (B7:T<=cap) (w:wA) (A:s<w.heap.size) (v:a<w.heap.size) (h1:AJ w ⟨s,0,O⟩=I (J (I ⟨gf,g,O⟩) T cap)) (d:AJ w ⟨a,0,O⟩=I (E yR (k:Nat))):
  SeqStopsK Fence.wide n prog 239 #[zZ (I ⟨s,0,O⟩),zZ (I ⟨a,0,O⟩)] (chV gf g k N) (Ch s a B) (fun y=>y.map (·.1)=List.range N) (fun b=>∃j,j<=N/\b.map (·.1)=List.range j) N w:=fun l B6 x V h f _ Y c=>
 asT n t l s a B gf g cap k N T m q u i B7 B6 x (fun b U o=>f b U U.drew O o (grown_drew U) (fun r e=>by cases e)) Y V ((h.cell (p:=⟨s,0,O⟩) A).trans h1) ((h.cell (p:=⟨a,0,O⟩) v).trans d) c
end
open Go.RowKit Go.Shelf
variable {fn:Func} {ds:List Deferred} {B' lo n:Nat} {W':wA}
def Shut (lo:Nat):Nat ->List Deferred ->wA ->Prop
 |_,[],_=>True
 |B,d::ds,W=>∃r,lo<=r/\r<B/\d= {target:=.collected r,args:= #[]}/\W.heap[r]? =I (.deferred (I []))/\Shut lo r ds W
theorem Shut.af {B:Nat} {W:wA} (h:Shut lo B ds W) (e:B<=B'):Shut lo B' ds W:=by
 cases ds with
 |nil=>trivial
 |cons d ds=>
  obtain⟨r,a,c,b⟩:=h;exact⟨r,a,al,b⟩
theorem Shut.keep:∀ {ds:List Deferred} {B:Nat} {W W':wA},Shut lo B ds W ->(∀r,r< B ->W'.heap[r]? =W.heap[r]?) ->Shut lo B ds W'
 |[],_,_,_,_,_=>trivial
 |d::ds,B,W,W',h,hk=>by
  obtain⟨r,b,a,c,e,f⟩:=h;exact⟨r,b,a,c,(hk r a).trans e,f.keep fun k l=>hk k al⟩
theorem Shut.aa {B:Nat} {W:wA} (h:Shut lo B ds W) (b:Below B W W'):Shut lo B ds W':=h.keep fun r a=>b.block r a
theorem Ik {F:Fence} {P:Program} {m:Array wQ} {R:Ending ->wA ->Prop} {K:wA ->Prop}
  (b:∀W r,K W ->lo<=r ->W.heap[r]? =I (.deferred (I [])) ->K (W.putObj r (.deferred O))) (e:∀W,K W ->LeavesInM F n P fn m R [] .returning W):
  ∀(ds:List Deferred) (B:Nat) (W:wA),Shut lo B ds W ->K W ->LeavesInM F n P fn m R ds .returning W
 |[],_,W,_,hW=>e W hW
 |d::ds,B,W,h,hW=>by
  obtain⟨r,c,g,rfl,a,f⟩:=h;refine⟨aE,yp ⟨r,_,rfl,CM a,Ik b e ds r _ ?_ (b W r hW c a)⟩⟩;exact f.keep fun k i=>zh al
section
attribute [local go_sem] Oper.semAt_some
variable {g:Nat} {V' w:wA}
theorem WU {k:Int} (h:Boxed w g 32 (E yR k)) {p:Tmp} (r:fn.results= #[.cell p 32]) (m:Array wQ) (a:m.getD p wd=zZ (I ⟨g,0,O⟩)):(results fn m).run prog w=.ok (E yR k) w:=by
 have b:m[p]?.getD wd=zZ (I ⟨g,0,O⟩):=by simpa using a
 have c:=h.cell;simp only[results,r];simp[b,asAddr];go_simp
theorem ais {V:wA} (h:da V V'):KeepsOthers V V':=⟨h.size,fun k _ a _=>(h.block k (c5.1 a).1).trans a⟩
theorem ank {β:Type} {n B:Nat} {Q:β ->wA ->Prop} (c:n<=B):OwnFrom B (fun (s:β) W=>∃V,Q s V/\n<=V.heap.size/\Below n V W):=fun s W W' o hs g r=>by
 obtain⟨V,b,h,a⟩:=hs;exact⟨V,b,h,a.grown g (aO h a.size) (fun k e=>aO c (r k e).1)⟩
def p7 (w:wA) (k:Int) (W:wA):Prop:=Boxed W (w.heap.size+1) 32 (E yR k)/\da w W
theorem p7.shut {k:Int} (l:w.heap.size+1<lo) (W:wA) (r:Nat) (h:p7 w k W) (a:lo<=r) (d:W.heap[r]? =I (.deferred (I []))):p7 w k (W.putObj r (.deferred O)):=
 ⟨(zh al).trans h.1,h.2.trans (xY (w:=w) (ak _) W r _ _ al d rfl rfl)⟩
theorem p7.put {W:wA} {k:Int} (h:p7 w k W) (j:Int):p7 w j (AF W ⟨w.heap.size+1,0,O⟩ (E yR j)):=⟨h.1.set _,h.2.setCell (p:=⟨w.heap.size+1,0,O⟩) aE _⟩
theorem Shut.put {B:Nat} {W:wA} (h:Shut lo B ds W) (i:g<lo) (v:wQ):Shut lo B ds (AF W ⟨g,0,O⟩ v):=by
 induction ds generalizing B with
 |nil=>trivial
 |cons d ds ih=>
  obtain⟨r,a,b,c,e,f⟩:=h;exact⟨r,a,b,c,(eO W ⟨g,0,O⟩ v r (by show r≠g;omega)).trans e,ih f⟩
theorem asV (a b c:Kd) (ca cb cc:Nat) (V:List Vr) (L:List Kx) (R:List (List Fr)) (w:wA) (h:jc w a b c V L R) (hs:sX V L R) (vN:Z L=Z V) (Ac:Z R=Z V) (hg:bq L=0) (hv:mA V=0):
  c6 136 #[zp #[J a (Z V) ca,J b (Z L) cb,J c (Z R) cc]] w (dj w (E yR (kD (jA (ah V) L R) (Z V)))):=by
 refine(jg (n:=6)).1 ?_;obtain⟨aR,ch,B2⟩:=ahr vN hg hv;have HI:=Fa h;have OZ:=hs.Fd.1;have br:=Fa hs.rows.2;have dP:=Fa aR;have mg:=Fa B2;have ie:=Fa (fun (U:wA) (hU:tM U a V)=>NI a b c ca cb cc (Z L) (Z R) V U hU OZ);have HA:we (∀i,i<Z V ->(∀j,j< i ->jA (ah V) L R j=0) ->∀k,jA (ah V) L R i=k ->k≠0 ->kD (jA (ah V) L R) (Z V)=k):=fun i S hz k hk bA=>by rw[Pn hz (by rw[hk];exact bA) S,hk]
 have HZ:we ((∀j,j<Z V ->jA (ah V) L R j=0) ->kD (jA (ah V) L R) (Z V)=0):=fun h=>B5 h;have Mp:=Fa vN;have En:=Fa Ac;generalize kD (jA (ah V) L R) (Z V)=fe at *;clear h hs aR B2 vN Ac hg hv;have O5:NK w ((w.alloc (NC (J a (Z V) ca) (J b (Z L) cb) (J c (Z R) cc))).alloc (yd #[E yR 0] 32)) (J a (Z V) ca) (J b (Z L) cb) (J c (Z R) cc):=(NK.new w (J a (Z V) ca) (J b (Z L) cb) (J c (Z R) cc)).step ((aw _ _).alloc (ak _) _)
 have aZ:Boxed ((w.alloc (NC (J a (Z V) ca) (J b (Z L) cb) (J c (Z R) cc))).alloc (yd #[E yR 0] 32)) (w.heap.size+1) 32 (E yR 0):=by
  have h:=bE (w.alloc (NC (J a (Z V) ca) (J b (Z L) cb) (J c (Z R) cc))) 32 (E yR 0);rwa [eW] at h
 have mi:=Fa O5;have aj:=Fa aZ;obtain⟨c0,c1,c2⟩:=O5.1.cells;clear O5 aZ;refine wF func136 rfl trivial ?_ rfl;simp only[ntmps136,mX,dX,mo,Nat.reduceAdd,Nat.reduceSub,o8,o7,o6,oB,iH,gC];gi_wp2_with (refine⟨trivial,?_⟩;gi_at_call 91;refine(jg.2 (ie.o _ (HI.o.aa mi.o.2).Fd)).af ?_;rintro e q ⟨G,rfl,DK,bm,f⟩;have aq:=mi.o.step f;have ZY:=(f.block (w.heap.size+1) (c5.1 aj.o).1).trans aj.o;clear c0 c1 c2;obtain⟨c0,c1,c2⟩:=aq.1.cells)
 clear f;have az:=Fa aq;have wB:we (Boxed q (w.heap.size+1) 32 (E yR 0)):=ZY;have xO:=Fa bm;have TF:w.heap.size+1<q.heap.size:=(c5.1 ZY).1;clear aq ZY bm c0 c1 c2 mi aj ie DK;refine wpIn_loop (fun a' w'=>∃(v:Nat) (ds:List Deferred) (u4 u5 u6 u7 u15 u16 Nb Na Kh u20 u21 u22 u23 u24 M9 u26 M8 u28 C0 M7 M6 u32 u33 u34 u35 u36 u37 u38 u39 u40 u41 u42 Kg Wl:wQ),a'= {tmps:= #[zp #[J a (Z V) ca,J b (Z L) cb,J c (Z R) cc],zZ (I ⟨w.heap.size,0,O⟩),zZ (I ⟨w.heap.size+1,0,O⟩),J (I ⟨G,0,O⟩) (Z V) (Z V),u4,u5,u6,u7,wd,zp #[J a (Z V) ca,J b (Z L) cb,J c (Z R) cc],J (I ⟨G,0,O⟩) (Z V) (Z V),zZ (I ⟨w.heap.size,2,O⟩),J c (Z R) cc,E yR (Z R:Nat),E yR (v:Nat),u15,u16,Nb,Na,Kh,u20,u21,u22,u23,u24,M9,u26,M8,u28,C0,M7,M6,u32,u33,u34,u35,u36,u37,u38,u39,u40,u41,u42,Kg,wd,wd,wd,wd,Wl],defers:=ds}/\v<=Z R/\we (∀j,j< v ->jA (ah V) L R j=0)/\we (da q w')/\we (Shut q.heap.size w'.heap.size ds w')) (fun a' _=>Z R - (intOf (a'.tmps.getD 14 wd)).toNat) ?_ ?_
 ·exact⟨0,[],_,_,_,_,_,_,_,_,_,_,_,_,_,_,_,_,_,_,_,_,_,_,_,_,_,_,_,_,_,_,_,_,_,_,rfl,aX _,(fun j hj=>absurd hj al),aw _ _,trivial⟩
 intro a' wr b1;obtain⟨v,ds,u4,u5,u6,u7,u15,u16,Nb,Na,Kh,u20,u21,u22,u23,u24,M9,u26,M8,u28,C0,M7,M6,u32,u33,u34,u35,u36,u37,u38,u39,u40,u41,u42,Kg,Wl,rfl,hv,an,H,tT⟩:=b1;have bF:q.heap.size<=wr.heap.size:=H.o.size;by_cases ad:v<Z R
 ·have B9:=az.o.step H.o;have M:=xO.o.aa H.o xO.o.lt;have gh:v<Z L:=by rw[Mp.o, <- En.o];exact ad
  have Fx:v<Z V:=by rw[<- En.o];exact ad
  obtain⟨gr,jY,bf,g,rfl,bz,r1,Oc,S6⟩:=HI.o.rows v ad;obtain⟨gp,iy,bp,cp,rfl,im,p1,lU⟩:=HI.o.pars v gh;obtain⟨c0,c1,c2⟩:=B9.1.cells;have r2:=(B9.2.cell (p:=⟨gr,jY+v,O⟩) bz).trans r1;have p2:=(B9.2.cell (p:=⟨gp,iy+v,O⟩) im).trans p1;have P:Z (ah V)=Z V:=lQ V;have B2:Up L[v] (Z V):=by rw[<- Mp.o];exact mg.o v gh
  have kR:∀u,sz (ah V) u<=4:=fun u=>by have:=dP.o.sz_le u;rwa [jL] at this
  have fC:Pos (ah V):=by have:=dP.o.pos;rwa [jL] at this
  have hN:cnt (ah V) (ag L[v])<=65536:=xC kR (by rw[gG];have:=B2.length;have:=Mp.o;omega);have B0:1<=cnt (ah V) (ag L[v]):=LP fC _;have bd:=kR v;have Dr:=jM fC v;have zK:=M.cell v (by rw[P];exact Fx);have Ob:(ah V)[v]'(by rw[P];exact Fx)=sz (ah V) v:=by rw[sz,ba (by rw[P];exact Fx)];rfl
  rw[Ob] at zK;have cj:=B2.length
  have uW:we (CallsIn Fence.wide 5 prog 92 #[J (I ⟨G,0,O⟩) (Z V) (Z V),J bp L[v].length cp] wr fun e w'=>e=yk (zz #[E yR (cnt (ah V) (ag L[v]):Nat),E yR 0])/\da wr w'):=by
   have bx:countB (iL (ah V)) L[v]=true:=LM dP.o (by rw[bM,P];exact B2);have hc:=Rq (I ⟨G,0,O⟩) bp (Z V) cp (iL (ah V)) L[v] wr M.ints (lU.aa B9.2) (by rw[bM,P];have:=Mp.o;omega) (by have:=Mp.o;omega);rw[LN bx,jL,bM,P] at hc;exact jg.2 hc
  have xP:we (jA (ah V) L R v=if R[v].length=cnt (ah V) (ag L[v])*sz (ah V) v then(if ((List.range (cnt (ah V) (ag L[v]))).all fun i=>jl (fX R[v] (sz (ah V) v) i))=xq then 0 else 9) else 8):=by
   show _=_;rw[jA,cK,ba ad,cK,ba gh];rfl
  have Qc:=Fa (Oc.aa B9.2);have FM:=br.o R[v] (bQ ad);have ay:=Fa (HA.o v Fx an.o);generalize L[v]=pl at *;generalize R[v]=r at *;have IG:Z pl<=8:=by have:=Mp.o;omega
  clear Oc r1 p1 lU B2 kR fC Ob P;generalize Y5:sz (ah V) v=k at *;generalize cnt (ah V) (ag pl)=N at *;clear Y5;have bw:N*k<=262144:=aO (ld hN bd) a6;have ax:(N:Int)*(k:Int)=((N*k:Nat):Int):=(ng _ _).symm;have bO:IntKind.i64.wrap ((N:Int)*(k:Int))=((N*k:Nat):Int):=by rw[ax,jx];omega
  have b3:=Fa ax;clear ax;by_cases hT:Z r=N*k
  ·rw[aA hT] at xP;rw[<- hT] at bO;have bC:k<=N*k:=ES k B0;(have lr:0<Z r:=al);obtain⟨gf,gV,rfl,yF, -⟩:=Qc.o 0 lr;have Ei:=Fa hT;clear hT bw bC;have b8:Z r<=5000:=FM.1;(have bJ:((Z r:Int) !=(Z r:Int))=false:=aE)
   gi_wp2_with (first
    |(refine⟨trivial,?_⟩;gi_at_call 92;refine uW.o.af ?_;rintro e d ⟨rfl,f⟩;have ai:=B9.step f;have bN:=M.aa f M.lt;have aJ:=(f.cell (p:=⟨G,v,O⟩) M.lt).trans zK;clear c0 c1 c2 r2 p2 zK)
    |(refine⟨trivial,?_⟩;gi_at_call 189;refine(asS _ _ _ _ k Dr _).af ?_;rintro e s ⟨rfl,rfl⟩))
   (have b5:(AC (AC d (yd #[J (I ⟨gf,gV,O⟩) (Z r) g] 36)) (yd #[E yR (k:Nat)] 3)).heap.size=d.heap.size+1+1:=aE);have ar:AJ (AC (AC d (yd #[J (I ⟨gf,gV,O⟩) (Z r) g] 36)) (yd #[E yR (k:Nat)] 3)) ⟨d.heap.size,0,O⟩=I (J (I ⟨gf,gV,O⟩) (Z r) g):=((bE d 36 (J (I ⟨gf,gV,O⟩) (Z r) g)).alloc _).cell
   have av:AJ (AC (AC d (yd #[J (I ⟨gf,gV,O⟩) (Z r) g] 36)) (yd #[E yR (k:Nat)] 3)) ⟨d.heap.size+1,0,O⟩=I (E yR (k:Nat)):=by
    have h:=(bE (AC d (yd #[J (I ⟨gf,gV,O⟩) (Z r) g] 36)) 3 (E yR (k:Nat))).cell;rwa [eW] at h
   have Zq:da d (AC (AC d (yd #[J (I ⟨gf,gV,O⟩) (Z r) g] 36)) (yd #[E yR (k:Nat)] 3)):=((aw _ d).alloc (ak _) _).alloc aE _;generalize (AC (AC d (yd #[J (I ⟨gf,gV,O⟩) (Z r) g] 36)) (yd #[E yR (k:Nat)] 3))=s at *;have kR:=f.size;have ZR:=ai.step Zq;have tH:da wr s:=f.trans (Zq.af kR);have bo:=Fa (Qc.o.aa tH);have aM:=Fa ((tT.o.aa tH).af (show wr.heap.size<=s.heap.size by omega));have pY:we (p7 w 0 s):=⟨(tH.block (w.heap.size+1) al).trans ((H.o.block (w.heap.size+1) TF).trans wB.o),ZR.2⟩;have b4:=Fa ZR;have fh:=Fa (H.o.trans (tH.af bF));clear f ai bN aJ Zq B9 M ZR uW xO H tT Qc tH
   refine QI (α:=CH N) rfl al (gf:=239) (lb:= #[zZ (I ⟨d.heap.size,0,O⟩),zZ (I ⟨d.heap.size+1,0,O⟩)]) rfl trivial (enters_of func239 ao rfl)
    (asQ 5 al d.heap.size (d.heap.size+1) s.heap.size gf gV g k N (Z r) Ei.o Dr bd hN S6 s al al ar av) Ch.t (Ch.b al al (ak _)) (aw _ _) (fun _=>rfl)
    (fun (T:List (CH N)) X=>da s X/\∀x∈T,jl (fX r k x.1)=xq)
    (fun cd (T:List (CH N)) X=>∃Y,(cd=Code.ret/\(∃x∈T,jl (fX r k x.1)=x3)/\p7 w 9 Y/\Shut q.heap.size s.heap.size ds Y)/\s.heap.size<=Y.heap.size/\Below s.heap.size Y X)
    (gJ (CO (ak _) (ak _)) (fun _ _ _ _ hs _ _=>hs))
    (fun cd=>ank (Q:=fun (T:List (CH N)) Y=>cd=Code.ret/\(∃x∈T,jl (fX r k x.1)=x3)/\p7 w 9 Y/\Shut q.heap.size s.heap.size ds Y) (ak _))
    ⟨aw _ _,fun x A=>absurd A aE⟩
    (fun x=> {tmps:= #[zp #[J a (Z V) ca,J (I ⟨gp,iy,O⟩) (Z L) cb,J (I ⟨gr,jY,O⟩) (Z R) cc],zZ (I ⟨w.heap.size,0,O⟩),zZ (I ⟨w.heap.size+1,0,O⟩),J (I ⟨G,0,O⟩) (Z V) (Z V),E yR (v:Nat),J (I ⟨gf,gV,O⟩) (Z r) g,E yR (N:Nat),E yR 0,J (I ⟨gf,gV+x.1*k*3,O⟩) k k,zp #[J a (Z V) ca,J (I ⟨gp,iy,O⟩) (Z L) cb,J (I ⟨gr,jY,O⟩) (Z R) cc],J (I ⟨G,0,O⟩) (Z V) (Z V),zZ (I ⟨w.heap.size,2,O⟩),J (I ⟨gr,jY,O⟩) (Z R) cc,E yR (Z R:Nat),E yR (v:Nat),zd xq,E yR (v:Nat),zZ (I ⟨gr,jY+v,O⟩),J (I ⟨gf,gV,O⟩) (Z r) g,zz #[E yR (N:Nat),E yR 0],J (I ⟨G,0,O⟩) (Z V) (Z V),zZ (I ⟨w.heap.size,1,O⟩),J (I ⟨gp,iy,O⟩) (Z L) cb,E yR (v:Nat),zZ (I ⟨gp,iy+v,O⟩),J bp (Z pl) cp,zz #[E yR (N:Nat),E yR 0],E yR (N:Nat),E yR 0,J (I ⟨gf,gV,O⟩) (Z r) g,E yR (Z r:Nat),E yR (N:Nat),J (I ⟨G,0,O⟩) (Z V) (Z V),E yR (v:Nat),zZ (I ⟨G,v,O⟩),E yR (k:Nat),E yR (Z r:Nat),zd x3,J (I ⟨gf,gV,O⟩) (Z r) g,J (I ⟨G,0,O⟩) (Z V) (Z V),E yR (v:Nat),zZ (I ⟨G,v,O⟩),E yR (k:Nat),.func (.func 239) #[] #[zZ (I ⟨d.heap.size,0,O⟩),zZ (I ⟨d.heap.size+1,0,O⟩)],J (I ⟨gf,gV+x.1*k*3,O⟩) k k,wd,wd,wd,Wl],defers:=[]}) ?assign ?body ?done ?stop
   case assign=>
    intro l x X K B7;gi_wp2
    exact B7
   case body=>
    rintro l T ⟨i,S⟩ X ⟨y,ae⟩ b2;(have bk:(i+1)*k<=Z r:=by rw[Ei.o];exact mn k S);obtain⟨zT,bg⟩:=dE.chunk (m:=k) (bo.o.aa y) bk rfl;have Y7:=apF (I ⟨gf,gV+i*k*3,O⟩) k (fX r k i) X zT (aO (ars r k i) FM.2) al;rw[bg] at Y7;have ZA:=y.size;have Cz:=Fa Y7;have bT:=Fa y;have xV:=Fa ae;clear Y7 zT bg bk y ae ar av b2;cases sG:jl (fX r k i)
    case true=>
     rw[sG] at Cz;have Qd:=Fa sG;clear sG;gi_wp2_with (refine⟨trivial,?_⟩;gi_at_call 190;refine(Q8 l (jg.2 Cz.o)).af ?_;rintro e X2 ⟨rfl,F⟩)
     refine⟨(ais F).from _,⟨F.cell (p:=⟨d.heap.size,0,O⟩) (by show d.heap.size<X.heap.size;omega),F.cell (p:=⟨d.heap.size+1,0,O⟩) (by show d.heap.size+1<X.heap.size;omega),F.af ZA⟩,bT.o.trans (F.af ZA),fun x A=>?_⟩;rcases bH.1 A with A |A
     ·exact xV.o x A
     ·rw[bD.1 A];exact Qd.o
    case false=>
     rw[sG] at Cz;have Qd:=Fa sG;clear sG;gi_wp2_with (refine⟨trivial,?_⟩;gi_at_call 190;refine(Q8 l (jg.2 Cz.o)).af ?_;rintro e X2 ⟨rfl,F⟩;have ab:=bT.o.trans (F.af ZA);have z:=(ab.block (w.heap.size+1) al).trans pY.o.1;have vH:=Boxed.cell z;have OG:=Boxed.frozen z)
     have bu:p7 w 9 (AF X2 ⟨w.heap.size+1,0,O⟩ (E yR 9)):=p7.put (k:=0) ⟨z,pY.o.2.trans (ab.af al)⟩ 9;refine⟨((ais F).trans (kh X2 _ _)).from _,_,⟨rfl,⟨⟨i,S⟩,aE,Qd.o⟩,bu,(aM.o.aa ab).put al _⟩,?_,aw _ _⟩;have b6:=F.size;simp;omega
   case done=>
    rintro D ys X hD Fv ⟨y,ae⟩ B7
    have UU:we (jA (ah V) L R v=0):=by
     show _=_;rw[xP.o,aA];rw[fG];intro i S;rw[<- Fv] at S;obtain⟨x,A,rfl⟩:=aQ.1 S;exact ae x A
    have DM:D<X.heap.size:=(c5.1 B7).1;have ab:=fh.o.trans (y.af al);have a1:Shut q.heap.size X.heap.size ({target:=.collected D,args:= #[]}::ds) X:=⟨D,al,DM,rfl,B7,(aM.o.aa y).af hD⟩;have bT:=Fa ab;have Jl:=Fa a1;clear B7 ae Fv ab a1 ar av y;gi_wp2
    refine⟨⟨v+1,_,_,_,_,_,_,_,_,_,_,_,_,_,_,_,_,_,_,_,_,_,_,_,_,_,_,_,_,_,_,_,_,_,_,_,rfl,al,(fun j hj=>?_),bT,Jl⟩,?_⟩
    ·rcases dR j v with h |h
     ·exact an.o j h
     ·rw[show j=v by omega];exact UU.o
    ·simp[intOf];omega
   case stop=>
    rintro D cd T X hD b7 ⟨Y,⟨rfl,⟨x,A,b0⟩,bb,uA⟩,cg,y⟩ B7
    have kW:fe=9:=ay.o 9 (by
     rw[xP.o,aD];intro h;rw[fG] at h;have:=h x.1 (bR.2 x.2);rw[b0] at this;cases this) a6
    have DM:D<X.heap.size:=(c5.1 B7).1;have bs:p7 w 9 X:=⟨(y.block (w.heap.size+1) al).trans bb.1,bb.2.trans (y.af al)⟩;gi_wp2
    refine Ik (lo:=q.heap.size) (K:=p7 w 9) (p7.shut al) (fun B1 B6=>⟨_,WU B6.1 rfl _ rfl,?_,B6.2⟩) _ X.heap.size X ⟨D,al,DM,rfl,B7,(uA.aa y).af hD⟩ bs;rw[kW]
  ·rw[aD hT] at xP;have kW:fe=8:=ay.o 8 xP.o a6
   have bJ:((Z r:Int) !=((N*k:Nat):Int))=true:=by
    (have:¬(Z r:Int)=((N*k:Nat):Int):=al);simpa using this
   clear hT;have kK:=H.o;gi_wp2_with (refine⟨trivial,?_⟩;gi_at_call 92;refine uW.o.af ?_;rintro e d ⟨rfl,f⟩;have ai:=B9.step f;have aJ:=(f.cell (p:=⟨G,v,O⟩) M.lt).trans zK;have z:Boxed d (w.heap.size+1) 32 (E yR 0):=(f.block (w.heap.size+1) al).trans ((H.o.block (w.heap.size+1) TF).trans wB.o);have vH:=Boxed.cell z;have OG:=Boxed.frozen z;clear c0 c1 c2 r2 p2 zK)
   refine Ik (lo:=q.heap.size) (K:=p7 w 8) (p7.shut al) (fun B1 B6=>⟨_,WU B6.1 rfl _ rfl,?_,B6.2⟩) _ wr.heap.size _ ((tT.o.aa f).put al _) (p7.put (k:=0) ⟨z,ai.2⟩ 8);rw[kW]
 ·obtain rfl:v=Z R:=al
  have kW:fe=0:=HZ.o (fun j hj=>an.o j (by rw[En.o];exact hj));have z:Boxed wr (w.heap.size+1) 32 (E yR 0):=(H.o.block (w.heap.size+1) TF).trans wB.o;have vH:=Boxed.cell z;have OG:=Boxed.frozen z;have B9:=az.o.step H.o;gi_wp2
  refine Ik (lo:=q.heap.size) (K:=p7 w 0) (p7.shut al) (fun B1 B6=>⟨_,WU B6.1 rfl _ rfl,?_,B6.2⟩) _ wr.heap.size _ (tT.o.put al _) (p7.put (k:=0) ⟨z,B9.2⟩ 0);rw[kW]
end
theorem aie (a b c:Kd) (ca cb cc:Nat) (V:List Vr) (L:List Kx) (R:List (List Fr)) (w:wA) (h:jc w a b c V L R) (hs:sX V L R):
  c6 81 #[zp #[J a (Z V) ca,J b (Z L) cb,J c (Z R) cc]] w fun e w'=>e=yk (E yR (aU V L R))/\da w w':=
 aos a b c ca cb cc V L R w h hs fun d f g i U j=>asV a b c ca cb cc V L R U j hs d f g i
open Go.Lib
variable {bk:Bool} {Rs:List PR} {Vs:List PV}
structure NM (V:List Vr) (L:List Kx) (R:List (List Fr)):Prop where
 ok:aU V L R=0
 one:1<=Z V
 six:Z V<=6
 szs:∀u,sz (ah V) u<=3
 few:∀l∈L,Z l<=3
 auW:∀l∈R,∀f∈l,f.2.1.size+f.2.2.size<=2
 small:sX V L R
 light:∀l∈R,fw l<=400
theorem ag9:∀ {l:List Fr},(∀f∈l,f.2.1.size+f.2.2.size<=2) ->fw l<=4*Z l
 |[],_=>ak _
 |f::l,h=>by
  have b:=h f dA;have c:=ag9 fun g a=>h g (dL _ a);simp only[fw,dX];omega
theorem ao8 {Ls:List PL} (V:VK n Vs) (h:Eb bk n n (ah (iT Vs)) Ls Rs) (h1:1<=n) (y:n<=6):NM (iT Vs) (jm Ls) (qC Rs):=by
 have H:Z (iT Vs)=n:=by simp[iT,V.len]
 have B9:Z (jm Ls)=n:=by simp[jm,h.len]
 have F:Z (qC Rs)=n:=by simp[qC,h.lenR]
 have e:=V.Fb
 have q:∀l∈qC Rs,∀f∈l,f.2.1.size+f.2.2.size<=2:=fun l B6=>by
  obtain⟨p,b,rfl⟩:=aQ.1 B6;obtain⟨j,a,rfl⟩:=iQ b;exact(h.rows j (by have:=h.len;have:=h.lenR;omega) a).small
 have t:∀l∈qC Rs,Z l<=81:=fun l B6=>by
  obtain⟨p,b,rfl⟩:=aQ.1 B6;obtain⟨j,a,rfl⟩:=iQ b;have A:j<Z Ls:=by have:=h.len;have:=h.lenR;omega
  rw[(h.rows j A a).len];have w:=(ah9 e (l:=ag Ls[j].2) (by rw[gG];exact(h.pars j A).few)).2;have o:=(e.sz j).2;exact aO (ld w o) a6
 have L:∀l∈jm Ls,Z l<=3:=fun l B6=>by
  obtain⟨p,b,rfl⟩:=aQ.1 B6;obtain⟨j,a,rfl⟩:=iQ b;exact(h.pars j a).few
 have r:∀l∈qC Rs,fw l<=400:=fun l B6=>by
  have:=ag9 (q l B6);have:=t l B6;omega
 have m:∀c i,i<10 ->(kr c i).size<=5000:=fun c i d=>by
  have h1:(kr c i).size=1+(LH i).size:=by rw[kr,ByteArray.size_append];rfl
  rw[h1,aap d];omega
 refine⟨ao9 V h h1 y,al,al,fun u=>(e.sz u).2,L,q,⟨⟨al,fun x z=>?_⟩,⟨al,fun l B6=>by have:=L l B6;omega⟩,⟨al,fun l B6=>⟨by have:=t l B6;omega,by have:=r l B6;omega⟩⟩⟩,r⟩;obtain⟨p,b,rfl⟩:=aQ.1 z;obtain⟨j,a,rfl⟩:=iQ b;obtain⟨v,k,_,o,g⟩:=V.each j a;have D:j<10:=by have:=V.len;omega
 refine⟨by rw[show (Vs[j].1,Vs[j].2.2).1=Vs[j].1 from rfl,v];exact m 110 j D,?_,?_⟩
 ·rw[show (Vs[j].1,Vs[j].2.2).2=Vs[j].2.2 from rfl,g,Rj];omega
 ·rw[show (Vs[j].1,Vs[j].2.2).2=Vs[j].2.2 from rfl,g];intro s hs;obtain⟨i,d,rfl⟩:=aQ.1 hs;have:=bR.1 d;exact m 118 i al
theorem apa (g h i:Kd) (j k l:Nat) (d L2 f:Kx) (bk:Bool) (w:wA) (h1:aC w g d) (o:aC w h L2) (p:aC w i f) (D:Cc d) (B7:Cc L2) (B6:Cc f):
  c6 20 #[zp #[J g (Z d) j,J h (Z L2) k,J i (Z f) l,zd bk]] w fun e w'=>∃(a b c:Kd) (ca cb cc:Nat) (V:List Vr) (L:List Kx) (R:List (List Fr)),e=yk (zp #[J a (Z V) ca,J b (Z L) cb,J c (Z R) cc])/\jc w' a b c V L R/\pU w' b L/\NM V L R/\da w w':=by
 refine(apc g h i j k l d L2 f bk w h1 o p D B7 B6).af ?_;rintro e w' ⟨K,n,x,y,z,Vs,Ls,Rs,rfl,⟨m,B2⟩,r,q,v,t,u,s⟩;obtain⟨a,ca,rfl,H⟩:=v.Fd;obtain⟨b,cb,rfl,B9,A⟩:=t.pars;obtain⟨c,cc,rfl,F⟩:=u.rows;exact⟨a,b,c,ca,cb,cc,_,_,_,rfl,⟨H,B9,F⟩,A,ao8 r q m B2,s⟩
variable {R:List (List Fr)} {L:List Kx} {V:List Vr}
def aa1 (l:List ByteArray):Prop:=∀i (h:i<Z l),Bx l[i]=xq/\zD (l.take i) l[i]=x3
theorem aeQ {l:List ByteArray} (h:oI l=0):aa1 l:=fun i b=>by
 have a:=DU h i b;rw[ym,TP b] at a;by_cases e:Bx l[i]=xq
 ·rw[aA e] at a;refine⟨e,?_⟩;cases hm:zD (l.take i) l[i] with
  |false=>rfl
  |true=>rw[hm,aA rfl] at a;exact absurd a a6
 ·rw[aD e] at a;exact absurd a a6
structure VOK (V:List Vr):Prop where
 nm:aa1 (lR V)
 len:∀i (h:i<Z V),1<=V[i].2.length/\V[i].2.length<=4
 vl:∀i (h:i<Z V),aa1 V[i].2
theorem ajW (h:mA V=0):VOK V:=by
 rw[mA] at h;by_cases b:oI (lR V)=0
 ·rw[aA b] at h;have c:=DU h
  have d:∀i (a:i<Z V),1<=V[i].2.length/\V[i].2.length<=4:=fun i a=>by
   have f:=c i a;by_cases e:1<=V[i].2.length/\V[i].2.length<=4
   ·exact e
   ·rw[abX a e] at f;exact absurd f a6
  exact⟨aeQ b,d,fun i a=>aeQ (by rw[<- abW a (d i a)];exact c i a)⟩
 ·rw[aD b] at h;exact absurd h b
theorem XL (h:aU V L R=0):VOK V/\bq L=0/\∀v,v<Z V ->∀i,i<cnt (ah V) (ag (L.getD v [])) ->jl (fX (R.getD v []) (sz (ah V) v) i)=true:=by
 rw[aU] at h;by_cases d:Z L=Z V/\R.length=Z V
 ·rw[aA d] at h;by_cases b:bq L=0
  ·rw[aA b] at h;by_cases c:mA V=0
   ·rw[aA c] at h;refine⟨ajW c,b,fun v j i g=>?_⟩;have a:=DU h v j;rw[jA] at a;by_cases e:Z (R.getD v [])=cnt (ah V) (ag (L.getD v []))*sz (ah V) v
    ·rw[aA e] at a;by_cases f:((List.range (cnt (ah V) (ag (L.getD v [])))).all fun i=>jl (fX (R.getD v []) (sz (ah V) v) i))=xq
     ·exact fG.1 f i (bR.2 g)
     ·rw[aD f] at a;exact absurd a a6
    ·rw[aD e] at a;exact absurd a a6
   ·rw[aD c] at h;exact absurd h c
  ·rw[aD b] at h;exact absurd h b
 ·rw[aD d] at h;exact absurd h a6
def lT (f:Fr):Fr:=qF (bj f)
def cC (R:List (List Fr)):List (List Fr):=R.map fun l=>l.map lT
theorem T3 (f:Fr):bj (lT f)=bj f:=kN _
theorem arx (l:List Fr):b9 (l.map lT)=b9 l:=by
 have e:∀(l:List Fr) (s:Rat),(l.map lT).foldl (fun s f=>s+cV f) s=l.foldl (fun s f=>s+cV f) s:=by
  intro l;induction l with
  |nil=>intro s;rfl
  |cons f l ih=>
   intro s;rw[fR,uk,uk,ih];congr 1
   exact eG (s+·) (T3 f)
 exact e l 0
theorem alS (l:List Fr):jl (l.map lT)=jl l:=by
 rw[jl,jl,arx,List.all_map];congr 1
 exact eG (fun p=>l.all p) (funext fun f=>by simp only[Function.comp,T3])
theorem asR (l:List Fr) (s i:Nat):fX (l.map lT) s i=(fX l s i).map lT:=by rw[fX,fX,List.map_take,List.map_drop]
theorem Z9 (R:List (List Fr)) (v:Nat):(cC R).getD v []=(R.getD v []).map lT:=by
 rw[cK,cK,cC,mr];cases R[v]?<;>rfl
theorem Sp (V:List Vr) (L:List Kx) (R:List (List Fr)):aU V L (cC R)=aU V L R:=by
 have e:Z (cC R)=Z R:=by simp[cC]
 have a:∀v,jA (ah V) L (cC R) v=jA (ah V) L R v:=fun v=>by
  rw[jA,jA,Z9,dm];simp only[asR,alS]
 have b:jA (ah V) L (cC R)=jA (ah V) L R:=funext a;rw[aU,aU,e,b]
section
attribute [local go_sem] Oper.semAt_some
variable {Q:Exit ->Act ->wA ->Prop} {w:wA}
theorem ar5 (n:Nat) (q:1<=n) (l:Nat) (s:Jp) (hs:∀u∈s,u<8) (B6:Nat ->wA ->Prop)
  (Y:∀k V,k< 8 ->k∈s ->B6 k V ->YieldAt Fence.wide (n - 1) prog l #[E yR (k:Nat)] V fun e V'=>e=yk (zd xq)/\B6 (k+1) V')
  (p:∀k V,k< 8 ->¬k∈s ->B6 k V ->B6 (k+1) V) (V:wA) (h0:B6 0 V):
  CallsIn Fence.wide n prog 182 #[E yW (aB s:Nat),.func (.yield l) #[] #[]] V fun e V'=>(∃v,e=yk v)/\B6 8 V':=by
 refine JP func182 rfl trivial ?_ rfl;simp only[ntmps182,mX,dX,mo,Nat.reduceAdd,Nat.reduceSub,o8,o7,o6,oB,iH,gC];have H:=Fa (fun (k:Nat) (g:k<8) (U:wA)=>Kt s k U hs g);generalize aB s=m at *;gi_wp2
 gi_loopw [5] (fun i wr=>∃k:Nat,k<=8/\i=E yR k/\B6 k wr) (fun i _=>8 - (intOf i).toNat)
 case atStart=>exact⟨0,aX _,rfl,h0⟩
 case round=>
  obtain⟨k,g,rfl,c⟩:=hrel;by_cases t:k<8
  ·have z:(k:Int)<8:=al
   have a:=Fa (H.o k t);by_cases b:k∈s
   ·rw[cJ b] at a;obtain⟨fn,x,A,r,y,R⟩:=Y k wr t b c;have j:=Fa R;clear R;gi_wp2_with (refine⟨trivial,?_⟩;gi_at_call 222;refine(jg.2 (a.o _)).af ?_;rintro e w' ⟨rfl,w⟩;subst w)
    refine j.o.af ?_;rintro e W3 ⟨rfl,d⟩;gi_wp2
    go_roundw
    case rel=>exact⟨k+1,al,bd,d⟩
    case measure=>simp[intOf];omega
   ·rw[cT b] at a;have d:=p k wr t b c;gi_wp2_with (refine⟨trivial,?_⟩;gi_at_call 222;refine(jg.2 (a.o _)).af ?_;rintro e w' ⟨rfl,w⟩;subst w)
    refine⟨fun f h=>(by cases h),?_⟩;gi_wp2
    go_roundw
    case rel=>exact⟨k+1,al,bd,d⟩
    case measure=>simp[intOf];omega
  ·obtain rfl:k=8:=al
   gi_wp2
   go_end0
   exact⟨⟨_,rfl⟩,c⟩
def ar6 (B:Nat) (B7:Nat ->wA ->Prop) (k:Nat) (W:wA):Exit ->Act ->wA ->Prop
 |.normal,_,W'=>KeepsFrom B W W'/\B7 (k+1) W'
 |_,_,_=>False
theorem E4 {g:Operand} {j:Array Tmp} {assign body:Code} {a:Act} (h1:2<=n) (s:Jp) (hs:∀u∈s,u<8)
  (R:a.eval g=.func (.func 182) #[E yW (aB s:Nat)] #[]) (B2:j.size=1) (B7:Nat ->wA ->Prop) (i:OwnFrom w.heap.size B7) (h0:B7 0 w) (B9:Nat ->Act)
  (ab:∀(l k:Nat) (W:wA) (K:Act ->wA ->Prop),K (B9 k) W ->
   assign.wpIn (Fence.wide.inRound l) (n - 1 - 1) prog (Exit.then K (fun _ _ _=>False)) {tmps:=(j.zip #[E yR (k:Nat)]).foldl (fun t (p,v)=>t.setIfInBounds p v) a.tmps,defers:=[]} W)
  (aa:∀(l k:Nat) (W:wA),k< 8 ->k∈s ->B7 k W ->body.wpIn (Fence.wide.inRound l) (n - 1 - 1) prog (ar6 w.heap.size B7 k W) (B9 k) W)
  (Y:∀k W,k< 8 ->¬k∈s ->B7 k W ->B7 (k+1) W)
  (aq:∀(D:Nat) (W:wA),w.heap.size<=D ->B7 8 W ->W.heap[D]? =I (.deferred (I [])) ->Q .normal {a with defers:= {target:=.collected D,args:= #[]}::a.defers} W):
  (Code.rangeFunc g j assign body).wpIn Fence.wide n prog Q a w:=by
 refine wpIn_rangeFunc fun fn ai=>?_;rw[show Fence.wide.round=O from rfl];obtain⟨c,z⟩:∃c:LoopState ->Option Code ->Loop,c=fun V T=> {state:=V,pending:=T,fn,tmps:=a.tmps,params:=j,assign,body,defers:=w.heap.size}:=⟨_,rfl⟩;obtain⟨b,m⟩:∃b,(w.alloc (.deferred (I []))).alloc (.loop (c .ready O))=b:=⟨_,rfl⟩
 have L:b.heap[w.heap.size+1]? =I (.loop (c .ready O)):=by
  rw[<- m];have h:=World.alloc_heap_new (w.alloc (.deferred (I []))) (.loop (c .ready O));rwa [eW] at h
 have ae:b.heap[w.heap.size]? =I (.deferred (I [])):=by
  rw[<- m];exact(uY _ _ _ aE).trans (World.alloc_heap_new w _)
 have ad:B7 0 b:=by
  rw[<- m];exact i.alloc _ (i.alloc _ h0)
 refine⟨w.heap.size+1,[{target:=.collected w.heap.size,args:= #[]}],b, {target:=.fn (.func 182) #[],args:= #[E yW (aB s:Nat),.func (.yield (w.heap.size+1)) #[] #[]]},b,182, #[E yW (aB s:Nat),.func (.yield (w.heap.size+1)) #[] #[]],b,?_,?_,?_,?_,fun _=>al,?_⟩
 ·rw[<- m,z];exact run_enterLoop_outer _ _ _ _ _
 ·simp only[resolve,R];simp[go_sem]
 ·intro f' H;simp[Target.leads] at H;subst H;trivial
 ·have M:∀r w,(callFunc 182 r).run prog w=.ok (.enter 182 r) w:=enters_of func182 ao rfl;simp[invoke,go_sem,M]
 ·refine(ar5 (n - 1) al (w.heap.size+1) s hs (fun k W=>B7 k W/\W.heap[w.heap.size+1]? =I (.loop (c .ready O))/\W.heap[w.heap.size]? =I (.deferred (I []))) ?_ (fun k W x y h=>⟨Y k W x y h.1,h.2⟩) b ⟨ad,L,ae⟩).af ?_
  ·rintro k W x y ⟨q,d,o⟩;have an:w.heap.size+1<W.heap.size:=(c5.1 d).1;have F:=run_yield (P:=prog) (args:= #[E yR (k:Nat)]) d (by rw[z];exact B2.symm);rw[z] at F;refine⟨fn,_,assign,body,F,roundIn_of_wpIn ai (ab _ k W _ ⟨_,run_beginRound d (by rw[z]),?_⟩)⟩;have aj:(W.putObj (w.heap.size+1) (.loop {c .ready O with state:=.busy})).heap[w.heap.size+1]? =I (.loop {c .ready O with state:=.busy}):=World.putObj_heap_same an;have U:(W.putObj (w.heap.size+1) (.loop {c .ready O with state:=.busy})).heap[w.heap.size]? =I (.deferred (I [])):=(zh al).trans o;refine wpIn_mono (aa _ k _ x y (i.putObj _ q al d rfl)) ?_;rintro e a3 W3 f;cases e with
   |normal=>
    obtain⟨B6,X⟩:=f;have A:=B6.same _ _ al aj rfl;have S:=run_endRound (P:=prog) O A;have B1:=B6.same _ _ (ak _) U rfl;refine⟨_,_,S,rfl,i.putObj _ X al A rfl,?_,(zh al).trans B1⟩;rw[z];exact World.putObj_heap_same (c5.1 A).1
   |ret=>exact f.elim
   |exit id=>exact f.elim
   |goto t=>exact f.elim
   |panic ch=>exact f.elim
   |outgrown=>exact f.elim
  ·rintro e W2 ⟨⟨v,rfl⟩,q,d,o⟩;have h:=run_endLoop (P:=prog) d (by rw[z];simp);rw[z] at h;exact⟨O,_,h,aq _ _ (ak _) (i.putObj _ q al d rfl) ((zh al).trans o)⟩
end
variable {k m v:Nat}
def C5:ByteArray:=⟨(([0,1,1,2,1,2,2,3,1,2,2,3,2,3,3,4,1,2,2,3,2,3,3,4,2,3,3,4,3,4,4,5,1,2,2,3,2,3,3,4,2,3,3,4,3,4,4,5,2,3,3,4,3,4,4,5,3,4,4,5,4,5,5,6].append [1,2,2,3,2,3,3,4,2,3,3,4,3,4,4,5,2,3,3,4,3,4,4,5,3,4,4,5,4,5,5,6,2,3,3,4,3,4,4,5,3,4,4,5,4,5,5,6,3,4,4,5,4,5,5,6,4,5,5,6,5,6,6,7]).append ([1,2,2,3,2,3,3,4,2,3,3,4,3,4,4,5,2,3,3,4,3,4,4,5,3,4,4,5,4,5,5,6,2,3,3,4,3,4,4,5,3,4,4,5,4,5,5,6,3,4,4,5,4,5,5,6,4,5,5,6,5,6,6,7].append [2,3,3,4,3,4,4,5,3,4,4,5,4,5,5,6,3,4,4,5,4,5,5,6,4,5,5,6,5,6,6,7,3,4,4,5,4,5,5,6,4,5,5,6,5,6,6,7,4,5,5,6,5,6,6,7,5,6,6,7,6,7,7,8])).toArray⟩
def bX (s:Jp) (k:Nat):Jp:=(List.range k).filter fun v=>decide (v∈s)
theorem Sw {s:Jp} (h:k∈s):bX s (k+1)=bX s k++[k]:=by rw[bX,xZ,x5,bX];simp[h]
theorem NQ {s:Jp} (h:¬k∈s):bX s (k+1)=bX s k:=by rw[bX,xZ,x5,bX];simp[h]
theorem vu {s:Jp}:v∈bX s k↔v<k/\v∈s:=by simp[bX]
theorem lS (s:Jp) (k:Nat):Z (bX s k)<=k:=by
 have:=oq (fun v=>decide (v∈s)) (List.range k);simpa [bX] using this
def C6 (m:Nat):Nat:=((List.range 8).filter fun v=>m.testBit v).length
theorem amG (s:Jp):C6 (aB s)=Z (bX s 8):=by
 rw[C6,bX];congr 1
 exact VZ fun v _=>qD s v
theorem amJ:((List.range 256).all fun m=>decide (C5.data.toList[m]? =I (UInt8.ofNat (C6 m))))=true:=by decide+kernel
theorem amI (h:m<256):C5.data.toList[m]? =I (UInt8.ofNat (C6 m)):=mS (fG.1 amJ m (bR.2 h))
theorem amH:C5.size=256:=by decide+kernel
theorem adL (m:Nat):C6 m<=8:=by
 have:=oq (fun v=>m.testBit v) (List.range 8);simpa [C6] using this
theorem anL (m:Nat) (w:wA) (u:m<256):
  c6 225 #[E yW (m:Nat)] w fun e w'=>e=yk (E yR (C6 m:Nat))/\∃k,w'=w.drewN k:=by
 have x:(m:Int)/16777216=0:=al
 have v:(m:Int)/65536=0:=al
 have r:(m:Int)/256=0:=al
 have s:bits BinOp.and IntKind.u32 (m:Nat) 255=((m:Nat):Int):=by
  have e:(255:Int)=((255:Nat):Int):=rfl;rw[e,u32_and_nat _ _ al al,show (255:Nat)=2^8 - 1 from rfl,Nat.and_two_pow_sub_one_eq_mod];omega
 have z:bits BinOp.and IntKind.u32 0 255=0:=a6
 have A:=amH;have l:m<C5.size:=al
 have a:∀i (h:i<C5.size),C5[i]=UInt8.ofNat (C6 i):=fun i h=>by
  have b:=amI (m:=i) al;rw[wM] at b;obtain⟨j,c⟩:=c5.1 b;exact c
 have g:C5[0]'al=0:=a 0 al
 obtain⟨q,y,n⟩:∃q:UInt8,C5[m]'l=q/\q.toNat=C6 m:=⟨_,a m l,by
  have:=adL m;rw[UInt8.toNat_ofNat'];omega⟩
 have D:IntKind.u8.wrap 0=0:=a6
 have f:=adL m;rw[<- n] at f
 have d:IntKind.u8.wrap ((q.toNat:Nat):Int)=((q.toNat:Nat):Int):=by
  have:(q.toNat:Int)<256:=al
  rw[IntKind.wrap_u8];omega
 have t:=Fa n;clear a n;have p:C5=⟨(([0,1,1,2,1,2,2,3,1,2,2,3,2,3,3,4,1,2,2,3,2,3,3,4,2,3,3,4,3,4,4,5,1,2,2,3,2,3,3,4,2,3,3,4,3,4,4,5,2,3,3,4,3,4,4,5,3,4,4,5,4,5,5,6].append [1,2,2,3,2,3,3,4,2,3,3,4,3,4,4,5,2,3,3,4,3,4,4,5,3,4,4,5,4,5,5,6,2,3,3,4,3,4,4,5,3,4,4,5,4,5,5,6,3,4,4,5,4,5,5,6,4,5,5,6,5,6,6,7]).append ([1,2,2,3,2,3,3,4,2,3,3,4,3,4,4,5,2,3,3,4,3,4,4,5,3,4,4,5,4,5,5,6,2,3,3,4,3,4,4,5,3,4,4,5,4,5,5,6,3,4,4,5,4,5,5,6,4,5,5,6,5,6,6,7].append [2,3,3,4,3,4,4,5,3,4,4,5,4,5,5,6,3,4,4,5,4,5,5,6,4,5,5,6,5,6,6,7,3,4,4,5,4,5,5,6,4,5,5,6,5,6,6,7,4,5,5,6,5,6,6,7,5,6,6,7,6,7,7,8])).toArray⟩:=rfl;go_enter func225,ntmps225;go_upto_region 1 with fail
 rw[<- p];clear p;go_quiet (fail)
 go_wp2;go_ret;exact⟨by rw[<- t.o];rfl,_,rfl⟩
section
attribute [local go_sem] Oper.semAt_some
theorem ac2 (s:Jp) (w:wA) (hs:∀u∈s,u<8):
  c6 183 #[E yW (aB s:Nat)] w fun e w'=>e=yk (E yR (Z (bX s 8):Nat))/\∃k,w'=w.drewN k:=by
 have h:=vt hs;have H:=Fa (fun U=>anL (aB s) U h);rw[amG] at H;generalize (Z (bX s 8))=c at *;generalize aB s=m at *;go_enter func183,ntmps183;go_wp2_with fail
 refine(H.o _).af ?_;rintro e a ⟨rfl,k,rfl⟩;go_wp2;go_ret;exact⟨rfl,k,rfl⟩
theorem aoA (s:Jp) (v:Nat) (hs:∀u∈s,u<8) (b:v<8):aB s&&&(4294967295 - 2^v)=aB (s.filter fun u=>decide (u≠v)):=by
 have d:2^v<2^8:=VI a6 b;have e:4294967295 - 2^v=2^32 - (2^v+1):=al
 have c:2^v<2^32:=al
 apply ML;intro i;rw[e,QP,VG c,qD,qD,Nat.testBit_two_pow];by_cases h:i∈s
 ·have f:=hs i h;have B1:i<32:=al
  by_cases k:v=i
  ·subst k;simp[h]
  ·have a:¬i=v:=fun e=>k e.symm;simp[h,B1,k,a]
 ·simp[h]
theorem Nj (s:Jp) (v:Nat) (w:wA) (hs:∀u∈s,u<8) (h:v<8):
  c6 252 #[E yW (aB s:Nat),E yR (v:Nat)] w fun e w'=>e=yk (E yW (aB (s.filter fun u=>decide (u≠v)):Nat))/\w'=w:=by
 have c:=vt hs;have b:2^v<256:=show 2^v<2^8 from VI a6 h
 have B9:we (bits BinOp.andNot IntKind.u32 (aB s:Nat) (2^v % 4294967296)=((aB (s.filter fun u=>decide (u≠v)):Nat):Int)):=by
  show _=_
  have e:((2:Int)^v % 4294967296)=((2^v:Nat):Int):=by
   (have a:((2:Int)^v)=((2^v:Nat):Int):=by rw[Int.natCast_pow];rfl);rw[a];generalize (2^v:Nat)=q at *;omega
  rw[e,u32_andNot_nat _ _ al al,aoA s v hs h]
 generalize aB (s.filter fun u=>decide (u≠v))=r at *;generalize aB s=m at *;go_enter func252,ntmps252;go_wp2;go_ret;exact⟨by rw[B9.o];rfl,rfl⟩
theorem apQ (l:Jp):(iL l).map (Value.int yR)=l.map iv:=by simp[iL,iv]
theorem afo (s:Jp) (w:wA) (hs:∀u∈s,u<8):
  c6 129 #[E yW (aB s:Nat)] w fun e w'=>∃v,e=yk v/\bS w' w.heap.size v (iL (bX s 8))/\da w w':=by
 refine(jg (n:=6)).1 ?_;obtain⟨j,i,z,t,x⟩:=eo Tryz.infoInt;have S:=lS s 8;have H:=Fa (fun U=>ac2 s U hs);obtain⟨c,q⟩:∃c,c=Z (bX s 8):=⟨_,rfl⟩;rw[<- q] at H S;clear q;refine wF func129 rfl trivial ?_ rfl;simp only[ntmps129,mX,dX,mo,Nat.reduceAdd,Nat.reduceSub,o8,o7,o6,oB,iH,gC]
 gi_wp2_with (first
  |(refine⟨trivial,?_⟩;gi_at_call 183;refine(jg.2 (H.o _)).af ?_;rintro e w0 ⟨rfl,g⟩)
  |(gi_at_make;refine wpListIn_make_own _ rfl _ _ 27 rfl w.heap.size 3 j (E yR 0) 1 underlying27 i z t yR yR _ c rfl rfl al (by rw[x];omega) (by unfold maxLen;omega) (by obtain⟨k,rfl⟩:=g;exact ak _) ?_;intro a ab B9))
 have Q:da w w0:=by obtain⟨k,rfl⟩:=g;exact below_drewN (aw _ w) k
 have Y:w0.heap.size=w.heap.size:=by obtain⟨k,rfl⟩:=g;rfl
 clear g;have F:=B9.size;have M:da w a:=Q.grown B9 al (fun k e=>by cases e);have B2:=bE a 27 (J (I ⟨w0.heap.size,0,O⟩) 0 c);have P:da w (AC a (yd #[J (I ⟨w0.heap.size,0,O⟩) 0 c] 27)):=M.alloc al _;have L:w.heap.size<=a.heap.size:=al
 clear Y F
 refine E4 al s hs rfl rfl
  (fun k V=>(∃v,Boxed V a.heap.size 27 v/\V.ownsRow w.heap.size 3 1 v (Z (bX s k)) ((bX s k).map iv)/\True)/\da w V)
  (gJ (iF (holdsRow_own w.heap.size a.heap.size 27 3 1 (fun k:Nat=>Z (bX s k)) (fun k=>(bX s k).map iv) (fun _ _=>True)) _) (CO (ak _) (by simp;omega)))
  ⟨⟨_,B2,ab.alloc _,trivial⟩,P⟩
  (fun k=> {tmps:= #[E yW (aB s:Nat),wd,J O 0 0,zZ (I ⟨a.heap.size,0,O⟩),E yR (k:Nat),E yW (aB s:Nat),E yR (c:Nat),J (I ⟨w0.heap.size,0,O⟩) 0 c,E yW (aB s:Nat),.func (.func 182) #[E yW (aB s:Nat)] #[],E yR (k:Nat),wd,wd,wd,wd,wd],defers:=[]}) ?assign ?body ?skip ?done
 case assign=>
  intro l k W K d;gi_wp2
  exact d
 case body=>
  rintro l k V B6 m ⟨⟨v,f,r,_⟩,b⟩;have B7:=f.cell;have tJ:=lS s k;gi_wp2_with (gi_at_builtin;refine wpListIn_append_own _ rfl _ _ 27 rfl w.heap.size 3 j (E yR 0) 1 8 underlying27 i z t x rfl a6 _ _ _ rfl (r.alloc _) ⟨V.heap.size,0,O⟩ 1 1 [E yR (k:Nat)] rfl rfl (cell_one_new _ _ _) (by simp[Value.oneCell']) (by unfold maxLen;omega) al (by have:=b.size;simp;omega) ?_;intro v' w3 y aa _;obtain⟨g',ae,rfl⟩:=ownsRow_succ y;obtain⟨p,B1,X,T,R⟩:=f.appended a6 r b.size L y aa;have ad:=p.cell;have BV:=p.frozen)
  exact⟨T.from _,⟨⟨_,B1,by rw[Sw m];simpa [iv] using X,trivial⟩,b.trans R⟩⟩
 case skip=>
  rintro k V B6 m h;rwa [NQ m]
 case done=>
  rintro D V A ⟨⟨v,f,r,_⟩,b⟩ d;have B7:=f.cell;gi_wp2
  refine⟨aE,yp ⟨_,_,rfl,CM d,?_⟩⟩;refine⟨_,CN rfl _ _ _,v,rfl,?_,b.trans (xY (w:=w) (ak _) V D _ _ (by simp at A;omega) d rfl rfl)⟩;rw[bS,apQ,bM];exact ownsRow_putObj r _ d rfl
end
variable {P:List Jp}
theorem aoB (a b:Jp):aB a |||aB b=aB (a++b):=by
 apply ML;intro i;rw[Nat.testBit_or,qD,qD,qD];by_cases h:i∈a<;>by_cases c:i∈b<;>simp[h,c]
theorem aoD (a b:Jp):aB a&&&aB b=aB (a.filter fun x=>decide (x∈b)):=by
 apply ML;intro i;rw[QP,qD,qD,qD];by_cases h:i∈a<;>by_cases c:i∈b<;>simp[h,c]
theorem aoC (a b:Jp) (d:∀u∈a,u<8) (f:∀u∈b,u<8):aB a&&&(4294967295 - aB b)=aB (a.filter fun x=>decide (¬x∈b)):=by
 have g:=vt f;have e:4294967295 - aB b=2^32 - (aB b+1):=al
 have s:aB b<2^32:=al
 apply ML;intro i;rw[e,QP,VG s,qD,qD,qD];by_cases h:i∈a
 ·have j:=d i h;have B1:i<32:=al
  by_cases c:i∈b<;>simp[h,c,B1]
 ·simp[h]
theorem Uq (a b:Jp) (h:∀u∈a,u<8) (c:∀u∈b,u<8):bits BinOp.or IntKind.u32 (aB a:Nat) (aB b:Nat)=((aB (a++b):Nat):Int):=by
 have d:=vt h;have e:=vt c;rw[u32_or_nat _ _ al al,aoB]
theorem aiq (a b:Jp) (h:∀u∈a,u<8) (c:∀u∈b,u<8):bits BinOp.and IntKind.u32 (aB a:Nat) (aB b:Nat)=((aB (a.filter fun x=>decide (x∈b)):Nat):Int):=by
 have d:=vt h;have e:=vt c;rw[u32_and_nat _ _ al al,aoD]
theorem atm (a b:Jp) (h:∀u∈a,u<8) (c:∀u∈b,u<8):bits BinOp.andNot IntKind.u32 (aB a:Nat) (aB b:Nat)=((aB (a.filter fun x=>decide (¬x∈b)):Nat):Int):=by
 have d:=vt h;have e:=vt c;rw[u32_andNot_nat _ _ al al,aoC a b h c]
theorem Pq {s:Jp} (h:∀u∈s,u<8) (p:Nat ->Bool):∀u∈s.filter p,u<8:=fun u a=>h u (cU.1 a).1
theorem aaL {a b:Jp} (h:∀u∈a,u<8) (c:∀u∈b,u<8):∀u∈a++b,u<8:=fun u d=>(bH.1 d).elim (h u) (c u)
theorem Ge (a:∀p∈P,∀u∈p,u<8) (v:Nat):∀u∈P.getD v [],u<8:=by
 by_cases h:v<Z P
 ·rw[cK,ba h];exact a _ (bQ h)
 ·rw[cK,jw al];intro u b;simp at b
theorem Fq (h:v<Z P):(P.map aB)[v]'(by rw[dm];exact h)=aB (P.getD v []):=by rw[mq,cK,ba h];rfl
def NU (B:List Jp) (v u:Nat):Nat:=(bX (((B.getD v []).filter fun x=>decide (¬x∈B.getD u [])).filter fun x=>decide (x≠u)) 8).length
def tL (B:List Jp) (v k:Nat):Nat:=((bX (B.getD v []) k).map (NU B v)).sum
theorem ahC {B:List Jp} (h:k∈B.getD v []):tL B v (k+1)=tL B v k+NU B v k:=by rw[tL,Sw h,gK,List.sum_append,tL];simp
theorem ahD {B:List Jp} (h:¬k∈B.getD v []):tL B v (k+1)=tL B v k:=by rw[tL,NQ h,tL]
theorem afB (B:List Jp) (v u:Nat):NU B v u<=8:=lS _ _
theorem Ud (B:List Jp) (v:Nat):∀k,tL B v k<=8*k
 |0=>by simp[tL,bX]
 |k+1=>by
  have a:=Ud B v k;have b:=afB B v k;by_cases h:k∈B.getD v []
  ·rw[ahC h];omega
  ·rw[ahD h];omega
def sB (B:List Jp) (v:Nat):Nat:=tL B v 8/2
section
attribute [local go_sem] Oper.semAt_some
variable {U V':wA}
theorem kH {W:wA} {B:Nat} {t:TypeId} {v:wQ} (h:Boxed W B t v) (b j:Nat) (y:wQ) (e:B≠b):Boxed (AF W ⟨b,j,O⟩ y) B t v:=(eO W ⟨b,j,O⟩ y B e).trans h
theorem Ap {W:wA} {B b:Nat} {t:TypeId} {v:wQ} (h:Boxed W B t v) (c:Below b W W') (a:B<b):Boxed W' B t v:=(c.block B a).trans h
theorem X5 {V:wA} (h:da V V'):KeepsOthers V V':=⟨h.size,fun k _ a _=>(h.block k (c5.1 a).1).trans a⟩
theorem X6 {V:wA} (h:KeepsOthers V U) (k:Nat):KeepsOthers V (U.drewN k):=⟨h.1,h.2⟩
theorem apw (G n c v:Nat) (P:List Jp) (w:wA) (hn:Z P=n) (h8:n<=8) (hU:dw w G (P.map aB)) (hP:∀p∈P,∀u∈p,u<n) (hv:v<n):
  c6 293 #[J (I ⟨G,0,O⟩) n c,E yR (v:Nat)] w (dj w (E yR (sB P v:Nat))):=by
 refine(jg (n:=6)).1 ?_;have xr:∀p∈P,∀u∈p,u<8:=fun p hp u hu=>by have:=hP p hp u hu;omega
 have hs:=Ge xr v;have TD:=hU.lt;have kv:=hU.cell v (by rw[dm];omega);rw[Fq al] at kv;have Jw:=Fa kv
 have AG:we (∀u,u< n ->AJ w ⟨G,u,O⟩=I (E yW (aB (P.getD u []):Nat))):=fun u hu=>by
  have:=hU.cell u (by rw[dm];omega);rwa [Fq al] at this
 have Qm:we (∀k,k∈P.getD v [] ->k<n):=fun k R=>by
  rw[cK,ba al] at R;exact hP _ (bQ _) k R
 have y6:=Fa (fun u=>Ge xr u);have ai:=Fa (fun k h=>ahC (B:=P) (v:=v) (k:=k) h);have AP:=Fa (fun k h=>ahD (B:=P) (v:=v) (k:=k) h);have ae:=Fa (fun k=>Ud P v k);have qZ:=Fa (fun u=>afB P v u);have l8:=Fa (fun (u:Nat) (hu:u<8) (U:wA)=>Nj ((P.getD v []).filter fun x=>decide (¬x∈P.getD u [])) u U (Pq hs _) hu);have xU:=Fa (fun (u:Nat) (U:wA)=>ac2 (((P.getD v []).filter fun x=>decide (¬x∈P.getD u [])).filter fun x=>decide (x≠u)) U (Pq (Pq hs _) _));have ad:=Fa (fun (u:Nat)=>atm (P.getD v []) (P.getD u []) hs (Ge xr u));have an:we (∀u,Z (bX (((P.getD v []).filter fun x=>decide (¬x∈P.getD u [])).filter fun x=>decide (x≠u)) 8)=NU P v u):=fun u=>rfl
 have av:we ((tL P v 8:Int).tdiv 2=(sB P v:Nat)):=by
  show _=_;rw[sB];exact(A3 _ _).symm▸rfl
 have ab:G<w.heap.size:=TD;have ay:=Ud P v 8;generalize sB P v=aR at *;generalize Tq:P.getD v []=bv at *;clear hU hP xr kv Tq;refine wF func293 rfl trivial ?_ rfl;simp only[ntmps293,mX,dX,mo,Nat.reduceAdd,Nat.reduceSub,o8,o7,o6,oB,iH,gC];obtain⟨B6,M⟩:∃B6,B6=AC (AC (AC w (yd #[J (I ⟨G,0,O⟩) n c] 154)) (yd #[E yR (v:Nat)] 3)) (yd #[E yR 0] 3):=⟨_,rfl⟩;have b0:Boxed B6 w.heap.size 154 (J (I ⟨G,0,O⟩) n c):=by rw[M];exact((bE w _ _).alloc _).alloc _
 have b1:Boxed B6 (w.heap.size+1) 3 (E yR (v:Nat)):=by
  have h:=(bE (AC w (yd #[J (I ⟨G,0,O⟩) n c] 154)) 3 (E yR (v:Nat))).alloc (yd #[E yR 0] 3);rw[eW] at h;rw[M];exact h
 have b2:Boxed B6 (w.heap.size+1+1) 3 (E yR (tL P v 0:Nat)):=by
  have h:=bE (AC (AC w (yd #[J (I ⟨G,0,O⟩) n c] 154)) (yd #[E yR (v:Nat)] 3)) 3 (E yR 0);rw[eW,eW] at h;rw[M];exact h
 have aa:da w B6:=by
  rw[M];exact(((aw _ w).alloc (ak _) _).alloc aE _).alloc (by simp;omega) _
 have S:=b0.cell;have T:=b1.cell;have X:=(aa.cell (p:=⟨G,v,O⟩) ab).trans Jw.o;rw[M] at S T X;gi_wp2
 rw[<- M];clear S T X M;have BL:w.heap.size+1+1<B6.heap.size:=b2.lt
 refine E4 al bv hs rfl rfl
  (fun k V=>Boxed V w.heap.size 154 (J (I ⟨G,0,O⟩) n c)/\Boxed V (w.heap.size+1) 3 (E yR (v:Nat))/\Boxed V (w.heap.size+1+1) 3 (E yR (tL P v k:Nat))/\da w V)
  (gJ (iF (kL _ _ (fun _=>_)) _) (gJ (iF (kL _ _ (fun _=>_)) _) (gJ (iF (kL _ _ (fun k:Nat=>E yR (tL P v k:Nat))) _) (CO (ak _) al))))
  ⟨b0,b1,b2,aa⟩
  (fun k=> {tmps:= #[J (I ⟨G,0,O⟩) n c,E yR (v:Nat),zZ (I ⟨w.heap.size,0,O⟩),zZ (I ⟨w.heap.size+1,0,O⟩),E yR 0,zZ (I ⟨w.heap.size+1+1,0,O⟩),E yR (k:Nat),J (I ⟨G,0,O⟩) n c,E yR (v:Nat),zZ (I ⟨G,v,O⟩),E yW (aB bv:Nat),.func (.func 182) #[E yW (aB bv:Nat)] #[],E yR (k:Nat),wd,wd,wd,wd,wd,wd,wd,wd,wd,wd,wd,wd,wd,wd,wd,wd],defers:=[]}) ?assign ?body ?skip ?done
 case assign=>
  intro l k W K hK;gi_wp2
  exact hK
 case body=>
  rintro l k V R hm ⟨B1,h1,B2,Q⟩;have ax:=Qm.o k hm;have S:=B1.cell;have T:=h1.cell;have y:=B2.cell;have X:=(Q.cell (p:=⟨G,v,O⟩) ab).trans Jw.o;have kU:=(Q.cell (p:=⟨G,k,O⟩) ab).trans (AG.o k ax);have az:=ad.o k;have Jg:=Fa (l8.o k R);have Y:=Fa (xU.o k);rw[an.o k] at Y;have aJ:=ae.o k;have aM:=qZ.o k;have aj:=Fa (ai.o k hm);generalize aB (bv.filter fun x=>decide (¬x∈P.getD k []))=m1 at *;generalize aB ((bv.filter fun x=>decide (¬x∈P.getD k [])).filter fun x=>decide (x≠k))=m2 at *;generalize aB (P.getD k [])=mu at *;generalize NU P v k=le at *;generalize tL P v k=L at *;generalize aB bv=mv at *;have Yq:IntKind.i64.wrap ((L:Int)+(le:Int))=((L+le:Nat):Int):=by rw[jx];omega
  have f2:=B2.frozen;gi_wp2_with fail
  refine Bi (fun u=>AJ u ⟨w.heap.size,0,O⟩=I (J (I ⟨G,0,O⟩) n c)/\u.cell? ⟨w.heap.size+1,0,O⟩=I (E yR (v:Nat))/\u.cell? ⟨G,v,O⟩=I (E yW (mv:Nat))/\u.cell? ⟨G,k,O⟩=I (E yW (mu:Nat))) ao ao (fun ⟨_,_,h⟩=>h) ⟨S,T,X,kU⟩ ?_;intro r;have i:KeepsOthers V V.drew:=CU V;have j:Boxed V.drew w.heap.size 154 (J (I ⟨G,0,O⟩) n c):=B1;have m:Boxed V.drew (w.heap.size+1) 3 (E yR (v:Nat)):=h1;have g:Boxed V.drew (w.heap.size+1+1) 3 (E yR (L:Nat)):=B2;have s:=Q.drew;have NW:=g.cell;clear S T y X kU f2 B1 h1 B2 Q b0 b1 b2 aa;have y:=NW;clear NW;generalize V.drew=t at *;refine au 1 (J (I ⟨G,0,O⟩) n c) ?_;refine au 2 (E yR (v:Nat)) ?_;refine au 3 (zZ (I ⟨G,v,O⟩)) ?_;refine au 4 (E yW (mv:Nat)) ?_;refine au 5 (J (I ⟨G,0,O⟩) n c) ?_;refine au 6 (E yR (k:Nat)) ?_;refine au 7 (zZ (I ⟨G,k,O⟩)) ?_;refine au 8 (E yW (mu:Nat)) ?_;refine au 9 (E yW (m1:Nat)) ?_;refine au 10 (E yR (k:Nat)) ?_;refine aG [0,11] (cA ?_ (cA ?_ aH))
  focus
   intro f b;go_simp;clear y;refine b.o _ _ r (fun q=>?_);clear b f q;refine aG [11] (cA ?_ aH);intro f b;go_simp;refine(Jg.o _).af ?_;rintro e d ⟨rfl,a⟩;subst a;refine b.o _ _ r (fun q=>?_);clear b f q;generalize d=t at *;refine aG [12] (cA ?_ aH);intro f b;go_simp;refine(Y.o _).af ?_;rintro e d ⟨rfl,z,a⟩;(have A:Boxed d w.heap.size 154 (J (I ⟨G,0,O⟩) n c):=by rw[a];exact j);(have B9:Boxed d (w.heap.size+1) 3 (E yR (v:Nat)):=by rw[a];exact m);(have F:Boxed d (w.heap.size+1+1) 3 (E yR (L:Nat)):=by rw[a];exact g);(have H:da w d:=by rw[a];exact below_drewN s z);(have B7:KeepsOthers V d:=by rw[a];exact X6 i z);refine b.o _ _ (by rw[a];exact r) (fun q=>?_);clear b f a j m g s i r;have r:=q;have j:=A;have m:=B9;have g:=F;have s:=H;have i:=B7;clear q A B9 F H B7 t;generalize d=t at *
  rotate_left
  focus
   intro f b;go_simp;refine(Jg.o _).af ?_;rintro e d ⟨rfl,a⟩;subst a;refine b.o _ _ r (fun q=>?_);clear b f q;generalize d=t at *;refine aG [0,12] (cA ?_ (cA ?_ aH))
   focus
    intro f b;go_simp;clear y;refine b.o _ _ r (fun q=>?_);clear b f q;refine aG [12] (cA ?_ aH);intro f b;go_simp;refine(Y.o _).af ?_;rintro e d ⟨rfl,z,a⟩;(have A:Boxed d w.heap.size 154 (J (I ⟨G,0,O⟩) n c):=by rw[a];exact j);(have B9:Boxed d (w.heap.size+1) 3 (E yR (v:Nat)):=by rw[a];exact m);(have F:Boxed d (w.heap.size+1+1) 3 (E yR (L:Nat)):=by rw[a];exact g);(have H:da w d:=by rw[a];exact below_drewN s z);(have B7:KeepsOthers V d:=by rw[a];exact X6 i z);refine b.o _ _ (by rw[a];exact r) (fun q=>?_);clear b f a j m g s i r;have r:=q;have j:=A;have m:=B9;have g:=F;have s:=H;have i:=B7;clear q A B9 F H B7 t;generalize d=t at *
   rotate_left
   focus
    intro f b;go_simp;refine(Y.o _).af ?_;rintro e d ⟨rfl,z,a⟩;(have A:Boxed d w.heap.size 154 (J (I ⟨G,0,O⟩) n c):=by rw[a];exact j);(have B9:Boxed d (w.heap.size+1) 3 (E yR (v:Nat)):=by rw[a];exact m);(have F:Boxed d (w.heap.size+1+1) 3 (E yR (L:Nat)):=by rw[a];exact g);(have H:da w d:=by rw[a];exact below_drewN s z);(have B7:KeepsOthers V d:=by rw[a];exact X6 i z);refine b.o _ _ (by rw[a];exact r) (fun q=>?_);clear b f a j m g s i r;have r:=q;have j:=A;have m:=B9;have g:=F;have s:=H;have i:=B7;clear q A B9 F H B7 y;have y:=g.cell;clear t;generalize d=t at *;refine aG [0] (cA ?_ aH);intro f b;go_simp;clear y;refine b.o _ _ r (fun q=>?_);clear b f q
  all_goals
   have f2:=g.frozen;have y:=g.cell;refine au 13 (E yR ((L+le:Nat):Int)) ?_;refine aG [14] (cA ?_ aH);intro f b;go_simp;refine b.o _ _ ⟨(kH j (w.heap.size+1+1) 0 _ al).cell,(kH m (w.heap.size+1+1) 0 _ al).cell,(gg _ _ _ _ (fun e=>(show ¬w.heap.size+1+1=G by omega) (eG Addr.block e))).trans r.2.2.1,(gg _ _ _ _ (fun e=>(show ¬w.heap.size+1+1=G by omega) (eG Addr.block e))).trans r.2.2.2⟩ (fun _=>eV ao ?_ _);clear b f r;gi_wp2
   exact⟨(i.trans (kh t _ _)).from _,kH j _ 0 _ al,kH m _ 0 _ al,by rw[aj.o];exact g.set _,s.setCell (p:=⟨w.heap.size+1+1,0,O⟩) (by show w.heap.size<=w.heap.size+1+1;omega) _⟩
 case skip=>
  rintro k V R hm h;rw[AP.o k hm];exact h
 case done=>
  rintro D V i ⟨B1,h1,B2,Q⟩ hK;have hc:=B2.cell;gi_wp2
  refine⟨aE,yp ⟨_,_,rfl,CM hK,?_⟩⟩;refine⟨_,CN rfl _ _ _,?_,Q.trans (xY (w:=w) (ak _) V D _ _ al hK rfl rfl)⟩;rw[<- av.o];rfl
end
section
attribute [local go_sem] Oper.semAt_some
variable {w w':wA}
def Bq (P:List Jp) (v u:Nat):Jp:=((P.getD u []++P.getD v []).filter fun x=>decide (x≠u)).filter fun x=>decide (x≠v)
def jk (P:List Jp) (v k:Nat):List Jp:=(List.range (Z P)).map fun u=>if u<k/\u∈P.getD v [] then Bq P v u else P.getD u []
theorem Kk (P:List Jp) (v k:Nat):Z (jk P v k)=Z P:=by simp[jk]
theorem akj (P:List Jp) (v:Nat):jk P v 0=P:=by
 apply mZ (by simp[jk]);intro i a h;simp[jk,cK,h]
theorem akk (m:k∈P.getD v []):jk P v (k+1)=(jk P v k).set k (Bq P v k):=by
 apply mZ (by simp[jk]);intro i c d;rw[EX];simp only[jk,mq,EY];by_cases h:k=i
 ·subst h;rw[aA ⟨al,m⟩,aA rfl]
 ·rw[aD h];have e:(i<k+1/\i∈P.getD v [])↔(i<k/\i∈P.getD v []):=⟨fun ⟨a,b⟩=>⟨al,b⟩,fun ⟨a,b⟩=>⟨al,b⟩⟩;simp only[e]
theorem akl (m:¬k∈P.getD v []):jk P v (k+1)=jk P v k:=by
 apply qh;intro i c;have e:(i<k+1/\i∈P.getD v [])↔(i<k/\i∈P.getD v []):=⟨fun ⟨a,b⟩=>⟨by rcases dR i k with h |h;exact h;exact absurd (show i=k by omega) (fun e=>m (e▸b)),b⟩,fun ⟨a,b⟩=>⟨al,b⟩⟩;simp only[e]
theorem akm {u:Nat} (b:u<Z P) (h:¬(u<k/\u∈P.getD v [])):(jk P v k).getD u []=P.getD u []:=by
 have a:u<Z (jk P v k):=by rw[Kk];exact b
 have e:(jk P v k).getD u []=(jk P v k)[u]:=by rw[cK,ba a];rfl
 rw[e];simp only[jk,mq,EY];rw[aD h]
def vd (P:List Jp) (v:Nat):List Jp:=jk P v 8
theorem RD {β:Type} (g:Nat) (f:β ->Jp):Own (fun s W=>dw W g (f s)):=fun s X Y w hs a r=>by
 refine(a.block g hs.lt (fun e=>?_)).trans hs;obtain⟨o,h,c⟩:=r g e.symm;rw[hs] at h;cases h;cases c
theorem ad5 {β:Type} {G B:Nat} (a:w.heap.size<=B):OwnFrom B (fun (_:β) W=>w.grownBy W (I G)):=fun _ W W' o hs g r=>
 ⟨g.os.trans hs.os,g.tape.trans hs.tape,g.output.trans hs.output,aO hs.size g.size,fun k h n=>(g.block k (aT h hs.size) (fun e=>by
  have:=(r k e.symm).1;omega)).trans (hs.block k h n)⟩
theorem aq3 (h:da w w') (G:Nat):w.grownBy w' (I G):=⟨h.os,h.tape,h.output,h.size,fun k a _=>h.block k a⟩
theorem ag1 {a b c:wA} {G:Nat} (h:a.grownBy b (I G)) (k:b.grownBy c (I G)):a.grownBy c (I G):=
 ⟨k.os.trans h.os,k.tape.trans h.tape,k.output.trans h.output,aO h.size k.size,fun i d e=>(k.block i (aT d h.size) e).trans (h.block i d e)⟩
theorem aq2 (w:wA) (G j:Nat) (y:wQ):w.grownBy (AF w ⟨G,j,O⟩ y) (I G):=⟨rfl,rfl,rfl,aE,fun k _ h=>eO w ⟨G,j,O⟩ y k (fun e=>h (eG I e))⟩
theorem ag2 {a b:wA} {G:Nat} (h:a.grownBy b (I G)):a.grownBy b.drew (I G):=⟨h.os,h.tape,h.output,h.size,h.block⟩
theorem akq (G n c v:Nat) (P:List Jp) (w:wA) (hn:Z P=n) (h8:n<=8) (z:dw w G (P.map aB)) (Y:∀p∈P,∀u∈p,u<n) (hv:v<n) (uy:¬v∈P.getD v []):
  c6 284 #[J (I ⟨G,0,O⟩) n c,E yR (v:Nat)] w fun e w'=>(∃r,e=yk r)/\dw w' G ((vd P v).map aB)/\w.grownBy w' (I G):=by
 refine(jg (n:=6)).1 ?_;have H:∀p∈P,∀u∈p,u<8:=fun p hp u M=>by have:=Y p hp u M;omega
 have hs:=Ge H v;have ab:=z.lt
 have Qm:we (∀k,k∈P.getD v [] ->k<n):=fun k A=>by
  rw[cK,ba al] at A;exact Y _ (bQ _) k A
 have S:we (∀(V:wA) (k u:Nat),u< n ->¬(u<k/\u∈P.getD v []) ->dw V G ((jk P v k).map aB) ->AJ V ⟨G,u,O⟩=I (E yW (aB (P.getD u []):Nat))/\V.frozen? ⟨G,u,O⟩=x3):=fun V k u M aj R=>by
  have d:u<Z (jk P v k):=by rw[Kk];omega
  have:=R.cell u (by rw[dm];exact d);rw[Fq d,akm al aj] at this;exact⟨this,R.fz u⟩
 have mN:we (∀(V:wA) (k:Nat),k∈P.getD v [] ->dw V G ((jk P v k).map aB) ->dw (AF V ⟨G,k,O⟩ (E yW (aB (Bq P v k):Nat))) G ((jk P v (k+1)).map aB)):=fun V k m R=>by
  have:=R.set k (aB (Bq P v k));rwa [akk m,Hk]
 have jJ:we (∀k,¬k∈P.getD v [] ->jk P v (k+1)=jk P v k):=fun k h=>akl h;have Q:we (∀k,¬(v<k/\v∈P.getD v [])):=fun k h=>uy h.2;have Qi:=Fa (fun u=>Uq (P.getD u []) (P.getD v []) (Ge H u) hs);have Ji:=Fa (fun (u:Nat) (M:u<8) (U:wA)=>Nj (P.getD u []++P.getD v []) u U (aaL (Ge H u) hs) M);have Gw:we (∀(u:Nat) (U:wA),c6 252 #[E yW (aB ((P.getD u []++P.getD v []).filter fun x=>decide (x≠u)):Nat),E yR (v:Nat)] U fun e w'=>e=yk (E yW (aB (Bq P v u):Nat))/\w'=U):=fun u U=>Nj _ v U (Pq (aaL (Ge H u) hs) _) al;have ly:dw w G ((jk P v 0).map aB):=by rw[akj];exact z
 have uI:vd P v=jk P v 8:=rfl;rw[uI];have Jw:=Fa (S.o w 0 v hv (Q.o 0) ly);generalize Tq:P.getD v []=bv at *;have y9:=Fa Tq;clear z Y H uI uy Tq;refine wF func284 rfl trivial ?_ rfl;simp only[ntmps284,mX,dX,mo,Nat.reduceAdd,Nat.reduceSub,o8,o7,o6,oB,iH,gC];obtain⟨f,j⟩:∃f,f=AC (AC w (yd #[J (I ⟨G,0,O⟩) n c] 154)) (yd #[E yR (v:Nat)] 3):=⟨_,rfl⟩;have X:Boxed f w.heap.size 154 (J (I ⟨G,0,O⟩) n c):=by rw[j];exact(bE w _ _).alloc _
 have B7:Boxed f (w.heap.size+1) 3 (E yR (v:Nat)):=by
  have h:=bE (AC w (yd #[J (I ⟨G,0,O⟩) n c] 154)) 3 (E yR (v:Nat));rw[eW] at h;rw[j];exact h
 have B2:da w f:=by
  rw[j];exact((aw _ w).alloc (ak _) _).alloc aE _
 have B9:=X.cell;have F:=B7.cell;have i:=(B2.cell (p:=⟨G,v,O⟩) ab).trans Jw.o.1;rw[j] at B9 F i;gi_wp2
 rw[<- j];clear B9 F i j;have BL:w.heap.size+1<f.heap.size:=B7.lt
 refine E4 al bv hs rfl rfl
  (fun k V=>Boxed V w.heap.size 154 (J (I ⟨G,0,O⟩) n c)/\Boxed V (w.heap.size+1) 3 (E yR (v:Nat))/\dw V G ((jk P v k).map aB)/\w.grownBy V (I G))
  (gJ (iF (kL _ _ (fun _=>_)) _) (gJ (iF (kL _ _ (fun _=>_)) _) (gJ (iF (RD _ (fun k:Nat=>(jk P v k).map aB)) _) (ad5 al))))
  ⟨X,B7,ly.aa B2 ab,aq3 B2 G⟩
  (fun k=> {tmps:= #[J (I ⟨G,0,O⟩) n c,E yR (v:Nat),zZ (I ⟨w.heap.size,0,O⟩),zZ (I ⟨w.heap.size+1,0,O⟩),E yR (k:Nat),J (I ⟨G,0,O⟩) n c,E yR (v:Nat),zZ (I ⟨G,v,O⟩),E yW (aB bv:Nat),.func (.func 182) #[E yW (aB bv:Nat)] #[],E yR (k:Nat),wd,wd,wd,wd,wd,wd,wd,wd,wd,wd,wd,wd,wd,wd,wd,wd],defers:=[]}) ?assign ?body ?skip ?done
 case assign=>
  intro l k W K y;gi_wp2
  exact y
 case body=>
  rintro l k V A m ⟨B6,d,g,L⟩;have ai:=Qm.o k m;have zQ:k≠v:=fun e=>Q.o (k+1) ⟨al,e▸m⟩;have B9:=B6.cell;have F:=d.cell;have i:=(S.o V k v hv (Q.o k) g).1;rw[y9.o] at i;have yG:=S.o V k k ai al g;have an:=Qi.o k;have ae:=Fa (Ji.o k A);have ad:=Fa (Gw.o k);have wh:=Fa (fun U z=>mN.o U k m z);generalize aB ((P.getD k []++bv).filter fun x=>decide (x≠k))=m2 at *;generalize aB (P.getD k []++bv)=m1 at *;generalize aB (P.getD k [])=mu at *;generalize aB (Bq P v k)=m3 at *;generalize aB bv=mv at *;gi_wp2_with fail
  refine Bi (fun u=>AJ u ⟨w.heap.size,0,O⟩=I (J (I ⟨G,0,O⟩) n c)/\u.cell? ⟨w.heap.size+1,0,O⟩=I (E yR (v:Nat))/\u.cell? ⟨G,v,O⟩=I (E yW (mv:Nat))) ao ao (fun ⟨_,_,h⟩=>h) ⟨B9,F,i⟩ ?_;intro t;have hD:KeepsOthers V V.drew:=CU V;have q0:Boxed V.drew w.heap.size 154 (J (I ⟨G,0,O⟩) n c):=B6;have q1:Boxed V.drew (w.heap.size+1) 3 (E yR (v:Nat)):=d;have q2:dw V.drew G ((jk P v k).map aB):=g;have qB:=ag2 L;have kU:AJ V.drew ⟨G,k,O⟩=I (E yW (mu:Nat)):=yG.1;have fU:V.drew.frozen? ⟨G,k,O⟩=false:=yG.2;clear B9 F i yG B6 d g L X B7 B2;generalize V.drew=q at *;refine au 0 (J (I ⟨G,0,O⟩) n c) ?_;refine au 1 (E yR (k:Nat)) ?_;refine au 2 (J (I ⟨G,0,O⟩) n c) ?_;refine au 3 (E yR (k:Nat)) ?_;refine au 4 (zZ (I ⟨G,k,O⟩)) ?_;refine au 6 (J (I ⟨G,0,O⟩) n c) ?_;refine au 7 (E yR (v:Nat)) ?_;refine au 8 (zZ (I ⟨G,v,O⟩)) ?_;refine au 9 (E yW (mv:Nat)) ?_;refine au 11 (E yR (k:Nat)) ?_;refine au 13 (E yR (v:Nat)) ?_;refine aG [5] (cA ?_ aH);intro b a;go_simp;refine a.o _ _ t (fun s=>?_);clear a b s;refine au 10 (E yW (m1:Nat)) ?_;refine aG [12] (cA ?_ aH);intro b a;go_simp;refine(ae.o _).af ?_;rintro e T ⟨rfl,B1⟩;subst B1;refine a.o _ _ t (fun s=>?_);clear a b s;generalize T=q at *;refine aG [14] (cA ?_ aH);intro b a;go_simp;refine(ad.o _).af ?_;rintro e T ⟨rfl,B1⟩
  subst B1;refine a.o _ _ t (fun s=>?_);clear a b s;generalize T=q at *;refine au 15 (zZ (I ⟨G,k,O⟩)) ?_;refine aG [16] (cA ?_ aH);intro b a;go_simp;refine a.o _ _ ⟨(kH q0 G k _ al).cell,(kH q1 G k _ al).cell,(gg _ _ _ _ (fun e=>zQ (eG Addr.off e))).trans t.2.2⟩ (fun _=>eV ao ?_ _);clear a b t;gi_wp2
  exact⟨(hD.trans (kh q _ _)).from _,kH q0 G k _ al,kH q1 G k _ al,wh.o q q2,ag1 qB (aq2 q G k _)⟩
 case skip=>
  rintro k V A m h;rw[jJ.o k m];exact h
 case done=>
  rintro D V hD ⟨B6,d,g,L⟩ y;gi_wp2
  refine⟨aE,yp ⟨_,_,rfl,CM y,?_⟩⟩;refine⟨_,results_none rfl _ _ _,⟨_,rfl⟩,RD G (fun (_:Unit)=>(jk P v 8).map aB) () V _ (I D) g (grownBy_putObj' V D _) (fun r e=>by cases e;exact⟨_,y,rfl⟩),?_⟩;exact ad5 (β:=Unit) (ak _) () V _ (I D) L (grownBy_putObj' V D _) (fun r e=>by cases e;exact⟨al,_,y,rfl⟩)
end
section
attribute [local go_sem] Oper.semAt_some
variable {f:Nat ->Nat}
def kY (f:Nat ->Nat) (s:Jp):Nat ->Option (Nat×Nat)
 |0=>O
 |k+1=>if k∈s then(match kY f s k with |none=>I (k,f k) |some (b,m)=>if f k<m then I (k,f k) else I (b,m)) else kY f s k
def Ph:Option (Nat×Nat) ->Nat
 |none=>0
 |some (b,_)=>b
def fwM:Option (Nat×Nat) ->Int
 |none=> -1
 |some (_,m)=>(m:Int)
theorem art {s:Jp} (h:¬k∈s):kY f s (k+1)=kY f s k:=by rw[kY,aD h]
theorem arw {s:Jp} (h:k∈s) (e:kY f s k=O):kY f s (k+1)=I (k,f k):=by rw[kY,aA h,e]
theorem arv {s:Jp} {b:Nat} (h:k∈s) (e:kY f s k=I (b,m)) (l:f k<m):kY f s (k+1)=I (k,f k):=by rw[kY,aA h,e];exact aA l
theorem aru {s:Jp} {b:Nat} (h:k∈s) (e:kY f s k=I (b,m)) (l:¬f k<m):kY f s (k+1)=I (b,m):=by rw[kY,aA h,e];exact aD l
def lC (P:List Jp) (s:Jp):Nat:=Ph (kY (sB P) s 8)
theorem apx (P:List Jp) (v:Nat):sB P v<=32:=by
 have:=Ud P v 8;rw[sB];omega
theorem arO (G n c:Nat) (P:List Jp) (s:Jp) (w:wA) (hn:Z P=n) (h8:n<=8) (U:dw w G (P.map aB)) (Y:∀p∈P,∀u∈p,u<n) (hs:∀u∈s,u<n):
  c6 283 #[J (I ⟨G,0,O⟩) n c,E yW (aB s:Nat)] w (dj w (E yR (lC P s:Nat))):=by
 refine(jg (n:=6)).1 ?_;have K6:∀u∈s,u<8:=fun u hu=>by have:=hs u hu;omega
 have ao:=U.lt;have HL:=Fa (fun (V:wA) (t:da w V) (k:Nat) (M:k<n)=>apw G n c k P V hn h8 (U.aa t ao) Y M);have HN:=Fa (fun k (h:¬k∈s)=>art (f:=sB P) h);have HF:=Fa (fun k (h:k∈s) e=>arw (f:=sB P) h e);have HS:=Fa (fun k b m (h:k∈s) e B2=>arv (f:=sB P) (b:=b) (m:=m) h e B2);have HM:=Fa (fun k b m (h:k∈s) e B2=>aru (f:=sB P) (b:=b) (m:=m) h e B2);have Ek:=Fa hs;have B1:lC P s=Ph (kY (sB P) s 8):=rfl;rw[B1];have ad:kY (sB P) s 0=none:=rfl;have lG:=Fa (fun k=>apx P k);generalize kY (sB P) s=fw at *;generalize sB P=lk at *;clear U Y hs B1;refine wF func283 rfl trivial ?_ rfl;simp only[ntmps283,mX,dX,mo,Nat.reduceAdd,Nat.reduceSub,o8,o7,o6,oB,iH,gC];obtain⟨r,x⟩:∃r,r=AC (AC (AC w (yd #[J (I ⟨G,0,O⟩) n c] 154)) (yd #[E yR 0] 3)) (yd #[E yR (-1)] 3):=⟨_,rfl⟩;have T:Boxed r w.heap.size 154 (J (I ⟨G,0,O⟩) n c):=by rw[x];exact((bE w _ _).alloc _).alloc _
 have X:Boxed r (w.heap.size+1) 3 (E yR (Ph (fw 0):Nat)):=by
  have h:=(bE (AC w (yd #[J (I ⟨G,0,O⟩) n c] 154)) 3 (E yR 0)).alloc (yd #[E yR (-1)] 3);rw[eW] at h;rw[x,ad];exact h
 have b2:Boxed r (w.heap.size+1+1) 3 (E yR (fwM (fw 0))):=by
  have h:=bE (AC (AC w (yd #[J (I ⟨G,0,O⟩) n c] 154)) (yd #[E yR 0] 3)) 3 (E yR (-1));rw[eW,eW] at h;rw[x,ad];exact h
 have ab:da w r:=by
  rw[x];exact(((aw _ w).alloc (ak _) _).alloc aE _).alloc (by simp;omega) _
 gi_wp2
 rw[<- x];clear x;have BL:w.heap.size+1+1<r.heap.size:=b2.lt
 refine E4 al s K6 rfl rfl
  (fun k V=>Boxed V w.heap.size 154 (J (I ⟨G,0,O⟩) n c)/\Boxed V (w.heap.size+1) 3 (E yR (Ph (fw k):Nat))/\Boxed V (w.heap.size+1+1) 3 (E yR (fwM (fw k)))/\da w V)
  (gJ (iF (kL _ _ (fun _=>_)) _) (gJ (iF (kL _ _ (fun k:Nat=>E yR (Ph (fw k):Nat))) _) (gJ (iF (kL _ _ (fun k:Nat=>E yR (fwM (fw k)))) _) (CO (ak _) al))))
  ⟨T,X,b2,ab⟩
  (fun k=> {tmps:= #[J (I ⟨G,0,O⟩) n c,E yW (aB s:Nat),zZ (I ⟨w.heap.size,0,O⟩),wd,E yR 0,zZ (I ⟨w.heap.size+1,0,O⟩),zZ (I ⟨w.heap.size+1+1,0,O⟩),E yR (k:Nat),wd,E yW (aB s:Nat),.func (.func 182) #[E yW (aB s:Nat)] #[],E yR (k:Nat),wd,wd,wd,wd,wd,wd,wd,wd,wd,wd,wd,wd,wd],defers:=[]}) ?assign ?body ?skip ?done
 case assign=>
  intro l k W K B6;gi_wp2
  exact B6
 case body=>
  rintro l k V M v ⟨A,F,B7,t⟩;have R:=Fa (HL.o V t k (Ek.o k v));have aq:=lG.o k;have ai:=Fa (HF.o k v);have UQ:=Fa (fun b m=>HS.o k b m v);have aj:=Fa (fun b m=>HM.o k b m v);have k0:=A.cell;have y:=Fa t;have H:=Fa (And.intro A (And.intro F B7));have S:=B7.lt;clear A F B7 t T X b2 ab;generalize fw k=st at *;generalize lk k=L at *;have ar:¬(L:Int)<0:=al
  cases st with
  |none=>
   have g:=ai.o rfl;have B9:=Fa g;clear g;gi_wp2_with (refine⟨trivial,?_⟩;gi_at_call 293;refine(Q8 l (jg.2 R.o)).af ?_;rintro e i ⟨rfl,a⟩;have z:=Ap H.o.1 a al;have d:=Ap H.o.2.1 a al;have q:=Ap H.o.2.2 a S;have j1:=d.cell;have j:=q.cell;have g1:=d.frozen;have g2:=q.frozen;have ae:AJ i ⟨w.heap.size+1+1,0,O⟩=I (E yR (-1)):=j;clear j)
   refine⟨((X5 a).trans ((kh i _ _).trans (kh _ _ _))).from _,kH (kH z _ 0 _ al) _ 0 _ al,?_,?_,?_⟩
   ·rw[B9.o];exact kH (d.set _) _ 0 _ al
   ·rw[B9.o];exact(kH q _ 0 _ al).set _
   ·exact((y.o.trans (a.af y.o.size)).setCell (p:=⟨w.heap.size+1,0,O⟩) aE _).setCell (p:=⟨w.heap.size+1+1,0,O⟩) (by show w.heap.size<=w.heap.size+1+1;omega) _
  |some bm=>
   obtain⟨b,m⟩:=bm;(have av:¬(m:Int)<0:=al);by_cases Q:L<m
   ·have g:=UQ.o b m rfl Q;have B9:=Fa g;(have an:(L:Int)<(m:Int):=al);clear g;gi_wp2_with (refine⟨trivial,?_⟩;gi_at_call 293;refine(Q8 l (jg.2 R.o)).af ?_;rintro e i ⟨rfl,a⟩;have z:=Ap H.o.1 a al;have d:=Ap H.o.2.1 a al;have q:=Ap H.o.2.2 a S;have j1:=d.cell;have j:=q.cell;have g1:=d.frozen;have g2:=q.frozen;have ae:AJ i ⟨w.heap.size+1+1,0,O⟩=I (E yR (m:Nat)):=j;clear j)
    refine⟨((X5 a).trans ((kh i _ _).trans (kh _ _ _))).from _,kH (kH z _ 0 _ al) _ 0 _ al,?_,?_,?_⟩
    ·rw[B9.o];exact kH (d.set _) _ 0 _ al
    ·rw[B9.o];exact(kH q _ 0 _ al).set _
    ·exact((y.o.trans (a.af y.o.size)).setCell (p:=⟨w.heap.size+1,0,O⟩) aE _).setCell (p:=⟨w.heap.size+1+1,0,O⟩) (by show w.heap.size<=w.heap.size+1+1;omega) _
   ·have g:=aj.o b m rfl Q;have B9:=Fa g;(have an:¬(L:Int)<(m:Int):=al);clear g Q;gi_wp2_with (refine⟨trivial,?_⟩;gi_at_call 293;refine(Q8 l (jg.2 R.o)).af ?_;rintro e i ⟨rfl,a⟩;have z:=Ap H.o.1 a al;have d:=Ap H.o.2.1 a al;have q:=Ap H.o.2.2 a S;have j:=q.cell;have ae:AJ i ⟨w.heap.size+1+1,0,O⟩=I (E yR (m:Nat)):=j;clear j)
    exact⟨(X5 a).from _,z,by rw[B9.o];exact d,by rw[B9.o];exact q,y.o.trans (a.af y.o.size)⟩
 case skip=>
  rintro k V M v h;rw[HN.o k v];exact h
 case done=>
  rintro D V hD ⟨A,F,B7,t⟩ B6;have hc:=F.cell;gi_wp2
  refine⟨aE,yp ⟨_,_,rfl,CM B6,?_⟩⟩;exact⟨_,CN rfl _ _ _,rfl,t.trans (xY (w:=w) (ak _) V D _ _ al B6 rfl rfl)⟩
end
variable {l:Kx} {g i j:Nat} {y:wQ} {w w':wA}
def jV (w:wA) (g:Nat) (l:List wQ):Prop:=w.heap[g]? =I (yd l.toArray 27 (0,0))
theorem jV.cell {l:List wQ} (h:jV w g l) (j:Nat) (a:j<Z l):AJ w ⟨g,j,O⟩=I l[j]:=by
 rw[a8 w g j _ _ (0,0) h];simp[a]
theorem jV.fz {l:List wQ} (h:jV w g l) (j:Nat):w.frozen? ⟨g,j,O⟩=false:=eA w g j _ _ h
theorem jV.lt {l:List wQ} (h:jV w g l):g<w.heap.size:=(c5.1 h).1
theorem jV.aa {b:Nat} {l:List wQ} (h:jV w g l) (a:Below b w w') (c:g<b):jV w' g l:=(a.block g c).trans h
theorem jV.set {l:List wQ} (h:jV w g l) (j:Nat) (y:wQ):jV (AF w ⟨g,j,O⟩ y) g (l.set j y):=by
 have a:=ke w g j _ _ y h;rw[jV,a];simp
theorem Tryz.infoInts1:(prog.info? 27).map (fun i=>(i.zero,i.size,i.bytes))=I (I (J O 0 0),1,24):=ao
theorem Sx (n:Nat):(madeCells (Value.slice O 0 0).cells (n*1)).toList=List.replicate n (Value.slice O 0 0):=by
 rw[show (Value.slice O 0 0).cells= #[Value.slice O 0 0] from rfl,My,rU]
def fV (s:Jp):Kx:=iL (bX s 8)
def PO (w:wA) (P:List Jp) (l:List wQ) (i:Nat):Prop:=Z l=Z P/\∀j (hj:j<Z P),j< i ->∃d cd,l[j]? =I (J d (Z (fV P[j])) cd)/\aC w d (fV P[j])
theorem PO.aa {l:List wQ} (h:PO w P l i) (e:da w w'):PO w' P l i:=⟨h.1,fun j g f=>by
 obtain⟨d,c,a,b⟩:=h.2 j g f;exact⟨d,c,a,b.aa e⟩⟩
theorem aC.off {d:Kd} (h:aC w d l) (i:∀g' o',d=I ⟨g',o',O⟩ ->l≠[] ->g'≠g):aC (AF w ⟨g,j,O⟩ y) d l:=fun k a=>by
 obtain⟨g',o',b,c,f⟩:=h k a;have n:=i g' o' b (fun e=>by rw[e] at a;simp at a);refine⟨g',o',b,by simpa using c,?_⟩;rw[<- f];have e:=eO w ⟨g,j,O⟩ y g' (by show g'≠g;exact n);exact iE e
theorem afF {d:Kd} {vs:List wQ} (h:aC w d l) (j:jV w g vs) (m:∀v∈vs,∃a n c,v=J a n c):∀g' o',d=I ⟨g',o',O⟩ ->l≠[] ->g'≠g:=fun g' o' i k e=>by
 subst e;have p:0<Z l:=List.length_pos_iff.2 k;obtain⟨o,r,f,q,b⟩:=h 0 p;rw[i] at f;cases f;rw[a8 w g' _ _ _ (0,0) j] at b;rw[QY] at b;obtain⟨a,n,c,e⟩:=m _ (VS b);cases e
def Slv (l:List wQ):Prop:=∀v∈l,∃a n c,v=Value.slice a n c
theorem afn (a:Kd) (ca:Nat) (P:List Jp) (w:wA) (A:∀p∈P,∀u∈p,u<8) (hn:Z P<=5000) (D:∀k (h:k<Z P),∃g o,a=I ⟨g,o,O⟩/\g<w.heap.size/\w.cell? ⟨g,o+k,O⟩=I (E yW (aB P[k]:Nat))):
  c6 253 #[J a (Z P) ca] w fun e w'=>∃G,e=yk (J (I ⟨G,0,O⟩) (Z P) (Z P))/\w.heap.size<=G/\ei w' (I ⟨G,0,O⟩) (P.map fV)/\da w w':=by
 obtain⟨i0,cH,ai,aj,an⟩:=eo Tryz.infoInts1;have V:=Fa D;have T:=Fa A;have M:=Fa (fun (s:Jp) (hs:∀u∈s,u<8) (U:wA)=>afo s U hs);clear D A;go_enter func253,ntmps253
 go_wp2_with (first
  |(at_make;refine oX _ rfl _ _ 23 rfl w.heap.size 27 i0 (J O 0 0) 1 underlying23 cH ai aj yR yR _ _ (Z P) rfl rfl bd bd (by rw[an];omega) (by unfold maxLen;omega) (ak _) ?_;intro B9 K L))
 have r:=sR K;rw[Sx] at r;have B1:we (da w B9):=(aw _ w).grown L (ak _) (fun k e=>by cases e);have t:we (jV B9 w.heap.size (List.replicate (Z P) (J O 0 0))):=r;clear K L r;go_wp2_with fail
 go_loopw [11] (fun iv wr=>∃(i:Nat) (vs:List wQ),i<=Z P/\iv=E yR i/\we (jV wr w.heap.size vs)/\we (PO wr P vs i)/\we (Slv vs)/\we (da w wr)) (fun iv _=>Z P - (intOf iv).toNat)
 case atStart=>exact⟨0,_,aX _,rfl,t,⟨aE,fun j _ h=>absurd h al⟩,fun v f=>⟨O,0,0,(List.mem_replicate.1 f).2⟩,B1⟩
 case round=>
  obtain⟨i,vs,hi,rfl,R,F,S,H⟩:=hrel;clear t B1;by_cases B6:i<Z P
  ·obtain⟨g,o,rfl,hg,y⟩:=V.o i B6;have c1:=(H.o.cell (p:=⟨g,o+i,O⟩) hg).trans y;have Q:=Fa (M.o P[i] (T.o _ (bQ B6)));have ae:=F.o.1;clear y;go_wp2_with fail
   refine(Q.o _).af ?_;rintro e w3 ⟨v,rfl,f,l⟩;obtain⟨d,c,rfl,B7⟩:=f.ints;have n:=R.o.aa l R.o.lt;have X:=F.o.aa l;have k3:=n.cell i al;have f3:=n.fz i;have B2:=Fa ((H.o.trans (l.af H.o.size)).setCell (p:=⟨w.heap.size,i,O⟩) (ak _) (J d (Z (fV P[i])) c));have jI:=Fa (n.set i (J d (Z (fV P[i])) c))
   have ab:we (Slv (vs.set i (J d (Z (fV P[i])) c))):=fun x hx=>by
    rcases abw hx with h |h
    ·exact S.o x h
    ·exact⟨_,_,_,h⟩
   have ad:we (PO (AF w3 ⟨w.heap.size,i,O⟩ (J d (Z (fV P[i])) c)) P (vs.set i (J d (Z (fV P[i])) c)) (i+1)):=by
    refine⟨by rw[gA];exact ae,fun j hj uF=>?_⟩;by_cases e:j=i
    ·subst e;exact⟨d,c,by rw[Ho al],aC.off B7 (afF B7 n S.o)⟩
    ·obtain⟨d',Y,m,b⟩:=X.2 j hj al;exact⟨d',Y,by rw[wJ (fun e'=>e e'.symm)];exact m,aC.off b (afF b n S.o)⟩
   rw[show iL (bX P[i] 8)=fV P[i] from rfl];generalize (Z (fV P[i]))=ln at *;generalize vs[i]'al=z at *;clear n X l B7 f c1;go_wp2;go_roundw
   case rel=>exact⟨i+1,_,al,bd,jI,ad,ab,B2⟩
   case measure=>simp[intOf];omega
  ·obtain rfl:i=Z P:=al
   have dP:we (ei wr (I ⟨w.heap.size,0,O⟩) (P.map fV)):=fun k q=>by
    rw[dm] at q;obtain⟨d,c,m,b⟩:=F.o.2 k q q;obtain⟨h3,h4⟩:=oA.1 m;refine⟨w.heap.size,0,d,c,rfl,R.o.lt,?_,by rw[mq];exact b⟩;rw[bK,R.o.cell k h3,h4,mq]
   go_wp2;go_ret;exact⟨w.heap.size,rfl,ak _,dP.o,H.o⟩
variable {K:Act ->wA ->Prop} {Q:Exit ->Act ->wA ->Prop} {f:Nat ->Nat} {nv v':wQ} {V' w9 wr wr':wA}
def Au (w:wA) (B:Nat) (v:wQ) (l:Jp):Prop:=w.ownsRow B 158 1 v (Z l) (l.map uv)
theorem Au.own {B:Nat} {v:wQ} {l:Jp} (h:Au w B v l):∀k,v.ownBlock=I k ->B<=k:=by
 intro k a;rcases h.2 with ⟨rfl,_⟩ |⟨g,cap,c,rfl,b,_⟩
 ·cases a
 ·cases a;exact b
theorem Au.slv {B:Nat} {v:wQ} {l:Jp} (h:Au w B v l):∃d n c,v=J d n c:=by
 rcases h.2 with ⟨rfl,_⟩ |⟨g,cap,r,rfl,a,_⟩
 ·exact⟨_,_,_,rfl⟩
 ·exact⟨_,_,_,rfl⟩
theorem ad2 {W:wA} {d f:Nat} {a b:TypeId} {c v:wQ} {n m:Nat} {x o:List wQ} (h1:W.ownsRow d a 1 c n x) (j:W.ownsRow f b 1 v m o) (k:a≠b):v.ownBlock=O∨v.ownBlock≠c.ownBlock:=by
 rcases j.2 with ⟨rfl,_⟩ |⟨g,cap,r,rfl,_,l,_⟩
 ·exact yp rfl
 ·refine xS fun e=>?_;rcases h1.2 with ⟨rfl,_⟩ |⟨g',p,u,rfl,_,i,_⟩
  ·cases e
  ·have h:g=g':=kg e;subst h;rw[l] at i;injection i with h3;injection h3 with _ h4 _;exact k h4.symm
theorem ad3 {W:wA} {B G:Nat} {e:TypeId} {v:wQ} {x:List wQ} (h:W.ownsRow B e 1 v n x) (c:G<B):v.ownBlock=O∨v.ownBlock≠I G:=by
 rcases h.2 with ⟨rfl,_⟩ |⟨g,cap,r,rfl,b,_⟩
 ·exact yp rfl
 ·exact xS fun e=>by
   have a:g=G:=kg e;omega
theorem Z5 {V:wA} {G:Nat} {row:Option Nat} (h:w.grownBy V (I G)) (g:V.grownBy V' row) (b:∀r,row=I r ->w.heap.size<=r):w.grownBy V' (I G):=
 ⟨g.os.trans h.os,g.tape.trans h.tape,g.output.trans h.output,aO h.size g.size,fun k a n=>(g.block k (aT a h.size) (fun e=>by
  have:=b k e.symm;omega)).trans (h.block k a n)⟩
theorem Tryz.infoSet2:(prog.info? 158).map (fun i=>(i.zero,i.size,i.bytes))=I (I (E yW 0),1,4):=ao
theorem ajz {o:Oper} {a:Act} (s x:Operand)
  (k:o.op=.call {callee:=.builtin .append,args:= #[s,x],argTypes:= #[154,154]}) (base:Nat) (v:wQ) (l:Jp) (f:Nat) (hs:a.eval s=v) (r:Au w base v l) (g:Nat) (m:a.eval x=J (I ⟨g,0,O⟩) 1 1) (i:AJ w ⟨g,0,O⟩=I (uv f)) (y:Z l+1<=100000) (t:base<=w.heap.size)
  (h:∀v' w',Au w' base v' (l++[f]) ->w.grownBy w' v.ownBlock ->K (a.put o.dst v') w'):o.wp prog a w K Q:=by
 obtain⟨n,H,z,p,q⟩:=eo Tryz.infoSet2;refine wp_append_own _ s x 154 k base 158 n (E yW 0) 1 4 underlying154 H z p q rfl a6 v (Z l) _ hs r ⟨g,0,O⟩ 1 1 [uv f] m rfl ?_ ?_ (by unfold maxLen;omega) al t ?_
 ·intro j u b;match j,b with
  |0,b=>cases b;exact i
  |j+1,b=>simp at b
 ·intro u c;simp only[bU,gw,jf] at c;subst c;rfl
 ·intro v' w' d e _;refine h v' w' ?_ e;rw[Au,cD,gK];exact d
theorem ajB {o:Oper} {a:Act} (s x:Operand)
  (k:o.op=.call {callee:=.builtin .append,args:= #[s,x],argTypes:= #[27,27]}) (base:Nat) (v:wQ) (l:Kx) (f:Int) (hs:a.eval s=v) (r:bS w base v l) (g:Nat) (m:a.eval x=J (I ⟨g,0,O⟩) 1 1) (i:AJ w ⟨g,0,O⟩=I (E yR f)) (y:Z l+1<=100000) (t:base<=w.heap.size)
  (h:∀v' w',bS w' base v' (l++[f]) ->w.grownBy w' v.ownBlock ->K (a.put o.dst v') w'):o.wp prog a w K Q:=by
 obtain⟨n,H,z,p,q⟩:=eo Tryz.infoInt;refine wp_append_own _ s x 27 k base 3 n (E yR 0) 1 8 underlying27 H z p q rfl a6 v (Z l) _ hs r ⟨g,0,O⟩ 1 1 [E yR f] m rfl ?_ ?_ (by unfold maxLen;omega) al t ?_
 ·intro j u b;match j,b with
  |0,b=>cases b;exact i
  |j+1,b=>simp at b
 ·intro u c;simp only[bU,gw,jf] at c;subst c;rfl
 ·intro v' w' d e _;refine h v' w' ?_ e;rw[bS,cD,gK];exact d
def zt:Nat ->Jp
 |0=>[]
 |i+1=>i::zt i
theorem CZ {x:Nat}:x∈zt i↔x<i:=by
 induction i with
 |zero=>simp[zt]
 |succ i ih=>rw[zt,bU,ih];omega
structure FlS where
 ord:Jp
 bag:List Jp
 lft:Jp
 nei:List Jp
def bP (P:List Jp) (n:Nat):Nat ->FlS
 |0=>⟨[],[],zt n,P⟩
 |k+1=>⟨(bP P n k).ord++[lC (bP P n k).nei (bP P n k).lft],(bP P n k).bag++[lC (bP P n k).nei (bP P n k).lft::(bP P n k).nei.getD (lC (bP P n k).nei (bP P n k).lft) []],(bP P n k).lft.filter (fun u=>decide (u≠lC (bP P n k).nei (bP P n k).lft)),vd (bP P n k).nei (lC (bP P n k).nei (bP P n k).lft)⟩
structure vX (n:Nat) (P:List Jp):Prop where
 len:Z P=n
 lt:∀p∈P,∀u∈p,u<n
 self:∀u,¬u∈P.getD u []
theorem vX.at (h:vX n P) (v:Nat):∀u∈P.getD v [],u<n:=by
 by_cases a:v<Z P
 ·rw[cK,ba a];exact h.lt _ (bQ a)
 ·rw[cK,jw al];intro u b;simp at b
theorem XK {u x:Nat}:x∈Bq P v u↔(x∈P.getD u []∨x∈P.getD v [])/\x≠u/\x≠v:=by
 simp only[Bq,cU,bH,VF];exact⟨fun ⟨⟨a,b⟩,c⟩=>⟨a,b,c⟩,fun ⟨a,b,c⟩=>⟨⟨a,b⟩,c⟩⟩
theorem vX.take (h:vX n P) (v:Nat):vX n (vd P v):=by
 refine⟨by rw[vd,Kk];exact h.len,fun p b u a=>?_,fun u a=>?_⟩
 ·obtain⟨i,d,rfl⟩:=aQ.1 b;by_cases c:i<8/\i∈P.getD v []
  ·rw[aA c,XK] at a;exact a.1.elim (h.at i u) (h.at v u)
  ·rw[aD c] at a;exact h.at i u a
 ·by_cases l:u<Z P
  ·have e:(vd P v).getD u []=if u<8/\u∈P.getD v [] then Bq P v u else P.getD u []:=by
    rw[cK,ba (by rw[vd,Kk];exact l)];simp[vd,jk]
   rw[e] at a;by_cases c:u<8/\u∈P.getD v []
   ·rw[aA c,XK] at a;exact a.2.1 rfl
   ·rw[aD c] at a;exact h.self u a
  ·rw[cK,jw (by rw[vd,Kk];omega)] at a;simp at a
theorem TZ {s:Jp}:∀ {k b m:Nat},kY f s k=I (b,m) ->b∈s
 |0,_,_,h=>by cases h
 |k+1,b,m,h=>by
  by_cases a:k∈s
  ·rw[kY,aA a] at h;cases hf:kY f s k with
   |none=>rw[hf] at h;cases h;exact a
   |some x=>
    obtain⟨d,c⟩:=x;rw[hf] at h;simp only at h;by_cases l:f k<c
    ·rw[aA l] at h;cases h;exact a
    ·rw[aD l] at h;cases h;exact TZ hf
  ·rw[kY,aD a] at h;exact TZ h
theorem ahs {s:Jp} (h1:1<=n) (hs:∀u∈s,u<n):lC P s<n:=by
 rw[lC];cases h:kY (sB P) s 8 with
 |none=>exact h1
 |some x=>
  obtain⟨b,m⟩:=x;exact hs b (TZ h)
theorem T6 (h:vX n P):∀k,vX n (bP P n k).nei/\(∀u∈(bP P n k).lft,u<n)/\(bP P n k).ord.length=k/\(bP P n k).bag.length=k
 |0=>⟨h,fun u a=>CZ.1 a,rfl,rfl⟩
 |k+1=>by
  obtain⟨b,c,d,e⟩:=T6 h k;exact⟨b.take _,fun u a=>c u (cU.1 a).1,by simp[bP,d],by simp[bP,e]⟩
structure p6 (w wr:wA) (G:Nat) (nv bv:wQ) (o:Kx) (b Q:Jp):Prop where
 row:dw wr G Q
 grow:w.grownBy wr (I G)
 nd:bS wr w.heap.size nv o
 bg:Au wr w.heap.size bv b
theorem p6.aa {G:Nat} {bv:wQ} {o:Kx} {b Q:Jp} (h:p6 w wr G nv bv o b Q) (a:da wr wr'):p6 w wr' G nv bv o b Q:=
 ⟨h.row.aa a h.row.lt,Z5 h.grow (row:=O) ⟨a.os,a.tape,a.output,a.size,fun k c _=>a.block k c⟩ (fun r e=>by cases e),h.nd.under a,Sa h.bg a (ak _)⟩
theorem p6.nodes {G:Nat} {bv:wQ} {o o':Kx} {b Q:Jp} (h:p6 w wr G nv bv o b Q) (c:G<w.heap.size) (a:bS w9 w.heap.size v' o') (g:wr.grownBy w9 nv.ownBlock):p6 w w9 G v' bv o' b Q:=
 ⟨(g.block G h.row.lt (fun e=>by have:=h.nd.own G e.symm;omega)).trans h.row,Z5 h.grow g (fun r e=>h.nd.own r e),a,QN h.bg g (ad2 h.nd h.bg a6)⟩
theorem p6.bags {G:Nat} {bv:wQ} {o:Kx} {b a Q:Jp} (h:p6 w wr G nv bv o b Q) (d:G<w.heap.size) (c:Au w9 w.heap.size v' a) (g:wr.grownBy w9 bv.ownBlock):p6 w w9 G nv v' o a Q:=
 ⟨(g.block G h.row.lt (fun e=>by have:=h.bg.own G e.symm;omega)).trans h.row,Z5 h.grow g (fun r e=>h.bg.own r e),QN h.nd g (ad2 h.bg h.nd a6),c⟩
theorem p6.o {G:Nat} {bv:wQ} {o:Kx} {b Q a:Jp} (h:p6 w wr G nv bv o b Q) (c:G<w.heap.size) (r:dw w9 G a) (g:wr.grownBy w9 (I G)):p6 w w9 G nv bv o b a:=
 ⟨r,ag1 h.grow g,QN h.nd g (ad3 h.nd c),QN h.bg g (ad3 h.bg c)⟩
theorem p6.drew {G:Nat} {bv:wQ} {o:Kx} {b Q:Jp} (h:p6 w wr G nv bv o b Q):p6 w wr.drew G nv bv o b Q:=⟨h.row,ag2 h.grow,h.nd,h.bg⟩
theorem aq9 (G n c:Nat) (P:List Jp) (w:wA) (h1:1<=n) (h8:n<=8) (g:dw w G (P.map aB)) (hP:vX n P):
  c6 255 #[J (I ⟨G,0,O⟩) n c] w fun e w'=>∃nv bv,e=yk (zz #[nv,bv])/\p6 w w' G nv bv (iL (bP P n n).ord) ((bP P n n).bag.map aB) ((bP P n n).nei.map aB):=by
 have M:=g.lt;have Ct:=Fa (fun k=>T6 hP k);have X:we (p6 w w G (J O 0 0) (J O 0 0) (iL (bP P n 0).ord) ((bP P n 0).bag.map aB) ((bP P n 0).nei.map aB)):=⟨g,⟨rfl,rfl,rfl,ak _,fun _ _ _=>rfl⟩,⟨rfl,yp ⟨rfl,rfl⟩⟩,⟨rfl,yp ⟨rfl,rfl⟩⟩⟩;have UK:=Fa (fun (i:Nat) (B2:i<8) (U:wA)=>Ks (zt i) i U (fun u t=>by have:=CZ.1 t;omega) B2);have ab:we (∀i,aB (i::zt i)=aB (zt (i+1))):=fun i=>rfl;have GF:we (∀k,bP P n (k+1)=⟨(bP P n k).ord++[lC (bP P n k).nei (bP P n k).lft],(bP P n k).bag++[lC (bP P n k).nei (bP P n k).lft::(bP P n k).nei.getD (lC (bP P n k).nei (bP P n k).lft) []],(bP P n k).lft.filter (fun u=>decide (u≠lC (bP P n k).nei (bP P n k).lft)),vd (bP P n k).nei (lC (bP P n k).nei (bP P n k).lft)⟩):=fun k=>rfl;have Vb:we ((bP P n 0).lft=zt n):=rfl;generalize bP P n=s at *;clear g hP;go_enter func255,ntmps255;go_wp2_with fail
 go_loopw [4,9] (fun sv iv wr=>∃i:Nat,i<=n/\sv=E yW (aB (zt i):Nat)/\iv=E yR i/\wr=w) (fun _ iv _=>n - (intOf iv).toNat)
 case atStart=>exact⟨0,aX _,rfl,rfl,rfl⟩
 case round=>
  obtain⟨i,B2,rfl,rfl,R⟩:=hrel;replace R:=R.symm;subst R;by_cases ad:i<n
  ·have Y:=Fa (UK.o i al);rw[ab.o i] at Y;generalize aB (zt i)=Q at *;go_wp2_with fail
   refine(Y.o _).af ?_;rintro e w1 ⟨rfl,ai⟩;subst ai;go_wp2;go_roundw
   case rel=>exact⟨i+1,al,rfl,bd,trivial⟩
   case measure=>simp[intOf];omega
  ·obtain rfl:i=n:=al
   rw[<- Vb.o];clear B2 ad UK ab;go_wp2_with fail
   go_loopw [2,3,4,18] (fun nv bv sv iv wr'=>∃k:Nat,k<=i/\iv=E yR k/\sv=E yW (aB (s k).lft:Nat)/\we (p6 w wr' G nv bv (iL (s k).ord) ((s k).bag.map aB) ((s k).nei.map aB))) (fun _ _ _ iv _=>i - (intOf iv).toNat)
   case atStart=>exact⟨0,aX _,rfl,rfl,X⟩
   case round=>
    obtain⟨k,hk,rfl,rfl,H⟩:=hrel;clear X;by_cases ad:k<i
    ·obtain⟨f,z,av,an⟩:=Ct.o k;have UQ:=Fa (GF.o k);(obtain⟨d2,n2,e2,rfl⟩:∃d n c,u2=Value.slice d n c:=by obtain⟨d,cd,e, -⟩:=H.o.nd.ints;exact⟨_,_,_,e⟩);obtain⟨d3,n3,e3,rfl⟩:=H.o.bg.slv;generalize s k=S at *;have OI:=ahs (P:=S.nei) h1 z;have ae:=Fa (fun (U:wA) (g:dw U G (S.nei.map aB))=>arO G i c S.nei S.lft U f.len h8 g f.lt z);have Jk:=Fa (fun (U:wA) (g:dw U G (S.nei.map aB))=>akq G i c (lC S.nei S.lft) S.nei U f.len h8 g f.lt OI (f.self _));have Jh:=Fa (fun (U:wA)=>Ks (S.nei.getD (lC S.nei S.lft) []) (lC S.nei S.lft) U (fun u t=>by have:=f.at _ u t;omega) al);have l8:=Fa (fun (U:wA)=>Nj S.lft (lC S.nei S.lft) U (fun u t=>by have:=z u t;omega) al)
     have pY:we (∀U:wA,dw U G (S.nei.map aB) ->AJ U ⟨G,lC S.nei S.lft,O⟩=I (E yW (aB (S.nei.getD (lC S.nei S.lft) []):Nat))):=fun U hR=>by
      have hl:=f.len;have:=hR.cell (lC S.nei S.lft) (by rw[dm];omega);rwa [Fq al] at this
     generalize uy:lC S.nei S.lft=v at *;clear uy f z;generalize hm4:aB (S.lft.filter fun u=>decide (u≠v))=m4 at *;have rP:=Fa hm4;clear hm4;go_wp2_with fail
     refine(ae.o _ H.o.row).af ?_;rintro e w1 ⟨rfl,hb⟩;have L:=H.o.aa hb;clear hb H;have kc:=pY.o _ L.row;have T:we (aB (v::S.nei.getD v [])=aB (v::S.nei.getD v [])):=rfl;generalize hm1:aB (v::S.nei.getD v [])=m at *;replace T:we (aB (v::S.nei.getD v [])=m):=hm1;clear hm1;generalize aB (S.nei.getD v [])=Q at *;go_upto_region 10 with fail
     refine iD (S:=fun u=>AJ u ⟨G,v,O⟩=I (E yW (Q:Nat))) ao kc (fun a=>?_);have B7:=L.drew;(have ax:Z (iL S.ord)<=8:=by rw[bM];omega);(have kT:Z (S.bag.map aB)<=8:=by rw[dm];omega);clear kc L;generalize w1.drew=b at *;refine au 0 (J d2 n2 e2) ?_;refine au 1 (E yR (v:Nat)) ?_;refine au 4 (J d3 n3 e3) ?_;refine au 5 (J (I ⟨G,0,O⟩) i c) ?_;refine au 6 (E yR (v:Nat)) ?_;refine au 7 (zZ (I ⟨G,v,O⟩)) ?_;(try simp only[gE,aP]);refine dt 8 (E yW (Q:Nat)) ?_ ?_
     ·intro u' aM;have s0:=aM;go_simp
     refine au 9 (E yR (v:Nat)) ?_;refine aG [2] (cA ?_ aH);intro K h;go_simp;have j:=(aw _ b).alloc (ak _) (yd #[E yR (v:Nat)] 3);have r:=B7.aa j;have l:=(bE b 3 (E yR (v:Nat))).cell;refine h.o _ _ ((j.cell (p:=⟨G,v,O⟩) B7.row.lt).trans a) (fun q=>?_);clear h K a B7 j;have a:=q;clear q;generalize (AC b (yd #[E yR (v:Nat)] 3))=U1 at *;generalize b.heap.size=B6 at *;refine aG [3] (cA ?_ aH);intro K h;rw[aA (by rfl)];refine ajB _ _ rfl w.heap.size _ (iL S.ord) (v:Nat) rfl r.nd B6 rfl l al r.grow.size ?_;intro v' w9 A B9;(obtain⟨y,D,x,rfl⟩:∃d n c,v'=Value.slice d n c:=by obtain⟨d,cd,e, -⟩:=A.ints;exact⟨_,_,_,e⟩);have F:=r.nodes M A B9;refine h.o _ _ ((iE (B9.block G r.row.lt (fun e=>by have:=r.nd.own G e.symm;omega))).trans a) (fun q=>?_);clear h K a r A B9 l;have a:=q;clear q;have Dx:True:=trivial;clear Dx;generalize hd:y=dn at *;generalize pC:D=nn at *;generalize Tp:x=cn at *;clear hd pC Tp y D x;refine aG [10] (cA ?_ aH);intro K h;go_simp;refine(Jh.o _).af ?_;rintro e U2 ⟨rfl,yG⟩;subst yG;refine h.o _ _ a (fun q=>?_);clear h K q;have B7:=F;clear F;generalize U2=b at *;refine aG [11] (cA ?_ aH);intro K h;go_simp;have j:=(aw _ b).alloc (ak _) (yd #[E yW (m:Nat)] 158);have r:=B7.aa j;have l:=(bE b 158 (E yW (m:Nat))).cell;refine h.o _ _ ((j.cell (p:=⟨G,v,O⟩) B7.row.lt).trans a) (fun q=>?_);clear h K a B7 j;have a:=q;clear q
     generalize (AC b (yd #[E yW (m:Nat)] 158))=U1 at *;generalize b.heap.size=B6 at *;refine aG [12] (cA ?_ aH);intro K h;rw[aA (by rfl)];refine ajz _ _ rfl w.heap.size _ (S.bag.map aB) m rfl r.bg B6 rfl l al r.grow.size ?_;intro v' w9 A B9;obtain⟨y,D,x,rfl⟩:∃d n c,v'=Value.slice d n c:=A.slv;have F:=r.bags M A B9;refine h.o _ _ ((iE (B9.block G r.row.lt (fun e=>by have:=r.bg.own G e.symm;omega))).trans a) (fun q=>?_);clear h K a r A B9 l;have a:=q;clear q;refine au 13 (J dn nn cn) ?_;refine au 14 (J y D x) ?_;(try simp only[gE,aP]);refine eV ao ?_ _;clear a;have B1:=F;clear F;generalize w9=w3 at *;go_wp2_with fail
     refine(l8.o _).af ?_;rintro e w4 ⟨rfl,aj⟩;subst aj;go_wp2_with fail
     refine(Jk.o _ B1.row).af ?_;rintro e w5 ⟨⟨rr,rfl⟩,tH,V⟩;have yQ:=Fa (B1.o M tH V);clear tH V B1;go_wp2;go_roundw
     case rel=>exact⟨k+1,al,bd,by rw[UQ.o];show _=Value.int yW (aB (S.lft.filter fun u=>decide (u≠v)):Nat);rw[rP.o],by rw[UQ.o];show p6 _ _ _ _ _ (iL (S.ord++[v])) ((S.bag++[v::S.nei.getD v []]).map aB) _;rw[Ye,gK,show [v::S.nei.getD v []].map aB=[m] from by rw[<- T.o];rfl];exact yQ⟩
     case measure=>simp[intOf];omega
    ·obtain rfl:k=i:=al
     (obtain⟨d2,n2,e2,rfl⟩:∃d n c,u2=Value.slice d n c:=by obtain⟨d,cd,e, -⟩:=H.o.nd.ints;exact⟨_,_,_,e⟩);obtain⟨d3,n3,e3,rfl⟩:=H.o.bg.slv;go_wp2;go_ret2;exact⟨_,_,rfl,H.o⟩
structure aiS (n:Nat) (ord:Nat ->Nat) (nr:Nat ->Nat ->Nat ->Prop):Prop where
 all:∀v,v< n ->∃i,i<n/\ord i=v
 inj:∀i j,i< n ->j< n ->ord i=ord j ->i=j
 lt:∀u w,nr 0 u w ->u<n/\w<n
 self:∀u,¬nr 0 u u
 symm:∀u w,nr 0 u w ->nr 0 w u
 step:∀i,i< n ->∀u w,nr (i+1) u w↔u≠ord i/\w≠ord i/\u≠w/\(nr i u w∨nr i u (ord i)/\nr i (ord i) w)
theorem Fm:∀ {l m:Jp},l.Nodup ->(∀x∈l,x∈m) ->Z l<=Z m
 |[],_,_,_=>aX _
 |a::l,m,hn,hs=>by
  have b:a∈m:=hs a (dA ..);have h:=mY.1 hn;have:=Fm (l:=l) (m:=m.erase a) h.2 (fun x c=>(List.mem_erase_of_ne (fun e=>h.1 (by rw[<- e];exact c))).2 (hs x (dL _ c)));rw[VU b] at this;have p:=VT b;show Z l+1<=Z m;omega
def mD (P:List Jp) (n i:Nat):Nat:=lC (bP P n i).nei (bP P n i).lft
theorem ahb {s:Jp}:∀ {k x:Nat},x< k ->x∈s ->∃b m,kY f s k=I (b,m)
 |k+1,x,hx,hs=>by
  rw[kY];by_cases a:k∈s
  ·rw[aA a];cases kY f s k with
   |none=>exact⟨_,_,rfl⟩
   |some p=>
    obtain⟨b,m⟩:=p;simp only;split
    ·exact⟨_,_,rfl⟩
    ·exact⟨_,_,rfl⟩
  ·rw[aD a];exact ahb (by rcases dR x k with h |h;exact h;exact absurd (by rw[show k=x by omega];exact hs) a) hs
theorem arP {s:Jp} {x:Nat} (h:x<8) (hs:x∈s):lC P s∈s:=by
 obtain⟨b,m,e⟩:=ahb (f:=sB P) h hs;rw[lC,e];exact TZ e
structure FI (P:List Jp) (n k:Nat):Prop where
 left:∀x,x∈(bP P n k).lft↔x<n/\∀i,i< k ->mD P n i≠x
 inj:∀i j,i< k ->j< k ->mD P n i=mD P n j ->i=j
 lt:∀i,i< k ->mD P n i<n
 sym:∀u,u∈(bP P n k).lft ->∀w,w∈(bP P n k).nei.getD u [] ->w∈(bP P n k).lft/\u∈(bP P n k).nei.getD w []/\u≠w
theorem FI.here (h:FI P n k) (f:k<n) (d:n<=8):mD P n k∈(bP P n k).lft:=by
 have c:∃x,x∈(bP P n k).lft:=by
  refine zq fun o=>?_
  have l:∀x∈List.range n,x∈(List.range k).map (mD P n):=fun x a=>by
   refine zq fun m=>o ⟨x,(h.left x).2 ⟨bR.1 a,fun i b e=>m (aQ.2 ⟨i,bR.2 b,e⟩)⟩⟩
  have:=Fm rh l;rw[A0,dm,A0] at this;omega
 obtain⟨x,a⟩:=c;exact arP (by have:=((h.left x).1 a).1;omega) a
theorem aks {u:Nat} (h:u<Z P):(vd P v).getD u []=if u<8/\u∈P.getD v [] then Bq P v u else P.getD u []:=by
 rw[cK,ba (by rw[vd,Kk];exact h)];simp[vd,jk]
theorem FI.next (j:vX n P) (h:FI P n k) (l:k<n) (i:n<=8) {u w:Nat} (f:u∈(bP P n k).lft) (_hne:u≠mD P n k):w∈(bP P n (k+1)).nei.getD u []↔w≠mD P n k/\u≠w/\(w∈(bP P n k).nei.getD u []∨mD P n k∈(bP P n k).nei.getD u []/\w∈(bP P n k).nei.getD (mD P n k) []):=by
 have m:=(T6 j k).1;have A:u<n:=((h.left u).1 f).1;have v:=h.here l i;show w∈(vd (bP P n k).nei (mD P n k)).getD u []↔_;rw[aks (by rw[m.len];exact A)];by_cases d:u∈(bP P n k).nei.getD (mD P n k) []
 ·rw[aA ⟨al,d⟩,XK];have hs:=(h.sym _ v u d).2.1;exact⟨fun ⟨a,b,c⟩=>⟨c,fun e=>b e.symm,a.imp id fun a=>⟨hs,a⟩⟩,fun ⟨a,b,c⟩=>⟨c.imp id fun c=>c.2,fun e=>b e.symm,a⟩⟩
 ·rw[aD fun e=>d e.2];constructor
  ·intro g;have hs:=h.sym u f w g;exact⟨fun e=>d (by rw[<- e];exact hs.2.1),hs.2.2,yp g⟩
  ·rintro⟨_,_,c |c⟩
   ·exact c
   ·exact absurd (h.sym u f _ c.1).2.1 d
theorem FI.step (q:vX n P) (h:FI P n k) (o:k<n) (l:n<=8):FI P n (k+1):=by
 have v:=h.here o l
 have Y:∀x,x∈(bP P n (k+1)).lft↔x∈(bP P n k).lft/\x≠mD P n k:=fun x=>by
  show x∈(bP P n k).lft.filter (fun u=>decide (u≠mD P n k))↔_;rw[cU,eM]
 have s:∀i,i< k ->mD P n i≠mD P n k:=((h.left _).1 v).2;refine⟨fun x=>?_,fun i j m y e=>?_,fun i m=>?_,fun u d w t=>?_⟩
 ·rw[Y,h.left];constructor
  ·rintro⟨⟨a,b⟩,c⟩;refine⟨a,fun i m e=>?_⟩;rcases dR i k with p |p
   ·exact b i p e
   ·exact c (by rw[<- e,show i=k by omega])
  ·rintro⟨a,b⟩;exact⟨⟨a,fun i m=>b i al⟩,fun e=>b k al e.symm⟩
 ·rcases dR i k with f |f
  ·rcases dR j k with g |g
   ·exact h.inj i j f g e
   ·exact absurd (by rw[e,show j=k by omega]) (s i f)
  ·rcases dR j k with g |g
   ·exact absurd (by rw[<- e,show i=k by omega]) (s j g)
   ·omega
 ·rcases dR i k with f |f
  ·exact h.lt i f
  ·rw[show i=k by omega];exact((h.left _).1 v).1
 ·rw[Y] at d;obtain⟨a,b,c⟩:=(h.next q o l d.1 d.2).1 t
  have r:w∈(bP P n k).lft:=by
   rcases c with c |c
   ·exact(h.sym u d.1 w c).1
   ·exact(h.sym _ v w c.2).1
  refine⟨(Y w).2 ⟨r,a⟩,(h.next q o l r a).2 ⟨d.2,fun e=>b e.symm,?_⟩,b⟩;rcases c with c |c
  ·exact yp (h.sym u d.1 w c).2.1
  ·exact xS ⟨(h.sym _ v w c.2).2.1,(h.sym u d.1 _ c.1).2.1⟩
theorem FI.all (b:vX n P) (hs:∀u,u< n ->∀w,w∈P.getD u [] ->u∈P.getD w []) (d:n<=8):∀k,k<=n ->FI P n k
 |0,_=>⟨fun x=>⟨fun h=>⟨CZ.1 h,fun i a=>absurd a (ER _)⟩,fun h=>CZ.2 h.1⟩,fun i _ a=>absurd a (ER _),fun i a=>absurd a (ER _),fun u f w c=>by
  have v:u<n:=CZ.1 f;exact⟨CZ.2 (b.at u w c),hs u v w c,fun e=>b.self u (by rw[<- e] at c;exact c)⟩⟩
 |k+1,hk=>(FI.all b hs d k al).step b al d
def nrO (P:List Jp) (n i u w:Nat):Prop:=u∈(bP P n i).lft/\w∈(bP P n i).nei.getD u []
theorem arL (k:vX n P) (hs:∀u,u< n ->∀w,w∈P.getD u [] ->u∈P.getD w []) (o:n<=8):aiS n (mD P n) (nrO P n):=by
 have F:=FI.all k hs o;refine⟨fun v p=>?_,fun i j f B9 e=>(F n (ak _)).inj i j f B9 e,fun u w l=>⟨CZ.1 l.1,k.at u w l.2⟩,fun u B6=>k.self u B6.2,fun u w l=>⟨CZ.2 (k.at u w l.2),hs u (CZ.1 l.1) w l.2⟩,fun i f u w=>?_⟩
 ·refine zq fun L=>?_
  have B7:(v::(List.range n).map (mD P n)).Nodup:=by
   refine mY.2 ⟨fun H=>?_,?_⟩
   ·obtain⟨i,f,e⟩:=aQ.1 H;exact L ⟨i,bR.1 f,e⟩
   ·refine CS.2 (rh.imp_of_mem fun {a b} A D K e=>K ((F n (ak _)).inj a b (bR.1 A) (bR.1 D) e))
  have:=Fm B7 (m:=List.range n) fun x q=>by
   rcases bU.1 q with rfl |q
   ·exact bR.2 p
   ·obtain⟨i,f,e⟩:=aQ.1 q;rw[<- e];exact bR.2 ((F n (ak _)).lt i (bR.1 f))
  rw[dX,dm,A0] at this;omega
 ·have h:=F i al;have p:=h.here f o
  have s:u∈(bP P n (i+1)).lft↔u∈(bP P n i).lft/\u≠mD P n i:=by
   show u∈(bP P n i).lft.filter (fun u=>decide (u≠mD P n i))↔_;rw[cU,eM]
  constructor
  ·rintro⟨a,b⟩;obtain⟨g,r⟩:=s.1 a;obtain⟨t,y,z⟩:=(h.next k f o g r).1 b;exact⟨r,t,y,z.imp (fun c=>⟨g,c⟩) fun c=>⟨⟨g,c.1⟩,⟨p,c.2⟩⟩⟩
  ·rintro⟨a,b,c,d⟩;have g:u∈(bP P n i).lft:=d.elim (fun d=>d.1) fun d=>d.1.1;exact⟨s.2 ⟨g,a⟩,(h.next k f o g a).2 ⟨b,c,d.imp (fun d=>d.2) fun d=>⟨d.1.2,d.2.2⟩⟩⟩
variable {yb zb:Nat ->Bool} {Pa:Nat ->Nat ->Prop} {An X Y B1:Nat ->Prop}
def fQ (Pa:Nat ->Nat ->Prop) (u v:Nat):Prop:=∀M:Nat ->Prop,(∀v,Pa u v ->M v) ->(∀v w,M v ->Pa v w ->M w) ->M v
theorem fQ.one {u:Nat} (h:Pa u v):fQ Pa u v:=fun _ a _=>a _ h
theorem fQ.more {u w:Nat} (h:fQ Pa u v) (p:Pa v w):fQ Pa u w:=fun M b a=>a _ _ (h M b a) p
theorem fQ.ind {u:Nat} {M:∀v,fQ Pa u v ->Prop} (one:∀ {v:Nat} (h:Pa u v),M v (.one h)) (more:∀ {v w:Nat} (h:fQ Pa u v) (p:Pa v w),M v h ->M w (h.more p)):∀ {v:Nat} (h:fQ Pa u v),M v h:=fun {_} h=>by
 obtain⟨_,k⟩:=h (fun v=>∃h,M v h) (fun _ p=>⟨_,one p⟩) (fun _ _ ⟨_,i⟩ p=>⟨_,more _ p i⟩);exact k
theorem fQ.last {u w:Nat} (h:fQ Pa u w):Pa u w∨∃v,fQ Pa u v/\Pa v w:=by
 induction h using fQ.ind with
 |one hp=>exact yp hp
 |more h hp _=>exact xS ⟨_,h,hp⟩
def abt (Pa:Nat ->Nat ->Prop) (u v:Nat):Prop:=Pa u v∨Pa v u
def OkW (Pa:Nat ->Nat ->Prop) (B1 An:Nat ->Prop) (p u v:Nat):Prop:=(Pa p u ->Pa v u ->An u)/\(¬(Pa p u/\Pa v u) ->¬B1 u)
structure vT (Pa:Nat ->Nat ->Prop) (B1 An:Nat ->Prop) (k:Nat) (f:Nat ->Nat):Prop where
 adj:∀t,t< k ->abt Pa (f t) (f (t+1))
 ok:∀t,t+1< k ->OkW Pa B1 An (f t) (f (t+1)) (f (t+2))
theorem vT.down (h:vT Pa B1 An k f) (r:∀v,¬fQ Pa v v) (b:∀u v,Pa u v ->An v ->An u) (A:i<j) (o:j<=k) (e:f j=f i) (c:Pa (f i) (f (i+1))):An (f i):=by
 have y:∀d t,t+d=j ->i< t ->fQ Pa (f i) (f t) ->Pa (f (t - 1)) (f t) ->An (f i):=fun d=>by
  induction d with
  |zero=>
   intro t g _ a _;rw[show t=j by omega,e] at a;exact absurd a (r _)
  |succ d ih=>
   intro t g q a p;have F:=h.ok (t - 1) al;rw[show t - 1+1=t by omega,show t - 1+2=t+1 by omega] at F;rcases h.adj t al with n |n
   ·exact ih (t+1) al al (.more a n) (by rw[show t+1 - 1=t by omega];exact n)
   ·have m:=F.1 p n
    have:∀u v,fQ Pa u v ->An v ->An u:=fun u v H=>by
     induction H using fQ.ind with
     |one h=>exact b _ _ h
     |more _ h ih=>exact fun l=>ih (b _ _ h l)
    exact this _ _ a m
 exact y (j - (i+1)) (i+1) al al (.one c) (by rw[show i+1 - 1=i by omega];exact c)
def LI (f:Nat ->Nat) (i j t:Nat):Nat:=if t<=i then f t else f (t+(j - i))
theorem vT.cut (h:vT Pa B1 An k f) (r:∀v,¬fQ Pa v v) (n:∀u v,Pa u v ->An v ->An u) (A:i<j) (o:j<=k) (g:f j=f i):vT Pa B1 An (k - (j - i)) (LI f i j):=by
 have p:∀t,t<=i ->LI f i j t=f t:=fun t c=>aA c
 have F:∀t,i<=t ->LI f i j t=f (t+(j - i)):=fun t c=>by
  rcases dR i t with a |a
  ·exact aD al
  ·rw[p t a,show t=i by omega,show i+(j - i)=j by omega,g]
 have D:∀u v,Pa u v ->¬Pa v u:=fun u v a d=>r u (.more (.one a) d);refine⟨fun t c=>?_,fun t c=>?_⟩
 ·rcases dR t i with a |a
  ·rw[p t al,p (t+1) al];exact h.adj t al
  ·rw[F t a,F (t+1) al,show t+1+(j - i)=t+(j - i)+1 by omega];exact h.adj _ al
 ·rcases dR (t+1) i with a |a
  ·rw[p t al,p (t+1) al,p (t+2) al];exact h.ok t al
  ·rcases dR i (t+1) with d |d
   ·rw[F t al,F (t+1) al,F (t+2) al,show t+1+(j - i)=t+(j - i)+1 by omega,show t+2+(j - i)=t+(j - i)+2 by omega];exact h.ok _ al
   ·
    (obtain rfl:i=t+1:=al);rw[p t al,p (t+1) (ak _),F (t+2) al];rw[show t+2+(j - (t+1))=j+1 by omega];have l:=h.ok t al;have m:=h.ok (j - 1) al;rw[show j - 1+1=j by omega,show j - 1+2=j+1 by omega,g] at m;refine⟨fun b q=>?_,fun s z=>?_⟩
    ·rcases h.adj (t+1) al with e |e
     ·exact h.down r n A o g e
     ·exact l.1 b e
    ·by_cases b:Pa (f t) (f (t+1))
     ·have q:¬Pa (f (j+1)) (f (t+1)):=fun q=>s ⟨b,q⟩;exact m.2 (fun h=>q h.2) z
     ·exact l.2 (fun h=>b h.1) z
theorem vT.plain (z:∀v,¬fQ Pa v v) (r:∀u v,Pa u v ->An v ->An u):∀m k f,k<=m ->vT Pa B1 An k f ->X (f 0) ->Y (f k) ->∃d b,vT Pa B1 An d b/\X (b 0)/\Y (b d)/\(∀i j,i<=d ->j<=d ->b i=b j ->i=j)/\∀i,i<d ->¬Y (b i):=fun m=>by
 induction m with
 |zero=>
  intro k f s h x y;obtain rfl:k=0:=al
  exact⟨0,f,h,x,y,fun i j a g _=>al,fun i a=>absurd a (ER _)⟩
 |succ m ih=>
  intro k f s h x y;by_cases o:∃i,i<k/\Y (f i)
  ·obtain⟨i,a,l⟩:=o;exact ih i f al ⟨fun t w=>h.adj t al,fun t w=>h.ok t al⟩ x l
  ·by_cases n:∃i j,i<j/\j<=k/\f j=f i
   ·obtain⟨i,j,A,g,q⟩:=n;refine ih (k - (j - i)) (LI f i j) al (h.cut z r A g q) ?_ ?_
    ·rw[LI,aA (aX _)];exact x
    ·rw[LI];by_cases p:k - (j - i)<=i
     ·rw[aA p];(have:j=k:=al);rw[show k - (j - i)=i by omega, <- q,this];exact y
     ·rw[aD p,show k - (j - i)+(j - i)=k by omega];exact y
   ·refine⟨k,f,h,x,y,fun i j a g e=>?_,fun i a l=>o ⟨i,a,l⟩⟩;rcases VJ i j with c |c |c
    ·exact absurd ⟨i,j,c,g,e.symm⟩ n
    ·exact c
    ·exact absurd ⟨j,i,c,a,e⟩ n
def iN (Pa:Nat ->Nat ->Prop) (X B1 An:Nat ->Prop) (v:Nat) (c:Bool):Prop:=∀M:Nat ->Bool ->Prop,(∀x,X x ->M x xq) ->(∀v p,M v xq ->¬B1 v ->Pa p v ->M p xq) ->(∀v w c,M v c ->¬B1 v ->Pa v w ->M w x3) ->(∀v p,M v x3 ->An v ->Pa p v ->M p xq) ->M v c
theorem iN.start {x:Nat} (h:X x):iN Pa X B1 An x true:=fun _ a _ _ _=>a _ h
theorem iN.up {p:Nat} (h:iN Pa X B1 An v xq) (z:¬B1 v) (e:Pa p v):iN Pa X B1 An p true:=fun M b a c d=>a _ _ (h M b a c d) z e
theorem iN.down {w:Nat} {c:Bool} (h:iN Pa X B1 An v c) (z:¬B1 v) (p:Pa v w):iN Pa X B1 An w false:=fun M b d a e=>a _ _ _ (h M b d a e) z p
theorem iN.meet {p:Nat} (h:iN Pa X B1 An v x3) (e:An v) (f:Pa p v):iN Pa X B1 An p true:=fun M b c d a=>a _ _ (h M b c d a) e f
theorem iN.ind {M:∀v c,iN Pa X B1 An v c ->Prop} (start:∀ {x:Nat} (h:X x),M x xq (.start h)) (up:∀ {v p:Nat} (h:iN Pa X B1 An v xq) (z:¬B1 v) (a:Pa p v),M v xq h ->M p xq (h.up z a)) (down:∀ {v w:Nat} {c:Bool} (h:iN Pa X B1 An v c) (z:¬B1 v) (a:Pa v w),M v c h ->M w x3 (h.down z a)) (meet:∀ {v p:Nat} (h:iN Pa X B1 An v x3) (b:An v) (a:Pa p v),M v x3 h ->M p xq (h.meet b a)):∀ {v:Nat} {c:Bool} (h:iN Pa X B1 An v c),M v c h:=fun {_ _} h=>by
 obtain⟨_,k⟩:=h (fun v c=>∃h,M v c h) (fun _ h=>⟨_,start h⟩) (fun _ _ ⟨_,i⟩ z a=>⟨_,up _ z a i⟩) (fun _ _ _ ⟨_,i⟩ z a=>⟨_,down _ z a i⟩) (fun _ _ ⟨_,i⟩ b a=>⟨_,meet _ b a i⟩);exact k
theorem vT.snoc (h:vT Pa B1 An k f) (v:Nat) (c:abt Pa (f k) v) (o:0< k ->OkW Pa B1 An (f (k - 1)) (f k) v):vT Pa B1 An (k+1) (fun t=>if t<=k then f t else v):=by
 have l:∀t,t<=k ->(if t<=k then f t else v)=f t:=fun t b=>aA b;refine⟨fun t b=>?_,fun t b=>?_⟩
 ·show abt Pa (if t<=k then f t else v) (if t+1<=k then f (t+1) else v);rw[l t al];rcases dR t k with a |a
  ·rw[l (t+1) al];exact h.adj t a
  ·rw[aD al,show t=k by omega];exact c
 ·show OkW Pa B1 An (if t<=k then f t else v) (if t+1<=k then f (t+1) else v) (if t+2<=k then f (t+2) else v);rw[l t al,l (t+1) al];rcases dR (t+1) k with a |a
  ·rw[l (t+2) al];exact h.ok t a
  ·rw[aD al];have:=o al;rw[show k - 1=t by omega,show k=t+1 by omega] at this;exact this
theorem iN.way (r:∀v,¬fQ Pa v v) {c:Bool} (h:iN Pa X B1 An v c):∃k f,vT Pa B1 An k f/\X (f 0)/\f k=v/\(c=xq ->k=0∨Pa v (f (k - 1)))/\(c=x3 ->0<k/\Pa (f (k - 1)) v):=by
 have l:∀u v,Pa u v ->¬Pa v u:=fun u v b d=>r u (.more (.one b) d);induction h using iN.ind with
 | @start x hx=>exact⟨0,fun _=>x,⟨fun t i=>absurd i (ER _),fun t i=>absurd i (ER _)⟩,hx,rfl,fun _=>yp rfl,fun e=>by cases e⟩
 | @up v p _ hz hp ih=>
  obtain⟨k,f,b,d,a,j,_⟩:=ih;refine⟨k+1,_,b.snoc p (xS (by rw[a];exact hp)) (fun m=>?_),?_,?_,fun _=>xS ?_,fun e=>by cases e⟩
  ·have o:=(j rfl).resolve_left al;rw[a];exact⟨fun g _=>absurd g (l _ _ o),fun _=>hz⟩
  ·show X (if 0<=k then f 0 else p);rw[aA (aX _)];exact d
  ·show (if k+1<=k then f (k+1) else p)=p;rw[aD al]
  ·show Pa p (if k+1 - 1<=k then f (k+1 - 1) else p);rw[aA al,show k+1 - 1=k by omega,a];exact hp
 | @down v w c _ hz hp ih=>
  obtain⟨k,f,b,d,a,j,g⟩:=ih;refine⟨k+1,_,b.snoc w (yp (by rw[a];exact hp)) (fun m=>?_),?_,?_,(fun e=>by cases e),fun _=>⟨al,?_⟩⟩
  ·rw[a];exact⟨fun _ n=>absurd n (l _ _ hp),fun _=>hz⟩
  ·show X (if 0<=k then f 0 else w);rw[aA (aX _)];exact d
  ·show (if k+1<=k then f (k+1) else w)=w;rw[aD al]
  ·show Pa (if k+1 - 1<=k then f (k+1 - 1) else w) w;rw[aA al,show k+1 - 1=k by omega,a];exact hp
 | @meet v p _ hm hp ih=>
  obtain⟨k,f,b,d,a,_,g⟩:=ih;refine⟨k+1,_,b.snoc p (xS (by rw[a];exact hp)) (fun m=>?_),?_,?_,fun _=>xS ?_,fun e=>by cases e⟩
  ·rw[a];exact⟨fun _ _=>hm,fun q=>absurd ⟨(g rfl).2,hp⟩ q⟩
  ·show X (if 0<=k then f 0 else p);rw[aA (aX _)];exact d
  ·show (if k+1<=k then f (k+1) else p)=p;rw[aD al]
  ·show Pa p (if k+1 - 1<=k then f (k+1 - 1) else p);rw[aA al,show k+1 - 1=k by omega,a];exact hp
def vh (P:List Jp) (u v:Nat):Bool:=decide (u∈P.getD v [])
def KA (P:List Jp) (zb an:Nat ->Bool) (u:Nat) (r:Jp) (v:Nat):Bool:=match r with
 |[]=>xq
 |p::_=>if (vh P p u&&vh P v u)=xq then an u else !zb u
def Fj (P:List Jp) (n:Nat) (yb zb an:Nat ->Bool):Nat ->Jp ->Bool
 |0,_=>x3
 |_+1,[]=>x3
 |f+1,u::r=>yb u ||(List.range n).any fun v=>!decide (v∈u::r)&&((vh P v u ||vh P u v)&&(KA P zb an u r v&&Fj P n yb zb an f (v::u::r)))
theorem aes {an:Nat ->Bool} (q:∀v,X v ->zb v=x3) (m:∀v,¬fQ (fun u v=>u∈P.getD v []) v v):∀f u r,Fj P n yb zb an f (u::r)=xq ->(∃c,iN (fun u v=>u∈P.getD v []) X (fun v=>zb v=xq) (fun v=>an v=xq) u c/\(c=xq ->(r=[]/\X u)∨∃p l,r=p::l/\u∈P.getD p [])/\(c=x3 ->∃p l,r=p::l/\p∈P.getD u [])) ->∃y c,yb y=xq/\iN (fun u v=>u∈P.getD v []) X (fun v=>zb v=xq) (fun v=>an v=xq) y c
 |0,u,r,h,_=>by cases h
 |f+1,u,r,h,⟨c,hr,h1,h2⟩=>by
  have D:∀u v:Nat,u∈P.getD v [] ->¬v∈P.getD u []:=fun u v a b=>m u (.more (.one a) b);rw[Fj,J5] at h;rcases h with h |h
  ·exact⟨u,c,h,hr⟩
  ·obtain⟨v,_,k⟩:=rV.1 h;rw[iI,iI,iI,J5] at k;obtain⟨_,o,d,s⟩:=k;refine aes q m f v (u::r) s ?_;by_cases j:u∈P.getD v []
   ·have z:¬zb u=true:=fun z=>by
     cases c with
     |true=>
      rcases h1 rfl with ⟨rfl,x⟩ |⟨p,l,rfl,g⟩
      ·rw[q u x] at z;cases z
      ·rw[KA,aD (by rw[vh,cT (D _ _ g),Bool.false_and];decide),z] at d;cases d
     |false=>
      obtain⟨p,l,rfl,g⟩:=h2 rfl;rw[KA,aD (by rw[vh,vh,cT (D _ _ j),Bool.and_false];decide),z] at d;cases d
    exact⟨x3,.down hr z j,(fun e=>by cases e),fun _=>⟨u,r,rfl,j⟩⟩
   ·have i:v∈P.getD u []:=o.elim (fun a=>mS a) fun a=>absurd (mS a) j;refine⟨xq,?_,fun _=>xS ⟨u,r,rfl,i⟩,fun e=>by cases e⟩;cases c with
    |true=>
     refine .up hr (fun z=>?_) i;rcases h1 rfl with ⟨rfl,x⟩ |⟨p,l,rfl,g⟩
     ·rw[q u x] at z;cases z
     ·rw[KA,aD (by rw[vh,cT (D _ _ g),Bool.false_and];decide),z] at d;cases d
    |false=>
     obtain⟨p,l,rfl,g⟩:=h2 rfl;rw[KA,aA (by rw[vh,vh,cJ g,cJ i];rfl)] at d;exact .meet hr d i
def E5 (f:Nat ->Nat):Nat ->Jp
 |0=>[f 0]
 |t+1=>f (t+1)::E5 f t
theorem abP:∀ {t:Nat},v∈E5 f t ->∃i,i<=t/\v=f i
 |0,h=>⟨0,ak _,bD.1 h⟩
 |t+1,h=>by
  rcases bU.1 h with e |h
  ·exact⟨t+1,ak _,e⟩
  ·obtain⟨i,a,e⟩:=abP h;exact⟨i,al,e⟩
theorem abQ (f:Nat ->Nat) (t:Nat):∃l,E5 f t=f t::l/\(t=0 ->l=[])/\(0< t ->∃l',l=f (t - 1)::l'):=by
 cases t with
 |zero=>exact⟨[],rfl,fun _=>rfl,fun h=>absurd h (QQ _)⟩
 |succ t=>
  refine⟨E5 f t,rfl,(fun e=>al),fun _=>?_⟩;cases t with
  |zero=>exact⟨[],rfl⟩
  |succ t=>exact⟨E5 f t,rfl⟩
theorem aer {an:Nat ->Bool} (h:vT (fun u v=>u∈P.getD v []) (fun v=>zb v=xq) (fun v=>an v=xq) k f) (y:yb (f k)=xq) (p:∀i j,i<=k ->j<=k ->f i=f j ->i=j) (w:∀i,i<=k ->f i<n) (e:Nat):∀d,d<=k ->Fj P n yb zb an (d+1+e) (E5 f (k - d))=xq
 |0,_=>by
  obtain⟨l,b,_⟩:=abQ f k;rw[Nat.sub_zero,b,show 0+1+e=e+1 by omega,Fj,y,Bool.true_or]
 |d+1,hd=>by
  have m:=aer h y p w e d al;obtain⟨l,b,r,s⟩:=abQ f (k - (d+1));obtain⟨t,z⟩:∃t,t=k - (d+1):=⟨_,rfl⟩;rw[<- z] at b r s⊢;have H:k - d=t+1:=al
  rw[H] at m;rw[b,show d+1+1+e=(d+1+e)+1 by omega,Fj,J5];refine xS (rV.2 ⟨f (t+1),bR.2 (w _ al),?_⟩);have A:E5 f (t+1)=f (t+1)::f t::l:=by rw[E5,b]
  rw[A] at m
  have T:¬f (t+1)∈f t::l:=fun q=>by
   rw[<- b] at q;obtain⟨i,D,x⟩:=abP q;have:=p (t+1) i al al x;omega
  have U:=h.adj t al;rw[cT T,m,Bool.not_false,Hp,Bool.and_true,iI,J5];refine⟨U.elim (fun a=>xS (cJ a)) fun a=>yp (cJ a),?_⟩;rcases zj t with g |g
  ·rw[r g];rfl
  ·obtain⟨l',rfl⟩:=s g;have F:=h.ok (t - 1) al;rw[show t - 1+1=t by omega,show t - 1+2=t+1 by omega] at F;rw[KA];by_cases c:(vh P (f (t - 1)) (f t)&&vh P (f (t+1)) (f t))=xq
   ·rw[aA c];rw[iI] at c;exact F.1 (mS c.1) (mS c.2)
   ·rw[aD c];have:=F.2 fun o=>c (by rw[vh,vh,cJ o.1,cJ o.2];rfl);cases hz:zb (f t)
    ·rfl
    ·exact absurd hz this
theorem apI (g:∀i j,i<=k ->j<=k ->f i=f j ->i=j) (t:∀i,i<=k ->f i<n):k+1<=n:=by
 have B7:((List.range (k+1)).map f).Nodup:=CS.2 (rh.imp_of_mem fun {a b} c d o e=>o (g a b (by have:=bR.1 c;omega) (by have:=bR.1 d;omega) e))
 have:=Fm B7 (m:=List.range n) fun x l=>by
  obtain⟨i,h,rfl⟩:=aQ.1 l;exact bR.2 (t i (by have:=bR.1 h;omega))
 simpa using this
theorem anI {an:Nat ->Bool} (H:∀v,X v ->zb v=x3) (r:∀v,¬fQ (fun u v=>u∈P.getD v []) v v) (p:∀u v,u∈P.getD v [] ->an v=xq ->an u=xq) (m:∀v,∀u∈P.getD v [],u<n/\v<n) (A:∀v,X v ->v<n):(∃x,X x/\Fj P n yb zb an n [x]=xq)↔∃y c,yb y=xq/\iN (fun u v=>u∈P.getD v []) X (fun v=>zb v=xq) (fun v=>an v=xq) y c:=by
 constructor
 ·rintro⟨x,o,D⟩;exact aes H r n x [] D ⟨xq,.start o,fun _=>yp ⟨rfl,o⟩,fun e=>by cases e⟩
 ·rintro⟨y,c,F,B9⟩;obtain⟨k,f,s,w,z,_⟩:=B9.way r;obtain⟨b,d,g,h,q,j,_⟩:=vT.plain (X:=X) (Y:=fun v=>yb v=xq) r p k k f (ak _) s w (by rw[z];exact F)
  have t:∀i,i<=b ->d i<n:=fun i B7=>by
   rcases zj i with l |l
   ·rw[l];exact A _ h
   ·have:=g.adj (i - 1) al;rw[show i - 1+1=i by omega] at this;exact this.elim (fun a=>(m _ _ a).2) fun a=>(m _ _ a).1
  have B6:=apI j t;have:=aer g q j t (n - (b+1)) b (ak _);rw[rT,show b+1+(n - (b+1))=n by omega] at this;exact⟨d 0,h,this⟩
section
attribute [local go_sem] Oper.semAt_some
variable {c:Nat}
def eY (U:List Jp) (u:Nat):Nat ->Jp
 |0=>[]
 |v+1=>if u∈U.getD v [] then v::eY U u v else eY U u v
theorem Gj {U:List Jp} {u:Nat}:∀ {v x:Nat},x∈eY U u v↔x<v/\u∈U.getD x []
 |0,x=>by simp[eY]
 |v+1,x=>by
  rw[eY];by_cases h:u∈U.getD v []
  ·rw[aA h,bU,Gj];constructor
   ·rintro(rfl |⟨b,a⟩)
    ·exact⟨al,h⟩
    ·exact⟨al,a⟩
   ·rintro⟨b,a⟩;by_cases e:x=v
    ·exact yp e
    ·exact xS ⟨al,a⟩
  ·rw[aD h,Gj];constructor
   ·rintro⟨b,a⟩;exact⟨al,a⟩
   ·rintro⟨b,a⟩;exact⟨by rcases dR x v with c |c;exact c;exact absurd (show x=v by omega) (fun e=>h (e▸a)),a⟩
def nQ (U:List Jp) (n v k:Nat):List Jp:=(List.range n).map fun u=>if u<k/\u∈U.getD v [] then v::eY U u v else eY U u v
def lY (U:List Jp) (n v:Nat):List Jp:=(List.range n).map fun u=>eY U u v
theorem asY (U:List Jp) (n v:Nat):nQ U n v 0=lY U n v:=by simp[nQ,lY]
theorem as3 {U:List Jp} (h:n<=8):nQ U n v 8=lY U n (v+1):=by
 apply qh;intro u b;have:=bR.1 b;rw[eY];by_cases a:u∈U.getD v []
 ·rw[aA ⟨al,a⟩,aA a]
 ·rw[aD (fun e=>a e.2),aD a]
theorem asZ {U:List Jp} (m:k∈U.getD v []):nQ U n v (k+1)=(nQ U n v k).set k (v::eY U k v):=by
 apply mZ (by simp[nQ]);intro i c d;rw[EX];simp only[nQ,mq,EY];by_cases h:k=i
 ·subst h;rw[aA ⟨al,m⟩,aA rfl]
 ·rw[aD h];have e:(i<k+1/\i∈U.getD v [])↔(i<k/\i∈U.getD v []):=⟨fun ⟨a,b⟩=>⟨al,b⟩,fun ⟨a,b⟩=>⟨al,b⟩⟩;simp only[e]
theorem as0 {U:List Jp} (m:¬k∈U.getD v []):nQ U n v (k+1)=nQ U n v k:=by
 apply qh;intro i c;have e:(i<k+1/\i∈U.getD v [])↔(i<k/\i∈U.getD v []):=⟨fun ⟨a,b⟩=>⟨by rcases dR i k with h |h;exact h;exact absurd (show i=k by omega) (fun e=>m (e▸b)),b⟩,fun ⟨a,b⟩=>⟨al,b⟩⟩;simp only[e]
theorem as2 {U:List Jp} {u:Nat} (a:u<n) (h:¬u<k):(nQ U n v k)[u]? =I (eY U u v):=by
 simp[nQ,a,h]
theorem as1 (U:List Jp) (n v k:Nat):Z (nQ U n v k)=n:=by simp[nQ]
theorem aaB (U:List Jp) (n v:Nat):Z (lY U n v)=n:=by simp[lY]
theorem Shut.putAt {B:Nat} {W:wA} (h:Shut lo B ds W) (i:g<lo) (v:wQ):Shut lo B ds (AF W ⟨g,j,O⟩ v):=by
 induction ds generalizing B with
 |nil=>trivial
 |cons d ds ih=>
  obtain⟨r,a,b,c,e,f⟩:=h;exact⟨r,a,b,c,(eO W ⟨g,j,O⟩ v r (by show r≠g;omega)).trans e,ih f⟩
theorem WN {β:Type} {B:Nat}:OwnFrom B (fun (_:β) W=>B<=W.heap.size/\Shut lo B ds W):=fun _ W W' o hs g h=>
 ⟨aO hs.1 g.size,hs.2.keep fun k a=>g.block k al (fun e=>by have:=(h k e.symm).1;omega)⟩
def uX (w:wA) (n c:Nat) (l:Jp) (W:wA):Prop:=dw W w.heap.size l/\Boxed W (w.heap.size+1) 154 (J (I ⟨w.heap.size,0,O⟩) n c)/\da w W
theorem uX.shut {l:Jp} (o:w.heap.size+1<lo) (W:wA) (r:Nat) (h:uX w n c l W) (a:lo<=r) (d:W.heap[r]? =I (.deferred (I []))):uX w n c l (W.putObj r (.deferred O)):=
 ⟨(zh al).trans h.1,(zh al).trans h.2.1,h.2.2.trans (xY (w:=w) (ak _) W r _ _ al d rfl rfl)⟩
theorem uX.own {β:Type} {B:Nat} (f:β ->Jp) (h:w.heap.size<=B):OwnFrom B (fun (s:β) W=>uX w n c (f s) W):=
 gJ (iF (RD _ f) _) (gJ (iF (kL _ _ (fun _=>_)) _) (CO (ak _) h))
theorem uX.aa {W:wA} {l:Jp} (h:uX w n c l W) (b:da W W'):uX w n c l W':=⟨h.1.aa b h.1.lt,Ap h.2.1 b h.2.1.lt,h.2.2.trans (b.af h.2.2.size)⟩
theorem aid (G n c:Nat) (U:List Jp) (w:wA) (hn:Z U=n) (h8:n<=8) (Q:dw w G (U.map aB)) (B2:∀p∈U,∀u∈p,u<n):
  c6 220 #[J (I ⟨G,0,O⟩) n c] w fun e w'=>e=yk (J (I ⟨w.heap.size,0,O⟩) n n)/\dw w' w.heap.size ((lY U n n).map aB)/\da w w':=by
 refine(jg (n:=6)).1 ?_;obtain⟨i0,cH,a6,bb,bd⟩:=eo Tryz.infoSet;have hG:=Q.lt;have xr:∀p∈U,∀u∈p,u<8:=fun p hp u A=>by have:=B2 p hp u A;omega
 have AG:we (∀(V:wA) (v:Nat),da w V ->v< n ->AJ V ⟨G,v,O⟩=I (E yW (aB (U.getD v []):Nat))):=fun V v hB S=>by
  have:=(Q.aa hB hG).cell v (by rw[dm];omega);rwa [Fq al] at this
 have y6:=Fa (fun v=>Ge xr v)
 have Qm:we (∀v k,v< n ->k∈U.getD v [] ->k<n):=fun v k S f=>by
  rw[cK,ba al] at f;exact B2 _ (bQ _) k f
 have UK:=Fa (fun (u v:Nat) (S:v<n) (V:wA)=>Ks (eY U u v) v V (fun x hx=>by have:=(Gj.1 hx).1;omega) al)
 have JK:we (∀(V:wA) (g v k u:Nat),u< n ->¬u< k ->dw V g ((nQ U n v k).map aB) ->AJ V ⟨g,u,O⟩=I (E yW (aB (eY U u v):Nat))/\V.frozen? ⟨g,u,O⟩=x3):=fun V g v k u A aM R=>by
  have h1:u<Z (nQ U n v k):=by rw[as1];exact A
  have L:=R.cell u (by rw[dm];exact h1);obtain⟨h3,d⟩:=oA.1 (as2 (U:=U) (v:=v) A aM);rw[mq,d] at L;exact⟨L,R.fz u⟩
 have mN:we (∀(V:wA) (g v k:Nat),k∈U.getD v [] ->dw V g ((nQ U n v k).map aB) ->dw (AF V ⟨g,k,O⟩ (E yW (aB (v::eY U k v):Nat))) g ((nQ U n v (k+1)).map aB)):=fun V g v k m R=>by
  have:=R.set k (aB (v::eY U k v));rwa [asZ m,Hk]
 have jJ:we (∀v k,¬k∈U.getD v [] ->nQ U n v (k+1)=nQ U n v k):=fun v k h=>as0 h;have HZ:=Fa (fun v=>asY U n v);have HA:=Fa (fun v=>as3 (U:=U) (v:=v) h8)
 have hz:(lY U n 0).map aB=List.replicate n 0:=by
  apply mZ (by simp[lY]);intro i h1 L;simp[lY,eY,aB]
 clear Q B2 xr;refine wF func220 rfl trivial ?_ rfl;simp only[ntmps220,mX,dX,mo,Nat.reduceAdd,Nat.reduceSub,o8,o7,o6,oB,iH,gC];have aJ:=fun V=>QJ (P:=prog) 154 158 (E yW 0) 4 underlying154 Tryz.infoSet rfl yR yR n al al V;gi_wp2
 clear aJ;obtain⟨y,F⟩:∃y,y=AC (AC w (yd (madeCells #[E yW 0] n) 158)) (yd #[J (I ⟨w.heap.size,0,O⟩) n n] 154):=⟨_,rfl⟩
 have ae:uX w n n ((lY U n 0).map aB) y:=by
  rw[F,hz];refine⟨?_,?_,((aw _ w).alloc (ak _) _).alloc aE _⟩
  ·have h:=dU w (yd (madeCells #[E yW 0] n) 158)
   have e:(madeCells #[E yW 0] n).toList=(List.replicate n (0:Nat)).map uv:=by
    have:=XW n;rwa [rU] at this
   (have e2:madeCells #[Value.int yW 0] n=((List.replicate n (0:Nat)).map uv).toArray:=by rw[<- e]);rw[dw,uY _ _ _ aE,h,e2]
  ·have h:=bE (AC w (yd (madeCells #[E yW 0] n) 158)) 154 (J (I ⟨w.heap.size,0,O⟩) n n);rwa [eW] at h
 rw[<- F];have aZ:y.heap.size=w.heap.size+2:=by rw[F];simp
 have nW:=Fa ae;clear F ae hz;refine wpIn_loop (fun z w'=>∃(v:Nat) (ds:List Deferred) (u4 u5 u13 u14 u15 u16 Nb Na C0:wQ),z= {tmps:= #[J (I ⟨G,0,O⟩) n c,wd,J O 0 0,zZ (I ⟨w.heap.size+1,0,O⟩),u4,u5,wd,J (I ⟨G,0,O⟩) n c,E yR (n:Nat),J (I ⟨w.heap.size,0,O⟩) n n,J (I ⟨G,0,O⟩) n c,E yR (n:Nat),E yR (v:Nat),u13,u14,u15,u16,Nb,Na,wd,wd,wd,wd,wd,wd,wd,wd,wd,wd,C0,wd],defers:=ds}/\v<=n/\we (uX w n n ((lY U n v).map aB) w')/\we (Shut (w.heap.size+2) w'.heap.size ds w')) (fun z _=>n - (intOf (z.tmps.getD 12 wd)).toNat) ?_ ?_
 ·exact⟨0,[],_,_,_,_,_,_,_,_,_,rfl,aX _,nW,trivial⟩
 intro z wr aR;obtain⟨v,ds,u4,u5,u13,u14,u15,u16,Nb,Na,C0,rfl,S,j,T⟩:=aR;clear nW;by_cases ad:v<n
 ·have kv:=AG.o wr v j.o.2.2 ad;have hs:=y6.o v;have aj:=Fa (fun k f=>Qm.o v k ad f);have ay:=Fa (fun u=>UK.o u v ad);have ai:=Fa (fun V g k u=>JK.o V g v k u);have ax:=Fa (fun V g k=>mN.o V g v k);have an:=Fa (fun k=>jJ.o v k);have Zx:=HZ.o v;have Z1:=HA.o v;generalize U.getD v []=bv at *;have dS:w.heap.size+1<wr.heap.size:=j.o.2.1.lt;gi_wp2
  obtain⟨W3,t⟩:∃W3,W3=AC wr (yd #[E yR (v:Nat)] 3):=⟨_,rfl⟩;have b4:Boxed W3 wr.heap.size 3 (E yR (v:Nat)):=by rw[t];exact bE wr _ _
  have ab:da wr W3:=by rw[t];exact(aw _ wr).alloc (ak _) _
  have a1:W3.heap.size=wr.heap.size+1:=by rw[t];simp
  rw[<- t];clear t kv;have Y:=j.o.aa ab;have O1:=(T.o.aa ab).af (show wr.heap.size<=W3.heap.size by omega);have av:=Fa (T.o);clear j T av;rw[<- Zx] at Y
  refine E4 al bv hs rfl rfl
   (fun k V=>uX w n n ((nQ U n v k).map aB) V/\Boxed V wr.heap.size 3 (E yR (v:Nat))/\(W3.heap.size<=V.heap.size/\Shut (w.heap.size+2) W3.heap.size ds V))
   (gJ (uX.own (fun k:Nat=>(nQ U n v k).map aB) al) (gJ (iF (kL _ _ (fun _=>_)) _) WN))
   ⟨Y,b4,ak _,O1⟩
   (fun k=> {tmps:= #[J (I ⟨G,0,O⟩) n c,wd,J O 0 0,zZ (I ⟨w.heap.size+1,0,O⟩),zZ (I ⟨wr.heap.size,0,O⟩),E yW (aB bv:Nat),E yR (k:Nat),J (I ⟨G,0,O⟩) n c,E yR (n:Nat),J (I ⟨w.heap.size,0,O⟩) n n,J (I ⟨G,0,O⟩) n c,E yR (n:Nat),E yR (v:Nat),zd xq,E yR (v:Nat),zZ (I ⟨G,v,O⟩),E yW (aB bv:Nat),E yW (aB bv:Nat),.func (.func 182) #[E yW (aB bv:Nat)] #[],E yR (k:Nat),wd,wd,wd,wd,wd,wd,wd,wd,wd,C0,wd],defers:=[]}) ?assign ?body ?skip ?done
  case assign=>
   intro l k W K r;gi_wp2
   exact r
  case body=>
   rintro l k V f m ⟨a,d,X,s⟩;have az:=aj.o k m;have k1:=a.2.1.cell;have k4:=d.cell;obtain⟨kU,fU⟩:=ai.o V w.heap.size k k az al a.1;have Jg:=Fa (ay.o k);have wh:=Fa (fun W hW=>ax.o W w.heap.size k m hW);generalize aB (v::eY U k v)=m1 at *;generalize aB (eY U k v)=m0 at *;generalize aB bv=mv at *;gi_wp2_with fail
   refine Bi (fun u=>AJ u ⟨w.heap.size+1,0,O⟩=I (J (I ⟨w.heap.size,0,O⟩) n n)/\u.cell? ⟨wr.heap.size,0,O⟩=I (E yR (v:Nat))) ao ao (fun ⟨_,_,h⟩=>h) ⟨k1,k4⟩ ?_;intro B6;have M:KeepsOthers V V.drew:=CU V;have B9:uX w n n ((nQ U n v k).map aB) V.drew:=⟨a.1,a.2.1,a.2.2.drew⟩;have q4:Boxed V.drew wr.heap.size 3 (E yR (v:Nat)):=d;have qS:Shut (w.heap.size+2) W3.heap.size ds V.drew:=s.keep fun _ _=>rfl;have qz:W3.heap.size<=V.drew.heap.size:=X;have bf:AJ V.drew ⟨w.heap.size,k,O⟩=I (E yW (m0:Nat)):=kU;have aW:V.drew.frozen? ⟨w.heap.size,k,O⟩=false:=fU;clear k1 k4 kU fU a d s X b4 ab Y O1;generalize V.drew=H at *;refine au 0 (J (I ⟨w.heap.size,0,O⟩) n n) ?_;refine au 1 (E yR (k:Nat)) ?_;refine au 2 (J (I ⟨w.heap.size,0,O⟩) n n) ?_;refine au 3 (E yR (k:Nat)) ?_;refine au 4 (zZ (I ⟨w.heap.size,k,O⟩)) ?_;refine au 6 (E yR (v:Nat)) ?_;refine aG [5] (cA ?_ aH);intro q b;go_simp;refine b.o _ _ B6 (fun B7=>?_);clear b q B7;refine aG [7] (cA ?_ aH);intro q b;go_simp;refine(Jg.o _).af ?_;rintro e U1 ⟨rfl,ia⟩;subst ia;refine b.o _ _ B6 (fun B7=>?_);clear b q B7;generalize U1=H at *;refine au 8 (zZ (I ⟨w.heap.size,k,O⟩)) ?_;refine aG [9] (cA ?_ aH);intro q b;go_simp;refine b.o _ _ ⟨(kH B9.2.1 w.heap.size k _ al).cell,(kH q4 w.heap.size k _ al).cell⟩ (fun _=>eV ao ?_ _);clear b q B6;gi_wp2
   exact⟨(M.trans (kh H _ _)).from _,⟨wh.o H B9.1,kH B9.2.1 w.heap.size k _ al,B9.2.2.setCell (p:=⟨w.heap.size,k,O⟩) (ak _) _⟩,kH q4 w.heap.size k _ al,by simpa using qz,qS.putAt al _⟩
  case skip=>
   rintro k V f m h;rw[an.o k m];exact h
  case done=>
   rintro D V M ⟨a,d,X,s⟩ r;rw[Z1] at a;have DM:D<V.heap.size:=(c5.1 r).1;have Jl:we (Shut (w.heap.size+2) V.heap.size ({target:=.collected D,args:= #[]}::ds) V):=⟨D,al,DM,rfl,r,s.af M⟩;have Qo:=Fa a;clear a d s r;gi_wp2
   refine⟨⟨v+1,_,_,_,_,_,_,_,_,_,_,rfl,al,Qo,Jl⟩,?_⟩;simp[intOf];omega
 ·obtain rfl:v=n:=al
  have kc:=j.o.2.1.cell;gi_wp2
  refine Ik (lo:=w.heap.size+2) (K:=uX w v v ((lY U v v).map aB)) (uX.shut al) (fun B1 hZ=>⟨_,CN rfl _ _ _,rfl,hZ.1,hZ.2.2⟩) _ wr.heap.size wr T.o j.o
end
section
attribute [local go_sem] Oper.semAt_some
variable {c:Nat}
def qQ (P:List Jp) (t:Jp) (k:Nat):Jp:=t++(bX t k).flatMap fun v=>P.getD v []
theorem atY (P:List Jp) (t:Jp):qQ P t 0=t:=by simp[qQ,bX]
theorem atZ {t:Jp} (h:k∈t):qQ P t (k+1)=qQ P t k++P.getD k []:=by rw[qQ,Sw h,List.flatMap_append, <- qj,qQ];simp
theorem at1 {t:Jp} (h:¬k∈t):qQ P t (k+1)=qQ P t k:=by rw[qQ,NQ h,qQ]
def dG (P:List Jp) (s:Jp):Nat ->Jp
 |0=>s
 |r+1=>qQ P (dG P s r) 8
theorem aiP {t:Jp} (b:∀v,∀u∈P.getD v [],u<n) (c:∀u∈t,u<n) (k:Nat):∀u∈qQ P t k,u<n:=fun u d=>by
 rcases bH.1 d with h |h
 ·exact c u h
 ·obtain⟨v,_,a⟩:=List.mem_flatMap.1 h;exact b v u a
theorem LZ {s:Jp} (h:∀v,∀u∈P.getD v [],u<n) (hs:∀u∈s,u<n):∀r,∀u∈dG P s r,u<n
 |0=>hs
 |r+1=>aiP h (LZ h hs r) 8
def zg (w:wA) (G n c m:Nat) (W:wA):Prop:=Boxed W w.heap.size 154 (J (I ⟨G,0,O⟩) n c)/\Boxed W (w.heap.size+1) 158 (E yW (m:Nat))/\da w W
theorem zg.shut {G:Nat} (l:w.heap.size+1<lo) (W:wA) (r:Nat) (h:zg w G n c m W) (a:lo<=r) (d:W.heap[r]? =I (.deferred (I []))):zg w G n c m (W.putObj r (.deferred O)):=
 ⟨(zh al).trans h.1,(zh al).trans h.2.1,h.2.2.trans (xY (w:=w) (ak _) W r _ _ al d rfl rfl)⟩
theorem zg.own {β:Type} {G B:Nat} (f:β ->Nat) (h:w.heap.size<=B):OwnFrom B (fun (s:β) W=>zg w G n c (f s) W):=
 gJ (iF (kL _ _ (fun _=>_)) _) (gJ (iF (kL _ _ (fun s:β=>E yW (f s:Nat))) _) (CO (ak _) h))
theorem aiO (G n c:Nat) (P:List Jp) (s:Jp) (w:wA) (hn:Z P=n) (h8:n<=8) (U:dw w G (P.map aB)) (S:∀p∈P,∀u∈p,u<n) (hs:∀u∈s,u<n):
  c6 128 #[J (I ⟨G,0,O⟩) n c,E yW (aB s:Nat)] w fun e  w'=>e=yk (E yW (aB (dG P s n):Nat))/\da w w':=by
 refine(jg (n:=6)).1 ?_;have hG:=U.lt
 have q:∀v,∀u∈P.getD v [],u<n:=fun v u b=>by
  by_cases L:v<Z P
  ·rw[cK,ba L] at b;exact S _ (bQ L) u b
  ·rw[cK,jw al] at b;simp at b
 have AG:we (∀(V:wA) (v:Nat),da w V ->v< n ->AJ V ⟨G,v,O⟩=I (E yW (aB (P.getD v []):Nat))):=fun V v hB L=>by
  have:=(U.aa hB hG).cell v (by rw[dm];omega);rwa [Fq al] at this
 have Va:=Fa (fun r=>LZ q hs r);have Qi:=Fa (fun (r k:Nat)=>Uq (qQ P (dG P s r) k) (P.getD k []) (fun u b=>by have:=aiP q (LZ q hs r) k u b;omega) (fun u b=>by have:=q k u b;omega));have HY:=Fa (fun (r k:Nat) (h:k∈dG P s r)=>atZ (P:=P) h);have HN:=Fa (fun (r k:Nat) (h:¬k∈dG P s r)=>at1 (P:=P) h);have HZ:=Fa (fun (r:Nat)=>atY P (dG P s r));have iV:we (∀r,qQ P (dG P s r) 8=dG P s (r+1)):=fun r=>rfl;have a:dG P s 0=s:=rfl;clear U S q hs;refine wF func128 rfl trivial ?_ rfl;simp only[ntmps128,mX,dX,mo,Nat.reduceAdd,Nat.reduceSub,o8,o7,o6,oB,iH,gC];obtain⟨m,j⟩:∃m,m=AC (AC w (yd #[J (I ⟨G,0,O⟩) n c] 154)) (yd #[E yW (aB s:Nat)] 158):=⟨_,rfl⟩
 have B2:zg w G n c (aB (dG P s 0)) m:=by
  rw[j,a];refine⟨(bE w _ _).alloc _,?_,((aw _ w).alloc (ak _) _).alloc aE _⟩;have h:=bE (AC w (yd #[J (I ⟨G,0,O⟩) n c] 154)) 158 (E yW (aB s:Nat));rwa [eW] at h
 have f:=B2.1.cell;rw[j] at f;gi_wp2
 rw[<- j];have aM:m.heap.size=w.heap.size+2:=by rw[j];simp
 have nW:=Fa B2;clear j B2 f a;generalize hab:dG P s=y at *;have wD:=Fa hab;clear hab;generalize aB s=ad at *;refine wpIn_loop (fun x w'=>∃(r:Nat) (ds:List Deferred) (u9 u10 u11 Kh:wQ),x= {tmps:= #[J (I ⟨G,0,O⟩) n c,E yW (ad:Nat),zZ (I ⟨w.heap.size,0,O⟩),zZ (I ⟨w.heap.size+1,0,O⟩),E yW 0,wd,J (I ⟨G,0,O⟩) n c,E yR (n:Nat),E yR (r:Nat),u9,u10,u11,wd,wd,wd,wd,wd,wd,wd,Kh,wd],defers:=ds}/\r<=n/\we (zg w G n c (aB (y r)) w')/\we (Shut (w.heap.size+2) w'.heap.size ds w')) (fun x _=>n - (intOf (x.tmps.getD 8 wd)).toNat) ?_ ?_
 ·exact⟨0,[],_,_,_,_,rfl,aX _,nW,trivial⟩
 intro x wr ax;obtain⟨r,ds,u9,u10,u11,Kh,rfl,hr,g,tT⟩:=ax;clear nW;by_cases aJ:r<n
 ·have T:=Va.o r;have PW:=Fa (HY.o r);have Ml:=Fa (HN.o r);have ae:=Fa (Qi.o r);have an:=HZ.o r;have aj:=iV.o r;have dS:w.heap.size+1<wr.heap.size:=g.o.2.1.lt;have A:=g.o.2.1.cell;have N7:∀u∈y r,u<8:=fun u b=>by have:=T u b;omega
  generalize y r=t at *;gi_wp2
  clear A;have Q:=g.o;rw[<- an] at Q
  refine E4 al t N7 rfl rfl
   (fun k V=>zg w G n c (aB (qQ P t k)) V/\(wr.heap.size<=V.heap.size/\Shut (w.heap.size+2) wr.heap.size ds V))
   (gJ (zg.own (fun k:Nat=>aB (qQ P t k)) al) WN)
   ⟨Q,ak _,tT.o⟩
   (fun k=> {tmps:= #[J (I ⟨G,0,O⟩) n c,E yW (ad:Nat),zZ (I ⟨w.heap.size,0,O⟩),zZ (I ⟨w.heap.size+1,0,O⟩),E yW 0,E yR (k:Nat),J (I ⟨G,0,O⟩) n c,E yR (n:Nat),E yR (r:Nat),zd xq,E yW (aB t:Nat),.func (.func 182) #[E yW (aB t:Nat)] #[],E yR (k:Nat),wd,wd,wd,wd,wd,wd,Kh,wd],defers:=[]}) ?assign ?body ?skip ?done
  case assign=>
   intro l k W K d;gi_wp2
   exact d
  case body=>
   rintro l k V hk z ⟨a,M,F⟩;have av:=T k z;have f:=a.1.cell;have X:=AG.o V k a.2.2 av;have az:=ae.o k;have ai:=Fa (PW.o k z);have A:=a.2.1.cell;have R:=a.2.1.frozen;generalize hm1:aB (qQ P t k++P.getD k [])=m1 at *;have Cx:=Fa hm1;clear hm1;generalize aB (qQ P t k)=Y at *;generalize aB (P.getD k [])=mu at *;generalize aB t=mt at *;gi_wp2_with fail
   refine Bi (fun u=>AJ u ⟨w.heap.size,0,O⟩=I (J (I ⟨G,0,O⟩) n c)/\u.cell? ⟨G,k,O⟩=I (E yW (mu:Nat))) ao ao (fun ⟨_,_,h⟩=>h) ⟨f,X⟩ ?_;intro B7;have B6:KeepsOthers V V.drew:=CU V;have B9:zg w G n c Y V.drew:=⟨a.1,a.2.1,a.2.2.drew⟩;have qS:Shut (w.heap.size+2) wr.heap.size ds V.drew:=F.keep fun _ _=>rfl;have qz:wr.heap.size<=V.drew.heap.size:=M;have aR:AJ V.drew ⟨w.heap.size+1,0,O⟩=I (E yW (Y:Nat)):=A;have ay:V.drew.frozen? ⟨w.heap.size+1,0,O⟩=false:=R;clear f X A R a F M Q;generalize V.drew=U0 at *;refine au 1 (J (I ⟨G,0,O⟩) n c) ?_;refine au 2 (E yR (k:Nat)) ?_;refine au 3 (zZ (I ⟨G,k,O⟩)) ?_;refine au 4 (E yW (mu:Nat)) ?_;refine aG [0] (cA ?_ aH);intro H i;go_simp;refine i.o _ _ B7 (fun aq=>?_);clear i H aq;refine au 5 (E yW (m1:Nat)) ?_;refine aG [6] (cA ?_ aH);intro H i;go_simp;refine i.o _ _ ⟨(kH B9.1 (w.heap.size+1) 0 _ al).cell,(gg _ _ _ _ (fun e=>(show ¬w.heap.size+1=G by omega) (eG Addr.block e))).trans B7.2⟩ (fun _=>eV ao ?_ _);clear i H B7;gi_wp2
   exact⟨(B6.trans (kh U0 _ _)).from _,⟨kH B9.1 (w.heap.size+1) 0 _ al,by rw[ai.o,Cx.o];exact B9.2.1.set _,B9.2.2.setCell (p:=⟨w.heap.size+1,0,O⟩) aE _⟩,by simpa using qz,qS.putAt al _⟩
  case skip=>
   rintro k V hk z h;rw[Ml.o k z];exact h
  case done=>
   rintro D V B6 ⟨a,M,F⟩ d;rw[aj] at a;have DM:D<V.heap.size:=(c5.1 d).1;have Jl:we (Shut (w.heap.size+2) V.heap.size ({target:=.collected D,args:= #[]}::ds) V):=⟨D,al,DM,rfl,d,F.af B6⟩;have Qo:=Fa a;clear a F d;gi_wp2
   refine⟨⟨r+1,_,_,_,_,_,rfl,al,Qo,Jl⟩,?_⟩;simp[intOf];omega
 ·obtain rfl:r=n:=al
  have kc:=g.o.2.1.cell;gi_wp2
  refine Ik (lo:=w.heap.size+2) (K:=zg w G r c (aB (y r))) (zg.shut al) (fun B1 hZ=>⟨_,CN rfl _ _ _,by rw[wD.o];rfl,hZ.2.2⟩) _ wr.heap.size wr tT.o g.o
end
theorem ass {l1 l2:Jp} (h1:i<Z l1) (a:i<Z l2) (h:l1[i]≠l2[i]):decide (l1=l2)=false:=cT fun e=>h (by subst e;rfl)
theorem asv {l1 l2:Jp} (l:Z l1=Z l2) (h:∀i (a:i<Z l1) (b:i<Z l2),l1[i]=l2[i]):decide (l1=l2)=true:=cJ (mZ l h)
theorem alw (d e n t u:Nat) (l1 l2:Jp) (w:wA) (v:Z l1=n) (z:Z l2=n) (B6:n<=5000) (h1:dw w d l1) (k:dw w e l2):
  c6 282 #[J (I ⟨d,0,O⟩) n t,J (I ⟨e,0,O⟩) n u] w (dj w (zd (decide (l1=l2)))):=by
 have f:=Fa h1;have g:=Fa k;have p:=Fa (fun i (a:i<Z l1) (b:i<Z l2) h=>ass a b h);have B9:=Fa (fun h=>asv (l1:=l1) (l2:=l2) al h);generalize decide (l1=l2)=r at *;clear h1 k;go_enter func282,ntmps282;go_wp2_with fail
 go_loopw [13] (fun iv wr=>∃i:Nat,i<=n/\iv=E yR i/\we (∀j (a:j<Z l1) (b:j<Z l2),j< i ->l1[j]=l2[j])/\we (da w wr)) (fun iv _=>n - (intOf iv).toNat)
 case atStart=>exact⟨0,aX _,rfl,fun j _ _ h=>absurd h al,aw _ _⟩
 case round=>
  obtain⟨i,D,rfl,B7,H⟩:=hrel;by_cases L:i<n
  ·have q:=(f.o.aa H.o f.o.lt).cell i al;have s:=(g.o.aa H.o g.o.lt).cell i al;have Q:=Fa (p.o i al al)
   have S:we (l1[i]'al=l2[i]'al ->∀j (a:j<Z l1) (b:j<Z l2),j<i+1 ->l1[j]=l2[j]):=fun h j a b F=>by
    rcases dR j i with l |l
    ·exact B7.o j a b l
    ·obtain rfl:j=i:=al
     exact h
   generalize l1[i]'al=x at *;generalize l2[i]'al=y at *;go_upto_region 6 with fail
   go_quiet (fail)
   have m:=Fa (below_drewN H.o nq);clear q s;generalize wr.drewN nq=K at *;by_cases c:x=y
   ·have U:=Fa (S.o c);subst c;go_wp2;go_roundw
    case rel=>exact⟨i+1,al,bd,U,m⟩
    case measure=>simp[intOf];omega
   ·have R:=Fa (Q.o c)
    have A:((x:Int) !=(y:Int))=true:=by
     (have:¬(x:Int)=(y:Int):=al);simpa using this
    clear c;go_wp2;go_ret;exact⟨by rw[R.o];rfl,m.o⟩
  ·obtain rfl:i=n:=al
   have R:=Fa (B9.o fun j a b=>B7.o j a b al);go_wp2;go_ret;exact⟨by rw[R.o];rfl,H.o⟩
def wV (L:List Kx):Bool:=gB L&&decide (jB L=(lY (aI L) (Z L) (Z L)).map aB)
theorem KE (h:gB L=xq):∀p∈aI L,∀u∈p,u<Z L:=by
 obtain⟨_,_,r,_⟩:=mK h;intro p e u f;obtain⟨l,d,rfl⟩:=aQ.1 e;obtain⟨x,g,rfl⟩:=aQ.1 f;obtain⟨i,b,rfl⟩:=iQ d;have a:=mC (Ux r b);obtain⟨j,c,rfl⟩:=iQ g;have:=a.each j c;omega
theorem KQ (h:gB L=xq):vX (Z L) (aI L):=by
 refine⟨kp L,KE h,fun u a=>?_⟩;obtain⟨_,_,_,hs⟩:=mK h;by_cases l:u<Z L
 ·rw[H5 l] at a;rw[aeP l a] at hs;cases hs
 ·rw[cK,jw (by rw[kp];omega)] at a;simp at a
theorem al2 (a:Kd) (ca:Nat) (L:List Kx) (w:wA) (h:ei w a L) (r:∀l∈L,Z l<=140737488355328):
  c6 254 #[J a (Z L) ca] w fun e w'=>da w w'/\
   ((wV L=xq/\∃G,e=yk (zz #[J (I ⟨G,0,O⟩) (Z L) (Z L),zd xq])/\w.heap.size<=G/\dw w' G (jB L))∨(wV L=x3/\e=yk (zz #[J O 0 0,zd x3]))):=by
 have B2:=Fa (adb a ca L w h r);have k:we (wV L=(gB L&&decide (jB L=(lY (aI L) (Z L) (Z L)).map aB))):=rfl
 have M:we (gB L=xq ->∀(G:Nat) (U:wA),dw U G (jB L) ->c6 220 #[J (I ⟨G,0,O⟩) (Z L) (Z L)] U fun e w'=>e=yk (J (I ⟨U.heap.size,0,O⟩) (Z L) (Z L))/\dw w' U.heap.size ((lY (aI L) (Z L) (Z L)).map aB)/\da U w'):=fun g G U b=>by
  rw[Ih] at b;exact aid G (Z L) (Z L) (aI L) U (kp L) (mK g).2.1 b (KE g)
 have B6:we (gB L=xq ->∀(c d:Nat) (U:wA),dw U c (jB L) ->dw U d ((lY (aI L) (Z L) (Z L)).map aB) ->c6 282 #[J (I ⟨c,0,O⟩) (Z L) (Z L),J (I ⟨d,0,O⟩) (Z L) (Z L)] U fun e w'=>e=yk (zd (decide (jB L=(lY (aI L) (Z L) (Z L)).map aB)))/\da U w'):=fun g c d U u x=>alw c d (Z L) (Z L) (Z L) _ _ U (afc L) (by rw[dm,aaB]) (by have:=(mK g).2.1;omega) u x;generalize wV L=nb at *;generalize decide (jB L=(lY (aI L) (Z L) (Z L)).map aB)=t at *;generalize (lY (aI L) (Z L) (Z L)).map aB=A at *;clear h r;go_enter func254,ntmps254;go_wp2_with fail
 refine B2.o.af ?_;rintro e F ⟨f,⟨g,G,rfl,y,b⟩ |⟨g,v,rfl⟩⟩
 ·have p:=Fa (M.o g G);have B9:=Fa (B6.o g G);rw[g] at k;have i:=Fa b;have H:=Fa f;clear b f M B6;go_wp2_with fail
  refine(p.o _ i.o).af ?_;rintro e B7 ⟨rfl,s,m⟩;have j:=Fa (i.o.aa m i.o.lt);have D:=Fa s;have B1:=Fa (H.o.trans (m.af H.o.size));clear s m p;go_wp2_with fail
  refine(B9.o _ _ j.o D.o).af ?_;rintro e K ⟨rfl,n⟩;have z:=Fa (j.o.aa n j.o.lt);have q:=Fa (B1.o.trans (n.af B1.o.size));clear n B9;cases t
  ·go_wp2;go_ret2;exact⟨q.o,xS ⟨k.o,rfl⟩⟩
  ·go_wp2;go_ret2;exact⟨q.o,yp ⟨k.o,G,rfl,y,z.o⟩⟩
 ·rw[g] at k;have H:=Fa f;clear f M B6 g;go_wp2;go_ret2;exact⟨H.o,xS ⟨k.o,rfl⟩⟩
theorem Au.cells {B:Nat} {v:wQ} {l:Jp} (h:Au w B v l):∃d i,v=J d (Z l) i/\∀k (f:k<Z l),∃g o,d=I ⟨g,o,O⟩/\g<w.heap.size/\w.cell? ⟨g,o+k,O⟩=I (E yW (l[k]:Nat)):=by
 rcases h.2 with ⟨a,b⟩ |⟨g,cap,r,a,b,c,p,q,s,m⟩
 ·have:l=[]:=Hm.1 b;subst this;exact⟨O,0,a,fun k f=>absurd f aE⟩
 ·refine⟨_,_,a,fun j n=>⟨g,0,rfl,(c5.1 c).1,?_⟩⟩;rw[bK,a8 w g j _ _ (0,0) c]
  have e:r[j]? =(r.toList.take (Z l*1))[j]?:=by
   rw[tu,aA al,wM]
  rw[e,m,mr,ba n];rfl
def FlR (L:List Kx) (e:Ending) (w':wA):Prop:=
 (wV L=xq/\∃d cd G,e=yk (zz #[J d (Z L) cd,J (I ⟨G,0,O⟩) (Z L) (Z L),E yR 0])/\aC w' d (iL (bP (aI L) (Z L) (Z L)).ord)/\ei w' (I ⟨G,0,O⟩) ((bP (aI L) (Z L) (Z L)).bag.map fV))∨
 (wV L=x3/\e=yk (zz #[J O 0 0,J O 0 0,E yR 11]))
theorem arh (a:Kd) (ca:Nat) (L:List Kx) (w:wA) (h:ei w a L) (D:∀l∈L,Z l<=140737488355328):
  c6 204 #[J a (Z L) ca] w fun e w'=>FlR L e w'/\da w w':=by
 have UW:=Fa (al2 a ca L w h D)
 have v:we (wV L=xq ->∀(G:Nat) (U:wA),dw U G (jB L) ->c6 255 #[J (I ⟨G,0,O⟩) (Z L) (Z L)] U fun e w'=>∃nv bv,e=yk (zz #[nv,bv])/\p6 U w' G nv bv (iL (bP (aI L) (Z L) (Z L)).ord) ((bP (aI L) (Z L) (Z L)).bag.map aB) ((bP (aI L) (Z L) (Z L)).nei.map aB)):=fun n G U i=>by
  have f:gB L=true:=by
   rw[wV,iI] at n;exact n.1
  rw[Ih] at i;exact aq9 G (Z L) (Z L) (aI L) U (mK f).1 (mK f).2.1 i (KQ f)
 have t:we (wV L=xq ->(bP (aI L) (Z L) (Z L)).ord.length=Z L/\(bP (aI L) (Z L) (Z L)).bag.length=Z L/\L.length<=8/\∀p∈(bP (aI L) (Z L) (Z L)).bag,∀u∈p,u<8):=fun n=>by
  have f:gB L=true:=by
   rw[wV,iI] at n;exact n.1
  have z:=(mK f).2.1;have r:=(mK f).1;have b:=fun k=>T6 (KQ f) k;refine⟨(b (Z L)).2.2.1,(b (Z L)).2.2.2,z,?_⟩
  have ad:∀k,∀p∈(bP (aI L) (Z L) k).bag,∀u∈p,u<8:=fun k=>by
   induction k with
   |zero=>intro p c;simp[bP] at c
   |succ k ih=>
    intro p c u j;rw[bP] at c;rcases bH.1 c with c |c
    ·exact ih p c u j
    ·rw[bD.1 c] at j;rcases bU.1 j with rfl |j
     ·have:=ahs (P:=(bP (aI L) (Z L) k).nei) r (b k).2.1;omega
     ·have:=(b k).1.at _ u j;omega
  exact ad _
 clear h D;go_enter func204,ntmps204;go_wp2_with fail
 refine UW.o.af ?_;rintro e w1 ⟨m,⟨n,G,rfl,hG,i⟩ |⟨n,rfl⟩⟩
 ·have T:=Fa (v.o n G _ i);obtain⟨ho,B2,z,F⟩:=t.o n;have q:=Fa n;have H:=Fa m;have Q:=Fa F;clear i m v t n F;generalize hS:bP (aI L) (Z L) (Z L)=S at *;have B6:=Fa hS;clear hS;go_wp2_with fail
  refine T.o.af ?_;rintro e K ⟨nv,bv,rfl,X⟩;obtain⟨d,cd,rfl,B7⟩:=X.nd.ints;obtain⟨d2,Ul,rfl,A⟩:=X.bg.cells;have B1:we (da w K):=⟨X.grow.os.trans H.o.os,X.grow.tape.trans H.o.tape,X.grow.output.trans H.o.output,aO H.o.size X.grow.size,fun k b=>(X.grow.block k (aT b H.o.size) (fun e=>by have:=kg e;omega)).trans (H.o.block k b)⟩;have x:Z (iL S.ord)=Z L:=by rw[bM];exact ho
  have y:Z (S.bag.map aB)=Z L:=by rw[dm];exact B2
  rw[x,y]
  have B9:=Fa (afn d2 Ul S.bag K Q.o al (fun k b=>by
   obtain⟨g,o,r,h2,h3⟩:=A k (by rw[dm];exact b);exact⟨g,o,r,h2,by rw[h3,mq]⟩))
  rw[B2] at B9;have V:=Fa B7;clear X B7 A x y;go_wp2_with fail
  refine B9.o.af ?_;rintro e w3 ⟨R,rfl,TE,M,s⟩;have ab:=Fa (V.o.aa s);have Y:=Fa M;have eE:=Fa (B1.o.trans (s.af B1.o.size));clear s M;go_wp2;refine cN (results_tmp3 rfl _ _ _) rfl ?_;exact⟨yp ⟨q.o,d,cd,R,rfl,by rw[B6.o];exact ab.o,by rw[B6.o];exact Y.o⟩,eE.o⟩
 ·have q:=Fa n;have H:=Fa m;clear n m;go_wp2;refine cN (results_tmp3 rfl _ _ _) rfl ?_;exact⟨xS ⟨q.o,rfl⟩,H.o⟩
def AbR (L:List Kx) (l:Kx) (e:Ending) (w':wA):Prop:=
 (bq L≠0/\e=yk (zz #[J O 0 0,E yR (bq L)]))∨
 (bq L=0/\dZ l (Z L)=x3/\e=yk (zz #[J O 0 0,E yR 11]))∨
 (bq L=0/\dZ l (Z L)=xq/\∃d cd,e=yk (zz #[J d (Z (fV (dG (aI L) (ag l) (Z L)))) cd,E yR 0])/\aC w' d (fV (dG (aI L) (ag l) (Z L))))
theorem yL (h:bq L=0):gB L=true:=by
 rw[bq] at h;by_cases e:gB L=xq
 ·exact e
 ·rw[aD e] at h;exact absurd h a6
theorem aad (a b:Kd) (ca cb:Nat) (L:List Kx) (l:Kx) (w:wA) (h:ei w a L) (K:∀l∈L,Z l<=140737488355328) (B6:aC w b l) (dK:Z l<=140737488355328):
  c6 78 #[J a (Z L) ca,J b (Z l) cb] w fun e w'=>AbR L l e w'/\da w w':=by
 have HR:=Fa (TX a ca L w h K);have Y:=Fa B6;have y:=Fa (fun (U:wA) (f:aC U b l) (hn:Z L<=8)=>acW b cb l (Z L) U f dK hn)
 have D:we (bq L=0 ->dZ l (Z L)=xq ->∀(G c:Nat) (U:wA),dw U G (jB L) ->c6 128 #[J (I ⟨G,0,O⟩) (Z L) c,E yW (aB (ag l):Nat)] U fun e w'=>e=yk (E yW (aB (dG (aI L) (ag l) (Z L)):Nat))/\da U w'):=fun g r G c U f=>by
  rw[Ih] at f;have k:=yL g
  exact aiO G (Z L) c (aI L) (ag l) U (kp L) (mK k).2.1 f (KE k) (fun u i=>by
   obtain⟨x,t,rfl⟩:=aQ.1 i;obtain⟨j,q,rfl⟩:=iQ t;have:=(mC r).each j q;omega)
 have B9:we (bq L=0 ->dZ l (Z L)=xq ->∀U:wA,c6 129 #[E yW (aB (dG (aI L) (ag l) (Z L)):Nat)] U fun e w'=>∃v,e=yk v/\bS w' U.heap.size v (iL (bX (dG (aI L) (ag l) (Z L)) 8))/\da U w'):=fun g r U=>afo _ U (fun u i=>by
  have k:=yL g;have F:=(mK k).2.1
  have:=LZ (n:=L.length) (P:=aI L) (s:=ag l) (fun v u i=>(KQ k).at v u i) (fun u i=>by
   obtain⟨x,t,rfl⟩:=aQ.1 i;obtain⟨j,q,rfl⟩:=iQ t;have:=(mC r).each j q;omega) (Z L) u i
  omega)
 have p:we (dZ l (Z L)=xq ->setA l (Z L)=aB (ag l)):=acX;clear h K B6;go_enter func78,ntmps78;go_wp2_with fail
 refine HR.o.af ?_;rintro e w1 ⟨m,⟨g,G,rfl,hG,f⟩ |⟨g,rfl⟩⟩
 ·have F:=(mK (yL g)).2.1;have H:=Fa (y.o w1 (Y.o.aa m) F);have HU:=Fa f;have B2:=Fa m;have R:=Fa g;clear f m y g;cases r:dZ l (Z L) with
  |false=>
   rw[r] at H;have Qc:=Fa r;clear r D B9 p;generalize setA l (Z L)=sa at *;go_wp2_with fail
   refine H.o.af ?_;rintro e w2 ⟨rfl,z⟩;subst z;go_wp2;go_ret2;exact⟨xS (yp ⟨R.o,Qc.o,rfl⟩),B2.o⟩
  |true=>
   rw[r,p.o r] at H;have ad:=Fa r;have X:=Fa (D.o R.o r G (Z L));have HL:=Fa (B9.o R.o r);clear r D B9 p;generalize hab:dG (aI L) (ag l) (Z L)=ab at *;have S:=Fa hab;clear hab;generalize aB (ag l)=m0 at *;go_wp2_with fail
   refine H.o.af ?_;rintro e w2 ⟨rfl,z⟩;subst z;go_wp2_with fail
   refine(X.o _ HU.o).af ?_;rintro e w3 ⟨rfl,T⟩;have A:=Fa (B2.o.trans (T.af B2.o.size));clear T;go_wp2_with fail
   refine(HL.o _).af ?_;rintro e w4 ⟨v,rfl,M,V⟩;obtain⟨d,cd,rfl,B7⟩:=M.ints;have B1:=Fa B7;have gj:=Fa (A.o.trans (V.af A.o.size));clear M B7 V;go_wp2;go_ret2;exact⟨xS (xS ⟨R.o,ad.o,d,cd,by rw[S.o];rfl,by rw[S.o];exact B1.o⟩),gj.o⟩
 ·have Qu:=Fa g;have B2:=Fa m;have k:(bq L==0)=false:=by simpa using g
  clear g m D B9 p y;generalize hge:bq L=ge at *;have Q:=Fa hge;clear hge;go_wp2;go_ret2;exact⟨yp ⟨by rw[Q.o];exact Qu.o,by rw[Q.o];rfl⟩,B2.o⟩
section
attribute [local go_sem] Oper.semAt_some
variable {r:Nat} {o':Obj} {a:Kd}
def jR (P:List Jp) (v:Nat):Jp:=v::P.getD v []
def jZ (P:List Jp) (u:Nat):Nat ->Jp
 |0=>[]
 |v+1=>if u∈jR P v then jZ P u v++(jR P v).filter (fun x=>decide (x≠u)) else jZ P u v
def nB (P:List Jp) (n v k:Nat):List Jp:=(List.range n).map fun u=>if u<k/\u∈jR P v then jZ P u v++(jR P v).filter (fun x=>decide (x≠u)) else jZ P u v
def pw (P:List Jp) (n v:Nat):List Jp:=(List.range n).map fun u=>jZ P u v
theorem aoJ (P:List Jp) (n v:Nat):nB P n v 0=pw P n v:=by simp[nB,pw]
theorem aoO (h:n<=8):nB P n v 8=pw P n (v+1):=by
 apply qh;intro u b;have:=bR.1 b;rw[jZ];by_cases a:u∈jR P v
 ·rw[aA ⟨al,a⟩,aA a]
 ·rw[aD (fun e=>a e.2),aD a]
theorem aoK (m:k∈jR P v):nB P n v (k+1)=(nB P n v k).set k (jZ P k v++(jR P v).filter (fun x=>decide (x≠k))):=by
 apply mZ (by simp[nB]);intro i c d;rw[EX];simp only[nB,mq,EY];by_cases h:k=i
 ·subst h;rw[aA ⟨al,m⟩,aA rfl]
 ·rw[aD h];have e:(i<k+1/\i∈jR P v)↔(i<k/\i∈jR P v):=⟨fun ⟨a,b⟩=>⟨al,b⟩,fun ⟨a,b⟩=>⟨al,b⟩⟩;simp only[e]
theorem aoL (m:¬k∈jR P v):nB P n v (k+1)=nB P n v k:=by
 apply qh;intro i c;have e:(i<k+1/\i∈jR P v)↔(i<k/\i∈jR P v):=⟨fun ⟨a,b⟩=>⟨by rcases dR i k with h |h;exact h;exact absurd (show i=k by omega) (fun e=>m (e▸b)),b⟩,fun ⟨a,b⟩=>⟨al,b⟩⟩;simp only[e]
theorem aoN {u:Nat} (a:u<n) (h:¬u<k):(nB P n v k)[u]? =I (jZ P u v):=by
 simp[nB,a,h]
theorem aoM (P:List Jp) (n v k:Nat):Z (nB P n v k)=n:=by simp[nB]
theorem ae0 (P:List Jp) (n v:Nat):Z (pw P n v)=n:=by simp[pw]
theorem T8 (a:∀v,∀u∈P.getD v [],u<n) (c:v<n):∀u∈jR P v,u<n:=fun u b=>by
 rcases bU.1 b with rfl |h
 ·exact c
 ·exact a v u h
theorem Ss (b:∀v,∀u∈P.getD v [],u<n) (u:Nat):∀v,v<=n ->∀x∈jZ P u v,x<n
 |0,_,x,hx=>by simp[jZ] at hx
 |v+1,hv,x,hx=>by
  rw[jZ] at hx;by_cases h:u∈jR P v
  ·rw[aA h] at hx;rcases bH.1 hx with a |a
   ·exact Ss b u v al x a
   ·exact T8 b al x (cU.1 a).1
  ·rw[aD h] at hx;exact Ss b u v al x hx
theorem aii {W:wA} {p:Addr} {x:wQ} {o:Obj} (h:AJ W p=I x) (a:W.heap[r]? =I o) (c:o.isCells=x3):AJ (W.putObj r o') p=I x:=by
 have n:p.block≠r:=fun e=>by
  rw[World.cell?,e,a] at h;cases o<;>simp_all [Obj.isCells]
 rw[<- h];exact iE (zh n)
theorem aC.putObj {W:wA} {d:Kd} {o:Obj} (h:aC W d l) (i:W.heap[r]? =I o) (e:o.isCells=x3):aC (W.putObj r o') d l:=fun k f=>by
 obtain⟨g,q,a,b,c⟩:=h k f;exact⟨g,q,a,by simpa using b,aii c i e⟩
theorem ei.putObj {W:wA} {o:Obj} (h:ei W a L) (e:W.heap[r]? =I o) (d:o.isCells=x3):ei (W.putObj r o') a L:=fun k m=>by
 obtain⟨g,q,b,c,f,i,j,l⟩:=h k m;exact⟨g,q,b,c,f,by simpa using i,aii j e d,l.putObj e d⟩
def Cf (w:wA) (R n:Nat) (l:Jp) (W:wA):Prop:=dw W R l/\Boxed W (R+1) 154 (J (I ⟨R,0,O⟩) n n)/\Below R w W
theorem Cf.own {β:Type} {R B:Nat} (f:β ->Jp) (h:R<=B) (a:R<=w.heap.size):OwnFrom B (fun (s:β) W=>Cf w R n (f s) W):=
 gJ (iF (RD _ f) _) (gJ (iF (kL _ _ (fun _=>_)) _) (fun _ _ _ _ hs g r=>hs.grown g (aO a hs.size) (fun k e=>aO h (r k e).1)))
theorem Cf.aa {W:wA} {R:Nat} {l:Jp} (h:Cf w R n l W) (b:da W W'):Cf w R n l W':=⟨h.1.aa b h.1.lt,Ap h.2.1 b h.2.1.lt,h.2.2.trans (b.af (AV h.1.lt))⟩
def MoR (L:List Kx) (e:Ending) (w':wA):Prop:=
 (bq L≠0/\e=yk (zz #[J O 0 0,E yR (bq L)]))∨
 (bq L=0/\∃G,e=yk (zz #[J (I ⟨G,0,O⟩) (Z L) (Z L),E yR 0])/\ei w' (I ⟨G,0,O⟩) ((pw (aI L) (Z L) (Z L)).map fV))
theorem ard (a:Kd) (ca:Nat) (L:List Kx) (w:wA) (h:ei w a L) (hl:∀l∈L,Z l<=140737488355328):
  c6 203 #[J a (Z L) ca] w fun e w'=>MoR L e w'/\da w w':=by
 refine(jg (n:=6)).1 ?_;obtain⟨i0,cH,bu,bw,bx⟩:=eo Tryz.infoSet;have HR:=Fa (TX a ca L w h hl);have hn:Z (aI L)=Z L:=kp L;have Mh:we (bq L=0 ->∀v,∀u∈(aI L).getD v [],u<Z L):=fun d v u f=>(KQ (yL d)).at v u f;have Cu:we (bq L=0 ->Z L<=8):=fun d=>(mK (yL d)).2.1;have Cv:we (jB L=(aI L).map aB):=Ih L;have aM:we (∀e w',MoR L e w'=((bq L≠0/\e=yk (zz #[J O 0 0,E yR (bq L)]))∨(bq L=0/\∃G,e=yk (zz #[J (I ⟨G,0,O⟩) (Z L) (Z L),E yR 0])/\ei w' (I ⟨G,0,O⟩) ((pw (aI L) (Z L) (Z L)).map fV)))):=fun _ _=>rfl;generalize aI L=P at *;clear h hl;by_cases d:bq L=0
 case neg=>
  have Qu:=Fa d;have br:(bq L==0)=false:=by simpa using d
  refine wF func203 rfl trivial ?_ rfl;simp only[ntmps203,mX,dX,mo,Nat.reduceAdd,Nat.reduceSub,o8,o7,o6,oB,iH,gC];gi_wp2_with (refine⟨trivial,?_⟩;gi_at_call 126;refine(jg.2 HR.o).af ?_;rintro e b ⟨ad,yD⟩;obtain rfl:=(yD.resolve_left fun h=>d h.1).2)
  exact⟨_,results_tmp2 rfl _ _ _,yp ⟨Qu.o,rfl⟩,ad⟩
 case pos=>
  have h8:=Cu.o d;have bd:=fun V=>QJ (P:=prog) 154 158 (E yW 0) 4 underlying154 Tryz.infoSet rfl yR yR (Z L) al al V;refine wF func203 rfl trivial ?_ rfl;simp only[ntmps203,mX,dX,mo,Nat.reduceAdd,Nat.reduceSub,o8,o7,o6,oB,iH,gC];gi_wp2_with (refine⟨trivial,?_⟩;gi_at_call 126;refine(jg.2 HR.o).af ?_;rintro e b ⟨ad,yD⟩;obtain⟨-,G,rfl,hG,hU⟩:=yD.resolve_right fun h=>h.1 d)
  clear bd;have B9:=Mh.o d;rw[Cv.o] at hU;have TD:=hU.lt;have rR:=Fa d;have cO:=Fa ad
  have AG:we (∀(V:wA) (v:Nat),da b V ->v<Z L ->AJ V ⟨G,v,O⟩=I (E yW (aB (P.getD v []):Nat))):=fun V v B7 s=>by
   have:=(hU.aa B7 TD).cell v (by rw[dm];omega);rwa [Fq al] at this
  have az:we (∀v,v<Z L ->∀u∈jR P v,u<Z L):=fun v s=>T8 B9 s;have Jh:=Fa (fun (v:Nat) (s:v<Z L) (U:wA)=>Ks (P.getD v []) v U (fun u f=>by have:=B9 v u f;omega) al);have ay:we (∀v,v::P.getD v []=jR P v):=fun v=>rfl;have l8:=Fa (fun (v:Nat) (s:v<Z L) (u:Nat) (f:u<8) (U:wA)=>Nj (jR P v) u U (fun x M=>by have:=T8 B9 s x M;omega) f);have Qi:=Fa (fun (v u:Nat) (s:v<Z L)=>Uq (jZ P u v) ((jR P v).filter fun x=>decide (x≠u)) (fun x M=>by have:=Ss B9 u v al x M;omega) (Pq (fun x M=>by have:=T8 B9 s x M;omega) _))
  have JK:we (∀(V:wA) (g v k u:Nat),u<Z L ->¬u< k ->dw V g ((nB P (Z L) v k).map aB) ->AJ V ⟨g,u,O⟩=I (E yW (aB (jZ P u v):Nat))/\V.frozen? ⟨g,u,O⟩=x3):=fun V g v k u f bf A=>by
   (have h1:u<Z (nB P (Z L) v k):=by rw[aoM];exact f);have h2:=A.cell u (by rw[dm];exact h1);obtain⟨h3,z⟩:=oA.1 (aoN (P:=P) (v:=v) f bf);rw[mq,z] at h2;exact⟨h2,A.fz u⟩
  have mN:we (∀(V:wA) (g v k:Nat),k∈jR P v ->dw V g ((nB P (Z L) v k).map aB) ->dw (AF V ⟨g,k,O⟩ (E yW (aB (jZ P k v++(jR P v).filter (fun x=>decide (x≠k))):Nat))) g ((nB P (Z L) v (k+1)).map aB)):=fun V g v k F A=>by
   have:=A.set k (aB (jZ P k v++(jR P v).filter (fun x=>decide (x≠k))));rwa [aoK F,Hk]
  have jJ:we (∀v k,¬k∈jR P v ->nB P (Z L) v (k+1)=nB P (Z L) v k):=fun v k h=>aoL h;have HZ:=Fa (fun v=>aoJ P (Z L) v);have HA:=Fa (fun v=>aoO (P:=P) (v:=v) h8)
  have hz:(pw P (Z L) 0).map aB=List.replicate (Z L) 0:=by
   apply mZ (by simp[pw]);intro i h1 h2;simp[pw,jZ,aB]
  have td:we (∀(R:Nat) (U:wA),dw U R ((pw P (Z L) (Z L)).map aB) ->c6 253 #[J (I ⟨R,0,O⟩) (Z L) (Z L)] U fun e w'=>∃G,e=yk (J (I ⟨G,0,O⟩) (Z L) (Z L))/\U.heap.size<=G/\ei w' (I ⟨G,0,O⟩) ((pw P (Z L) (Z L)).map fV)/\da U w'):=fun R U A=>by
   have:=afn (I ⟨R,0,O⟩) (Z L) (pw P (Z L) (Z L)) U (fun p hp u f=>by
    obtain⟨x,_,rfl⟩:=aQ.1 hp;have:=Ss B9 x (Z L) (ak _) u f
    omega) (by rw[ae0];omega) (fun k hk=>⟨R,0,rfl,A.lt,by
     have:=A.cell k (by rw[dm];exact hk);rw[bK,this,mq]⟩)
   rwa [ae0] at this
  clear hU d ad Mh Cu Cv B9 HR;generalize (Z L)=n at *;obtain⟨X,ab⟩:∃X,X=AC (AC b (yd (madeCells #[E yW 0] n) 158)) (yd #[J (I ⟨b.heap.size,0,O⟩) n n] 154):=⟨_,rfl⟩
  have an:Cf b b.heap.size n ((pw P n 0).map aB) X:=by
   rw[ab,hz];refine⟨?_,?_,((aw _ b).alloc (ak _) _).alloc aE _⟩
   ·have h:=dU b (yd (madeCells #[E yW 0] n) 158)
    have e:(madeCells #[E yW 0] n).toList=(List.replicate n (0:Nat)).map uv:=by
     have:=XW n;rwa [rU] at this
    (have e2:madeCells #[Value.int yW 0] n=((List.replicate n (0:Nat)).map uv).toArray:=by rw[<- e]);rw[dw,uY _ _ _ aE,h,e2]
   ·have h:=bE (AC b (yd (madeCells #[E yW 0] n) 158)) 154 (J (I ⟨b.heap.size,0,O⟩) n n);rwa [eW] at h
  rw[<- ab];have bs:X.heap.size=b.heap.size+2:=by rw[ab];simp
  have nW:=Fa an;clear ab an hz;refine wpIn_loop (fun Y w'=>∃(v:Nat) (ds:List Deferred) (u7 u8 u24 M9 u26 M8 u28 C0 M7 M6 u32 Kg:wQ),Y= {tmps:= #[J a n ca,wd,J O 0 0,E yR 0,J (I ⟨G,0,O⟩) n n,E yR 0,zZ (I ⟨b.heap.size+1,0,O⟩),u7,u8,wd,zz #[J (I ⟨G,0,O⟩) n n,E yR 0],J a n ca,zz #[J (I ⟨G,0,O⟩) n n,E yR 0],J (I ⟨G,0,O⟩) n n,E yR 0,E yR 0,zd x3,wd,J (I ⟨G,0,O⟩) n n,E yR (n:Nat),J (I ⟨b.heap.size,0,O⟩) n n,J (I ⟨G,0,O⟩) n n,E yR (n:Nat),E yR (v:Nat),u24,M9,u26,M8,u28,C0,M7,M6,u32,wd,wd,wd,wd,wd,wd,wd,wd,wd,wd,Kg,wd,wd],defers:=ds}/\v<=n/\we (Cf b b.heap.size n ((pw P n v).map aB) w')/\we (Shut (b.heap.size+2) w'.heap.size ds w')) (fun Y _=>n - (intOf (Y.tmps.getD 23 wd)).toNat) ?_ ?_
  ·exact⟨0,[],_,_,_,_,_,_,_,_,_,_,_,_,rfl,aX _,nW,trivial⟩
  intro Y wr bk;obtain⟨v,ds,u7,u8,u24,M9,u26,M8,u28,C0,M7,M6,u32,Kg,rfl,s,t,tT⟩:=bk;clear nW;by_cases S:v<n
  ·have kv:=AG.o wr v t.o.2.2 S;have hs:=az.o v S;(have K6:∀u∈jR P v,u<8:=fun u f=>by have:=hs u f;omega);have aj:=Fa (Jh.o v S);rw[ay.o v] at aj;have a1:=Fa (l8.o v S);have aZ:=Fa (fun u=>Qi.o v u S);have ax:=Fa (fun V g k u=>JK.o V g v k u);have aW:=Fa (fun V g k=>mN.o V g v k);have aR:=Fa (fun k=>jJ.o v k);have Zx:=HZ.o v;have Z1:=HA.o v;have dS:b.heap.size+1<wr.heap.size:=t.o.2.1.lt;generalize aB (P.getD v [])=mp at *;generalize jR P v=m at *;gi_wp2_with (refine⟨trivial,?_⟩;gi_at_call 181;refine(jg.2 (aj.o _)).af ?_;rintro e w4 ⟨rfl,bg⟩;subst bg)
   obtain⟨W3,Q⟩:∃W3,W3=AC wr (yd #[E yW (aB m:Nat)] 158):=⟨_,rfl⟩;(have b8:Boxed W3 wr.heap.size 158 (E yW (aB m:Nat)):=by rw[Q];exact bE wr _ _);(have ai:da wr W3:=by rw[Q];exact(aw _ wr).alloc (ak _) _);(have bt:W3.heap.size=wr.heap.size+1:=by rw[Q];simp);rw[<- Q];have ae:=t.o.aa ai;have O1:=(tT.o.aa ai).af (show wr.heap.size<=W3.heap.size by omega);rw[<- Zx] at ae;clear Q kv t tT
   refine E4 al m K6 rfl rfl
    (fun k V=>Cf b b.heap.size n ((nB P n v k).map aB) V/\Boxed V wr.heap.size 158 (E yW (aB m:Nat))/\(W3.heap.size<=V.heap.size/\Shut (b.heap.size+2) W3.heap.size ds V))
    (gJ (Cf.own (fun k:Nat=>(nB P n v k).map aB) al (ak _)) (gJ (iF (kL _ _ (fun _=>_)) _) WN))
    ⟨ae,b8,ak _,O1⟩
    (fun k=> {tmps:= #[J a n ca,wd,J O 0 0,E yR 0,J (I ⟨G,0,O⟩) n n,E yR 0,zZ (I ⟨b.heap.size+1,0,O⟩),E yR (v:Nat),zZ (I ⟨wr.heap.size,0,O⟩),E yR (k:Nat),zz #[J (I ⟨G,0,O⟩) n n,E yR 0],J a n ca,zz #[J (I ⟨G,0,O⟩) n n,E yR 0],J (I ⟨G,0,O⟩) n n,E yR 0,E yR 0,zd x3,wd,J (I ⟨G,0,O⟩) n n,E yR (n:Nat),J (I ⟨b.heap.size,0,O⟩) n n,J (I ⟨G,0,O⟩) n n,E yR (n:Nat),E yR (v:Nat),zd xq,E yR (v:Nat),zZ (I ⟨G,v,O⟩),E yW (mp:Nat),E yW (mp:Nat),E yR (v:Nat),E yW (aB m:Nat),E yW (aB m:Nat),.func (.func 182) #[E yW (aB m:Nat)] #[],E yR (k:Nat),wd,wd,wd,wd,wd,wd,wd,wd,wd,Kg,wd,wd],defers:=[]}) ?assign ?body ?skip ?done
   case assign=>
    intro l k W K B6;gi_wp2
    exact B6
   case body=>
    rintro l k V hk F ⟨j,z,zL,B2⟩;have bb:=hs k F;have k1:=j.2.1.cell;have k4:=z.cell;obtain⟨kU,fU⟩:=ax.o V b.heap.size k k bb al j.1;have Jg:=Fa (a1.o k hk);have bp:=aZ.o k;have wh:=Fa (fun W hW=>aW.o W b.heap.size k F hW);generalize aB (jZ P k v++m.filter (fun x=>decide (x≠k)))=m1 at *;generalize aB (m.filter fun x=>decide (x≠k))=m2 at *;generalize aB (jZ P k v)=m0 at *;generalize aB m=mf at *;gi_wp2_with fail
    refine Bi (fun u=>AJ u ⟨b.heap.size+1,0,O⟩=I (J (I ⟨b.heap.size,0,O⟩) n n)/\u.cell? ⟨wr.heap.size,0,O⟩=I (E yW (mf:Nat))) ao ao (fun ⟨_,_,h⟩=>h) ⟨k1,k4⟩ ?_;intro H;have hD:KeepsOthers V V.drew:=CU V;have q0:Cf b b.heap.size n ((nB P n v k).map aB) V.drew:=⟨j.1,j.2.1,j.2.2.drew⟩;have q4:Boxed V.drew wr.heap.size 158 (E yW (mf:Nat)):=z;have qS:Shut (b.heap.size+2) W3.heap.size ds V.drew:=B2.keep fun _ _=>rfl;have qz:W3.heap.size<=V.drew.heap.size:=zL;have bz:AJ V.drew ⟨b.heap.size,k,O⟩=I (E yW (m0:Nat)):=kU;have bm:V.drew.frozen? ⟨b.heap.size,k,O⟩=false:=fU;clear k1 k4 kU fU j z B2 zL b8 ai ae O1;generalize V.drew=T at *;refine au 0 (J (I ⟨b.heap.size,0,O⟩) n n) ?_;refine au 1 (E yR (k:Nat)) ?_;refine au 2 (zZ (I ⟨b.heap.size,k,O⟩)) ?_;refine au 4 (E yW (mf:Nat)) ?_;refine au 5 (E yR (k:Nat)) ?_;refine aG [3,6] (cA ?_ (cA ?_ aH))
    focus
     intro q c;go_simp;refine c.o _ _ H (fun y=>?_);clear c q y;refine aG [6] (cA ?_ aH);intro q c;go_simp;refine(Jg.o _).af ?_;rintro e U1 ⟨rfl,ia⟩;subst ia;refine c.o _ _ H (fun y=>?_);clear c q y;generalize U1=T at *
    rotate_left
    focus
     intro q c;go_simp;refine(Jg.o _).af ?_;rintro e U1 ⟨rfl,ia⟩;subst ia;refine c.o _ _ H (fun y=>?_);clear c q y;generalize U1=T at *;refine aG [3] (cA ?_ aH);intro q c;go_simp;refine c.o _ _ H (fun y=>?_);clear c q y
    all_goals
     refine au 7 (E yW (m1:Nat)) ?_;refine au 8 (zZ (I ⟨b.heap.size,k,O⟩)) ?_;refine aG [9] (cA ?_ aH);intro q c;go_simp;refine c.o _ _ ⟨(kH q0.2.1 b.heap.size k _ al).cell,(kH q4 b.heap.size k _ al).cell⟩ (fun _=>eV ao ?_ _);clear c q H;gi_wp2
     exact⟨(hD.trans (kh T _ _)).from _,⟨wh.o T q0.1,kH q0.2.1 b.heap.size k _ al,q0.2.2.setCell (p:=⟨b.heap.size,k,O⟩) (ak _) _⟩,kH q4 b.heap.size k _ al,by simpa using qz,qS.putAt al _⟩
   case skip=>
    rintro k V hk F h;rw[aR.o k F];exact h
   case done=>
    rintro D V hD ⟨j,z,zL,B2⟩ B6;rw[Z1] at j;have DM:D<V.heap.size:=(c5.1 B6).1;have Jl:we (Shut (b.heap.size+2) V.heap.size ({target:=.collected D,args:= #[]}::ds) V):=⟨D,al,DM,rfl,B6,B2.af hD⟩;have Qo:=Fa j;clear j z B2 B6;gi_wp2
    refine⟨⟨v+1,_,_,_,_,_,_,_,_,_,_,_,_,_,rfl,al,Qo,Jl⟩,?_⟩;simp[intOf];omega
  ·obtain rfl:v=n:=al
   have kc:=t.o.2.1.cell;have aJ:=Fa (td.o b.heap.size wr t.o.1);have dS:b.heap.size+1<wr.heap.size:=t.o.2.1.lt;gi_wp2_with (refine⟨trivial,?_⟩;gi_at_call 253;refine(jg.2 aJ.o).af ?_;rintro e w5 ⟨G5,rfl,bo,a6,av⟩)
   have Ak:da w w5:=(cO.o.trans (t.o.2.2.af cO.o.size)).trans (av.af (aO cO.o.size (AV (Nat.lt_trans (Nat.lt_succ_self _) dS))));refine Ik (lo:=b.heap.size+2) (K:=fun W=>ei W (I ⟨G5,0,O⟩) ((pw P v v).map fV)/\da w W) ?_ ?_ _ wr.heap.size w5 (tT.o.aa av) ⟨a6,Ak⟩
   ·rintro W r ⟨hL,B7⟩ hr hd;exact⟨hL.putObj hd rfl,B7.trans (xY (w:=w) (ak _) W r _ _ (by have:=cO.o.size;omega) hd rfl rfl)⟩
   ·rintro B1 ⟨hL,B7⟩;refine⟨_,results_tmp2 rfl _ _ _,?_,B7⟩;rw[aM.o];exact xS ⟨rR.o,G5,rfl,hL⟩
end
theorem Xx (h:sk P (bc P k)=I v):¬v∈bc P k/\∀u∈P.getD v [],u∈bc P k:=by
 have:=List.find?_some h;rw[iZ,iI,Bool.not_eq_true',QM,eM] at this;exact this
theorem Xw (P:List Jp):∀k,(bc P k).Nodup
 |0=>JT
 |k+1=>by
  rw[bc];cases e:sk P (bc P k) with
  |none=>exact Xw P k
  |some v=>
   refine oh.2 ⟨Xw P k,aE,fun a h b d=>?_⟩;rw[bD.1 d];exact fun c=>(Xx e).1 (c▸h)
theorem Xu:∀k,v∈bc P k ->∃A B,bc P k=A++v::B/\¬v∈A/\∀u∈P.getD v [],u∈A
 |0,h=>by cases h
 |k+1,h=>by
  rw[bc] at h⊢;cases e:sk P (bc P k) with
  |none=>
   rw[e] at h;exact Xu k h
  |some w=>
   rw[e] at h;show ∃A B,bc P k++[w]=A++v::B/\_;rcases bH.1 h with h |h
   ·obtain⟨A,B,a,b,c⟩:=Xu k h;exact⟨A,B++[w],by rw[a];simp,b,c⟩
   ·obtain rfl:=bD.1 h;exact⟨bc P k,[],rfl,(Xx e).1,(Xx e).2⟩
def qA (P:List Jp) (v:Nat):Nat:=(bc P (Z P)).idxOf v
theorem alU {u:Nat} (e:v∈bc P (Z P)) (d:u∈P.getD v []):qA P u<qA P v:=by
 obtain⟨A,B,a,b,c⟩:=Xu (Z P) e;have h:=c u d;rw[qA,qA,a,List.idxOf_append,List.idxOf_append,aA h,aD b,List.idxOf_cons_self,bK];exact List.idxOf_lt_length_of_mem h
theorem vR (h:bq L=0):gB L=xq/\∀v,v<Z L ->v∈bc (aI L) (Z (aI L)):=by
 have g:=yL h;refine⟨g,fun v b=>?_⟩;rw[bq,aA g] at h;have d:¬Z (bc (aI L) (Z L))<Z L:=fun c=>by rw[aA c] at h;cases h
 rw[kp];refine zq fun n=>?_
 have:=Fm (l:=v::bc (aI L) (Z L)) (m:=List.range (Z L)) (mY.2 ⟨n,Xw _ _⟩) fun x a=>by
  rcases bU.1 a with rfl |a
  ·exact bR.2 b
  ·have:=H6 (aI L) (Z L) x a;rw[kp] at this;exact bR.2 this
 rw[dX,A0] at this;omega
theorem KF (g:gB L=xq) {u:Nat} (h:u∈(aI L).getD v []):u<Z L/\v<Z L:=by
 have b:v<Z L:=by
  rcases dR v (Z L) with a |a
  ·exact a
  ·rw[cK,jw (by rw[kp];exact a)] at h;cases h
 refine⟨?_,b⟩;rw[cK,ba (by rw[kp];exact b)] at h;exact KE g _ (bQ _) u h
theorem Hz (h:bq L=0) {u:Nat} (a:u∈(aI L).getD v []):qA (aI L) u<qA (aI L) v:=
 alU ((vR h).2 v (KF (vR h).1 a).2) a
theorem ac6 (h:bq L=0) (c:v<Z L):qA (aI L) v<Z L:=by
 have a:=List.idxOf_lt_length_of_mem ((vR h).2 v c);have b:=KI (aI L) (Z (aI L));rw[kp] at b;rw[qA];rw[kp] at a⊢;omega
theorem UA (h:bq L=0) {u:Nat} (a:fQ (fun u v=>u∈(aI L).getD v []) u v):qA (aI L) u<qA (aI L) v:=by
 induction a using fQ.ind with
 |one hp=>exact Hz h hp
 |more _ hp ih=>exact Nat.lt_trans ih (Hz h hp)
theorem atQ (h:bq L=0) (v:Nat):¬fQ (fun u v=>u∈(aI L).getD v []) v v:=fun a=>QQ _ (UA h a)
def L6 (P:List Jp) (a:Nat):Nat ->Nat ->Bool
 |0,b=>decide (a=b)
 |f+1,b=>decide (a=b) ||(P.getD b []).any (L6 P a f)
theorem aaW (h:bq L=0) (a:Nat):∀f b,qA (aI L) b<=f ->(L6 (aI L) a f b=xq↔a=b∨fQ (fun u v=>u∈(aI L).getD v []) a b)
 |0,b,hf=>by
  rw[L6,eM];refine⟨yp,fun k=>k.elim id fun g=>?_⟩;have:=UA h g;omega
 |f+1,b,hf=>by
  rw[L6,J5,eM,rV];constructor
  ·rintro(e |⟨c,i,d⟩)
   ·exact yp e
   ·have:=Hz h i;rcases (aaW h a f c al).1 d with rfl |j
    ·exact xS (.one i)
    ·exact xS (.more j i)
  ·rintro(e |g)
   ·exact yp e
   ·refine xS ?_;rcases fQ.last g with p |⟨v,d,p⟩
    ·exact⟨a,p,by cases f<;>simp[L6]⟩
    ·have:=Hz h p;exact⟨v,p,(aaW h a f v al).2 (xS d)⟩
theorem aaV {s:Jp} {u:Nat}:∀ {r:Nat} (d:Nat),u∈dG P s r ->u∈dG P s (r+d)
 |_,0,h=>h
 |r,d+1,h=>by
  show u∈qQ P (dG P s (r+d)) 8;exact AY _ (aaV d h)
theorem atX (h:bq L=0) {s:Jp} (g:Z L<=8):∀m j v,qA (aI L) v<=m ->v<Z L ->v∈dG (aI L) s j ->∀a,fQ (fun u v=>u∈(aI L).getD v []) a v ->a∈dG (aI L) s (j+m):=fun m=>by
 induction m with
 |zero=>
  intro j v d _ _ a b;have:=UA h b;omega
 |succ m ih=>
  intro j v d i hs a b;have e:∀w,w∈(aI L).getD v [] ->w∈dG (aI L) s (j+1):=fun w f=>JU _ (List.mem_flatMap.2 ⟨v,vu.2 ⟨al,hs⟩,f⟩);rcases fQ.last b with p |⟨w,c,p⟩
  ·rw[show j+(m+1)=(j+1)+m by omega];exact aaV m (e a p)
  ·have:=Hz h p;rw[show j+(m+1)=(j+1)+m by omega];exact ih (j+1) w al (KF (vR h).1 p).1 (e w p) a c
theorem PJ (h:bq L=0) {s:Jp} (f:Z L<=8) (hs:∀v∈s,v<Z L) (a:Nat):a∈dG (aI L) s (Z L)↔∃b∈s,a=b∨fQ (fun u v=>u∈(aI L).getD v []) a b:=by
 constructor
 ·have:∀r a,a∈dG (aI L) s r ->∃b∈s,a=b∨fQ (fun u v=>u∈(aI L).getD v []) a b:=fun r=>by
   induction r with
   |zero=>exact fun a c=>⟨a,c,yp rfl⟩
   |succ r ih=>
    intro a c;rcases bH.1 c with c |c
    ·exact ih a c
    ·obtain⟨v,g,p⟩:=List.mem_flatMap.1 c;obtain⟨b,d,e⟩:=ih v (vu.1 g).2;refine⟨b,d,xS ?_⟩;rcases e with rfl |e
     ·exact .one p
     ·clear d;induction e using fQ.ind with
      |one h2=>exact .more (.one p) h2
      |more _ h2 Yd=>exact .more Yd h2
  exact this _ a
 ·rintro⟨b,d,rfl |c⟩
  ·have:=aaV (P:=aI L) (s:=s) (r:=0) (Z L) d;rwa [bK] at this
  ·have e:=ac6 h (hs b d);have:=atX h f (Z L) 0 b al (hs b d) d a c;rwa [bK] at this
def XS (P:List Jp) (n v u:Nat):Bool:=(decide (u∈P.getD v []) ||decide (v∈P.getD u [])) ||(List.range n).any fun w=>decide (u∈P.getD w [])&&decide (v∈P.getD w [])
theorem NJ {P:List Jp} {u x:Nat}:∀ {n:Nat},x∈jZ P u n↔x≠u/\∃v,v<n/\u∈jR P v/\x∈jR P v
 |0=>by simp[jZ]
 |n+1=>by
  have i:=NJ (P:=P) (u:=u) (x:=x) (n:=n);rw[jZ];by_cases h:u∈jR P n
  ·rw[aA h,bH,i,cU,eM];constructor
   ·rintro(⟨a,v,b,c⟩ |⟨a,b⟩)
    ·exact⟨a,v,al,c⟩
    ·exact⟨b,n,al,h,a⟩
   ·rintro⟨a,v,b,c,d⟩;rcases dR v n with e |e
    ·exact yp ⟨a,v,e,c,d⟩
    ·rw[show v=n by omega] at d;exact xS ⟨d,a⟩
  ·rw[aD h,i];refine and_congr_right fun _=>⟨fun ⟨v,a,b⟩=>⟨v,al,b⟩,fun ⟨v,a,b,c⟩=>⟨v,?_,b,c⟩⟩;rcases dR v n with e |e
   ·exact e
   ·rw[show v=n by omega] at b;exact absurd b h
theorem aoI {u:Nat} (c:u<n) (d:v<n):u∈jZ P v n↔(XS P n v u&&decide (u≠v))=true:=by
 rw[NJ,iI,eM,XS,J5,J5,eM,eM,rV];constructor
 ·rintro⟨e,w,b,h,a⟩;refine⟨?_,e⟩;rcases bU.1 h with rfl |h
  ·rcases bU.1 a with rfl |a
   ·exact absurd rfl e
   ·exact yp (yp a)
  ·rcases bU.1 a with rfl |a
   ·exact yp (xS h)
   ·exact xS ⟨w,bR.2 b,by rw[cJ a,cJ h];rfl⟩
 ·rintro⟨(h |h) |⟨w,b,h⟩,e⟩
  ·exact⟨e,v,d,dA,dL _ h⟩
  ·exact⟨e,u,c,dL _ h,dA⟩
  ·rw[iI,eM,eM] at h;exact⟨e,w,bR.1 b,dL _ h.2,dL _ h.1⟩
def mrR (P:List Jp) (n v u:Nat):Jp:=(List.range u).filter fun u=>XS P n v u&&decide (u≠v)
theorem aoH (b:∀v,∀u∈P.getD v [],u<n/\v<n) (j:n<=8) (f:v<n):iL (mrR P n v n)=fV (jZ P v n):=by
 have l:∀x,x∈jZ P v n ->x<n:=fun x i=>by
  obtain⟨_,w,g,_,h⟩:=NJ.1 i;rcases bU.1 h with rfl |h
  ·exact g
  ·exact(b _ _ h).1
 have e:∀d,bX (jZ P v n) (n+d)=bX (jZ P v n) n:=fun d=>by
  induction d with
  |zero=>rfl
  |succ d ih=>
   rw[show n+(d+1)=(n+d)+1 by omega,NQ,ih];intro m;have:=l _ m;omega
 have a:=e (8 - n);rw[show n+(8 - n)=8 by omega] at a;rw[fV,a,mrR,bX];congr 1
 refine VZ fun u c=>wL.2 ?_;rw[<- aoI (bR.1 c) f,eM]
def abB (L:List Kx) (u v:Nat):Bool:=L6 (aI L) u (Z L) v
theorem aiQ (h:bq L=0) {u:Nat} (a:v<Z L):abB L u v=xq↔u=v∨fQ (fun u v=>u∈(aI L).getD v []) u v:=aaW h u (Z L) v (AV (ac6 h a))
variable {xs:List wQ}
def Ec (t:TypeId) (w w':wA):Prop:=∀(k:Nat) (c:Array wQ) (fr:Nat×Nat),w.heap[k]? =I (Obj.cells c t fr) ->w'.heap[k]? =I (Obj.cells c t fr)
theorem Ec.aa {t:TypeId} (b:da w w'):Ec t w w':=fun k _ _ h=>(b.block k (c5.1 h).1).trans h
theorem KH {B:Nat} {e:TypeId} {s:Nat} {v:wQ} (h:w.ownsRow B e s v n xs) (k:Ec e w w'):w'.ownsRow B e s v n xs:=by
 refine⟨h.1,?_⟩;rcases h.2 with a |⟨g,cap,r,a,b,c,d⟩
 ·exact yp a
 ·exact xS ⟨g,cap,r,a,b,k _ _ _ c,d⟩
theorem ad4 {B:Nat} {e:TypeId} {s:Nat} {v:wQ} (h:w.ownsRow B e s v n xs):∀g,v.ownBlock=I g ->B<=g:=fun g a=>by
 rcases h.2 with ⟨b, -⟩ |⟨g',cap,r,b,c,d,f⟩
 ·rw[b] at a;cases a
 ·rw[b] at a;cases a;exact c
abbrev PK:Type:=Nat×Nat×wQ×Kx
def kC:List PK ->List wQ
 |[]=>[]
 |p::l=>E yR (p.1:Nat)::E yR (p.2.1:Nat)::p.2.2.1::kC l
variable {ops:Array Oper} {rest:List Oper}
theorem ajH {o:Oper} {a:Act} (B2:o.guard=O) (s x:Operand)
  (F:o.op=.call {callee:=.builtin .append,args:= #[s,x],argTypes:= #[27,27]}) (base:Nat) (v:wQ) (l:Kx) (f:Int) (hs:a.eval s=v) (q:bS w base v l) (g:Nat) (B7:a.eval x=J (I ⟨g,0,O⟩) 1 1) (B9:AJ w ⟨g,0,O⟩=I (E yR f)) (ad:Z l+1<=100000) (U:base<=w.heap.size)
  (h:∀v' w',bS w' base v' (l++[f]) ->w.grownBy w' v.ownBlock ->(v'.ownBlock=v.ownBlock∨∀k,v'.ownBlock=I k ->w.heap.size<=k) ->wpList prog ops Q rest (a.put o.dst v') w'):wpList prog ops Q (o::rest) a w:=by
 obtain⟨i,H,m,z,p⟩:=eo Tryz.infoInt
 have n:∀j u,[Value.int yR f][j]? =I u ->AJ w ((⟨g,0,O⟩:Addr).add j)=I u:=fun j u c=>by
  match j,c with
  |0,c=>cases c;exact B9
  |j+1,c=>simp at c
 have S:∀u∈[Value.int yR f],u.oneCell'=true:=fun u t=>by
  simp only[bU,gw,jf] at t;subst t;rfl
 have R:Z l+1<=maxLen:=by unfold maxLen;omega
 obtain⟨v',w',r,A,D, -⟩:=run_append_own (P:=prog) w base 27 o.type 3 i (E yR 0) 1 8 underlying27 H m z p rfl a6 v (Z l) _ q ⟨g,0,O⟩ 1 1 [E yR f] rfl n S R al U
 have T:v'.ownBlock=v.ownBlock∨∀k,v'.ownBlock=I k ->w.heap.size<=k:=by
  rcases q.2 with ⟨b,Y⟩ |⟨g',cap,L,b,aa,B6,X,ab,M,B1⟩
  ·right
   have e:=run_append_nil (P:=prog) w 27 o.type 3 i (E yR 0) underlying27 H m ⟨g,0,O⟩ 1 1 [E yR f] (by rw[z];rfl) n a6 a6 (by rw[p];decide);rw[b] at r;rw[r] at e;cases e;intro k d;cases d;exact ak _
  ·rw[b] at r;by_cases V:Z l+1<=cap
   ·left
    have e:=run_append_room (P:=prog) w 27 o.type 3 i underlying27 H g' (Z l) cap L B6 ⟨g,0,O⟩ 1 1 [E yR f] (by rw[z];rfl) n S V (by rw[z,M];simp;omega);rw[r] at e;cases e;rw[b];rfl
   ·right
    have y:=q;rw[b] at y;have e:=run_append_grow (P:=prog) w 27 o.type 3 i (E yR 0) underlying27 H m ⟨g',0,O⟩ (Z l) cap (l.map (Value.int yR)) (by rw[z];simp) (World.ownsRow.cells y rfl) ⟨g,0,O⟩ 1 1 [E yR f] (by rw[z];rfl) n al al (QL al (by rw[p];omega));rw[r] at e;cases e;intro k d;cases d;exact ak _
 refine wpList_plain B2 fun _ K=>?_;unfold Oper.wp execOp;simp only[F,resolve,invoke,builtin,JQ,zi,wG,JV,fR,om,hs,B7,r];refine K _ _ (h v' w' ?_ D T);rw[bS,cD,gK];exact A
def xF (L:List Kx) (u:Nat) (l:Jp):Bool:=l.any (abB L u)
def js (n:Nat) (Ls:List Kx):Bool:=k5 Ls n&&decide Ls.flatten.Nodup
def wT (L:List Kx) (x y z:Kx):Bool:=(ag x).any fun v=>Fj (aI L) (Z L) (fun v=>decide (v∈ag y)) (fun v=>decide (v∈ag z)) (fun v=>xF L v (ag z)) (Z L) [v]
section
attribute [local go_sem] Oper.semAt_some
theorem WR {P:Program} (w:wA) (base:Nat) (t y e:TypeId) (i:TypeInfo) (z:wQ) (d A:Nat) (o:P.underlying t=I (.slice e)) (g:P.info? e=I i) (r:i.zero=I z) (K:i.size=d) (B7:i.bytes=A) (X:z.cells.size=d) (V:0<d)
  (v:wQ) (n:Nat) (xs:List wQ) (x:w.ownsRow base e d v n xs) (a:Addr) (m c:Nat) (s:List wQ) (l:Z s=m*d) (p:∀j u,s[j]? =I u ->AJ w (a.add j)=I u) (h1:∀u∈s,u.oneCell'=xq)
  (H:n+m<=maxLen) (B9:(n+m)*A<=140737488355328) (Y:base<=w.heap.size) (R:0<m):
  ∃v' w',(Builtin.append_ #[t,t] y #[v,J (I a) m c]).run P w=.ok v' w'/\w'.ownsRow base e d v' (n+m) (xs++s)/\w.grownBy w' v.ownBlock/\(v'.ownBlock=v.ownBlock∨∀k,v'.ownBlock=I k ->w.heap.size<=k):=by
 obtain⟨v',w',h,L,M, -⟩:=run_append_own (P:=P) w base t y e i z d A o g r K B7 X V v n xs x a m c s l p h1 H B9 Y;refine⟨v',w',h,L,M,?_⟩;have ab:n+m<=9223372036854775807:=by simp only[maxLen] at H;omega
 subst K;subst B7
 rcases x.2 with ⟨f,B2⟩ |⟨g',cap,F,f,ad,S,B1,ae,T,aa⟩
 ·right
  have b:=run_append_nil (P:=P) w t y e i z o g r a m c s l p R al (by
   have Q:=B9;rw[B2,bK] at Q;omega)
  rw[f] at h;rw[h] at b;cases b;intro k q;cases q;exact ak _
 ·rw[f] at h;by_cases B6:n+m<=cap
  ·left
   (have U:n*i.size+Z s<=F.size:=by rw[l,T, <- iG];exact mn _ B6);have b:=run_append_room (P:=P) w t y e i o g g' n cap F S a m c s l p h1 B6 U;rw[h] at b;cases b;rw[f];rfl
  ·right
   have D:=x;rw[f] at D;have b:=run_append_grow (P:=P) w t y e i z o g r ⟨g',0,O⟩ n cap xs D.1 (World.ownsRow.cells D rfl) a m c s l p al al (QL al B9);rw[h] at b;cases b;intro k q;cases q;exact ak _
theorem ajK {F:Fence} {P:Program} (w:wA) {o:Oper} {a:Act}
  (B6:o.guard=O) (s x:Operand) (t:TypeId) (h:o.op=Op.call {callee:=Callee.builtin Builtin.append,args:= #[s,x],argTypes:= #[t,t]})
  (base:Nat) (e:TypeId) (i:TypeInfo) (z:wQ) (b y:Nat) (h1:P.underlying t=I (.slice e)) (p:P.info? e=I i) (q:i.zero=I z) (r:i.size=b) (A:i.bytes=y) (D:z.cells.size=b) (B9:0<b)
  (v:wQ) (k:Nat) (xs:List wQ) (hs:a.eval s=v) (Y:w.ownsRow base e b v k xs) (f:Addr) (m c:Nat) (d:List wQ) (B2:a.eval x=J (I f) m c) (M:Z d=m*b)
  (B7:∀j u,d[j]? =I u ->AJ w (f.add j)=I u) (U:∀u∈d,u.oneCell'=xq) (g:k+m<=maxLen) (b2:(k+m)*y<=140737488355328) (l:base<=w.heap.size) (L:0<m)
  (H:∀v' w',w'.ownsRow base e b v' (k+m) (xs++d) ->w.grownBy w' v.ownBlock ->(v'.ownBlock=v.ownBlock∨∀k,v'.ownBlock=I k ->w.heap.size<=k) ->wpListIn F n P ops Q rest (a.put o.dst v') w'):
  wpListIn F n P ops Q (o::rest) a w:=by
 refine wpListIn_plain B6 fun K V=>?_;obtain⟨v',w',B1,R,S,T⟩:=WR (P:=P) w base t o.type e i z b y h1 p q r A D B9 v k xs Y f m c d M B7 U g b2 l L;unfold Oper.wpIn;refine⟨?_,?_⟩
 ·simp[Oper.about,h,resolve,Target.leads,zi]
 ·rw[Oper.semAt_plain F _ _ (by rw[h];intro c X;cases X)];simp[execOp,h,resolve,invoke,builtin,hs,B2,B1,Result.andThen];exact V _ _ (H v' w' R S T)
def uM:List (Nat×Bool) ->List wQ
 |[]=>[]
 |p::l=>E yR (p.1:Nat)::zd p.2::uM l
theorem aay:∀l,Z (uM l)=Z l*2
 |[]=>rfl
 |p::l=>by
  show Z (uM l)+1+1=(Z l+1)*2;rw[aay l];omega
theorem aaz (m:List (Nat×Bool)):∀l,uM (l++m)=uM l++uM m
 |[]=>rfl
 |q::l=>by
  show _::_::uM (l++m)=_::_::(uM l++uM m);rw[aaz m l]
def xJ (w:wA) (B:Nat) (v:wQ) (l:List (Nat×Bool)):Prop:=w.ownsRow B 243 2 v (Z l) (uM l)
theorem Tryz.infoComing:(prog.info? 243).map (fun i=>(i.zero,i.size,i.bytes))=I (I (zp #[E yR 0,zd x3]),2,16):=ao
def G9 (w V:wA) (lv v:wQ):Prop:=w.grownBy V lv.ownBlock/\(v.ownBlock=lv.ownBlock∨∀g,v.ownBlock=I g ->w.heap.size<=g)
theorem anl {β:Type} {row:Option Nat} {B:Nat} (b:w.heap.size<=B):OwnFrom B (fun (_:β) W=>w.grownBy W row):=fun _ W W' r hs g a=>⟨g.os.trans hs.os,g.tape.trans hs.tape,g.output.trans hs.output,aO hs.size g.size,fun k h n=>(g.block k (aT h hs.size) (fun e=>by
 have:=(a k e.symm).1;omega)).trans (hs.block k h n)⟩
theorem aj8 (w:wA) (a b:wQ) (t:TypeId):∀j u,[a,b][j]? =I u ->AJ (AC w (yd #[a,b] t)) ((⟨w.heap.size,0,O⟩:Addr).add j)=I u:=fun j u c=>by
 have h:=dU w (yd #[a,b] t);match j,c with
 |0,c=>cases c;exact(a8 _ w.heap.size 0 _ _ (0,0) h).trans rfl
 |1,c=>cases c;exact(a8 _ w.heap.size 1 _ _ (0,0) h).trans rfl
 |j+2,c=>simp at c
theorem G9.more {V:wA} {l v:wQ} {m:Obj} (h:G9 w V l v) (c:(V.alloc m).grownBy V' v.ownBlock) (n:v'.ownBlock=v.ownBlock∨∀k,v'.ownBlock=I k ->(V.alloc m).heap.size<=k) (b j:Nat) (p:w.heap.size<=b) (y:wQ):G9 w (AF V' ⟨b,j,O⟩ y) l v':=by
 have hs:=h.1.size;have f:V.heap.size<=(V.alloc m).heap.size:=((aw V.heap.size V).alloc (ak _) m).size;refine⟨⟨c.os.trans h.1.os,c.tape.trans h.1.tape,c.output.trans h.1.output,aO (aO hs f) (aO c.size aE),fun k o d=>?_⟩,?_⟩
 ·refine(eO V' ⟨b,j,O⟩ y k (by show k≠b;omega)).trans ((c.block k al fun e=>?_).trans ((((aw V.heap.size V).alloc (ak _) m).block k al).trans (h.1.block k o d)));rcases h.2 with a |a
  ·exact d (by rw[e,a])
  ·have:=a k e.symm;omega
 ·rcases n with n |n
  ·rcases h.2 with a |a
   ·exact yp (n.trans a)
   ·exact xS fun g i=>a g (by rw[<- n];exact i)
  ·exact xS fun g i=>by
    have:=n g i;omega
theorem aau (B:Nat) (t:wQ) (l:List (Nat×Bool)) (s:Jp) (c:Bool) (w:wA) (hs:∀u∈s,u<8) (y:xJ w B t l) (dK:Z l<=1000) (H:B<=w.heap.size):
  c6 221 #[t,E yW (aB s:Nat),zd c] w fun e w'=>∃v,e=yk v/\xJ w' B v (l++(bX s 8).map fun u=>(u,c))/\G9 w w' t v:=by
 refine(jg (n:=6)).1 ?_;obtain⟨B1,X,aq,ar,av⟩:=eo Tryz.infoComing
 obtain⟨b,nl,a,rfl⟩:∃d n c,t=J d n c:=by
  rcases y.2 with ⟨x, -⟩ |⟨g,cap,az,x, -⟩
  ·exact⟨_,_,_,x⟩
  ·exact⟨_,_,_,x⟩
 refine wF func221 rfl trivial ?_ rfl;simp only[ntmps221,mX,dX,mo,Nat.reduceAdd,Nat.reduceSub,o8,o7,o6,oB,iH,gC];have R:=Fa y;clear y;gi_wp2_with fail
 have S:=bE w 240 (J b nl a);have ab:=S.alloc (yd #[zd c] 4);have F:=bE (AC w (yd #[J b nl a] 240)) 4 (zd c);have P:=(aw w.heap.size w).alloc (ak _) (yd #[J b nl a] 240);have B2:(AC w (yd #[J b nl a] 240)).heap.size=w.heap.size+1:=aE
 have i:=P.alloc P.size (yd #[zd c] 4);rw[B2] at F;have af:w.grownBy (AC (AC w (yd #[J b nl a] 240)) (yd #[zd c] 4)) (Value.slice b nl a).ownBlock:=⟨i.os,i.tape,i.output,i.size,fun k j _=>i.block k j⟩
 refine E4 al s hs rfl rfl
  (fun k V=>(∃v,Boxed V w.heap.size 240 v/\V.ownsRow B 243 2 v (Z (l++(bX s k).map fun u=>(u,c))) (uM (l++(bX s k).map fun u=>(u,c)))/\(v.ownBlock=(Value.slice b nl a).ownBlock∨∀g,v.ownBlock=I g ->w.heap.size<=g))/\Boxed V (w.heap.size+1) 4 (zd c)/\w.grownBy V (Value.slice b nl a).ownBlock)
  (gJ (iF (holdsRow_own B w.heap.size 240 243 2 (fun k:Nat=>Z (l++(bX s k).map fun u=>(u,c))) (fun k=>uM (l++(bX s k).map fun u=>(u,c))) (fun _ v=>v.ownBlock=(Value.slice b nl a).ownBlock∨∀g,v.ownBlock=I g ->w.heap.size<=g)) _) (gJ (iF (kL (w.heap.size+1) 4 (fun _:Nat=>zd c)) _) (anl i.size)))
  ⟨⟨_,ab,by simpa [bX] using (He (He R.o _) _),yp rfl⟩,F,af⟩
  (fun k=> {tmps:= #[J b nl a,E yW (aB s:Nat),zd c,zZ (I ⟨w.heap.size,0,O⟩),wd,zZ (I ⟨w.heap.size+1,0,O⟩),J O 0 0,E yR (k:Nat),E yW (aB s:Nat),.func (.func 182) #[E yW (aB s:Nat)] #[],E yR (k:Nat),wd,wd,wd,wd,wd,wd,wd],defers:=[]}) ?assign ?body ?skip ?done
 case assign=>
  intro l k W K p;gi_wp2
  exact p
 case body=>
  rintro r k V j z ⟨⟨v,q,m,Y⟩,B7,f⟩;have U:=q.cell;have aR:=B7.cell;have aW:=lS s k;have aZ:Z (l++(bX s k).map fun u=>(u,c))<=1008:=by rw[cD,dm];omega
  have ae:B<=V.heap.size:=aO H f.size;have Q:G9 w V (Value.slice b nl a) v:=⟨f,Y⟩;generalize Lp:(l++(bX s k).map fun u=>(u,c))=L at *;gi_wp2_with (gi_at_builtin;refine ajK _ rfl _ _ 240 rfl B 243 B1 (zp #[E yR 0,zd x3]) 2 16 underlying240 X aq ar av rfl a6 _ _ _ rfl (m.alloc _) ⟨V.heap.size,0,O⟩ 1 1 [E yR (k:Nat),zd c] rfl rfl (aj8 _ _ _ _) (by simp[Value.oneCell']) (by unfold maxLen;omega) al (by simp;omega) a6 ?_;intro v' w3 M A ay;obtain⟨g',ax,rfl⟩:=ownsRow_succ M;obtain⟨B6,ao,an,ai,aJ⟩:=q.appended a6 m ae H M A;have aM:=B6.cell;have BV:=B6.frozen)
  have aa:Boxed w3 (w.heap.size+1) 4 (zd c):=(B7.alloc _).kept A (B7.not_row a6 m);have B9:=Q.more A ay w.heap.size 0 (ak _) (J (I ⟨g',0,O⟩) (Z L+1) ax);have ad:(l++(bX s (k+1)).map fun u=>(u,c))=L++[(k,c)]:=by rw[Sw z,gK, <- qj,Lp];rfl
  refine⟨ai.from _,⟨⟨_,ao,?_,B9.2⟩,kH aa w.heap.size 0 _ al,B9.1⟩⟩;rw[ad,cD,aaz];exact an
 case skip=>
  rintro k V j z h;rwa [NQ z]
 case done=>
  rintro D V T ⟨⟨v,q,m,Y⟩,B7,f⟩ p;have U:=q.cell;gi_wp2
  refine⟨aE,yp ⟨_,_,rfl,CM p,?_⟩⟩;refine⟨_,CN rfl _ _ _,v,rfl,ownsRow_putObj m _ p rfl,⟨f.os,f.tape,f.output,aO f.size aE,fun k j aj=>(zh (by simp at T;omega)).trans (f.block k j aj)⟩,Y⟩
end
variable {kl:Nat×Bool ->Lit}
def Df (p:Nat×Bool):Value:=zp #[E yR (p.1:Nat),zd p.2]
theorem apv:laidOutB prog=true:=ao
theorem NV:Maps.Keyed prog 243:=Maps.Keyed.of_law (deep_law_laid apv (m:=3) a6 (mS ao) ao ao)
theorem apy (v:Nat) (c:Bool) (a:v<8):(keyOf prog 243 (Df (v,c))).isSome=true:=by
 have h:v=0∨v=1∨v=2∨v=3∨v=4∨v=5∨v=6∨v=7:=al
 rcases h with rfl |rfl |rfl |rfl |rfl |rfl |rfl |rfl
 all_goals
  cases c
  all_goals exact mS ao
theorem apz:∃kl:Nat×Bool ->Lit,∀p:Nat×Bool,p.1< 8 ->keyOf prog 243 (Df p)=I (kl p):=by
 refine⟨fun p=>(keyOf prog 243 (Df p)).getD (.bool x3),fun p a=>?_⟩;obtain⟨l,h⟩:=Option.isSome_iff_exists.1 (apy p.1 p.2 a);have b:keyOf prog 243 (Df p)=I l:=h;show _=I ((keyOf prog 243 (Df p)).getD (.bool x3));rw[b];rfl
theorem key_inj (k:∀p:Nat×Bool,p.1< 8 ->keyOf prog 243 (Df p)=I (kl p)) {p q:Nat×Bool} (d:p.1<8) (f:q.1<8) (h:kl p=kl q):p=q:=by
 have a:=k p d;have c:=k q f;rw[h] at a;have e:=NV.inj a c;obtain⟨g,l⟩:=p;obtain⟨i,m⟩:=q;simp only[Df,Value.agg.injEq,Array.mk.injEq,List.cons.injEq,Value.int.injEq,Value.bool.injEq,true_and,and_true] at e;obtain⟨j,b⟩:=e;have:g=i:=al
 rw[this,b]
structure CJ (kl:Nat×Bool ->Lit) (W:wA) (b:Nat) (S:List (Nat×Bool)) (D:DataW Unit):Prop where
 own:W.ownsMap prog 243 (unitElem (H:=Unit)) b (Z S) D
 has:∀p:Nat×Bool,p.1< 8 ->Maps.has D (kl p)=decide (p∈S)
theorem CJ.new (kl:Nat×Bool ->Lit) (w:wA):CJ kl (w.alloc (.map #[] 0)) w.heap.size [] (.map []):=⟨World.ownsMap_made w _ _ _,fun _ _=>rfl⟩
theorem CJ.put (k:∀p:Nat×Bool,p.1< 8 ->keyOf prog 243 (Df p)=I (kl p)) {W:wA} {b:Nat} {S:List (Nat×Bool)} {D:DataW Unit} (h:CJ kl W b S D) {p:Nat×Bool} (c:p.1<8) {d:DataW Unit} (g:W'.ownsMap prog 243 (unitElem (H:=Unit)) b (Z S+1) (D.put (kl p) d)):CJ kl W' b (p::S) (D.put (kl p) d):=by
 refine⟨g,fun q f=>?_⟩;by_cases e:kl q=kl p
 ·have a:=key_inj k f c e;rw[a,Maps.has_put_same h.own.isMap (NV.key (k p c)),cJ dA]
 ·rw[Maps.has_put_other e,h.has q f];refine EO.2 ⟨dL _,fun m=>?_⟩;rcases bU.1 m with a |m
  ·exact absurd (by rw[a]) e
  ·exact m
theorem CJ.kept {W:wA} {b:Nat} {S:List (Nat×Bool)} {D:DataW Unit} (h:CJ kl W b S D) {row:Option Nat} (g:W.grownBy W' row) (e:I b≠row):CJ kl W' b S D:=⟨h.own.kept g e,h.has⟩
variable {an:Jp}
def Fc (P:List Jp) (n:Nat) (z an:Jp) (p:Nat×Bool):List (Nat×Bool):=
 (if (p.2&&!decide (p.1∈z) ||!p.2&&decide (p.1∈an))=xq then(bX (P.getD p.1 []) 8).map fun u=>(u,xq) else[])++(if p.1∈z then[] else(bX (eY P p.1 n) 8).map fun u=>(u,x3))
structure sW (P:List Jp) (n:Nat) (x y z an:Jp) (S W:List (Nat×Bool)):Prop where
 low:∀p,p∈S∨p∈W ->p.1<n/\iN (fun u v=>u∈P.getD v []) (·∈x) (·∈z) (·∈an) p.1 p.2
 nd:S.Nodup
 noy:∀p∈S,¬p.1∈y
 suc:∀p∈S,∀q∈Fc P n z an p,q∈S∨q∈W
 start:∀v∈x,(v,xq)∈S∨(v,xq)∈W
 len:Z W<=8+16*Z S
theorem sW.new {x y z:Jp} (b:∀v∈x,v<n) (c:n<=8):sW P n x y z an [] ((bX x 8).map fun u=>(u,xq)):=by
 refine⟨fun p h=>?_,JT,(fun p h=>by cases h),(fun p h=>by cases h),fun v a=>xS (aQ.2 ⟨v,vu.2 ⟨by have:=b v a;omega,a⟩,rfl⟩),?_⟩
 ·rcases h with h |h
  ·cases h
  ·obtain⟨v,a,rfl⟩:=aQ.1 h;exact⟨b v (vu.1 a).2,.start (vu.1 a).2⟩
 ·have:=lS x 8;rw[dm,mo];omega
theorem sW.skip {x y z:Jp} {S T:List (Nat×Bool)} {p:Nat×Bool} (h:sW P n x y z an S (T++[p])) (c:p∈S):sW P n x y z an S T:=by
 have b:∀q,q∈S∨q∈T++[p] ->q∈S∨q∈T:=fun q a=>by
  rcases a with a |a
  ·exact yp a
  ·rcases bH.1 a with a |a
   ·exact xS a
   ·rw[bD.1 a];exact yp c
 refine⟨fun q a=>h.low q (a.imp id fun a=>AY _ a),h.nd,h.noy,fun q a r d=>b r (h.suc q a r d),fun v e=>b _ (h.start v e),?_⟩;have:=h.len;rw[cD,Hl] at this;omega
theorem sW.add {x y z:Jp} (k:∀v,∀u∈P.getD v [],u<n/\v<n) {S T:List (Nat×Bool)} {p:Nat×Bool} (h:sW P n x y z an S (T++[p])) (m:¬p∈S) (t:¬p.1∈y):sW P n x y z an (p::S) (T++Fc P n z an p):=by
 obtain⟨D,i⟩:=h.low p (xS (JU _ dA))
 have s:∀q,q∈S∨q∈T++[p] ->q∈p::S∨q∈T++Fc P n z an p:=fun q a=>by
  rcases a with a |a
  ·exact yp (dL _ a)
  ·rcases bH.1 a with a |a
   ·exact xS (AY _ a)
   ·rw[bD.1 a];exact yp dA
 have A:∀q∈Fc P n z an p,q.1<n/\iN (fun u v=>u∈P.getD v []) (·∈x) (·∈z) (·∈an) q.1 q.2:=fun q a=>by
  rcases bH.1 a with a |a
  ·by_cases d:(p.2&&!decide (p.1∈z) ||!p.2&&decide (p.1∈an))=xq
   ·rw[aA d] at a;obtain⟨u,f,rfl⟩:=aQ.1 a;have w:=(vu.1 f).2;refine⟨(k _ _ w).1,?_⟩;obtain⟨v,c⟩:=p;cases c with
    |true=>
     (have b:¬v∈z:=fun b=>by simp[b] at d);exact .up i b w
    |false=>
     (have l:v∈an:=by simpa using d);exact .meet i l w
   ·rw[aD d] at a;cases a
  ·by_cases b:p.1∈z
   ·rw[aA b] at a;cases a
   ·rw[aD b] at a;obtain⟨u,f,rfl⟩:=aQ.1 a;obtain⟨e,g⟩:=Gj.1 (vu.1 f).2;exact⟨e,.down i b g⟩
 refine⟨fun q a=>?_,mY.2 ⟨m,h.nd⟩,fun q a=>?_,fun q a r j=>?_,fun v o=>s _ (h.start v o),?_⟩
 ·rcases a with a |a
  ·rcases bU.1 a with rfl |a
   ·exact⟨D,i⟩
   ·exact h.low q (yp a)
  ·rcases bH.1 a with a |a
   ·exact h.low q (xS (AY _ a))
   ·exact A q a
 ·rcases bU.1 a with rfl |a
  ·exact t
  ·exact h.noy q a
 ·rcases bU.1 a with rfl |a
  ·exact xS (JU _ j)
  ·exact s r (h.suc q a r j)
 ·have e:=h.len
  have g:Z (Fc P n z an p)<=16:=by
   have B9:=lS (P.getD p.1 []) 8;have F:=lS (eY P p.1 n) 8;rw[Fc,cD];split<;>split<;>simp only[dm,mo]<;>omega
  rw[cD,Hl] at e;rw[cD,dX];omega
theorem sW.fin {x y z:Jp} (b:∀v,∀u∈P.getD v [],u<n/\v<n) (f:n<=8) {S:List (Nat×Bool)} (h:sW P n x y z an S []):¬∃v c,v∈y/\iN (fun u v=>u∈P.getD v []) (·∈x) (·∈z) (·∈an) v c:=by
 have k:∀v c,iN (fun u v=>u∈P.getD v []) (·∈x) (·∈z) (·∈an) v c ->(v,c)∈S:=fun v c r=>by
  have s:∀p q,p∈S ->q∈Fc P n z an p ->q∈S:=fun p q a d=>(h.suc p a q d).elim id fun h=>by cases h
  induction r using iN.ind with
  |start hx=>exact(h.start _ hx).elim id fun h=>by cases h
  | @up v p _ hz a ih=>exact s _ _ ih (AY _ (by
    rw[aA (by simp[hz])];exact aQ.2 ⟨p,vu.2 ⟨by have:=(b _ _ a).1;omega,a⟩,rfl⟩))
  | @down v w c _ hz a ih=>exact s _ _ ih (JU _ (by
    rw[aD hz];exact aQ.2 ⟨w,vu.2 ⟨by have:=(b _ _ a).2;omega,Gj.2 ⟨(b _ _ a).2,a⟩⟩,rfl⟩))
  | @meet v p _ ha a ih=>exact s _ _ ih (AY _ (by
    rw[aA (by simp[ha])];exact aQ.2 ⟨p,vu.2 ⟨by have:=(b _ _ a).1;omega,a⟩,rfl⟩))
 rintro⟨v,c,e,r⟩;exact h.noy _ (k v c r) e
theorem sW.few {x y z:Jp} {S W:List (Nat×Bool)} (h:sW P n x y z an S W) (k:n<=8):Z S<=16:=by
 have B7:(S.map fun p=>p.1*2+(if p.2=xq then 1 else 0)).Nodup:=CS.2 (h.nd.imp fun {a b} g e=>g (by
  obtain⟨i,c⟩:=a;obtain⟨j,b2⟩:=b;cases c<;>cases b2<;>simp at e⊢<;>omega))
 have:=Fm B7 (m:=List.range 16) fun v f=>by
  obtain⟨p,d,rfl⟩:=aQ.1 f;have:=(h.low p (yp d)).1;refine bR.2 ?_;split<;>omega
 simpa using this
theorem XQ {l:Jp}:aB l=0↔∀v,¬v∈l:=by
 constructor
 ·intro h v b;have:=qD l v;rw[h,Nat.zero_testBit,cJ b] at this;cases this
 ·intro h;have:aB l=aB []:=Sr fun x=>⟨fun a=>absurd a (h x),fun a=>by cases a⟩;rw[this];rfl
theorem A8 (h:Up l n):l.Nodup:=zo.2 fun i j b a r=>by
 have:=h.lt i j a r;omega
theorem Kf (h:Up l n) {x:Int} (b:x∈l):0<=x/\x<n:=by
 obtain⟨j,a,rfl⟩:=iQ b;exact h.each j a
theorem Wh (h:Up l n) {x:Int} (b:0<=x):x.toNat∈ag l↔x∈l:=by
 constructor
 ·intro m;obtain⟨y,a,e⟩:=aQ.1 m;have:=Kf h a;rwa [show x=y by omega]
 ·exact fun m=>aQ.2 ⟨x,m,rfl⟩
theorem tA (h:Up l n):∀u∈ag l,u<n:=fun u a=>by
 obtain⟨y,b,rfl⟩:=aQ.1 a;have:=Kf h b;omega
theorem aaM {a b:Kx} (d:Up a n) (e:Up b n):(∀x∈a,∀y∈b,x≠y)↔aB ((ag a).filter fun x=>decide (x∈ag b))=0:=by
 rw[XQ];constructor
 ·intro h v j;obtain⟨f,g⟩:=cU.1 j;obtain⟨x,c,rfl⟩:=aQ.1 f;have i:=(Wh e (Kf d c).1).1 (mS g);exact h x c x i rfl
 ·rintro h x c y k rfl;exact h x.toNat (cU.2 ⟨(Wh d (Kf d c).1).2 c,cJ ((Wh e (Kf d c).1).2 k)⟩)
theorem aiF {x y z:Kx} (r:k5 [x,y,z] n=xq):js n [x,y,z]=xq↔aB ((ag x).filter fun v=>decide (v∈ag y))=0/\aB ((ag x++ag y).filter fun v=>decide (v∈ag z))=0:=by
 have i:Up x n:=mC (fG.1 r x aE);have j:Up y n:=mC (fG.1 r y aE);have k:Up z n:=mC (fG.1 r z aE)
 have e:aB ((ag x++ag y).filter fun v=>decide (v∈ag z))=0↔aB ((ag x).filter fun v=>decide (v∈ag z))=0/\aB ((ag y).filter fun v=>decide (v∈ag z))=0:=by
  simp only[XQ,x5,bH,not_or];exact⟨fun h=>⟨fun v=>(h v).1,fun v=>(h v).2⟩,fun h v=>⟨h.1 v,h.2 v⟩⟩
 rw[e, <- aaM i j, <- aaM i k, <- aaM j k,js,r,Hp,eM];simp only[MR,MQ,lh,oh,bH];constructor
 ·rintro⟨_,⟨_,_,g⟩,f⟩;exact⟨fun a c b d=>f a c b (yp d),fun a c b d=>f a c b (xS d),g⟩
 ·rintro⟨g,f,l⟩;exact⟨A8 i,⟨A8 j,A8 k,l⟩,fun a c b d=>d.elim (g a c b) (f a c b)⟩
theorem L0 (h:bq L=0) (d:Z L<=8) {s:Jp} (hs:∀v∈s,v<Z L) (u:Nat):xF L u s=xq↔u∈dG (aI L) s (Z L):=by
 rw[PJ h d hs,xF,rV];exact⟨fun ⟨b,a,c⟩=>⟨b,a,(aiQ h (hs b a)).1 c⟩,fun ⟨b,a,c⟩=>⟨b,a,(aiQ h (hs b a)).2 c⟩⟩
theorem ade {a n:Nat ->Prop} (z:∀v,B1 v↔a v) (b:∀v,An v↔n v) {c:Bool} (h:iN Pa X B1 An v c):iN Pa X a n v c:=by
 induction h using iN.ind with
 |start hx=>exact .start hx
 |up _ h1 h2 ih=>exact .up ih (fun e=>h1 ((z _).2 e)) h2
 |down _ h1 h2 ih=>exact .down ih (fun e=>h1 ((z _).2 e)) h2
 |meet _ h1 h2 ih=>exact .meet ih ((b _).1 h1) h2
theorem aep (h:bq L=0) (d:Z L<=8) {x y z:Kx} (p:js (Z L) [x,y,z]=xq):wT L x y z=xq↔∃v c,v∈ag y/\iN (fun u v=>u∈(aI L).getD v []) (·∈ag x) (·∈ag z) (·∈dG (aI L) (ag z) (Z L)) v c:=by
 have r:k5 [x,y,z] (Z L)=true:=by
  rw[js,iI] at p;exact p.1
 have k:Up x (Z L):=mC (fG.1 r x aE);have o:Up z (Z L):=mC (fG.1 r z aE);have l:=tA o;have q:=(vR h).1;have m:=((aiF r).1 p).2;rw[XQ] at m
 have j:∀u v,u∈(aI L).getD v [] ->xF L v (ag z)=xq ->xF L u (ag z)=true:=fun u v e f=>by
  rw[L0 h d l,PJ h d l] at f⊢;obtain⟨b,i,a⟩:=f;rcases a with rfl |a
  ·exact⟨v,i,xS (.one e)⟩
  ·refine⟨b,i,xS ?_⟩;clear i;induction a using fQ.ind with
   |one hp=>exact .more (.one e) hp
   |more _ hp ih=>exact .more ih hp
 have t:=anI (P:=aI L) (n:=L.length) (yb:=fun v=>decide (v∈ag y)) (zb:=fun v=>decide (v∈ag z)) (an:=fun v=>xF L v (ag z)) (X:=(·∈ag x))
  (fun v f=>cT fun s=>m v (cU.2 ⟨AY _ f,cJ s⟩)) (atQ h) j (fun v u e=>KF q e) (tA k)
 rw[wT,rV];refine Iff.trans t ⟨?_,?_⟩
 ·rintro⟨v,c,a,g⟩;exact⟨v,c,mS a,ade (fun v=>eM) (fun v=>L0 h d l v) g⟩
 ·rintro⟨v,c,a,g⟩;exact⟨v,c,cJ a,ade (fun v=>eM.symm) (fun v=>(L0 h d l v).symm) g⟩
variable {Ls:List Kx} {B7:Kx}
theorem anC {r:Nat ->Nat} (c:∀v,∀u∈P.getD v [],u<Z P/\r u<r v):Z (bc P (Z P))=Z P:=by
 have t:∀k,k<=Z P ->Z (bc P k)=k:=fun k=>by
  induction k with
  |zero=>intro _;rfl
  |succ k ih=>
   intro w;have l:=ih al
   have x:∃v,v<Z P/\¬v∈bc P k:=by
    refine zq fun o=>?_;have s:∀v∈List.range (Z P),v∈bc P k:=fun v a=>zq fun h=>o ⟨v,bR.1 a,h⟩;have:=Fm rh s;rw[A0,l] at this;omega
   have j:∀m v,r v<=m ->v<Z P ->¬v∈bc P k ->∃v',v'<Z P/\iZ P (bc P k) v'=true:=fun m=>by
    induction m with
    |zero=>
     intro v g a n;refine⟨v,a,?_⟩;rw[iZ,cT n,cJ (fun u b=>by have:=(c v u b).2;omega)];rfl
    |succ m NZ=>
     intro v g a n;by_cases d:∀u∈P.getD v [],u∈bc P k
     ·exact⟨v,a,by rw[iZ,cT n,cJ d];rfl⟩
     ·obtain⟨u,b⟩:=Classical.not_forall.1 d;obtain⟨i,p⟩:=Classical.not_imp.1 b;have:=c v u i;exact NZ u al this.1 p
   obtain⟨v,a,n⟩:=x;obtain⟨v',q,f⟩:=j (r v) v (ak _) a n;rw[bc];cases e:sk P (bc P k) with
   |none=>
    rw[sk,VY] at e;exact absurd f (e v' (bR.2 q))
   |some u=>
    show Z (bc P k++[u])=_;rw[cD,l];rfl
 exact t _ (ak _)
theorem Hs (a:Up l n):dZ l n=true:=by
 rw[dZ,fG];intro i b;have h:=bR.1 b;rw[mE,eM,getD_eq h];refine⟨(a.each i h).1,(a.each i h).2,fun c=>?_⟩;rw[getD_eq (show i - 1<Z l by omega)];exact a.lt (i - 1) i h al
theorem up_sub {m:Kx} (h:Up m n) (hs:l.Sublist m):Up l n:=by
 rw[dY] at h⊢;exact⟨fun x a=>h.1 x (hs.subset a),h.2.sublist hs⟩
theorem getD_at {α:Type} {L:List (List α)} (h:v<Z L):L.getD v []=L[v]:=by rw[cK,ba h];rfl
theorem ag5 {L':List Kx} (h:bq L=0) (k:Z L'=Z L) (hs:∀v,v<Z L ->(L'.getD v []).Sublist (L.getD v [])):bq L'=0:=by
 have g:=(vR h).1;obtain⟨p,q,r,s⟩:=mK g;have f:∀v,v<Z L ->Up (L.getD v []) (Z L):=fun v b=>by rw[getD_at b];exact mC (Ux r b)
 have A:gB L'=true:=ag6 al al fun i j=>by
  have d:i<Z L:=al
  have S:=hs i d;have a:=up_sub (f i d) S;rw[getD_at j] at a S;refine⟨by rw[k];exact Hs a,fun m=>?_⟩
  have D:¬i∈ag (L.getD i []):=fun n=>by
   have:=fG.1 s i (bR.2 d);rw[cJ n] at this;cases this
  refine D ?_;obtain⟨x,c,e⟩:=aQ.1 m;exact aQ.2 ⟨x,S.subset c,e⟩
 have z:∀v,∀u∈(aI L').getD v [],u<Z (aI L')/\qA (aI L) u<qA (aI L) v:=fun v u a=>by
  have l:=KF A a;have b:v<Z L:=al
  have m:u∈(aI L).getD v []:=by
   rw[H5 l.2, <- getD_at l.2] at a;rw[H5 b, <- getD_at b];obtain⟨x,c,e⟩:=aQ.1 a;exact aQ.2 ⟨x,(hs v b).subset c,e⟩
  exact⟨by rw[kp];exact l.1,Hz h m⟩
 have o:=anC z;rw[kp] at o;rw[bq,aA A,aD al]
def uL (L:List Kx) (B7 F:Kx) (v:Nat):Kx:=if (v:Int)∈B7 then[] else(L.getD v []).filter fun u=>decide (¬u∈F)
def j6 (L:List Kx) (B7 F:Kx):List Kx:=(List.range (Z L)).map (uL L B7 F)
theorem I7 (L:List Kx) (B7 F:Kx):Z (j6 L B7 F)=Z L:=by simp[j6]
theorem ahY {F:Kx} (h:v<Z (j6 L B7 F)):(j6 L B7 F)[v]=uL L B7 F v:=by simp[j6]
theorem ahX (L:List Kx) (B7 F:Kx) (v:Nat):(uL L B7 F v).Sublist (L.getD v []):=by
 rw[uL];split
 ·exact List.nil_sublist _
 ·exact JY
theorem aar (h:bq L=0) (B7 F:Kx):bq (j6 L B7 F)=0:=ag5 h (I7 L B7 F) fun v b=>by
 have a:v<Z (j6 L B7 F):=by rw[I7];exact b
 rw[getD_at a,ahY a];exact ahX L B7 F v
theorem asy {F:Kx} (h:∀l∈L,Z l<=n):∀l∈j6 L B7 F,Z l<=n:=fun l c=>by
 obtain⟨v,d,rfl⟩:=aQ.1 c;have a:=bR.1 d;have b:=(ahX L B7 F v).length_le;have e:=h _ (bQ a);rw[getD_at a] at b;omega
theorem aaq (L:List Kx) (F:Kx) (v:Nat):uL L [] F v=(L.getD v []).filter fun u=>decide (¬u∈F):=by
 rw[uL];simp
def jX (L Ls:List Kx):Int:=if bq L=0 then(if js (Z L) Ls=xq then 0 else 11) else bq L
theorem D9:js n Ls=xq↔(∀l∈Ls,dZ l n=xq)/\Ls.flatten.Nodup:=by
 rw[js,iI,eM,k5,fG]
theorem acD (h:jX L Ls=0):bq L=0/\js (Z L) Ls=true:=by
 rw[jX] at h;by_cases g:bq L=0
 ·rw[aA g] at h;refine⟨g,?_⟩;by_cases a:js (Z L) Ls=xq
  ·exact a
  ·rw[aD a] at h;exact absurd h a6
 ·rw[aD g] at h;exact absurd h g
theorem ahk (P:List Jp) (n:Nat):∀k,(bP P n k).ord=(List.range k).map (mD P n)
 |0=>rfl
 |k+1=>by rw[xZ,gK, <- ahk P n k];rfl
theorem an5 (g:gB L=xq):wV L=xq↔∀v u,v<Z L ->u<Z L ->(decide (u∈(aI L).getD v [])=decide (v∈(aI L).getD u [])):=by
 rw[wV,g,Hp,eM,Ih];have l:∀v,v<Z L ->v<Z (aI L):=fun v a=>by rw[kp];exact a
 have m:=KE g
 have t:∀v,v<Z L ->∀u,u∈(aI L).getD v [] ->u<Z L:=fun v a u b=>by
  rw[cK,ba (l v a)] at b;exact m _ (bQ (l v a)) u b
 have k:∀v,v<Z L ->((((aI L).map aB)[v]? =((lY (aI L) (Z L) (Z L)).map aB)[v]?)↔∀u,u<Z L ->(decide (u∈(aI L).getD v [])=decide (v∈(aI L).getD u []))):=fun v a=>by
  have d:((aI L).map aB)[v]? =I (aB ((aI L).getD v [])):=by rw[mr,cK,ba (l v a)];rfl
  have f:((lY (aI L) (Z L) (Z L)).map aB)[v]? =I (aB (eY (aI L) v (Z L))):=by simp[lY,a]
  rw[d,f];constructor
  ·intro e u b;have c:=kg e;have i:=qD ((aI L).getD v []) u;have j:=qD (eY (aI L) v (Z L)) u;rw[<- i,c,j,EO,Gj];exact⟨fun h=>h.2,fun h=>⟨b,h⟩⟩
  ·intro h;congr 1
   refine Sr fun u=>?_;rw[Gj];constructor
   ·intro b;have:=t v a u b;exact⟨this,(EO.1 (h u this)).1 b⟩
   ·exact fun b=>(EO.1 (h u b.1)).2 b.2
 constructor
 ·intro e v u a b;exact(k v a).1 (by rw[e]) u b
 ·intro h;refine MT fun v=>?_;rcases dR v (Z L) with a |a
  ·exact(k v a).2 fun u b=>h v u a b
  ·rw[jw (by rw[dm,kp];exact a),jw (by rw[dm,aaB];exact a)]
theorem alX (p:Nat ->Bool) (n:Nat):dZ (iL ((List.range n).filter p)) n=true:=by
 have hs:((List.range n).filter p).Pairwise (·<·):=List.Pairwise.filter _ List.pairwise_lt_range;refine fG.2 fun i a=>?_;have h:i<Z ((List.range n).filter p):=by rw[bR,bM] at a;exact a
 have g:∀j (b:j<Z ((List.range n).filter p)),(iL ((List.range n).filter p)).getD j 0=(((List.range n).filter p)[j]:Int):=fun j b=>by
  rw[cK,iL,mr,ba b];rfl
 refine cJ ⟨?_,?_,fun c=>?_⟩
 ·rw[g i h];omega
 ·rw[g i h];have:=bR.1 (cU.1 (bQ h)).1;omega
 ·rw[g i h,g (i - 1) al];have:=(zo.1 hs) (i - 1) i al h al;omega
def px (L:List Kx):List Kx:=(pw (aI L) (Z L) (Z L)).map fV
theorem Dc (L:List Kx):Z (px L)=Z L:=by simp[px,pw]
theorem aoR (h:v<Z L):(aI (px L)).getD v []=bX (jZ (aI L) v (Z L)) 8:=by
 rw[cK,aI,mr,px,mr,pw,mr,QZ h];show ag (fV _)=_;rw[fV,jL]
theorem XT (g:gB L=xq):∀v,∀u∈(aI L).getD v [],u<Z L/\v<Z L:=fun v u a=>by
 refine⟨(KQ g).at v u a,?_⟩;by_cases h:v<Z L
 ·exact h
 ·rw[cK,jw (by rw[kp];omega)] at a;cases a
theorem Su {u:Nat} (b:Z L<=8) (a:v<Z L) (c:u<Z L):u∈(aI (px L)).getD v []↔u≠v/\∃x,x<Z L/\v∈jR (aI L) x/\u∈jR (aI L) x:=by
 rw[aoR a,vu,NJ];exact⟨fun h=>h.2,fun h=>⟨al,h⟩⟩
theorem ae1 (g:gB L=xq) (h1:1<=Z L) (a:Z L<=8):gB (px L)=true:=by
 refine ag6 (by rw[Dc];exact h1) (by rw[Dc];exact a) fun i b=>?_;have c:i<Z L:=by rwa [Dc] at b
 have e:(px L)[i]=fV (jZ (aI L) i (Z L)):=by simp[px,pw]
 rw[e,Dc];refine⟨?_,?_⟩
 ·rw[<- aoH (XT g) a c];exact alX _ _
 ·rw[fV,jL,vu,NJ];exact fun h=>h.2.1 rfl
theorem aoQ (i:gB L=xq) (h1:1<=Z L) (d:Z L<=8):wV (px L)=true:=by
 refine(an5 (ae1 i h1 d)).2 fun v u g f=>?_;rw[Dc] at g f;rw[EO,Su d g f,Su d f g];exact⟨fun ⟨h,x,a,b,c⟩=>⟨fun e=>h e.symm,x,a,c,b⟩,fun ⟨h,x,a,b,c⟩=>⟨fun e=>h e.symm,x,a,c,b⟩⟩
def jP (L:List Kx):Jp:=(bP (aI (px L)) (Z (px L)) (Z (px L))).ord
theorem aej (k:gB L=xq) (h1:1<=Z L) (d:Z L<=8):aiS (Z L) (mD (aI (px L)) (Z L)) (nrO (aI (px L)) (Z L)):=by
 have g:vX (Z L) (aI (px L)):=by have:=KQ (ae1 k h1 d);rwa [Dc] at this
 refine arL g (fun u i w f=>?_) d;have j:=g.at u w f;rw[Su d i j] at f;rw[Su d j i];obtain⟨h,x,a,b,c⟩:=f;exact⟨fun e=>h e.symm,x,a,c,b⟩
theorem Si (L:List Kx):jP L=(List.range (Z L)).map (mD (aI (px L)) (Z L)):=by rw[jP,Dc,ahk]
theorem ael (g:gB L=xq) (h1:1<=Z L) (h:Z L<=8):(jP L).Nodup:=by
 rw[Si,List.Nodup,CS];refine List.Pairwise.imp_of_mem (fun {i j} a b c e=>?_) (rh (n:=L.length));exact c ((aej g h1 h).inj i j (bR.1 a) (bR.1 b) e)
theorem aem (g:gB L=xq) (h1:1<=Z L) (h:Z L<=8) (b:v<Z L):v∈jP L:=by
 obtain⟨i,a,e⟩:=(aej g h1 h).all v b;rw[Si];exact aQ.2 ⟨i,bR.2 a,e⟩
variable {cb cc:Nat} {a:Kd}
def bL (w:wA) (x y:wQ) (t:Tb):Prop:=∃b c cb cc,x=J b t.1.length cb/\y=J c t.2.length cc/\aC w b t.1/\dE w c t.2/\(b=O ->cb=0)
theorem bL.aa {x:wQ} {t:Tb} (h:bL w x y t) (a:da w w'):bL w' x y t:=by
 obtain⟨b,c,cb,cc,d,e,f,g,i⟩:=h;exact⟨b,c,cb,cc,d,e,f.aa a,g.aa a,i⟩
def jt (w:wA) (a:Kd) (P:List Tb):Prop:=∀k (h:k<Z P),∃g o x y,a=I ⟨g,o,O⟩/\g<w.heap.size/\w.cell? ⟨g,o+k*2,O⟩=I x/\w.cell? ⟨g,o+k*2+1,O⟩=I y/\bL w x y P[k]
theorem jt.aa {P:List Tb} (h:jt w a P) (b:da w w'):jt w' a P:=fun k j=>by
 obtain⟨g,o,x,y,d,c,e,f,i⟩:=h k j;exact⟨g,o,x,y,d,aT c b.size,(b.cell (p:=⟨g,_,O⟩) c).trans e,(b.cell (p:=⟨g,_,O⟩) c).trans f,i.aa b⟩
def fS:List (wQ×wQ) ->List wQ
 |[]=>[]
 |p::l=>p.1::p.2::fS l
theorem Nc:∀l,Z (fS l)=Z l*2
 |[]=>rfl
 |p::l=>by
  show Z (fS l)+1+1=(Z l+1)*2;rw[Nc l];omega
theorem Nd (m:List (wQ×wQ)):∀l,fS (l++m)=fS l++fS m
 |[]=>rfl
 |q::l=>by
  show _::_::fS (l++m)=_::_::(fS l++fS m);rw[Nd m l]
theorem Ro:∀(l:List (wQ×wQ)) (k:Nat) (h:k<Z l),(fS l)[k*2]? =I l[k].1/\(fS l)[k*2+1]? =I l[k].2
 |p::l,0,_=>⟨rfl,rfl⟩
 |p::l,k+1,h=>by
  have:=Ro l k (by simpa using h);rw[show (k+1)*2=k*2+1+1 by omega];exact this
def iC (R:Nat) (t:Tb) (p:wQ×wQ):Prop:=(∀g o n c,p.1=J (I ⟨g,o,O⟩) n c ->t.1≠[] ->g≠R)/\∀g o n c,p.2=J (I ⟨g,o,O⟩) n c ->t.2≠[] ->g≠R
structure nT (w:wA) (B:Nat) (v:wQ) (Q:List (wQ×wQ)) (P:List Tb):Prop where
 len:Z Q=Z P
 own:w.ownsRow B 38 2 v (Z P) (fS Q)
 val:∀k (h:k<Z P) (h':k<Z Q),bL w Q[k].1 Q[k].2 P[k]
 far:∀R,v.ownBlock=I R ->∀k (h:k<Z P) (h':k<Z Q),iC R P[k] Q[k]
theorem nT.nil (w:wA) (B:Nat):nT w B (J O 0 0) [] []:=⟨rfl,⟨rfl,yp ⟨rfl,rfl⟩⟩,(fun k h=>absurd h aE),fun R e=>by cases e⟩
theorem nT.row {B:Nat} {v:wQ} {Q:List (wQ×wQ)} {P:List Tb} (h:nT w B v Q P):∃a c,v=J a (Z P) c/\jt w a P:=by
 rcases h.own.2 with ⟨d,f⟩ |⟨g,cap,t,d,f,i,p,r,s,n⟩
 ·exact⟨O,0,by rw[d,f],fun k b=>absurd b al⟩
 ·refine⟨_,cap,d,fun k b=>?_⟩;have m:k<Z Q:=by rw[h.len];exact b
  obtain⟨q,o⟩:=Ro Q k m;have x:=Nc Q
  have l:∀j u,(fS Q)[j]? =I u ->AJ w ⟨g,j,O⟩=I u:=fun j u e=>by
   rw[a8 w g j _ _ (0,0) i];have B6:=(oA.1 e).1;rw[<- n,tu,aA (by have:=h.len;omega),wM] at e;exact e
  exact⟨g,0,_,_,rfl,(c5.1 i).1,by rw[bK];exact l _ _ q,by rw[bK];exact l _ _ o,h.val k b m⟩
theorem NY {W:wA} {R:Option Nat} {b:Kd} (h:aC W b l) (n:∀g o,b=I ⟨g,o,O⟩ ->l≠[] ->I g≠R) (a:W.grownBy W' R):aC W' b l:=fun k d=>by
 obtain⟨g,o,e,c,f⟩:=h k d;have i:=n g o e (fun e=>by rw[e] at d;exact absurd d aE);exact⟨g,o,e,aT c a.size,(iE (a.block g c i)).trans f⟩
theorem arz {W:wA} {R:Option Nat} {b:Kd} {l:List Fr} (h:dE W b l) (p:∀g o,b=I ⟨g,o,O⟩ ->l≠[] ->I g≠R) (i:W.grownBy W' R):dE W' b l:=fun k d=>by
 obtain⟨g,o,e,f,j,m,n⟩:=h k d;have q:=p g o e (fun e=>by rw[e] at d;exact absurd d aE);have c:=i.block g f q;exact⟨g,o,e,aT f i.size,(iE (a:=⟨g,_,O⟩) c).trans j,(iE (a:=⟨g,_,O⟩) c).trans m,(iE (a:=⟨g,_,O⟩) c).trans n⟩
theorem bL.keepR {W:wA} {R:Option Nat} {x:wQ} {t:Tb} (h:bL W x y t) (f:∀r,R=I r ->iC r t (x,y)) (d:W.grownBy W' R):bL W' x y t:=by
 obtain⟨b,c,cb,cc,rfl,rfl,i,j,k⟩:=h;refine⟨b,c,cb,cc,rfl,rfl,NY i (fun g o e n a=>?_) d,arz j (fun g o e n a=>?_) d,k⟩
 ·exact(f g a.symm).1 g o _ _ (by rw[e]) n rfl
 ·exact(f g a.symm).2 g o _ _ (by rw[e]) n rfl
theorem bL.lt {x:wQ} {t:Tb} (h:bL w x y t) {R:Nat} (p:w.heap.size<=R):iC R t (x,y):=by
 obtain⟨b,c,cb,cc,rfl,rfl,i,j,m⟩:=h;refine⟨fun g o n f e d k=>?_,fun g o n f e d k=>?_⟩
 ·injection e with e1 _ _;obtain⟨g',o',a,A,_⟩:=i 0 (by cases ht:t.1 with |nil=>exact absurd ht d |cons x l=>simp);rw[e1] at a;cases a;omega
 ·injection e with e1 _ _;obtain⟨g',o',a,A,_⟩:=j 0 (by cases ht:t.2 with |nil=>exact absurd ht d |cons x l=>simp);rw[e1] at a;cases a;omega
theorem nT.push {B:Nat} {v x:wQ} {Q:List (wQ×wQ)} {P:List Tb} {t:Tb} (h:nT w B v Q P) (b:bL w x y t) (f:∀R,v.ownBlock=I R ->iC R t (x,y)) (o:w'.ownsRow B 38 2 v' (Z P+1) (fS Q++[x,y])) (g:w.grownBy w' v.ownBlock) (n:v'.ownBlock=v.ownBlock∨∀k,v'.ownBlock=I k ->w.heap.size<=k):nT w' B v' (Q++[(x,y)]) (P++[t]):=by
 have e:Z (P++[t])=Z P+1:=aE
 refine⟨by simp[h.len],by rw[e,Nd];exact o,fun k j c=>?_,fun R a k j c=>?_⟩
 ·by_cases d:k<Z P
  ·have i:k<Z Q:=by rw[h.len];exact d
   rw[ou i,ou d];exact(h.val k d i).keepR (fun r l=>h.far r l k d i) g
  ·have i:¬k<Z Q:=by rw[h.len];exact d
   rw[uj al,uj al];simp only[QX];exact b.keepR f g
 ·by_cases d:k<Z P
  ·have i:k<Z Q:=by rw[h.len];exact d
   rw[ou i,ou d];rcases n with n |n
   ·exact h.far R (by rw[<- n];exact a) k d i
   ·exact(h.val k d i).lt (n R a)
  ·have i:¬k<Z Q:=by rw[h.len];exact d
   rw[uj al,uj al];simp only[QX];rcases n with n |n
   ·exact f R (by rw[<- n];exact a)
   ·exact b.lt (n R a)
theorem nT.under {B:Nat} {v:wQ} {Q:List (wQ×wQ)} {P:List Tb} (h:nT w B v Q P) (b:da w w'):nT w' B v Q P:=
 ⟨h.len,KH h.own (Ec.aa b),fun k a c=>(h.val k a c).aa b,h.far⟩
theorem nT.lt {B:Nat} {v:wQ} {Q:List (wQ×wQ)} {P:List Tb} (h:nT w B v Q P):∀R,v.ownBlock=I R ->B<=R/\R<w.heap.size:=fun R a=>by
 rcases h.own.2 with ⟨b,c⟩ |⟨g,cap,r,b,c,d,_⟩
 ·rw[b] at a;cases a
 ·rw[b] at a;cases a;exact⟨c,(c5.1 d).1⟩
theorem iC.new {B R:Nat} {t:Tb} {b c:Kd} (h:jb B b cb) (d:jb B c cc) (i:R<B):iC R t (J b n cb,J c m cc):=
 ⟨fun g o f a e _=>by
  injection e with e1 _ _;have:=h.2 g o e1;omega,fun g o f a e _=>by
  injection e with e1 _ _;have:=d.2 g o e1;omega⟩
theorem Tryz.infoTable:(prog.info? 38).map (fun i=>(i.zero,i.size,i.bytes))=I (I (zp #[J O 0 0,J O 0 0]),2,48):=ao
variable {D B9 c d:Nat} {p:Rat}
def gi (D:Nat) (q:Rat):Prop:=∃z:Int,q=mkRat z D
theorem gi.own (q:Rat):gi q.den q:=⟨q.num,(Rat.mkRat_self q).symm⟩
theorem gi.zero (D:Nat):gi D 0:=⟨0,aE⟩
theorem gi.one:gi 1 1:=⟨1,rfl⟩
theorem gi.add {q:Rat} (h:gi D p) (a:gi D q):gi D (p+q):=by
 obtain⟨x,rfl⟩:=h;obtain⟨y,rfl⟩:=a;refine⟨x+y,?_⟩;rw[Rat.mkRat_eq_div,Rat.mkRat_eq_div,Rat.mkRat_eq_div,k9,k9,k9, <- Rat.add_mul,Rat.intCast_add]
theorem gi.mul {q:Rat} (h:gi D p) (a:gi B9 q):gi (D*B9) (p*q):=by
 obtain⟨x,rfl⟩:=h;obtain⟨y,rfl⟩:=a;exact⟨x*y,Rat.mkRat_mul_mkRat ..⟩
theorem gi.times (a:D≠0) {q:Rat} (h:gi D q) (b:B9≠0):gi (D*B9) q:=by
 obtain⟨x,rfl⟩:=h;refine⟨x*B9,?_⟩;rw[Rat.mkRat_eq_iff a (Hh a b),ng,Int.mul_assoc,Int.mul_comm (B9:Int)]
theorem gi.dvd (a:D≠0) {q:Rat} (h:gi D q):q.den∣D:=by
 obtain⟨x,rfl⟩:=h;rw[<- Rat.normalize_eq_mkRat a,Rat.normalize_eq];exact Nat.div_dvd_of_dvd (Nat.gcd_dvd_right _ _)
def mR (c:Nat) (q:Rat):Prop:=0<=q/\q<=(c:Rat)
theorem gi.size (b:D≠0) {q:Rat} (h:gi D q) (d:mR c q):qw q<=2*(B D).size+(B c).size:=by
 have e:=Nat.le_of_dvd (mj b) (h.dvd b);have a:=(Rat.le_iff _ _).1 d.2;have i:=Rat.num_nonneg.2 d.1
 have j:q.num.natAbs<=c*D:=by
  have f:((c:Nat):Rat).num=(c:Int):=rfl;have g:((c:Nat):Rat).den=1:=rfl;rw[f,g] at a;have k:(c:Int)*(q.den:Int)<=(c:Int)*(D:Int):=Int.mul_le_mul_of_nonneg_left (Int.ofNat_le.2 e) (Q7 c)
  have l:q.num<=(c:Int)*(D:Int):=by
   (have:q.num*((1:Nat):Int)=q.num:=aE);rw[this] at a;exact Int.le_trans a k
  have m:((q.num.natAbs:Nat):Int)=q.num:=Int.natAbs_of_nonneg i;have n:((q.num.natAbs:Nat):Int)<=((c*D:Nat):Int):=by rw[m,ng];exact l
  exact Int.ofNat_le.1 n
 have s:=kO j;have o:=uo c D;have p:=kO e;simp only[qw];omega
theorem mR.mul {q:Rat} (h:mR c p) (a:mR d q):mR (c*d) (p*q):=by
 refine⟨MD h.1 a.1,?_⟩;rw[Rat.natCast_mul];exact ME (Rat.mul_le_mul_of_nonneg_right h.2 a.1) (Rat.mul_le_mul_of_nonneg_left a.2 (ME h.1 h.2))
theorem mR.add {q:Rat} (h:mR c p) (a:mR d q):mR (c+d) (p+q):=by
 refine⟨Rat.add_nonneg h.1 a.1,?_⟩;rw[Rat.natCast_add];exact ME (Rat.add_le_add_right.2 h.2) (Rat.add_le_add_left.2 a.2)
theorem gi.sum {g:Nat ->Rat}:∀ {k:Nat},(∀x,x< k ->gi D (g x)) ->gi D (bG g k)
 |0,_=>gi.zero D
 |k+1,h=>by rw[bG];exact(gi.sum fun x a=>h x al).add (h k (Nat.lt_succ_self k))
theorem mR.sum {g:Nat ->Rat}:∀ {k:Nat},(∀x,x< k ->mR c (g x)) ->mR (k*c) (bG g k)
 |0,_=>by rw[bG,oY];exact⟨Hg,Hg⟩
 |k+1,h=>by rw[bG,Nat.succ_mul];exact(mR.sum fun x a=>h x al).add (h k (Nat.lt_succ_self k))
variable {S:Jp}
structure qR (S:Jp) (t:Tb) (D c:Nat):Prop where
 nz:D≠0
 one:1<=c
 isD:∀g,Fit S g ->gi D (tQ S (tN t) g)
 btw:∀g,Fit S g ->mR c (tQ S (tN t) g)
def PD (S:Jp) (P:List Tb) (D c:Nat):Prop:=∀M:List Tb ->Nat ->Nat ->Prop,M [] 1 1 ->(∀t P D c B9 d,qR S t D c ->M P B9 d ->M (t::P) (D*B9) (c*d)) ->M P D c
theorem PD.nil:PD S [] 1 1:=fun _ h _=>h
theorem PD.cons {t:Tb} {P:List Tb} (h:qR S t D c) (p:PD S P B9 d):PD S (t::P) (D*B9) (c*d):=fun M b a=>a _ _ _ _ _ _ h (p M b a)
theorem PD.ind {M:∀P D c,PD S P D c ->Prop} (nil:M [] 1 1 .nil) (cons:∀ {t:Tb} {P:List Tb} {D c B9 d:Nat} (h:qR S t D c) (p:PD S P B9 d),M P B9 d p ->M (t::P) (D*B9) (c*d) (.cons h p)):∀ {P:List Tb} {D c:Nat} (h:PD S P D c),M P D c h:=fun {_ _ _} h=>by
 obtain⟨_,k⟩:=h (fun P D c=>∃h,M P D c h) ⟨_,nil⟩ (fun _ _ _ _ _ _ a ⟨_,i⟩=>⟨_,cons a _ i⟩);exact k
theorem PD.nz {P:List Tb} (h:PD S P D c):D≠0/\1<=c:=by
 induction h using PD.ind with
 |nil=>exact⟨a6,a6⟩
 |cons ht _ ih=>exact⟨Hh ht.nz ih.1,ld ht.one ih.2⟩
theorem PD.append {P Q:List Tb} (h:PD S P D c) (q:PD S Q B9 d):PD S (P++Q) (D*B9) (c*d):=by
 induction h using PD.ind with
 |nil=>rw[lK,lK];exact q
 |cons ht _ ih=>rw[ju,ju];exact PD.cons ht ih
theorem PD.single {t:Tb} (h:qR S t D c):PD S [t] D c:=by
 have:=PD.cons h (PD.nil (S:=S));rwa [rU,rU] at this
theorem PD.parts (p:Tb ->Bool) {P:List Tb} (h:PD S P D c):∃a e b f,PD S (P.filter fun t=>!p t) a e/\PD S (P.filter p) b f/\a*b=D/\e*f=c:=by
 induction h using PD.ind with
 |nil=>exact⟨1,1,1,1,.nil,.nil,rfl,rfl⟩
 | @cons t P D c B9 d ht _ ih=>
  obtain⟨a,e,b,f,g,i,rfl,rfl⟩:=ih;cases hp:p t with
  |false=>
   refine⟨D*a,c*e,b,f,?_,?_,ju ..,ju ..⟩
   ·rw[A1 (by simp[hp])];exact .cons ht g
   ·rw[A2 (by simp[hp])];exact i
  |true=>
   refine⟨a,e,D*b,c*f,?_,?_,CQ ..,CQ ..⟩
   ·rw[A2 (by simp[hp])];exact g
   ·rw[A1 hp];exact .cons ht i
theorem PD.prod {P:List Tb} (h:PD S P D c) {g:Nat ->Nat} (a:Fit S g):gi D (pQ S g (P.map tN))/\mR c (pQ S g (P.map tN)):=by
 induction h using PD.ind with
 |nil=>exact⟨gi.one,by rw[om,pQ];exact⟨a6,a6⟩⟩
 |cons ht _ ih=>rw[fR,pQ];exact⟨(ht.isD g a).mul ih.1,(ht.btw g a).mul ih.2⟩
theorem PD.all (p:Pos S) {P:List Tb} (o:∀t∈P,dC S n t) (h:PD S P D c):qR S (allT S P) D c:=by
 obtain⟨_,_,b⟩:=Ca p o;exact⟨h.nz.1,h.nz.2,fun g a=>by rw[b g a];exact(h.prod a).1,fun g a=>by rw[b g a];exact(h.prod a).2⟩
theorem qR.o (p:Pos S) {t:Tb} (o:dC S n t) (h:qR S t D c) (v:Nat):qR S (outT S v x3 t) D (sz S v*c):=by
 have e:∀g,Fit S g ->tQ S (tN (outT S v x3 t)) g=bG (fun x=>tQ S (tN t) (aN g v x)) (sz S v):=fun g a=>Ww p (ru o.up _).nodup (Fs o.up v) _ a;refine⟨h.nz,ld (jM p v) h.one,fun g a=>?_,fun g a=>?_⟩
 ·rw[e g a];exact gi.sum fun x b=>h.isD _ (a.with b)
 ·rw[e g a];exact mR.sum fun x b=>h.btw _ (a.with b)
theorem qR.most (p:Pos S) {t:Tb} (o:dC S n t) (h:qR S t D c) (v:Nat):qR S (outT S v xq t) D c:=by
 have s:=jM p v
 have e:∀g,Fit S g ->∃x,x<sz S v/\tQ S (tN (outT S v xq t)) g=tQ S (tN t) (aN g v x):=fun g a=>by
  have d:tQ S (tN (outT S v xq t)) g=lp xq (fun x=>tQ S (tN t) (aN g v x)) (sz S v - 1):=acf p (ru o.up _).nodup (Fs o.up v) _ a;obtain⟨x,b,f⟩:=NB (fun x=>tQ S (tN t) (aN g v x)) (sz S v - 1);exact⟨x,al,d.trans f⟩
 refine⟨h.nz,h.one,fun g a=>?_,fun g a=>?_⟩
 ·obtain⟨x,b,e⟩:=e g a;rw[e];exact h.isD _ (a.with b)
 ·obtain⟨x,b,e⟩:=e g a;rw[e];exact h.btw _ (a.with b)
theorem qR.fix (p:Pos S) {t:Tb} (o:dC S n t) (h:qR S t D c) {x:Nat} (b:x<sz S v):qR S (eB S v x t) D c:=by
 have e:∀g,Fit S g ->tQ S (tN (eB S v x t)) g=tQ S (tN t) (aN g v x):=fun g a=>Rp p (ru o.up _).nodup (Fs o.up v) _ a;exact⟨h.nz,h.one,fun g a=>by rw[e g a];exact h.isD _ (a.with b),fun g a=>by rw[e g a];exact h.btw _ (a.with b)⟩
theorem PD.o (p:Pos S) {P:List Tb} (e:∀t∈P,dC S n t) (h:PD S P D c) (v:Nat):PD S (nj S v x3 P) D (sz S v*c):=by
 obtain⟨g,j,i,k,b,d,rfl,rfl⟩:=h.parts fun t=>decide (v∈ag t.1);have a:∀t∈P.filter (fun t=>decide (v∈ag t.1)),dC S n t:=fun t f=>e t (cU.1 f).1;have:=b.append (PD.single ((d.all p a).o p (Ca p a).1 v));rw[CQ] at this;exact this
theorem PD.most (p:Pos S) {P:List Tb} (d:∀t∈P,dC S n t) (h:PD S P D c) (v:Nat):PD S (nj S v xq P) D c:=by
 obtain⟨f,i,g,j,a,b,rfl,rfl⟩:=h.parts fun t=>decide (v∈ag t.1);have o:∀t∈P.filter (fun t=>decide (v∈ag t.1)),dC S n t:=fun t e=>d t (cU.1 e).1;exact a.append (PD.single ((b.all p o).most p (Ca p o).1 v))
theorem PD.fix (p:Pos S) {P:List Tb} (h:PD S P D c) (o:∀t∈P,dC S n t) {x:Nat} (a:x<sz S v):PD S (P.map (eB S v x)) D c:=by
 induction h using PD.ind with
 |nil=>exact .nil
 |cons ht _ ih=>exact .cons (ht.fix p (o _ dA) a) (ih fun t h=>o t (dL _ h))
theorem qR.size {t:Tb} (h:qR S t D c) {g:Nat ->Nat} (a:Fit S g):qw (tQ S (tN t) g)<=2*(B D).size+(B c).size:=(h.isD g a).size h.nz (h.btw g a)
def qN:List Fr ->Nat
 |[]=>1
 |f::l=>(bj f).den*qN l
theorem LG:∀l,qN l≠0
 |[]=>a6
 |f::l=>Hh (bj f).den_nz (LG l)
theorem ahP:∀ {l:List Fr} {f:Fr},f∈l ->gi (qN l) (bj f)
 |g::l,f,h=>by
  rcases bU.1 h with rfl |h
  ·exact(gi.own _).times (bj f).den_nz (LG l)
  ·rw[qN,eN];exact(ahP h).times (LG l) (bj g).den_nz
def ic (R:List (List Fr)):Jp ->Nat
 |[]=>1
 |v::vs=>qN (R.getD v [])*ic R vs
theorem apo (h0:aU V L R=0) (l:v<Z V) (b:Fit (ah V) f):bj (fL V L R f v)<=1:=by
 have n:=row_one h0 l b
 have r:∀ {g:Nat ->Rat} {k x:Nat},x< k ->(∀y,y< k ->0<=g y) ->g x<=bG g k:=fun {g k x} p i=>by
  have z:∀j,j<=k ->0<=bG g j:=fun j=>by
   induction j with
   |zero=>intro _;exact Hg
   |succ j ih=>intro o;rw[bG];exact Rat.add_nonneg (ih al) (i j al)
  have:∀j,x< j ->j<=k ->g x<=bG g j:=fun j=>by
   induction j with
   |zero=>intro h;omega
   |succ j ih=>
    intro h o;rw[bG];rcases dR x j with m |m
    ·have a:=(Rat.add_le_add_left (c:=bG g j)).2 (i j al);rw[Rat.add_zero] at a;exact ME (ih m al) a
    ·have e:x=j:=al
     have a:=(Rat.add_le_add_right (c:=g j)).2 (z j al);rw[MC] at a;rw[e];exact a
  exact this k p (ak _)
 have d:=r (g:=fun x=>bj (fL V L R (aN f v x) v)) (k:=sz (ah V) v) (b v) fun y q=>SC h0 l (b.with q);rw[n] at d;simpa only[abU] using d
theorem PD.net (h0:aU V L R=0):∀ {ws:Jp},(∀v∈ws,v<Z V) ->PD (ah V) (ws.map fun v=>(gU L v,gL V L R v)) (ic R ws) 1
 |[],_=>.nil
 |v::ws,h=>by
  have b:=h v dA;have F:=fK h0;have d:v<Z L:=by rw[F.len];exact b
  have i:v<Z R:=by rw[F.lenR];exact b
  have t:qR (ah V) (gU L v,gL V L R v) (qN (R.getD v [])) 1:=by
   have e:∀g,Fit (ah V) g ->tQ (ah V) (tN (gU L v,gL V L R v)) g=bj (fL V L R g v):=fun g a=>Wx h0 b a;refine⟨LG _,ak _,fun g a=>?_,fun g a=>?_⟩
   ·rw[e g a,fL,aS];cases hk:(R.getD v [])[tF (ah V) (ag (L.getD v [])) g v]? with
    |none=>exact⟨0,by rw[Option.getD_none];show bj tK=_;rw[show bj tK=0 from M4 rfl];simp⟩
    |some f=>exact ahP (VS hk)
   ·rw[e g a];exact⟨SC h0 b a,apo h0 b a⟩
  exact PD.cons t (PD.net h0 fun u c=>h u (dL _ c))
theorem ahm (S:Jp) (v x:Nat) (t:Tb):Low (eB S v x t).2:=fun f h=>by
 obtain⟨K,_,rfl⟩:=aQ.1 h;rw[j5]
theorem ad9 (S:Jp) (v:Nat) (m:Bool) (t:Tb):Low (outT S v m t).2:=fun f h=>by
 obtain⟨K,_,rfl⟩:=aQ.1 h;rw[j5]
theorem arf (V:List Vr) (L:List Kx) (R:List (List Fr)) (v:Nat):Low (gL V L R v):=fun f h=>by
 obtain⟨K,_,rfl⟩:=aQ.1 h;rw[j5]
structure ir (S:Jp) (n:Nat) (P:List Tb) (D c:Nat):Prop where
 ok:∀t∈P,dC S n t
 pd:PD S P D c
 low:∀t∈P,Low t.2
theorem PD.each {P:List Tb} (h:PD S P D c):∀t∈P,∃B9 d,qR S t B9 d/\B9<=D/\d<=c:=by
 induction h using PD.ind with
 |nil=>intro t g;cases g
 | @cons t P D c B9 d h1 h2 ih=>
  have n:=h2.nz;have f:=mj n.1;intro u a;rcases bU.1 a with rfl |a
  ·exact⟨D,c,h1,Nat.le_mul_of_pos_right D f,Nat.le_mul_of_pos_right c n.2⟩
  ·obtain⟨b,e,k,i,j⟩:=ih u a;exact⟨b,e,k,aO i (ES B9 (mj h1.nz)),aO j (ES d h1.one)⟩
theorem PD.take {P:List Tb} (h:PD S P D c):∀k,∃B9 d,PD S (P.take k) B9 d/\B9<=D/\d<=c:=by
 induction h using PD.ind with
 |nil=>intro k;exact⟨1,1,by rw[List.take_nil];exact .nil,ak _,ak _⟩
 | @cons t P D c B9 d h1 h2 ih=>
  have n:=h2.nz;intro k;cases k with
  |zero=>
   exact⟨1,1,.nil,MH (mj h1.nz) (mj n.1),MH h1.one n.2⟩
  |succ k=>
   obtain⟨a,b,e,f,g⟩:=ih k;exact⟨D*a,c*b,.cons h1 e,mW _ f,mW _ g⟩
theorem PD.filter {P:List Tb} (h:PD S P D c) (p:Tb ->Bool):∃B9 d,PD S (P.filter p) B9 d/\B9<=D/\d<=c:=by
 obtain⟨j,k,b,e,i,a,f,g⟩:=h.parts p;have n:=i.nz;have l:=a.nz;exact⟨b,e,a,by rw[<- f];exact ES _ (mj n.1),by rw[<- g];exact ES _ n.2⟩
theorem acd (p:Pos S) {t:Tb} (i:dC S n t) (o:Low t.2) (h:qR S t B9 d) (j:B9<=D) (l:d<=c) (s:2*(B D).size+(B c).size+2<=m):Cw m t.2:=fun k a=>by
 have f:k<cnt S (ag t.1):=by rw[<- i.len];exact a
 have e:aS t.2 k=qF (tQ S (tN t) (aY S (ag t.1) k)):=by
  rw[qP a];have:=Wv p i o;have b:t.2[k]? =((List.range (cnt S (ag t.1))).map fun K=>qF (tQ S (tN t) (aY S (ag t.1) K)))[k]?:=by rw[<- this]
  rw[ba a,mr,QZ f] at b;exact kg b
 have hs:=h.size (g:=aY S (ag t.1) k) (fun u=>rI p _ k u f);have q:=kO j;have r:=kO l;rw[e];show (nu _).size+(de _).size+2<=m;have v:(nu (tQ S (tN t) (aY S (ag t.1) k))).size+(de (tQ S (tN t) (aY S (ag t.1) k))).size=qw (tQ S (tN t) (aY S (ag t.1) k)):=rfl;omega
theorem ir.cw (p:Pos S) {P:List Tb} (h:ir S n P D c) (b:2*(B D).size+(B c).size+2<=m):∀t∈P,Cw m t.2:=fun t a=>by
 obtain⟨B9,d,k,e,f⟩:=h.pd.each t a;exact acd p (h.ok t a) (h.low t a) k e f b
theorem ir.part (p:Pos S) {P:List Tb} (h:ir S n P D c) (b:2*(B D).size+(B c).size+2<=m) (k:Nat):dC S n (allT S (P.take k))/\Cw m (allT S (P.take k)).2:=by
 obtain⟨B9,d,f,g,i⟩:=h.pd.take k;have o:∀t∈P.take k,dC S n t:=fun t e=>h.ok t (QV e);have a:=(Ca p o).1;exact⟨a,acd p a (aiK S _) (PD.all p o f) g i b⟩
theorem ir.filter {P:List Tb} (h:ir S n P D c) (p:Tb ->Bool):∃B9 d,ir S n (P.filter p) B9 d/\B9<=D/\d<=c:=by
 obtain⟨B9,d,k,b,e⟩:=h.pd.filter p;exact⟨B9,d,⟨fun t a=>h.ok t (cU.1 a).1,k,fun t a=>h.low t (cU.1 a).1⟩,b,e⟩
theorem ir.fix (p:Pos S) {P:List Tb} (h:ir S n P D c) {x:Nat} (d:x<sz S v):ir S n (P.map (eB S v x)) D c:=
 ⟨fun t a=>by
  obtain⟨u,b,rfl⟩:=aQ.1 a;exact(h.ok u b).fix v x,h.pd.fix p h.ok d,fun t a=>by
  obtain⟨u,_,rfl⟩:=aQ.1 a;exact ahm S v x u⟩
theorem aec (p:Pos S) {P:List Tb} (h:∀t∈P,dC S n t) (v:Nat) (m:Bool):∀t∈nj S v m P,dC S n t:=fun t a=>by
 rcases bH.1 a with a |a
 ·exact h t (cU.1 a).1
 ·rw[bD.1 a];exact((Ca p fun u b=>h u (cU.1 b).1).1).o v m
theorem aed {P:List Tb} (h:∀t∈P,Low t.2) (v:Nat) (m:Bool):∀t∈nj S v m P,Low t.2:=fun t a=>by
 rcases bH.1 a with a |a
 ·exact h t (cU.1 a).1
 ·rw[bD.1 a];exact ad9 S v m _
theorem ir.o (p:Pos S) {P:List Tb} (h:ir S n P D c) (v:Nat):ir S n (nj S v x3 P) D (sz S v*c):=⟨aec p h.ok v x3,h.pd.o p h.ok v,aed h.low v x3⟩
theorem ir.most (p:Pos S) {P:List Tb} (h:ir S n P D c) (v:Nat):ir S n (nj S v xq P) D c:=⟨aec p h.ok v xq,h.pd.most p h.ok v,aed h.low v xq⟩
variable {x':wQ}
theorem dC.check {t:Tb} (h:dC S (Z S) t) (f:fJ (iL S)):kZ (iL S) t.1 t.2.length=0:=aaA (LM f (by rw[bM];exact h.up)) (by rw[jL];exact h.len)
theorem dC.small {t:Tb} (h:dC S (Z S) t) (f:fJ (iL S)):t.1.length<=8:=by
 have b:=h.up.length;have a:=f.eight;rw[bM] at a;omega
def Gp (B:Nat) (t:Tb) (e:Ending) (w':wA):Prop:=∃x y,e=yk (zz #[zp #[x,y],E yR 0])/\bL w' x y t/\∀R,R< B ->iC R t (x,y)
theorem xG.tb {B:Nat} {t:Tb} {e:Ending} (h:xG B t.1 t.2 0 e w'):Gp B t e w':=by
 obtain⟨b,c,cb,cc,d,f,g,a,i⟩:=h;exact⟨_,_,d,⟨b,c,cb,cc,rfl,rfl,f,g,a.1⟩,fun R j=>iC.new a i j⟩
theorem aeY (a:Kd) (ca:Nat) (S:Jp) (x y x' f:wQ) (s t:Tb) (w:wA) (R:fJ (iL S)) (hs:aC w a (iL S)) (h:bL w x y s) (l:bL w x' f t) (o:dC S (Z S) s) (j:dC S (Z S) t) (q:Cw 100000 s.2) (A:Cw 100000 t.2):
  c6 106 #[J a (Z S) ca,zp #[x,y],zp #[x',f]] w fun e w'=>Gp w.heap.size (vr S s t) e w'/\da w w':=by
 obtain⟨b,c,cb,cc,rfl,rfl,m,n,p⟩:=h;obtain⟨g,i,T,r,rfl,rfl,u,v,z⟩:=l;have k:=R.eight;rw[bM] at k;have D:=o.small R;have B9:=j.small R;have:=akx a b c g i ca cb cc T r (iL S) s.1 t.1 s.2 t.2 w hs m u n v (by rw[bM];omega) al al p z (o.check R) (j.check R) q A;rw[bM,jL] at this;exact this.af fun e w' d=>⟨xG.tb (t:=vr S s t) d.1,d.2⟩
theorem anM (w:wA):bL (AC w (yd #[zd (aV 1),zX (nu 1),zX (de 1)] 63)) (J O 0 0) (J (I ⟨w.heap.size,0,O⟩) 1 1) Fk:=by
 have e:=dU w (yd #[zd (aV 1),zX (nu 1),zX (de 1)] 63);refine⟨O,_,0,1,rfl,rfl,(fun k h=>absurd h (by simp[Fk])),fun k h=>?_,fun _=>rfl⟩;obtain rfl:k=0:=by simp[Fk] at h;omega
 exact⟨_,0,rfl,(c5.1 e).1,(a8 _ _ 0 _ _ (0,0) e).trans rfl,(a8 _ _ 1 _ _ (0,0) e).trans rfl,(a8 _ _ 2 _ _ (0,0) e).trans rfl⟩
theorem bL.putT {V:wA} {x u v:wQ} {t:Tb} (h:bL V x y t) (d:bh V g u v) (e:bW u) (f:bW v) (i:bW x') (a:wQ):bL (AF (AF V ⟨g,0,O⟩ x') ⟨g,1,O⟩ a) x y t:=by
 obtain⟨b,c,cb,cc,j,k,l,m,n⟩:=h;exact⟨b,c,cb,cc,j,k,l.putT d e f i a,m.putT d e f i a,n⟩
theorem bL.slices {x:wQ} {t:Tb} (h:bL w x y t):bW x/\bW y:=by
 obtain⟨b,c,cb,cc,rfl,rfl,_⟩:=h;exact⟨slv _ _ _,slv _ _ _⟩
theorem bh.result1 {x:wQ} (h:bh w g x y) {p:Tmp} (r:fn.results= #[.cell p 38]) (m:Array wQ) (a:m.getD p wd=zZ (I ⟨g,0,O⟩)):
  (results fn m).run prog w=.ok (zp #[x,y]) w:=EN r m w g _ _ _ _ a h underlying38 rfl ao
theorem adA (a b:Kd) (ca cb:Nat) (S:Jp) (P:List Tb) (D c:Nat) (w:wA) (R:fJ (iL S)) (hs:aC w a (iL S)) (hP:jt w b P) (F:ir S (Z S) P D c) (ay:Z P<=1000) (M:2*(B D).size+(B c).size+2<=8192):
  c6 208 #[J a (Z S) ca,J b (Z P) cb] w fun e w'=>∃x y,e=yk (zp #[x,y])/\bL w' x y (allT S P)/\da w w':=by
 have B6:Pos S:=by have:=R.pos;rwa [jL] at this
 have tY:we (∀U:wA,c6 88 #[E yR 1] U fun e w'=>e=yk (zp #[zd (aV 1),zX (nu 1),zX (de 1)])/\da U w'):=fun U=>Gh (k:=1) (w:=U) 1 1 rfl a6 rfl
 have GW:we (∀(k:Nat) (r:k<Z P) (x y x' u:wQ) (U:wA),da w U ->bL U x y (allT S (P.take k)) ->bL U x' u P[k] ->c6 106 #[J a (Z S) ca,zp #[x,y],zp #[x',u]] U fun e w'=>Gp U.heap.size (allT S (P.take (k+1))) e w'/\da U w'):=fun k r x y x' u U hU h1 h2=>by
  have h3:=F.part B6 M k;have h4:=F.cw B6 M P[k] (bQ r);have e:allT S (P.take (k+1))=vr S (allT S (P.take k)) P[k]:=by rw[allT,ig r,List.foldl_append];rfl
  rw[e];exact aeY a ca S x y x' u _ _ U R (hs.aa hU) h1 h2 h3.1 (F.ok _ (bQ r)) (h3.2.up a6) (h4.up a6)
 have HP:=Fa hP;have H0:we (allT S (P.take 0)=Fk):=rfl;clear hs hP F R B6 M;obtain⟨T,K⟩:∃T:Nat ->Tb,∀k,allT S (P.take k)=T k:=⟨fun k=>allT S (P.take k),fun _=>rfl⟩;have sY:we (T (Z P)=allT S P):=by show _=_;rw[<- K,iP]
 simp only[K] at GW H0;clear K;go_enter func208,ntmps208;go_wp2_with fail
 have B1:=(aw w.heap.size w).alloc (ak _) (TC (J O 0 0) (J O 0 0));have L:=bh.at (w:=w) rfl (J O 0 0) (J O 0 0);refine(tY.o _).af ?_;rintro e d ⟨rfl,ad⟩;have ab:=B1.trans (ad.af B1.size);have B7:=L.aa ad L.lt;have Y:=ab.alloc ab.size (yd #[zd (aV 1),zX (nu 1),zX (de 1)] 63);have kS:=anM d;have an:(AC d (yd #[zd (aV 1),zX (nu 1),zX (de 1)] 63)).heap.size=d.heap.size+1:=aE
 have B2:=B7.alloc (yd #[zd (aV 1),zX (nu 1),zX (de 1)] 63);have lA:=Y.alloc Y.size (TC (J O 0 0) (J (I ⟨d.heap.size,0,O⟩) 1 1));have ZH:=B2.alloc (TC (J O 0 0) (J (I ⟨d.heap.size,0,O⟩) 1 1));have F7:=bh.at (w:=d.alloc (yd #[zd (aV 1),zX (nu 1),zX (de 1)] 63)) an (J O 0 0) (J (I ⟨d.heap.size,0,O⟩) 1 1);have ae:=kS.aa ((aw _ _).alloc (ak _) (TC (J O 0 0) (J (I ⟨d.heap.size,0,O⟩) 1 1)));have ax:=B7.lt;have o:=Fa lA;have yS:=Fa ZH;have Ee:=Fa F7;have Jr:=Fa ae;clear B1 L ad ab B7 Y kS an B2 lA ZH F7 ae;go_wp2_with fail
 go_loopw [13] (fun iv wr=>∃(i:Nat) (x y:wQ),i<=Z P/\iv=E yR i/\we (bh wr (d.heap.size+1) x y)/\we (bL wr x y (T i))/\we (bh wr w.heap.size (J O 0 0) (J O 0 0))/\we (da w wr)) (fun iv _=>Z P - (intOf iv).toNat)
 case atStart=>exact⟨0,_,_,aX _,rfl,Ee,by rw[H0.o];exact Jr,yS,o⟩
 case round=>
  obtain⟨i,x,y,hi,rfl,HX,V,l,H⟩:=hrel;clear Ee Jr yS o;obtain⟨aj,ai⟩:=V.o.slices;obtain⟨x0,x1,J9,J8⟩:=HX.o.facts;by_cases ao:i<Z P
  ·obtain⟨g,av,p,q,rfl,hg,k0,k1,m⟩:=(HP.o.aa H.o) i ao;have A:=(aw wr.heap.size wr).alloc (ak _) (TC p q);have Q:=Fa (H.o.trans (A.af H.o.size));have X:=Fa (HX.o.alloc (TC p q));have tR:=Fa (l.o.alloc (TC p q));have B9:=bh.at (w:=wr) rfl p q;obtain⟨aq,ar,_,_⟩:=X.o.facts;have b0:=B9.c0;have b1:=B9.c1;have HM:=Fa (GW.o i ao x y p q _ Q.o (V.o.aa A) (m.aa A));obtain⟨ps,pn,pc,rfl⟩:=m.slices.1;obtain⟨qs,qn,qc,rfl⟩:=m.slices.2;clear m A B9 x0 x1 J9 J8;go_wp2_with fail
   refine HM.o.af ?_;rintro e w3 ⟨⟨x2,y2,rfl,z,_⟩,v⟩;have t:=X.o.aa v X.o.lt;have B2:=tR.o.aa v tR.o.lt;have di:=Q.o.trans (v.af Q.o.size);obtain⟨c0,c1,f0,f1⟩:=t.facts;obtain⟨xs,n,f,rfl⟩:=z.slices.1;obtain⟨s,j,h,rfl⟩:=z.slices.2;have yQ:=Fa (t.put (J xs n f) (J s j h));have UM:=Fa (z.putT t aj ai (slv xs n f) (J s j h));have Cl:we (bh (AF (AF w3 ⟨d.heap.size+1,0,O⟩ (J xs n f)) ⟨d.heap.size+1,1,O⟩ (J s j h)) w.heap.size (J O 0 0) (J O 0 0)):=(B2.off _ _ _ al).off _ _ _ al;have fh:=Fa (rG (g:=d.heap.size+1) di al (J xs n f) (J s j h));clear z v t B2 di HM aq ar b0 b1 k0 k1;go_wp2;go_roundw
   case rel=>exact⟨i+1,_,_,al,bd,yQ,UM,Cl,fh⟩
   case measure=>simp[intOf];omega
  ·obtain rfl:i=Z P:=al
   rw[sY.o] at V;obtain⟨t0,t1,f0,f1⟩:=l.o.facts;obtain⟨xs,n,f,rfl⟩:=aj;obtain⟨s,j,h,rfl⟩:=ai;have Eu:=Fa (l.o.put (J xs n f) (J s j h));have Eh:=Fa (V.o.putT l.o (slv _ _ _) (slv _ _ _) (slv xs n f) (J s j h));have o:=Fa (rG H.o (ak _) (J xs n f) (J s j h));go_wp2;refine cN (Eu.o.result1 rfl _ rfl) rfl ?_;exact⟨_,_,rfl,Eh.o,o.o⟩
open Go.Sort
variable {z:wQ}
def PlC (x y z:wQ):Obj:=yd #[x,y,z] 177
def cI (w:wA) (g:Nat) (x y z:wQ):Prop:=w.heap[g]? =I (yd #[x,y,z] 177 (0,0))
theorem cI.at (h:w.heap.size=g) (x y z:wQ):cI (w.alloc (PlC x y z)) g x y z:=by subst h;exact dU w _
theorem cI.lt {x:wQ} (h:cI w g x y z):g<w.heap.size:=(c5.1 h).1
theorem cI.aa {b:Nat} {x:wQ} (h:cI w g x y z) (a:Below b w w') (c:g<b):cI w' g x y z:=(a.block g c).trans h
theorem cI.alloc {x:wQ} (h:cI w g x y z) (o:Obj):cI (w.alloc o) g x y z:=(uY w o g h.lt).trans h
theorem cI.cells {x:wQ} (h:cI w g x y z):AJ w ⟨g,0,O⟩=I x/\w.cell? ⟨g,1,O⟩=I y/\w.cell? ⟨g,2,O⟩=I z:=
 ⟨by rw[a8 w g 0 _ _ (0,0) h];rfl,by rw[a8 w g 1 _ _ (0,0) h];rfl,by rw[a8 w g 2 _ _ (0,0) h];rfl⟩
theorem cI.fz {x:wQ} (h:cI w g x y z) (j:Nat):w.frozen? ⟨g,j,O⟩=false:=eA w g j _ _ h
theorem cI.set0 {x:wQ} (h:cI w g x y z) (u:wQ):cI (AF w ⟨g,0,O⟩ u) g u y z:=ke w g 0 _ _ u h
theorem cI.set1 {x:wQ} (h:cI w g x y z) (u:wQ):cI (AF w ⟨g,1,O⟩ u) g x u z:=ke w g 1 _ _ u h
theorem cI.set2 {x:wQ} (h:cI w g x y z) (u:wQ):cI (AF w ⟨g,2,O⟩ u) g x y u:=ke w g 2 _ _ u h
theorem cI.put {x:wQ} (h:cI w g x y z) (u v s:wQ):cI (AF (AF (AF w ⟨g,0,O⟩ u) ⟨g,1,O⟩ v) ⟨g,2,O⟩ s) g u v s:=((h.set0 u).set1 v).set2 s
theorem cI.result1 {x:wQ} (h:cI w g x y z) {p:Tmp} (r:fn.results= #[.cell p 177]) (m:Array wQ) (a:m.getD p wd=zZ (I ⟨g,0,O⟩)):
  (results fn m).run prog w=.ok (zp #[x,y,z]) w:=EN r m w g _ _ _ _ a h underlying177 rfl ao
theorem adM (u v:Int) (B:Nat) (W:wA) (c:AJ W ⟨B,0,O⟩=I (E yR v)):
  FnGives prog 259 #[zZ (I ⟨B,0,O⟩)] #[E yR u] (zd (u==v)) W:=by
 show c6 259 #[E yR u,zZ (I ⟨B,0,O⟩)] W _;go_enter func259,ntmps259;go_wp2
 all_goals (go_ret;exact⟨by simp_all,0,rfl⟩)
theorem amO (v:Int) (B:Nat) (w:wA) (h:B<w.heap.size) (c:AJ w ⟨B,0,O⟩=I (E yR v)):
  PredAt prog 259 #[zZ (I ⟨B,0,O⟩)] (Value.int yR) (fun u=>u==v) w:=
 fun W x b=>adM x v B W ((b.cell (p:=⟨B,0,O⟩) h).trans c)
theorem amN (v:Int) (B b f i:Nat) (w:wA) (h:B<w.heap.size) (e:B≠b) (c:AJ w ⟨B,0,O⟩=I (E yR v)):
  PredOver prog 259 #[zZ (I ⟨B,0,O⟩)] (Value.int yR) (fun u=>u==v) b f i w:=
 fun n o d x _=>adM x v B _ (by
  unfold sortWorld;rw[cell?_grow _ _ _ (by show B<(putRow _ _ _ _ _).heap.size;rw[size_putRow];exact h),cell?_putRow_other _ _ b f _ _ (Or.inl e)];exact c)
theorem adP (x z:wQ) (b:Kd) (cb:Nat) (f:Kx) (v:Int) (w:wA) (hx:bW x) (hz:bW z) (h:aC w b f) (hn:Z f<=1000):
  c6 206 #[zp #[x,J b (Z f) cb,z],E yR v] w fun e w'=>∃d cd,e=yk (zp #[x,J d (Z (bY f v)) cd,J O 0 0])/\aC w' d (bY f v)/\jb w.heap.size d cd/\da w w':=by
 obtain⟨a,i,c,rfl⟩:=hx;obtain⟨l,p,m,rfl⟩:=hz;have HV:=Fa h;obtain⟨L,U⟩:∃L,bY f v=L:=⟨_,rfl⟩;rw[U];have T:=Fa U;clear h U;go_enter func206,ntmps206;go_wp2_with fail
 have B6:da w (AC (AC (AC w (yd #[J a i c,J b (Z f) cb,J l p m] 177)) (yd #[E yR v] 3)) (yd #[J O 0 0,J O 0 0,J O 0 0] 177)):=by
  have t:=(aw w.heap.size w).alloc (ak _) (yd #[J a i c,J b (Z f) cb,J l p m] 177);have h2:=t.alloc t.size (yd #[E yR v] 3);exact h2.alloc h2.size _
 have Q:cI (AC (AC (AC w (yd #[J a i c,J b (Z f) cb,J l p m] 177)) (yd #[E yR v] 3)) (yd #[J O 0 0,J O 0 0,J O 0 0] 177)) w.heap.size (J a i c) (J b (Z f) cb) (J l p m):=((cI.at (w:=w) rfl _ _ _).alloc _).alloc _
 have an:Boxed (AC (AC (AC w (yd #[J a i c,J b (Z f) cb,J l p m] 177)) (yd #[E yR v] 3)) (yd #[J O 0 0,J O 0 0,J O 0 0] 177)) (w.heap.size+1) 3 (E yR v):=by
  have:=(bE (AC w (yd #[J a i c,J b (Z f) cb,J l p m] 177)) 3 (E yR v)).alloc (yd #[J O 0 0,J O 0 0,J O 0 0] 177);rwa [eW] at this
 have B9:cI (AC (AC (AC w (yd #[J a i c,J b (Z f) cb,J l p m] 177)) (yd #[E yR v] 3)) (yd #[J O 0 0,J O 0 0,J O 0 0] 177)) (w.heap.size+1+1) (J O 0 0) (J O 0 0) (J O 0 0):=cI.at (w:=AC (AC w (yd #[J a i c,J b (Z f) cb,J l p m] 177)) (yd #[E yR v] 3)) aE _ _ _;generalize (AC (AC (AC w (yd #[J a i c,J b (Z f) cb,J l p m] 177)) (yd #[E yR v] 3)) (yd #[J O 0 0,J O 0 0,J O 0 0] 177))=W at *;refine(Kq b cb f _ (HV.o.aa B6) al).af ?_;rintro e A ⟨x,rfl,hr,s⟩;have M:=bB an s;have B7:=Q.aa s Q.lt;have H:=B9.aa s B9.lt;have F:=B6.trans (s.af B6.size);have ax:=B9.lt;have ay:=s.size;clear an Q B9 B6 s;rcases hr.cases with ⟨rfl,rfl⟩ |⟨g,cap,rfl,av,hg,ai,aq,V⟩
 ·go_wp2_with fail
  refine(WM _ _).af ?_;rintro e q ⟨rfl,B1⟩;have B2:=B7.aa B1 B7.lt;have R:=H.aa B1 H.lt;have D:=F.trans (B1.af F.size);have DJ:L=[]:=T.o.symm;subst DJ;obtain⟨p0,p1,p2⟩:=B2.cells;obtain⟨r0,r1,r2⟩:=R.cells;have r:=R.fz;have RI:=r 0;have RH:=r 1;have RG:=r 2;have S:=Fa (R.put (J a i c) (J O 0 0) (J O 0 0));have Y:=Fa (eJ D (show w.heap.size<=w.heap.size+1+1 by omega) (J a i c) (J O 0 0) (J O 0 0));clear r B2 R D;go_wp2;refine cN (S.o.result1 rfl _ rfl) rfl ?_;exact⟨O,0,rfl,fun k X=>absurd X aE,jb.nil _,Y.o⟩
 ·have P:=Tryz.slices_DeleteFunc (Value.int yR) (fun _=>rfl) (fun u=>u==v) 259 #[zZ (I ⟨w.heap.size+1,0,O⟩)] (enters_of func259 ao rfl) 0 Tryz.zeroValue3 g 0 cap f.toArray A (amO v _ _ M.lt M.cell) (amN v _ g 0 _ _ M.lt al M.cell) V (by simp;omega) (by simpa using ai);have aj:f.toArray.size=Z f:=aE
  rw[aj] at P;have kV:f.toArray.toList.filter (fun x=>!(x==v))=bY f v:=by simp[bY]
  rw[kV,T.o] at P;have dK:Z L<=Z f:=by rw[<- T.o];exact oq _ _
  have EF:=Fa P;have HH:=Fa V;have lG:=Fa dK;clear P V hr aj kV ai aq dK;go_wp2_with fail
  refine EF.o.af ?_;rintro e q ⟨rfl,ad,K⟩
  have yB:(L++List.replicate (Z f - Z L) 0).toArray.size=f.toArray.size:=by
   have:=lG.o;simp;omega
  have ae:aC q (I ⟨g,0,O⟩) L:=by
   rw[K];exact Dp (holds_putRow (Value.int yR) (Sort.ahead A ad) g 0 f.toArray _ HH.o yB) (by rw[size_putRow];exact hg) (fun j hj=>⟨by simp;omega,by simp[ou,hj]⟩)
  have ab:∀k,k<A.heap.size ->k≠g ->q.heap[k]? =A.heap[k]?:=fun k X ar=>by
   rw[K];have t:=Mz (w:=A) (g:=g) (n:=ad) (os:= #[]) ((L++List.replicate (Z f - Z L) 0).toArray);rw[grow_empty] at t;exact t.block k X (fun e=>ar (kg e))
  have B2:cI q w.heap.size (J a i c) (J b (Z f) cb) (J l p m):=(ab _ B7.lt al).trans B7;have R:cI q (w.heap.size+1+1) (J O 0 0) (J O 0 0) (J O 0 0):=(ab _ H.lt al).trans H;have D:da w q:=by rw[K];exact Us _ F F.size al
  obtain⟨p0,p1,p2⟩:=B2.cells;obtain⟨r0,r1,r2⟩:=R.cells;have r:=R.fz;have RI:=r 0;have RH:=r 1;have RG:=r 2;have S:=Fa (R.put (J a i c) (J (I ⟨g,0,O⟩) (Z L) cap) (J O 0 0));have Y:=Fa (eJ D (show w.heap.size<=w.heap.size+1+1 by omega) (J a i c) (J (I ⟨g,0,O⟩) (Z L) cap) (J O 0 0));have Vd:=Fa (((ae.off (g:=w.heap.size+1+1) (j:=0) (y:=J a i c) (fun g' o' e _=>by cases e;omega)).off (g:=w.heap.size+1+1) (j:=1) (y:=J (I ⟨g,0,O⟩) (Z L) cap) (fun g' o' e _=>by cases e;omega)).off (g:=w.heap.size+1+1) (j:=2) (y:=J O 0 0) (fun g' o' e _=>by cases e;omega));clear r B2 R D ae ab yB K;go_wp2;refine cN (S.o.result1 rfl _ rfl) rfl ?_;exact⟨I ⟨g,0,O⟩,cap,rfl,Vd.o,jb.at al,Y.o⟩
variable {F:List (Int×Int)}
def j9 (w:wA) (a:Kd) (F:List (Int×Int)):Prop:=∀k (h:k<Z F),∃g o,a=I ⟨g,o,O⟩/\g<w.heap.size/\w.cell? ⟨g,o+k*2,O⟩=I (E yR F[k].1)/\w.cell? ⟨g,o+k*2+1,O⟩=I (E yR F[k].2)
theorem j9.aa (h:j9 w a F) (c:da w w'):j9 w' a F:=fun k i=>by
 obtain⟨g,o,d,b,e,f⟩:=h k i;exact⟨g,o,d,aT b c.size,(c.cell (p:=⟨g,_,O⟩) b).trans e,(c.cell (p:=⟨g,_,O⟩) b).trans f⟩
theorem j9.take (h:j9 w a F) (i:Nat):j9 w a (F.take i):=fun k j=>by
 have c:k<Z F:=by rw[eZ] at j;omega
 obtain⟨g,o,b,d,e,f⟩:=h k c;rw[x4];exact⟨g,o,b,d,e,f⟩
theorem apN (a:Kd) (ca f:Nat) (lb:Array wQ) (F:List (Int×Int)) (p:Int×Int ->Bool) (w:wA) (h:j9 w a F) (M:Z F<=1000) (B7:∀x w,(callFunc f x).run prog w=.ok (.enter f x) w)
  (u:∀q∈F,∀U:wA,da w U ->c6 f (#[zp #[E yR q.1,E yR q.2]]++lb) U fun e w'=>e=yk (zd (p q))/\da U w'):
  c6 153 #[J a (Z F) ca,.func (.func f) #[] lb] w fun e w'=>∃j:Int,e=yk (E yR j)/\decide (0<=j)=F.any p/\da w w':=by
 have y:=Fa h;have P:=Fa u
 have B6:we ((∀i (c:i<Z F),p F[i]=x3) ->F.any p=x3):=fun d=>J4.2 fun q z=>by
  obtain⟨i,c,rfl⟩:=iQ z;rw[d i c];decide
 have Y:we (∀i (c:i<Z F),p F[i]=xq ->F.any p=xq):=fun i c d=>rV.2 ⟨_,bQ c,d⟩;clear h u;generalize F.any p=R at *;go_enter func153,ntmps153;go_wp2_with fail
 go_loopw [8] (fun iv wr=>∃i:Nat,i<=Z F/\iv=E yR i/\we (∀j (b:j<Z F),j< i ->p F[j]=x3)/\we (da w wr)) (fun iv _=>Z F - (intOf iv).toNat)
 case atStart=>exact⟨0,aX _,rfl,(fun j _ b=>absurd b al),aw _ _⟩
 case round=>
  obtain⟨i,c,rfl,m,H⟩:=hrel;by_cases l:i<Z F
  ·obtain⟨g,o,rfl,t,n,r⟩:=y.o i l;have B2:=(H.o.cell (p:=⟨g,_,O⟩) t).trans n;have Q:=(H.o.cell (p:=⟨g,_,O⟩) t).trans r;have k:=Fa (P.o F[i] (bQ l) wr H.o);have D:=Fa (Y.o i l)
   have A:we (p F[i]=x3 ->∀j (b:j<Z F),j<i+1 ->p F[j]=x3):=fun e j b T=>by
    rcases dR j i with s |s
    ·exact m.o j b s
    ·obtain rfl:j=i:=al
     exact e
   clear n r;generalize p F[i]=q at *;generalize F[i].1=K at *;generalize F[i].2=L at *;go_wp2_with fail
   refine k.o.af ?_;rintro e S ⟨rfl,v⟩;have B1:=Fa (H.o.trans (v.af H.o.size));clear v k;cases q with
   |true=>
    have B9:=Fa (D.o rfl);go_wp2;go_ret;exact⟨(i:Nat),rfl,by rw[B9.o];simp,B1.o⟩
   |false=>
    have B9:=Fa (A.o rfl);go_wp2;go_roundw
    case rel=>exact⟨i+1,al,bd,B9,B1⟩
    case measure=>simp[intOf];omega
  ·obtain rfl:i=Z F:=al
   have B9:=Fa (B6.o fun j b=>m.o j b b);go_wp2;go_ret;exact⟨-1,rfl,by rw[B9.o];rfl,H.o⟩
theorem ah3 (a:Kd) (ca f:Nat) (lb:Array wQ) (F:List (Int×Int)) (p:Int×Int ->Bool) (w:wA) (h:j9 w a F) (n:Z F<=1000) (i:∀g w,(callFunc f g).run prog w=.ok (.enter f g) w)
  (c:∀q∈F,∀U:wA,da w U ->c6 f (#[zp #[E yR q.1,E yR q.2]]++lb) U fun e w'=>e=yk (zd (p q))/\da U w'):
  c6 96 #[J a (Z F) ca,.func (.func f) #[] lb] w (dj w (zd (F.any p))):=by
 have B7:=Fa (apN a ca f lb F p w h n i c);clear h c;generalize F.any p=R at *;go_enter func96,ntmps96;go_wp2_with fail
 refine B7.o.af ?_;rintro e k ⟨j,rfl,b,d⟩;have H:=Fa d;have B6:=Fa b;clear d b;go_wp2;go_ret;exact⟨by rw[<- B6.o];rfl,H.o⟩
theorem apH (q:Int×Int) (v:Int) (B:Nat) (w:wA) (h:B<w.heap.size) (c:AJ w ⟨B,0,O⟩=I (E yR v)):
  c6 137 #[zp #[E yR q.1,E yR q.2],zZ (I ⟨B,0,O⟩)] w (dj w (zd (q.1==v))):=by
 obtain⟨a,b⟩:=q;have A:=Fa ((aw w.heap.size w).alloc (ak _) (yd #[E yR a,E yR b] 30));have d:=(A.o.cell (p:=⟨B,0,O⟩) h).trans c;show c6 137 #[zp #[E yR a,E yR b],zZ (I ⟨B,0,O⟩)] w fun e w'=>e=yk (zd (a==v))/\da w w';clear c;go_enter func137,ntmps137;go_wp2
 all_goals (go_ret;exact⟨by simp_all,A.o⟩)
theorem X9 (a:Kd) (ca:Nat) (F:List (Int×Int)) (v:Int) (w:wA) (h:j9 w a F) (n:Z F<=1000):
  c6 82 #[J a (Z F) ca,E yR v] w (dj w (zd (F.any fun p=>p.1==v))):=by
 have A:=(aw w.heap.size w).alloc (ak _) (yd #[E yR v] 3);have x:=bE w 3 (E yR v);have f:=Fa (ah3 a ca 137 #[zZ (I ⟨w.heap.size,0,O⟩)] F (fun p=>p.1==v) _ (h.aa A) n (enters_of func137 ao rfl) (fun q _ U b=>apH q v w.heap.size U (aT x.lt b.size) ((b.cell (p:=⟨w.heap.size,0,O⟩) x.lt).trans x.cell)));have H:=Fa A;clear h A x;generalize (F.any fun p=>p.1==v)=R at *;go_enter func82,ntmps82;go_wp2_with fail
 refine f.o.af ?_;rintro e g ⟨rfl,c⟩;have d:=Fa (H.o.trans (c.af H.o.size));clear c;go_wp2;go_ret;exact⟨rfl,d.o⟩
variable {tv u1 u2:wQ}
theorem aaa (W:wA) (b:Option Nat):W.grownBy W b:=World.grownBy.refl _ _
theorem aab {W V:wA} {b:Option Nat} (h:W.grownBy V b) (a:da V V'):W.grownBy V' b:=
 ⟨a.os.trans h.os,a.tape.trans h.tape,a.output.trans h.output,aO h.size a.size,fun k c e=>(a.block k (aT c h.size)).trans (h.block k c e)⟩
theorem Pg {W V:wA} {b r:Option Nat} (h:W.grownBy V b) (g:V.grownBy V' r) (c:∀k,r=I k ->W.heap.size<=k):W.grownBy V' b:=
 ⟨g.os.trans h.os,g.tape.trans h.tape,g.output.trans h.output,aO h.size g.size,fun k a n=>(g.block k (aT a h.size) fun e=>by have:=c k e.symm;omega).trans (h.block k a n)⟩
theorem TR {W V:wA} {b:Nat} (h:W.grownBy V (I b)) (j:Nat) (y:wQ):W.grownBy (AF V ⟨b,j,O⟩ y) (I b):=by
 have a:=(aw 0 V).setCell (p:=⟨b,j,O⟩) (aX _) y;exact⟨a.os.trans h.os,a.tape.trans h.tape,a.output.trans h.output,aO h.size a.size,fun k c n=>(eO V ⟨b,j,O⟩ y k (fun e=>n (by rw[e]))).trans (h.block k c n)⟩
theorem Pe {W V:wA} {b B:Nat} (d:Below B w W) (h:W.grownBy V (I b)) (c:B<=b) (a:B<=W.heap.size):Below B w V:=d.grown h a (fun k e=>by cases e;exact c)
theorem dE.off {d:Kd} {l:List Fr} (h:dE w d l) (p:∀g' o',d=I ⟨g',o',O⟩ ->l≠[] ->g'≠g):dE (AF w ⟨g,j,O⟩ y) d l:=fun k c=>by
 obtain⟨g',o',e,n,f,i,m⟩:=h k c;have o:=p g' o' e (fun e=>by rw[e] at c;exact absurd c aE);have b:(AF w ⟨g,j,O⟩ y).heap[g']? =w.heap[g']?:=eO w ⟨g,j,O⟩ y g' o;exact⟨g',o',e,aT n (kh w _ _).size,(iE (a:=⟨g',_,O⟩) b).trans f,(iE (a:=⟨g',_,O⟩) b).trans i,(iE (a:=⟨g',_,O⟩) b).trans m⟩
theorem bL.off {x:wQ} {t:Tb} (h:bL w x y t) (u:wQ) (a:iC g t (x,y)):bL (AF w ⟨g,j,O⟩ u) x y t:=by
 obtain⟨b,c,cb,cc,rfl,rfl,d,f,i⟩:=h;exact⟨b,c,cb,cc,rfl,rfl,d.off (fun g' o' e n=>a.1 g' o' _ _ (by rw[e]) n),f.off (fun g' o' e n=>a.2 g' o' _ _ (by rw[e]) n),i⟩
theorem nT.off {B:Nat} {v:wQ} {Q:List (wQ×wQ)} {P:List Tb} (h:nT w B v Q P) (u:wQ) (f:∀k (h:k<Z P) (c:k<Z Q),iC g P[k] Q[k]) (e:v.ownBlock≠I g):nT (AF w ⟨g,j,O⟩ u) B v Q P:=
 ⟨h.len,QK h.own e u,fun k a b=>(h.val k a b).off u (f k a b),h.far⟩
theorem Xm {B:Nat} {e:TypeId} {s:Nat} (h:w.ownsRow B e s (J a m c) n xs):jb B a c:=by
 rcases h.2 with ⟨b,d⟩ |⟨g,cap,r,b,d,_⟩
 ·injection b with h3 h4 h5;subst h3 h5;exact jb.nil B
 ·injection b with h3 h4 h5;subst h3;exact jb.at d
theorem Re {o:Oper} {a:Act} (p:o.guard=O) (s x:Operand)
  (d:o.op=.call {callee:=.builtin .append,args:= #[s,x],argTypes:= #[175,175]}) (base:Nat) (v:wQ) (n:Nat) (xs:List wQ) (u1 u2:wQ) (hs:a.eval s=v) (D:w.ownsRow base 38 2 v n xs) (g:Nat) (e:a.eval x=J (I ⟨g,0,O⟩) 1 1) (h0:AJ w ⟨g,0,O⟩=I u1) (h1:AJ w ⟨g,1,O⟩=I u2) (q:bW u1) (t:bW u2) (F:n+1<=100000) (B9:base<=w.heap.size)
  (h:∀v' w',w'.ownsRow base 38 2 v' (n+1) (xs++[u1,u2]) ->w.grownBy w' v.ownBlock ->(v'.ownBlock=v.ownBlock∨∀k,v'.ownBlock=I k ->w.heap.size<=k) ->wpList prog ops Q rest (a.put o.dst v') w'):wpList prog ops Q (o::rest) a w:=by
 obtain⟨i,H,z,y,A⟩:=eo Tryz.infoTable
 obtain⟨v',w',r,f,l,m⟩:=WR (P:=prog) w base 175 o.type 38 i (zp #[J O 0 0,J O 0 0]) 2 48 underlying175 H z y A rfl a6 v n xs D ⟨g,0,O⟩ 1 1 [u1,u2] rfl (fun j u b=>by
  match j,b with
  |0,b=>cases b;exact h0
  |1,b=>cases b;exact h1
  |j+2,b=>simp at b) (fun u c=>by
  simp only[bU,gw,jf] at c;rcases c with rfl |rfl
  ·obtain⟨_,_,_,rfl⟩:=q;rfl
  ·obtain⟨_,_,_,rfl⟩:=t;rfl) (by unfold maxLen;omega) al B9 a6
 refine wpList_plain p fun _ K=>?_;unfold Oper.wp execOp;simp only[d,resolve,invoke,builtin,JQ,zi,wG,JV,fR,om,hs,e,r];exact K _ _ (h v' w' f l m)
structure vW (lo:Nat) (W:wA) (b:Nat) (x y:wQ) (tv:wQ) (Q:List (wQ×wQ)) (P:List Tb) (V:wA):Prop where
 box:cI V b x y tv
 own:nT V W.heap.size tv Q P
 far:∀R,lo<=R ->R<=b ->∀k (h:k<Z P) (h':k<Z Q),iC R P[k] Q[k]
 fr:W.grownBy V (I b)
theorem vW.start {W:wA} {b:Nat} {x:wQ} (h:cI W b x y (J O 0 0)):vW lo W b x y (J O 0 0) [] [] W:=⟨h,nT.nil _ _,(fun R _ _ k h=>absurd h aE),aaa _ _⟩
theorem vW.under {W V:wA} {b:Nat} {x:wQ} {Q:List (wQ×wQ)} {P:List Tb} (h:vW lo W b x y tv Q P V) (a:da V V'):vW lo W b x y tv Q P V':=⟨h.box.aa a h.box.lt,h.own.under a,h.far,aab h.fr a⟩
theorem vW.push {W V:wA} {b:Nat} {x X:wQ} {Q:List (wQ×wQ)} {P:List Tb} {t:Tb} (h:vW lo W b x y tv Q P V) (s:lo<=b) (u:b<W.heap.size) (q:bL V u1 u2 t) (m:∀R,tv.ownBlock=I R ->iC R t (u1,u2)) (r:∀R,lo<=R ->R<=b ->iC R t (u1,u2)) (p:V'.ownsRow W.heap.size 38 2 X (Z P+1) (fS Q++[u1,u2])) (g:V.grownBy V' tv.ownBlock) (o:X.ownBlock=tv.ownBlock∨∀k,X.ownBlock=I k ->V.heap.size<=k):
  vW lo W b x y X (Q++[(u1,u2)]) (P++[t]) (AF V' ⟨b,2,O⟩ X):=by
 have a:∀k,tv.ownBlock=I k ->W.heap.size<=k:=fun k e=>(h.own.lt k e).1;have B2:=h.own.push q m p g o;have l:cI V' b x y tv:=(g.block b h.box.lt (fun e=>by have:=a b e.symm;omega)).trans h.box
 have n:∀R,lo<=R ->R<=b ->∀k (f:k<Z (P++[t])) (j:k<Z (Q++[(u1,u2)])),iC R (P++[t])[k] (Q++[(u1,u2)])[k]:=fun R B7 c k f j=>by
  by_cases d:k<Z P
  ·have i:k<Z Q:=by rw[h.own.len];exact d
   rw[ou i,ou d];exact h.far R B7 c k d i
  ·have i:¬k<Z Q:=by rw[h.own.len];exact d
   rw[uj al,uj al];simp only[QX];exact r R B7 c
 refine⟨l.set2 X,B2.off _ (n b s (ak _)) (fun e=>?_),n,TR (Pg h.fr g a) _ _⟩;have:=(B2.lt b e).1;omega
theorem ahl (a:Kd) (ca:Nat) (S:Jp) (x y:wQ) (t:Tb) (v z:Nat) (w:wA) (R:fJ (iL S)) (hs:aC w a (iL S)) (h:bL w x y t) (o:dC S (Z S) t) (k:Cw 100000 t.2) (j:v<Z S) (l:z<sz S v):
  c6 117 #[J a (Z S) ca,zp #[x,y],E yR (v:Nat),E yR (z:Nat)] w fun e w'=>Gp w.heap.size (eB S v z t) e w'/\da w w':=by
 obtain⟨b,c,cb,cc,rfl,rfl,g,i,n⟩:=h;have f:=R.eight;rw[bM] at f;have m:=o.small R;have:=akE a b c ca cb cc (iL S) t.1 t.2 v z w hs g i (by rw[bM];omega) al (o.check R) k (by rw[bM];exact j) (by rw[jL];exact l);rw[bM,jL] at this;exact this.af fun e w' d=>⟨xG.tb (t:=eB S v z t) d.1,d.2⟩
theorem amZ (a b t:Kd) (ca cb B9:Nat) (S:Jp) (f:Kx) (P:List Tb) (D c v z:Nat) (w:wA) (aR:fJ (iL S)) (hs:aC w a (iL S)) (hb:aC w b f) (hP:jt w t P) (bF:ir S (Z S) P D c) (bb:Z P<=1000) (kV:Z f<=1000) (hm:2*(B D).size+(B c).size+2<=8192) (hv:v<Z S) (hz:z<sz S v):
  c6 151 #[zp #[J a (Z S) ca,J b (Z f) cb,J t (Z P) B9],zp #[E yR (v:Nat),E yR (z:Nat)]] w fun e w'=>∃d h t' gO,e=yk (zp #[J a (Z S) ca,J d (Z (bY f v)) h,J t' (Z P) gO])/\aC w' d (bY f v)/\jt w' t' (P.map (eB S v z))/\jb w.heap.size t' gO/\da w w':=by
 have fC:Pos S:=by have:=aR.pos;rwa [jL] at this
 have l8:=Fa (fun (U:wA) (hU:da w U)=>adP (J a (Z S) ca) (J t (Z P) B9) b cb f (v:Int) U (slv _ _ _) (slv _ _ _) (hb.aa hU) kV);have xT:we (∀(k:Nat) (B2:k<Z P) (x y:wQ) (U:wA),da w U ->bL U x y P[k] ->c6 117 #[J a (Z S) ca,zp #[x,y],E yR (v:Nat),E yR (z:Nat)] U fun e w'=>Gp U.heap.size (eB S v z P[k]) e w'/\da U w'):=fun k B2 x y U hU B6=>ahl a ca S x y _ v z U aR (hs.aa hU) B6 (bF.ok _ (bQ B2)) ((bF.cw fC hm P[k] (bQ B2)).up a6) hv hz;have HP:=Fa hP;clear hs hb hP bF aR fC hm hz;go_enter func151,ntmps151;go_wp2_with fail
 have ab:da w (AC (AC (AC w (yd #[J a (Z S) ca,J b (Z f) cb,J t (Z P) B9] 177)) (yd #[E yR (v:Nat),E yR (z:Nat)] 30)) (yd #[J O 0 0,J O 0 0,J O 0 0] 177)):=by
  have B6:=(aw w.heap.size w).alloc (ak _) (yd #[J a (Z S) ca,J b (Z f) cb,J t (Z P) B9] 177);have h2:=B6.alloc B6.size (yd #[E yR (v:Nat),E yR (z:Nat)] 30);exact h2.alloc h2.size _
 have Ad:cI (AC (AC (AC w (yd #[J a (Z S) ca,J b (Z f) cb,J t (Z P) B9] 177)) (yd #[E yR (v:Nat),E yR (z:Nat)] 30)) (yd #[J O 0 0,J O 0 0,J O 0 0] 177)) w.heap.size (J a (Z S) ca) (J b (Z f) cb) (J t (Z P) B9):=((cI.at (w:=w) rfl _ _ _).alloc _).alloc _
 have aj:(AC (AC (AC w (yd #[J a (Z S) ca,J b (Z f) cb,J t (Z P) B9] 177)) (yd #[E yR (v:Nat),E yR (z:Nat)] 30)) (yd #[J O 0 0,J O 0 0,J O 0 0] 177)).heap[w.heap.size+1]? =I (yd #[E yR (v:Nat),E yR (z:Nat)] 30 (0,0)):=by
  rw[uY _ _ _ aE];have:=dU (AC w (yd #[J a (Z S) ca,J b (Z f) cb,J t (Z P) B9] 177)) (yd #[E yR (v:Nat),E yR (z:Nat)] 30);rwa [eW] at this
 have ly:cI (AC (AC (AC w (yd #[J a (Z S) ca,J b (Z f) cb,J t (Z P) B9] 177)) (yd #[E yR (v:Nat),E yR (z:Nat)] 30)) (yd #[J O 0 0,J O 0 0,J O 0 0] 177)) (w.heap.size+1+1) (J O 0 0) (J O 0 0) (J O 0 0):=cI.at (w:=AC (AC w (yd #[J a (Z S) ca,J b (Z f) cb,J t (Z P) B9] 177)) (yd #[E yR (v:Nat),E yR (z:Nat)] 30)) aE _ _ _;have Ji:=Fa (l8.o _ ab);clear l8;generalize (AC (AC (AC w (yd #[J a (Z S) ca,J b (Z f) cb,J t (Z P) B9] 177)) (yd #[E yR (v:Nat),E yR (z:Nat)] 30)) (yd #[J O 0 0,J O 0 0,J O 0 0] 177))=W0 at *;refine Ji.o.af ?_;rintro e m ⟨d,h,rfl,IK,Oo,K⟩;have a1:=ly.lt;have lA:=(aw m.heap.size m).alloc (ak _) (yd #[J a (Z S) ca,J d (Z (bY f v)) h,J O 0 0] 177);have kR:(AC m (yd #[J a (Z S) ca,J d (Z (bY f v)) h,J O 0 0] 177)).heap.size=m.heap.size+1:=aE
 have fN:=(ab.trans (K.af ab.size)).trans (lA.af (aO ab.size K.size));have IZ:=(Ad.aa K Ad.lt).alloc (yd #[J a (Z S) ca,J d (Z (bY f v)) h,J O 0 0] 177);have yH:=(ly.aa K ly.lt).alloc (yd #[J a (Z S) ca,J d (Z (bY f v)) h,J O 0 0] 177)
 have an:(AC m (yd #[J a (Z S) ca,J d (Z (bY f v)) h,J O 0 0] 177)).heap[w.heap.size+1]? =I (yd #[E yR (v:Nat),E yR (z:Nat)] 30 (0,0)):=by
  rw[uY _ _ _ (by have:=K.size;omega),K.block _ al];exact aj
 have rE:vW w.heap.size (AC m (yd #[J a (Z S) ca,J d (Z (bY f v)) h,J O 0 0] 177)) m.heap.size (J a (Z S) ca) (J d (Z (bY f v)) h) (J O 0 0) [] [] (AC m (yd #[J a (Z S) ca,J d (Z (bY f v)) h,J O 0 0] 177)):=vW.start (cI.at (w:=m) rfl (J a (Z S) ca) (J d (Z (bY f v)) h) (J O 0 0));have O7:=IK.aa lA;have bf:=K.size
 have aq:we (∀g o,d=I ⟨g,o,O⟩ ->bY f v≠[] ->I g≠I m.heap.size):=fun g o e aM e2=>by
  obtain⟨g',o',e',iA,_⟩:=IK 0 (by cases hl:bY f v with |nil=>exact absurd hl aM |cons x l=>simp);rw[e] at e';cases e';cases e2;omega
 have rO:we (∀g o,d=I ⟨g,o,O⟩ ->bY f v≠[] ->g≠w.heap.size+1+1):=fun g o e _ e2=>by
  have:=Oo.2 g o e;omega
 clear IK Oo K ab Ad aj ly lA Ji;have gj:=Fa fN;have Eu:=Fa IZ;have jI:=Fa yH;have CB:=Fa an;have rP:=Fa rE;have Jz:=Fa O7;have yC:=IZ.cells.2.2;clear fN IZ yH an rE O7;generalize Lq:bY f v=L at *;have Qr:=Fa Lq;clear Lq;go_wp2_with fail
 generalize (AC m (yd #[J a (Z S) ca,J d (Z L) h,J O 0 0] 177))=M at *;clear yC;obtain⟨T,V⟩:∃T:Nat ->List Tb,∀k,(P.take k).map (eB S v z)=T k:=⟨fun k=>(P.take k).map (eB S v z),fun _=>rfl⟩;have xN:we (T 0=[]):=by show _=_;rw[<- V];rfl
 have Ck:we (∀k (B2:k<Z P),T (k+1)=T k++[eB S v z P[k]]):=fun k B2=>by rw[<- V, <- V,ig B2,gK];rfl
 have sY:we (T (Z P)=P.map (eB S v z)):=by show _=_;rw[<- V,iP]
 have Ej:we (∀k,k<=Z P ->Z (T k)=k):=fun k B2=>by rw[<- V,dm,eZ];omega
 clear V;go_loopw [17] (fun iv wr=>∃(i:Nat) (tv:wQ) (Q:List (wQ×wQ)),i<=Z P/\iv=E yR i/\we (vW w.heap.size M m.heap.size (J a (Z S) ca) (J d (Z L) h) tv Q (T i) wr)) (fun iv _=>Z P - (intOf iv).toNat)
 case atStart=>exact⟨0,_,_,aX _,rfl,by rw[xN.o];exact rP⟩
 case round=>
  obtain⟨i,tv,Q,hi,rfl,H⟩:=hrel;have Du:=H.o.fr.size;have HB:we (da w wr):=Pe gj.o H.o.fr al al;have Qf:we (cI wr w.heap.size (J a (Z S) ca) (J b (Z f) cb) (J t (Z P) B9)):=(H.o.fr.block _ Eu.o.lt (fun e=>by have:=kg e;omega)).trans Eu.o;have tV:we (cI wr (w.heap.size+1+1) (J O 0 0) (J O 0 0) (J O 0 0)):=(H.o.fr.block _ jI.o.lt (fun e=>by have:=kg e;omega)).trans jI.o;have ao:we (wr.heap[w.heap.size+1]? =I (yd #[E yR (v:Nat),E yR (z:Nat)] 30 (0,0))):=(H.o.fr.block _ al (fun e=>by have:=kg e;omega)).trans CB.o;by_cases ae:i<Z P
  ·obtain⟨g,o,p,q,rfl,hg,k0,k1,gW⟩:=(HP.o.aa HB.o) i ae;have hA:=(aw wr.heap.size wr).alloc (ak _) (TC p q);have dQ:=Fa (HB.o.trans (hA.af HB.o.size));(have Dm:(wr.alloc (TC p q)).heap.size=wr.heap.size+1:=aE);have O3:=Qf.o.alloc (TC p q);have ar:=O3.cells.1;have ZV:(wr.alloc (TC p q)).heap[w.heap.size+1]? =I (yd #[E yR (v:Nat),E yR (z:Nat)] 30 (0,0)):=(uY _ _ _ al).trans ao.o;(have Ua:AJ (wr.alloc (TC p q)) ⟨w.heap.size+1,0,O⟩=I (E yR (v:Nat)):=by rw[a8 _ _ 0 _ _ (0,0) ZV];rfl);(have az:AJ (wr.alloc (TC p q)) ⟨w.heap.size+1,1,O⟩=I (E yR (z:Nat)):=by rw[a8 _ _ 1 _ _ (0,0) ZV];rfl);have bt:=bh.at (w:=wr) rfl p q;have b0:=bt.c0;have b1:=bt.c1;have mP:=Fa (H.o.under hA);have HX:=Fa (xT.o i ae p q _ dQ.o (gW.aa hA));have ay:=Fa (Ck.o i ae);have uI:=Ej.o i hi;obtain⟨ps,pn,pc,rfl⟩:=gW.slices.1;obtain⟨qs,qn,qc,rfl⟩:=gW.slices.2;have Ew:we (∀R,tv.ownBlock=I R ->M.heap.size<=R/\R<wr.heap.size):=H.o.own.lt;clear gW hA bt O3 ZV;generalize eB S v z P[i]=ft at *;go_wp2_with fail
   refine HX.o.af ?_;rintro e F ⟨⟨x2,y2,rfl,ad,iX⟩,eR⟩;obtain⟨xs,r,n,rfl⟩:=ad.slices.1;obtain⟨A,u,s,rfl⟩:=ad.slices.2;rw[Dm] at iX;have S3:=eR.size;rw[Dm] at S3;have pX:=Fa (mP.o.under eR);have B3:=(aw F.heap.size F).alloc (ak _) (TC (J xs r n) (J A u s));have pW:=Fa (pX.o.under B3);(have K6:(F.alloc (TC (J xs r n) (J A u s))).heap.size=F.heap.size+1:=aE);have IU:=bh.at (w:=F) rfl (J xs r n) (J A u s);have aW:=IU.c0;have aZ:=IU.c1;have bg:=pW.o.box.cells.2.2;have Z3:=(aw (F.alloc (TC (J xs r n) (J A u s))).heap.size (F.alloc (TC (J xs r n) (J A u s)))).alloc (ak _) (TC (J xs r n) (J A u s));have Qn:=Fa (pW.o.under Z3);have PZ:=Fa ((ad.aa B3).aa Z3);have Zl:=bh.at (w:=F.alloc (TC (J xs r n) (J A u s))) K6 (J xs r n) (J A u s);have ax:=Fa Zl.c0;have av:=Fa Zl.c1;have AA:=Fa ad.slices;have pV:=Fa iX;have GG:we (M.heap.size<=((F.alloc (TC (J xs r n) (J A u s))).alloc (TC (J xs r n) (J A u s))).heap.size):=Qn.o.fr.size;have aJ:=rP.o.box.lt;clear ad eR B3 Z3 IU Zl iX HX mP k0 k1 b0 b1 ar Ua az
   have ai:∀(X:wQ) (B7:wA),B7.ownsRow M.heap.size 38 2 X (Z (T i)+1) (fS Q++[J xs r n,J A u s]) ->((F.alloc (TC (J xs r n) (J A u s))).alloc (TC (J xs r n) (J A u s))).grownBy B7 tv.ownBlock ->(X.ownBlock=tv.ownBlock∨∀k,X.ownBlock=I k ->((F.alloc (TC (J xs r n) (J A u s))).alloc (TC (J xs r n) (J A u s))).heap.size<=k) ->(∃a' n' c',X=Value.slice a' n' c')/\(vW w.heap.size M m.heap.size (J a (Z S) ca) (J d (Z L) h) X (Q++[(J xs r n,J A u s)]) (T (i+1)) (AF B7 ⟨m.heap.size,2,O⟩ X))/\B7.cell? ⟨m.heap.size,2,O⟩=I tv/\B7.frozen? ⟨m.heap.size,2,O⟩=false:=fun X B7 iz gX jo=>by
    have hM:=Qn.o.push al aJ PZ.o (fun R hR=>pV.o R (by have:=(Ew.o R hR).2;omega)) (fun R _ hR=>pV.o R al) iz gX jo;rw[<- ay.o] at hM;have Gc:cI B7 m.heap.size (J a (Z S) ca) (J d (Z L) h) tv:=(gX.block _ Qn.o.box.lt (fun e=>by have:=(Ew.o _ e.symm).1;omega)).trans Qn.o.box;refine⟨?_,hM,Gc.cells.2.2,Gc.fz 2⟩;rcases iz.2 with ⟨B6,_⟩ |⟨g',bp,br,B6,_⟩
    ·exact⟨_,_,_,B6⟩
    ·exact⟨_,_,_,B6⟩
   have HKEY:=Fa ai;clear ai;go_wp2_with (at_builtin;refine Re rfl _ _ rfl M.heap.size tv (Z (T i)) (fS Q) (J xs r n) (J A u s) rfl Qn.o.own.own (F.heap.size+1) rfl ax.o av.o AA.o.1 AA.o.2 al GG.o ?_;intro X B7 iz gX jo;obtain⟨⟨Bc,bo,A9,rfl⟩,Af,bu,bs⟩:=HKEY.o X B7 iz gX jo;have rQ:=Fa Af;clear Af iz gX jo)
   go_roundw
   case rel=>exact⟨i+1,_,_,al,bd,rQ⟩
   case measure=>simp[intOf];omega
  ·obtain rfl:i=Z P:=al
   rw[sY.o] at H;obtain⟨Y,B1,rfl,FE⟩:=H.o.own.row;obtain⟨x0,x1,x2⟩:=H.o.box.cells;obtain⟨r0,r1,r2⟩:=tV.o.cells;have RI:=tV.o.fz 0;have RH:=tV.o.fz 1;have RG:=tV.o.fz 2;(have vF:Z (P.map (eB S v z))=Z P:=aE);rw[vF] at H x2;have O6:aC wr d L:=NY Jz.o aq.o H.o.fr;have Ep:=Fa (tV.o.put (J a (Z S) ca) (J d (Z L) h) (J Y (Z P) B1));have wC:=Fa (eJ HB.o (show w.heap.size<=w.heap.size+1+1 by omega) (J a (Z S) ca) (J d (Z L) h) (J Y (Z P) B1))
   have jJ:Value.ownBlock (J Y (Z P) B1)≠I (w.heap.size+1+1):=fun e=>by
    have:=(H.o.own.lt _ e).1;omega
   have F9:=((H.o.own.off (g:=w.heap.size+1+1) (j:=0) (J a (Z S) ca) (H.o.far _ al al) jJ).off (g:=w.heap.size+1+1) (j:=1) (J d (Z L) h) (H.o.far _ al al) jJ).off (g:=w.heap.size+1+1) (j:=2) (J Y (Z P) B1) (H.o.far _ al al) jJ;obtain⟨bk,bm,e2,FD⟩:=F9.row;rw[vF] at e2;injection e2 with e3 e4 e5;subst e3 e5;clear e4;have tP:=Fa FD;have Cz:=Fa (((O6.off (g:=w.heap.size+1+1) (j:=0) (y:=J a (Z S) ca) rO.o).off (g:=w.heap.size+1+1) (j:=1) (y:=J d (Z L) h) rO.o).off (g:=w.heap.size+1+1) (j:=2) (y:=J Y (Z P) B1) rO.o);have dO:=Fa ((Xm H.o.own.own).up (show w.heap.size<=M.heap.size by omega));clear F9 FD O6 FE;go_wp2;refine cN (Ep.o.result1 rfl _ rfl) rfl ?_;have e6:=Qr.o;subst e6;exact⟨d,h,Y,B1,rfl,Cz.o,tP.o,dO.o,wC.o⟩
variable {Q2:List (wQ×wQ)} {P2:List Tb} {wv:wQ}
theorem agR {t:Tb} (h:Up t.1 n):t.1.contains (v:Int)=decide (v∈ag t.1):=by
 have:(v:Int)∈t.1↔v∈ag t.1:=by
  rw[ag,aQ];constructor
  ·intro a;exact⟨_,a,aE⟩
  ·rintro⟨x,b,e⟩;have:=((dY.1 h).1 x b).1;rw[show (v:Int)=x by omega];exact b
 by_cases a:v∈ag t.1
 ·rw[cJ a,CT];exact this.2 a
 ·rw[cT a, <- MV,CT];exact fun e=>a (this.1 e)
theorem ad7 (a:Kd) (ca:Nat) (S:Jp) (x y:wQ) (t:Tb) (v:Nat) (m:Bool) (w:wA) (R:fJ (iL S)) (hs:aC w a (iL S)) (h:bL w x y t) (o:dC S (Z S) t) (k:Cw 8192 t.2) (j:v<Z S) (u:v∈ag t.1):
  c6 107 #[J a (Z S) ca,zp #[x,y],E yR (v:Nat),zd m] w fun e w'=>Gp w.heap.size (outT S v m t) e w'/\da w w':=by
 obtain⟨b,c,cb,cc,rfl,rfl,g,i,p⟩:=h;have l:=R.eight;rw[bM] at l;have n:=o.small R;have f:t.1.contains (v:Int)=true:=by rw[agR o.up,cJ u]
 cases m with
 |false=>
  have:=aky a b c ca cb cc (iL S) t.1 t.2 v w hs g i (by rw[bM];omega) al (o.check R) k f (by rw[bM];exact j);rw[bM,jL] at this;exact this.af fun e w' d=>⟨xG.tb (t:=outT S v x3 t) d.1,d.2⟩
 |true=>
  have:=akz a b c ca cb cc (iL S) t.1 t.2 v w hs g i (by rw[bM];omega) al (o.check R) k f (by rw[bM];exact j);rw[bM,jL] at this;exact this.af fun e w' d=>⟨xG.tb (t:=outT S v xq t) d.1,d.2⟩
theorem R9 {B:Nat} {e:TypeId} {s:Nat} {v:wQ} {r:Option Nat} (h:w.ownsRow B e s v n xs) (f:w.grownBy w' r) (i:∀R,v.ownBlock=I R ->r≠I R):w'.ownsRow B e s v n xs:=by
 refine⟨h.1,?_⟩;rcases h.2 with a |⟨g,cap,u,a,c,b,d⟩
 ·exact yp a
 ·exact xS ⟨g,cap,u,a,c,(f.block g (c5.1 b).1 (fun e=>i g (by rw[a];rfl) e.symm)).trans b,d⟩
theorem uu {B:Nat} {e:TypeId} {s:Nat} {v:wQ} (h:w.ownsRow B e s v n xs):∀R,v.ownBlock=I R ->B<=R/\R<w.heap.size:=fun R a=>by
 rcases h.2 with ⟨b,c⟩ |⟨g,cap,r,b,c,d,_⟩
 ·rw[b] at a;cases a
 ·rw[b] at a;cases a;exact⟨c,(c5.1 d).1⟩
theorem yh {B:Nat} {e:TypeId} {s:Nat} {v:wQ} (h:w.ownsRow B e s v n xs):∃a c,v=J a n c:=by
 rcases h.2 with ⟨b,d⟩ |⟨g,cap,r,b,_⟩
 ·exact⟨O,0,by rw[b,d]⟩
 ·exact⟨_,_,b⟩
structure Ar (w:wA) (Q:List (wQ×wQ)) (P:List Tb):Prop where
 len:Z Q=Z P
 val:∀k (h:k<Z P) (h':k<Z Q),bL w Q[k].1 Q[k].2 P[k]
theorem Ar.nil (w:wA):Ar w [] []:=⟨rfl,fun k h=>absurd h aE⟩
theorem Ar.push {Q:List (wQ×wQ)} {P:List Tb} {x:wQ} {t:Tb} (h:Ar w Q P) (a:bL w x y t):Ar w (Q++[(x,y)]) (P++[t]):=by
 refine⟨by simp[h.len],fun k b c=>?_⟩;by_cases d:k<Z P
 ·have i:k<Z Q:=by rw[h.len];exact d
  rw[ou i,ou d];exact h.val k d i
 ·have i:¬k<Z Q:=by rw[h.len];exact d
  rw[uj al,uj al];simp only[QX];exact a
theorem Ar.owt {V:wA} {B:Nat} {v:wQ} {Q:List (wQ×wQ)} {P:List Tb} (h:Ar w Q P) (e:da w V) (c:w.heap.size<=B) (o:V.ownsRow B 38 2 v (Z P) (fS Q)):nT V B v Q P:=
 ⟨h.len,o,fun k a b=>(h.val k a b).aa e,fun R d k a b=>(h.val k a b).lt (aO c (uu o R d).1)⟩
structure pR (w W:wA) (b:Nat) (x y tv wv:wQ) (Q Q2:List (wQ×wQ)) (P P2:List Tb) (V:wA):Prop where
 box:cI V b x y tv
 own:V.ownsRow W.heap.size 38 2 tv (Z P) (fS Q)
 own2:V.ownsRow W.heap.size 38 2 wv (Z P2) (fS Q2)
 q:Ar w Q P
 q2:Ar w Q2 P2
 ne:∀R,tv.ownBlock=I R ->wv.ownBlock≠I R
 fr:W.grownBy V (I b)
theorem pR.start {W:wA} {b:Nat} {x:wQ} (h:cI W b x y (J O 0 0)):pR w W b x y (J O 0 0) (J O 0 0) [] [] [] [] W:=
 ⟨h,(nT.nil _ _).own,(nT.nil _ _).own,Ar.nil _,Ar.nil _,(fun R e=>by cases e),aaa _ _⟩
theorem pR.under {W V:wA} {b:Nat} {x:wQ} {Q:List (wQ×wQ)} {P:List Tb} (h:pR w W b x y tv wv Q Q2 P P2 V) (a:da V V'):pR w W b x y tv wv Q Q2 P P2 V':=
 ⟨h.box.aa a h.box.lt,KH h.own (Ec.aa a),KH h.own2 (Ec.aa a),h.q,h.q2,h.ne,aab h.fr a⟩
theorem pR.push2 {W V:wA} {b:Nat} {x a:wQ} {Q:List (wQ×wQ)} {P:List Tb} {t:Tb} (h:pR w W b x y tv wv Q Q2 P P2 V) (l:b<W.heap.size) (f:bL w u1 u2 t) (o:V'.ownsRow W.heap.size 38 2 a (Z P2+1) (fS Q2++[u1,u2])) (g:V.grownBy V' wv.ownBlock) (n:a.ownBlock=wv.ownBlock∨∀k,a.ownBlock=I k ->V.heap.size<=k):
  pR w W b x y tv a Q (Q2++[(u1,u2)]) P (P2++[t]) V':=by
 have d:∀k,wv.ownBlock=I k ->W.heap.size<=k:=fun k e=>(uu h.own2 k e).1;refine⟨(g.block b h.box.lt (fun e=>by have:=d b e.symm;omega)).trans h.box,R9 h.own g h.ne,by rw[Nd,cD];exact o,h.q,h.q2.push f,fun R e c=>?_,Pg h.fr g d⟩;rcases n with n |n
 ·rw[n] at c;exact h.ne R e c
 ·have i:=n R c;have j:=(uu h.own R e).2;omega
theorem pR.push1 {W V:wA} {b:Nat} {x X:wQ} {Q:List (wQ×wQ)} {P:List Tb} {t:Tb} (h:pR w W b x y tv wv Q Q2 P P2 V) (p:b<W.heap.size) (j:bL w u1 u2 t) (i:V'.ownsRow W.heap.size 38 2 X (Z P+1) (fS Q++[u1,u2])) (g:V.grownBy V' tv.ownBlock) (n:X.ownBlock=tv.ownBlock∨∀k,X.ownBlock=I k ->V.heap.size<=k):
  pR w W b x y X wv (Q++[(u1,u2)]) Q2 (P++[t]) P2 (AF V' ⟨b,2,O⟩ X)/\cI V' b x y tv:=by
 have d:∀k,tv.ownBlock=I k ->W.heap.size<=k:=fun k e=>(uu h.own k e).1;have c:cI V' b x y tv:=(g.block b h.box.lt (fun e=>by have:=d b e.symm;omega)).trans h.box;have f:V'.ownsRow W.heap.size 38 2 wv (Z P2) (fS Q2):=R9 h.own2 g (fun R e a=>h.ne R a e);have o:V'.ownsRow W.heap.size 38 2 X (Z (P++[t])) (fS (Q++[(u1,u2)])):=by rw[Nd,cD];exact i
 refine⟨⟨c.set2 X,QK o (fun e=>?_) _,QK f (fun e=>?_) _,h.q.push j,h.q2,fun R e a=>?_,TR (Pg h.fr g d) _ _⟩,c⟩
 ·have:=(uu o b e).1;omega
 ·have:=(uu f b e).1;omega
 ·rcases n with n |n
  ·rw[n] at e;exact h.ne R e a
  ·have l:=n R e;have m:=(uu h.own2 R a).2;omega
theorem pR.plm {W V:wA} {b:Nat} {x:wQ} {Q:List (wQ×wQ)} {P:List Tb} (h:pR w W b x y tv wv Q Q2 P P2 V) (e:da w V) (d:w.heap.size<=W.heap.size):vW w.heap.size W b x y tv Q P V:=
 ⟨h.box,h.q.owt e d h.own,fun _ R _ k a c=>(h.q.val k a c).lt R,h.fr⟩
theorem pR.row2 {W V:wA} {b:Nat} {x:wQ} {Q:List (wQ×wQ)} {P:List Tb} (h:pR w W b x y tv wv Q Q2 P P2 V) (e:da w V) (d:w.heap.size<=W.heap.size):∃a c,wv=J a (Z P2) c/\jt V a P2:=(h.q2.owt e d h.own2).row
end Go.Proofs.YtkflnpjapgiajaaGreatDoor
