/- Part4: part 4. -/
import Derived.Test.YtkflnpjapgiajaaGreatDoorLegF3
set_option maxRecDepth 100000
set_option maxHeartbeats 400000000
set_option linter.unusedSimpArgs false
set_option linter.unusedVariables false
namespace Go.Proofs.YtkflnpjapgiajaaGreatDoor
open Value renaming slice→Z,int→J,string→zK,pointer→zR,bool→zZ,agg→zd,tuple→zp
open IntKind renaming i64→I,u32→yE
open Obj renaming cells→yM
open Ending renaming returned→yW
open Or renaming inl→yd,inr→yk
open Option renaming none→N,some→M
open Bool renaming true→y6,false→xd
open Go renaming World→E,Value→wF,undef→wQ
open RowKit renaming Hid→wT
open Go.Proofs.Tryz
open _root_.Array renaming size→O
open World renaming heap→T
open List renaming length→C
open Go.RowKit Go.Shelf
variable {fn:Func} {ds:List Deferred} {B' lo n:Nat} {W':E}
def Shut (lo:Nat):Nat ->List Deferred ->E ->Prop
 |_,[],_=>True
 |B,d::ds,W=>∃r,lo<=r/\r<B/\d= {target:=.collected r,args:= #[]}/\W.heap[r]? =M (.deferred (M []))/\Shut lo r ds W
theorem Shut.ae {B:Nat} {W:E} (h:Shut lo B ds W) (e:B<=B'):Shut lo B' ds W:=by
 cases ds with
 |nil=>trivial
 |cons d ds=>
  obtain⟨r,a,c,b⟩:=h;exact⟨r,a,al,b⟩
theorem Shut.keep:∀ {ds:List Deferred} {B:Nat} {W W':E},Shut lo B ds W ->(∀r,r< B ->W'.heap[r]? =W.heap[r]?) ->Shut lo B ds W'
 |[],_,_,_,_,_=>trivial
 |d::ds,B,W,W',h,hk=>by
  obtain⟨r,b,a,c,e,f⟩:=h;exact⟨r,b,a,c,(hk r a).trans e,f.keep fun k l=>hk k al⟩
theorem Shut.aa {B:Nat} {W:E} (h:Shut lo B ds W) (b:Below B W W'):Shut lo B ds W':=h.keep fun r a=>b.block r a
theorem Ix {F:Fence} {P:Program} {m:Array wF} {R:Ending ->E ->Prop} {K:E ->Prop}
  (b:∀W r,K W ->lo<=r ->W.heap[r]? =M (.deferred (M [])) ->K (W.putObj r (.deferred N))) (e:∀W,K W ->LeavesInM F n P fn m R [] .returning W):
  ∀(ds:List Deferred) (B:Nat) (W:E),Shut lo B ds W ->K W ->LeavesInM F n P fn m R ds .returning W
 |[],_,W,_,hW=>e W hW
 |d::ds,B,W,h,hW=>by
  obtain⟨r,c,g,rfl,a,f⟩:=h;refine⟨aE,yd ⟨r,_,rfl,CC a,Ix b e ds r _ ?_ (b W r hW c a)⟩⟩;exact f.keep fun k i=>zh al
section
attribute [local go_sem] Oper.semAt_some
variable {g:Nat} {V' w:E}
theorem WX {k:Int} (h:Boxed w g 32 (J I k)) {p:Tmp} (r:fn.results= #[.cell p 32]) (m:Array wF) (a:m.getD p wQ=zR (M ⟨g,0,N⟩)):(results fn m).run prog w=.ok (J I k) w:=by
 have b:m[p]?.getD wQ=zR (M ⟨g,0,N⟩):=by simpa using a
 have c:=h.cell;simp only[results,r];simp[b,asAddr];go_simp
theorem aij {V:E} (h:da V V'):KeepsOthers V V':=⟨h.size,fun k _ a _=>(h.block k (cS.1 a).1).trans a⟩
theorem am4 {β:Type} {n B:Nat} {Q:β ->E ->Prop} (c:n<=B):OwnFrom B (fun (s:β) W=>∃V,Q s V/\n<=O (T V)/\Below n V W):=fun s W W' o hs g r=>by
 obtain⟨V,b,h,a⟩:=hs;exact⟨V,b,h,a.grown g (aM h a.size) (fun k e=>aM c (r k e).1)⟩
def pY (w:E) (k:Int) (W:E):Prop:=Boxed W (O (T w)+1) 32 (J I k)/\da w W
theorem pY.shut {k:Int} (l:O (T w)+1<lo) (W:E) (r:Nat) (h:pY w k W) (a:lo<=r) (d:W.heap[r]? =M (.deferred (M []))):pY w k (W.putObj r (.deferred N)):=
 ⟨(zh al).trans h.1,h.2.trans (xM (w:=w) (ah _) W r _ _ al d rfl rfl)⟩
theorem pY.put {W:E} {k:Int} (h:pY w k W) (j:Int):pY w j (W.setCell ⟨O (T w)+1,0,N⟩ (J I j)):=⟨h.1.set _,h.2.setCell (p:=⟨O (T w)+1,0,N⟩) aE _⟩
theorem Shut.put {B:Nat} {W:E} (h:Shut lo B ds W) (i:g<lo) (v:wF):Shut lo B ds (W.setCell ⟨g,0,N⟩ v):=by
 induction ds generalizing B with
 |nil=>trivial
 |cons d ds ih=>
  obtain⟨r,a,b,c,e,f⟩:=h;exact⟨r,a,b,c,(eW W ⟨g,0,N⟩ v r (by show r≠g;omega)).trans e,ih f⟩
theorem as0 (a b c:Kd) (ca cb cc:Nat) (V:List Vr) (L:List Kx) (R:List (List Fr)) (w:E) (h:jo w a b c V L R) (hs:tD V L R) (vz:C L=C V) (Ad:C R=C V) (hg:bq L=0) (hv:lT V=0):
  c6 136 #[zd #[Z a (C V) ca,Z b (C L) cb,Z c (C R) cc]] w (dj w (J I (j9 (ju (ag V) L R) (C V)))):=by
 refine(jb (n:=6)).1 ?_;obtain⟨aR,ch,B9⟩:=ahi vz hg hv;have HI:=Fa h;have O2:=hs.Fd.1;have br:=Fa hs.rows.2;have eh:=Fa aR;have nL:=Fa B9;have ik:=Fa (fun (U:E) (hU:tB U a V)=>NF a b c ca cb cc (C L) (C R) V U hU O2);have HA:wT (∀i,i<C V ->(∀j,j< i ->ju (ag V) L R j=0) ->∀k,ju (ag V) L R i=k ->k≠0 ->j9 (ju (ag V) L R) (C V)=k):=fun i S hz k hk bz=>by rw[Pq hz (by rw[hk];exact bz) S,hk]
 have HZ:wT ((∀j,j<C V ->ju (ag V) L R j=0) ->j9 (ju (ag V) L R) (C V)=0):=fun h=>BX h;have Mq:=Fa vz;have Ep:=Fa Ad;generalize j9 (ju (ag V) L R) (C V)=fe at *;clear h hs aR B9 vz Ad hg hv;have O9:NK w ((w.alloc (NC (Z a (C V) ca) (Z b (C L) cb) (Z c (C R) cc))).alloc (yM #[J I 0] 32)) (Z a (C V) ca) (Z b (C L) cb) (Z c (C R) cc):=(NK.new w (Z a (C V) ca) (Z b (C L) cb) (Z c (C R) cc)).step ((au _ _).alloc (ah _) _)
 have a1:Boxed ((w.alloc (NC (Z a (C V) ca) (Z b (C L) cb) (Z c (C R) cc))).alloc (yM #[J I 0] 32)) (O (T w)+1) 32 (J I 0):=by
  have h:=bF (w.alloc (NC (Z a (C V) ca) (Z b (C L) cb) (Z c (C R) cc))) 32 (J I 0);rwa [eV] at h
 have lM:=Fa O9;have ak:=Fa a1;obtain⟨c0,c1,c2⟩:=O9.1.cells;clear O9 a1;refine vY func136 rfl trivial ?_ rfl;simp only[ntmps136,mL,eA,lS,Nat.reduceAdd,Nat.reduceSub,oX,oW,oP,nV,gS,gF];gi_wp2_with (refine⟨trivial,?_⟩;gi_at_call 91;refine(jb.2 (ik.o _ (HI.o.aa lM.o.2).Fd)).ae ?_;rintro e q ⟨G,rfl,DU,bm,f⟩;have aq:=lM.o.step f;have ZV:=(f.block (O (T w)+1) (cS.1 ak.o).1).trans ak.o;clear c0 c1 c2;obtain⟨c0,c1,c2⟩:=aq.1.cells)
 clear f;have aI:=Fa aq;have Cx:wT (Boxed q (O (T w)+1) 32 (J I 0)):=ZV;have GD:=Fa bm;have TD:O (T w)+1<O (T q):=(cS.1 ZV).1;clear aq ZV bm c0 c1 c2 lM ak ik DU;refine wpIn_loop (fun a' w'=>∃(v:Nat) (ds:List Deferred) (u4 u5 u6 u7 u15 u16 Nc Nb Kc u20 u21 u22 u23 u24 Na u26 M9 u28 CZ M8 M7 u32 u33 u34 u35 u36 u37 u38 u39 u40 u41 u42 Kb Wj:wF),a'= {tmps:= #[zd #[Z a (C V) ca,Z b (C L) cb,Z c (C R) cc],zR (M ⟨O (T w),0,N⟩),zR (M ⟨O (T w)+1,0,N⟩),Z (M ⟨G,0,N⟩) (C V) (C V),u4,u5,u6,u7,wQ,zd #[Z a (C V) ca,Z b (C L) cb,Z c (C R) cc],Z (M ⟨G,0,N⟩) (C V) (C V),zR (M ⟨O (T w),2,N⟩),Z c (C R) cc,J I (C R:Nat),J I (v:Nat),u15,u16,Nc,Nb,Kc,u20,u21,u22,u23,u24,Na,u26,M9,u28,CZ,M8,M7,u32,u33,u34,u35,u36,u37,u38,u39,u40,u41,u42,Kb,wQ,wQ,wQ,wQ,Wj],defers:=ds}/\v<=C R/\wT (∀j,j< v ->ju (ag V) L R j=0)/\wT (da q w')/\wT (Shut (O (T q)) (O (T w')) ds w')) (fun a' _=>C R - (intOf (a'.tmps.getD 14 wQ)).toNat) ?_ ?_
 ·exact⟨0,[],_,_,_,_,_,_,_,_,_,_,_,_,_,_,_,_,_,_,_,_,_,_,_,_,_,_,_,_,_,_,_,_,_,_,rfl,aV _,(fun j hj=>absurd hj al),au _ _,trivial⟩
 intro a' wr b1;obtain⟨v,ds,u4,u5,u6,u7,u15,u16,Nc,Nb,Kc,u20,u21,u22,u23,u24,Na,u26,M9,u28,CZ,M8,M7,u32,u33,u34,u35,u36,u37,u38,u39,u40,u41,u42,Kb,Wj,rfl,hv,an,H,tI⟩:=b1;have bD:O (T q)<=O (T wr):=H.o.size;by_cases ad:v<C R
 ·have Bm:=aI.o.step H.o;have Bb:=GD.o.aa H.o GD.o.lt;have gD:v<C L:=by rw[Mq.o, <- Ep.o];exact ad
  have Fo:v<C V:=by rw[<- Ep.o];exact ad
  obtain⟨gr,jQ,bf,g,rfl,bx,r1,Oe,S6⟩:=HI.o.rows v ad;obtain⟨gp,ix,bp,cp,rfl,iP,p1,lD⟩:=HI.o.pars v gD;obtain⟨c0,c1,c2⟩:=Bm.1.cells;have r2:=(Bm.2.cell (p:=⟨gr,jQ+v,N⟩) bx).trans r1;have p2:=(Bm.2.cell (p:=⟨gp,ix+v,N⟩) iP).trans p1;have P:C (ag V)=C V:=lq V;have B9:Up L[v] (C V):=by rw[<- Mq.o];exact nL.o v gD
  have l8:∀u,sz (ag V) u<=4:=fun u=>by have:=eh.o.sz_le u;rwa [jP] at this
  have fH:Pos (ag V):=by have:=eh.o.pos;rwa [jP] at this
  have hN:cnt (ag V) (af L[v])<=65536:=xm l8 (by rw[gG];have:=B9.length;have:=Mq.o;omega);have BU:1<=cnt (ag V) (af L[v]):=LS fH _;have bd:=l8 v;have Dv:=lp fH v;have zM:=Bb.cell v (by rw[P];exact Fo);have Od:(ag V)[v]'(by rw[P];exact Fo)=sz (ag V) v:=by rw[sz,a7 (by rw[P];exact Fo)];rfl
  rw[Od] at zM;have ck:=B9.length
  have uM:wT (CallsIn Fence.wide 5 prog 92 #[Z (M ⟨G,0,N⟩) (C V) (C V),Z bp L[v].length cp] wr fun e w'=>e=yW (zp #[J I (cnt (ag V) (af L[v]):Nat),J I 0])/\da wr w'):=by
   have bw:countB (iL (ag V)) L[v]=true:=LP eh.o (by rw[bR,P];exact B9);have hc:=Rx (M ⟨G,0,N⟩) bp (C V) cp (iL (ag V)) L[v] wr Bb.ints (lD.aa Bm.2) (by rw[bR,P];have:=Mq.o;omega) (by have:=Mq.o;omega);rw[LQ bw,jP,bR,P] at hc;exact jb.2 hc
  have uJ:wT (ju (ag V) L R v=if R[v].length=cnt (ag V) (af L[v])*sz (ag V) v then(if ((List.range (cnt (ag V) (af L[v]))).all fun i=>jf (gg R[v] (sz (ag V) v) i))=y6 then 0 else 9) else 8):=by
   show _=_;rw[ju,cF,a7 ad,cF,a7 gD];rfl
  have Qg:=Fa (Oe.aa Bm.2);have Fz:=br.o R[v] (bU ad);have az:=Fa (HA.o v Fo an.o);generalize L[v]=pl at *;generalize R[v]=r at *;have IJ:C pl<=8:=by have:=Mq.o;omega
  clear Oe r1 p1 lD B9 l8 fH Od P;generalize hkk:sz (ag V) v=k at *;generalize cnt (ag V) (af pl)=B2 at *;clear hkk;have bu:B2*k<=262144:=aM (kN hN bd) a6;have ay:(B2:Int)*(k:Int)=((B2*k:Nat):Int):=(mP _ _).symm;have bP:IntKind.i64.wrap ((B2:Int)*(k:Int))=((B2*k:Nat):Int):=by rw[ay,js];omega
  have b3:=Fa ay;clear ay;by_cases hT:C r=B2*k
  ·rw[aw hT] at uJ;rw[<- hT] at bP;have bC:k<=B2*k:=EN k BU;(have kS:0<C r:=al);obtain⟨gf,gX,rfl,yv, -⟩:=Qg.o 0 kS;have Ek:=Fa hT;clear hT bu bC;have b8:C r<=5000:=Fz.1;(have bN:((C r:Int) !=(C r:Int))=false:=aE)
   gi_wp2_with (first
    |(refine⟨trivial,?_⟩;gi_at_call 92;refine uM.o.ae ?_;rintro e d ⟨rfl,f⟩;have aj:=Bm.step f;have bO:=Bb.aa f Bb.lt;have aJ:=(f.cell (p:=⟨G,v,N⟩) Bb.lt).trans zM;clear c0 c1 c2 r2 p2 zM)
    |(refine⟨trivial,?_⟩;gi_at_call 189;refine(asX _ _ _ _ k Dv _).ae ?_;rintro e s ⟨rfl,rfl⟩))
   (have b6:O (T ((d.alloc (yM #[Z (M ⟨gf,gX,N⟩) (C r) g] 36)).alloc (yM #[J I (k:Nat)] 3)))=O (T d)+1+1:=aE);have av:((d.alloc (yM #[Z (M ⟨gf,gX,N⟩) (C r) g] 36)).alloc (yM #[J I (k:Nat)] 3)).cell? ⟨O (T d),0,N⟩=M (Z (M ⟨gf,gX,N⟩) (C r) g):=((bF d 36 (Z (M ⟨gf,gX,N⟩) (C r) g)).alloc _).cell
   have ax:((d.alloc (yM #[Z (M ⟨gf,gX,N⟩) (C r) g] 36)).alloc (yM #[J I (k:Nat)] 3)).cell? ⟨O (T d)+1,0,N⟩=M (J I (k:Nat)):=by
    have h:=(bF (d.alloc (yM #[Z (M ⟨gf,gX,N⟩) (C r) g] 36)) 3 (J I (k:Nat))).cell;rwa [eV] at h
   have Zo:da d ((d.alloc (yM #[Z (M ⟨gf,gX,N⟩) (C r) g] 36)).alloc (yM #[J I (k:Nat)] 3)):=((au _ d).alloc (ah _) _).alloc aE _;generalize ((d.alloc (yM #[Z (M ⟨gf,gX,N⟩) (C r) g] 36)).alloc (yM #[J I (k:Nat)] 3))=s at *;have l8:=f.size;have ZO:=aj.step Zo;have tj:da wr s:=f.trans (Zo.ae l8);have bo:=Fa (Qg.o.aa tj);have aY:=Fa ((tI.o.aa tj).ae (show O (T wr)<=O (T s) by omega));have mH:wT (pY w 0 s):=⟨(tj.block (O (T w)+1) al).trans ((H.o.block (O (T w)+1) TD).trans Cx.o),ZO.2⟩;have b4:=Fa ZO;have fp:=Fa (H.o.trans (tj.ae bD));clear f aj bO aJ Zo Bm Bb ZO uM GD H tI Qg tj
   refine QK (α:=Cz B2) rfl al (gf:=239) (lb:= #[zR (M ⟨O (T d),0,N⟩),zR (M ⟨O (T d)+1,0,N⟩)]) rfl trivial (enters_of func239 ao rfl)
    (asV 5 al (O (T d)) (O (T d)+1) (O (T s)) gf gX g k B2 (C r) Ek.o Dv bd hN S6 s al al av ax) Cb.t (Cb.b al al (ah _)) (au _ _) (fun _=>rfl)
    (fun (Ba:List (Cz B2)) X=>da s X/\∀x∈Ba,jf (gg r k x.1)=y6)
    (fun cd (Ba:List (Cz B2)) X=>∃Y,(cd=Code.ret/\(∃x∈Ba,jf (gg r k x.1)=xd)/\pY w 9 Y/\Shut (O (T q)) (O (T s)) ds Y)/\s.heap.size<=O (T Y)/\Below (O (T s)) Y X)
    (gJ (CE (ah _) (ah _)) (fun _ _ _ _ hs _ _=>hs))
    (fun cd=>am4 (Q:=fun (Ba:List (Cz B2)) Y=>cd=Code.ret/\(∃x∈Ba,jf (gg r k x.1)=xd)/\pY w 9 Y/\Shut (O (T q)) (O (T s)) ds Y) (ah _))
    ⟨au _ _,fun x A=>absurd A aE⟩
    (fun x=> {tmps:= #[zd #[Z a (C V) ca,Z (M ⟨gp,ix,N⟩) (C L) cb,Z (M ⟨gr,jQ,N⟩) (C R) cc],zR (M ⟨O (T w),0,N⟩),zR (M ⟨O (T w)+1,0,N⟩),Z (M ⟨G,0,N⟩) (C V) (C V),J I (v:Nat),Z (M ⟨gf,gX,N⟩) (C r) g,J I (B2:Nat),J I 0,Z (M ⟨gf,gX+x.1*k*3,N⟩) k k,zd #[Z a (C V) ca,Z (M ⟨gp,ix,N⟩) (C L) cb,Z (M ⟨gr,jQ,N⟩) (C R) cc],Z (M ⟨G,0,N⟩) (C V) (C V),zR (M ⟨O (T w),2,N⟩),Z (M ⟨gr,jQ,N⟩) (C R) cc,J I (C R:Nat),J I (v:Nat),zZ y6,J I (v:Nat),zR (M ⟨gr,jQ+v,N⟩),Z (M ⟨gf,gX,N⟩) (C r) g,zp #[J I (B2:Nat),J I 0],Z (M ⟨G,0,N⟩) (C V) (C V),zR (M ⟨O (T w),1,N⟩),Z (M ⟨gp,ix,N⟩) (C L) cb,J I (v:Nat),zR (M ⟨gp,ix+v,N⟩),Z bp (C pl) cp,zp #[J I (B2:Nat),J I 0],J I (B2:Nat),J I 0,Z (M ⟨gf,gX,N⟩) (C r) g,J I (C r:Nat),J I (B2:Nat),Z (M ⟨G,0,N⟩) (C V) (C V),J I (v:Nat),zR (M ⟨G,v,N⟩),J I (k:Nat),J I (C r:Nat),zZ xd,Z (M ⟨gf,gX,N⟩) (C r) g,Z (M ⟨G,0,N⟩) (C V) (C V),J I (v:Nat),zR (M ⟨G,v,N⟩),J I (k:Nat),.func (.func 239) #[] #[zR (M ⟨O (T d),0,N⟩),zR (M ⟨O (T d)+1,0,N⟩)],Z (M ⟨gf,gX+x.1*k*3,N⟩) k k,wQ,wQ,wQ,Wj],defers:=[]}) ?assign ?body ?done ?stop
   case assign=>
    intro l x X K Bj;gi_wp2
    exact Bj
   case body=>
    rintro l Ba ⟨i,S⟩ X ⟨y,ai⟩ b2;(have bk:(i+1)*k<=C r:=by rw[Ek.o];exact lR k S);obtain⟨zW,bg⟩:=dH.chunk (m:=k) (bo.o.aa y) bk rfl;have Y5:=apw (M ⟨gf,gX+i*k*3,N⟩) k (gg r k i) X zW (aM (arf r k i) Fz.2) al;rw[bg] at Y5;have Zx:=y.size;have Ct:=Fa Y5;have bX:=Fa y;have xJ:=Fa ai;clear Y5 zW bg bk y ai av ax b2;cases rW:jf (gg r k i)
    case true=>
     rw[rW] at Ct;have Qh:=Fa rW;clear rW;gi_wp2_with (refine⟨trivial,?_⟩;gi_at_call 190;refine(Ra l (jb.2 Ct.o)).ae ?_;rintro e X2 ⟨rfl,F⟩)
     refine⟨(aij F).from _,⟨F.cell (p:=⟨O (T d),0,N⟩) (by show O (T d)<O (T X);omega),F.cell (p:=⟨O (T d)+1,0,N⟩) (by show O (T d)+1<O (T X);omega),F.ae Zx⟩,bX.o.trans (F.ae Zx),fun x A=>?_⟩;rcases bE.1 A with A |A
     ·exact xJ.o x A
     ·rw[bA.1 A];exact Qh.o
    case false=>
     rw[rW] at Ct;have Qh:=Fa rW;clear rW;gi_wp2_with (refine⟨trivial,?_⟩;gi_at_call 190;refine(Ra l (jb.2 Ct.o)).ae ?_;rintro e X2 ⟨rfl,F⟩;have ab:=bX.o.trans (F.ae Zx);have z:=(ab.block (O (T w)+1) al).trans mH.o.1;have vt:=Boxed.cell z;have OL:=Boxed.frozen z)
     have bt:pY w 9 (X2.setCell ⟨O (T w)+1,0,N⟩ (J I 9)):=pY.put (k:=0) ⟨z,mH.o.2.trans (ab.ae al)⟩ 9;refine⟨((aij F).trans (jJ X2 _ _)).from _,_,⟨rfl,⟨⟨i,S⟩,aE,Qh.o⟩,bt,(aY.o.aa ab).put al _⟩,?_,au _ _⟩;have b5:=F.size;simp;omega
   case done=>
    rintro D ys X hD Fl ⟨y,ai⟩ Bj
    have UM:wT (ju (ag V) L R v=0):=by
     show _=_;rw[uJ.o,aw];rw[fM];intro i S;rw[<- Fl] at S;obtain⟨x,A,rfl⟩:=aN.1 S;exact ai x A
    have DV:D<O (T X):=(cS.1 Bj).1;have ab:=fp.o.trans (y.ae al);have bb:Shut (O (T q)) (O (T X)) ({target:=.collected D,args:= #[]}::ds) X:=⟨D,al,DV,rfl,Bj,(aY.o.aa y).ae hD⟩;have bX:=Fa ab;have Jn:=Fa bb;clear Bj ai Fl ab bb av ax y;gi_wp2
    refine⟨⟨v+1,_,_,_,_,_,_,_,_,_,_,_,_,_,_,_,_,_,_,_,_,_,_,_,_,_,_,_,_,_,_,_,_,_,_,_,rfl,al,(fun j hj=>?_),bX,Jn⟩,?_⟩
    ·rcases dX j v with h |h
     ·exact an.o j h
     ·rw[show j=v by omega];exact UM.o
    ·simp[intOf];omega
   case stop=>
    rintro D cd Ba X hD b7 ⟨Y,⟨rfl,⟨x,A,b0⟩,bc,uo⟩,cg,y⟩ Bj
    have pA:fe=9:=az.o 9 (by
     rw[uJ.o,aC];intro h;rw[fM] at h;have:=h x.1 (bS.2 x.2);rw[b0] at this;cases this) a6
    have DV:D<O (T X):=(cS.1 Bj).1;have bs:pY w 9 X:=⟨(y.block (O (T w)+1) al).trans bc.1,bc.2.trans (y.ae al)⟩;gi_wp2
    refine Ix (lo:=O (T q)) (K:=pY w 9) (pY.shut al) (fun B7 Bh=>⟨_,WX Bh.1 rfl _ rfl,?_,Bh.2⟩) _ (O (T X)) X ⟨D,al,DV,rfl,Bj,(uo.aa y).ae hD⟩ bs;rw[pA]
  ·rw[aC hT] at uJ;have pA:fe=8:=az.o 8 uJ.o a6
   have bN:((C r:Int) !=((B2*k:Nat):Int))=true:=by
    (have:¬(C r:Int)=((B2*k:Nat):Int):=al);simpa using this
   clear hT;have km:=H.o;gi_wp2_with (refine⟨trivial,?_⟩;gi_at_call 92;refine uM.o.ae ?_;rintro e d ⟨rfl,f⟩;have aj:=Bm.step f;have aJ:=(f.cell (p:=⟨G,v,N⟩) Bb.lt).trans zM;have z:Boxed d (O (T w)+1) 32 (J I 0):=(f.block (O (T w)+1) al).trans ((H.o.block (O (T w)+1) TD).trans Cx.o);have vt:=Boxed.cell z;have OL:=Boxed.frozen z;clear c0 c1 c2 r2 p2 zM)
   refine Ix (lo:=O (T q)) (K:=pY w 8) (pY.shut al) (fun B7 Bh=>⟨_,WX Bh.1 rfl _ rfl,?_,Bh.2⟩) _ (O (T wr)) _ ((tI.o.aa f).put al _) (pY.put (k:=0) ⟨z,aj.2⟩ 8);rw[pA]
 ·obtain rfl:v=C R:=al
  have pA:fe=0:=HZ.o (fun j hj=>an.o j (by rw[Ep.o];exact hj));have z:Boxed wr (O (T w)+1) 32 (J I 0):=(H.o.block (O (T w)+1) TD).trans Cx.o;have vt:=Boxed.cell z;have OL:=Boxed.frozen z;have Bm:=aI.o.step H.o;gi_wp2
  refine Ix (lo:=O (T q)) (K:=pY w 0) (pY.shut al) (fun B7 Bh=>⟨_,WX Bh.1 rfl _ rfl,?_,Bh.2⟩) _ (O (T wr)) _ (tI.o.put al _) (pY.put (k:=0) ⟨z,Bm.2⟩ 0);rw[pA]
end
theorem ah7 (a b c:Kd) (ca cb cc:Nat) (V:List Vr) (L:List Kx) (R:List (List Fr)) (w:E) (h:jo w a b c V L R) (hs:tD V L R):
  c6 81 #[zd #[Z a (C V) ca,Z b (C L) cb,Z c (C R) cc]] w fun e w'=>e=yW (J I (aS V L R))/\da w w':=
 aom a b c ca cb cc V L R w h hs fun d f g i U j=>as0 a b c ca cb cc V L R U j hs d f g i
open Go.Lib
variable {bk:Bool} {Rs:List PR} {Vs:List PV}
structure NM (V:List Vr) (L:List Kx) (R:List (List Fr)):Prop where
 ok:aS V L R=0
 one:1<=C V
 six:C V<=6
 szs:∀u,sz (ag V) u<=3
 few:∀l∈L,C l<=3
 au6:∀l∈R,∀f∈l,f.2.1.size+f.2.2.size<=2
 small:tD V L R
 light:∀l∈R,fw l<=400
theorem ag1:∀ {l:List Fr},(∀f∈l,f.2.1.size+f.2.2.size<=2) ->fw l<=4*C l
 |[],_=>ah _
 |f::l,h=>by
  have b:=h f dJ;have c:=ag1 fun g a=>h g (dZ _ a);simp only[fw,eA];omega
theorem ao0 {Ls:List PL} (V:VK n Vs) (h:Ed bk n n (ag (iO Vs)) Ls Rs) (h1:1<=n) (y:n<=6):NM (iO Vs) (jg Ls) (qg Rs):=by
 have Bj:C (iO Vs)=n:=by simp[iO,V.len]
 have F:C (jg Ls)=n:=by simp[jg,h.len]
 have H:C (qg Rs)=n:=by simp[qg,h.lenR]
 have g:=V.Fb
 have A:∀l∈qg Rs,∀f∈l,f.2.1.size+f.2.2.size<=2:=fun l a=>by
  obtain⟨p,d,rfl⟩:=aN.1 a;obtain⟨j,b,rfl⟩:=iE d;exact(h.rows j (by have:=h.len;have:=h.lenR;omega) b).small
 have t:∀l∈qg Rs,C l<=81:=fun l a=>by
  obtain⟨p,d,rfl⟩:=aN.1 a;obtain⟨j,b,rfl⟩:=iE d;have D:j<C Ls:=by have:=h.len;have:=h.lenR;omega
  rw[(h.rows j D b).len];have w:=(ah2 g (l:=af Ls[j].2) (by rw[gG];exact(h.pars j D).few)).2;have o:=(g.sz j).2;exact aM (kN w o) a6
 have L:∀l∈jg Ls,C l<=3:=fun l a=>by
  obtain⟨p,d,rfl⟩:=aN.1 a;obtain⟨j,b,rfl⟩:=iE d;exact(h.pars j b).few
 have r:∀l∈qg Rs,fw l<=400:=fun l a=>by
  have:=ag1 (A l a);have:=t l a;omega
 have q:∀c i,i<10 ->(j7 c i).size<=5000:=fun c i e=>by
  have h1:(j7 c i).size=1+(LJ i).size:=by rw[j7,ByteArray.size_append];rfl
  rw[h1,aaw e];omega
 refine⟨ao1 V h h1 y,al,al,fun u=>(g.sz u).2,L,A,⟨⟨al,fun x z=>?_⟩,⟨al,fun l a=>by have:=L l a;omega⟩,⟨al,fun l a=>⟨by have:=t l a;omega,by have:=r l a;omega⟩⟩⟩,r⟩;obtain⟨p,d,rfl⟩:=aN.1 z;obtain⟨j,b,rfl⟩:=iE d;obtain⟨v,k,_,o,m⟩:=V.each j b;have Bm:j<10:=by have:=V.len;omega
 refine⟨by rw[show (Vs[j].1,Vs[j].2.2).1=Vs[j].1 from rfl,v];exact q 110 j Bm,?_,?_⟩
 ·rw[show (Vs[j].1,Vs[j].2.2).2=Vs[j].2.2 from rfl,m,Rm];omega
 ·rw[show (Vs[j].1,Vs[j].2.2).2=Vs[j].2.2 from rfl,m];intro s hs;obtain⟨i,e,rfl⟩:=aN.1 hs;have:=bS.1 e;exact q 118 i al
theorem ao2 (g h i:Kd) (j k l:Nat) (d L2 f:Kx) (bk:Bool) (w:E) (h1:aB w g d) (o:aB w h L2) (p:aB w i f) (Bm:B6 d) (H:B6 L2) (Bh:B6 f):
  c6 20 #[zd #[Z g (C d) j,Z h (C L2) k,Z i (C f) l,zZ bk]] w fun e w'=>∃(a b c:Kd) (ca cb cc:Nat) (V:List Vr) (L:List Kx) (R:List (List Fr)),e=yW (zd #[Z a (C V) ca,Z b (C L) cb,Z c (C R) cc])/\jo w' a b c V L R/\pP w' b L/\NM V L R/\da w w':=by
 refine(ao4 g h i j k l d L2 f bk w h1 o p Bm H Bh).ae ?_;rintro e w' ⟨K,n,x,y,z,Vs,Ls,Rs,rfl,⟨X,m⟩,r,q,A,u,v,s⟩;obtain⟨a,ca,rfl,D⟩:=A.Fd;obtain⟨b,cb,rfl,Bj,t⟩:=u.pars;obtain⟨c,cc,rfl,F⟩:=v.rows;exact⟨a,b,c,ca,cb,cc,_,_,_,rfl,⟨D,Bj,F⟩,t,ao0 r q X m,s⟩
variable {R:List (List Fr)} {L:List Kx} {V:List Vr}
def aa6 (l:List ByteArray):Prop:=∀i (h:i<C l),Bi l[i]=y6/\zD (l.take i) l[i]=xd
theorem aeG {l:List ByteArray} (h:nZ l=0):aa6 l:=fun i b=>by
 have a:=DY h i b;rw[xZ,TM b] at a;by_cases e:Bi l[i]=y6
 ·rw[aw e] at a;refine⟨e,?_⟩;cases hm:zD (l.take i) l[i] with
  |false=>rfl
  |true=>rw[hm,aw rfl] at a;exact absurd a a6
 ·rw[aC e] at a;exact absurd a a6
structure VOK (V:List Vr):Prop where
 nm:aa6 (lx V)
 len:∀i (h:i<C V),1<=V[i].2.length/\V[i].2.length<=4
 vl:∀i (h:i<C V),aa6 V[i].2
theorem ajL (h:lT V=0):VOK V:=by
 rw[lT] at h;by_cases b:nZ (lx V)=0
 ·rw[aw b] at h;have c:=DY h
  have d:∀i (a:i<C V),1<=V[i].2.length/\V[i].2.length<=4:=fun i a=>by
   have f:=c i a;by_cases e:1<=V[i].2.length/\V[i].2.length<=4
   ·exact e
   ·rw[ab1 a e] at f;exact absurd f a6
  exact⟨aeG b,d,fun i a=>aeG (by rw[<- ab0 a (d i a)];exact c i a)⟩
 ·rw[aC b] at h;exact absurd h b
theorem XO (h:aS V L R=0):VOK V/\bq L=0/\∀v,v<C V ->∀i,i<cnt (ag V) (af (L.getD v [])) ->jf (gg (R.getD v []) (sz (ag V) v) i)=true:=by
 rw[aS] at h;by_cases d:C L=C V/\R.length=C V
 ·rw[aw d] at h;by_cases b:bq L=0
  ·rw[aw b] at h;by_cases c:lT V=0
   ·rw[aw c] at h;refine⟨ajL c,b,fun v j i g=>?_⟩;have a:=DY h v j;rw[ju] at a;by_cases e:C (R.getD v [])=cnt (ag V) (af (L.getD v []))*sz (ag V) v
    ·rw[aw e] at a;by_cases f:((List.range (cnt (ag V) (af (L.getD v [])))).all fun i=>jf (gg (R.getD v []) (sz (ag V) v) i))=y6
     ·exact fM.1 f i (bS.2 g)
     ·rw[aC f] at a;exact absurd a a6
    ·rw[aC e] at a;exact absurd a a6
   ·rw[aC c] at h;exact absurd h c
  ·rw[aC b] at h;exact absurd h b
 ·rw[aC d] at h;exact absurd h a6
def lA (f:Fr):Fr:=qF (a8 f)
def di (R:List (List Fr)):List (List Fr):=R.map fun l=>l.map lA
theorem T2 (f:Fr):a8 (lA f)=a8 f:=kr _
theorem arl (l:List Fr):bH (l.map lA)=bH l:=by
 have e:∀(l:List Fr) (s:Rat),(l.map lA).foldl (fun s f=>s+dr f) s=l.foldl (fun s f=>s+dr f) s:=by
  intro l;induction l with
  |nil=>intro s;rfl
  |cons f l ih=>
   intro s;rw[gw,tY,tY,ih];congr 1
   exact eG (s+·) (T2 f)
 exact e l 0
theorem alG (l:List Fr):jf (l.map lA)=jf l:=by
 rw[jf,jf,arl,List.all_map];congr 1
 exact eG (fun p=>l.all p) (funext fun f=>by simp only[Function.comp,T2])
theorem asW (l:List Fr) (s i:Nat):gg (l.map lA) s i=(gg l s i).map lA:=by rw[gg,gg,QX,List.map_drop]
theorem Z8 (R:List (List Fr)) (v:Nat):(di R).getD v []=(R.getD v []).map lA:=by
 rw[cF,cF,di,k9];cases R[v]?<;>rfl
theorem Sr (V:List Vr) (L:List Kx) (R:List (List Fr)):aS V L (di R)=aS V L R:=by
 have e:C (di R)=C R:=by simp[di]
 have a:∀v,ju (ag V) L (di R) v=ju (ag V) L R v:=fun v=>by
  rw[ju,ju,Z8,cY];simp only[asW,alG]
 have b:ju (ag V) L (di R)=ju (ag V) L R:=funext a;rw[aS,aS,e,b]
section
attribute [local go_sem] Oper.semAt_some
variable {Q:Exit ->Act ->E ->Prop} {w:E}
theorem ar6 (n:Nat) (q:1<=n) (l:Nat) (s:Ja) (hs:∀u∈s,u<8) (Bh:Nat ->E ->Prop)
  (Y:∀k V,k< 8 ->k∈s ->Bh k V ->YieldAt Fence.wide (n - 1) prog l #[J I (k:Nat)] V fun e V'=>e=yW (zZ y6)/\Bh (k+1) V')
  (p:∀k V,k< 8 ->¬k∈s ->Bh k V ->Bh (k+1) V) (V:E) (h0:Bh 0 V):
  CallsIn Fence.wide n prog 182 #[J yE (aA s:Nat),.func (.yield l) #[] #[]] V fun e V'=>(∃v,e=yW v)/\Bh 8 V':=by
 refine JP func182 rfl trivial ?_ rfl;simp only[ntmps182,mL,eA,lS,Nat.reduceAdd,Nat.reduceSub,oX,oW,oP,nV,gS,gF];have H:=Fa (fun (k:Nat) (g:k<8) (U:E)=>Ko s k U hs g);generalize aA s=m at *;gi_wp2
 gi_loopw [5] (fun i wr=>∃k:Nat,k<=8/\i=J I k/\Bh k wr) (fun i _=>8 - (intOf i).toNat)
 case atStart=>exact⟨0,aV _,rfl,h0⟩
 case round=>
  obtain⟨k,g,rfl,c⟩:=hrel;by_cases t:k<8
  ·have z:(k:Int)<8:=al
   have b:=Fa (H.o k t);by_cases a:k∈s
   ·rw[cJ a] at b;obtain⟨fn,x,A,r,y,R⟩:=Y k wr t a c;have j:=Fa R;clear R;gi_wp2_with (refine⟨trivial,?_⟩;gi_at_call 222;refine(jb.2 (b.o _)).ae ?_;rintro e w' ⟨rfl,w⟩;subst w)
    refine j.o.ae ?_;rintro e W3 ⟨rfl,d⟩;gi_wp2
    go_roundw
    case rel=>exact⟨k+1,al,bd,d⟩
    case measure=>simp[intOf];omega
   ·rw[cX a] at b;have d:=p k wr t a c;gi_wp2_with (refine⟨trivial,?_⟩;gi_at_call 222;refine(jb.2 (b.o _)).ae ?_;rintro e w' ⟨rfl,w⟩;subst w)
    refine⟨fun f h=>(by cases h),?_⟩;gi_wp2
    go_roundw
    case rel=>exact⟨k+1,al,bd,d⟩
    case measure=>simp[intOf];omega
  ·obtain rfl:k=8:=al
   gi_wp2
   go_end0
   exact⟨⟨_,rfl⟩,c⟩
def ar7 (B:Nat) (Bj:Nat ->E ->Prop) (k:Nat) (W:E):Exit ->Act ->E ->Prop
 |.normal,_,W'=>KeepsFrom B W W'/\Bj (k+1) W'
 |_,_,_=>False
theorem EW {g:Operand} {m:Array Tmp} {assign body:Code} {a:Act} (h1:2<=n) (s:Ja) (hs:∀u∈s,u<8)
  (R:a.eval g=.func (.func 182) #[J yE (aA s:Nat)] #[]) (B9:m.size=1) (Bj:Nat ->E ->Prop) (j:OwnFrom (O (T w)) Bj) (h0:Bj 0 w) (Bm:Nat ->Act)
  (ab:∀(l k:Nat) (W:E) (K:Act ->E ->Prop),K (Bm k) W ->
   assign.wpIn (Fence.wide.inRound l) (n - 1 - 1) prog (Exit.then K (fun _ _ _=>False)) {tmps:=(m.zip #[J I (k:Nat)]).foldl (fun t (p,v)=>t.setIfInBounds p v) a.tmps,defers:=[]} W)
  (aa:∀(l k:Nat) (W:E),k< 8 ->k∈s ->Bj k W ->body.wpIn (Fence.wide.inRound l) (n - 1 - 1) prog (ar7 (O (T w)) Bj k W) (Bm k) W)
  (Y:∀k W,k< 8 ->¬k∈s ->Bj k W ->Bj (k+1) W)
  (aq:∀(D:Nat) (W:E),O (T w)<=D ->Bj 8 W ->W.heap[D]? =M (.deferred (M [])) ->Q .normal {a with defers:= {target:=.collected D,args:= #[]}::a.defers} W):
  (Code.rangeFunc g m assign body).wpIn Fence.wide n prog Q a w:=by
 refine wpIn_rangeFunc fun fn aj=>?_;rw[show Fence.wide.round=N from rfl];obtain⟨c,d⟩:∃c:LoopState ->Option Code ->Loop,c=fun U Ba=> {state:=U,pending:=Ba,fn,tmps:=a.tmps,params:=m,assign,body,defers:=O (T w)}:=⟨_,rfl⟩;obtain⟨b,o⟩:∃b,(w.alloc (.deferred (M []))).alloc (.loop (c .ready N))=b:=⟨_,rfl⟩
 have L:b.heap[O (T w)+1]? =M (.loop (c .ready N)):=by
  rw[<- o];have h:=World.alloc_heap_new (w.alloc (.deferred (M []))) (.loop (c .ready N));rwa [eV] at h
 have ai:b.heap[O (T w)]? =M (.deferred (M [])):=by
  rw[<- o];exact(uP _ _ _ aE).trans (World.alloc_heap_new w _)
 have ad:Bj 0 b:=by
  rw[<- o];exact j.alloc _ (j.alloc _ h0)
 refine⟨O (T w)+1,[{target:=.collected (O (T w)),args:= #[]}],b, {target:=.fn (.func 182) #[],args:= #[J yE (aA s:Nat),.func (.yield (O (T w)+1)) #[] #[]]},b,182, #[J yE (aA s:Nat),.func (.yield (O (T w)+1)) #[] #[]],b,?_,?_,?_,?_,fun _=>al,?_⟩
 ·rw[<- o,d];exact run_enterLoop_outer _ _ _ _ _
 ·simp only[resolve,R];simp[go_sem]
 ·intro f' H;simp[Target.leads] at H;subst H;trivial
 ·have Bb:∀r w,(callFunc 182 r).run prog w=.ok (.enter 182 r) w:=enters_of func182 ao rfl;simp[invoke,go_sem,Bb]
 ·refine(ar6 (n - 1) al (O (T w)+1) s hs (fun k W=>Bj k W/\W.heap[O (T w)+1]? =M (.loop (c .ready N))/\W.heap[O (T w)]? =M (.deferred (M []))) ?_ (fun k W y z h=>⟨Y k W y z h.1,h.2⟩) b ⟨ad,L,ai⟩).ae ?_
  ·rintro k W y z ⟨x,f,q⟩;have an:O (T w)+1<O (T W):=(cS.1 f).1;have F:=run_yield (P:=prog) (args:= #[J I (k:Nat)]) f (by rw[d];exact B9.symm);rw[d] at F;refine⟨fn,_,assign,body,F,roundIn_of_wpIn aj (ab _ k W _ ⟨_,run_beginRound f (by rw[d]),?_⟩)⟩;have ak:(W.putObj (O (T w)+1) (.loop {c .ready N with state:=.busy})).heap[O (T w)+1]? =M (.loop {c .ready N with state:=.busy}):=World.putObj_heap_same an;have V:(W.putObj (O (T w)+1) (.loop {c .ready N with state:=.busy})).heap[O (T w)]? =M (.deferred (M [])):=(zh al).trans q;refine wpIn_mono (aa _ k _ y z (j.putObj _ x al f rfl)) ?_;rintro e a3 W3 i;cases e with
   |normal=>
    obtain⟨Bh,X⟩:=i;have A:=Bh.same _ _ al ak rfl;have S:=run_endRound (P:=prog) N A;have B7:=Bh.same _ _ (ah _) V rfl;refine⟨_,_,S,rfl,j.putObj _ X al A rfl,?_,(zh al).trans B7⟩;rw[d];exact World.putObj_heap_same (cS.1 A).1
   |ret=>exact i.elim
   |exit id=>exact i.elim
   |goto t=>exact i.elim
   |panic ch=>exact i.elim
   |outgrown=>exact i.elim
  ·rintro e W2 ⟨⟨v,rfl⟩,x,f,q⟩;have h:=run_endLoop (P:=prog) f (by rw[d];simp);rw[d] at h;exact⟨N,_,h,aq _ _ (ah _) (j.putObj _ x al f rfl) ((zh al).trans q)⟩
end
variable {k m v:Nat}
def C6:ByteArray:=⟨(([0,1,1,2,1,2,2,3,1,2,2,3,2,3,3,4,1,2,2,3,2,3,3,4,2,3,3,4,3,4,4,5,1,2,2,3,2,3,3,4,2,3,3,4,3,4,4,5,2,3,3,4,3,4,4,5,3,4,4,5,4,5,5,6].append [1,2,2,3,2,3,3,4,2,3,3,4,3,4,4,5,2,3,3,4,3,4,4,5,3,4,4,5,4,5,5,6,2,3,3,4,3,4,4,5,3,4,4,5,4,5,5,6,3,4,4,5,4,5,5,6,4,5,5,6,5,6,6,7]).append ([1,2,2,3,2,3,3,4,2,3,3,4,3,4,4,5,2,3,3,4,3,4,4,5,3,4,4,5,4,5,5,6,2,3,3,4,3,4,4,5,3,4,4,5,4,5,5,6,3,4,4,5,4,5,5,6,4,5,5,6,5,6,6,7].append [2,3,3,4,3,4,4,5,3,4,4,5,4,5,5,6,3,4,4,5,4,5,5,6,4,5,5,6,5,6,6,7,3,4,4,5,4,5,5,6,4,5,5,6,5,6,6,7,4,5,5,6,5,6,6,7,5,6,6,7,6,7,7,8])).toArray⟩
def bZ (s:Ja) (k:Nat):Ja:=(List.range k).filter fun v=>decide (v∈s)
theorem Sy {s:Ja} (h:k∈s):bZ s (k+1)=bZ s k++[k]:=by rw[bZ,xN,xP,bZ];simp[h]
theorem NJ {s:Ja} (h:¬k∈s):bZ s (k+1)=bZ s k:=by rw[bZ,xN,xP,bZ];simp[h]
theorem uZ {s:Ja}:v∈bZ s k↔v<k/\v∈s:=by simp[bZ]
theorem ly (s:Ja) (k:Nat):C (bZ s k)<=k:=by
 have:=oT (fun v=>decide (v∈s)) (List.range k);simpa [bZ] using this
def C7 (m:Nat):Nat:=((List.range 8).filter fun v=>m.testBit v).length
theorem amv (s:Ja):C7 (aA s)=C (bZ s 8):=by
 rw[C7,bZ];congr 1
 exact VZ fun v _=>qh s v
theorem amy:((List.range 256).all fun m=>decide (C6.data.toList[m]? =M (UInt8.ofNat (C7 m))))=true:=by decide+kernel
theorem amx (h:m<256):C6.data.toList[m]? =M (UInt8.ofNat (C7 m)):=mJ (fM.1 amy m (bS.2 h))
theorem amw:C6.size=256:=by decide+kernel
theorem adK (m:Nat):C7 m<=8:=by
 have:=oT (fun v=>m.testBit v) (List.range 8);simpa [C7] using this
theorem anC (m:Nat) (w:E) (u:m<256):
  c6 225 #[J yE (m:Nat)] w fun e w'=>e=yW (J I (C7 m:Nat))/\∃k,w'=w.drewN k:=by
 have y:(m:Int)/16777216=0:=al
 have x:(m:Int)/65536=0:=al
 have s:(m:Int)/256=0:=al
 have t:bits BinOp.and IntKind.u32 (m:Nat) 255=((m:Nat):Int):=by
  have e:(255:Int)=((255:Nat):Int):=rfl;rw[e,u32_and_nat _ _ al al,show (255:Nat)=2^8 - 1 from rfl,Nat.and_two_pow_sub_one_eq_mod];omega
 have z:bits BinOp.and IntKind.u32 0 255=0:=a6
 have A:=amw;have l:m<C6.size:=al
 have a:∀i (h:i<C6.size),C6[i]=UInt8.ofNat (C7 i):=fun i h=>by
  have b:=amx (m:=i) al;rw[wu] at b;obtain⟨r,g⟩:=cS.1 b;exact g
 have n:C6[0]'al=0:=a 0 al
 obtain⟨q,v,p⟩:∃q:UInt8,C6[m]'l=q/\q.toNat=C7 m:=⟨_,a m l,by
  have:=adK m;rw[UInt8.toNat_ofNat'];omega⟩
 have D:IntKind.u8.wrap 0=0:=a6
 have f:=adK m;rw[<- p] at f
 have j:IntKind.u8.wrap ((q.toNat:Nat):Int)=((q.toNat:Nat):Int):=by
  have:(q.toNat:Int)<256:=al
  rw[IntKind.wrap_u8];omega
 have d:=Fa p;clear a p;have c:C6=⟨(([0,1,1,2,1,2,2,3,1,2,2,3,2,3,3,4,1,2,2,3,2,3,3,4,2,3,3,4,3,4,4,5,1,2,2,3,2,3,3,4,2,3,3,4,3,4,4,5,2,3,3,4,3,4,4,5,3,4,4,5,4,5,5,6].append [1,2,2,3,2,3,3,4,2,3,3,4,3,4,4,5,2,3,3,4,3,4,4,5,3,4,4,5,4,5,5,6,2,3,3,4,3,4,4,5,3,4,4,5,4,5,5,6,3,4,4,5,4,5,5,6,4,5,5,6,5,6,6,7]).append ([1,2,2,3,2,3,3,4,2,3,3,4,3,4,4,5,2,3,3,4,3,4,4,5,3,4,4,5,4,5,5,6,2,3,3,4,3,4,4,5,3,4,4,5,4,5,5,6,3,4,4,5,4,5,5,6,4,5,5,6,5,6,6,7].append [2,3,3,4,3,4,4,5,3,4,4,5,4,5,5,6,3,4,4,5,4,5,5,6,4,5,5,6,5,6,6,7,3,4,4,5,4,5,5,6,4,5,5,6,5,6,6,7,4,5,5,6,5,6,6,7,5,6,6,7,6,7,7,8])).toArray⟩:=rfl;go_enter func225,ntmps225;go_upto_region 1 with fail
 rw[<- c];clear c;go_quiet (fail)
 go_wp2;go_ret;exact⟨by rw[<- d.o];rfl,_,rfl⟩
section
attribute [local go_sem] Oper.semAt_some
theorem ac4 (s:Ja) (w:E) (hs:∀u∈s,u<8):
  c6 183 #[J yE (aA s:Nat)] w fun e w'=>e=yW (J I (C (bZ s 8):Nat))/\∃k,w'=w.drewN k:=by
 have h:=uY hs;have H:=Fa (fun U=>anC (aA s) U h);rw[amv] at H;generalize (C (bZ s 8))=c at *;generalize aA s=m at *;go_enter func183,ntmps183;go_wp2_with fail
 refine(H.o _).ae ?_;rintro e a ⟨rfl,k,rfl⟩;go_wp2;go_ret;exact⟨rfl,k,rfl⟩
theorem aos (s:Ja) (v:Nat) (hs:∀u∈s,u<8) (b:v<8):aA s&&&(4294967295 - 2^v)=aA (s.filter fun u=>decide (u≠v)):=by
 have d:2^v<2^8:=VI a6 b;have e:4294967295 - 2^v=2^32 - (2^v+1):=al
 have c:2^v<2^32:=al
 apply MM;intro i;rw[e,QS,VG c,qh,qh,Nat.testBit_two_pow];by_cases h:i∈s
 ·have f:=hs i h;have B7:i<32:=al
  by_cases k:v=i
  ·subst k;simp[h]
  ·have a:¬i=v:=fun e=>k e.symm;simp[h,B7,k,a]
 ·simp[h]
theorem Nl (s:Ja) (v:Nat) (w:E) (hs:∀u∈s,u<8) (h:v<8):
  c6 252 #[J yE (aA s:Nat),J I (v:Nat)] w fun e w'=>e=yW (J yE (aA (s.filter fun u=>decide (u≠v)):Nat))/\w'=w:=by
 have c:=uY hs;have b:2^v<256:=show 2^v<2^8 from VI a6 h
 have Bm:wT (bits BinOp.andNot IntKind.u32 (aA s:Nat) (2^v % 4294967296)=((aA (s.filter fun u=>decide (u≠v)):Nat):Int)):=by
  show _=_
  have e:((2:Int)^v % 4294967296)=((2^v:Nat):Int):=by
   (have a:((2:Int)^v)=((2^v:Nat):Int):=by rw[Int.natCast_pow];rfl);rw[a];generalize (2^v:Nat)=q at *;omega
  rw[e,u32_andNot_nat _ _ al al,aos s v hs h]
 generalize aA (s.filter fun u=>decide (u≠v))=r at *;generalize aA s=m at *;go_enter func252,ntmps252;go_wp2;go_ret;exact⟨by rw[Bm.o];rfl,rfl⟩
theorem apJ (l:Ja):(iL l).map (Value.int I)=l.map iv:=by simp[iL,iv]
theorem afd (s:Ja) (w:E) (hs:∀u∈s,u<8):
  c6 129 #[J yE (aA s:Nat)] w fun e w'=>∃v,e=yW v/\bW w' (O (T w)) v (iL (bZ s 8))/\da w w':=by
 refine(jb (n:=6)).1 ?_;obtain⟨j,i,z,t,x⟩:=eC Tryz.infoInt;have S:=ly s 8;have H:=Fa (fun U=>ac4 s U hs);obtain⟨c,q⟩:∃c,c=C (bZ s 8):=⟨_,rfl⟩;rw[<- q] at H S;clear q;refine vY func129 rfl trivial ?_ rfl;simp only[ntmps129,mL,eA,lS,Nat.reduceAdd,Nat.reduceSub,oX,oW,oP,nV,gS,gF]
 gi_wp2_with (first
  |(refine⟨trivial,?_⟩;gi_at_call 183;refine(jb.2 (H.o _)).ae ?_;rintro e w0 ⟨rfl,g⟩)
  |(gi_at_make;refine wpListIn_make_own _ rfl _ _ 27 rfl (O (T w)) 3 j (J I 0) 1 underlying27 i z t I I _ c rfl rfl al (by rw[x];omega) (by unfold maxLen;omega) (by obtain⟨k,rfl⟩:=g;exact ah _) ?_;intro a ab Bh))
 have Q:da w w0:=by obtain⟨k,rfl⟩:=g;exact below_drewN (au _ w) k
 have Y:O (T w0)=O (T w):=by obtain⟨k,rfl⟩:=g;rfl
 clear g;have F:=Bh.size;have Bb:da w a:=Q.grown Bh al (fun k e=>by cases e);have B9:=bF a 27 (Z (M ⟨O (T w0),0,N⟩) 0 c);have P:da w (a.alloc (yM #[Z (M ⟨O (T w0),0,N⟩) 0 c] 27)):=Bb.alloc al _;have L:O (T w)<=O (T a):=al
 clear Y F
 refine EW al s hs rfl rfl
  (fun k V=>(∃v,Boxed V (O (T a)) 27 v/\V.ownsRow (O (T w)) 3 1 v (C (bZ s k)) ((bZ s k).map iv)/\True)/\da w V)
  (gJ (iB (holdsRow_own (O (T w)) (O (T a)) 27 3 1 (fun k:Nat=>C (bZ s k)) (fun k=>(bZ s k).map iv) (fun _ _=>True)) _) (CE (ah _) (by simp;omega)))
  ⟨⟨_,B9,ab.alloc _,trivial⟩,P⟩
  (fun k=> {tmps:= #[J yE (aA s:Nat),wQ,Z N 0 0,zR (M ⟨O (T a),0,N⟩),J I (k:Nat),J yE (aA s:Nat),J I (c:Nat),Z (M ⟨O (T w0),0,N⟩) 0 c,J yE (aA s:Nat),.func (.func 182) #[J yE (aA s:Nat)] #[],J I (k:Nat),wQ,wQ,wQ,wQ,wQ],defers:=[]}) ?assign ?body ?skip ?done
 case assign=>
  intro l k W K d;gi_wp2
  exact d
 case body=>
  rintro l k V Bj m ⟨⟨v,f,r,_⟩,b⟩;have Bm:=f.cell;have uu:=ly s k;gi_wp2_with (gi_at_builtin;refine wpListIn_append_own _ rfl _ _ 27 rfl (O (T w)) 3 j (J I 0) 1 8 underlying27 i z t x rfl a6 _ _ _ rfl (r.alloc _) ⟨O (T V),0,N⟩ 1 1 [J I (k:Nat)] rfl rfl (cell_one_new _ _ _) (by simp[Value.oneCell']) (by unfold maxLen;omega) al (by have:=b.size;simp;omega) ?_;intro v' w3 y aa _;obtain⟨g',ai,rfl⟩:=ownsRow_succ y;obtain⟨p,B7,X,Ba,R⟩:=f.appended a6 r b.size L y aa;have ad:=p.cell;have IV:=p.frozen)
  exact⟨Ba.from _,⟨⟨_,B7,by rw[Sy m];simpa [iv] using X,trivial⟩,b.trans R⟩⟩
 case skip=>
  rintro k V Bj m h;rwa [NJ m]
 case done=>
  rintro D V A ⟨⟨v,f,r,_⟩,b⟩ d;have Bm:=f.cell;gi_wp2
  refine⟨aE,yd ⟨_,_,rfl,CC d,?_⟩⟩;refine⟨_,CD rfl _ _ _,v,rfl,?_,b.trans (xM (w:=w) (ah _) V D _ _ (by simp at A;omega) d rfl rfl)⟩;rw[bW,apJ,bR];exact ownsRow_putObj r _ d rfl
end
variable {P:List Ja}
theorem aot (a b:Ja):aA a |||aA b=aA (a++b):=by
 apply MM;intro i;rw[Nat.testBit_or,qh,qh,qh];by_cases h:i∈a<;>by_cases c:i∈b<;>simp[h,c]
theorem aov (a b:Ja):aA a&&&aA b=aA (a.filter fun x=>decide (x∈b)):=by
 apply MM;intro i;rw[QS,qh,qh,qh];by_cases h:i∈a<;>by_cases c:i∈b<;>simp[h,c]
theorem aou (a b:Ja) (d:∀u∈a,u<8) (f:∀u∈b,u<8):aA a&&&(4294967295 - aA b)=aA (a.filter fun x=>decide (¬x∈b)):=by
 have g:=uY f;have e:4294967295 - aA b=2^32 - (aA b+1):=al
 have s:aA b<2^32:=al
 apply MM;intro i;rw[e,QS,VG s,qh,qh,qh];by_cases h:i∈a
 ·have j:=d i h;have B7:i<32:=al
  by_cases c:i∈b<;>simp[h,c,B7]
 ·simp[h]
theorem Uq (a b:Ja) (h:∀u∈a,u<8) (c:∀u∈b,u<8):bits BinOp.or IntKind.u32 (aA a:Nat) (aA b:Nat)=((aA (a++b):Nat):Int):=by
 have d:=uY h;have e:=uY c;rw[u32_or_nat _ _ al al,aot]
theorem aih (a b:Ja) (h:∀u∈a,u<8) (c:∀u∈b,u<8):bits BinOp.and IntKind.u32 (aA a:Nat) (aA b:Nat)=((aA (a.filter fun x=>decide (x∈b)):Nat):Int):=by
 have d:=uY h;have e:=uY c;rw[u32_and_nat _ _ al al,aov]
theorem atv (a b:Ja) (h:∀u∈a,u<8) (c:∀u∈b,u<8):bits BinOp.andNot IntKind.u32 (aA a:Nat) (aA b:Nat)=((aA (a.filter fun x=>decide (¬x∈b)):Nat):Int):=by
 have d:=uY h;have e:=uY c;rw[u32_andNot_nat _ _ al al,aou a b h c]
theorem Pr {s:Ja} (h:∀u∈s,u<8) (p:Nat ->Bool):∀u∈s.filter p,u<8:=fun u a=>h u (dC.1 a).1
theorem aaS {a b:Ja} (h:∀u∈a,u<8) (c:∀u∈b,u<8):∀u∈a++b,u<8:=fun u d=>(bE.1 d).elim (h u) (c u)
theorem F9 (a:∀p∈P,∀u∈p,u<8) (v:Nat):∀u∈P.getD v [],u<8:=by
 by_cases h:v<C P
 ·rw[cF,a7 h];exact a _ (bU h)
 ·rw[cF,iT al];intro u b;simp at b
theorem Fk (h:v<C P):(P.map aA)[v]'(by rw[cY];exact h)=aA (P.getD v []):=by rw[mN,cF,a7 h];rfl
def NU (B:List Ja) (v u:Nat):Nat:=(bZ (((B.getD v []).filter fun x=>decide (¬x∈B.getD u [])).filter fun x=>decide (x≠u)) 8).length
def tA (B:List Ja) (v k:Nat):Nat:=((bZ (B.getD v []) k).map (NU B v)).sum
theorem ahz {B:List Ja} (h:k∈B.getD v []):tA B v (k+1)=tA B v k+NU B v k:=by rw[tA,Sy h,gV,List.sum_append,tA];simp
theorem ahA {B:List Ja} (h:¬k∈B.getD v []):tA B v (k+1)=tA B v k:=by rw[tA,NJ h,tA]
theorem afr (B:List Ja) (v u:Nat):NU B v u<=8:=ly _ _
theorem Ud (B:List Ja) (v:Nat):∀k,tA B v k<=8*k
 |0=>by simp[tA,bZ]
 |k+1=>by
  have a:=Ud B v k;have b:=afr B v k;by_cases h:k∈B.getD v []
  ·rw[ahz h];omega
  ·rw[ahA h];omega
def rT (B:List Ja) (v:Nat):Nat:=tA B v 8/2
section
attribute [local go_sem] Oper.semAt_some
variable {U V':E}
theorem ke {W:E} {B:Nat} {t:TypeId} {v:wF} (h:Boxed W B t v) (b j:Nat) (y:wF) (e:B≠b):Boxed (W.setCell ⟨b,j,N⟩ y) B t v:=(eW W ⟨b,j,N⟩ y B e).trans h
theorem Aq {W:E} {B b:Nat} {t:TypeId} {v:wF} (h:Boxed W B t v) (c:Below b W W') (a:B<b):Boxed W' B t v:=(c.block B a).trans h
theorem X9 {V:E} (h:da V V'):KeepsOthers V V':=⟨h.size,fun k _ a _=>(h.block k (cS.1 a).1).trans a⟩
theorem Ya {V:E} (h:KeepsOthers V U) (k:Nat):KeepsOthers V (U.drewN k):=⟨h.1,h.2⟩
theorem apn (G n c v:Nat) (P:List Ja) (w:E) (hn:C P=n) (h8:n<=8) (hU:dt w G (P.map aA)) (hP:∀p∈P,∀u∈p,u<n) (hv:v<n):
  c6 293 #[Z (M ⟨G,0,N⟩) n c,J I (v:Nat)] w (dj w (J I (rT P v:Nat))):=by
 refine(jb (n:=6)).1 ?_;have wV:∀p∈P,∀u∈p,u<8:=fun p hp u hu=>by have:=hP p hp u hu;omega
 have hs:=F9 wV v;have Tz:=hU.lt;have kv:=hU.cell v (by rw[cY];omega);rw[Fk al] at kv;have Jy:=Fa kv
 have AL:wT (∀u,u< n ->w.cell? ⟨G,u,N⟩=M (J yE (aA (P.getD u []):Nat))):=fun u hu=>by
  have:=hU.cell u (by rw[cY];omega);rwa [Fk al] at this
 have Qq:wT (∀k,k∈P.getD v [] ->k<n):=fun k R=>by
  rw[cF,a7 al] at R;exact hP _ (bU _) k R
 have Ve:=Fa (fun u=>F9 wV u);have aj:=Fa (fun k h=>ahz (B:=P) (v:=v) (k:=k) h);have Mt:=Fa (fun k h=>ahA (B:=P) (v:=v) (k:=k) h);have ai:=Fa (fun k=>Ud P v k);have qJ:=Fa (fun u=>afr P v u);have lJ:=Fa (fun (u:Nat) (hu:u<8) (U:E)=>Nl ((P.getD v []).filter fun x=>decide (¬x∈P.getD u [])) u U (Pr hs _) hu);have tS:=Fa (fun (u:Nat) (U:E)=>ac4 (((P.getD v []).filter fun x=>decide (¬x∈P.getD u [])).filter fun x=>decide (x≠u)) U (Pr (Pr hs _) _));have ad:=Fa (fun (u:Nat)=>atv (P.getD v []) (P.getD u []) hs (F9 wV u));have av:wT (∀u,C (bZ (((P.getD v []).filter fun x=>decide (¬x∈P.getD u [])).filter fun x=>decide (x≠u)) 8)=NU P v u):=fun u=>rfl
 have ax:wT ((tA P v 8:Int).tdiv 2=(rT P v:Nat)):=by
  show _=_;rw[rT];exact(AX _ _).symm▸rfl
 have ab:G<O (T w):=Tz;have az:=Ud P v 8;generalize rT P v=aY at *;generalize Tn:P.getD v []=bv at *;clear hU hP wV kv Tn;refine vY func293 rfl trivial ?_ rfl;simp only[ntmps293,mL,eA,lS,Nat.reduceAdd,Nat.reduceSub,oX,oW,oP,nV,gS,gF];obtain⟨Bh,Bb⟩:∃Bh,Bh=((w.alloc (yM #[Z (M ⟨G,0,N⟩) n c] 154)).alloc (yM #[J I (v:Nat)] 3)).alloc (yM #[J I 0] 3):=⟨_,rfl⟩;have b0:Boxed Bh (O (T w)) 154 (Z (M ⟨G,0,N⟩) n c):=by rw[Bb];exact((bF w _ _).alloc _).alloc _
 have b1:Boxed Bh (O (T w)+1) 3 (J I (v:Nat)):=by
  have h:=(bF (w.alloc (yM #[Z (M ⟨G,0,N⟩) n c] 154)) 3 (J I (v:Nat))).alloc (yM #[J I 0] 3);rw[eV] at h;rw[Bb];exact h
 have b2:Boxed Bh (O (T w)+1+1) 3 (J I (tA P v 0:Nat)):=by
  have h:=bF ((w.alloc (yM #[Z (M ⟨G,0,N⟩) n c] 154)).alloc (yM #[J I (v:Nat)] 3)) 3 (J I 0);rw[eV,eV] at h;rw[Bb];exact h
 have aa:da w Bh:=by
  rw[Bb];exact(((au _ w).alloc (ah _) _).alloc aE _).alloc (by simp;omega) _
 have S:=b0.cell;have Ba:=b1.cell;have X:=(aa.cell (p:=⟨G,v,N⟩) ab).trans Jy.o;rw[Bb] at S Ba X;gi_wp2
 rw[<- Bb];clear S Ba X Bb;have BF:O (T w)+1+1<O (T Bh):=b2.lt
 refine EW al bv hs rfl rfl
  (fun k V=>Boxed V (O (T w)) 154 (Z (M ⟨G,0,N⟩) n c)/\Boxed V (O (T w)+1) 3 (J I (v:Nat))/\Boxed V (O (T w)+1+1) 3 (J I (tA P v k:Nat))/\da w V)
  (gJ (iB (ko _ _ (fun _=>_)) _) (gJ (iB (ko _ _ (fun _=>_)) _) (gJ (iB (ko _ _ (fun k:Nat=>J I (tA P v k:Nat))) _) (CE (ah _) al))))
  ⟨b0,b1,b2,aa⟩
  (fun k=> {tmps:= #[Z (M ⟨G,0,N⟩) n c,J I (v:Nat),zR (M ⟨O (T w),0,N⟩),zR (M ⟨O (T w)+1,0,N⟩),J I 0,zR (M ⟨O (T w)+1+1,0,N⟩),J I (k:Nat),Z (M ⟨G,0,N⟩) n c,J I (v:Nat),zR (M ⟨G,v,N⟩),J yE (aA bv:Nat),.func (.func 182) #[J yE (aA bv:Nat)] #[],J I (k:Nat),wQ,wQ,wQ,wQ,wQ,wQ,wQ,wQ,wQ,wQ,wQ,wQ,wQ,wQ,wQ,wQ],defers:=[]}) ?assign ?body ?skip ?done
 case assign=>
  intro l k W K hK;gi_wp2
  exact hK
 case body=>
  rintro l k V R hm ⟨B7,h1,B9,Q⟩;have ay:=Qq.o k hm;have S:=B7.cell;have Ba:=h1.cell;have y:=B9.cell;have X:=(Q.cell (p:=⟨G,v,N⟩) ab).trans Jy.o;have kU:=(Q.cell (p:=⟨G,k,N⟩) ab).trans (AL.o k ay);have aI:=ad.o k;have Ji:=Fa (lJ.o k R);have Y:=Fa (tS.o k);rw[av.o k] at Y;have aJ:=ai.o k;have aR:=qJ.o k;have an:=Fa (aj.o k hm);generalize aA (bv.filter fun x=>decide (¬x∈P.getD k []))=m1 at *;generalize aA ((bv.filter fun x=>decide (¬x∈P.getD k [])).filter fun x=>decide (x≠k))=m2 at *;generalize aA (P.getD k [])=mu at *;generalize NU P v k=le at *;generalize tA P v k=L at *;generalize aA bv=mv at *;have Yu:IntKind.i64.wrap ((L:Int)+(le:Int))=((L+le:Nat):Int):=by rw[js];omega
  have f2:=B9.frozen;gi_wp2_with fail
  refine A7 (fun u=>u.cell? ⟨O (T w),0,N⟩=M (Z (M ⟨G,0,N⟩) n c)/\u.cell? ⟨O (T w)+1,0,N⟩=M (J I (v:Nat))/\u.cell? ⟨G,v,N⟩=M (J yE (mv:Nat))/\u.cell? ⟨G,k,N⟩=M (J yE (mu:Nat))) ao ao (fun ⟨_,_,h⟩=>h) ⟨S,Ba,X,kU⟩ ?_;intro q;have j:KeepsOthers V V.drew:=CS V;have m:Boxed V.drew (O (T w)) 154 (Z (M ⟨G,0,N⟩) n c):=B7;have r:Boxed V.drew (O (T w)+1) 3 (J I (v:Nat)):=h1;have g:Boxed V.drew (O (T w)+1+1) 3 (J I (L:Nat)):=B9;have s:=Q.drew;have NW:=g.cell;clear S Ba y X kU f2 B7 h1 B9 Q b0 b1 b2 aa;have y:=NW;clear NW;generalize V.drew=t at *;refine ar 1 (Z (M ⟨G,0,N⟩) n c) ?_;refine ar 2 (J I (v:Nat)) ?_;refine ar 3 (zR (M ⟨G,v,N⟩)) ?_;refine ar 4 (J yE (mv:Nat)) ?_;refine ar 5 (Z (M ⟨G,0,N⟩) n c) ?_;refine ar 6 (J I (k:Nat)) ?_;refine ar 7 (zR (M ⟨G,k,N⟩)) ?_;refine ar 8 (J yE (mu:Nat)) ?_;refine ar 9 (J yE (m1:Nat)) ?_;refine ar 10 (J I (k:Nat)) ?_;refine aF [0,11] (cA ?_ (cA ?_ aG))
  focus
   intro f a;go_simp;clear y;refine a.o _ _ q (fun d=>?_);clear a f d;refine aF [11] (cA ?_ aG);intro f a;go_simp;refine(Ji.o _).ae ?_;rintro e b ⟨rfl,i⟩;subst i;refine a.o _ _ q (fun d=>?_);clear a f d;generalize b=t at *;refine aF [12] (cA ?_ aG);intro f a;go_simp;refine(Y.o _).ae ?_;rintro e b ⟨rfl,z,i⟩;(have A:Boxed b (O (T w)) 154 (Z (M ⟨G,0,N⟩) n c):=by rw[i];exact m);(have Bm:Boxed b (O (T w)+1) 3 (J I (v:Nat)):=by rw[i];exact r);(have F:Boxed b (O (T w)+1+1) 3 (J I (L:Nat)):=by rw[i];exact g);(have H:da w b:=by rw[i];exact below_drewN s z);(have Bj:KeepsOthers V b:=by rw[i];exact Ya j z);refine a.o _ _ (by rw[i];exact q) (fun d=>?_);clear a f i m r g s j q;have q:=d;have m:=A;have r:=Bm;have g:=F;have s:=H;have j:=Bj;clear d A Bm F H Bj t;generalize b=t at *
  rotate_left
  focus
   intro f a;go_simp;refine(Ji.o _).ae ?_;rintro e b ⟨rfl,i⟩;subst i;refine a.o _ _ q (fun d=>?_);clear a f d;generalize b=t at *;refine aF [0,12] (cA ?_ (cA ?_ aG))
   focus
    intro f a;go_simp;clear y;refine a.o _ _ q (fun d=>?_);clear a f d;refine aF [12] (cA ?_ aG);intro f a;go_simp;refine(Y.o _).ae ?_;rintro e b ⟨rfl,z,i⟩;(have A:Boxed b (O (T w)) 154 (Z (M ⟨G,0,N⟩) n c):=by rw[i];exact m);(have Bm:Boxed b (O (T w)+1) 3 (J I (v:Nat)):=by rw[i];exact r);(have F:Boxed b (O (T w)+1+1) 3 (J I (L:Nat)):=by rw[i];exact g);(have H:da w b:=by rw[i];exact below_drewN s z);(have Bj:KeepsOthers V b:=by rw[i];exact Ya j z);refine a.o _ _ (by rw[i];exact q) (fun d=>?_);clear a f i m r g s j q;have q:=d;have m:=A;have r:=Bm;have g:=F;have s:=H;have j:=Bj;clear d A Bm F H Bj t;generalize b=t at *
   rotate_left
   focus
    intro f a;go_simp;refine(Y.o _).ae ?_;rintro e b ⟨rfl,z,i⟩;(have A:Boxed b (O (T w)) 154 (Z (M ⟨G,0,N⟩) n c):=by rw[i];exact m);(have Bm:Boxed b (O (T w)+1) 3 (J I (v:Nat)):=by rw[i];exact r);(have F:Boxed b (O (T w)+1+1) 3 (J I (L:Nat)):=by rw[i];exact g);(have H:da w b:=by rw[i];exact below_drewN s z);(have Bj:KeepsOthers V b:=by rw[i];exact Ya j z);refine a.o _ _ (by rw[i];exact q) (fun d=>?_);clear a f i m r g s j q;have q:=d;have m:=A;have r:=Bm;have g:=F;have s:=H;have j:=Bj;clear d A Bm F H Bj y;have y:=g.cell;clear t;generalize b=t at *;refine aF [0] (cA ?_ aG);intro f a;go_simp;clear y;refine a.o _ _ q (fun d=>?_);clear a f d
  all_goals
   have f2:=g.frozen;have y:=g.cell;refine ar 13 (J I ((L+le:Nat):Int)) ?_;refine aF [14] (cA ?_ aG);intro f a;go_simp;refine a.o _ _ ⟨(ke m (O (T w)+1+1) 0 _ al).cell,(ke r (O (T w)+1+1) 0 _ al).cell,(fT _ _ _ _ (fun e=>(show ¬O (T w)+1+1=G by omega) (eG Addr.block e))).trans q.2.2.1,(fT _ _ _ _ (fun e=>(show ¬O (T w)+1+1=G by omega) (eG Addr.block e))).trans q.2.2.2⟩ (fun _=>eO ao ?_ _);clear a f q;gi_wp2
   exact⟨(j.trans (jJ t _ _)).from _,ke m _ 0 _ al,ke r _ 0 _ al,by rw[an.o];exact g.set _,s.setCell (p:=⟨O (T w)+1+1,0,N⟩) (by show O (T w)<=O (T w)+1+1;omega) _⟩
 case skip=>
  rintro k V R hm h;rw[Mt.o k hm];exact h
 case done=>
  rintro D V j ⟨B7,h1,B9,Q⟩ hK;have hc:=B9.cell;gi_wp2
  refine⟨aE,yd ⟨_,_,rfl,CC hK,?_⟩⟩;refine⟨_,CD rfl _ _ _,?_,Q.trans (xM (w:=w) (ah _) V D _ _ al hK rfl rfl)⟩;rw[<- ax.o];rfl
end
section
attribute [local go_sem] Oper.semAt_some
variable {w w':E}
def Be (P:List Ja) (v u:Nat):Ja:=((P.getD u []++P.getD v []).filter fun x=>decide (x≠u)).filter fun x=>decide (x≠v)
def je (P:List Ja) (v k:Nat):List Ja:=(List.range (C P)).map fun u=>if u<k/\u∈P.getD v [] then Be P v u else P.getD u []
theorem Kf (P:List Ja) (v k:Nat):C (je P v k)=C P:=by simp[je]
theorem aj8 (P:List Ja) (v:Nat):je P v 0=P:=by
 apply ld (by simp[je]);intro i a h;simp[je,cF,h]
theorem aj9 (m:k∈P.getD v []):je P v (k+1)=(je P v k).set k (Be P v k):=by
 apply ld (by simp[je]);intro i c d;rw[CO];simp only[je,mN,Hq];by_cases h:k=i
 ·subst h;rw[aw ⟨al,m⟩,aw rfl]
 ·rw[aC h];have e:(i<k+1/\i∈P.getD v [])↔(i<k/\i∈P.getD v []):=⟨fun ⟨a,b⟩=>⟨al,b⟩,fun ⟨a,b⟩=>⟨al,b⟩⟩;simp only[e]
theorem aka (m:¬k∈P.getD v []):je P v (k+1)=je P v k:=by
 apply mM;intro i c;have e:(i<k+1/\i∈P.getD v [])↔(i<k/\i∈P.getD v []):=⟨fun ⟨a,b⟩=>⟨by rcases dX i k with h |h;exact h;exact absurd (show i=k by omega) (fun e=>m (e▸b)),b⟩,fun ⟨a,b⟩=>⟨al,b⟩⟩;simp only[e]
theorem akb {u:Nat} (b:u<C P) (h:¬(u<k/\u∈P.getD v [])):(je P v k).getD u []=P.getD u []:=by
 have a:u<C (je P v k):=by rw[Kf];exact b
 have e:(je P v k).getD u []=(je P v k)[u]:=by rw[cF,a7 a];rfl
 rw[e];simp only[je,mN,Hq];rw[aC h]
def uT (P:List Ja) (v:Nat):List Ja:=je P v 8
theorem RI {β:Type} (g:Nat) (f:β ->Ja):Own (fun s W=>dt W g (f s)):=fun s X Y w hs a r=>by
 refine(a.block g hs.lt (fun e=>?_)).trans hs;obtain⟨o,h,c⟩:=r g e.symm;rw[hs] at h;cases h;cases c
theorem ad4 {β:Type} {G B:Nat} (a:O (T w)<=B):OwnFrom B (fun (_:β) W=>w.grownBy W (M G)):=fun _ W W' o hs g r=>
 ⟨g.os.trans hs.os,g.tape.trans hs.tape,g.output.trans hs.output,aM hs.size g.size,fun k h n=>(g.block k (aT h hs.size) (fun e=>by
  have:=(r k e.symm).1;omega)).trans (hs.block k h n)⟩
theorem aqW (h:da w w') (G:Nat):w.grownBy w' (M G):=⟨h.os,h.tape,h.output,h.size,fun k a _=>h.block k a⟩
theorem agT {a b c:E} {G:Nat} (h:a.grownBy b (M G)) (k:b.grownBy c (M G)):a.grownBy c (M G):=
 ⟨k.os.trans h.os,k.tape.trans h.tape,k.output.trans h.output,aM h.size k.size,fun i d e=>(k.block i (aT d h.size) e).trans (h.block i d e)⟩
theorem aqV (w:E) (G j:Nat) (y:wF):w.grownBy (w.setCell ⟨G,j,N⟩ y) (M G):=⟨rfl,rfl,rfl,aE,fun k _ h=>eW w ⟨G,j,N⟩ y k (fun e=>h (eG M e))⟩
theorem agU {a b:E} {G:Nat} (h:a.grownBy b (M G)):a.grownBy b.drew (M G):=⟨h.os,h.tape,h.output,h.size,h.block⟩
theorem akf (G n c v:Nat) (P:List Ja) (w:E) (hn:C P=n) (h8:n<=8) (z:dt w G (P.map aA)) (Y:∀p∈P,∀u∈p,u<n) (hv:v<n) (uj:¬v∈P.getD v []):
  c6 284 #[Z (M ⟨G,0,N⟩) n c,J I (v:Nat)] w fun e w'=>(∃r,e=yW r)/\dt w' G ((uT P v).map aA)/\w.grownBy w' (M G):=by
 refine(jb (n:=6)).1 ?_;have H:∀p∈P,∀u∈p,u<8:=fun p hp u Bb=>by have:=Y p hp u Bb;omega
 have hs:=F9 H v;have ab:=z.lt
 have Qq:wT (∀k,k∈P.getD v [] ->k<n):=fun k A=>by
  rw[cF,a7 al] at A;exact Y _ (bU _) k A
 have S:wT (∀(V:E) (k u:Nat),u< n ->¬(u<k/\u∈P.getD v []) ->dt V G ((je P v k).map aA) ->V.cell? ⟨G,u,N⟩=M (J yE (aA (P.getD u []):Nat))/\V.frozen? ⟨G,u,N⟩=xd):=fun V k u Bb an R=>by
  have d:u<C (je P v k):=by rw[Kf];omega
  have:=R.cell u (by rw[cY];exact d);rw[Fk d,akb al an] at this;exact⟨this,R.fz u⟩
 have mD:wT (∀(V:E) (k:Nat),k∈P.getD v [] ->dt V G ((je P v k).map aA) ->dt (V.setCell ⟨G,k,N⟩ (J yE (aA (Be P v k):Nat))) G ((je P v (k+1)).map aA)):=fun V k m R=>by
  have:=R.set k (aA (Be P v k));rwa [aj9 m,Hm]
 have iR:wT (∀k,¬k∈P.getD v [] ->je P v (k+1)=je P v k):=fun k h=>aka h;have Q:wT (∀k,¬(v<k/\v∈P.getD v [])):=fun k h=>uj h.2;have Qm:=Fa (fun u=>Uq (P.getD u []) (P.getD v []) (F9 H u) hs);have Jl:=Fa (fun (u:Nat) (Bb:u<8) (U:E)=>Nl (P.getD u []++P.getD v []) u U (aaS (F9 H u) hs) Bb);have Gs:wT (∀(u:Nat) (U:E),c6 252 #[J yE (aA ((P.getD u []++P.getD v []).filter fun x=>decide (x≠u)):Nat),J I (v:Nat)] U fun e w'=>e=yW (J yE (aA (Be P v u):Nat))/\w'=U):=fun u U=>Nl _ v U (Pr (aaS (F9 H u) hs) _) al;have kV:dt w G ((je P v 0).map aA):=by rw[aj8];exact z
 have uC:uT P v=je P v 8:=rfl;rw[uC];have Jy:=Fa (S.o w 0 v hv (Q.o 0) kV);generalize Tn:P.getD v []=bv at *;have yX:=Fa Tn;clear z Y H uC uj Tn;refine vY func284 rfl trivial ?_ rfl;simp only[ntmps284,mL,eA,lS,Nat.reduceAdd,Nat.reduceSub,oX,oW,oP,nV,gS,gF];obtain⟨f,j⟩:∃f,f=(w.alloc (yM #[Z (M ⟨G,0,N⟩) n c] 154)).alloc (yM #[J I (v:Nat)] 3):=⟨_,rfl⟩;have X:Boxed f (O (T w)) 154 (Z (M ⟨G,0,N⟩) n c):=by rw[j];exact(bF w _ _).alloc _
 have Bj:Boxed f (O (T w)+1) 3 (J I (v:Nat)):=by
  have h:=bF (w.alloc (yM #[Z (M ⟨G,0,N⟩) n c] 154)) 3 (J I (v:Nat));rw[eV] at h;rw[j];exact h
 have B9:da w f:=by
  rw[j];exact((au _ w).alloc (ah _) _).alloc aE _
 have Bm:=X.cell;have F:=Bj.cell;have i:=(B9.cell (p:=⟨G,v,N⟩) ab).trans Jy.o.1;rw[j] at Bm F i;gi_wp2
 rw[<- j];clear Bm F i j;have BF:O (T w)+1<O (T f):=Bj.lt
 refine EW al bv hs rfl rfl
  (fun k V=>Boxed V (O (T w)) 154 (Z (M ⟨G,0,N⟩) n c)/\Boxed V (O (T w)+1) 3 (J I (v:Nat))/\dt V G ((je P v k).map aA)/\w.grownBy V (M G))
  (gJ (iB (ko _ _ (fun _=>_)) _) (gJ (iB (ko _ _ (fun _=>_)) _) (gJ (iB (RI _ (fun k:Nat=>(je P v k).map aA)) _) (ad4 al))))
  ⟨X,Bj,kV.aa B9 ab,aqW B9 G⟩
  (fun k=> {tmps:= #[Z (M ⟨G,0,N⟩) n c,J I (v:Nat),zR (M ⟨O (T w),0,N⟩),zR (M ⟨O (T w)+1,0,N⟩),J I (k:Nat),Z (M ⟨G,0,N⟩) n c,J I (v:Nat),zR (M ⟨G,v,N⟩),J yE (aA bv:Nat),.func (.func 182) #[J yE (aA bv:Nat)] #[],J I (k:Nat),wQ,wQ,wQ,wQ,wQ,wQ,wQ,wQ,wQ,wQ,wQ,wQ,wQ,wQ,wQ,wQ],defers:=[]}) ?assign ?body ?skip ?done
 case assign=>
  intro l k W K y;gi_wp2
  exact y
 case body=>
  rintro l k V A m ⟨Bh,d,g,L⟩;have aj:=Qq.o k m;have zS:k≠v:=fun e=>Q.o (k+1) ⟨al,e▸m⟩;have Bm:=Bh.cell;have F:=d.cell;have i:=(S.o V k v hv (Q.o k) g).1;rw[yX.o] at i;have yA:=S.o V k k aj al g;have av:=Qm.o k;have ai:=Fa (Jl.o k A);have ad:=Fa (Gs.o k);have vN:=Fa (fun U z=>mD.o U k m z);generalize aA ((P.getD k []++bv).filter fun x=>decide (x≠k))=m2 at *;generalize aA (P.getD k []++bv)=m1 at *;generalize aA (P.getD k [])=mu at *;generalize aA (Be P v k)=m3 at *;generalize aA bv=mv at *;gi_wp2_with fail
  refine A7 (fun u=>u.cell? ⟨O (T w),0,N⟩=M (Z (M ⟨G,0,N⟩) n c)/\u.cell? ⟨O (T w)+1,0,N⟩=M (J I (v:Nat))/\u.cell? ⟨G,v,N⟩=M (J yE (mv:Nat))) ao ao (fun ⟨_,_,h⟩=>h) ⟨Bm,F,i⟩ ?_;intro t;have hD:KeepsOthers V V.drew:=CS V;have q0:Boxed V.drew (O (T w)) 154 (Z (M ⟨G,0,N⟩) n c):=Bh;have q1:Boxed V.drew (O (T w)+1) 3 (J I (v:Nat)):=d;have q2:dt V.drew G ((je P v k).map aA):=g;have qB:=agU L;have kU:V.drew.cell? ⟨G,k,N⟩=M (J yE (mu:Nat)):=yA.1;have fU:V.drew.frozen? ⟨G,k,N⟩=false:=yA.2;clear Bm F i yA Bh d g L X Bj B9;generalize V.drew=q at *;refine ar 0 (Z (M ⟨G,0,N⟩) n c) ?_;refine ar 1 (J I (k:Nat)) ?_;refine ar 2 (Z (M ⟨G,0,N⟩) n c) ?_;refine ar 3 (J I (k:Nat)) ?_;refine ar 4 (zR (M ⟨G,k,N⟩)) ?_;refine ar 6 (Z (M ⟨G,0,N⟩) n c) ?_;refine ar 7 (J I (v:Nat)) ?_;refine ar 8 (zR (M ⟨G,v,N⟩)) ?_;refine ar 9 (J yE (mv:Nat)) ?_;refine ar 11 (J I (k:Nat)) ?_;refine ar 13 (J I (v:Nat)) ?_;refine aF [5] (cA ?_ aG);intro b a;go_simp;refine a.o _ _ t (fun s=>?_);clear a b s;refine ar 10 (J yE (m1:Nat)) ?_;refine aF [12] (cA ?_ aG);intro b a;go_simp;refine(ai.o _).ae ?_;rintro e Ba ⟨rfl,B7⟩;subst B7;refine a.o _ _ t (fun s=>?_);clear a b s;generalize Ba=q at *;refine aF [14] (cA ?_ aG);intro b a;go_simp;refine(ad.o _).ae ?_;rintro e Ba ⟨rfl,B7⟩
  subst B7;refine a.o _ _ t (fun s=>?_);clear a b s;generalize Ba=q at *;refine ar 15 (zR (M ⟨G,k,N⟩)) ?_;refine aF [16] (cA ?_ aG);intro b a;go_simp;refine a.o _ _ ⟨(ke q0 G k _ al).cell,(ke q1 G k _ al).cell,(fT _ _ _ _ (fun e=>zS (eG Addr.off e))).trans t.2.2⟩ (fun _=>eO ao ?_ _);clear a b t;gi_wp2
  exact⟨(hD.trans (jJ q _ _)).from _,ke q0 G k _ al,ke q1 G k _ al,vN.o q q2,agT qB (aqV q G k _)⟩
 case skip=>
  rintro k V A m h;rw[iR.o k m];exact h
 case done=>
  rintro D V hD ⟨Bh,d,g,L⟩ y;gi_wp2
  refine⟨aE,yd ⟨_,_,rfl,CC y,?_⟩⟩;refine⟨_,results_none rfl _ _ _,⟨_,rfl⟩,RI G (fun (_:Unit)=>(je P v 8).map aA) () V _ (M D) g (grownBy_putObj' V D _) (fun r e=>by cases e;exact⟨_,y,rfl⟩),?_⟩;exact ad4 (β:=Unit) (ah _) () V _ (M D) L (grownBy_putObj' V D _) (fun r e=>by cases e;exact⟨al,_,y,rfl⟩)
end
section
attribute [local go_sem] Oper.semAt_some
variable {f:Nat ->Nat}
def kH (f:Nat ->Nat) (s:Ja):Nat ->Option (Nat×Nat)
 |0=>N
 |k+1=>if k∈s then(match kH f s k with |none=>M (k,f k) |some (b,m)=>if f k<m then M (k,f k) else M (b,m)) else kH f s k
def Pm:Option (Nat×Nat) ->Nat
 |none=>0
 |some (b,_)=>b
def fwM:Option (Nat×Nat) ->Int
 |none=> -1
 |some (_,m)=>(m:Int)
theorem arh {s:Ja} (h:¬k∈s):kH f s (k+1)=kH f s k:=by rw[kH,aC h]
theorem ark {s:Ja} (h:k∈s) (e:kH f s k=N):kH f s (k+1)=M (k,f k):=by rw[kH,aw h,e]
theorem arj {s:Ja} {b:Nat} (h:k∈s) (e:kH f s k=M (b,m)) (l:f k<m):kH f s (k+1)=M (k,f k):=by rw[kH,aw h,e];exact aw l
theorem ari {s:Ja} {b:Nat} (h:k∈s) (e:kH f s k=M (b,m)) (l:¬f k<m):kH f s (k+1)=M (b,m):=by rw[kH,aw h,e];exact aC l
def kW (P:List Ja) (s:Ja):Nat:=Pm (kH (rT P) s 8)
theorem apo (P:List Ja) (v:Nat):rT P v<=32:=by
 have:=Ud P v 8;rw[rT];omega
theorem arF (G n c:Nat) (P:List Ja) (s:Ja) (w:E) (hn:C P=n) (h8:n<=8) (U:dt w G (P.map aA)) (Y:∀p∈P,∀u∈p,u<n) (hs:∀u∈s,u<n):
  c6 283 #[Z (M ⟨G,0,N⟩) n c,J yE (aA s:Nat)] w (dj w (J I (kW P s:Nat))):=by
 refine(jb (n:=6)).1 ?_;have KZ:∀u∈s,u<8:=fun u hu=>by have:=hs u hu;omega
 have ao:=U.lt;have HL:=Fa (fun (V:E) (t:da w V) (k:Nat) (Bb:k<n)=>apn G n c k P V hn h8 (U.aa t ao) Y Bb);have HN:=Fa (fun k (h:¬k∈s)=>arh (f:=rT P) h);have HF:=Fa (fun k (h:k∈s) e=>ark (f:=rT P) h e);have HS:=Fa (fun k b m (h:k∈s) e B9=>arj (f:=rT P) (b:=b) (m:=m) h e B9);have HM:=Fa (fun k b m (h:k∈s) e B9=>ari (f:=rT P) (b:=b) (m:=m) h e B9);have Em:=Fa hs;have B7:kW P s=Pm (kH (rT P) s 8):=rfl;rw[B7];have ad:kH (rT P) s 0=none:=rfl;have kj:=Fa (fun k=>apo P k);generalize kH (rT P) s=fw at *;generalize rT P=lk at *;clear U Y hs B7;refine vY func283 rfl trivial ?_ rfl;simp only[ntmps283,mL,eA,lS,Nat.reduceAdd,Nat.reduceSub,oX,oW,oP,nV,gS,gF];obtain⟨r,x⟩:∃r,r=((w.alloc (yM #[Z (M ⟨G,0,N⟩) n c] 154)).alloc (yM #[J I 0] 3)).alloc (yM #[J I (-1)] 3):=⟨_,rfl⟩;have Ba:Boxed r (O (T w)) 154 (Z (M ⟨G,0,N⟩) n c):=by rw[x];exact((bF w _ _).alloc _).alloc _
 have X:Boxed r (O (T w)+1) 3 (J I (Pm (fw 0):Nat)):=by
  have h:=(bF (w.alloc (yM #[Z (M ⟨G,0,N⟩) n c] 154)) 3 (J I 0)).alloc (yM #[J I (-1)] 3);rw[eV] at h;rw[x,ad];exact h
 have b2:Boxed r (O (T w)+1+1) 3 (J I (fwM (fw 0))):=by
  have h:=bF ((w.alloc (yM #[Z (M ⟨G,0,N⟩) n c] 154)).alloc (yM #[J I 0] 3)) 3 (J I (-1));rw[eV,eV] at h;rw[x,ad];exact h
 have ab:da w r:=by
  rw[x];exact(((au _ w).alloc (ah _) _).alloc aE _).alloc (by simp;omega) _
 gi_wp2
 rw[<- x];clear x;have BF:O (T w)+1+1<O (T r):=b2.lt
 refine EW al s KZ rfl rfl
  (fun k V=>Boxed V (O (T w)) 154 (Z (M ⟨G,0,N⟩) n c)/\Boxed V (O (T w)+1) 3 (J I (Pm (fw k):Nat))/\Boxed V (O (T w)+1+1) 3 (J I (fwM (fw k)))/\da w V)
  (gJ (iB (ko _ _ (fun _=>_)) _) (gJ (iB (ko _ _ (fun k:Nat=>J I (Pm (fw k):Nat))) _) (gJ (iB (ko _ _ (fun k:Nat=>J I (fwM (fw k)))) _) (CE (ah _) al))))
  ⟨Ba,X,b2,ab⟩
  (fun k=> {tmps:= #[Z (M ⟨G,0,N⟩) n c,J yE (aA s:Nat),zR (M ⟨O (T w),0,N⟩),wQ,J I 0,zR (M ⟨O (T w)+1,0,N⟩),zR (M ⟨O (T w)+1+1,0,N⟩),J I (k:Nat),wQ,J yE (aA s:Nat),.func (.func 182) #[J yE (aA s:Nat)] #[],J I (k:Nat),wQ,wQ,wQ,wQ,wQ,wQ,wQ,wQ,wQ,wQ,wQ,wQ,wQ],defers:=[]}) ?assign ?body ?skip ?done
 case assign=>
  intro l k W K Bh;gi_wp2
  exact Bh
 case body=>
  rintro l k V Bb v ⟨A,F,Bj,t⟩;have R:=Fa (HL.o V t k (Em.o k v));have aq:=kj.o k;have aj:=Fa (HF.o k v);have UK:=Fa (fun b m=>HS.o k b m v);have ak:=Fa (fun b m=>HM.o k b m v);have k0:=A.cell;have y:=Fa t;have H:=Fa (And.intro A (And.intro F Bj));have S:=Bj.lt;clear A F Bj t Ba X b2 ab;generalize fw k=st at *;generalize lk k=L at *;have av:¬(L:Int)<0:=al
  cases st with
  |none=>
   have g:=aj.o rfl;have Bm:=Fa g;clear g;gi_wp2_with (refine⟨trivial,?_⟩;gi_at_call 293;refine(Ra l (jb.2 R.o)).ae ?_;rintro e i ⟨rfl,a⟩;have z:=Aq H.o.1 a al;have d:=Aq H.o.2.1 a al;have q:=Aq H.o.2.2 a S;have j1:=d.cell;have j:=q.cell;have g1:=d.frozen;have g2:=q.frozen;have ai:i.cell? ⟨O (T w)+1+1,0,N⟩=M (J I (-1)):=j;clear j)
   refine⟨((X9 a).trans ((jJ i _ _).trans (jJ _ _ _))).from _,ke (ke z _ 0 _ al) _ 0 _ al,?_,?_,?_⟩
   ·rw[Bm.o];exact ke (d.set _) _ 0 _ al
   ·rw[Bm.o];exact(ke q _ 0 _ al).set _
   ·exact((y.o.trans (a.ae y.o.size)).setCell (p:=⟨O (T w)+1,0,N⟩) aE _).setCell (p:=⟨O (T w)+1+1,0,N⟩) (by show O (T w)<=O (T w)+1+1;omega) _
  |some bm=>
   obtain⟨b,m⟩:=bm;(have ax:¬(m:Int)<0:=al);by_cases Q:L<m
   ·have g:=UK.o b m rfl Q;have Bm:=Fa g;(have an:(L:Int)<(m:Int):=al);clear g;gi_wp2_with (refine⟨trivial,?_⟩;gi_at_call 293;refine(Ra l (jb.2 R.o)).ae ?_;rintro e i ⟨rfl,a⟩;have z:=Aq H.o.1 a al;have d:=Aq H.o.2.1 a al;have q:=Aq H.o.2.2 a S;have j1:=d.cell;have j:=q.cell;have g1:=d.frozen;have g2:=q.frozen;have ai:i.cell? ⟨O (T w)+1+1,0,N⟩=M (J I (m:Nat)):=j;clear j)
    refine⟨((X9 a).trans ((jJ i _ _).trans (jJ _ _ _))).from _,ke (ke z _ 0 _ al) _ 0 _ al,?_,?_,?_⟩
    ·rw[Bm.o];exact ke (d.set _) _ 0 _ al
    ·rw[Bm.o];exact(ke q _ 0 _ al).set _
    ·exact((y.o.trans (a.ae y.o.size)).setCell (p:=⟨O (T w)+1,0,N⟩) aE _).setCell (p:=⟨O (T w)+1+1,0,N⟩) (by show O (T w)<=O (T w)+1+1;omega) _
   ·have g:=ak.o b m rfl Q;have Bm:=Fa g;(have an:¬(L:Int)<(m:Int):=al);clear g Q;gi_wp2_with (refine⟨trivial,?_⟩;gi_at_call 293;refine(Ra l (jb.2 R.o)).ae ?_;rintro e i ⟨rfl,a⟩;have z:=Aq H.o.1 a al;have d:=Aq H.o.2.1 a al;have q:=Aq H.o.2.2 a S;have j:=q.cell;have ai:i.cell? ⟨O (T w)+1+1,0,N⟩=M (J I (m:Nat)):=j;clear j)
    exact⟨(X9 a).from _,z,by rw[Bm.o];exact d,by rw[Bm.o];exact q,y.o.trans (a.ae y.o.size)⟩
 case skip=>
  rintro k V Bb v h;rw[HN.o k v];exact h
 case done=>
  rintro D V hD ⟨A,F,Bj,t⟩ Bh;have hc:=F.cell;gi_wp2
  refine⟨aE,yd ⟨_,_,rfl,CC Bh,?_⟩⟩;exact⟨_,CD rfl _ _ _,rfl,t.trans (xM (w:=w) (ah _) V D _ _ al Bh rfl rfl)⟩
end
variable {l:Kx} {g i j:Nat} {y:wF} {w w':E}
def iH (w:E) (g:Nat) (l:List wF):Prop:=w.heap[g]? =M (yM l.toArray 27 (0,0))
theorem iH.cell {l:List wF} (h:iH w g l) (j:Nat) (a:j<C l):w.cell? ⟨g,j,N⟩=M l[j]:=by
 rw[ba w g j _ _ (0,0) h];simp[a]
theorem iH.fz {l:List wF} (h:iH w g l) (j:Nat):w.frozen? ⟨g,j,N⟩=false:=gj w g j _ _ h
theorem iH.lt {l:List wF} (h:iH w g l):g<O (T w):=(cS.1 h).1
theorem iH.aa {b:Nat} {l:List wF} (h:iH w g l) (a:Below b w w') (c:g<b):iH w' g l:=(a.block g c).trans h
theorem iH.set {l:List wF} (h:iH w g l) (j:Nat) (y:wF):iH (w.setCell ⟨g,j,N⟩ y) g (l.set j y):=by
 have a:=jW w g j _ _ y h;rw[iH,a];simp
theorem Tryz.infoInts1:(prog.info? 27).map (fun i=>(i.zero,i.size,i.bytes))=M (M (Z N 0 0),1,24):=ao
theorem SA (n:Nat):(madeCells (Value.slice N 0 0).cells (n*1)).toList=List.replicate n (Value.slice N 0 0):=by
 rw[show (Value.slice N 0 0).cells= #[Value.slice N 0 0] from rfl,MA,qM]
def fW (s:Ja):Kx:=iL (bZ s 8)
def PT (w:E) (P:List Ja) (l:List wF) (i:Nat):Prop:=C l=C P/\∀j (hj:j<C P),j< i ->∃d cd,l[j]? =M (Z d (C (fW P[j])) cd)/\aB w d (fW P[j])
theorem PT.aa {l:List wF} (h:PT w P l i) (e:da w w'):PT w' P l i:=⟨h.1,fun j g f=>by
 obtain⟨d,c,a,b⟩:=h.2 j g f;exact⟨d,c,a,b.aa e⟩⟩
theorem aB.off {d:Kd} (h:aB w d l) (i:∀g' o',d=M ⟨g',o',N⟩ ->l≠[] ->g'≠g):aB (w.setCell ⟨g,j,N⟩ y) d l:=fun k a=>by
 obtain⟨g',o',b,c,f⟩:=h k a;have n:=i g' o' b (fun e=>by rw[e] at a;simp at a);refine⟨g',o',b,by simpa using c,?_⟩;rw[<- f];have e:=eW w ⟨g,j,N⟩ y g' (by show g'≠g;exact n);exact iM e
theorem afv {d:Kd} {vs:List wF} (h:aB w d l) (j:iH w g vs) (m:∀v∈vs,∃a n c,v=Z a n c):∀g' o',d=M ⟨g',o',N⟩ ->l≠[] ->g'≠g:=fun g' o' i k e=>by
 subst e;have p:0<C l:=List.length_pos_iff.2 k;obtain⟨o,r,f,q,b⟩:=h 0 p;rw[i] at f;cases f;rw[ba w g' _ _ _ (0,0) j] at b;rw[Q1] at b;obtain⟨a,n,c,e⟩:=m _ (VS b);cases e
def Slv (l:List wF):Prop:=∀v∈l,∃a n c,v=Value.slice a n c
theorem afc (a:Kd) (ca:Nat) (P:List Ja) (w:E) (A:∀p∈P,∀u∈p,u<8) (hn:C P<=5000) (D:∀k (h:k<C P),∃g o,a=M ⟨g,o,N⟩/\g<O (T w)/\w.cell? ⟨g,o+k,N⟩=M (J yE (aA P[k]:Nat))):
  c6 253 #[Z a (C P) ca] w fun e w'=>∃G,e=yW (Z (M ⟨G,0,N⟩) (C P) (C P))/\w.heap.size<=G/\dP w' (M ⟨G,0,N⟩) (P.map fW)/\da w w':=by
 obtain⟨i0,cC,aj,ak,an⟩:=eC Tryz.infoInts1;have X:=Fa D;have V:=Fa A;have Q:=Fa (fun (s:Ja) (hs:∀u∈s,u<8) (U:E)=>afd s U hs);clear D A;go_enter func253,ntmps253
 go_wp2_with (first
  |(at_make;refine oK _ rfl _ _ 23 rfl (O (T w)) 27 i0 (Z N 0 0) 1 underlying23 cC aj ak I I _ _ (C P) rfl rfl bd bd (by rw[an];omega) (by unfold maxLen;omega) (ah _) ?_;intro Bm L Bb))
 have r:=sB L;rw[SA] at r;have Y:wT (da w Bm):=(au _ w).grown Bb (ah _) (fun k e=>by cases e);have t:wT (iH Bm (O (T w)) (List.replicate (C P) (Z N 0 0))):=r;clear L Bb r;go_wp2_with fail
 go_loopw [11] (fun iv wr=>∃(i:Nat) (vs:List wF),i<=C P/\iv=J I i/\wT (iH wr (O (T w)) vs)/\wT (PT wr P vs i)/\wT (Slv vs)/\wT (da w wr)) (fun iv _=>C P - (intOf iv).toNat)
 case atStart=>exact⟨0,_,aV _,rfl,t,⟨aE,fun j _ h=>absurd h al⟩,fun v f=>⟨N,0,0,(List.mem_replicate.1 f).2⟩,Y⟩
 case round=>
  obtain⟨i,vs,hi,rfl,R,F,S,H⟩:=hrel;clear t Y;by_cases K:i<C P
  ·obtain⟨g,o,rfl,hg,y⟩:=X.o i K;have c1:=(H.o.cell (p:=⟨g,o+i,N⟩) hg).trans y;have Ba:=Fa (Q.o P[i] (V.o _ (bU K)));have ai:=F.o.1;clear y;go_wp2_with fail
   refine(Ba.o _).ae ?_;rintro e w3 ⟨v,rfl,f,l⟩;obtain⟨d,c,rfl,Bj⟩:=f.ints;have n:=R.o.aa l R.o.lt;have Bh:=F.o.aa l;have k3:=n.cell i al;have f3:=n.fz i;have B9:=Fa ((H.o.trans (l.ae H.o.size)).setCell (p:=⟨O (T w),i,N⟩) (ah _) (Z d (C (fW P[i])) c));have jU:=Fa (n.set i (Z d (C (fW P[i])) c))
   have ab:wT (Slv (vs.set i (Z d (C (fW P[i])) c))):=fun x hx=>by
    rcases abx hx with h |h
    ·exact S.o x h
    ·exact⟨_,_,_,h⟩
   have ad:wT (PT (w3.setCell ⟨O (T w),i,N⟩ (Z d (C (fW P[i])) c)) P (vs.set i (Z d (C (fW P[i])) c)) (i+1)):=by
    refine⟨by rw[gA];exact ai,fun j hj ux=>?_⟩;by_cases e:j=i
    ·subst e;exact⟨d,c,by rw[Hr al],aB.off Bj (afv Bj n S.o)⟩
    ·obtain⟨d',B7,m,b⟩:=Bh.2 j hj al;exact⟨d',B7,by rw[wj (fun e'=>e e'.symm)];exact m,aB.off b (afv b n S.o)⟩
   rw[show iL (bZ P[i] 8)=fW P[i] from rfl];generalize (C (fW P[i]))=ln at *;generalize vs[i]'al=z at *;clear n Bh l Bj f c1;go_wp2;go_roundw
   case rel=>exact⟨i+1,_,al,bd,jU,ad,ab,B9⟩
   case measure=>simp[intOf];omega
  ·obtain rfl:i=C P:=al
   have eh:wT (dP wr (M ⟨O (T w),0,N⟩) (P.map fW)):=fun k q=>by
    rw[cY] at q;obtain⟨d,c,m,b⟩:=F.o.2 k q q;obtain⟨h3,h4⟩:=mO.1 m;refine⟨O (T w),0,d,c,rfl,R.o.lt,?_,by rw[mN];exact b⟩;rw[bQ,R.o.cell k h3,h4,mN]
   go_wp2;go_ret;exact⟨O (T w),rfl,ah _,eh.o,H.o⟩
variable {K:Act ->E ->Prop} {Q:Exit ->Act ->E ->Prop} {f:Nat ->Nat} {nv v':wF} {V' w9 wr wr':E}
def Aw (w:E) (B:Nat) (v:wF) (l:Ja):Prop:=w.ownsRow B 158 1 v (C l) (l.map uv)
theorem Aw.own {B:Nat} {v:wF} {l:Ja} (h:Aw w B v l):∀k,v.ownBlock=M k ->B<=k:=by
 intro k a;rcases h.2 with ⟨rfl,_⟩ |⟨g,cap,c,rfl,b,_⟩
 ·cases a
 ·cases a;exact b
theorem Aw.slv {B:Nat} {v:wF} {l:Ja} (h:Aw w B v l):∃d n c,v=Z d n c:=by
 rcases h.2 with ⟨rfl,_⟩ |⟨g,cap,r,rfl,a,_⟩
 ·exact⟨_,_,_,rfl⟩
 ·exact⟨_,_,_,rfl⟩
theorem ad1 {W:E} {d f:Nat} {a b:TypeId} {c v:wF} {n m:Nat} {x o:List wF} (h1:W.ownsRow d a 1 c n x) (j:W.ownsRow f b 1 v m o) (k:a≠b):v.ownBlock=N∨v.ownBlock≠c.ownBlock:=by
 rcases j.2 with ⟨rfl,_⟩ |⟨g,cap,r,rfl,_,l,_⟩
 ·exact yd rfl
 ·refine yk fun e=>?_;rcases h1.2 with ⟨rfl,_⟩ |⟨g',p,u,rfl,_,i,_⟩
  ·cases e
  ·have h:g=g':=jO e;subst h;rw[l] at i;injection i with h3;injection h3 with _ h4 _;exact k h4.symm
theorem ad2 {W:E} {B G:Nat} {e:TypeId} {v:wF} {x:List wF} (h:W.ownsRow B e 1 v n x) (c:G<B):v.ownBlock=N∨v.ownBlock≠M G:=by
 rcases h.2 with ⟨rfl,_⟩ |⟨g,cap,r,rfl,b,_⟩
 ·exact yd rfl
 ·exact yk fun e=>by
   have a:g=G:=jO e;omega
theorem Z4 {V:E} {G:Nat} {row:Option Nat} (h:w.grownBy V (M G)) (g:V.grownBy V' row) (b:∀r,row=M r ->O (T w)<=r):w.grownBy V' (M G):=
 ⟨g.os.trans h.os,g.tape.trans h.tape,g.output.trans h.output,aM h.size g.size,fun k a n=>(g.block k (aT a h.size) (fun e=>by
  have:=b k e.symm;omega)).trans (h.block k a n)⟩
theorem Tryz.infoSet2:(prog.info? 158).map (fun i=>(i.zero,i.size,i.bytes))=M (M (J yE 0),1,4):=ao
theorem ajn {o:Oper} {a:Act} (s x:Operand)
  (m:o.op=.call {callee:=.builtin .append,args:= #[s,x],argTypes:= #[154,154]}) (base:Nat) (v:wF) (l:Ja) (f:Nat) (hs:a.eval s=v) (t:Aw w base v l) (g:Nat) (n:a.eval x=Z (M ⟨g,0,N⟩) 1 1) (k:w.cell? ⟨g,0,N⟩=M (uv f)) (A:C l+1<=100000) (y:base<=O (T w))
  (h:∀v' w',Aw w' base v' (l++[f]) ->w.grownBy w' v.ownBlock ->K (a.put o.dst v') w'):o.wp prog a w K Q:=by
 obtain⟨p,d,z,q,r⟩:=eC Tryz.infoSet2;refine wp_append_own _ s x 154 m base 158 p (J yE 0) 1 4 underlying154 d z q r rfl a6 v (C l) _ hs t ⟨g,0,N⟩ 1 1 [uv f] n rfl ?_ ?_ (by unfold maxLen;omega) al y ?_
 ·intro j u b;match j,b with
  |0,b=>cases b;exact k
  |j+1,b=>simp at b
 ·intro u c;simp only[bY,gK,jq] at c;subst c;rfl
 ·intro v' w' e i _;refine h v' w' ?_ i;rw[Aw,cE,gV];exact e
theorem ajp {o:Oper} {a:Act} (s x:Operand)
  (m:o.op=.call {callee:=.builtin .append,args:= #[s,x],argTypes:= #[27,27]}) (base:Nat) (v:wF) (l:Kx) (f:Int) (hs:a.eval s=v) (t:bW w base v l) (g:Nat) (n:a.eval x=Z (M ⟨g,0,N⟩) 1 1) (k:w.cell? ⟨g,0,N⟩=M (J I f)) (A:C l+1<=100000) (y:base<=O (T w))
  (h:∀v' w',bW w' base v' (l++[f]) ->w.grownBy w' v.ownBlock ->K (a.put o.dst v') w'):o.wp prog a w K Q:=by
 obtain⟨p,d,z,q,r⟩:=eC Tryz.infoInt;refine wp_append_own _ s x 27 m base 3 p (J I 0) 1 8 underlying27 d z q r rfl a6 v (C l) _ hs t ⟨g,0,N⟩ 1 1 [J I f] n rfl ?_ ?_ (by unfold maxLen;omega) al y ?_
 ·intro j u b;match j,b with
  |0,b=>cases b;exact k
  |j+1,b=>simp at b
 ·intro u c;simp only[bY,gK,jq] at c;subst c;rfl
 ·intro v' w' e i _;refine h v' w' ?_ i;rw[bW,cE,gV];exact e
def zw:Nat ->Ja
 |0=>[]
 |i+1=>i::zw i
theorem CY {x:Nat}:x∈zw i↔x<i:=by
 induction i with
 |zero=>simp[zw]
 |succ i ih=>rw[zw,bY,ih];omega
structure FlS where
 ord:Ja
 bag:List Ja
 lft:Ja
 nei:List Ja
def bT (P:List Ja) (n:Nat):Nat ->FlS
 |0=>⟨[],[],zw n,P⟩
 |k+1=>⟨(bT P n k).ord++[kW (bT P n k).nei (bT P n k).lft],(bT P n k).bag++[kW (bT P n k).nei (bT P n k).lft::(bT P n k).nei.getD (kW (bT P n k).nei (bT P n k).lft) []],(bT P n k).lft.filter (fun u=>decide (u≠kW (bT P n k).nei (bT P n k).lft)),uT (bT P n k).nei (kW (bT P n k).nei (bT P n k).lft)⟩
structure vL (n:Nat) (P:List Ja):Prop where
 len:C P=n
 lt:∀p∈P,∀u∈p,u<n
 self:∀u,¬u∈P.getD u []
theorem vL.at (h:vL n P) (v:Nat):∀u∈P.getD v [],u<n:=by
 by_cases a:v<C P
 ·rw[cF,a7 a];exact h.lt _ (bU a)
 ·rw[cF,iT al];intro u b;simp at b
theorem XN {u x:Nat}:x∈Be P v u↔(x∈P.getD u []∨x∈P.getD v [])/\x≠u/\x≠v:=by
 simp only[Be,dC,bE,VE];exact⟨fun ⟨⟨a,b⟩,c⟩=>⟨a,b,c⟩,fun ⟨a,b,c⟩=>⟨⟨a,b⟩,c⟩⟩
theorem vL.take (h:vL n P) (v:Nat):vL n (uT P v):=by
 refine⟨by rw[uT,Kf];exact h.len,fun p b u a=>?_,fun u a=>?_⟩
 ·obtain⟨i,d,rfl⟩:=aN.1 b;by_cases c:i<8/\i∈P.getD v []
  ·rw[aw c,XN] at a;exact a.1.elim (h.at i u) (h.at v u)
  ·rw[aC c] at a;exact h.at i u a
 ·by_cases l:u<C P
  ·have e:(uT P v).getD u []=if u<8/\u∈P.getD v [] then Be P v u else P.getD u []:=by
    rw[cF,a7 (by rw[uT,Kf];exact l)];simp[uT,je]
   rw[e] at a;by_cases c:u<8/\u∈P.getD v []
   ·rw[aw c,XN] at a;exact a.2.1 rfl
   ·rw[aC c] at a;exact h.self u a
  ·rw[cF,iT (by rw[uT,Kf];omega)] at a;simp at a
theorem TY {s:Ja}:∀ {k b m:Nat},kH f s k=M (b,m) ->b∈s
 |0,_,_,h=>by cases h
 |k+1,b,m,h=>by
  by_cases a:k∈s
  ·rw[kH,aw a] at h;cases hf:kH f s k with
   |none=>rw[hf] at h;cases h;exact a
   |some x=>
    obtain⟨d,c⟩:=x;rw[hf] at h;simp only at h;by_cases l:f k<c
    ·rw[aw l] at h;cases h;exact a
    ·rw[aC l] at h;cases h;exact TY hf
  ·rw[kH,aC a] at h;exact TY h
theorem ahj {s:Ja} (h1:1<=n) (hs:∀u∈s,u<n):kW P s<n:=by
 rw[kW];cases h:kH (rT P) s 8 with
 |none=>exact h1
 |some x=>
  obtain⟨b,m⟩:=x;exact hs b (TY h)
theorem T4 (h:vL n P):∀k,vL n (bT P n k).nei/\(∀u∈(bT P n k).lft,u<n)/\(bT P n k).ord.length=k/\(bT P n k).bag.length=k
 |0=>⟨h,fun u a=>CY.1 a,rfl,rfl⟩
 |k+1=>by
  obtain⟨b,c,d,e⟩:=T4 h k;exact⟨b.take _,fun u a=>c u (dC.1 a).1,by simp[bT,d],by simp[bT,e]⟩
structure pW (w wr:E) (G:Nat) (nv bv:wF) (o:Kx) (b Q:Ja):Prop where
 row:dt wr G Q
 grow:w.grownBy wr (M G)
 nd:bW wr (O (T w)) nv o
 bg:Aw wr (O (T w)) bv b
theorem pW.aa {G:Nat} {bv:wF} {o:Kx} {b Q:Ja} (h:pW w wr G nv bv o b Q) (a:da wr wr'):pW w wr' G nv bv o b Q:=
 ⟨h.row.aa a h.row.lt,Z4 h.grow (row:=N) ⟨a.os,a.tape,a.output,a.size,fun k c _=>a.block k c⟩ (fun r e=>by cases e),h.nd.under a,Sd h.bg a (ah _)⟩
theorem pW.nodes {G:Nat} {bv:wF} {o o':Kx} {b Q:Ja} (h:pW w wr G nv bv o b Q) (c:G<O (T w)) (a:bW w9 (O (T w)) v' o') (g:wr.grownBy w9 nv.ownBlock):pW w w9 G v' bv o' b Q:=
 ⟨(g.block G h.row.lt (fun e=>by have:=h.nd.own G e.symm;omega)).trans h.row,Z4 h.grow g (fun r e=>h.nd.own r e),a,QP h.bg g (ad1 h.nd h.bg a6)⟩
theorem pW.bags {G:Nat} {bv:wF} {o:Kx} {b a Q:Ja} (h:pW w wr G nv bv o b Q) (d:G<O (T w)) (c:Aw w9 (O (T w)) v' a) (g:wr.grownBy w9 bv.ownBlock):pW w w9 G nv v' o a Q:=
 ⟨(g.block G h.row.lt (fun e=>by have:=h.bg.own G e.symm;omega)).trans h.row,Z4 h.grow g (fun r e=>h.bg.own r e),QP h.nd g (ad1 h.bg h.nd a6),c⟩
theorem pW.o {G:Nat} {bv:wF} {o:Kx} {b Q a:Ja} (h:pW w wr G nv bv o b Q) (c:G<O (T w)) (r:dt w9 G a) (g:wr.grownBy w9 (M G)):pW w w9 G nv bv o b a:=
 ⟨r,agT h.grow g,QP h.nd g (ad2 h.nd c),QP h.bg g (ad2 h.bg c)⟩
theorem pW.drew {G:Nat} {bv:wF} {o:Kx} {b Q:Ja} (h:pW w wr G nv bv o b Q):pW w wr.drew G nv bv o b Q:=⟨h.row,agU h.grow,h.nd,h.bg⟩
theorem aqZ (G n c:Nat) (P:List Ja) (w:E) (h1:1<=n) (h8:n<=8) (j:dt w G (P.map aA)) (hP:vL n P):
  c6 255 #[Z (M ⟨G,0,N⟩) n c] w fun e w'=>∃nv bv,e=yW (zp #[nv,bv])/\pW w w' G nv bv (iL (bT P n n).ord) ((bT P n n).bag.map aA) ((bT P n n).nei.map aA):=by
 have L:=j.lt;have Cn:=Fa (fun k=>T4 hP k);have X:wT (pW w w G (Z N 0 0) (Z N 0 0) (iL (bT P n 0).ord) ((bT P n 0).bag.map aA) ((bT P n 0).nei.map aA)):=⟨j,⟨rfl,rfl,rfl,ah _,fun _ _ _=>rfl⟩,⟨rfl,yd ⟨rfl,rfl⟩⟩,⟨rfl,yd ⟨rfl,rfl⟩⟩⟩;have Y:=Fa (fun (i:Nat) (Bb:i<8) (U:E)=>Kn (zw i) i U (fun u x=>by have:=CY.1 x;omega) Bb);have ab:wT (∀i,aA (i::zw i)=aA (zw (i+1))):=fun i=>rfl;have Gv:wT (∀k,bT P n (k+1)=⟨(bT P n k).ord++[kW (bT P n k).nei (bT P n k).lft],(bT P n k).bag++[kW (bT P n k).nei (bT P n k).lft::(bT P n k).nei.getD (kW (bT P n k).nei (bT P n k).lft) []],(bT P n k).lft.filter (fun u=>decide (u≠kW (bT P n k).nei (bT P n k).lft)),uT (bT P n k).nei (kW (bT P n k).nei (bT P n k).lft)⟩):=fun k=>rfl;have U6:wT ((bT P n 0).lft=zw n):=rfl;generalize bT P n=t at *;clear j hP;go_enter func255,ntmps255;go_wp2_with fail
 go_loopw [4,9] (fun sv iv wr=>∃i:Nat,i<=n/\sv=J yE (aA (zw i):Nat)/\iv=J I i/\wr=w) (fun _ iv _=>n - (intOf iv).toNat)
 case atStart=>exact⟨0,aV _,rfl,rfl,rfl⟩
 case round=>
  obtain⟨i,Bb,rfl,rfl,Q⟩:=hrel;replace Q:=Q.symm;subst Q;by_cases ad:i<n
  ·have UH:=Fa (Y.o i al);rw[ab.o i] at UH;generalize aA (zw i)=B9 at *;go_wp2_with fail
   refine(UH.o _).ae ?_;rintro e w1 ⟨rfl,aj⟩;subst aj;go_wp2;go_roundw
   case rel=>exact⟨i+1,al,rfl,bd,trivial⟩
   case measure=>simp[intOf];omega
  ·obtain rfl:i=n:=al
   rw[<- U6.o];clear Bb ad Y ab;go_wp2_with fail
   go_loopw [2,3,4,18] (fun nv bv sv iv wr'=>∃k:Nat,k<=i/\iv=J I k/\sv=J yE (aA (t k).lft:Nat)/\wT (pW w wr' G nv bv (iL (t k).ord) ((t k).bag.map aA) ((t k).nei.map aA))) (fun _ _ _ iv _=>i - (intOf iv).toNat)
   case atStart=>exact⟨0,aV _,rfl,rfl,X⟩
   case round=>
    obtain⟨k,hk,rfl,rfl,H⟩:=hrel;clear X;by_cases ad:k<i
    ·obtain⟨g,Ba,ax,av⟩:=Cn.o k;have UK:=Fa (Gv.o k);(obtain⟨d2,n2,e2,rfl⟩:∃d n c,u2=Value.slice d n c:=by obtain⟨d,cd,e, -⟩:=H.o.nd.ints;exact⟨_,_,_,e⟩);obtain⟨d3,n3,e3,rfl⟩:=H.o.bg.slv;generalize t k=S at *;have OM:=ahj (P:=S.nei) h1 Ba;have ai:=Fa (fun (U:E) (j:dt U G (S.nei.map aA))=>arF G i c S.nei S.lft U g.len h8 j g.lt Ba);have P8:=Fa (fun (U:E) (j:dt U G (S.nei.map aA))=>akf G i c (kW S.nei S.lft) S.nei U g.len h8 j g.lt OM (g.self _));have Jj:=Fa (fun (U:E)=>Kn (S.nei.getD (kW S.nei S.lft) []) (kW S.nei S.lft) U (fun u x=>by have:=g.at _ u x;omega) al);have lJ:=Fa (fun (U:E)=>Nl S.lft (kW S.nei S.lft) U (fun u x=>by have:=Ba u x;omega) al)
     have mH:wT (∀U:E,dt U G (S.nei.map aA) ->U.cell? ⟨G,kW S.nei S.lft,N⟩=M (J yE (aA (S.nei.getD (kW S.nei S.lft) []):Nat))):=fun U hR=>by
      have hl:=g.len;have:=hR.cell (kW S.nei S.lft) (by rw[cY];omega);rwa [Fk al] at this
     generalize uj:kW S.nei S.lft=v at *;clear uj g Ba;generalize hm4:aA (S.lft.filter fun u=>decide (u≠v))=m4 at *;have tO:=Fa hm4;clear hm4;go_wp2_with fail
     refine(ai.o _ H.o.row).ae ?_;rintro e w1 ⟨rfl,hb⟩;have B7:=H.o.aa hb;clear hb H;have kc:=mH.o _ B7.row;have R:wT (aA (v::S.nei.getD v [])=aA (v::S.nei.getD v [])):=rfl;generalize hm1:aA (v::S.nei.getD v [])=r at *;replace R:wT (aA (v::S.nei.getD v [])=r):=hm1;clear hm1;generalize aA (S.nei.getD v [])=B9 at *;go_upto_region 10 with fail
     refine iK (S:=fun u=>u.cell? ⟨G,v,N⟩=M (J yE (B9:Nat))) ao kc (fun a=>?_);have Bj:=B7.drew;(have ay:C (iL S.ord)<=8:=by rw[bR];omega);(have kD:C (S.bag.map aA)<=8:=by rw[cY];omega);clear kc B7;generalize w1.drew=f at *;refine ar 0 (Z d2 n2 e2) ?_;refine ar 1 (J I (v:Nat)) ?_;refine ar 4 (Z d3 n3 e3) ?_;refine ar 5 (Z (M ⟨G,0,N⟩) i c) ?_;refine ar 6 (J I (v:Nat)) ?_;refine ar 7 (zR (M ⟨G,v,N⟩)) ?_;(try simp only[gE,aP]);refine cU 8 (J yE (B9:Nat)) ?_ ?_
     ·intro u' aJ;have s0:=aJ;go_simp
     refine ar 9 (J I (v:Nat)) ?_;refine aF [2] (cA ?_ aG);intro K h;go_simp;have l:=(au _ f).alloc (ah _) (yM #[J I (v:Nat)] 3);have q:=Bj.aa l;have s:=(bF f 3 (J I (v:Nat))).cell;refine h.o _ _ ((l.cell (p:=⟨G,v,N⟩) Bj.row.lt).trans a) (fun b=>?_);clear h K a Bj l;have a:=b;clear b;generalize (f.alloc (yM #[J I (v:Nat)] 3))=U1 at *;generalize (O (T f))=D at *;refine aF [3] (cA ?_ aG);intro K h;rw[aw (by rfl)];refine ajp _ _ rfl (O (T w)) _ (iL S.ord) (v:Nat) rfl q.nd D rfl s al q.grow.size ?_;intro v' w9 m Bh;(obtain⟨z,A,y,rfl⟩:∃d n c,v'=Value.slice d n c:=by obtain⟨d,cd,e, -⟩:=m.ints;exact⟨_,_,_,e⟩);have F:=q.nodes L m Bh;refine h.o _ _ ((iM (Bh.block G q.row.lt (fun e=>by have:=q.nd.own G e.symm;omega))).trans a) (fun b=>?_);clear h K a q m Bh s;have a:=b;clear b;have Dz:True:=trivial;clear Dz;generalize hd:z=dn at *;generalize pw:A=nn at *;generalize Tm:y=cn at *;clear hd pw Tm z A y;refine aF [10] (cA ?_ aG);intro K h;go_simp;refine(Jj.o _).ae ?_;rintro e U2 ⟨rfl,yA⟩;subst yA;refine h.o _ _ a (fun b=>?_);clear h K b;have Bj:=F;clear F;generalize U2=f at *;refine aF [11] (cA ?_ aG);intro K h;go_simp;have l:=(au _ f).alloc (ah _) (yM #[J yE (r:Nat)] 158);have q:=Bj.aa l;have s:=(bF f 158 (J yE (r:Nat))).cell;refine h.o _ _ ((l.cell (p:=⟨G,v,N⟩) Bj.row.lt).trans a) (fun b=>?_);clear h K a Bj l;have a:=b;clear b
     generalize (f.alloc (yM #[J yE (r:Nat)] 158))=U1 at *;generalize (O (T f))=D at *;refine aF [12] (cA ?_ aG);intro K h;rw[aw (by rfl)];refine ajn _ _ rfl (O (T w)) _ (S.bag.map aA) r rfl q.bg D rfl s al q.grow.size ?_;intro v' w9 m Bh;obtain⟨z,A,y,rfl⟩:∃d n c,v'=Value.slice d n c:=m.slv;have F:=q.bags L m Bh;refine h.o _ _ ((iM (Bh.block G q.row.lt (fun e=>by have:=q.bg.own G e.symm;omega))).trans a) (fun b=>?_);clear h K a q m Bh s;have a:=b;clear b;refine ar 13 (Z dn nn cn) ?_;refine ar 14 (Z z A y) ?_;(try simp only[gE,aP]);refine eO ao ?_ _;clear a;have Bm:=F;clear F;generalize w9=w3 at *;go_wp2_with fail
     refine(lJ.o _).ae ?_;rintro e w4 ⟨rfl,an⟩;subst an;go_wp2_with fail
     refine(P8.o _ Bm.row).ae ?_;rintro e w5 ⟨⟨rr,rfl⟩,tj,V⟩;have yL:=Fa (Bm.o L tj V);clear tj V Bm;go_wp2;go_roundw
     case rel=>exact⟨k+1,al,bd,by rw[UK.o];show _=Value.int yE (aA (S.lft.filter fun u=>decide (u≠v)):Nat);rw[tO.o],by rw[UK.o];show pW _ _ _ _ _ (iL (S.ord++[v])) ((S.bag++[v::S.nei.getD v []]).map aA) _;rw[Yj,gV,show [v::S.nei.getD v []].map aA=[r] from by rw[<- R.o];rfl];exact yL⟩
     case measure=>simp[intOf];omega
    ·obtain rfl:k=i:=al
     (obtain⟨d2,n2,e2,rfl⟩:∃d n c,u2=Value.slice d n c:=by obtain⟨d,cd,e, -⟩:=H.o.nd.ints;exact⟨_,_,_,e⟩);obtain⟨d3,n3,e3,rfl⟩:=H.o.bg.slv;go_wp2;go_ret2;exact⟨_,_,rfl,H.o⟩
structure aiH (n:Nat) (ord:Nat ->Nat) (nr:Nat ->Nat ->Nat ->Prop):Prop where
 all:∀v,v< n ->∃i,i<n/\ord i=v
 inj:∀i j,i< n ->j< n ->ord i=ord j ->i=j
 lt:∀u w,nr 0 u w ->u<n/\w<n
 self:∀u,¬nr 0 u u
 symm:∀u w,nr 0 u w ->nr 0 w u
 step:∀i,i< n ->∀u w,nr (i+1) u w↔u≠ord i/\w≠ord i/\u≠w/\(nr i u w∨nr i u (ord i)/\nr i (ord i) w)
theorem Fh:∀ {l m:Ja},l.Nodup ->(∀x∈l,x∈m) ->C l<=C m
 |[],_,_,_=>aV _
 |a::l,m,hn,hs=>by
  have b:a∈m:=hs a (dJ ..);have h:=nS.1 hn;have:=Fh (l:=l) (m:=m.erase a) h.2 (fun x c=>(List.mem_erase_of_ne (fun e=>h.1 (by rw[<- e];exact c))).2 (hs x (dZ _ c)));rw[VU b] at this;have p:=VT b;show C l+1<=C m;omega
def lV (P:List Ja) (n i:Nat):Nat:=kW (bT P n i).nei (bT P n i).lft
theorem ag3 {s:Ja}:∀ {k x:Nat},x< k ->x∈s ->∃b m,kH f s k=M (b,m)
 |k+1,x,hx,hs=>by
  rw[kH];by_cases a:k∈s
  ·rw[aw a];cases kH f s k with
   |none=>exact⟨_,_,rfl⟩
   |some p=>
    obtain⟨b,m⟩:=p;simp only;split
    ·exact⟨_,_,rfl⟩
    ·exact⟨_,_,rfl⟩
  ·rw[aC a];exact ag3 (by rcases dX x k with h |h;exact h;exact absurd (by rw[show k=x by omega];exact hs) a) hs
theorem arG {s:Ja} {x:Nat} (h:x<8) (hs:x∈s):kW P s∈s:=by
 obtain⟨b,m,e⟩:=ag3 (f:=rT P) h hs;rw[kW,e];exact TY e
structure FI (P:List Ja) (n k:Nat):Prop where
 left:∀x,x∈(bT P n k).lft↔x<n/\∀i,i< k ->lV P n i≠x
 inj:∀i j,i< k ->j< k ->lV P n i=lV P n j ->i=j
 lt:∀i,i< k ->lV P n i<n
 sym:∀u,u∈(bT P n k).lft ->∀w,w∈(bT P n k).nei.getD u [] ->w∈(bT P n k).lft/\u∈(bT P n k).nei.getD w []/\u≠w
theorem FI.here (h:FI P n k) (f:k<n) (d:n<=8):lV P n k∈(bT P n k).lft:=by
 have c:∃x,x∈(bT P n k).lft:=by
  refine zt fun o=>?_
  have l:∀x∈List.range n,x∈(List.range k).map (lV P n):=fun x a=>by
   refine zt fun m=>o ⟨x,(h.left x).2 ⟨bS.1 a,fun i b e=>m (aN.2 ⟨i,bS.2 b,e⟩)⟩⟩
  have:=Fh qN l;rw[AW,cY,AW] at this;omega
 obtain⟨x,a⟩:=c;exact arG (by have:=((h.left x).1 a).1;omega) a
theorem akh {u:Nat} (h:u<C P):(uT P v).getD u []=if u<8/\u∈P.getD v [] then Be P v u else P.getD u []:=by
 rw[cF,a7 (by rw[uT,Kf];exact h)];simp[uT,je]
theorem FI.next (j:vL n P) (h:FI P n k) (l:k<n) (i:n<=8) {u w:Nat} (f:u∈(bT P n k).lft) (_hne:u≠lV P n k):w∈(bT P n (k+1)).nei.getD u []↔w≠lV P n k/\u≠w/\(w∈(bT P n k).nei.getD u []∨lV P n k∈(bT P n k).nei.getD u []/\w∈(bT P n k).nei.getD (lV P n k) []):=by
 have m:=(T4 j k).1;have s:u<n:=((h.left u).1 f).1;have v:=h.here l i;show w∈(uT (bT P n k).nei (lV P n k)).getD u []↔_;rw[akh (by rw[m.len];exact s)];by_cases d:u∈(bT P n k).nei.getD (lV P n k) []
 ·rw[aw ⟨al,d⟩,XN];have hs:=(h.sym _ v u d).2.1;exact⟨fun ⟨a,b,c⟩=>⟨c,fun e=>b e.symm,a.imp id fun a=>⟨hs,a⟩⟩,fun ⟨a,b,c⟩=>⟨c.imp id fun c=>c.2,fun e=>b e.symm,a⟩⟩
 ·rw[aC fun e=>d e.2];constructor
  ·intro g;have hs:=h.sym u f w g;exact⟨fun e=>d (by rw[<- e];exact hs.2.1),hs.2.2,yd g⟩
  ·rintro⟨_,_,c |c⟩
   ·exact c
   ·exact absurd (h.sym u f _ c.1).2.1 d
theorem FI.step (q:vL n P) (h:FI P n k) (o:k<n) (l:n<=8):FI P n (k+1):=by
 have v:=h.here o l
 have Y:∀x,x∈(bT P n (k+1)).lft↔x∈(bT P n k).lft/\x≠lV P n k:=fun x=>by
  show x∈(bT P n k).lft.filter (fun u=>decide (u≠lV P n k))↔_;rw[dC,eP]
 have s:∀i,i< k ->lV P n i≠lV P n k:=((h.left _).1 v).2;refine⟨fun x=>?_,fun i j m y e=>?_,fun i m=>?_,fun u d w t=>?_⟩
 ·rw[Y,h.left];constructor
  ·rintro⟨⟨a,b⟩,c⟩;refine⟨a,fun i m e=>?_⟩;rcases dX i k with p |p
   ·exact b i p e
   ·exact c (by rw[<- e,show i=k by omega])
  ·rintro⟨a,b⟩;exact⟨⟨a,fun i m=>b i al⟩,fun e=>b k al e.symm⟩
 ·rcases dX i k with f |f
  ·rcases dX j k with g |g
   ·exact h.inj i j f g e
   ·exact absurd (by rw[e,show j=k by omega]) (s i f)
  ·rcases dX j k with g |g
   ·exact absurd (by rw[<- e,show i=k by omega]) (s j g)
   ·omega
 ·rcases dX i k with f |f
  ·exact h.lt i f
  ·rw[show i=k by omega];exact((h.left _).1 v).1
 ·rw[Y] at d;obtain⟨a,b,c⟩:=(h.next q o l d.1 d.2).1 t
  have r:w∈(bT P n k).lft:=by
   rcases c with c |c
   ·exact(h.sym u d.1 w c).1
   ·exact(h.sym _ v w c.2).1
  refine⟨(Y w).2 ⟨r,a⟩,(h.next q o l r a).2 ⟨d.2,fun e=>b e.symm,?_⟩,b⟩;rcases c with c |c
  ·exact yd (h.sym u d.1 w c).2.1
  ·exact yk ⟨(h.sym _ v w c.2).2.1,(h.sym u d.1 _ c.1).2.1⟩
theorem FI.all (b:vL n P) (hs:∀u,u< n ->∀w,w∈P.getD u [] ->u∈P.getD w []) (d:n<=8):∀k,k<=n ->FI P n k
 |0,_=>⟨fun x=>⟨fun h=>⟨CY.1 h,fun i a=>absurd a (EM _)⟩,fun h=>CY.2 h.1⟩,fun i _ a=>absurd a (EM _),fun i a=>absurd a (EM _),fun u f w c=>by
  have g:u<n:=CY.1 f;exact⟨CY.2 (b.at u w c),hs u g w c,fun e=>b.self u (by rw[<- e] at c;exact c)⟩⟩
 |k+1,hk=>(FI.all b hs d k al).step b al d
def nrO (P:List Ja) (n i u w:Nat):Prop:=u∈(bT P n i).lft/\w∈(bT P n i).nei.getD u []
theorem arC (k:vL n P) (hs:∀u,u< n ->∀w,w∈P.getD u [] ->u∈P.getD w []) (o:n<=8):aiH n (lV P n) (nrO P n):=by
 have F:=FI.all k hs o;refine⟨fun v p=>?_,fun i j f Bm e=>(F n (ah _)).inj i j f Bm e,fun u w l=>⟨CY.1 l.1,k.at u w l.2⟩,fun u Bj=>k.self u Bj.2,fun u w l=>⟨CY.2 (k.at u w l.2),hs u (CY.1 l.1) w l.2⟩,fun i f u w=>?_⟩
 ·refine zt fun L=>?_
  have Bh:(v::(List.range n).map (lV P n)).Nodup:=by
   refine nS.2 ⟨fun H=>?_,?_⟩
   ·obtain⟨i,f,e⟩:=aN.1 H;exact L ⟨i,bS.1 f,e⟩
   ·refine CN.2 (qN.imp_of_mem fun {a b} A D K e=>K ((F n (ah _)).inj a b (bS.1 A) (bS.1 D) e))
  have:=Fh Bh (m:=List.range n) fun x q=>by
   rcases bY.1 q with rfl |q
   ·exact bS.2 p
   ·obtain⟨i,f,e⟩:=aN.1 q;rw[<- e];exact bS.2 ((F n (ah _)).lt i (bS.1 f))
  rw[eA,cY,AW] at this;omega
 ·have h:=F i al;have p:=h.here f o
  have s:u∈(bT P n (i+1)).lft↔u∈(bT P n i).lft/\u≠lV P n i:=by
   show u∈(bT P n i).lft.filter (fun u=>decide (u≠lV P n i))↔_;rw[dC,eP]
  constructor
  ·rintro⟨a,b⟩;obtain⟨g,r⟩:=s.1 a;obtain⟨t,y,z⟩:=(h.next k f o g r).1 b;exact⟨r,t,y,z.imp (fun c=>⟨g,c⟩) fun c=>⟨⟨g,c.1⟩,⟨p,c.2⟩⟩⟩
  ·rintro⟨a,b,c,d⟩;have g:u∈(bT P n i).lft:=d.elim (fun d=>d.1) fun d=>d.1.1;exact⟨s.2 ⟨g,a⟩,(h.next k f o g a).2 ⟨b,c,d.imp (fun d=>d.2) fun d=>⟨d.1.2,d.2.2⟩⟩⟩
variable {yb zb:Nat ->Bool} {Pa:Nat ->Nat ->Prop} {An X Y B7:Nat ->Prop}
def gh (Pa:Nat ->Nat ->Prop) (u v:Nat):Prop:=∀Bb:Nat ->Prop,(∀v,Pa u v ->Bb v) ->(∀v w,Bb v ->Pa v w ->Bb w) ->Bb v
theorem gh.one {u:Nat} (h:Pa u v):gh Pa u v:=fun _ a _=>a _ h
theorem gh.more {u w:Nat} (h:gh Pa u v) (p:Pa v w):gh Pa u w:=fun Bb b a=>a _ _ (h Bb b a) p
theorem gh.ind {u:Nat} {Bb:∀v,gh Pa u v ->Prop} (one:∀ {v:Nat} (h:Pa u v),Bb v (.one h)) (more:∀ {v w:Nat} (h:gh Pa u v) (p:Pa v w),Bb v h ->Bb w (h.more p)):∀ {v:Nat} (h:gh Pa u v),Bb v h:=fun {_} h=>by
 obtain⟨_,k⟩:=h (fun v=>∃h,Bb v h) (fun _ p=>⟨_,one p⟩) (fun _ _ ⟨_,i⟩ p=>⟨_,more _ p i⟩);exact k
theorem gh.last {u w:Nat} (h:gh Pa u w):Pa u w∨∃v,gh Pa u v/\Pa v w:=by
 induction h using gh.ind with
 |one hp=>exact yd hp
 |more h hp _=>exact yk ⟨_,h,hp⟩
def abt (Pa:Nat ->Nat ->Prop) (u v:Nat):Prop:=Pa u v∨Pa v u
def OkW (Pa:Nat ->Nat ->Prop) (B7 An:Nat ->Prop) (p u v:Nat):Prop:=(Pa p u ->Pa v u ->An u)/\(¬(Pa p u/\Pa v u) ->¬B7 u)
structure vI (Pa:Nat ->Nat ->Prop) (B7 An:Nat ->Prop) (k:Nat) (f:Nat ->Nat):Prop where
 adj:∀t,t< k ->abt Pa (f t) (f (t+1))
 ok:∀t,t+1< k ->OkW Pa B7 An (f t) (f (t+1)) (f (t+2))
theorem vI.down (h:vI Pa B7 An k f) (q:∀v,¬gh Pa v v) (c:∀u v,Pa u v ->An v ->An u) (X:i<j) (s:j<=k) (l:f j=f i) (e:Pa (f i) (f (i+1))):An (f i):=by
 have y:∀d t,t+d=j ->i< t ->gh Pa (f i) (f t) ->Pa (f (t - 1)) (f t) ->An (f i):=fun d=>by
  induction d with
  |zero=>
   intro t m _ a _;rw[show t=j by omega,l] at a;exact absurd a (q _)
  |succ d ih=>
   intro t m w a p;have b:=h.ok (t - 1) al;rw[show t - 1+1=t by omega,show t - 1+2=t+1 by omega] at b;rcases h.adj t al with n |n
   ·exact ih (t+1) al al (.more a n) (by rw[show t+1 - 1=t by omega];exact n)
   ·have r:=b.1 p n
    have:∀u v,gh Pa u v ->An v ->An u:=fun u v g=>by
     induction g using gh.ind with
     |one h=>exact c _ _ h
     |more _ h ih=>exact fun o=>ih (c _ _ h o)
    exact this _ _ a r
 exact y (j - (i+1)) (i+1) al al (.one e) (by rw[show i+1 - 1=i by omega];exact e)
def LN (f:Nat ->Nat) (i j t:Nat):Nat:=if t<=i then f t else f (t+(j - i))
theorem vI.cut (h:vI Pa B7 An k f) (n:∀v,¬gh Pa v v) (o:∀u v,Pa u v ->An v ->An u) (X:i<j) (r:j<=k) (g:f j=f i):vI Pa B7 An (k - (j - i)) (LN f i j):=by
 have p:∀t,t<=i ->LN f i j t=f t:=fun t c=>aw c
 have F:∀t,i<=t ->LN f i j t=f (t+(j - i)):=fun t c=>by
  rcases dX i t with a |a
  ·exact aC al
  ·rw[p t a,show t=i by omega,show i+(j - i)=j by omega,g]
 have D:∀u v,Pa u v ->¬Pa v u:=fun u v a d=>n u (.more (.one a) d);refine⟨fun t c=>?_,fun t c=>?_⟩
 ·rcases dX t i with a |a
  ·rw[p t al,p (t+1) al];exact h.adj t al
  ·rw[F t a,F (t+1) al,show t+1+(j - i)=t+(j - i)+1 by omega];exact h.adj _ al
 ·rcases dX (t+1) i with a |a
  ·rw[p t al,p (t+1) al,p (t+2) al];exact h.ok t al
  ·rcases dX i (t+1) with d |d
   ·rw[F t al,F (t+1) al,F (t+2) al,show t+1+(j - i)=t+(j - i)+1 by omega,show t+2+(j - i)=t+(j - i)+2 by omega];exact h.ok _ al
   ·
    (obtain rfl:i=t+1:=al);rw[p t al,p (t+1) (ah _),F (t+2) al];rw[show t+2+(j - (t+1))=j+1 by omega];have l:=h.ok t al;have m:=h.ok (j - 1) al;rw[show j - 1+1=j by omega,show j - 1+2=j+1 by omega,g] at m;refine⟨fun b q=>?_,fun s z=>?_⟩
    ·rcases h.adj (t+1) al with e |e
     ·exact h.down n o X r g e
     ·exact l.1 b e
    ·by_cases b:Pa (f t) (f (t+1))
     ·have q:¬Pa (f (j+1)) (f (t+1)):=fun q=>s ⟨b,q⟩;exact m.2 (fun h=>q h.2) z
     ·exact l.2 (fun h=>b h.1) z
theorem vI.plain (z:∀v,¬gh Pa v v) (r:∀u v,Pa u v ->An v ->An u):∀m k f,k<=m ->vI Pa B7 An k f ->X (f 0) ->Y (f k) ->∃d b,vI Pa B7 An d b/\X (b 0)/\Y (b d)/\(∀i j,i<=d ->j<=d ->b i=b j ->i=j)/\∀i,i<d ->¬Y (b i):=fun m=>by
 induction m with
 |zero=>
  intro k f s h x y;obtain rfl:k=0:=al
  exact⟨0,f,h,x,y,fun i j a g _=>al,fun i a=>absurd a (EM _)⟩
 |succ m ih=>
  intro k f s h x y;by_cases o:∃i,i<k/\Y (f i)
  ·obtain⟨i,a,l⟩:=o;exact ih i f al ⟨fun t w=>h.adj t al,fun t w=>h.ok t al⟩ x l
  ·by_cases n:∃i j,i<j/\j<=k/\f j=f i
   ·obtain⟨i,j,A,g,q⟩:=n;refine ih (k - (j - i)) (LN f i j) al (h.cut z r A g q) ?_ ?_
    ·rw[LN,aw (aV _)];exact x
    ·rw[LN];by_cases p:k - (j - i)<=i
     ·rw[aw p];(have:j=k:=al);rw[show k - (j - i)=i by omega, <- q,this];exact y
     ·rw[aC p,show k - (j - i)+(j - i)=k by omega];exact y
   ·refine⟨k,f,h,x,y,fun i j a g e=>?_,fun i a l=>o ⟨i,a,l⟩⟩;rcases VJ i j with c |c |c
    ·exact absurd ⟨i,j,c,g,e.symm⟩ n
    ·exact c
    ·exact absurd ⟨j,i,c,a,e⟩ n
def iJ (Pa:Nat ->Nat ->Prop) (X B7 An:Nat ->Prop) (v:Nat) (c:Bool):Prop:=∀Bb:Nat ->Bool ->Prop,(∀x,X x ->Bb x y6) ->(∀v p,Bb v y6 ->¬B7 v ->Pa p v ->Bb p y6) ->(∀v w c,Bb v c ->¬B7 v ->Pa v w ->Bb w xd) ->(∀v p,Bb v xd ->An v ->Pa p v ->Bb p y6) ->Bb v c
theorem iJ.start {x:Nat} (h:X x):iJ Pa X B7 An x true:=fun _ a _ _ _=>a _ h
theorem iJ.up {p:Nat} (h:iJ Pa X B7 An v y6) (z:¬B7 v) (e:Pa p v):iJ Pa X B7 An p true:=fun Bb b a c d=>a _ _ (h Bb b a c d) z e
theorem iJ.down {w:Nat} {c:Bool} (h:iJ Pa X B7 An v c) (z:¬B7 v) (p:Pa v w):iJ Pa X B7 An w false:=fun Bb b d a e=>a _ _ _ (h Bb b d a e) z p
theorem iJ.meet {p:Nat} (h:iJ Pa X B7 An v xd) (e:An v) (f:Pa p v):iJ Pa X B7 An p true:=fun Bb b c d a=>a _ _ (h Bb b c d a) e f
theorem iJ.ind {Bb:∀v c,iJ Pa X B7 An v c ->Prop} (start:∀ {x:Nat} (h:X x),Bb x y6 (.start h)) (up:∀ {v p:Nat} (h:iJ Pa X B7 An v y6) (z:¬B7 v) (a:Pa p v),Bb v y6 h ->Bb p y6 (h.up z a)) (down:∀ {v w:Nat} {c:Bool} (h:iJ Pa X B7 An v c) (z:¬B7 v) (a:Pa v w),Bb v c h ->Bb w xd (h.down z a)) (meet:∀ {v p:Nat} (h:iJ Pa X B7 An v xd) (b:An v) (a:Pa p v),Bb v xd h ->Bb p y6 (h.meet b a)):∀ {v:Nat} {c:Bool} (h:iJ Pa X B7 An v c),Bb v c h:=fun {_ _} h=>by
 obtain⟨_,k⟩:=h (fun v c=>∃h,Bb v c h) (fun _ h=>⟨_,start h⟩) (fun _ _ ⟨_,i⟩ z a=>⟨_,up _ z a i⟩) (fun _ _ _ ⟨_,i⟩ z a=>⟨_,down _ z a i⟩) (fun _ _ ⟨_,i⟩ b a=>⟨_,meet _ b a i⟩);exact k
theorem vI.snoc (h:vI Pa B7 An k f) (v:Nat) (c:abt Pa (f k) v) (o:0< k ->OkW Pa B7 An (f (k - 1)) (f k) v):vI Pa B7 An (k+1) (fun t=>if t<=k then f t else v):=by
 have l:∀t,t<=k ->(if t<=k then f t else v)=f t:=fun t b=>aw b;refine⟨fun t b=>?_,fun t b=>?_⟩
 ·show abt Pa (if t<=k then f t else v) (if t+1<=k then f (t+1) else v);rw[l t al];rcases dX t k with a |a
  ·rw[l (t+1) al];exact h.adj t a
  ·rw[aC al,show t=k by omega];exact c
 ·show OkW Pa B7 An (if t<=k then f t else v) (if t+1<=k then f (t+1) else v) (if t+2<=k then f (t+2) else v);rw[l t al,l (t+1) al];rcases dX (t+1) k with a |a
  ·rw[l (t+2) al];exact h.ok t a
  ·rw[aC al];have:=o al;rw[show k - 1=t by omega,show k=t+1 by omega] at this;exact this
theorem iJ.way (q:∀v,¬gh Pa v v) {c:Bool} (h:iJ Pa X B7 An v c):∃k f,vI Pa B7 An k f/\X (f 0)/\f k=v/\(c=y6 ->k=0∨Pa v (f (k - 1)))/\(c=xd ->0<k/\Pa (f (k - 1)) v):=by
 have D:∀u v,Pa u v ->¬Pa v u:=fun u v b d=>q u (.more (.one b) d);induction h using iJ.ind with
 | @start x hx=>exact⟨0,fun _=>x,⟨fun t i=>absurd i (EM _),fun t i=>absurd i (EM _)⟩,hx,rfl,fun _=>yd rfl,fun e=>by cases e⟩
 | @up v p _ hz hp ih=>
  obtain⟨k,f,b,d,a,j,_⟩:=ih;refine⟨k+1,_,b.snoc p (yk (by rw[a];exact hp)) (fun l=>?_),?_,?_,fun _=>yk ?_,fun e=>by cases e⟩
  ·have n:=(j rfl).resolve_left al;rw[a];exact⟨fun g _=>absurd g (D _ _ n),fun _=>hz⟩
  ·show X (if 0<=k then f 0 else p);rw[aw (aV _)];exact d
  ·show (if k+1<=k then f (k+1) else p)=p;rw[aC al]
  ·show Pa p (if k+1 - 1<=k then f (k+1 - 1) else p);rw[aw al,show k+1 - 1=k by omega,a];exact hp
 | @down v w c _ hz hp ih=>
  obtain⟨k,f,b,d,a,j,g⟩:=ih;refine⟨k+1,_,b.snoc w (yd (by rw[a];exact hp)) (fun l=>?_),?_,?_,(fun e=>by cases e),fun _=>⟨al,?_⟩⟩
  ·rw[a];exact⟨fun _ m=>absurd m (D _ _ hp),fun _=>hz⟩
  ·show X (if 0<=k then f 0 else w);rw[aw (aV _)];exact d
  ·show (if k+1<=k then f (k+1) else w)=w;rw[aC al]
  ·show Pa (if k+1 - 1<=k then f (k+1 - 1) else w) w;rw[aw al,show k+1 - 1=k by omega,a];exact hp
 | @meet v p _ hm hp ih=>
  obtain⟨k,f,b,d,a,_,g⟩:=ih;refine⟨k+1,_,b.snoc p (yk (by rw[a];exact hp)) (fun l=>?_),?_,?_,fun _=>yk ?_,fun e=>by cases e⟩
  ·rw[a];exact⟨fun _ _=>hm,fun o=>absurd ⟨(g rfl).2,hp⟩ o⟩
  ·show X (if 0<=k then f 0 else p);rw[aw (aV _)];exact d
  ·show (if k+1<=k then f (k+1) else p)=p;rw[aC al]
  ·show Pa p (if k+1 - 1<=k then f (k+1 - 1) else p);rw[aw al,show k+1 - 1=k by omega,a];exact hp
def uV (P:List Ja) (u v:Nat):Bool:=decide (u∈P.getD v [])
def Kt (P:List Ja) (zb an:Nat ->Bool) (u:Nat) (r:Ja) (v:Nat):Bool:=match r with
 |[]=>y6
 |p::_=>if (uV P p u&&uV P v u)=y6 then an u else !zb u
def Fc (P:List Ja) (n:Nat) (yb zb an:Nat ->Bool):Nat ->Ja ->Bool
 |0,_=>xd
 |_+1,[]=>xd
 |f+1,u::r=>yb u ||(List.range n).any fun v=>!decide (v∈u::r)&&((uV P v u ||uV P u v)&&(Kt P zb an u r v&&Fc P n yb zb an f (v::u::r)))
theorem aem {an:Nat ->Bool} (k:∀v,X v ->zb v=xd) (q:∀v,¬gh (fun u v=>u∈P.getD v []) v v):∀f u r,Fc P n yb zb an f (u::r)=y6 ->(∃c,iJ (fun u v=>u∈P.getD v []) X (fun v=>zb v=y6) (fun v=>an v=y6) u c/\(c=y6 ->(r=[]/\X u)∨∃p l,r=p::l/\u∈P.getD p [])/\(c=xd ->∃p l,r=p::l/\p∈P.getD u [])) ->∃y c,yb y=y6/\iJ (fun u v=>u∈P.getD v []) X (fun v=>zb v=y6) (fun v=>an v=y6) y c
 |0,u,r,h,_=>by cases h
 |f+1,u,r,h,⟨c,hr,h1,h2⟩=>by
  have D:∀u v:Nat,u∈P.getD v [] ->¬v∈P.getD u []:=fun u v a b=>q u (.more (.one a) b);rw[Fc,JY] at h;rcases h with h |h
  ·exact⟨u,c,h,hr⟩
  ·obtain⟨v,_,m⟩:=rF.1 h;rw[iu,iu,iu,JY] at m;obtain⟨_,o,d,s⟩:=m;refine aem k q f v (u::r) s ?_;by_cases j:u∈P.getD v []
   ·have z:¬zb u=true:=fun z=>by
     cases c with
     |true=>
      rcases h1 rfl with ⟨rfl,x⟩ |⟨p,l,rfl,g⟩
      ·rw[k u x] at z;cases z
      ·rw[Kt,aC (by rw[uV,cX (D _ _ g),Bool.false_and];decide),z] at d;cases d
     |false=>
      obtain⟨p,l,rfl,g⟩:=h2 rfl;rw[Kt,aC (by rw[uV,uV,cX (D _ _ j),Bool.and_false];decide),z] at d;cases d
    exact⟨xd,.down hr z j,(fun e=>by cases e),fun _=>⟨u,r,rfl,j⟩⟩
   ·have i:v∈P.getD u []:=o.elim (fun a=>mJ a) fun a=>absurd (mJ a) j;refine⟨y6,?_,fun _=>yk ⟨u,r,rfl,i⟩,fun e=>by cases e⟩;cases c with
    |true=>
     refine .up hr (fun z=>?_) i;rcases h1 rfl with ⟨rfl,x⟩ |⟨p,l,rfl,g⟩
     ·rw[k u x] at z;cases z
     ·rw[Kt,aC (by rw[uV,cX (D _ _ g),Bool.false_and];decide),z] at d;cases d
    |false=>
     obtain⟨p,l,rfl,g⟩:=h2 rfl;rw[Kt,aw (by rw[uV,uV,cJ g,cJ i];rfl)] at d;exact .meet hr d i
def EX (f:Nat ->Nat):Nat ->Ja
 |0=>[f 0]
 |t+1=>f (t+1)::EX f t
theorem abQ:∀ {t:Nat},v∈EX f t ->∃i,i<=t/\v=f i
 |0,h=>⟨0,ah _,bA.1 h⟩
 |t+1,h=>by
  rcases bY.1 h with e |h
  ·exact⟨t+1,ah _,e⟩
  ·obtain⟨i,a,e⟩:=abQ h;exact⟨i,al,e⟩
theorem abR (f:Nat ->Nat) (t:Nat):∃l,EX f t=f t::l/\(t=0 ->l=[])/\(0< t ->∃l',l=f (t - 1)::l'):=by
 cases t with
 |zero=>exact⟨[],rfl,fun _=>rfl,fun h=>absurd h (Nat.lt_irrefl _)⟩
 |succ t=>
  refine⟨EX f t,rfl,(fun e=>al),fun _=>?_⟩;cases t with
  |zero=>exact⟨[],rfl⟩
  |succ t=>exact⟨EX f t,rfl⟩
theorem ael {an:Nat ->Bool} (h:vI (fun u v=>u∈P.getD v []) (fun v=>zb v=y6) (fun v=>an v=y6) k f) (y:yb (f k)=y6) (p:∀i j,i<=k ->j<=k ->f i=f j ->i=j) (w:∀i,i<=k ->f i<n) (e:Nat):∀d,d<=k ->Fc P n yb zb an (d+1+e) (EX f (k - d))=y6
 |0,_=>by
  obtain⟨l,b,_⟩:=abR f k;rw[Nat.sub_zero,b,show 0+1+e=e+1 by omega,Fc,y,Bool.true_or]
 |d+1,hd=>by
  have m:=ael h y p w e d al;obtain⟨l,b,r,s⟩:=abR f (k - (d+1));obtain⟨t,z⟩:∃t,t=k - (d+1):=⟨_,rfl⟩;rw[<- z] at b r s⊢;have B7:k - d=t+1:=al
  rw[B7] at m;rw[b,show d+1+1+e=(d+1+e)+1 by omega,Fc,JY];refine yk (rF.2 ⟨f (t+1),bS.2 (w _ al),?_⟩);have Bm:EX f (t+1)=f (t+1)::f t::l:=by rw[EX,b]
  rw[Bm] at m
  have U:¬f (t+1)∈f t::l:=fun q=>by
   rw[<- b] at q;obtain⟨i,F,x⟩:=abQ q;have:=p (t+1) i al al x;omega
  have A:=h.adj t al;rw[cX U,m,Bool.not_false,Hs,Bool.and_true,iu,JY];refine⟨A.elim (fun a=>yk (cJ a)) fun a=>yd (cJ a),?_⟩;rcases zj t with g |g
  ·rw[r g];rfl
  ·obtain⟨l',rfl⟩:=s g;have D:=h.ok (t - 1) al;rw[show t - 1+1=t by omega,show t - 1+2=t+1 by omega] at D;rw[Kt];by_cases c:(uV P (f (t - 1)) (f t)&&uV P (f (t+1)) (f t))=y6
   ·rw[aw c];rw[iu] at c;exact D.1 (mJ c.1) (mJ c.2)
   ·rw[aC c];have:=D.2 fun o=>c (by rw[uV,uV,cJ o.1,cJ o.2];rfl);cases hz:zb (f t)
    ·rfl
    ·exact absurd hz this
theorem apA (g:∀i j,i<=k ->j<=k ->f i=f j ->i=j) (t:∀i,i<=k ->f i<n):k+1<=n:=by
 have Bh:((List.range (k+1)).map f).Nodup:=CN.2 (qN.imp_of_mem fun {a b} c d o e=>o (g a b (by have:=bS.1 c;omega) (by have:=bS.1 d;omega) e))
 have:=Fh Bh (m:=List.range n) fun x l=>by
  obtain⟨i,h,rfl⟩:=aN.1 l;exact bS.2 (t i (by have:=bS.1 h;omega))
 simpa using this
theorem anz {an:Nat ->Bool} (H:∀v,X v ->zb v=xd) (q:∀v,¬gh (fun u v=>u∈P.getD v []) v v) (p:∀u v,u∈P.getD v [] ->an v=y6 ->an u=y6) (m:∀v,∀u∈P.getD v [],u<n/\v<n) (A:∀v,X v ->v<n):(∃x,X x/\Fc P n yb zb an n [x]=y6)↔∃y c,yb y=y6/\iJ (fun u v=>u∈P.getD v []) X (fun v=>zb v=y6) (fun v=>an v=y6) y c:=by
 constructor
 ·rintro⟨x,o,D⟩;exact aem H q n x [] D ⟨y6,.start o,fun _=>yd ⟨rfl,o⟩,fun e=>by cases e⟩
 ·rintro⟨y,c,F,Bm⟩;obtain⟨k,f,s,w,z,_⟩:=Bm.way q;obtain⟨b,d,g,h,r,j,_⟩:=vI.plain (X:=X) (Y:=fun v=>yb v=y6) q p k k f (ah _) s w (by rw[z];exact F)
  have t:∀i,i<=b ->d i<n:=fun i Bj=>by
   rcases zj i with l |l
   ·rw[l];exact A _ h
   ·have:=g.adj (i - 1) al;rw[show i - 1+1=i by omega] at this;exact this.elim (fun a=>(m _ _ a).2) fun a=>(m _ _ a).1
  have Bh:=apA j t;have:=ael g r j t (n - (b+1)) b (ah _);rw[rE,show b+1+(n - (b+1))=n by omega] at this;exact⟨d 0,h,this⟩
section
attribute [local go_sem] Oper.semAt_some
variable {c:Nat}
def fg (U:List Ja) (u:Nat):Nat ->Ja
 |0=>[]
 |v+1=>if u∈U.getD v [] then v::fg U u v else fg U u v
theorem Gg {U:List Ja} {u:Nat}:∀ {v x:Nat},x∈fg U u v↔x<v/\u∈U.getD x []
 |0,x=>by simp[fg]
 |v+1,x=>by
  rw[fg];by_cases h:u∈U.getD v []
  ·rw[aw h,bY,Gg];constructor
   ·rintro(rfl |⟨b,a⟩)
    ·exact⟨al,h⟩
    ·exact⟨al,a⟩
   ·rintro⟨b,a⟩;by_cases e:x=v
    ·exact yd e
    ·exact yk ⟨al,a⟩
  ·rw[aC h,Gg];constructor
   ·rintro⟨b,a⟩;exact⟨al,a⟩
   ·rintro⟨b,a⟩;exact⟨by rcases dX x v with c |c;exact c;exact absurd (show x=v by omega) (fun e=>h (e▸a)),a⟩
def nE (U:List Ja) (n v k:Nat):List Ja:=(List.range n).map fun u=>if u<k/\u∈U.getD v [] then v::fg U u v else fg U u v
def lG (U:List Ja) (n v:Nat):List Ja:=(List.range n).map fun u=>fg U u v
theorem as3 (U:List Ja) (n v:Nat):nE U n v 0=lG U n v:=by simp[nE,lG]
theorem as8 {U:List Ja} (h:n<=8):nE U n v 8=lG U n (v+1):=by
 apply mM;intro u b;have:=bS.1 b;rw[fg];by_cases a:u∈U.getD v []
 ·rw[aw ⟨al,a⟩,aw a]
 ·rw[aC (fun e=>a e.2),aC a]
theorem as4 {U:List Ja} (m:k∈U.getD v []):nE U n v (k+1)=(nE U n v k).set k (v::fg U k v):=by
 apply ld (by simp[nE]);intro i c d;rw[CO];simp only[nE,mN,Hq];by_cases h:k=i
 ·subst h;rw[aw ⟨al,m⟩,aw rfl]
 ·rw[aC h];have e:(i<k+1/\i∈U.getD v [])↔(i<k/\i∈U.getD v []):=⟨fun ⟨a,b⟩=>⟨al,b⟩,fun ⟨a,b⟩=>⟨al,b⟩⟩;simp only[e]
theorem as5 {U:List Ja} (m:¬k∈U.getD v []):nE U n v (k+1)=nE U n v k:=by
 apply mM;intro i c;have e:(i<k+1/\i∈U.getD v [])↔(i<k/\i∈U.getD v []):=⟨fun ⟨a,b⟩=>⟨by rcases dX i k with h |h;exact h;exact absurd (show i=k by omega) (fun e=>m (e▸b)),b⟩,fun ⟨a,b⟩=>⟨al,b⟩⟩;simp only[e]
theorem as7 {U:List Ja} {u:Nat} (a:u<n) (h:¬u<k):(nE U n v k)[u]? =M (fg U u v):=by
 simp[nE,a,h]
theorem as6 (U:List Ja) (n v k:Nat):C (nE U n v k)=n:=by simp[nE]
theorem aaI (U:List Ja) (n v:Nat):C (lG U n v)=n:=by simp[lG]
theorem Shut.putAt {B:Nat} {W:E} (h:Shut lo B ds W) (i:g<lo) (v:wF):Shut lo B ds (W.setCell ⟨g,j,N⟩ v):=by
 induction ds generalizing B with
 |nil=>trivial
 |cons d ds ih=>
  obtain⟨r,a,b,c,e,f⟩:=h;exact⟨r,a,b,c,(eW W ⟨g,j,N⟩ v r (by show r≠g;omega)).trans e,ih f⟩
theorem WO {β:Type} {B:Nat}:OwnFrom B (fun (_:β) W=>B<=O (T W)/\Shut lo B ds W):=fun _ W W' o hs g h=>
 ⟨aM hs.1 g.size,hs.2.keep fun k a=>g.block k al (fun e=>by have:=(h k e.symm).1;omega)⟩
def uN (w:E) (n c:Nat) (l:Ja) (W:E):Prop:=dt W (O (T w)) l/\Boxed W (O (T w)+1) 154 (Z (M ⟨O (T w),0,N⟩) n c)/\da w W
theorem uN.shut {l:Ja} (o:O (T w)+1<lo) (W:E) (r:Nat) (h:uN w n c l W) (a:lo<=r) (d:W.heap[r]? =M (.deferred (M []))):uN w n c l (W.putObj r (.deferred N)):=
 ⟨(zh al).trans h.1,(zh al).trans h.2.1,h.2.2.trans (xM (w:=w) (ah _) W r _ _ al d rfl rfl)⟩
theorem uN.own {β:Type} {B:Nat} (f:β ->Ja) (h:O (T w)<=B):OwnFrom B (fun (s:β) W=>uN w n c (f s) W):=
 gJ (iB (RI _ f) _) (gJ (iB (ko _ _ (fun _=>_)) _) (CE (ah _) h))
theorem uN.aa {W:E} {l:Ja} (h:uN w n c l W) (b:da W W'):uN w n c l W':=⟨h.1.aa b h.1.lt,Aq h.2.1 b h.2.1.lt,h.2.2.trans (b.ae h.2.2.size)⟩
theorem ah6 (G n c:Nat) (U:List Ja) (w:E) (hn:C U=n) (h8:n<=8) (S:dt w G (U.map aA)) (Q:∀p∈U,∀u∈p,u<n):
  c6 220 #[Z (M ⟨G,0,N⟩) n c] w fun e w'=>e=yW (Z (M ⟨O (T w),0,N⟩) n n)/\dt w' (O (T w)) ((lG U n n).map aA)/\da w w':=by
 refine(jb (n:=6)).1 ?_;obtain⟨i0,cC,bc,bd,bf⟩:=eC Tryz.infoSet;have hG:=S.lt;have wV:∀p∈U,∀u∈p,u<8:=fun p hp u z=>by have:=Q p hp u z;omega
 have AL:wT (∀(V:E) (v:Nat),da w V ->v< n ->V.cell? ⟨G,v,N⟩=M (J yE (aA (U.getD v []):Nat))):=fun V v hB Ba=>by
  have:=(S.aa hB hG).cell v (by rw[cY];omega);rwa [Fk al] at this
 have Ve:=Fa (fun v=>F9 wV v)
 have Qq:wT (∀v k,v< n ->k∈U.getD v [] ->k<n):=fun v k Ba f=>by
  rw[cF,a7 al] at f;exact Q _ (bU _) k f
 have Jk:=Fa (fun (u v:Nat) (Ba:v<n) (V:E)=>Kn (fg U u v) v V (fun x hx=>by have:=(Gg.1 hx).1;omega) al)
 have JK:wT (∀(V:E) (g v k u:Nat),u< n ->¬u< k ->dt V g ((nE U n v k).map aA) ->V.cell? ⟨g,u,N⟩=M (J yE (aA (fg U u v):Nat))/\V.frozen? ⟨g,u,N⟩=xd):=fun V g v k u z aR R=>by
  have h1:u<C (nE U n v k):=by rw[as6];exact z
  have Bb:=R.cell u (by rw[cY];exact h1);obtain⟨h3,d⟩:=mO.1 (as7 (U:=U) (v:=v) z aR);rw[mN,d] at Bb;exact⟨Bb,R.fz u⟩
 have mD:wT (∀(V:E) (g v k:Nat),k∈U.getD v [] ->dt V g ((nE U n v k).map aA) ->dt (V.setCell ⟨g,k,N⟩ (J yE (aA (v::fg U k v):Nat))) g ((nE U n v (k+1)).map aA)):=fun V g v k m R=>by
  have:=R.set k (aA (v::fg U k v));rwa [as4 m,Hm]
 have iR:wT (∀v k,¬k∈U.getD v [] ->nE U n v (k+1)=nE U n v k):=fun v k h=>as5 h;have HZ:=Fa (fun v=>as3 U n v);have HA:=Fa (fun v=>as8 (U:=U) (v:=v) h8)
 have hz:(lG U n 0).map aA=List.replicate n 0:=by
  apply ld (by simp[lG]);intro i h1 Bb;simp[lG,fg,aA]
 clear S Q wV;refine vY func220 rfl trivial ?_ rfl;simp only[ntmps220,mL,eA,lS,Nat.reduceAdd,Nat.reduceSub,oX,oW,oP,nV,gS,gF];have aJ:=fun V=>QL (P:=prog) 154 158 (J yE 0) 4 underlying154 Tryz.infoSet rfl I I n al al V;gi_wp2
 clear aJ;obtain⟨t,Bm⟩:∃t,t=(w.alloc (yM (madeCells #[J yE 0] n) 158)).alloc (yM #[Z (M ⟨O (T w),0,N⟩) n n] 154):=⟨_,rfl⟩
 have ai:uN w n n ((lG U n 0).map aA) t:=by
  rw[Bm,hz];refine⟨?_,?_,((au _ w).alloc (ah _) _).alloc aE _⟩
  ·have h:=dU w (yM (madeCells #[J yE 0] n) 158)
   have e:(madeCells #[J yE 0] n).toList=(List.replicate n (0:Nat)).map uv:=by
    have:=XZ n;rwa [qM] at this
   (have e2:madeCells #[Value.int yE 0] n=((List.replicate n (0:Nat)).map uv).toArray:=by rw[<- e]);rw[dt,uP _ _ _ aE,h,e2]
  ·have h:=bF (w.alloc (yM (madeCells #[J yE 0] n) 158)) 154 (Z (M ⟨O (T w),0,N⟩) n n);rwa [eV] at h
 rw[<- Bm];have a6:O (T t)=O (T w)+2:=by rw[Bm];simp
 have nN:=Fa ai;clear Bm ai hz;refine wpIn_loop (fun y w'=>∃(v:Nat) (ds:List Deferred) (u4 u5 u13 u14 u15 u16 Nc Nb CZ:wF),y= {tmps:= #[Z (M ⟨G,0,N⟩) n c,wQ,Z N 0 0,zR (M ⟨O (T w)+1,0,N⟩),u4,u5,wQ,Z (M ⟨G,0,N⟩) n c,J I (n:Nat),Z (M ⟨O (T w),0,N⟩) n n,Z (M ⟨G,0,N⟩) n c,J I (n:Nat),J I (v:Nat),u13,u14,u15,u16,Nc,Nb,wQ,wQ,wQ,wQ,wQ,wQ,wQ,wQ,wQ,wQ,CZ,wQ],defers:=ds}/\v<=n/\wT (uN w n n ((lG U n v).map aA) w')/\wT (Shut (O (T w)+2) (O (T w')) ds w')) (fun y _=>n - (intOf (y.tmps.getD 12 wQ)).toNat) ?_ ?_
 ·exact⟨0,[],_,_,_,_,_,_,_,_,_,rfl,aV _,nN,trivial⟩
 intro y wr aY;obtain⟨v,ds,u4,u5,u13,u14,u15,u16,Nc,Nb,CZ,rfl,Ba,Bh,Bj⟩:=aY;clear nN;by_cases ad:v<n
 ·have kv:=AL.o wr v Bh.o.2.2 ad;have hs:=Ve.o v;have an:=Fa (fun k f=>Qq.o v k ad f);have az:=Fa (fun u=>Jk.o u v ad);have aj:=Fa (fun V g k u=>JK.o V g v k u);have ay:=Fa (fun V g k=>mD.o V g v k);have av:=Fa (fun k=>iR.o v k);have Zu:=HZ.o v;have ZZ:=HA.o v;generalize U.getD v []=bv at *;have dV:O (T w)+1<O (T wr):=Bh.o.2.1.lt;gi_wp2
  obtain⟨W3,s⟩:∃W3,W3=wr.alloc (yM #[J I (v:Nat)] 3):=⟨_,rfl⟩;have b4:Boxed W3 (O (T wr)) 3 (J I (v:Nat)):=by rw[s];exact bF wr _ _
  have ab:da wr W3:=by rw[s];exact(au _ wr).alloc (ah _) _
  have bb:O (T W3)=O (T wr)+1:=by rw[s];simp
  rw[<- s];clear s kv;have Y:=Bh.o.aa ab;have O4:=(Bj.o.aa ab).ae (show O (T wr)<=O (T W3) by omega);have ax:=Fa (Bj.o);clear Bh Bj ax;rw[<- Zu] at Y
  refine EW al bv hs rfl rfl
   (fun k V=>uN w n n ((nE U n v k).map aA) V/\Boxed V (O (T wr)) 3 (J I (v:Nat))/\(O (T W3)<=O (T V)/\Shut (O (T w)+2) (O (T W3)) ds V))
   (gJ (uN.own (fun k:Nat=>(nE U n v k).map aA) al) (gJ (iB (ko _ _ (fun _=>_)) _) WO))
   ⟨Y,b4,ah _,O4⟩
   (fun k=> {tmps:= #[Z (M ⟨G,0,N⟩) n c,wQ,Z N 0 0,zR (M ⟨O (T w)+1,0,N⟩),zR (M ⟨O (T wr),0,N⟩),J yE (aA bv:Nat),J I (k:Nat),Z (M ⟨G,0,N⟩) n c,J I (n:Nat),Z (M ⟨O (T w),0,N⟩) n n,Z (M ⟨G,0,N⟩) n c,J I (n:Nat),J I (v:Nat),zZ y6,J I (v:Nat),zR (M ⟨G,v,N⟩),J yE (aA bv:Nat),J yE (aA bv:Nat),.func (.func 182) #[J yE (aA bv:Nat)] #[],J I (k:Nat),wQ,wQ,wQ,wQ,wQ,wQ,wQ,wQ,wQ,CZ,wQ],defers:=[]}) ?assign ?body ?skip ?done
  case assign=>
   intro l k W K q;gi_wp2
   exact q
  case body=>
   rintro l k V f m ⟨a,d,X,r⟩;have aI:=an.o k m;have k1:=a.2.1.cell;have k4:=d.cell;obtain⟨kU,fU⟩:=aj.o V (O (T w)) k k aI al a.1;have Ji:=Fa (az.o k);have vN:=Fa (fun W hW=>ay.o W (O (T w)) k m hW);generalize aA (v::fg U k v)=m1 at *;generalize aA (fg U k v)=m0 at *;generalize aA bv=mv at *;gi_wp2_with fail
   refine A7 (fun u=>u.cell? ⟨O (T w)+1,0,N⟩=M (Z (M ⟨O (T w),0,N⟩) n n)/\u.cell? ⟨O (T wr),0,N⟩=M (J I (v:Nat))) ao ao (fun ⟨_,_,h⟩=>h) ⟨k1,k4⟩ ?_;intro L;have B9:KeepsOthers V V.drew:=CS V;have A:uN w n n ((nE U n v k).map aA) V.drew:=⟨a.1,a.2.1,a.2.2.drew⟩;have q4:Boxed V.drew (O (T wr)) 3 (J I (v:Nat)):=d;have qS:Shut (O (T w)+2) (O (T W3)) ds V.drew:=r.keep fun _ _=>rfl;have qz:O (T W3)<=O (T V.drew):=X;have bg:V.drew.cell? ⟨O (T w),k,N⟩=M (J yE (m0:Nat)):=kU;have a1:V.drew.frozen? ⟨O (T w),k,N⟩=false:=fU;clear k1 k4 kU fU a d r X b4 ab Y O4;generalize V.drew=F at *;refine ar 0 (Z (M ⟨O (T w),0,N⟩) n n) ?_;refine ar 1 (J I (k:Nat)) ?_;refine ar 2 (Z (M ⟨O (T w),0,N⟩) n n) ?_;refine ar 3 (J I (k:Nat)) ?_;refine ar 4 (zR (M ⟨O (T w),k,N⟩)) ?_;refine ar 6 (J I (v:Nat)) ?_;refine aF [5] (cA ?_ aG);intro j b;go_simp;refine b.o _ _ L (fun H=>?_);clear b j H;refine aF [7] (cA ?_ aG);intro j b;go_simp;refine(Ji.o _).ae ?_;rintro e U1 ⟨rfl,ie⟩;subst ie;refine b.o _ _ L (fun H=>?_);clear b j H;generalize U1=F at *;refine ar 8 (zR (M ⟨O (T w),k,N⟩)) ?_;refine aF [9] (cA ?_ aG);intro j b;go_simp;refine b.o _ _ ⟨(ke A.2.1 (O (T w)) k _ al).cell,(ke q4 (O (T w)) k _ al).cell⟩ (fun _=>eO ao ?_ _);clear b j L;gi_wp2
   exact⟨(B9.trans (jJ F _ _)).from _,⟨vN.o F A.1,ke A.2.1 (O (T w)) k _ al,A.2.2.setCell (p:=⟨O (T w),k,N⟩) (ah _) _⟩,ke q4 (O (T w)) k _ al,by simpa using qz,qS.putAt al _⟩
  case skip=>
   rintro k V f m h;rw[av.o k m];exact h
  case done=>
   rintro D V B9 ⟨a,d,X,r⟩ q;rw[ZZ] at a;have DV:D<O (T V):=(cS.1 q).1;have Jn:wT (Shut (O (T w)+2) (O (T V)) ({target:=.collected D,args:= #[]}::ds) V):=⟨D,al,DV,rfl,q,r.ae B9⟩;have Qs:=Fa a;clear a d r q;gi_wp2
   refine⟨⟨v+1,_,_,_,_,_,_,_,_,_,_,rfl,al,Qs,Jn⟩,?_⟩;simp[intOf];omega
 ·obtain rfl:v=n:=al
  have kc:=Bh.o.2.1.cell;gi_wp2
  refine Ix (lo:=O (T w)+2) (K:=uN w v v ((lG U v v).map aA)) (uN.shut al) (fun B7 hZ=>⟨_,CD rfl _ _ _,rfl,hZ.1,hZ.2.2⟩) _ (O (T wr)) wr Bj.o Bh.o
end
section
attribute [local go_sem] Oper.semAt_some
variable {c:Nat}
def qC (P:List Ja) (t:Ja) (k:Nat):Ja:=t++(bZ t k).flatMap fun v=>P.getD v []
theorem at7 (P:List Ja) (t:Ja):qC P t 0=t:=by simp[qC,bZ]
theorem aua {t:Ja} (h:k∈t):qC P t (k+1)=qC P t k++P.getD k []:=by rw[qC,Sy h,List.flatMap_append, <- p9,qC];simp
theorem aub {t:Ja} (h:¬k∈t):qC P t (k+1)=qC P t k:=by rw[qC,NJ h,qC]
def dK (P:List Ja) (s:Ja):Nat ->Ja
 |0=>s
 |r+1=>qC P (dK P s r) 8
theorem aiD {t:Ja} (b:∀v,∀u∈P.getD v [],u<n) (c:∀u∈t,u<n) (k:Nat):∀u∈qC P t k,u<n:=fun u d=>by
 rcases bE.1 d with h |h
 ·exact c u h
 ·obtain⟨v,_,a⟩:=List.mem_flatMap.1 h;exact b v u a
theorem LZ {s:Ja} (h:∀v,∀u∈P.getD v [],u<n) (hs:∀u∈s,u<n):∀r,∀u∈dK P s r,u<n
 |0=>hs
 |r+1=>aiD h (LZ h hs r) 8
def ze (w:E) (G n c m:Nat) (W:E):Prop:=Boxed W (O (T w)) 154 (Z (M ⟨G,0,N⟩) n c)/\Boxed W (O (T w)+1) 158 (J yE (m:Nat))/\da w W
theorem ze.shut {G:Nat} (l:O (T w)+1<lo) (W:E) (r:Nat) (h:ze w G n c m W) (a:lo<=r) (d:W.heap[r]? =M (.deferred (M []))):ze w G n c m (W.putObj r (.deferred N)):=
 ⟨(zh al).trans h.1,(zh al).trans h.2.1,h.2.2.trans (xM (w:=w) (ah _) W r _ _ al d rfl rfl)⟩
theorem ze.own {β:Type} {G B:Nat} (f:β ->Nat) (h:O (T w)<=B):OwnFrom B (fun (s:β) W=>ze w G n c (f s) W):=
 gJ (iB (ko _ _ (fun _=>_)) _) (gJ (iB (ko _ _ (fun s:β=>J yE (f s:Nat))) _) (CE (ah _) h))
theorem aiC (G n c:Nat) (P:List Ja) (s:Ja) (w:E) (hn:C P=n) (h8:n<=8) (Bj:dt w G (P.map aA)) (S:∀p∈P,∀u∈p,u<n) (hs:∀u∈s,u<n):
  c6 128 #[Z (M ⟨G,0,N⟩) n c,J yE (aA s:Nat)] w fun e  w'=>e=yW (J yE (aA (dK P s n):Nat))/\da w w':=by
 refine(jb (n:=6)).1 ?_;have hG:=Bj.lt
 have U:∀v,∀u∈P.getD v [],u<n:=fun v u b=>by
  by_cases L:v<C P
  ·rw[cF,a7 L] at b;exact S _ (bU L) u b
  ·rw[cF,iT al] at b;simp at b
 have AL:wT (∀(V:E) (v:Nat),da w V ->v< n ->V.cell? ⟨G,v,N⟩=M (J yE (aA (P.getD v []):Nat))):=fun V v hB L=>by
  have:=(Bj.aa hB hG).cell v (by rw[cY];omega);rwa [Fk al] at this
 have U5:=Fa (fun r=>LZ U hs r);have Qm:=Fa (fun (r k:Nat)=>Uq (qC P (dK P s r) k) (P.getD k []) (fun u b=>by have:=aiD U (LZ U hs r) k u b;omega) (fun u b=>by have:=U k u b;omega));have HY:=Fa (fun (r k:Nat) (h:k∈dK P s r)=>aua (P:=P) h);have HN:=Fa (fun (r k:Nat) (h:¬k∈dK P s r)=>aub (P:=P) h);have HZ:=Fa (fun (r:Nat)=>at7 P (dK P s r));have jT:wT (∀r,qC P (dK P s r) 8=dK P s (r+1)):=fun r=>rfl;have a:dK P s 0=s:=rfl;clear Bj S U hs;refine vY func128 rfl trivial ?_ rfl;simp only[ntmps128,mL,eA,lS,Nat.reduceAdd,Nat.reduceSub,oX,oW,oP,nV,gS,gF];obtain⟨m,j⟩:∃m,m=(w.alloc (yM #[Z (M ⟨G,0,N⟩) n c] 154)).alloc (yM #[J yE (aA s:Nat)] 158):=⟨_,rfl⟩
 have B9:ze w G n c (aA (dK P s 0)) m:=by
  rw[j,a];refine⟨(bF w _ _).alloc _,?_,((au _ w).alloc (ah _) _).alloc aE _⟩;have h:=bF (w.alloc (yM #[Z (M ⟨G,0,N⟩) n c] 154)) 158 (J yE (aA s:Nat));rwa [eV] at h
 have f:=B9.1.cell;rw[j] at f;gi_wp2
 rw[<- j];have aR:O (T m)=O (T w)+2:=by rw[j];simp
 have nN:=Fa B9;clear j B9 f a;generalize hab:dK P s=x at *;have vW:=Fa hab;clear hab;generalize aA s=ad at *;refine wpIn_loop (fun q w'=>∃(r:Nat) (ds:List Deferred) (u9 u10 u11 Kc:wF),q= {tmps:= #[Z (M ⟨G,0,N⟩) n c,J yE (ad:Nat),zR (M ⟨O (T w),0,N⟩),zR (M ⟨O (T w)+1,0,N⟩),J yE 0,wQ,Z (M ⟨G,0,N⟩) n c,J I (n:Nat),J I (r:Nat),u9,u10,u11,wQ,wQ,wQ,wQ,wQ,wQ,wQ,Kc,wQ],defers:=ds}/\r<=n/\wT (ze w G n c (aA (x r)) w')/\wT (Shut (O (T w)+2) (O (T w')) ds w')) (fun q _=>n - (intOf (q.tmps.getD 8 wQ)).toNat) ?_ ?_
 ·exact⟨0,[],_,_,_,_,rfl,aV _,nN,trivial⟩
 intro q wr ay;obtain⟨r,ds,u9,u10,u11,Kc,rfl,hr,Bh,tI⟩:=ay;clear nN;by_cases aJ:r<n
 ·have Ba:=U5.o r;have PX:=Fa (HY.o r);have Ml:=Fa (HN.o r);have ai:=Fa (Qm.o r);have av:=HZ.o r;have an:=jT.o r;have dV:O (T w)+1<O (T wr):=Bh.o.2.1.lt;have z:=Bh.o.2.1.cell;have N9:∀u∈x r,u<8:=fun u b=>by have:=Ba u b;omega
  generalize x r=t at *;gi_wp2
  clear z;have Q:=Bh.o;rw[<- av] at Q
  refine EW al t N9 rfl rfl
   (fun k V=>ze w G n c (aA (qC P t k)) V/\(O (T wr)<=O (T V)/\Shut (O (T w)+2) (O (T wr)) ds V))
   (gJ (ze.own (fun k:Nat=>aA (qC P t k)) al) WO)
   ⟨Q,ah _,tI.o⟩
   (fun k=> {tmps:= #[Z (M ⟨G,0,N⟩) n c,J yE (ad:Nat),zR (M ⟨O (T w),0,N⟩),zR (M ⟨O (T w)+1,0,N⟩),J yE 0,J I (k:Nat),Z (M ⟨G,0,N⟩) n c,J I (n:Nat),J I (r:Nat),zZ y6,J yE (aA t:Nat),.func (.func 182) #[J yE (aA t:Nat)] #[],J I (k:Nat),wQ,wQ,wQ,wQ,wQ,wQ,Kc,wQ],defers:=[]}) ?assign ?body ?skip ?done
  case assign=>
   intro l k W K d;gi_wp2
   exact d
  case body=>
   rintro l k V hk y ⟨a,Bb,g⟩;have ax:=Ba k y;have f:=a.1.cell;have X:=AL.o V k a.2.2 ax;have aI:=ai.o k;have aj:=Fa (PX.o k y);have z:=a.2.1.cell;have R:=a.2.1.frozen;generalize hm1:aA (qC P t k++P.getD k [])=m1 at *;have Cr:=Fa hm1;clear hm1;generalize aA (qC P t k)=Y at *;generalize aA (P.getD k [])=mu at *;generalize aA t=mt at *;gi_wp2_with fail
   refine A7 (fun u=>u.cell? ⟨O (T w),0,N⟩=M (Z (M ⟨G,0,N⟩) n c)/\u.cell? ⟨G,k,N⟩=M (J yE (mu:Nat))) ao ao (fun ⟨_,_,h⟩=>h) ⟨f,X⟩ ?_;intro F;have H:KeepsOthers V V.drew:=CS V;have A:ze w G n c Y V.drew:=⟨a.1,a.2.1,a.2.2.drew⟩;have qS:Shut (O (T w)+2) (O (T wr)) ds V.drew:=g.keep fun _ _=>rfl;have qz:O (T wr)<=O (T V.drew):=Bb;have aY:V.drew.cell? ⟨O (T w)+1,0,N⟩=M (J yE (Y:Nat)):=z;have az:V.drew.frozen? ⟨O (T w)+1,0,N⟩=false:=R;clear f X z R a g Bb Q;generalize V.drew=U0 at *;refine ar 1 (Z (M ⟨G,0,N⟩) n c) ?_;refine ar 2 (J I (k:Nat)) ?_;refine ar 3 (zR (M ⟨G,k,N⟩)) ?_;refine ar 4 (J yE (mu:Nat)) ?_;refine aF [0] (cA ?_ aG);intro Bm i;go_simp;refine i.o _ _ F (fun ak=>?_);clear i Bm ak;refine ar 5 (J yE (m1:Nat)) ?_;refine aF [6] (cA ?_ aG);intro Bm i;go_simp;refine i.o _ _ ⟨(ke A.1 (O (T w)+1) 0 _ al).cell,(fT _ _ _ _ (fun e=>(show ¬O (T w)+1=G by omega) (eG Addr.block e))).trans F.2⟩ (fun _=>eO ao ?_ _);clear i Bm F;gi_wp2
   exact⟨(H.trans (jJ U0 _ _)).from _,⟨ke A.1 (O (T w)+1) 0 _ al,by rw[aj.o,Cr.o];exact A.2.1.set _,A.2.2.setCell (p:=⟨O (T w)+1,0,N⟩) aE _⟩,by simpa using qz,qS.putAt al _⟩
  case skip=>
   rintro k V hk y h;rw[Ml.o k y];exact h
  case done=>
   rintro D V H ⟨a,Bb,g⟩ d;rw[an] at a;have DV:D<O (T V):=(cS.1 d).1;have Jn:wT (Shut (O (T w)+2) (O (T V)) ({target:=.collected D,args:= #[]}::ds) V):=⟨D,al,DV,rfl,d,g.ae H⟩;have Qs:=Fa a;clear a g d;gi_wp2
   refine⟨⟨r+1,_,_,_,_,_,rfl,al,Qs,Jn⟩,?_⟩;simp[intOf];omega
 ·obtain rfl:r=n:=al
  have kc:=Bh.o.2.1.cell;gi_wp2
  refine Ix (lo:=O (T w)+2) (K:=ze w G r c (aA (x r))) (ze.shut al) (fun B7 hZ=>⟨_,CD rfl _ _ _,by rw[vW.o];rfl,hZ.2.2⟩) _ (O (T wr)) wr tI.o Bh.o
end
theorem ast {l1 l2:Ja} (h1:i<C l1) (a:i<C l2) (h:l1[i]≠l2[i]):decide (l1=l2)=false:=cX fun e=>h (by subst e;rfl)
theorem asw {l1 l2:Ja} (l:C l1=C l2) (h:∀i (a:i<C l1) (b:i<C l2),l1[i]=l2[i]):decide (l1=l2)=true:=cJ (ld l h)
theorem alm (c d n t u:Nat) (l1 l2:Ja) (w:E) (z:C l1=n) (A:C l2=n) (L:n<=5000) (h1:dt w c l1) (g:dt w d l2):
  c6 282 #[Z (M ⟨c,0,N⟩) n t,Z (M ⟨d,0,N⟩) n u] w (dj w (zZ (decide (l1=l2)))):=by
 have e:=Fa h1;have f:=Fa g;have p:=Fa (fun i (a:i<C l1) (b:i<C l2) h=>ast a b h);have Bm:=Fa (fun h=>asw (l1:=l1) (l2:=l2) al h);generalize decide (l1=l2)=r at *;clear h1 g;go_enter func282,ntmps282;go_wp2_with fail
 go_loopw [13] (fun iv wr=>∃i:Nat,i<=n/\iv=J I i/\wT (∀j (a:j<C l1) (b:j<C l2),j< i ->l1[j]=l2[j])/\wT (da w wr)) (fun iv _=>n - (intOf iv).toNat)
 case atStart=>exact⟨0,aV _,rfl,fun j _ _ h=>absurd h al,au _ _⟩
 case round=>
  obtain⟨i,F,rfl,Bj,H⟩:=hrel;by_cases B9:i<n
  ·have q:=(e.o.aa H.o e.o.lt).cell i al;have s:=(f.o.aa H.o f.o.lt).cell i al;have v:=Fa (p.o i al al)
   have S:wT (l1[i]'al=l2[i]'al ->∀j (a:j<C l1) (b:j<C l2),j<i+1 ->l1[j]=l2[j]):=fun h j a b K=>by
    rcases dX j i with k |k
    ·exact Bj.o j a b k
    ·obtain rfl:j=i:=al
     exact h
   generalize l1[i]'al=x at *;generalize l2[i]'al=y at *;go_upto_region 6 with fail
   go_quiet (fail)
   have m:=Fa (below_drewN H.o nq);clear q s;generalize wr.drewN nq=Bb at *;by_cases l:x=y
   ·have Bh:=Fa (S.o l);subst l;go_wp2;go_roundw
    case rel=>exact⟨i+1,al,bd,Bh,m⟩
    case measure=>simp[intOf];omega
   ·have R:=Fa (v.o l)
    have D:((x:Int) !=(y:Int))=true:=by
     (have:¬(x:Int)=(y:Int):=al);simpa using this
    clear l;go_wp2;go_ret;exact⟨by rw[R.o];rfl,m.o⟩
  ·obtain rfl:i=n:=al
   have R:=Fa (Bm.o fun j a b=>Bj.o j a b al);go_wp2;go_ret;exact⟨by rw[R.o];rfl,H.o⟩
def wJ (L:List Kx):Bool:=gB L&&decide (jw L=(lG (aH L) (C L) (C L)).map aA)
theorem Ky (h:gB L=y6):∀p∈aH L,∀u∈p,u<C L:=by
 obtain⟨_,_,r,_⟩:=mj h;intro p e u f;obtain⟨l,d,rfl⟩:=aN.1 e;obtain⟨x,g,rfl⟩:=aN.1 f;obtain⟨i,b,rfl⟩:=iE d;have a:=lr (Uw r b);obtain⟨j,c,rfl⟩:=iE g;have:=a.each j c;omega
theorem KI (h:gB L=y6):vL (C L) (aH L):=by
 refine⟨j5 L,Ky h,fun u a=>?_⟩;obtain⟨_,_,_,hs⟩:=mj h;by_cases l:u<C L
 ·rw[Ii l] at a;rw[aeF l a] at hs;cases hs
 ·rw[cF,iT (by rw[j5];omega)] at a;simp at a
theorem alQ (a:Kd) (ca:Nat) (L:List Kx) (w:E) (h:dP w a L) (r:∀l∈L,C l<=140737488355328):
  c6 254 #[Z a (C L) ca] w fun e w'=>da w w'/\
   ((wJ L=y6/\∃G,e=yW (zp #[Z (M ⟨G,0,N⟩) (C L) (C L),zZ y6])/\w.heap.size<=G/\dt w' G (jw L))∨(wJ L=xd/\e=yW (zp #[Z N 0 0,zZ xd]))):=by
 have B9:=Fa (adf a ca L w h r);have k:wT (wJ L=(gB L&&decide (jw L=(lG (aH L) (C L) (C L)).map aA))):=rfl
 have x:wT (gB L=y6 ->∀(G:Nat) (U:E),dt U G (jw L) ->c6 220 #[Z (M ⟨G,0,N⟩) (C L) (C L)] U fun e w'=>e=yW (Z (M ⟨O (T U),0,N⟩) (C L) (C L))/\dt w' (O (T U)) ((lG (aH L) (C L) (C L)).map aA)/\da U w'):=fun g G U b=>by
  rw[Iu] at b;exact ah6 G (C L) (C L) (aH L) U (j5 L) (mj g).2.1 b (Ky g)
 have Bh:wT (gB L=y6 ->∀(c d:Nat) (U:E),dt U c (jw L) ->dt U d ((lG (aH L) (C L) (C L)).map aA) ->c6 282 #[Z (M ⟨c,0,N⟩) (C L) (C L),Z (M ⟨d,0,N⟩) (C L) (C L)] U fun e w'=>e=yW (zZ (decide (jw L=(lG (aH L) (C L) (C L)).map aA)))/\da U w'):=fun g c d U u y=>alm c d (C L) (C L) (C L) _ _ U (ae2 L) (by rw[cY,aaI]) (by have:=(mj g).2.1;omega) u y;generalize wJ L=nb at *;generalize decide (jw L=(lG (aH L) (C L) (C L)).map aA)=t at *;generalize (lG (aH L) (C L) (C L)).map aA=D at *;clear h r;go_enter func254,ntmps254;go_wp2_with fail
 refine B9.o.ae ?_;rintro e F ⟨f,⟨g,G,rfl,z,b⟩ |⟨g,v,rfl⟩⟩
 ·have p:=Fa (x.o g G);have Bm:=Fa (Bh.o g G);rw[g] at k;have i:=Fa b;have H:=Fa f;clear b f x Bh;go_wp2_with fail
  refine(p.o _ i.o).ae ?_;rintro e Bj ⟨rfl,s,j⟩;have m:=Fa (i.o.aa j i.o.lt);have Q:=Fa s;have Y:=Fa (H.o.trans (j.ae H.o.size));clear s j p;go_wp2_with fail
  refine(Bm.o _ _ m.o Q.o).ae ?_;rintro e K ⟨rfl,n⟩;have A:=Fa (m.o.aa n m.o.lt);have q:=Fa (Y.o.trans (n.ae Y.o.size));clear n Bm;cases t
  ·go_wp2;go_ret2;exact⟨q.o,yk ⟨k.o,rfl⟩⟩
  ·go_wp2;go_ret2;exact⟨q.o,yd ⟨k.o,G,rfl,z,A.o⟩⟩
 ·rw[g] at k;have H:=Fa f;clear f x Bh g;go_wp2;go_ret2;exact⟨H.o,yk ⟨k.o,rfl⟩⟩
theorem Aw.cells {B:Nat} {v:wF} {l:Ja} (h:Aw w B v l):∃d i,v=Z d (C l) i/\∀k (f:k<C l),∃g o,d=M ⟨g,o,N⟩/\g<O (T w)/\w.cell? ⟨g,o+k,N⟩=M (J yE (l[k]:Nat)):=by
 rcases h.2 with ⟨a,b⟩ |⟨g,cap,r,a,b,c,p,q,s,m⟩
 ·have:l=[]:=Ho.1 b;subst this;exact⟨N,0,a,fun k f=>absurd f aE⟩
 ·refine⟨_,_,a,fun j n=>⟨g,0,rfl,(cS.1 c).1,?_⟩⟩;rw[bQ,ba w g j _ _ (0,0) c]
  have e:r[j]? =(r.toList.take (C l*1))[j]?:=by
   rw[sQ,aw al,wu]
  rw[e,m,k9,a7 n];rfl
def FlR (L:List Kx) (e:Ending) (w':E):Prop:=
 (wJ L=y6/\∃d cd G,e=yW (zp #[Z d (C L) cd,Z (M ⟨G,0,N⟩) (C L) (C L),J I 0])/\aB w' d (iL (bT (aH L) (C L) (C L)).ord)/\dP w' (M ⟨G,0,N⟩) ((bT (aH L) (C L) (C L)).bag.map fW))∨
 (wJ L=xd/\e=yW (zp #[Z N 0 0,Z N 0 0,J I 11]))
theorem aq5 (a:Kd) (ca:Nat) (L:List Kx) (w:E) (h:dP w a L) (D:∀l∈L,C l<=140737488355328):
  c6 204 #[Z a (C L) ca] w fun e w'=>FlR L e w'/\da w w':=by
 have B7:=Fa (alQ a ca L w h D)
 have y:wT (wJ L=y6 ->∀(G:Nat) (U:E),dt U G (jw L) ->c6 255 #[Z (M ⟨G,0,N⟩) (C L) (C L)] U fun e w'=>∃nv bv,e=yW (zp #[nv,bv])/\pW U w' G nv bv (iL (bT (aH L) (C L) (C L)).ord) ((bT (aH L) (C L) (C L)).bag.map aA) ((bT (aH L) (C L) (C L)).nei.map aA)):=fun n G U i=>by
  have f:gB L=true:=by
   rw[wJ,iu] at n;exact n.1
  rw[Iu] at i;exact aqZ G (C L) (C L) (aH L) U (mj f).1 (mj f).2.1 i (KI f)
 have t:wT (wJ L=y6 ->(bT (aH L) (C L) (C L)).ord.length=C L/\(bT (aH L) (C L) (C L)).bag.length=C L/\L.length<=8/\∀p∈(bT (aH L) (C L) (C L)).bag,∀u∈p,u<8):=fun n=>by
  have f:gB L=true:=by
   rw[wJ,iu] at n;exact n.1
  have z:=(mj f).2.1;have r:=(mj f).1;have b:=fun k=>T4 (KI f) k;refine⟨(b (C L)).2.2.1,(b (C L)).2.2.2,z,?_⟩
  have ad:∀k,∀p∈(bT (aH L) (C L) k).bag,∀u∈p,u<8:=fun k=>by
   induction k with
   |zero=>intro p c;simp[bT] at c
   |succ k ih=>
    intro p c u j;rw[bT] at c;rcases bE.1 c with c |c
    ·exact ih p c u j
    ·rw[bA.1 c] at j;rcases bY.1 j with rfl |j
     ·have:=ahj (P:=(bT (aH L) (C L) k).nei) r (b k).2.1;omega
     ·have:=(b k).1.at _ u j;omega
  exact ad _
 clear h D;go_enter func204,ntmps204;go_wp2_with fail
 refine B7.o.ae ?_;rintro e w1 ⟨m,⟨n,G,rfl,hG,i⟩ |⟨n,rfl⟩⟩
 ·have R:=Fa (y.o n G _ i);obtain⟨ho,B9,z,F⟩:=t.o n;have q:=Fa n;have H:=Fa m;have yY:=Fa F;clear i m y t n F;generalize hS:bT (aH L) (C L) (C L)=S at *;have Bh:=Fa hS;clear hS;go_wp2_with fail
  refine R.o.ae ?_;rintro e K ⟨nv,bv,rfl,X⟩;obtain⟨d,cd,rfl,Bj⟩:=X.nd.ints;obtain⟨d2,Ul,rfl,A⟩:=X.bg.cells;have Y:wT (da w K):=⟨X.grow.os.trans H.o.os,X.grow.tape.trans H.o.tape,X.grow.output.trans H.o.output,aM H.o.size X.grow.size,fun k b=>(X.grow.block k (aT b H.o.size) (fun e=>by have:=jO e;omega)).trans (H.o.block k b)⟩;have v:C (iL S.ord)=C L:=by rw[bR];exact ho
  have x:C (S.bag.map aA)=C L:=by rw[cY];exact B9
  rw[v,x]
  have Bm:=Fa (afc d2 Ul S.bag K yY.o al (fun k b=>by
   obtain⟨g,o,r,h2,h3⟩:=A k (by rw[cY];exact b);exact⟨g,o,r,h2,by rw[h3,mN]⟩))
  rw[B9] at Bm;have Ba:=Fa Bj;clear X Bj A v x;go_wp2_with fail
  refine Bm.o.ae ?_;rintro e w3 ⟨Q,rfl,TA,Bb,s⟩;have ab:=Fa (Ba.o.aa s);have V:=Fa Bb;have eo:=Fa (Y.o.trans (s.ae Y.o.size));clear s Bb;go_wp2;refine dI (results_tmp3 rfl _ _ _) rfl ?_;exact⟨yd ⟨q.o,d,cd,Q,rfl,by rw[Bh.o];exact ab.o,by rw[Bh.o];exact V.o⟩,eo.o⟩
 ·have q:=Fa n;have H:=Fa m;clear n m;go_wp2;refine dI (results_tmp3 rfl _ _ _) rfl ?_;exact⟨yk ⟨q.o,rfl⟩,H.o⟩
def AbR (L:List Kx) (l:Kx) (e:Ending) (w':E):Prop:=
 (bq L≠0/\e=yW (zp #[Z N 0 0,J I (bq L)]))∨
 (bq L=0/\ei l (C L)=xd/\e=yW (zp #[Z N 0 0,J I 11]))∨
 (bq L=0/\ei l (C L)=y6/\∃d cd,e=yW (zp #[Z d (C (fW (dK (aH L) (af l) (C L)))) cd,J I 0])/\aB w' d (fW (dK (aH L) (af l) (C L))))
theorem yG (h:bq L=0):gB L=true:=by
 rw[bq] at h;by_cases e:gB L=y6
 ·exact e
 ·rw[aC e] at h;exact absurd h a6
theorem aac (a b:Kd) (ca cb:Nat) (L:List Kx) (l:Kx) (w:E) (h:dP w a L) (Bh:∀l∈L,C l<=140737488355328) (F:aB w b l) (dO:C l<=140737488355328):
  c6 78 #[Z a (C L) ca,Z b (C l) cb] w fun e w'=>AbR L l e w'/\da w w':=by
 have HR:=Fa (TU a ca L w h Bh);have Y:=Fa F;have B9:=Fa (fun (U:E) (f:aB U b l) (hn:C L<=8)=>acY b cb l (C L) U f dO hn)
 have q:wT (bq L=0 ->ei l (C L)=y6 ->∀(G c:Nat) (U:E),dt U G (jw L) ->c6 128 #[Z (M ⟨G,0,N⟩) (C L) c,J yE (aA (af l):Nat)] U fun e w'=>e=yW (J yE (aA (dK (aH L) (af l) (C L)):Nat))/\da U w'):=fun g r G c U f=>by
  rw[Iu] at f;have k:=yG g
  exact aiC G (C L) c (aH L) (af l) U (j5 L) (mj k).2.1 f (Ky k) (fun u i=>by
   obtain⟨x,y,rfl⟩:=aN.1 i;obtain⟨j,t,rfl⟩:=iE y;have:=(lr r).each j t;omega)
 have Bm:wT (bq L=0 ->ei l (C L)=y6 ->∀U:E,c6 129 #[J yE (aA (dK (aH L) (af l) (C L)):Nat)] U fun e w'=>∃v,e=yW v/\bW w' (O (T U)) v (iL (bZ (dK (aH L) (af l) (C L)) 8))/\da U w'):=fun g r U=>afd _ U (fun u i=>by
  have k:=yG g;have D:=(mj k).2.1
  have:=LZ (n:=L.length) (P:=aH L) (s:=af l) (fun v u i=>(KI k).at v u i) (fun u i=>by
   obtain⟨x,y,rfl⟩:=aN.1 i;obtain⟨j,t,rfl⟩:=iE y;have:=(lr r).each j t;omega) (C L) u i
  omega)
 have K:wT (ei l (C L)=y6 ->setA l (C L)=aA (af l)):=acZ;clear h Bh F;go_enter func78,ntmps78;go_wp2_with fail
 refine HR.o.ae ?_;rintro e w1 ⟨m,⟨g,G,rfl,hG,f⟩ |⟨g,rfl⟩⟩
 ·have D:=(mj (yG g)).2.1;have H:=Fa (B9.o w1 (Y.o.aa m) D);have HU:=Fa f;have Bb:=Fa m;have p:=Fa g;clear f m B9 g;cases r:ei l (C L) with
  |false=>
   rw[r] at H;have Qg:=Fa r;clear r q Bm K;generalize setA l (C L)=sa at *;go_wp2_with fail
   refine H.o.ae ?_;rintro e w2 ⟨rfl,z⟩;subst z;go_wp2;go_ret2;exact⟨yk (yd ⟨p.o,Qg.o,rfl⟩),Bb.o⟩
  |true=>
   rw[r,K.o r] at H;have ad:=Fa r;have X:=Fa (q.o p.o r G (C L));have HL:=Fa (Bm.o p.o r);clear r q Bm K;generalize hab:dK (aH L) (af l) (C L)=ab at *;have S:=Fa hab;clear hab;generalize aA (af l)=m0 at *;go_wp2_with fail
   refine H.o.ae ?_;rintro e w2 ⟨rfl,z⟩;subst z;go_wp2_with fail
   refine(X.o _ HU.o).ae ?_;rintro e w3 ⟨rfl,Ba⟩;have A:=Fa (Bb.o.trans (Ba.ae Bb.o.size));clear Ba;go_wp2_with fail
   refine(HL.o _).ae ?_;rintro e w4 ⟨v,rfl,R,V⟩;obtain⟨d,cd,rfl,Bj⟩:=R.ints;have B7:=Fa Bj;have fA:=Fa (A.o.trans (V.ae A.o.size));clear R Bj V;go_wp2;go_ret2;exact⟨yk (yk ⟨p.o,ad.o,d,cd,by rw[S.o];rfl,by rw[S.o];exact B7.o⟩),fA.o⟩
 ·have Qx:=Fa g;have Bb:=Fa m;have k:(bq L==0)=false:=by simpa using g
  clear g m q Bm K B9;generalize hge:bq L=ge at *;have Q:=Fa hge;clear hge;go_wp2;go_ret2;exact⟨yd ⟨by rw[Q.o];exact Qx.o,by rw[Q.o];rfl⟩,Bb.o⟩
section
attribute [local go_sem] Oper.semAt_some
variable {r:Nat} {o':Obj} {a:Kd}
def jL (P:List Ja) (v:Nat):Ja:=v::P.getD v []
def jR (P:List Ja) (u:Nat):Nat ->Ja
 |0=>[]
 |v+1=>if u∈jL P v then jR P u v++(jL P v).filter (fun x=>decide (x≠u)) else jR P u v
def mS (P:List Ja) (n v k:Nat):List Ja:=(List.range n).map fun u=>if u<k/\u∈jL P v then jR P u v++(jL P v).filter (fun x=>decide (x≠u)) else jR P u v
def pg (P:List Ja) (n v:Nat):List Ja:=(List.range n).map fun u=>jR P u v
theorem aoB (P:List Ja) (n v:Nat):mS P n v 0=pg P n v:=by simp[mS,pg]
theorem aoG (h:n<=8):mS P n v 8=pg P n (v+1):=by
 apply mM;intro u b;have:=bS.1 b;rw[jR];by_cases a:u∈jL P v
 ·rw[aw ⟨al,a⟩,aw a]
 ·rw[aC (fun e=>a e.2),aC a]
theorem aoC (m:k∈jL P v):mS P n v (k+1)=(mS P n v k).set k (jR P k v++(jL P v).filter (fun x=>decide (x≠k))):=by
 apply ld (by simp[mS]);intro i c d;rw[CO];simp only[mS,mN,Hq];by_cases h:k=i
 ·subst h;rw[aw ⟨al,m⟩,aw rfl]
 ·rw[aC h];have e:(i<k+1/\i∈jL P v)↔(i<k/\i∈jL P v):=⟨fun ⟨a,b⟩=>⟨al,b⟩,fun ⟨a,b⟩=>⟨al,b⟩⟩;simp only[e]
theorem aoD (m:¬k∈jL P v):mS P n v (k+1)=mS P n v k:=by
 apply mM;intro i c;have e:(i<k+1/\i∈jL P v)↔(i<k/\i∈jL P v):=⟨fun ⟨a,b⟩=>⟨by rcases dX i k with h |h;exact h;exact absurd (show i=k by omega) (fun e=>m (e▸b)),b⟩,fun ⟨a,b⟩=>⟨al,b⟩⟩;simp only[e]
theorem aoF {u:Nat} (a:u<n) (h:¬u<k):(mS P n v k)[u]? =M (jR P u v):=by
 simp[mS,a,h]
theorem aoE (P:List Ja) (n v k:Nat):C (mS P n v k)=n:=by simp[mS]
theorem aeQ (P:List Ja) (n v:Nat):C (pg P n v)=n:=by simp[pg]
theorem T9 (a:∀v,∀u∈P.getD v [],u<n) (c:v<n):∀u∈jL P v,u<n:=fun u b=>by
 rcases bY.1 b with rfl |h
 ·exact c
 ·exact a v u h
theorem Sv (b:∀v,∀u∈P.getD v [],u<n) (u:Nat):∀v,v<=n ->∀x∈jR P u v,x<n
 |0,_,x,hx=>by simp[jR] at hx
 |v+1,hv,x,hx=>by
  rw[jR] at hx;by_cases h:u∈jL P v
  ·rw[aw h] at hx;rcases bE.1 hx with a |a
   ·exact Sv b u v al x a
   ·exact T9 b al x (dC.1 a).1
  ·rw[aC h] at hx;exact Sv b u v al x hx
theorem aia {W:E} {p:Addr} {x:wF} {o:Obj} (h:W.cell? p=M x) (a:W.heap[r]? =M o) (c:o.isCells=xd):(W.putObj r o').cell? p=M x:=by
 have n:p.block≠r:=fun e=>by
  rw[World.cell?,e,a] at h;cases o<;>simp_all [Obj.isCells]
 rw[<- h];exact iM (zh n)
theorem aB.putObj {W:E} {d:Kd} {o:Obj} (h:aB W d l) (i:W.heap[r]? =M o) (e:o.isCells=xd):aB (W.putObj r o') d l:=fun k f=>by
 obtain⟨g,q,a,b,c⟩:=h k f;exact⟨g,q,a,by simpa using b,aia c i e⟩
theorem dP.putObj {W:E} {o:Obj} (h:dP W a L) (e:W.heap[r]? =M o) (d:o.isCells=xd):dP (W.putObj r o') a L:=fun k m=>by
 obtain⟨g,q,b,c,f,i,j,l⟩:=h k m;exact⟨g,q,b,c,f,by simpa using i,aia j e d,l.putObj e d⟩
def B8 (w:E) (R n:Nat) (l:Ja) (W:E):Prop:=dt W R l/\Boxed W (R+1) 154 (Z (M ⟨R,0,N⟩) n n)/\Below R w W
theorem B8.own {β:Type} {R B:Nat} (f:β ->Ja) (h:R<=B) (a:R<=O (T w)):OwnFrom B (fun (s:β) W=>B8 w R n (f s) W):=
 gJ (iB (RI _ f) _) (gJ (iB (ko _ _ (fun _=>_)) _) (fun _ _ _ _ hs g r=>hs.grown g (aM a hs.size) (fun k e=>aM h (r k e).1)))
theorem B8.aa {W:E} {R:Nat} {l:Ja} (h:B8 w R n l W) (b:da W W'):B8 w R n l W':=⟨h.1.aa b h.1.lt,Aq h.2.1 b h.2.1.lt,h.2.2.trans (b.ae (AU h.1.lt))⟩
def MoR (L:List Kx) (e:Ending) (w':E):Prop:=
 (bq L≠0/\e=yW (zp #[Z N 0 0,J I (bq L)]))∨
 (bq L=0/\∃G,e=yW (zp #[Z (M ⟨G,0,N⟩) (C L) (C L),J I 0])/\dP w' (M ⟨G,0,N⟩) ((pg (aH L) (C L) (C L)).map fW))
theorem aq3 (a:Kd) (ca:Nat) (L:List Kx) (w:E) (h:dP w a L) (hl:∀l∈L,C l<=140737488355328):
  c6 203 #[Z a (C L) ca] w fun e w'=>MoR L e w'/\da w w':=by
 refine(jb (n:=6)).1 ?_;obtain⟨i0,cC,bt,bu,bw⟩:=eC Tryz.infoSet;have HR:=Fa (TU a ca L w h hl);have hn:C (aH L)=C L:=j5 L;have Mj:wT (bq L=0 ->∀v,∀u∈(aH L).getD v [],u<C L):=fun d v u f=>(KI (yG d)).at v u f;have Co:wT (bq L=0 ->C L<=8):=fun d=>(mj (yG d)).2.1;have Cq:wT (jw L=(aH L).map aA):=Iu L;have aR:wT (∀e w',MoR L e w'=((bq L≠0/\e=yW (zp #[Z N 0 0,J I (bq L)]))∨(bq L=0/\∃G,e=yW (zp #[Z (M ⟨G,0,N⟩) (C L) (C L),J I 0])/\dP w' (M ⟨G,0,N⟩) ((pg (aH L) (C L) (C L)).map fW)))):=fun _ _=>rfl;generalize aH L=P at *;clear h hl;by_cases d:bq L=0
 case neg=>
  have Qx:=Fa d;have bp:(bq L==0)=false:=by simpa using d
  refine vY func203 rfl trivial ?_ rfl;simp only[ntmps203,mL,eA,lS,Nat.reduceAdd,Nat.reduceSub,oX,oW,oP,nV,gS,gF];gi_wp2_with (refine⟨trivial,?_⟩;gi_at_call 126;refine(jb.2 HR.o).ae ?_;rintro e b ⟨ad,yr⟩;obtain rfl:=(yr.resolve_left fun h=>d h.1).2)
  exact⟨_,results_tmp2 rfl _ _ _,yd ⟨Qx.o,rfl⟩,ad⟩
 case pos=>
  have h8:=Co.o d;have bd:=fun V=>QL (P:=prog) 154 158 (J yE 0) 4 underlying154 Tryz.infoSet rfl I I (C L) al al V;refine vY func203 rfl trivial ?_ rfl;simp only[ntmps203,mL,eA,lS,Nat.reduceAdd,Nat.reduceSub,oX,oW,oP,nV,gS,gF];gi_wp2_with (refine⟨trivial,?_⟩;gi_at_call 126;refine(jb.2 HR.o).ae ?_;rintro e b ⟨ad,yr⟩;obtain⟨-,G,rfl,hG,hU⟩:=yr.resolve_right fun h=>h.1 d)
  clear bd;have A:=Mj.o d;rw[Cq.o] at hU;have Tz:=hU.lt;have rB:=Fa d;have cM:=Fa ad
  have AL:wT (∀(V:E) (v:Nat),da b V ->v<C L ->V.cell? ⟨G,v,N⟩=M (J yE (aA (P.getD v []):Nat))):=fun V v H s=>by
   have:=(hU.aa H Tz).cell v (by rw[cY];omega);rwa [Fk al] at this
  have aI:wT (∀v,v<C L ->∀u∈jL P v,u<C L):=fun v s=>T9 A s;have Jj:=Fa (fun (v:Nat) (s:v<C L) (U:E)=>Kn (P.getD v []) v U (fun u f=>by have:=A v u f;omega) al);have az:wT (∀v,v::P.getD v []=jL P v):=fun v=>rfl;have lJ:=Fa (fun (v:Nat) (s:v<C L) (u:Nat) (f:u<8) (U:E)=>Nl (jL P v) u U (fun x Bb=>by have:=T9 A s x Bb;omega) f);have Qm:=Fa (fun (v u:Nat) (s:v<C L)=>Uq (jR P u v) ((jL P v).filter fun x=>decide (x≠u)) (fun x Bb=>by have:=Sv A u v al x Bb;omega) (Pr (fun x Bb=>by have:=T9 A s x Bb;omega) _))
  have JK:wT (∀(V:E) (g v k u:Nat),u<C L ->¬u< k ->dt V g ((mS P (C L) v k).map aA) ->V.cell? ⟨g,u,N⟩=M (J yE (aA (jR P u v):Nat))/\V.frozen? ⟨g,u,N⟩=xd):=fun V g v k u f bf z=>by
   (have h1:u<C (mS P (C L) v k):=by rw[aoE];exact f);have h2:=z.cell u (by rw[cY];exact h1);obtain⟨h3,y⟩:=mO.1 (aoF (P:=P) (v:=v) f bf);rw[mN,y] at h2;exact⟨h2,z.fz u⟩
  have mD:wT (∀(V:E) (g v k:Nat),k∈jL P v ->dt V g ((mS P (C L) v k).map aA) ->dt (V.setCell ⟨g,k,N⟩ (J yE (aA (jR P k v++(jL P v).filter (fun x=>decide (x≠k))):Nat))) g ((mS P (C L) v (k+1)).map aA)):=fun V g v k Bm z=>by
   have:=z.set k (aA (jR P k v++(jL P v).filter (fun x=>decide (x≠k))));rwa [aoC Bm,Hm]
  have iR:wT (∀v k,¬k∈jL P v ->mS P (C L) v (k+1)=mS P (C L) v k):=fun v k h=>aoD h;have HZ:=Fa (fun v=>aoB P (C L) v);have HA:=Fa (fun v=>aoG (P:=P) (v:=v) h8)
  have hz:(pg P (C L) 0).map aA=List.replicate (C L) 0:=by
   apply ld (by simp[pg]);intro i h1 h2;simp[pg,jR,aA]
  have sL:wT (∀(R:Nat) (U:E),dt U R ((pg P (C L) (C L)).map aA) ->c6 253 #[Z (M ⟨R,0,N⟩) (C L) (C L)] U fun e w'=>∃G,e=yW (Z (M ⟨G,0,N⟩) (C L) (C L))/\U.heap.size<=G/\dP w' (M ⟨G,0,N⟩) ((pg P (C L) (C L)).map fW)/\da U w'):=fun R U z=>by
   have:=afc (M ⟨R,0,N⟩) (C L) (pg P (C L) (C L)) U (fun p hp u f=>by
    obtain⟨x,_,rfl⟩:=aN.1 hp;have:=Sv A x (C L) (ah _) u f
    omega) (by rw[aeQ];omega) (fun k hk=>⟨R,0,rfl,z.lt,by
     have:=z.cell k (by rw[cY];exact hk);rw[bQ,this,mN]⟩)
   rwa [aeQ] at this
  clear hU d ad Mj Co Cq A HR;generalize (C L)=n at *;obtain⟨X,ab⟩:∃X,X=(b.alloc (yM (madeCells #[J yE 0] n) 158)).alloc (yM #[Z (M ⟨O (T b),0,N⟩) n n] 154):=⟨_,rfl⟩
  have av:B8 b (O (T b)) n ((pg P n 0).map aA) X:=by
   rw[ab,hz];refine⟨?_,?_,((au _ b).alloc (ah _) _).alloc aE _⟩
   ·have h:=dU b (yM (madeCells #[J yE 0] n) 158)
    have e:(madeCells #[J yE 0] n).toList=(List.replicate n (0:Nat)).map uv:=by
     have:=XZ n;rwa [qM] at this
    (have e2:madeCells #[Value.int yE 0] n=((List.replicate n (0:Nat)).map uv).toArray:=by rw[<- e]);rw[dt,uP _ _ _ aE,h,e2]
   ·have h:=bF (b.alloc (yM (madeCells #[J yE 0] n) 158)) 154 (Z (M ⟨O (T b),0,N⟩) n n);rwa [eV] at h
  rw[<- ab];have br:O (T X)=O (T b)+2:=by rw[ab];simp
  have nN:=Fa av;clear ab av hz;refine wpIn_loop (fun Y w'=>∃(v:Nat) (ds:List Deferred) (u7 u8 u24 Na u26 M9 u28 CZ M8 M7 u32 Kb:wF),Y= {tmps:= #[Z a n ca,wQ,Z N 0 0,J I 0,Z (M ⟨G,0,N⟩) n n,J I 0,zR (M ⟨O (T b)+1,0,N⟩),u7,u8,wQ,zp #[Z (M ⟨G,0,N⟩) n n,J I 0],Z a n ca,zp #[Z (M ⟨G,0,N⟩) n n,J I 0],Z (M ⟨G,0,N⟩) n n,J I 0,J I 0,zZ xd,wQ,Z (M ⟨G,0,N⟩) n n,J I (n:Nat),Z (M ⟨O (T b),0,N⟩) n n,Z (M ⟨G,0,N⟩) n n,J I (n:Nat),J I (v:Nat),u24,Na,u26,M9,u28,CZ,M8,M7,u32,wQ,wQ,wQ,wQ,wQ,wQ,wQ,wQ,wQ,wQ,Kb,wQ,wQ],defers:=ds}/\v<=n/\wT (B8 b (O (T b)) n ((pg P n v).map aA) w')/\wT (Shut (O (T b)+2) (O (T w')) ds w')) (fun Y _=>n - (intOf (Y.tmps.getD 23 wQ)).toNat) ?_ ?_
  ·exact⟨0,[],_,_,_,_,_,_,_,_,_,_,_,_,rfl,aV _,nN,trivial⟩
  intro Y wr bh;obtain⟨v,ds,u7,u8,u24,Na,u26,M9,u28,CZ,M8,M7,u32,Kb,rfl,s,Bh,tI⟩:=bh;clear nN;by_cases S:v<n
  ·have kv:=AL.o wr v Bh.o.2.2 S;have hs:=aI.o v S;(have KZ:∀u∈jL P v,u<8:=fun u f=>by have:=hs u f;omega);have an:=Fa (Jj.o v S);rw[az.o v] at an;have bb:=Fa (lJ.o v S);have a6:=Fa (fun u=>Qm.o v u S);have ay:=Fa (fun V g k u=>JK.o V g v k u);have a1:=Fa (fun V g k=>mD.o V g v k);have aY:=Fa (fun k=>iR.o v k);have Zu:=HZ.o v;have ZZ:=HA.o v;have dV:O (T b)+1<O (T wr):=Bh.o.2.1.lt;generalize aA (P.getD v [])=mp at *;generalize jL P v=m at *;gi_wp2_with (refine⟨trivial,?_⟩;gi_at_call 181;refine(jb.2 (an.o _)).ae ?_;rintro e w4 ⟨rfl,bg⟩;subst bg)
   obtain⟨W3,Q⟩:∃W3,W3=wr.alloc (yM #[J yE (aA m:Nat)] 158):=⟨_,rfl⟩;(have b8:Boxed W3 (O (T wr)) 158 (J yE (aA m:Nat)):=by rw[Q];exact bF wr _ _);(have aj:da wr W3:=by rw[Q];exact(au _ wr).alloc (ah _) _);(have bs:O (T W3)=O (T wr)+1:=by rw[Q];simp);rw[<- Q];have ai:=Bh.o.aa aj;have O4:=(tI.o.aa aj).ae (show O (T wr)<=O (T W3) by omega);rw[<- Zu] at ai;clear Q kv Bh tI
   refine EW al m KZ rfl rfl
    (fun k V=>B8 b (O (T b)) n ((mS P n v k).map aA) V/\Boxed V (O (T wr)) 158 (J yE (aA m:Nat))/\(O (T W3)<=O (T V)/\Shut (O (T b)+2) (O (T W3)) ds V))
    (gJ (B8.own (fun k:Nat=>(mS P n v k).map aA) al (ah _)) (gJ (iB (ko _ _ (fun _=>_)) _) WO))
    ⟨ai,b8,ah _,O4⟩
    (fun k=> {tmps:= #[Z a n ca,wQ,Z N 0 0,J I 0,Z (M ⟨G,0,N⟩) n n,J I 0,zR (M ⟨O (T b)+1,0,N⟩),J I (v:Nat),zR (M ⟨O (T wr),0,N⟩),J I (k:Nat),zp #[Z (M ⟨G,0,N⟩) n n,J I 0],Z a n ca,zp #[Z (M ⟨G,0,N⟩) n n,J I 0],Z (M ⟨G,0,N⟩) n n,J I 0,J I 0,zZ xd,wQ,Z (M ⟨G,0,N⟩) n n,J I (n:Nat),Z (M ⟨O (T b),0,N⟩) n n,Z (M ⟨G,0,N⟩) n n,J I (n:Nat),J I (v:Nat),zZ y6,J I (v:Nat),zR (M ⟨G,v,N⟩),J yE (mp:Nat),J yE (mp:Nat),J I (v:Nat),J yE (aA m:Nat),J yE (aA m:Nat),.func (.func 182) #[J yE (aA m:Nat)] #[],J I (k:Nat),wQ,wQ,wQ,wQ,wQ,wQ,wQ,wQ,wQ,Kb,wQ,wQ],defers:=[]}) ?assign ?body ?skip ?done
   case assign=>
    intro l k W K Bj;gi_wp2
    exact Bj
   case body=>
    rintro l k V hk Bm ⟨j,y,zN,B9⟩;have bc:=hs k Bm;have k1:=j.2.1.cell;have k4:=y.cell;obtain⟨kU,fU⟩:=ay.o V (O (T b)) k k bc al j.1;have Ji:=Fa (bb.o k hk);have bo:=a6.o k;have vN:=Fa (fun W hW=>a1.o W (O (T b)) k Bm hW);generalize aA (jR P k v++m.filter (fun x=>decide (x≠k)))=m1 at *;generalize aA (m.filter fun x=>decide (x≠k))=m2 at *;generalize aA (jR P k v)=m0 at *;generalize aA m=mf at *;gi_wp2_with fail
    refine A7 (fun u=>u.cell? ⟨O (T b)+1,0,N⟩=M (Z (M ⟨O (T b),0,N⟩) n n)/\u.cell? ⟨O (T wr),0,N⟩=M (J yE (mf:Nat))) ao ao (fun ⟨_,_,h⟩=>h) ⟨k1,k4⟩ ?_;intro F;have hD:KeepsOthers V V.drew:=CS V;have q0:B8 b (O (T b)) n ((mS P n v k).map aA) V.drew:=⟨j.1,j.2.1,j.2.2.drew⟩;have q4:Boxed V.drew (O (T wr)) 158 (J yE (mf:Nat)):=y;have qS:Shut (O (T b)+2) (O (T W3)) ds V.drew:=B9.keep fun _ _=>rfl;have qz:O (T W3)<=O (T V.drew):=zN;have bx:V.drew.cell? ⟨O (T b),k,N⟩=M (J yE (m0:Nat)):=kU;have bk:V.drew.frozen? ⟨O (T b),k,N⟩=false:=fU;clear k1 k4 kU fU j y B9 zN b8 aj ai O4;generalize V.drew=Ba at *;refine ar 0 (Z (M ⟨O (T b),0,N⟩) n n) ?_;refine ar 1 (J I (k:Nat)) ?_;refine ar 2 (zR (M ⟨O (T b),k,N⟩)) ?_;refine ar 4 (J yE (mf:Nat)) ?_;refine ar 5 (J I (k:Nat)) ?_;refine aF [3,6] (cA ?_ (cA ?_ aG))
    focus
     intro q c;go_simp;refine c.o _ _ F (fun t=>?_);clear c q t;refine aF [6] (cA ?_ aG);intro q c;go_simp;refine(Ji.o _).ae ?_;rintro e U1 ⟨rfl,ie⟩;subst ie;refine c.o _ _ F (fun t=>?_);clear c q t;generalize U1=Ba at *
    rotate_left
    focus
     intro q c;go_simp;refine(Ji.o _).ae ?_;rintro e U1 ⟨rfl,ie⟩;subst ie;refine c.o _ _ F (fun t=>?_);clear c q t;generalize U1=Ba at *;refine aF [3] (cA ?_ aG);intro q c;go_simp;refine c.o _ _ F (fun t=>?_);clear c q t
    all_goals
     refine ar 7 (J yE (m1:Nat)) ?_;refine ar 8 (zR (M ⟨O (T b),k,N⟩)) ?_;refine aF [9] (cA ?_ aG);intro q c;go_simp;refine c.o _ _ ⟨(ke q0.2.1 (O (T b)) k _ al).cell,(ke q4 (O (T b)) k _ al).cell⟩ (fun _=>eO ao ?_ _);clear c q F;gi_wp2
     exact⟨(hD.trans (jJ Ba _ _)).from _,⟨vN.o Ba q0.1,ke q0.2.1 (O (T b)) k _ al,q0.2.2.setCell (p:=⟨O (T b),k,N⟩) (ah _) _⟩,ke q4 (O (T b)) k _ al,by simpa using qz,qS.putAt al _⟩
   case skip=>
    rintro k V hk Bm h;rw[aY.o k Bm];exact h
   case done=>
    rintro D V hD ⟨j,y,zN,B9⟩ Bj;rw[ZZ] at j;have DV:D<O (T V):=(cS.1 Bj).1;have Jn:wT (Shut (O (T b)+2) (O (T V)) ({target:=.collected D,args:= #[]}::ds) V):=⟨D,al,DV,rfl,Bj,B9.ae hD⟩;have Qs:=Fa j;clear j y B9 Bj;gi_wp2
    refine⟨⟨v+1,_,_,_,_,_,_,_,_,_,_,_,_,_,rfl,al,Qs,Jn⟩,?_⟩;simp[intOf];omega
  ·obtain rfl:v=n:=al
   have kc:=Bh.o.2.1.cell;have aJ:=Fa (sL.o (O (T b)) wr Bh.o.1);have dV:O (T b)+1<O (T wr):=Bh.o.2.1.lt;gi_wp2_with (refine⟨trivial,?_⟩;gi_at_call 253;refine(jb.2 aJ.o).ae ?_;rintro e w5 ⟨G5,rfl,bm,O8,ax⟩)
   have I6:da w w5:=(cM.o.trans (Bh.o.2.2.ae cM.o.size)).trans (ax.ae (aM cM.o.size (AU (Nat.lt_trans (Nat.lt_succ_self _) dV))));refine Ix (lo:=O (T b)+2) (K:=fun W=>dP W (M ⟨G5,0,N⟩) ((pg P v v).map fW)/\da w W) ?_ ?_ _ (O (T wr)) w5 (tI.o.aa ax) ⟨O8,I6⟩
   ·rintro W r ⟨hL,H⟩ hr hd;exact⟨hL.putObj hd rfl,H.trans (xM (w:=w) (ah _) W r _ _ (by have:=cM.o.size;omega) hd rfl rfl)⟩
   ·rintro B7 ⟨hL,H⟩;refine⟨_,results_tmp2 rfl _ _ _,?_,H⟩;rw[aR.o];exact yk ⟨rB.o,G5,rfl,hL⟩
end
theorem Xw (h:rS P (bj P k)=M v):¬v∈bj P k/\∀u∈P.getD v [],u∈bj P k:=by
 have:=List.find?_some h;rw[iX,iu,Bool.not_eq_true',QO,eP] at this;exact this
theorem Xu (P:List Ja):∀k,(bj P k).Nodup
 |0=>Hl
 |k+1=>by
  rw[bj];cases e:rS P (bj P k) with
  |none=>exact Xu P k
  |some v=>
   refine nT.2 ⟨Xu P k,aE,fun a h b d=>?_⟩;rw[bA.1 d];exact fun c=>(Xw e).1 (c▸h)
theorem Xt:∀k,v∈bj P k ->∃A B,bj P k=A++v::B/\¬v∈A/\∀u∈P.getD v [],u∈A
 |0,h=>by cases h
 |k+1,h=>by
  rw[bj] at h⊢;cases e:rS P (bj P k) with
  |none=>
   rw[e] at h;exact Xt k h
  |some w=>
   rw[e] at h;show ∃A B,bj P k++[w]=A++v::B/\_;rcases bE.1 h with h |h
   ·obtain⟨A,B,a,b,c⟩:=Xt k h;exact⟨A,B++[w],by rw[a];simp,b,c⟩
   ·obtain rfl:=bA.1 h;exact⟨bj P k,[],rfl,(Xw e).1,(Xw e).2⟩
def tZ (P:List Ja) (v:Nat):Nat:=(bj P (C P)).idxOf v
theorem alI {u:Nat} (e:v∈bj P (C P)) (d:u∈P.getD v []):tZ P u<tZ P v:=by
 obtain⟨A,B,a,b,c⟩:=Xt (C P) e;have h:=c u d;rw[tZ,tZ,a,List.idxOf_append,List.idxOf_append,aw h,aC b,List.idxOf_cons_self,bQ];exact List.idxOf_lt_length_of_mem h
theorem vE (h:bq L=0):gB L=y6/\∀v,v<C L ->v∈bj (aH L) (C (aH L)):=by
 have g:=yG h;refine⟨g,fun v b=>?_⟩;rw[bq,aw g] at h;have d:¬C (bj (aH L) (C L))<C L:=fun c=>by rw[aw c] at h;cases h
 rw[j5];refine zt fun n=>?_
 have:=Fh (l:=v::bj (aH L) (C L)) (m:=List.range (C L)) (nS.2 ⟨n,Xu _ _⟩) fun x a=>by
  rcases bY.1 a with rfl |a
  ·exact bS.2 b
  ·have:=Ij (aH L) (C L) x a;rw[j5] at this;exact bS.2 this
 rw[eA,AW] at this;omega
theorem Kz (g:gB L=y6) {u:Nat} (h:u∈(aH L).getD v []):u<C L/\v<C L:=by
 have b:v<C L:=by
  rcases dX v (C L) with a |a
  ·exact a
  ·rw[cF,iT (by rw[j5];exact a)] at h;cases h
 refine⟨?_,b⟩;rw[cF,a7 (by rw[j5];exact b)] at h;exact Ky g _ (bU _) u h
theorem H7 (h:bq L=0) {u:Nat} (a:u∈(aH L).getD v []):tZ (aH L) u<tZ (aH L) v:=
 alI ((vE h).2 v (Kz (vE h).1 a).2) a
theorem ac8 (h:bq L=0) (c:v<C L):tZ (aH L) v<C L:=by
 have a:=List.idxOf_lt_length_of_mem ((vE h).2 v c);have b:=KD (aH L) (C (aH L));rw[j5] at b;rw[tZ];rw[j5] at a⊢;omega
theorem aa1 (h:bq L=0) {u:Nat} (a:gh (fun u v=>u∈(aH L).getD v []) u v):tZ (aH L) u<tZ (aH L) v:=by
 induction a using gh.ind with
 |one hp=>exact H7 h hp
 |more _ hp ih=>exact Nat.lt_trans ih (H7 h hp)
theorem atZ (h:bq L=0) (v:Nat):¬gh (fun u v=>u∈(aH L).getD v []) v v:=fun a=>Nat.lt_irrefl _ (aa1 h a)
def L0 (P:List Ja) (a:Nat):Nat ->Nat ->Bool
 |0,b=>decide (a=b)
 |f+1,b=>decide (a=b) ||(P.getD b []).any (L0 P a f)
theorem aa3 (h:bq L=0) (a:Nat):∀f b,tZ (aH L) b<=f ->(L0 (aH L) a f b=y6↔a=b∨gh (fun u v=>u∈(aH L).getD v []) a b)
 |0,b,hf=>by
  rw[L0,eP];refine⟨yd,fun k=>k.elim id fun g=>?_⟩;have:=aa1 h g;omega
 |f+1,b,hf=>by
  rw[L0,JY,eP,rF];constructor
  ·rintro(e |⟨c,i,d⟩)
   ·exact yd e
   ·have:=H7 h i;rcases (aa3 h a f c al).1 d with rfl |j
    ·exact yk (.one i)
    ·exact yk (.more j i)
  ·rintro(e |g)
   ·exact yd e
   ·refine yk ?_;rcases gh.last g with p |⟨v,d,p⟩
    ·exact⟨a,p,by cases f<;>simp[L0]⟩
    ·have:=H7 h p;exact⟨v,p,(aa3 h a f v al).2 (yk d)⟩
theorem aa2 {s:Ja} {u:Nat}:∀ {r:Nat} (d:Nat),u∈dK P s r ->u∈dK P s (r+d)
 |_,0,h=>h
 |r,d+1,h=>by
  show u∈qC P (dK P s (r+d)) 8;exact ER _ (aa2 d h)
theorem at6 (h:bq L=0) {s:Ja} (g:C L<=8):∀m j v,tZ (aH L) v<=m ->v<C L ->v∈dK (aH L) s j ->∀a,gh (fun u v=>u∈(aH L).getD v []) a v ->a∈dK (aH L) s (j+m):=fun m=>by
 induction m with
 |zero=>
  intro j v d _ _ a b;have:=aa1 h b;omega
 |succ m ih=>
  intro j v d i hs a b;have e:∀w,w∈(aH L).getD v [] ->w∈dK (aH L) s (j+1):=fun w f=>MP _ (List.mem_flatMap.2 ⟨v,uZ.2 ⟨al,hs⟩,f⟩);rcases gh.last b with p |⟨w,c,p⟩
  ·rw[show j+(m+1)=(j+1)+m by omega];exact aa2 m (e a p)
  ·have:=H7 h p;rw[show j+(m+1)=(j+1)+m by omega];exact ih (j+1) w al (Kz (vE h).1 p).1 (e w p) a c
theorem PM (h:bq L=0) {s:Ja} (f:C L<=8) (hs:∀v∈s,v<C L) (a:Nat):a∈dK (aH L) s (C L)↔∃b∈s,a=b∨gh (fun u v=>u∈(aH L).getD v []) a b:=by
 constructor
 ·have:∀r a,a∈dK (aH L) s r ->∃b∈s,a=b∨gh (fun u v=>u∈(aH L).getD v []) a b:=fun r=>by
   induction r with
   |zero=>exact fun a c=>⟨a,c,yd rfl⟩
   |succ r ih=>
    intro a c;rcases bE.1 c with c |c
    ·exact ih a c
    ·obtain⟨v,g,p⟩:=List.mem_flatMap.1 c;obtain⟨b,d,e⟩:=ih v (uZ.1 g).2;refine⟨b,d,yk ?_⟩;rcases e with rfl |e
     ·exact .one p
     ·clear d;induction e using gh.ind with
      |one h2=>exact .more (.one p) h2
      |more _ h2 Yi=>exact .more Yi h2
  exact this _ a
 ·rintro⟨b,d,rfl |c⟩
  ·have:=aa2 (P:=aH L) (s:=s) (r:=0) (C L) d;rwa [bQ] at this
  ·have e:=ac8 h (hs b d);have:=at6 h f (C L) 0 b al (hs b d) d a c;rwa [bQ] at this
def XU (P:List Ja) (n v u:Nat):Bool:=(decide (u∈P.getD v []) ||decide (v∈P.getD u [])) ||(List.range n).any fun w=>decide (u∈P.getD w [])&&decide (v∈P.getD w [])
theorem NG {P:List Ja} {u x:Nat}:∀ {n:Nat},x∈jR P u n↔x≠u/\∃v,v<n/\u∈jL P v/\x∈jL P v
 |0=>by simp[jR]
 |n+1=>by
  have i:=NG (P:=P) (u:=u) (x:=x) (n:=n);rw[jR];by_cases h:u∈jL P n
  ·rw[aw h,bE,i,dC,eP];constructor
   ·rintro(⟨a,v,b,c⟩ |⟨a,b⟩)
    ·exact⟨a,v,al,c⟩
    ·exact⟨b,n,al,h,a⟩
   ·rintro⟨a,v,b,c,d⟩;rcases dX v n with e |e
    ·exact yd ⟨a,v,e,c,d⟩
    ·rw[show v=n by omega] at d;exact yk ⟨d,a⟩
  ·rw[aC h,i];refine and_congr_right fun _=>⟨fun ⟨v,a,b⟩=>⟨v,al,b⟩,fun ⟨v,a,b,c⟩=>⟨v,?_,b,c⟩⟩;rcases dX v n with e |e
   ·exact e
   ·rw[show v=n by omega] at b;exact absurd b h
theorem aoA {u:Nat} (c:u<n) (d:v<n):u∈jR P v n↔(XU P n v u&&decide (u≠v))=true:=by
 rw[NG,iu,eP,XU,JY,JY,eP,eP,rF];constructor
 ·rintro⟨e,w,b,h,a⟩;refine⟨?_,e⟩;rcases bY.1 h with rfl |h
  ·rcases bY.1 a with rfl |a
   ·exact absurd rfl e
   ·exact yd (yd a)
  ·rcases bY.1 a with rfl |a
   ·exact yd (yk h)
   ·exact yk ⟨w,bS.2 b,by rw[cJ a,cJ h];rfl⟩
 ·rintro⟨(h |h) |⟨w,b,h⟩,e⟩
  ·exact⟨e,v,d,dJ,dZ _ h⟩
  ·exact⟨e,u,c,dZ _ h,dJ⟩
  ·rw[iu,eP,eP] at h;exact⟨e,w,bS.1 b,dZ _ h.2,dZ _ h.1⟩
def mrR (P:List Ja) (n v u:Nat):Ja:=(List.range u).filter fun u=>XU P n v u&&decide (u≠v)
theorem aoz (b:∀v,∀u∈P.getD v [],u<n/\v<n) (j:n<=8) (f:v<n):iL (mrR P n v n)=fW (jR P v n):=by
 have l:∀x,x∈jR P v n ->x<n:=fun x i=>by
  obtain⟨_,w,g,_,h⟩:=NG.1 i;rcases bY.1 h with rfl |h
  ·exact g
  ·exact(b _ _ h).1
 have e:∀d,bZ (jR P v n) (n+d)=bZ (jR P v n) n:=fun d=>by
  induction d with
  |zero=>rfl
  |succ d ih=>
   rw[show n+(d+1)=(n+d)+1 by omega,NJ,ih];intro m;have:=l _ m;omega
 have a:=e (8 - n);rw[show n+(8 - n)=8 by omega] at a;rw[fW,a,mrR,bZ];congr 1
 refine VZ fun u c=>wm.2 ?_;rw[<- aoA (bS.1 c) f,eP]
def abB (L:List Kx) (u v:Nat):Bool:=L0 (aH L) u (C L) v
theorem aiE (h:bq L=0) {u:Nat} (a:v<C L):abB L u v=y6↔u=v∨gh (fun u v=>u∈(aH L).getD v []) u v:=aa3 h u (C L) v (AU (ac8 h a))
variable {xs:List wF}
def Ee (t:TypeId) (w w':E):Prop:=∀(k:Nat) (c:Array wF) (fr:Nat×Nat),w.heap[k]? =M (Obj.cells c t fr) ->w'.heap[k]? =M (Obj.cells c t fr)
theorem Ee.aa {t:TypeId} (b:da w w'):Ee t w w':=fun k _ _ h=>(b.block k (cS.1 h).1).trans h
theorem KB {B:Nat} {e:TypeId} {s:Nat} {v:wF} (h:w.ownsRow B e s v n xs) (k:Ee e w w'):w'.ownsRow B e s v n xs:=by
 refine⟨h.1,?_⟩;rcases h.2 with a |⟨g,cap,r,a,b,c,d⟩
 ·exact yd a
 ·exact yk ⟨g,cap,r,a,b,k _ _ _ c,d⟩
theorem ad3 {B:Nat} {e:TypeId} {s:Nat} {v:wF} (h:w.ownsRow B e s v n xs):∀g,v.ownBlock=M g ->B<=g:=fun g a=>by
 rcases h.2 with ⟨b, -⟩ |⟨g',cap,r,b,c,d,f⟩
 ·rw[b] at a;cases a
 ·rw[b] at a;cases a;exact c
abbrev PK:Type:=Nat×Nat×wF×Kx
def kC:List PK ->List wF
 |[]=>[]
 |p::l=>J I (p.1:Nat)::J I (p.2.1:Nat)::p.2.2.1::kC l
variable {ops:Array Oper} {rest:List Oper}
theorem ajv {o:Oper} {a:Act} (R:o.guard=N) (s x:Operand)
  (Bj:o.op=.call {callee:=.builtin .append,args:= #[s,x],argTypes:= #[27,27]}) (base:Nat) (v:wF) (l:Kx) (f:Int) (hs:a.eval s=v) (t:bW w base v l) (g:Nat) (Bh:a.eval x=Z (M ⟨g,0,N⟩) 1 1) (H:w.cell? ⟨g,0,N⟩=M (J I f)) (ad:C l+1<=100000) (U:base<=O (T w))
  (h:∀v' w',bW w' base v' (l++[f]) ->w.grownBy w' v.ownBlock ->(v'.ownBlock=v.ownBlock∨∀k,v'.ownBlock=M k ->O (T w)<=k) ->wpList prog ops Q rest (a.put o.dst v') w'):wpList prog ops Q (o::rest) a w:=by
 obtain⟨i,d,p,z,q⟩:=eC Tryz.infoInt
 have n:∀j u,[Value.int I f][j]? =M u ->w.cell? ((⟨g,0,N⟩:Addr).add j)=M u:=fun j u c=>by
  match j,c with
  |0,c=>cases c;exact H
  |j+1,c=>simp at c
 have A:∀u∈[Value.int I f],u.oneCell'=true:=fun u y=>by
  simp only[bY,gK,jq] at y;subst y;rfl
 have S:C l+1<=maxLen:=by unfold maxLen;omega
 obtain⟨v',w',r,Bm,F, -⟩:=run_append_own (P:=prog) w base 27 o.type 3 i (J I 0) 1 8 underlying27 d p z q rfl a6 v (C l) _ t ⟨g,0,N⟩ 1 1 [J I f] rfl n A S al U
 have Ba:v'.ownBlock=v.ownBlock∨∀k,v'.ownBlock=M k ->O (T w)<=k:=by
  rcases t.2 with ⟨b,Y⟩ |⟨g',cap,Bb,b,aa,L,X,ab,B9,B7⟩
  ·right
   have e:=run_append_nil (P:=prog) w 27 o.type 3 i (J I 0) underlying27 d p ⟨g,0,N⟩ 1 1 [J I f] (by rw[z];rfl) n a6 a6 (by rw[q];decide);rw[b] at r;rw[r] at e;cases e;intro k m;cases m;exact ah _
  ·rw[b] at r;by_cases V:C l+1<=cap
   ·left
    have e:=run_append_room (P:=prog) w 27 o.type 3 i underlying27 d g' (C l) cap Bb L ⟨g,0,N⟩ 1 1 [J I f] (by rw[z];rfl) n A V (by rw[z,B9];simp;omega);rw[r] at e;cases e;rw[b];rfl
   ·right
    have D:=t;rw[b] at D;have e:=run_append_grow (P:=prog) w 27 o.type 3 i (J I 0) underlying27 d p ⟨g',0,N⟩ (C l) cap (l.map (Value.int I)) (by rw[z];simp) (World.ownsRow.cells D rfl) ⟨g,0,N⟩ 1 1 [J I f] (by rw[z];rfl) n al al (QN al (by rw[q];omega));rw[r] at e;cases e;intro k m;cases m;exact ah _
 refine wpList_plain R fun _ K=>?_;unfold Oper.wp execOp;simp only[Bj,resolve,invoke,builtin,JQ,zi,vZ,JS,gw,oQ,hs,Bh,r];refine K _ _ (h v' w' ?_ F Ba);rw[bW,cE,gV];exact Bm
def xp (L:List Kx) (u:Nat) (l:Ja):Bool:=l.any (abB L u)
def jE (n:Nat) (Ls:List Kx):Bool:=kK Ls n&&decide Ls.flatten.Nodup
def ug (L:List Kx) (x y z:Kx):Bool:=(af x).any fun v=>Fc (aH L) (C L) (fun v=>decide (v∈af y)) (fun v=>decide (v∈af z)) (fun v=>xp L v (af z)) (C L) [v]
section
attribute [local go_sem] Oper.semAt_some
theorem WT {P:Program} (w:E) (base:Nat) (t y e:TypeId) (i:TypeInfo) (z:wF) (d A:Nat) (o:P.underlying t=M (.slice e)) (g:P.info? e=M i) (r:i.zero=M z) (K:i.size=d) (Bj:i.bytes=A) (X:z.cells.size=d) (V:0<d)
  (v:wF) (n:Nat) (xs:List wF) (x:w.ownsRow base e d v n xs) (a:Addr) (m c:Nat) (s:List wF) (l:C s=m*d) (p:∀j u,s[j]? =M u ->w.cell? (a.add j)=M u) (h1:∀u∈s,u.oneCell'=y6)
  (H:n+m<=maxLen) (Bm:(n+m)*A<=140737488355328) (Y:base<=O (T w)) (R:0<m):
  ∃v' w',(Builtin.append_ #[t,t] y #[v,Z (M a) m c]).run P w=.ok v' w'/\w'.ownsRow base e d v' (n+m) (xs++s)/\w.grownBy w' v.ownBlock/\(v'.ownBlock=v.ownBlock∨∀k,v'.ownBlock=M k ->O (T w)<=k):=by
 obtain⟨v',w',h,L,Bb, -⟩:=run_append_own (P:=P) w base t y e i z d A o g r K Bj X V v n xs x a m c s l p h1 H Bm Y;refine⟨v',w',h,L,Bb,?_⟩;have ab:n+m<=9223372036854775807:=by simp only[maxLen] at H;omega
 subst K;subst Bj
 rcases x.2 with ⟨f,B9⟩ |⟨g',cap,F,f,ad,S,B7,ae,U,aa⟩
 ·right
  have b:=run_append_nil (P:=P) w t y e i z o g r a m c s l p R al (by
   have Q:=Bm;rw[B9,bQ] at Q;omega)
  rw[f] at h;rw[h] at b;cases b;intro k q;cases q;exact ah _
 ·rw[f] at h;by_cases Bh:n+m<=cap
  ·left
   (have Ba:n*i.size+C s<=F.size:=by rw[l,U, <- iC];exact lR _ Bh);have b:=run_append_room (P:=P) w t y e i o g g' n cap F S a m c s l p h1 Bh Ba;rw[h] at b;cases b;rw[f];rfl
  ·right
   have D:=x;rw[f] at D;have b:=run_append_grow (P:=P) w t y e i z o g r ⟨g',0,N⟩ n cap xs D.1 (World.ownsRow.cells D rfl) a m c s l p al al (QN al Bm);rw[h] at b;cases b;intro k q;cases q;exact ah _
theorem ajy {F:Fence} {P:Program} (w:E) {o:Oper} {a:Act}
  (Bh:o.guard=N) (s x:Operand) (t:TypeId) (h:o.op=Op.call {callee:=Callee.builtin Builtin.append,args:= #[s,x],argTypes:= #[t,t]})
  (base:Nat) (e:TypeId) (i:TypeInfo) (z:wF) (b y:Nat) (h1:P.underlying t=M (.slice e)) (p:P.info? e=M i) (q:i.zero=M z) (r:i.size=b) (A:i.bytes=y) (D:z.cells.size=b) (Bm:0<b)
  (v:wF) (k:Nat) (xs:List wF) (hs:a.eval s=v) (Y:w.ownsRow base e b v k xs) (f:Addr) (m c:Nat) (d:List wF) (B9:a.eval x=Z (M f) m c) (Bb:C d=m*b)
  (Bj:∀j u,d[j]? =M u ->w.cell? (f.add j)=M u) (U:∀u∈d,u.oneCell'=y6) (g:k+m<=maxLen) (b2:(k+m)*y<=140737488355328) (l:base<=O (T w)) (L:0<m)
  (H:∀v' w',w'.ownsRow base e b v' (k+m) (xs++d) ->w.grownBy w' v.ownBlock ->(v'.ownBlock=v.ownBlock∨∀k,v'.ownBlock=M k ->O (T w)<=k) ->wpListIn F n P ops Q rest (a.put o.dst v') w'):
  wpListIn F n P ops Q (o::rest) a w:=by
 refine wpListIn_plain Bh fun K V=>?_;obtain⟨v',w',B7,R,S,Ba⟩:=WT (P:=P) w base t o.type e i z b y h1 p q r A D Bm v k xs Y f m c d Bb Bj U g b2 l L;unfold Oper.wpIn;refine⟨?_,?_⟩
 ·simp[Oper.about,h,resolve,Target.leads,zi]
 ·rw[Oper.semAt_plain F _ _ (by rw[h];intro c X;cases X)];simp[execOp,h,resolve,invoke,builtin,hs,B9,B7,Result.andThen];exact V _ _ (H v' w' R S Ba)
def uE:List (Nat×Bool) ->List wF
 |[]=>[]
 |p::l=>J I (p.1:Nat)::zZ p.2::uE l
theorem aaF:∀l,C (uE l)=C l*2
 |[]=>rfl
 |p::l=>by
  show C (uE l)+1+1=(C l+1)*2;rw[aaF l];omega
theorem aaG (m:List (Nat×Bool)):∀l,uE (l++m)=uE l++uE m
 |[]=>rfl
 |q::l=>by
  show _::_::uE (l++m)=_::_::(uE l++uE m);rw[aaG m l]
def xu (w:E) (B:Nat) (v:wF) (l:List (Nat×Bool)):Prop:=w.ownsRow B 243 2 v (C l) (uE l)
theorem Tryz.infoComing:(prog.info? 243).map (fun i=>(i.zero,i.size,i.bytes))=M (M (zd #[J I 0,zZ xd]),2,16):=ao
def G8 (w V:E) (lv v:wF):Prop:=w.grownBy V lv.ownBlock/\(v.ownBlock=lv.ownBlock∨∀g,v.ownBlock=M g ->O (T w)<=g)
theorem am5 {β:Type} {row:Option Nat} {B:Nat} (b:O (T w)<=B):OwnFrom B (fun (_:β) W=>w.grownBy W row):=fun _ W W' r hs g a=>⟨g.os.trans hs.os,g.tape.trans hs.tape,g.output.trans hs.output,aM hs.size g.size,fun k h n=>(g.block k (aT h hs.size) (fun e=>by
 have:=(a k e.symm).1;omega)).trans (hs.block k h n)⟩
theorem ajV (w:E) (a b:wF) (t:TypeId):∀j u,[a,b][j]? =M u ->(w.alloc (yM #[a,b] t)).cell? ((⟨O (T w),0,N⟩:Addr).add j)=M u:=fun j u c=>by
 have h:=dU w (yM #[a,b] t);match j,c with
 |0,c=>cases c;exact(ba _ (O (T w)) 0 _ _ (0,0) h).trans rfl
 |1,c=>cases c;exact(ba _ (O (T w)) 1 _ _ (0,0) h).trans rfl
 |j+2,c=>simp at c
theorem G8.more {V:E} {l v:wF} {m:Obj} (h:G8 w V l v) (c:(V.alloc m).grownBy V' v.ownBlock) (n:v'.ownBlock=v.ownBlock∨∀k,v'.ownBlock=M k ->O (T (V.alloc m))<=k) (b j:Nat) (p:O (T w)<=b) (y:wF):G8 w (V'.setCell ⟨b,j,N⟩ y) l v':=by
 have hs:=h.1.size;have f:O (T V)<=O (T (V.alloc m)):=((au (O (T V)) V).alloc (ah _) m).size;refine⟨⟨c.os.trans h.1.os,c.tape.trans h.1.tape,c.output.trans h.1.output,aM (aM hs f) (aM c.size aE),fun k o d=>?_⟩,?_⟩
 ·refine(eW V' ⟨b,j,N⟩ y k (by show k≠b;omega)).trans ((c.block k al fun e=>?_).trans ((((au (O (T V)) V).alloc (ah _) m).block k al).trans (h.1.block k o d)));rcases h.2 with a |a
  ·exact d (by rw[e,a])
  ·have:=a k e.symm;omega
 ·rcases n with n |n
  ·rcases h.2 with a |a
   ·exact yd (n.trans a)
   ·exact yk fun g i=>a g (by rw[<- n];exact i)
  ·exact yk fun g i=>by
    have:=n g i;omega
theorem aaA (B:Nat) (q:wF) (l:List (Nat×Bool)) (s:Ja) (c:Bool) (w:E) (hs:∀u∈s,u<8) (y:xu w B q l) (dO:C l<=1000) (H:B<=O (T w)):
  c6 221 #[q,J yE (aA s:Nat),zZ c] w fun e w'=>∃v,e=yW v/\xu w' B v (l++(bZ s 8).map fun u=>(u,c))/\G8 w w' q v:=by
 refine(jb (n:=6)).1 ?_;obtain⟨B7,X,aq,av,ax⟩:=eC Tryz.infoComing
 obtain⟨b,nl,a,rfl⟩:∃d n c,q=Z d n c:=by
  rcases y.2 with ⟨x, -⟩ |⟨g,cap,aI,x, -⟩
  ·exact⟨_,_,_,x⟩
  ·exact⟨_,_,_,x⟩
 refine vY func221 rfl trivial ?_ rfl;simp only[ntmps221,mL,eA,lS,Nat.reduceAdd,Nat.reduceSub,oX,oW,oP,nV,gS,gF];have Q:=Fa y;clear y;gi_wp2_with fail
 have R:=bF w 240 (Z b nl a);have ab:=R.alloc (yM #[zZ c] 4);have F:=bF (w.alloc (yM #[Z b nl a] 240)) 4 (zZ c);have Bj:=(au (O (T w)) w).alloc (ah _) (yM #[Z b nl a] 240);have B9:O (T (w.alloc (yM #[Z b nl a] 240)))=O (T w)+1:=aE
 have Y:=Bj.alloc Bj.size (yM #[zZ c] 4);rw[B9] at F;have ai:w.grownBy ((w.alloc (yM #[Z b nl a] 240)).alloc (yM #[zZ c] 4)) (Value.slice b nl a).ownBlock:=⟨Y.os,Y.tape,Y.output,Y.size,fun k i _=>Y.block k i⟩
 refine EW al s hs rfl rfl
  (fun k V=>(∃v,Boxed V (O (T w)) 240 v/\V.ownsRow B 243 2 v (C (l++(bZ s k).map fun u=>(u,c))) (uE (l++(bZ s k).map fun u=>(u,c)))/\(v.ownBlock=(Value.slice b nl a).ownBlock∨∀g,v.ownBlock=M g ->O (T w)<=g))/\Boxed V (O (T w)+1) 4 (zZ c)/\w.grownBy V (Value.slice b nl a).ownBlock)
  (gJ (iB (holdsRow_own B (O (T w)) 240 243 2 (fun k:Nat=>C (l++(bZ s k).map fun u=>(u,c))) (fun k=>uE (l++(bZ s k).map fun u=>(u,c))) (fun _ v=>v.ownBlock=(Value.slice b nl a).ownBlock∨∀g,v.ownBlock=M g ->O (T w)<=g)) _) (gJ (iB (ko (O (T w)+1) 4 (fun _:Nat=>zZ c)) _) (am5 Y.size)))
  ⟨⟨_,ab,by simpa [bZ] using (He (He Q.o _) _),yd rfl⟩,F,ai⟩
  (fun k=> {tmps:= #[Z b nl a,J yE (aA s:Nat),zZ c,zR (M ⟨O (T w),0,N⟩),wQ,zR (M ⟨O (T w)+1,0,N⟩),Z N 0 0,J I (k:Nat),J yE (aA s:Nat),.func (.func 182) #[J yE (aA s:Nat)] #[],J I (k:Nat),wQ,wQ,wQ,wQ,wQ,wQ,wQ],defers:=[]}) ?assign ?body ?skip ?done
 case assign=>
  intro l k W K m;gi_wp2
  exact m
 case body=>
  rintro r k V i z ⟨⟨v,p,j,t⟩,S,f⟩;have U:=p.cell;have aY:=S.cell;have a1:=ly s k;have bb:C (l++(bZ s k).map fun u=>(u,c))<=1008:=by rw[cE,cY];omega
  have ae:B<=O (T V):=aM H f.size;have P:G8 w V (Value.slice b nl a) v:=⟨f,t⟩;generalize Ll:(l++(bZ s k).map fun u=>(u,c))=L at *;gi_wp2_with (gi_at_builtin;refine ajy _ rfl _ _ 240 rfl B 243 B7 (zd #[J I 0,zZ xd]) 2 16 underlying240 X aq av ax rfl a6 _ _ _ rfl (j.alloc _) ⟨O (T V),0,N⟩ 1 1 [J I (k:Nat),zZ c] rfl rfl (ajV _ _ _ _) (by simp[Value.oneCell']) (by unfold maxLen;omega) al (by simp;omega) a6 ?_;intro v' w3 Bb A az;obtain⟨g',ay,rfl⟩:=ownsRow_succ Bb;obtain⟨Bh,ao,an,aj,aJ⟩:=p.appended a6 j ae H Bb A;have aR:=Bh.cell;have IV:=Bh.frozen)
  have aa:Boxed w3 (O (T w)+1) 4 (zZ c):=(S.alloc _).kept A (S.not_row a6 j);have Bm:=P.more A az (O (T w)) 0 (ah _) (Z (M ⟨g',0,N⟩) (C L+1) ay);have ad:(l++(bZ s (k+1)).map fun u=>(u,c))=L++[(k,c)]:=by rw[Sy z,gV, <- p9,Ll];rfl
  refine⟨aj.from _,⟨⟨_,ao,?_,Bm.2⟩,ke aa (O (T w)) 0 _ al,Bm.1⟩⟩;rw[ad,cE,aaG];exact an
 case skip=>
  rintro k V i z h;rwa [NJ z]
 case done=>
  rintro D V Ba ⟨⟨v,p,j,t⟩,S,f⟩ m;have U:=p.cell;gi_wp2
  refine⟨aE,yd ⟨_,_,rfl,CC m,?_⟩⟩;refine⟨_,CD rfl _ _ _,v,rfl,ownsRow_putObj j _ m rfl,⟨f.os,f.tape,f.output,aM f.size aE,fun k i ak=>(zh (by simp at Ba;omega)).trans (f.block k i ak)⟩,t⟩
end
variable {kl:Nat×Bool ->Lit}
def Df (p:Nat×Bool):Value:=zd #[J I (p.1:Nat),zZ p.2]
theorem apm:laidOutB prog=true:=ao
theorem NV:Maps.Keyed prog 243:=Maps.Keyed.of_law (deep_law_laid apm (m:=3) a6 (mJ ao) ao ao)
theorem apq (v:Nat) (c:Bool) (a:v<8):(keyOf prog 243 (Df (v,c))).isSome=true:=by
 have h:v=0∨v=1∨v=2∨v=3∨v=4∨v=5∨v=6∨v=7:=al
 rcases h with rfl |rfl |rfl |rfl |rfl |rfl |rfl |rfl
 all_goals
  cases c
  all_goals exact mJ ao
theorem apr:∃kl:Nat×Bool ->Lit,∀p:Nat×Bool,p.1< 8 ->keyOf prog 243 (Df p)=M (kl p):=by
 refine⟨fun p=>(keyOf prog 243 (Df p)).getD (.bool xd),fun p a=>?_⟩;obtain⟨l,h⟩:=Option.isSome_iff_exists.1 (apq p.1 p.2 a);have b:keyOf prog 243 (Df p)=M l:=h;show _=M ((keyOf prog 243 (Df p)).getD (.bool xd));rw[b];rfl
theorem key_inj (k:∀p:Nat×Bool,p.1< 8 ->keyOf prog 243 (Df p)=M (kl p)) {p q:Nat×Bool} (d:p.1<8) (f:q.1<8) (h:kl p=kl q):p=q:=by
 have a:=k p d;have c:=k q f;rw[h] at a;have e:=NV.inj a c;obtain⟨g,l⟩:=p;obtain⟨i,m⟩:=q;simp only[Df,Value.agg.injEq,Array.mk.injEq,List.cons.injEq,Value.int.injEq,Value.bool.injEq,true_and,and_true] at e;obtain⟨j,b⟩:=e;have:g=i:=al
 rw[this,b]
structure CA (kl:Nat×Bool ->Lit) (W:E) (b:Nat) (S:List (Nat×Bool)) (D:DataW Unit):Prop where
 own:W.ownsMap prog 243 (unitElem (H:=Unit)) b (C S) D
 has:∀p:Nat×Bool,p.1< 8 ->Maps.has D (kl p)=decide (p∈S)
theorem CA.new (kl:Nat×Bool ->Lit) (w:E):CA kl (w.alloc (.map #[] 0)) (O (T w)) [] (.map []):=⟨World.ownsMap_made w _ _ _,fun _ _=>rfl⟩
theorem CA.put (k:∀p:Nat×Bool,p.1< 8 ->keyOf prog 243 (Df p)=M (kl p)) {W:E} {b:Nat} {S:List (Nat×Bool)} {D:DataW Unit} (h:CA kl W b S D) {p:Nat×Bool} (c:p.1<8) {d:DataW Unit} (g:W'.ownsMap prog 243 (unitElem (H:=Unit)) b (C S+1) (D.put (kl p) d)):CA kl W' b (p::S) (D.put (kl p) d):=by
 refine⟨g,fun q f=>?_⟩;by_cases e:kl q=kl p
 ·have a:=key_inj k f c e;rw[a,Maps.has_put_same h.own.isMap (NV.key (k p c)),cJ dJ]
 ·rw[Maps.has_put_other e,h.has q f];refine EK.2 ⟨dZ _,fun m=>?_⟩;rcases bY.1 m with a |m
  ·exact absurd (by rw[a]) e
  ·exact m
theorem CA.kept {W:E} {b:Nat} {S:List (Nat×Bool)} {D:DataW Unit} (h:CA kl W b S D) {row:Option Nat} (g:W.grownBy W' row) (e:M b≠row):CA kl W' b S D:=⟨h.own.kept g e,h.has⟩
variable {an:Ja}
def E4 (P:List Ja) (n:Nat) (z an:Ja) (p:Nat×Bool):List (Nat×Bool):=
 (if (p.2&&!decide (p.1∈z) ||!p.2&&decide (p.1∈an))=y6 then(bZ (P.getD p.1 []) 8).map fun u=>(u,y6) else[])++(if p.1∈z then[] else(bZ (fg P p.1 n) 8).map fun u=>(u,xd))
structure sH (P:List Ja) (n:Nat) (x y z an:Ja) (S W:List (Nat×Bool)):Prop where
 low:∀p,p∈S∨p∈W ->p.1<n/\iJ (fun u v=>u∈P.getD v []) (·∈x) (·∈z) (·∈an) p.1 p.2
 nd:S.Nodup
 noy:∀p∈S,¬p.1∈y
 suc:∀p∈S,∀q∈E4 P n z an p,q∈S∨q∈W
 start:∀v∈x,(v,y6)∈S∨(v,y6)∈W
 len:C W<=8+16*C S
theorem sH.new {x y z:Ja} (b:∀v∈x,v<n) (c:n<=8):sH P n x y z an [] ((bZ x 8).map fun u=>(u,y6)):=by
 refine⟨fun p h=>?_,Hl,(fun p h=>by cases h),(fun p h=>by cases h),fun v a=>yk (aN.2 ⟨v,uZ.2 ⟨by have:=b v a;omega,a⟩,rfl⟩),?_⟩
 ·rcases h with h |h
  ·cases h
  ·obtain⟨v,a,rfl⟩:=aN.1 h;exact⟨b v (uZ.1 a).2,.start (uZ.1 a).2⟩
 ·have:=ly x 8;rw[cY,lS];omega
theorem sH.skip {x y z:Ja} {S Ba:List (Nat×Bool)} {p:Nat×Bool} (h:sH P n x y z an S (Ba++[p])) (c:p∈S):sH P n x y z an S Ba:=by
 have b:∀q,q∈S∨q∈Ba++[p] ->q∈S∨q∈Ba:=fun q a=>by
  rcases a with a |a
  ·exact yd a
  ·rcases bE.1 a with a |a
   ·exact yk a
   ·rw[bA.1 a];exact yd c
 refine⟨fun q a=>h.low q (a.imp id fun a=>ER _ a),h.nd,h.noy,fun q a r d=>b r (h.suc q a r d),fun v e=>b _ (h.start v e),?_⟩;have:=h.len;rw[cE,Hn] at this;omega
theorem sH.add {x y z:Ja} (k:∀v,∀u∈P.getD v [],u<n/\v<n) {S Ba:List (Nat×Bool)} {p:Nat×Bool} (h:sH P n x y z an S (Ba++[p])) (o:¬p∈S) (w:¬p.1∈y):sH P n x y z an (p::S) (Ba++E4 P n z an p):=by
 obtain⟨D,l⟩:=h.low p (yk (MP _ dJ))
 have s:∀q,q∈S∨q∈Ba++[p] ->q∈p::S∨q∈Ba++E4 P n z an p:=fun q a=>by
  rcases a with a |a
  ·exact yd (dZ _ a)
  ·rcases bE.1 a with a |a
   ·exact yk (ER _ a)
   ·rw[bA.1 a];exact yd dJ
 have A:∀q∈E4 P n z an p,q.1<n/\iJ (fun u v=>u∈P.getD v []) (·∈x) (·∈z) (·∈an) q.1 q.2:=fun q a=>by
  rcases bE.1 a with a |a
  ·by_cases d:(p.2&&!decide (p.1∈z) ||!p.2&&decide (p.1∈an))=y6
   ·rw[aw d] at a;obtain⟨u,f,rfl⟩:=aN.1 a;have g:=(uZ.1 f).2;refine⟨(k _ _ g).1,?_⟩;obtain⟨v,c⟩:=p;cases c with
    |true=>
     (have b:¬v∈z:=fun b=>by simp[b] at d);exact .up l b g
    |false=>
     (have m:v∈an:=by simpa using d);exact .meet l m g
   ·rw[aC d] at a;cases a
  ·by_cases b:p.1∈z
   ·rw[aw b] at a;cases a
   ·rw[aC b] at a;obtain⟨u,f,rfl⟩:=aN.1 a;obtain⟨e,i⟩:=Gg.1 (uZ.1 f).2;exact⟨e,.down l b i⟩
 refine⟨fun q a=>?_,nS.2 ⟨o,h.nd⟩,fun q a=>?_,fun q a r j=>?_,fun v t=>s _ (h.start v t),?_⟩
 ·rcases a with a |a
  ·rcases bY.1 a with rfl |a
   ·exact⟨D,l⟩
   ·exact h.low q (yd a)
  ·rcases bE.1 a with a |a
   ·exact h.low q (yk (ER _ a))
   ·exact A q a
 ·rcases bY.1 a with rfl |a
  ·exact w
  ·exact h.noy q a
 ·rcases bY.1 a with rfl |a
  ·exact yk (MP _ j)
  ·exact s r (h.suc q a r j)
 ·have e:=h.len
  have i:C (E4 P n z an p)<=16:=by
   have Bm:=ly (P.getD p.1 []) 8;have F:=ly (fg P p.1 n) 8;rw[E4,cE];split<;>split<;>simp only[cY,lS]<;>omega
  rw[cE,Hn] at e;rw[cE,eA];omega
theorem sH.fin {x y z:Ja} (b:∀v,∀u∈P.getD v [],u<n/\v<n) (f:n<=8) {S:List (Nat×Bool)} (h:sH P n x y z an S []):¬∃v c,v∈y/\iJ (fun u v=>u∈P.getD v []) (·∈x) (·∈z) (·∈an) v c:=by
 have k:∀v c,iJ (fun u v=>u∈P.getD v []) (·∈x) (·∈z) (·∈an) v c ->(v,c)∈S:=fun v c r=>by
  have s:∀p q,p∈S ->q∈E4 P n z an p ->q∈S:=fun p q a d=>(h.suc p a q d).elim id fun h=>by cases h
  induction r using iJ.ind with
  |start hx=>exact(h.start _ hx).elim id fun h=>by cases h
  | @up v p _ hz a ih=>exact s _ _ ih (ER _ (by
    rw[aw (by simp[hz])];exact aN.2 ⟨p,uZ.2 ⟨by have:=(b _ _ a).1;omega,a⟩,rfl⟩))
  | @down v w c _ hz a ih=>exact s _ _ ih (MP _ (by
    rw[aC hz];exact aN.2 ⟨w,uZ.2 ⟨by have:=(b _ _ a).2;omega,Gg.2 ⟨(b _ _ a).2,a⟩⟩,rfl⟩))
  | @meet v p _ ha a ih=>exact s _ _ ih (ER _ (by
    rw[aw (by simp[ha])];exact aN.2 ⟨p,uZ.2 ⟨by have:=(b _ _ a).1;omega,a⟩,rfl⟩))
 rintro⟨v,c,e,r⟩;exact h.noy _ (k v c r) e
theorem sH.few {x y z:Ja} {S W:List (Nat×Bool)} (h:sH P n x y z an S W) (k:n<=8):C S<=16:=by
 have Bh:(S.map fun p=>p.1*2+(if p.2=y6 then 1 else 0)).Nodup:=CN.2 (h.nd.imp fun {a b} g e=>g (by
  obtain⟨i,c⟩:=a;obtain⟨j,b2⟩:=b;cases c<;>cases b2<;>simp at e⊢<;>omega))
 have:=Fh Bh (m:=List.range 16) fun v f=>by
  obtain⟨p,d,rfl⟩:=aN.1 f;have:=(h.low p (yd d)).1;refine bS.2 ?_;split<;>omega
 simpa using this
theorem XT {l:Ja}:aA l=0↔∀v,¬v∈l:=by
 constructor
 ·intro h v b;have:=qh l v;rw[h,Nat.zero_testBit,cJ b] at this;cases this
 ·intro h;have:aA l=aA []:=Su fun x=>⟨fun a=>absurd a (h x),fun a=>by cases a⟩;rw[this];rfl
theorem CX (h:Up l n):l.Nodup:=zq.2 fun i j b a q=>by
 have:=h.lt i j a q;omega
theorem Hv (h:Up l n) {x:Int} (b:x∈l):0<=x/\x<n:=by
 obtain⟨j,a,rfl⟩:=iE b;exact h.each j a
theorem Wh (h:Up l n) {x:Int} (b:0<=x):x.toNat∈af l↔x∈l:=by
 constructor
 ·intro m;obtain⟨y,a,e⟩:=aN.1 m;have:=Hv h a;rwa [show x=y by omega]
 ·exact fun m=>aN.2 ⟨x,m,rfl⟩
theorem uR (h:Up l n):∀u∈af l,u<n:=fun u a=>by
 obtain⟨y,b,rfl⟩:=aN.1 a;have:=Hv h b;omega
theorem aaT {a b:Kx} (d:Up a n) (e:Up b n):(∀x∈a,∀y∈b,x≠y)↔aA ((af a).filter fun x=>decide (x∈af b))=0:=by
 rw[XT];constructor
 ·intro h v j;obtain⟨f,g⟩:=dC.1 j;obtain⟨x,c,rfl⟩:=aN.1 f;have i:=(Wh e (Hv d c).1).1 (mJ g);exact h x c x i rfl
 ·rintro h x c y k rfl;exact h x.toNat (dC.2 ⟨(Wh d (Hv d c).1).2 c,cJ ((Wh e (Hv d c).1).2 k)⟩)
theorem aiu {x y z:Kx} (r:kK [x,y,z] n=y6):jE n [x,y,z]=y6↔aA ((af x).filter fun v=>decide (v∈af y))=0/\aA ((af x++af y).filter fun v=>decide (v∈af z))=0:=by
 have i:Up x n:=lr (fM.1 r x aE);have j:Up y n:=lr (fM.1 r y aE);have k:Up z n:=lr (fM.1 r z aE)
 have e:aA ((af x++af y).filter fun v=>decide (v∈af z))=0↔aA ((af x).filter fun v=>decide (v∈af z))=0/\aA ((af y).filter fun v=>decide (v∈af z))=0:=by
  simp only[XT,xP,bE,not_or];exact⟨fun h=>⟨fun v=>(h v).1,fun v=>(h v).2⟩,fun h v=>⟨h.1 v,h.2 v⟩⟩
 rw[e, <- aaT i j, <- aaT i k, <- aaT j k,jE,r,Hs,eP];simp only[Q5,Q4,kq,nT,bE];constructor
 ·rintro⟨_,⟨_,_,g⟩,f⟩;exact⟨fun a c b d=>f a c b (yd d),fun a c b d=>f a c b (yk d),g⟩
 ·rintro⟨g,f,l⟩;exact⟨CX i,⟨CX j,CX k,l⟩,fun a c b d=>d.elim (g a c b) (f a c b)⟩
theorem PN (h:bq L=0) (d:C L<=8) {s:Ja} (hs:∀v∈s,v<C L) (u:Nat):xp L u s=y6↔u∈dK (aH L) s (C L):=by
 rw[PM h d hs,xp,rF];exact⟨fun ⟨b,a,c⟩=>⟨b,a,(aiE h (hs b a)).1 c⟩,fun ⟨b,a,c⟩=>⟨b,a,(aiE h (hs b a)).2 c⟩⟩
theorem adg {a n:Nat ->Prop} (z:∀v,B7 v↔a v) (b:∀v,An v↔n v) {c:Bool} (h:iJ Pa X B7 An v c):iJ Pa X a n v c:=by
 induction h using iJ.ind with
 |start hx=>exact .start hx
 |up _ h1 h2 ih=>exact .up ih (fun e=>h1 ((z _).2 e)) h2
 |down _ h1 h2 ih=>exact .down ih (fun e=>h1 ((z _).2 e)) h2
 |meet _ h1 h2 ih=>exact .meet ih ((b _).1 h1) h2
theorem aek (h:bq L=0) (d:C L<=8) {x y z:Kx} (p:jE (C L) [x,y,z]=y6):ug L x y z=y6↔∃v c,v∈af y/\iJ (fun u v=>u∈(aH L).getD v []) (·∈af x) (·∈af z) (·∈dK (aH L) (af z) (C L)) v c:=by
 have r:kK [x,y,z] (C L)=true:=by
  rw[jE,iu] at p;exact p.1
 have k:Up x (C L):=lr (fM.1 r x aE);have o:Up z (C L):=lr (fM.1 r z aE);have l:=uR o;have q:=(vE h).1;have m:=((aiu r).1 p).2;rw[XT] at m
 have j:∀u v,u∈(aH L).getD v [] ->xp L v (af z)=y6 ->xp L u (af z)=true:=fun u v e f=>by
  rw[PN h d l,PM h d l] at f⊢;obtain⟨b,i,a⟩:=f;rcases a with rfl |a
  ·exact⟨v,i,yk (.one e)⟩
  ·refine⟨b,i,yk ?_⟩;clear i;induction a using gh.ind with
   |one hp=>exact .more (.one e) hp
   |more _ hp ih=>exact .more ih hp
 have t:=anz (P:=aH L) (n:=L.length) (yb:=fun v=>decide (v∈af y)) (zb:=fun v=>decide (v∈af z)) (an:=fun v=>xp L v (af z)) (X:=(·∈af x))
  (fun v f=>cX fun s=>m v (dC.2 ⟨ER _ f,cJ s⟩)) (atZ h) j (fun v u e=>Kz q e) (uR k)
 rw[ug,rF];refine Iff.trans t ⟨?_,?_⟩
 ·rintro⟨v,c,a,g⟩;exact⟨v,c,mJ a,adg (fun v=>eP) (fun v=>PN h d l v) g⟩
 ·rintro⟨v,c,a,g⟩;exact⟨v,c,cJ a,adg (fun v=>eP.symm) (fun v=>(PN h d l v).symm) g⟩
variable {L' Ls:List Kx} {Bj:Kx}
theorem anr {r:Nat ->Nat} (c:∀v,∀u∈P.getD v [],u<C P/\r u<r v):C (bj P (C P))=C P:=by
 have s:∀k,k<=C P ->C (bj P k)=k:=fun k=>by
  induction k with
  |zero=>intro _;rfl
  |succ k ih=>
   intro t;have l:=ih al
   have x:∃v,v<C P/\¬v∈bj P k:=by
    refine zt fun o=>?_;have q:∀v∈List.range (C P),v∈bj P k:=fun v a=>zt fun h=>o ⟨v,bS.1 a,h⟩;have:=Fh qN q;rw[AW,l] at this;omega
   have w:∀m v,r v<=m ->v<C P ->¬v∈bj P k ->∃v',v'<C P/\iX P (bj P k) v'=true:=fun m=>by
    induction m with
    |zero=>
     intro v g a n;refine⟨v,a,?_⟩;rw[iX,cX n,cJ (fun u b=>by have:=(c v u b).2;omega)];rfl
    |succ m NZ=>
     intro v g a n;by_cases d:∀u∈P.getD v [],u∈bj P k
     ·exact⟨v,a,by rw[iX,cX n,cJ d];rfl⟩
     ·obtain⟨u,b⟩:=Classical.not_forall.1 d;obtain⟨i,j⟩:=Classical.not_imp.1 b;have:=c v u i;exact NZ u al this.1 j
   obtain⟨v,a,n⟩:=x;obtain⟨v',p,f⟩:=w (r v) v (ah _) a n;rw[bj];cases e:rS P (bj P k) with
   |none=>
    rw[rS,VY] at e;exact absurd f (e v' (bS.2 p))
   |some u=>
    show C (bj P k++[u])=_;rw[cE,l];rfl
 exact s _ (ah _)
theorem Ro (a:Up l n):ei l n=true:=by
 rw[ei,fM];intro i b;have h:=bS.1 b;rw[lX,eP,getD_eq h];refine⟨(a.each i h).1,(a.each i h).2,fun c=>?_⟩;rw[getD_eq (show i - 1<C l by omega)];exact a.lt (i - 1) i h al
theorem up_sub {m:Kx} (h:Up m n) (hs:l.Sublist m):Up l n:=by
 rw[eH] at h⊢;exact⟨fun x a=>h.1 x (hs.subset a),h.2.sublist hs⟩
theorem getD_at {α:Type} {L:List (List α)} (h:v<C L):L.getD v []=L[v]:=by rw[cF,a7 h];rfl
theorem agX (h:bq L=0) (k:C L'=C L) (hs:∀v,v<C L ->(L'.getD v []).Sublist (L.getD v [])):bq L'=0:=by
 have g:=(vE h).1;obtain⟨t,w,r,s⟩:=mj g;have f:∀v,v<C L ->Up (L.getD v []) (C L):=fun v b=>by rw[getD_at b];exact lr (Uw r b)
 have z:gB L'=true:=agY al al fun i j=>by
  have d:i<C L:=al
  have S:=hs i d;have a:=up_sub (f i d) S;rw[getD_at j] at a S;refine⟨by rw[k];exact Ro a,fun m=>?_⟩
  have p:¬i∈af (L.getD i []):=fun o=>by
   have:=fM.1 s i (bS.2 d);rw[cJ o] at this;cases this
  refine p ?_;obtain⟨x,c,e⟩:=aN.1 m;exact aN.2 ⟨x,S.subset c,e⟩
 have n:∀v,∀u∈(aH L').getD v [],u<C (aH L')/\tZ (aH L) u<tZ (aH L) v:=fun v u a=>by
  have l:=Kz z a;have b:v<C L:=al
  have m:u∈(aH L).getD v []:=by
   rw[Ii l.2, <- getD_at l.2] at a;rw[Ii b, <- getD_at b];obtain⟨x,c,e⟩:=aN.1 a;exact aN.2 ⟨x,(hs v b).subset c,e⟩
  exact⟨by rw[j5];exact l.1,H7 h m⟩
 have q:=anr n;rw[j5] at q;rw[bq,aw z,aC al]
def ri (L:List Kx) (Bj F:Kx) (v:Nat):Kx:=if (v:Int)∈Bj then[] else(L.getD v []).filter fun u=>decide (¬u∈F)
def ed (L:List Kx) (Bj F:Kx):List Kx:=(List.range (C L)).map (ri L Bj F)
theorem vF (L:List Kx) (Bj F:Kx):C (ed L Bj F)=C L:=by simp[ed]
theorem Pz {F:Kx} (h:v<C (ed L Bj F)):(ed L Bj F)[v]=ri L Bj F v:=by simp[ed]
theorem ahR (L:List Kx) (Bj F:Kx) (v:Nat):(ri L Bj F v).Sublist (L.getD v []):=by
 rw[ri];split
 ·exact List.nil_sublist _
 ·exact JV
theorem LM (h:bq L=0) (Bj F:Kx):bq (ed L Bj F)=0:=agX h (vF L Bj F) fun v b=>by
 have a:v<C (ed L Bj F):=by rw[vF];exact b
 rw[getD_at a,Pz a];exact ahR L Bj F v
theorem asD {F:Kx} (h:∀l∈L,C l<=n):∀l∈ed L Bj F,C l<=n:=fun l c=>by
 obtain⟨v,d,rfl⟩:=aN.1 c;have a:=bS.1 d;have b:=(ahR L Bj F v).length_le;have e:=h _ (bU a);rw[getD_at a] at b;omega
theorem aax (L:List Kx) (Bj:Kx) (v:Nat):ri L Bj [] v=if (v:Int)∈Bj then[] else L.getD v []:=by
 rw[ri,List.filter_eq_self.2 (fun _ _=>aE)]
theorem asA (L:List Kx) (F:Kx) (v:Nat):ri L [] F v=(L.getD v []).filter fun u=>decide (¬u∈F):=by
 rw[ri];simp
def kA (L Ls:List Kx):Int:=if bq L=0 then(if jE (C L) Ls=y6 then 0 else 11) else bq L
theorem D9:jE n Ls=y6↔(∀l∈Ls,ei l n=y6)/\Ls.flatten.Nodup:=by
 rw[jE,iu,eP,kK,fM]
theorem acF (h:kA L Ls=0):bq L=0/\jE (C L) Ls=true:=by
 rw[kA] at h;by_cases g:bq L=0
 ·rw[aw g] at h;refine⟨g,?_⟩;by_cases a:jE (C L) Ls=y6
  ·exact a
  ·rw[aC a] at h;exact absurd h a6
 ·rw[aC g] at h;exact absurd h g
theorem ahc (P:List Ja) (n:Nat):∀k,(bT P n k).ord=(List.range k).map (lV P n)
 |0=>rfl
 |k+1=>by rw[xN,gV, <- ahc P n k];rfl
theorem anZ (g:gB L=y6):wJ L=y6↔∀v u,v<C L ->u<C L ->(decide (u∈(aH L).getD v [])=decide (v∈(aH L).getD u [])):=by
 rw[wJ,g,Hs,eP,Iu];have l:∀v,v<C L ->v<C (aH L):=fun v a=>by rw[j5];exact a
 have m:=Ky g
 have t:∀v,v<C L ->∀u,u∈(aH L).getD v [] ->u<C L:=fun v a u b=>by
  rw[cF,a7 (l v a)] at b;exact m _ (bU (l v a)) u b
 have k:∀v,v<C L ->((((aH L).map aA)[v]? =((lG (aH L) (C L) (C L)).map aA)[v]?)↔∀u,u<C L ->(decide (u∈(aH L).getD v [])=decide (v∈(aH L).getD u []))):=fun v a=>by
  have d:((aH L).map aA)[v]? =M (aA ((aH L).getD v [])):=by rw[k9,cF,a7 (l v a)];rfl
  have f:((lG (aH L) (C L) (C L)).map aA)[v]? =M (aA (fg (aH L) v (C L))):=by simp[lG,a]
  rw[d,f];constructor
  ·intro e u b;have c:=jO e;have i:=qh ((aH L).getD v []) u;have j:=qh (fg (aH L) v (C L)) u;rw[<- i,c,j,EK,Gg];exact⟨fun h=>h.2,fun h=>⟨b,h⟩⟩
  ·intro h;congr 1
   refine Su fun u=>?_;rw[Gg];constructor
   ·intro b;have:=t v a u b;exact⟨this,(EK.1 (h u this)).1 b⟩
   ·exact fun b=>(EK.1 (h u b.1)).2 b.2
 constructor
 ·intro e v u a b;exact(k v a).1 (by rw[e]) u b
 ·intro h;refine MV fun v=>?_;rcases dX v (C L) with a |a
  ·exact(k v a).2 fun u b=>h v u a b
  ·rw[iT (by rw[cY,j5];exact a),iT (by rw[cY,aaI];exact a)]
theorem alL (p:Nat ->Bool) (n:Nat):ei (iL ((List.range n).filter p)) n=true:=by
 have hs:((List.range n).filter p).Pairwise (·<·):=List.Pairwise.filter _ List.pairwise_lt_range;refine fM.2 fun i a=>?_;have h:i<C ((List.range n).filter p):=by rw[bS,bR] at a;exact a
 have g:∀j (b:j<C ((List.range n).filter p)),(iL ((List.range n).filter p)).getD j 0=(((List.range n).filter p)[j]:Int):=fun j b=>by
  rw[cF,iL,k9,a7 b];rfl
 refine cJ ⟨?_,?_,fun c=>?_⟩
 ·rw[g i h];omega
 ·rw[g i h];have:=bS.1 (dC.1 (bU h)).1;omega
 ·rw[g i h,g (i - 1) al];have:=(zq.1 hs) (i - 1) i al h al;omega
def pj (L:List Kx):List Kx:=(pg (aH L) (C L) (C L)).map fW
theorem Dd (L:List Kx):C (pj L)=C L:=by simp[pj,pg]
theorem aoJ (h:v<C L):(aH (pj L)).getD v []=bZ (jR (aH L) v (C L)) 8:=by
 rw[cF,aH,k9,pj,k9,pg,k9,MT h];show af (fW _)=_;rw[fW,jP]
theorem XW (g:gB L=y6):∀v,∀u∈(aH L).getD v [],u<C L/\v<C L:=fun v u a=>by
 refine⟨(KI g).at v u a,?_⟩;by_cases h:v<C L
 ·exact h
 ·rw[cF,iT (by rw[j5];omega)] at a;cases a
theorem Sw {u:Nat} (b:C L<=8) (a:v<C L) (c:u<C L):u∈(aH (pj L)).getD v []↔u≠v/\∃x,x<C L/\v∈jL (aH L) x/\u∈jL (aH L) x:=by
 rw[aoJ a,uZ,NG];exact⟨fun h=>h.2,fun h=>⟨al,h⟩⟩
theorem aeR (g:gB L=y6) (h1:1<=C L) (a:C L<=8):gB (pj L)=true:=by
 refine agY (by rw[Dd];exact h1) (by rw[Dd];exact a) fun i b=>?_;have c:i<C L:=by rwa [Dd] at b
 have e:(pj L)[i]=fW (jR (aH L) i (C L)):=by simp[pj,pg]
 rw[e,Dd];refine⟨?_,?_⟩
 ·rw[<- aoz (XW g) a c];exact alL _ _
 ·rw[fW,jP,uZ,NG];exact fun h=>h.2.1 rfl
theorem aoI (i:gB L=y6) (h1:1<=C L) (d:C L<=8):wJ (pj L)=true:=by
 refine(anZ (aeR i h1 d)).2 fun v u g f=>?_;rw[Dd] at g f;rw[EK,Sw d g f,Sw d f g];exact⟨fun ⟨h,x,a,b,c⟩=>⟨fun e=>h e.symm,x,a,c,b⟩,fun ⟨h,x,a,b,c⟩=>⟨fun e=>h e.symm,x,a,c,b⟩⟩
def jK (L:List Kx):Ja:=(bT (aH (pj L)) (C (pj L)) (C (pj L))).ord
theorem aee (k:gB L=y6) (h1:1<=C L) (d:C L<=8):aiH (C L) (lV (aH (pj L)) (C L)) (nrO (aH (pj L)) (C L)):=by
 have g:vL (C L) (aH (pj L)):=by have:=KI (aeR k h1 d);rwa [Dd] at this
 refine arC g (fun u i w f=>?_) d;have j:=g.at u w f;rw[Sw d i j] at f;rw[Sw d j i];obtain⟨h,x,a,b,c⟩:=f;exact⟨fun e=>h e.symm,x,a,c,b⟩
theorem Sj (L:List Kx):jK L=(List.range (C L)).map (lV (aH (pj L)) (C L)):=by rw[jK,Dd,ahc]
theorem aeg (g:gB L=y6) (h1:1<=C L) (h:C L<=8):(jK L).Nodup:=by
 rw[Sj,List.Nodup,CN];refine List.Pairwise.imp_of_mem (fun {i j} a b c e=>?_) (qN (n:=L.length));exact c ((aee g h1 h).inj i j (bS.1 a) (bS.1 b) e)
theorem aeh (g:gB L=y6) (h1:1<=C L) (h:C L<=8) (b:v<C L):v∈jK L:=by
 obtain⟨i,a,e⟩:=(aee g h1 h).all v b;rw[Sj];exact aN.2 ⟨i,bS.2 a,e⟩
variable {cb cc:Nat} {a:Kd}
def bJ (w:E) (x y:wF) (t:Tb):Prop:=∃b c cb cc,x=Z b t.1.length cb/\y=Z c t.2.length cc/\aB w b t.1/\dH w c t.2/\(b=N ->cb=0)
theorem bJ.aa {x:wF} {t:Tb} (h:bJ w x y t) (a:da w w'):bJ w' x y t:=by
 obtain⟨b,c,cb,cc,d,e,f,g,i⟩:=h;exact⟨b,c,cb,cc,d,e,f.aa a,g.aa a,i⟩
def jn (w:E) (a:Kd) (P:List Tb):Prop:=∀k (h:k<C P),∃g o x y,a=M ⟨g,o,N⟩/\g<O (T w)/\w.cell? ⟨g,o+k*2,N⟩=M x/\w.cell? ⟨g,o+k*2+1,N⟩=M y/\bJ w x y P[k]
theorem jn.aa {P:List Tb} (h:jn w a P) (b:da w w'):jn w' a P:=fun k j=>by
 obtain⟨g,o,x,y,d,c,e,f,i⟩:=h k j;exact⟨g,o,x,y,d,aT c b.size,(b.cell (p:=⟨g,_,N⟩) c).trans e,(b.cell (p:=⟨g,_,N⟩) c).trans f,i.aa b⟩
def fV:List (wF×wF) ->List wF
 |[]=>[]
 |p::l=>p.1::p.2::fV l
theorem Nd:∀l,C (fV l)=C l*2
 |[]=>rfl
 |p::l=>by
  show C (fV l)+1+1=(C l+1)*2;rw[Nd l];omega
theorem Nf (m:List (wF×wF)):∀l,fV (l++m)=fV l++fV m
 |[]=>rfl
 |q::l=>by
  show _::_::fV (l++m)=_::_::(fV l++fV m);rw[Nf m l]
theorem Rv:∀(l:List (wF×wF)) (k:Nat) (h:k<C l),(fV l)[k*2]? =M l[k].1/\(fV l)[k*2+1]? =M l[k].2
 |p::l,0,_=>⟨rfl,rfl⟩
 |p::l,k+1,h=>by
  have:=Rv l k (by simpa using h);rw[show (k+1)*2=k*2+1+1 by omega];exact this
def iA (R:Nat) (t:Tb) (p:wF×wF):Prop:=(∀g o n c,p.1=Z (M ⟨g,o,N⟩) n c ->t.1≠[] ->g≠R)/\∀g o n c,p.2=Z (M ⟨g,o,N⟩) n c ->t.2≠[] ->g≠R
structure nI (w:E) (B:Nat) (v:wF) (Q:List (wF×wF)) (P:List Tb):Prop where
 len:C Q=C P
 own:w.ownsRow B 38 2 v (C P) (fV Q)
 val:∀k (h:k<C P) (h':k<C Q),bJ w Q[k].1 Q[k].2 P[k]
 far:∀R,v.ownBlock=M R ->∀k (h:k<C P) (h':k<C Q),iA R P[k] Q[k]
theorem nI.nil (w:E) (B:Nat):nI w B (Z N 0 0) [] []:=⟨rfl,⟨rfl,yd ⟨rfl,rfl⟩⟩,(fun k h=>absurd h aE),fun R e=>by cases e⟩
theorem nI.row {B:Nat} {v:wF} {Q:List (wF×wF)} {P:List Tb} (h:nI w B v Q P):∃a c,v=Z a (C P) c/\jn w a P:=by
 rcases h.own.2 with ⟨d,f⟩ |⟨g,cap,t,d,f,i,p,r,s,n⟩
 ·exact⟨N,0,by rw[d,f],fun k b=>absurd b al⟩
 ·refine⟨_,cap,d,fun k b=>?_⟩;have m:k<C Q:=by rw[h.len];exact b
  obtain⟨q,o⟩:=Rv Q k m;have x:=Nd Q
  have l:∀j u,(fV Q)[j]? =M u ->w.cell? ⟨g,j,N⟩=M u:=fun j u e=>by
   rw[ba w g j _ _ (0,0) i];have B7:=(mO.1 e).1;rw[<- n,sQ,aw (by have:=h.len;omega),wu] at e;exact e
  exact⟨g,0,_,_,rfl,(cS.1 i).1,by rw[bQ];exact l _ _ q,by rw[bQ];exact l _ _ o,h.val k b m⟩
theorem NY {W:E} {R:Option Nat} {b:Kd} (h:aB W b l) (n:∀g o,b=M ⟨g,o,N⟩ ->l≠[] ->M g≠R) (a:W.grownBy W' R):aB W' b l:=fun k d=>by
 obtain⟨g,o,e,c,f⟩:=h k d;have i:=n g o e (fun e=>by rw[e] at d;exact absurd d aE);exact⟨g,o,e,aT c a.size,(iM (a.block g c i)).trans f⟩
theorem aro {W:E} {R:Option Nat} {b:Kd} {l:List Fr} (h:dH W b l) (p:∀g o,b=M ⟨g,o,N⟩ ->l≠[] ->M g≠R) (i:W.grownBy W' R):dH W' b l:=fun k d=>by
 obtain⟨g,o,e,f,j,m,n⟩:=h k d;have q:=p g o e (fun e=>by rw[e] at d;exact absurd d aE);have c:=i.block g f q;exact⟨g,o,e,aT f i.size,(iM (a:=⟨g,_,N⟩) c).trans j,(iM (a:=⟨g,_,N⟩) c).trans m,(iM (a:=⟨g,_,N⟩) c).trans n⟩
theorem bJ.keepR {W:E} {R:Option Nat} {x:wF} {t:Tb} (h:bJ W x y t) (f:∀r,R=M r ->iA r t (x,y)) (d:W.grownBy W' R):bJ W' x y t:=by
 obtain⟨b,c,cb,cc,rfl,rfl,i,j,k⟩:=h;refine⟨b,c,cb,cc,rfl,rfl,NY i (fun g o e n a=>?_) d,aro j (fun g o e n a=>?_) d,k⟩
 ·exact(f g a.symm).1 g o _ _ (by rw[e]) n rfl
 ·exact(f g a.symm).2 g o _ _ (by rw[e]) n rfl
theorem bJ.lt {x:wF} {t:Tb} (h:bJ w x y t) {R:Nat} (p:O (T w)<=R):iA R t (x,y):=by
 obtain⟨b,c,cb,cc,rfl,rfl,i,j,m⟩:=h;refine⟨fun g o n f e d k=>?_,fun g o n f e d k=>?_⟩
 ·injection e with e1 _ _;obtain⟨g',o',a,z,_⟩:=i 0 (by cases ht:t.1 with |nil=>exact absurd ht d |cons x l=>simp);rw[e1] at a;cases a;omega
 ·injection e with e1 _ _;obtain⟨g',o',a,z,_⟩:=j 0 (by cases ht:t.2 with |nil=>exact absurd ht d |cons x l=>simp);rw[e1] at a;cases a;omega
theorem nI.push {B:Nat} {v x:wF} {Q:List (wF×wF)} {P:List Tb} {t:Tb} (h:nI w B v Q P) (b:bJ w x y t) (f:∀R,v.ownBlock=M R ->iA R t (x,y)) (o:w'.ownsRow B 38 2 v' (C P+1) (fV Q++[x,y])) (g:w.grownBy w' v.ownBlock) (n:v'.ownBlock=v.ownBlock∨∀k,v'.ownBlock=M k ->O (T w)<=k):nI w' B v' (Q++[(x,y)]) (P++[t]):=by
 have e:C (P++[t])=C P+1:=aE
 refine⟨by simp[h.len],by rw[e,Nf];exact o,fun k j c=>?_,fun R a k j c=>?_⟩
 ·by_cases d:k<C P
  ·have i:k<C Q:=by rw[h.len];exact d
   rw[nU i,nU d];exact(h.val k d i).keepR (fun r l=>h.far r l k d i) g
  ·have i:¬k<C Q:=by rw[h.len];exact d
   rw[tX al,tX al];simp only[QZ];exact b.keepR f g
 ·by_cases d:k<C P
  ·have i:k<C Q:=by rw[h.len];exact d
   rw[nU i,nU d];rcases n with n |n
   ·exact h.far R (by rw[<- n];exact a) k d i
   ·exact(h.val k d i).lt (n R a)
  ·have i:¬k<C Q:=by rw[h.len];exact d
   rw[tX al,tX al];simp only[QZ];rcases n with n |n
   ·exact f R (by rw[<- n];exact a)
   ·exact b.lt (n R a)
theorem nI.under {B:Nat} {v:wF} {Q:List (wF×wF)} {P:List Tb} (h:nI w B v Q P) (b:da w w'):nI w' B v Q P:=
 ⟨h.len,KB h.own (Ee.aa b),fun k a c=>(h.val k a c).aa b,h.far⟩
theorem nI.lt {B:Nat} {v:wF} {Q:List (wF×wF)} {P:List Tb} (h:nI w B v Q P):∀R,v.ownBlock=M R ->B<=R/\R<O (T w):=fun R a=>by
 rcases h.own.2 with ⟨b,c⟩ |⟨g,cap,r,b,c,d,_⟩
 ·rw[b] at a;cases a
 ·rw[b] at a;cases a;exact⟨c,(cS.1 d).1⟩
theorem iA.new {B R:Nat} {t:Tb} {b c:Kd} (h:i7 B b cb) (d:i7 B c cc) (i:R<B):iA R t (Z b n cb,Z c m cc):=
 ⟨fun g o f a e _=>by
  injection e with e1 _ _;have:=h.2 g o e1;omega,fun g o f a e _=>by
  injection e with e1 _ _;have:=d.2 g o e1;omega⟩
theorem Tryz.infoTable:(prog.info? 38).map (fun i=>(i.zero,i.size,i.bytes))=M (M (zd #[Z N 0 0,Z N 0 0]),2,48):=ao
variable {D Bm c d:Nat} {p:Rat}
def eL (D:Nat) (q:Rat):Prop:=∃z:Int,q=mkRat z D
theorem eL.own (q:Rat):eL q.den q:=⟨q.num,(Rat.mkRat_self q).symm⟩
theorem eL.zero (D:Nat):eL D 0:=⟨0,aE⟩
theorem eL.one:eL 1 1:=⟨1,rfl⟩
theorem eL.add {q:Rat} (h:eL D p) (a:eL D q):eL D (p+q):=by
 obtain⟨x,rfl⟩:=h;obtain⟨y,rfl⟩:=a;refine⟨x+y,?_⟩;rw[Rat.mkRat_eq_div,Rat.mkRat_eq_div,Rat.mkRat_eq_div,jH,jH,jH, <- Rat.add_mul,Rat.intCast_add]
theorem eL.mul {q:Rat} (h:eL D p) (a:eL Bm q):eL (D*Bm) (p*q):=by
 obtain⟨x,rfl⟩:=h;obtain⟨y,rfl⟩:=a;exact⟨x*y,Rat.mkRat_mul_mkRat ..⟩
theorem eL.times (a:D≠0) {q:Rat} (h:eL D q) (b:Bm≠0):eL (D*Bm) q:=by
 obtain⟨x,rfl⟩:=h;refine⟨x*Bm,?_⟩;rw[Rat.mkRat_eq_iff a (CJ a b),mP,Int.mul_assoc,Int.mul_comm (Bm:Int)]
theorem eL.dvd (a:D≠0) {q:Rat} (h:eL D q):q.den∣D:=by
 obtain⟨x,rfl⟩:=h;rw[<- Rat.normalize_eq_mkRat a,Rat.normalize_eq];exact Nat.div_dvd_of_dvd (Nat.gcd_dvd_right _ _)
theorem eL.more (a:D≠0) (b:Bm≠0) {q:Rat} (h:eL D q) (d:D∣Bm):eL Bm q:=by
 obtain⟨c,rfl⟩:=d;exact h.times a fun e=>b (by rw[e,lQ])
def jN (c:Nat) (q:Rat):Prop:=0<=q/\q<=(c:Rat)
theorem eL.size (b:D≠0) {q:Rat} (h:eL D q) (d:jN c q):qw q<=2*(B D).size+(B c).size:=by
 have e:=Nat.le_of_dvd (lO b) (h.dvd b);have a:=(Rat.le_iff _ _).1 d.2;have i:=Rat.num_nonneg.2 d.1
 have j:q.num.natAbs<=c*D:=by
  have f:((c:Nat):Rat).num=(c:Int):=rfl;have g:((c:Nat):Rat).den=1:=rfl;rw[f,g] at a;have k:(c:Int)*(q.den:Int)<=(c:Int)*(D:Int):=Int.mul_le_mul_of_nonneg_left (Int.ofNat_le.2 e) (Q9 c)
  have l:q.num<=(c:Int)*(D:Int):=by
   (have:q.num*((1:Nat):Int)=q.num:=aE);rw[this] at a;exact Int.le_trans a k
  have m:((q.num.natAbs:Nat):Int)=q.num:=Int.natAbs_of_nonneg i;have n:((q.num.natAbs:Nat):Int)<=((c*D:Nat):Int):=by rw[m,mP];exact l
  exact Int.ofNat_le.1 n
 have s:=ku j;have o:=rH c D;have p:=ku e;simp only[qw];omega
theorem jN.mul {q:Rat} (h:jN c p) (a:jN d q):jN (c*d) (p*q):=by
 refine⟨QR h.1 a.1,?_⟩;rw[Rat.natCast_mul];exact ME (abu h.2 a.1) (Rat.mul_le_mul_of_nonneg_left a.2 (ME h.1 h.2))
theorem jN.add {q:Rat} (h:jN c p) (a:jN d q):jN (c+d) (p+q):=by
 refine⟨Rat.add_nonneg h.1 a.1,?_⟩;rw[Rat.natCast_add];exact ME (Rat.add_le_add_right.2 h.2) (Rat.add_le_add_left.2 a.2)
theorem eL.sum {g:Nat ->Rat}:∀ {k:Nat},(∀x,x< k ->eL D (g x)) ->eL D (bG g k)
 |0,_=>eL.zero D
 |k+1,h=>by rw[bG];exact(eL.sum fun x a=>h x al).add (h k (Nat.lt_succ_self k))
theorem jN.sum {g:Nat ->Rat}:∀ {k:Nat},(∀x,x< k ->jN c (g x)) ->jN (k*c) (bG g k)
 |0,_=>by rw[bG,oN];exact⟨MF,MF⟩
 |k+1,h=>by rw[bG,Nat.succ_mul];exact(jN.sum fun x a=>h x al).add (h k (Nat.lt_succ_self k))
variable {S:Ja}
structure tC (S:Ja) (t:Tb) (D c:Nat):Prop where
 nz:D≠0
 one:1<=c
 isD:∀g,Fit S g ->eL D (tQ S (tN t) g)
 btw:∀g,Fit S g ->jN c (tQ S (tN t) g)
def PD (S:Ja) (P:List Tb) (D c:Nat):Prop:=∀Bb:List Tb ->Nat ->Nat ->Prop,Bb [] 1 1 ->(∀t P D c Bm d,tC S t D c ->Bb P Bm d ->Bb (t::P) (D*Bm) (c*d)) ->Bb P D c
theorem PD.nil:PD S [] 1 1:=fun _ h _=>h
theorem PD.cons {t:Tb} {P:List Tb} (h:tC S t D c) (p:PD S P Bm d):PD S (t::P) (D*Bm) (c*d):=fun Bb b a=>a _ _ _ _ _ _ h (p Bb b a)
theorem PD.ind {Bb:∀P D c,PD S P D c ->Prop} (nil:Bb [] 1 1 .nil) (cons:∀ {t:Tb} {P:List Tb} {D c Bm d:Nat} (h:tC S t D c) (p:PD S P Bm d),Bb P Bm d p ->Bb (t::P) (D*Bm) (c*d) (.cons h p)):∀ {P:List Tb} {D c:Nat} (h:PD S P D c),Bb P D c h:=fun {_ _ _} h=>by
 obtain⟨_,k⟩:=h (fun P D c=>∃h,Bb P D c h) ⟨_,nil⟩ (fun _ _ _ _ _ _ a ⟨_,i⟩=>⟨_,cons a _ i⟩);exact k
theorem PD.nz {P:List Tb} (h:PD S P D c):D≠0/\1<=c:=by
 induction h using PD.ind with
 |nil=>exact⟨a6,a6⟩
 |cons ht _ ih=>exact⟨CJ ht.nz ih.1,kN ht.one ih.2⟩
theorem PD.append {P Q:List Tb} (h:PD S P D c) (q:PD S Q Bm d):PD S (P++Q) (D*Bm) (c*d):=by
 induction h using PD.ind with
 |nil=>rw[k8,k8];exact q
 |cons ht _ ih=>rw[jr,jr];exact PD.cons ht ih
theorem PD.single {t:Tb} (h:tC S t D c):PD S [t] D c:=by
 have:=PD.cons h (PD.nil (S:=S));rwa [qM,qM] at this
theorem PD.parts (p:Tb ->Bool) {P:List Tb} (h:PD S P D c):∃a e b f,PD S (P.filter fun t=>!p t) a e/\PD S (P.filter p) b f/\a*b=D/\e*f=c:=by
 induction h using PD.ind with
 |nil=>exact⟨1,1,1,1,.nil,.nil,rfl,rfl⟩
 | @cons t P D c Bm d ht _ ih=>
  obtain⟨a,e,b,f,g,i,rfl,rfl⟩:=ih;cases hp:p t with
  |false=>
   refine⟨D*a,c*e,b,f,?_,?_,jr ..,jr ..⟩
   ·rw[CP (by simp[hp])];exact .cons ht g
   ·rw[CQ (by simp[hp])];exact i
  |true=>
   refine⟨a,e,D*b,c*f,?_,?_,CL ..,CL ..⟩
   ·rw[CQ (by simp[hp])];exact g
   ·rw[CP hp];exact .cons ht i
theorem PD.prod {P:List Tb} (h:PD S P D c) {g:Nat ->Nat} (a:Fit S g):eL D (pQ S g (P.map tN))/\jN c (pQ S g (P.map tN)):=by
 induction h using PD.ind with
 |nil=>exact⟨eL.one,by rw[oQ,pQ];exact⟨a6,a6⟩⟩
 |cons ht _ ih=>rw[gw,pQ];exact⟨(ht.isD g a).mul ih.1,(ht.btw g a).mul ih.2⟩
theorem PD.all (p:Pos S) {P:List Tb} (o:∀t∈P,dG S n t) (h:PD S P D c):tC S (allT S P) D c:=by
 obtain⟨_,_,b⟩:=Gk p o;exact⟨h.nz.1,h.nz.2,fun g a=>by rw[b g a];exact(h.prod a).1,fun g a=>by rw[b g a];exact(h.prod a).2⟩
theorem tC.o (p:Pos S) {t:Tb} (o:dG S n t) (h:tC S t D c) (v:Nat):tC S (outT S v xd t) D (sz S v*c):=by
 have e:∀g,Fit S g ->tQ S (tN (outT S v xd t)) g=bG (fun x=>tQ S (tN t) (aO g v x)) (sz S v):=fun g a=>WA p (sZ o.up _).nodup (NT o.up v) _ a;refine⟨h.nz,kN (lp p v) h.one,fun g a=>?_,fun g a=>?_⟩
 ·rw[e g a];exact eL.sum fun x b=>h.isD _ (a.with b)
 ·rw[e g a];exact jN.sum fun x b=>h.btw _ (a.with b)
theorem tC.fix (p:Pos S) {t:Tb} (o:dG S n t) (h:tC S t D c) {x:Nat} (b:x<sz S v):tC S (eZ S v x t) D c:=by
 have e:∀g,Fit S g ->tQ S (tN (eZ S v x t)) g=tQ S (tN t) (aO g v x):=fun g a=>Rw p (sZ o.up _).nodup (NT o.up v) _ a;exact⟨h.nz,h.one,fun g a=>by rw[e g a];exact h.isD _ (a.with b),fun g a=>by rw[e g a];exact h.btw _ (a.with b)⟩
theorem PD.o (p:Pos S) {P:List Tb} (e:∀t∈P,dG S n t) (h:PD S P D c) (v:Nat):PD S (rP S v xd P) D (sz S v*c):=by
 obtain⟨g,j,i,k,b,d,rfl,rfl⟩:=h.parts fun t=>decide (v∈af t.1);have a:∀t∈P.filter (fun t=>decide (v∈af t.1)),dG S n t:=fun t f=>e t (dC.1 f).1;have:=b.append (PD.single ((d.all p a).o p (Gk p a).1 v));rw[CL] at this;exact this
theorem PD.fix (p:Pos S) {P:List Tb} (h:PD S P D c) (o:∀t∈P,dG S n t) {x:Nat} (a:x<sz S v):PD S (P.map (eZ S v x)) D c:=by
 induction h using PD.ind with
 |nil=>exact .nil
 |cons ht _ ih=>exact .cons (ht.fix p (o _ dJ) a) (ih fun t h=>o t (dZ _ h))
theorem tC.size {t:Tb} (h:tC S t D c) {g:Nat ->Nat} (a:Fit S g):qw (tQ S (tN t) g)<=2*(B D).size+(B c).size:=(h.isD g a).size h.nz (h.btw g a)
def qA:List Fr ->Nat
 |[]=>1
 |f::l=>(a8 f).den*qA l
theorem LI:∀l,qA l≠0
 |[]=>a6
 |f::l=>CJ (a8 f).den_nz (LI l)
theorem ahK:∀ {l:List Fr} {f:Fr},f∈l ->eL (qA l) (a8 f)
 |g::l,f,h=>by
  rcases bY.1 h with rfl |h
  ·exact(eL.own _).times (a8 f).den_nz (LI l)
  ·rw[qA,eQ];exact(ahK h).times (LI l) (a8 g).den_nz
def dW (R:List (List Fr)):Ja ->Nat
 |[]=>1
 |v::vs=>qA (R.getD v [])*dW R vs
theorem apg (h0:aS V L R=0) (l:v<C V) (b:Fit (ag V) f):a8 (fP V L R f v)<=1:=by
 have n:=row_one h0 l b
 have r:∀ {g:Nat ->Rat} {k x:Nat},x< k ->(∀y,y< k ->0<=g y) ->g x<=bG g k:=fun {g k x} p i=>by
  have Bm:∀j,j<=k ->0<=bG g j:=fun j=>by
   induction j with
   |zero=>intro _;exact MF
   |succ j ih=>intro o;rw[bG];exact Rat.add_nonneg (ih al) (i j al)
  have:∀j,x< j ->j<=k ->g x<=bG g j:=fun j=>by
   induction j with
   |zero=>intro h;omega
   |succ j ih=>
    intro h o;rw[bG];rcases dX x j with m |m
    ·have a:=(Rat.add_le_add_left (c:=bG g j)).2 (i j al);rw[Rat.add_zero] at a;exact ME (ih m al) a
    ·have e:x=j:=al
     have a:=(Rat.add_le_add_right (c:=g j)).2 (Bm j al);rw[Rat.zero_add] at a;rw[e];exact a
  exact this k p (ah _)
 have d:=r (g:=fun x=>a8 (fP V L R (aO f v x) v)) (k:=sz (ag V) v) (b v) fun y q=>X4 h0 l (b.with q);rw[n] at d;simpa only[abY] using d
theorem PD.net (h0:aS V L R=0):∀ {ws:Ja},(∀v∈ws,v<C V) ->PD (ag V) (ws.map fun v=>(gU L v,gL V L R v)) (dW R ws) 1
 |[],_=>.nil
 |v::ws,h=>by
  have b:=h v dJ;have D:=gY h0;have d:v<C L:=by rw[D.len];exact b
  have i:v<C R:=by rw[D.lenR];exact b
  have t:tC (ag V) (gU L v,gL V L R v) (qA (R.getD v [])) 1:=by
   have e:∀g,Fit (ag V) g ->tQ (ag V) (tN (gU L v,gL V L R v)) g=a8 (fP V L R g v):=fun g a=>acg h0 b a;refine⟨LI _,ah _,fun g a=>?_,fun g a=>?_⟩
   ·rw[e g a,fP,aQ];cases hk:(R.getD v [])[sY (ag V) (af (L.getD v [])) g v]? with
    |none=>exact⟨0,by rw[Option.getD_none];show a8 tx=_;rw[show a8 tx=0 from M5 rfl];simp⟩
    |some f=>exact ahK (VS hk)
   ·rw[e g a];exact⟨X4 h0 b a,apg h0 b a⟩
  exact PD.cons t (PD.net h0 fun u c=>h u (dZ _ c))
theorem aag (S:Ja) (v x:Nat) (t:Tb):Low (eZ S v x t).2:=fun f h=>by
 obtain⟨K,_,rfl⟩:=aN.1 h;rw[jC]
theorem ad7 (S:Ja) (v:Nat) (m:Bool) (t:Tb):Low (outT S v m t).2:=fun f h=>by
 obtain⟨K,_,rfl⟩:=aN.1 h;rw[jC]
theorem aq4 (V:List Vr) (L:List Kx) (R:List (List Fr)) (v:Nat):Low (gL V L R v):=fun f h=>by
 obtain⟨K,_,rfl⟩:=aN.1 h;rw[jC]
structure i6 (S:Ja) (n:Nat) (P:List Tb) (D c:Nat):Prop where
 ok:∀t∈P,dG S n t
 pd:PD S P D c
 low:∀t∈P,Low t.2
theorem PD.each {P:List Tb} (h:PD S P D c):∀t∈P,∃Bm d,tC S t Bm d/\Bm<=D/\d<=c:=by
 induction h using PD.ind with
 |nil=>intro t g;cases g
 | @cons t P D c Bm d h1 h2 ih=>
  have n:=h2.nz;have f:=lO n.1;intro u a;rcases bY.1 a with rfl |a
  ·exact⟨D,c,h1,Nat.le_mul_of_pos_right D f,Nat.le_mul_of_pos_right c n.2⟩
  ·obtain⟨b,e,k,i,j⟩:=ih u a;exact⟨b,e,k,aM i (EN Bm (lO h1.nz)),aM j (EN d h1.one)⟩
theorem PD.take {P:List Tb} (h:PD S P D c):∀k,∃Bm d,PD S (P.take k) Bm d/\Bm<=D/\d<=c:=by
 induction h using PD.ind with
 |nil=>intro k;exact⟨1,1,by rw[List.take_nil];exact .nil,ah _,ah _⟩
 | @cons t P D c Bm d h1 h2 ih=>
  have n:=h2.nz;intro k;cases k with
  |zero=>
   exact⟨1,1,.nil,MI (lO h1.nz) (lO n.1),MI h1.one n.2⟩
  |succ k=>
   obtain⟨a,b,e,f,g⟩:=ih k;exact⟨D*a,c*b,.cons h1 e,mK _ f,mK _ g⟩
theorem PD.filter {P:List Tb} (h:PD S P D c) (p:Tb ->Bool):∃Bm d,PD S (P.filter p) Bm d/\Bm<=D/\d<=c:=by
 obtain⟨j,k,b,e,i,a,f,g⟩:=h.parts p;have n:=i.nz;have l:=a.nz;exact⟨b,e,a,by rw[<- f];exact EN _ (lO n.1),by rw[<- g];exact EN _ n.2⟩
theorem acf (p:Pos S) {t:Tb} (i:dG S n t) (o:Low t.2) (h:tC S t Bm d) (j:Bm<=D) (l:d<=c) (s:2*(B D).size+(B c).size+2<=m):Cw m t.2:=fun k a=>by
 have f:k<cnt S (af t.1):=by rw[<- i.len];exact a
 have e:aQ t.2 k=qF (tQ S (tN t) (aX S (af t.1) k)):=by
  rw[mr a];have:=Wy p i o;have b:t.2[k]? =((List.range (cnt S (af t.1))).map fun K=>qF (tQ S (tN t) (aX S (af t.1) K)))[k]?:=by rw[<- this]
  rw[a7 a,k9,MT f] at b;exact jO b
 have hs:=h.size (g:=aX S (af t.1) k) (fun u=>sD p _ k u f);have q:=ku j;have r:=ku l;rw[e];show (nu _).size+(de _).size+2<=m;have v:(nu (tQ S (tN t) (aX S (af t.1) k))).size+(de (tQ S (tN t) (aX S (af t.1) k))).size=qw (tQ S (tN t) (aX S (af t.1) k)):=rfl;omega
theorem i6.cw (p:Pos S) {P:List Tb} (h:i6 S n P D c) (b:2*(B D).size+(B c).size+2<=m):∀t∈P,Cw m t.2:=fun t a=>by
 obtain⟨Bm,d,k,e,f⟩:=h.pd.each t a;exact acf p (h.ok t a) (h.low t a) k e f b
theorem i6.part (p:Pos S) {P:List Tb} (h:i6 S n P D c) (b:2*(B D).size+(B c).size+2<=m) (k:Nat):dG S n (allT S (P.take k))/\Cw m (allT S (P.take k)).2:=by
 obtain⟨Bm,d,f,g,i⟩:=h.pd.take k;have o:∀t∈P.take k,dG S n t:=fun t e=>h.ok t (QW e);have a:=(Gk p o).1;exact⟨a,acf p a (aiA S _) (PD.all p o f) g i b⟩
theorem i6.filter {P:List Tb} (h:i6 S n P D c) (p:Tb ->Bool):∃Bm d,i6 S n (P.filter p) Bm d/\Bm<=D/\d<=c:=by
 obtain⟨Bm,d,k,b,e⟩:=h.pd.filter p;exact⟨Bm,d,⟨fun t a=>h.ok t (dC.1 a).1,k,fun t a=>h.low t (dC.1 a).1⟩,b,e⟩
theorem i6.fix (p:Pos S) {P:List Tb} (h:i6 S n P D c) {x:Nat} (d:x<sz S v):i6 S n (P.map (eZ S v x)) D c:=
 ⟨fun t a=>by
  obtain⟨u,b,rfl⟩:=aN.1 a;exact(h.ok u b).fix v x,h.pd.fix p h.ok d,fun t a=>by
  obtain⟨u,_,rfl⟩:=aN.1 a;exact aag S v x u⟩
theorem anb (p:Pos S) {P:List Tb} (h:∀t∈P,dG S n t) (v:Nat) (m:Bool):∀t∈rP S v m P,dG S n t:=fun t a=>by
 rcases bE.1 a with a |a
 ·exact h t (dC.1 a).1
 ·rw[bA.1 a];exact((Gk p fun u b=>h u (dC.1 b).1).1).o v m
theorem ane {P:List Tb} (h:∀t∈P,Low t.2) (v:Nat) (m:Bool):∀t∈rP S v m P,Low t.2:=fun t a=>by
 rcases bE.1 a with a |a
 ·exact h t (dC.1 a).1
 ·rw[bA.1 a];exact ad7 S v m _
theorem i6.o (p:Pos S) {P:List Tb} (h:i6 S n P D c) (v:Nat):i6 S n (rP S v xd P) D (sz S v*c):=⟨anb p h.ok v xd,h.pd.o p h.ok v,ane h.low v xd⟩
variable {x':wF}
theorem dG.check {t:Tb} (h:dG S (C S) t) (f:fK (iL S)):kX (iL S) t.1 t.2.length=0:=aaH (LP f (by rw[bR];exact h.up)) (by rw[jP];exact h.len)
theorem dG.small {t:Tb} (h:dG S (C S) t) (f:fK (iL S)):t.1.length<=8:=by
 have b:=h.up.length;have a:=f.eight;rw[bR] at a;omega
def Gl (B:Nat) (t:Tb) (e:Ending) (w':E):Prop:=∃x y,e=yW (zp #[zd #[x,y],J I 0])/\bJ w' x y t/\∀R,R< B ->iA R t (x,y)
theorem Av.tb {B:Nat} {t:Tb} {e:Ending} (h:Av B t.1 t.2 0 e w'):Gl B t e w':=by
 obtain⟨b,c,cb,cc,d,f,g,a,i⟩:=h;exact⟨_,_,d,⟨b,c,cb,cc,rfl,rfl,f,g,a.1⟩,fun R j=>iA.new a i j⟩
theorem aeO (a:Kd) (ca:Nat) (S:Ja) (x y x' f:wF) (s t:Tb) (w:E) (R:fK (iL S)) (hs:aB w a (iL S)) (h:bJ w x y s) (k:bJ w x' f t) (o:dG S (C S) s) (m:dG S (C S) t) (q:Cw 100000 s.2) (A:Cw 100000 t.2):
  c6 106 #[Z a (C S) ca,zd #[x,y],zd #[x',f]] w fun e w'=>Gl (O (T w)) (uX S s t) e w'/\da w w':=by
 obtain⟨b,c,cb,cc,rfl,rfl,l,n,p⟩:=h;obtain⟨g,i,Bb,r,rfl,rfl,u,v,z⟩:=k;have j:=R.eight;rw[bR] at j;have D:=o.small R;have Bm:=m.small R;have:=akn a b c g i ca cb cc Bb r (iL S) s.1 t.1 s.2 t.2 w hs l u n v (by rw[bR];omega) al al p z (o.check R) (m.check R) q A;rw[bR,jP] at this;exact this.ae fun e w' d=>⟨Av.tb (t:=uX S s t) d.1,d.2⟩
theorem anD (w:E):bJ (w.alloc (yM #[zZ (aW 1),zK (nu 1),zK (de 1)] 63)) (Z N 0 0) (Z (M ⟨O (T w),0,N⟩) 1 1) Fe:=by
 have e:=dU w (yM #[zZ (aW 1),zK (nu 1),zK (de 1)] 63);refine⟨N,_,0,1,rfl,rfl,(fun k h=>absurd h (by simp[Fe])),fun k h=>?_,fun _=>rfl⟩;obtain rfl:k=0:=by simp[Fe] at h;omega
 exact⟨_,0,rfl,(cS.1 e).1,(ba _ _ 0 _ _ (0,0) e).trans rfl,(ba _ _ 1 _ _ (0,0) e).trans rfl,(ba _ _ 2 _ _ (0,0) e).trans rfl⟩
theorem bJ.putT {V:E} {x u v:wF} {t:Tb} (h:bJ V x y t) (d:aZ V g u v) (e:bV u) (f:bV v) (i:bV x') (a:wF):bJ ((V.setCell ⟨g,0,N⟩ x').setCell ⟨g,1,N⟩ a) x y t:=by
 obtain⟨b,c,cb,cc,j,k,l,m,n⟩:=h;exact⟨b,c,cb,cc,j,k,l.putT d e f i a,m.putT d e f i a,n⟩
theorem bJ.slices {x:wF} {t:Tb} (h:bJ w x y t):bV x/\bV y:=by
 obtain⟨b,c,cb,cc,rfl,rfl,_⟩:=h;exact⟨slv _ _ _,slv _ _ _⟩
theorem aZ.result1 {x:wF} (h:aZ w g x y) {p:Tmp} (r:fn.results= #[.cell p 38]) (m:Array wF) (a:m.getD p wQ=zR (M ⟨g,0,N⟩)):
  (results fn m).run prog w=.ok (zd #[x,y]) w:=Hc r m w g _ _ _ _ a h underlying38 rfl ao
theorem adB (a b:Kd) (ca cb:Nat) (S:Ja) (P:List Tb) (D c:Nat) (w:E) (R:fK (iL S)) (hs:aB w a (iL S)) (hP:jn w b P) (m:i6 S (C S) P D c) (az:C P<=1000) (Bb:2*(B D).size+(B c).size+2<=8192):
  c6 208 #[Z a (C S) ca,Z b (C P) cb] w fun e w'=>∃x y,e=yW (zd #[x,y])/\bJ w' x y (allT S P)/\da w w':=by
 have Bh:Pos S:=by have:=R.pos;rwa [jP] at this
 have tM:wT (∀U:E,c6 88 #[J I 1] U fun e w'=>e=yW (zd #[zZ (aW 1),zK (nu 1),zK (de 1)])/\da U w'):=fun U=>Gd (k:=1) (w:=U) 1 1 rfl a6 rfl
 have GQ:wT (∀(k:Nat) (r:k<C P) (x y x' u:wF) (U:E),da w U ->bJ U x y (allT S (P.take k)) ->bJ U x' u P[k] ->c6 106 #[Z a (C S) ca,zd #[x,y],zd #[x',u]] U fun e w'=>Gl (O (T U)) (allT S (P.take (k+1))) e w'/\da U w'):=fun k r x y x' u U hU h1 h2=>by
  have h3:=m.part Bh Bb k;have h4:=m.cw Bh Bb P[k] (bU r);have e:allT S (P.take (k+1))=uX S (allT S (P.take k)) P[k]:=by rw[allT,gR r,List.foldl_append];rfl
  rw[e];exact aeO a ca S x y x' u _ _ U R (hs.aa hU) h1 h2 h3.1 (m.ok _ (bU r)) (h3.2.up a6) (h4.up a6)
 have HP:=Fa hP;have H0:wT (allT S (P.take 0)=Fe):=rfl;clear hs hP m R Bh Bb;obtain⟨Ba,K⟩:∃Ba:Nat ->Tb,∀k,allT S (P.take k)=Ba k:=⟨fun k=>allT S (P.take k),fun _=>rfl⟩;have sI:wT (Ba (C P)=allT S P):=by show _=_;rw[<- K,iD]
 simp only[K] at GQ H0;clear K;go_enter func208,ntmps208;go_wp2_with fail
 have X:=(au (O (T w)) w).alloc (ah _) (TC (Z N 0 0) (Z N 0 0));have L:=aZ.at (w:=w) rfl (Z N 0 0) (Z N 0 0);refine(tM.o _).ae ?_;rintro e d ⟨rfl,ad⟩;have ab:=X.trans (ad.ae X.size);have F:=L.aa ad L.lt;have Y:=ab.alloc ab.size (yM #[zZ (aW 1),zK (nu 1),zK (de 1)] 63);have wN:=anD d;have an:O (T (d.alloc (yM #[zZ (aW 1),zK (nu 1),zK (de 1)] 63)))=O (T d)+1:=aE
 have B9:=F.alloc (yM #[zZ (aW 1),zK (nu 1),zK (de 1)] 63);have oA:=Y.alloc Y.size (TC (Z N 0 0) (Z (M ⟨O (T d),0,N⟩) 1 1));have ZE:=B9.alloc (TC (Z N 0 0) (Z (M ⟨O (T d),0,N⟩) 1 1));have F2:=aZ.at (w:=d.alloc (yM #[zZ (aW 1),zK (nu 1),zK (de 1)] 63)) an (Z N 0 0) (Z (M ⟨O (T d),0,N⟩) 1 1);have ak:=wN.aa ((au _ _).alloc (ah _) (TC (Z N 0 0) (Z (M ⟨O (T d),0,N⟩) 1 1)));have ay:=F.lt;have A:=Fa oA;have yN:=Fa ZE;have Eg:=Fa F2;have UW:=Fa ak;clear X L ad ab F Y wN an B9 oA ZE F2 ak;go_wp2_with fail
 go_loopw [13] (fun iv wr=>∃(i:Nat) (x y:wF),i<=C P/\iv=J I i/\wT (aZ wr (O (T d)+1) x y)/\wT (bJ wr x y (Ba i))/\wT (aZ wr (O (T w)) (Z N 0 0) (Z N 0 0))/\wT (da w wr)) (fun iv _=>C P - (intOf iv).toNat)
 case atStart=>exact⟨0,_,_,aV _,rfl,Eg,by rw[H0.o];exact UW,yN,A⟩
 case round=>
  obtain⟨i,x,y,hi,rfl,HX,V,l,H⟩:=hrel;clear Eg UW yN A;obtain⟨aj,ai⟩:=V.o.slices;obtain⟨x0,x1,J6,J5⟩:=HX.o.facts;by_cases ao:i<C P
  ·obtain⟨g,ax,p,q,rfl,hg,k0,k1,B7⟩:=(HP.o.aa H.o) i ao;have o:=(au (O (T wr)) wr).alloc (ah _) (TC p q);have Bj:=Fa (H.o.trans (o.ae H.o.size));have Q:=Fa (HX.o.alloc (TC p q));have tG:=Fa (l.o.alloc (TC p q));have Bm:=aZ.at (w:=wr) rfl p q;obtain⟨aq,av,_,_⟩:=Q.o.facts;have b0:=Bm.c0;have b1:=Bm.c1;have HM:=Fa (GQ.o i ao x y p q _ Bj.o (V.o.aa o) (B7.aa o));obtain⟨ps,pn,pc,rfl⟩:=B7.slices.1;obtain⟨qs,qn,qc,rfl⟩:=B7.slices.2;clear B7 o Bm x0 x1 J6 J5;go_wp2_with fail
   refine HM.o.ae ?_;rintro e w3 ⟨⟨x2,y2,rfl,z,_⟩,v⟩;have t:=Q.o.aa v Q.o.lt;have B9:=tG.o.aa v tG.o.lt;have dm:=Bj.o.trans (v.ae Bj.o.size);obtain⟨c0,c1,f0,f1⟩:=t.facts;obtain⟨xs,n,f,rfl⟩:=z.slices.1;obtain⟨s,j,h,rfl⟩:=z.slices.2;have yL:=Fa (t.put (Z xs n f) (Z s j h));have UI:=Fa (z.putT t aj ai (slv xs n f) (Z s j h));have Gu:wT (aZ ((w3.setCell ⟨O (T d)+1,0,N⟩ (Z xs n f)).setCell ⟨O (T d)+1,1,N⟩ (Z s j h)) (O (T w)) (Z N 0 0) (Z N 0 0)):=(B9.off _ _ _ al).off _ _ _ al;have fp:=Fa (uF (g:=O (T d)+1) dm al (Z xs n f) (Z s j h));clear z v t B9 dm HM aq av b0 b1 k0 k1;go_wp2;go_roundw
   case rel=>exact⟨i+1,_,_,al,bd,yL,UI,Gu,fp⟩
   case measure=>simp[intOf];omega
  ·obtain rfl:i=C P:=al
   rw[sI.o] at V;obtain⟨t0,t1,f0,f1⟩:=l.o.facts;obtain⟨xs,n,f,rfl⟩:=aj;obtain⟨s,j,h,rfl⟩:=ai;have Ev:=Fa (l.o.put (Z xs n f) (Z s j h));have Ej:=Fa (V.o.putT l.o (slv _ _ _) (slv _ _ _) (slv xs n f) (Z s j h));have A:=Fa (uF H.o (ah _) (Z xs n f) (Z s j h));go_wp2;refine dI (Ev.o.result1 rfl _ rfl) rfl ?_;exact⟨_,_,rfl,Ej.o,A.o⟩
open Go.Sort
variable {z:wF}
def PlC (x y z:wF):Obj:=yM #[x,y,z] 177
def cI (w:E) (g:Nat) (x y z:wF):Prop:=w.heap[g]? =M (yM #[x,y,z] 177 (0,0))
theorem cI.at (h:O (T w)=g) (x y z:wF):cI (w.alloc (PlC x y z)) g x y z:=by subst h;exact dU w _
theorem cI.lt {x:wF} (h:cI w g x y z):g<O (T w):=(cS.1 h).1
theorem cI.aa {b:Nat} {x:wF} (h:cI w g x y z) (a:Below b w w') (c:g<b):cI w' g x y z:=(a.block g c).trans h
theorem cI.alloc {x:wF} (h:cI w g x y z) (o:Obj):cI (w.alloc o) g x y z:=(uP w o g h.lt).trans h
theorem cI.cells {x:wF} (h:cI w g x y z):w.cell? ⟨g,0,N⟩=M x/\w.cell? ⟨g,1,N⟩=M y/\w.cell? ⟨g,2,N⟩=M z:=
 ⟨by rw[ba w g 0 _ _ (0,0) h];rfl,by rw[ba w g 1 _ _ (0,0) h];rfl,by rw[ba w g 2 _ _ (0,0) h];rfl⟩
theorem cI.fz {x:wF} (h:cI w g x y z) (j:Nat):w.frozen? ⟨g,j,N⟩=false:=gj w g j _ _ h
theorem cI.set0 {x:wF} (h:cI w g x y z) (u:wF):cI (w.setCell ⟨g,0,N⟩ u) g u y z:=jW w g 0 _ _ u h
theorem cI.set1 {x:wF} (h:cI w g x y z) (u:wF):cI (w.setCell ⟨g,1,N⟩ u) g x u z:=jW w g 1 _ _ u h
theorem cI.set2 {x:wF} (h:cI w g x y z) (u:wF):cI (w.setCell ⟨g,2,N⟩ u) g x y u:=jW w g 2 _ _ u h
theorem cI.put {x:wF} (h:cI w g x y z) (u v s:wF):cI (((w.setCell ⟨g,0,N⟩ u).setCell ⟨g,1,N⟩ v).setCell ⟨g,2,N⟩ s) g u v s:=((h.set0 u).set1 v).set2 s
theorem cI.result1 {x:wF} (h:cI w g x y z) {p:Tmp} (r:fn.results= #[.cell p 177]) (m:Array wF) (a:m.getD p wQ=zR (M ⟨g,0,N⟩)):
  (results fn m).run prog w=.ok (zd #[x,y,z]) w:=Hc r m w g _ _ _ _ a h underlying177 rfl ao
theorem adL (u v:Int) (B:Nat) (W:E) (c:W.cell? ⟨B,0,N⟩=M (J I v)):
  FnGives prog 259 #[zR (M ⟨B,0,N⟩)] #[J I u] (zZ (u==v)) W:=by
 show c6 259 #[J I u,zR (M ⟨B,0,N⟩)] W _;go_enter func259,ntmps259;go_wp2
 all_goals (go_ret;exact⟨by simp_all,0,rfl⟩)
theorem amC (v:Int) (B:Nat) (w:E) (h:B<O (T w)) (c:w.cell? ⟨B,0,N⟩=M (J I v)):
  PredAt prog 259 #[zR (M ⟨B,0,N⟩)] (Value.int I) (fun u=>u==v) w:=
 fun W x b=>adL x v B W ((b.cell (p:=⟨B,0,N⟩) h).trans c)
theorem amB (v:Int) (B b f i:Nat) (w:E) (h:B<O (T w)) (e:B≠b) (c:w.cell? ⟨B,0,N⟩=M (J I v)):
  PredOver prog 259 #[zR (M ⟨B,0,N⟩)] (Value.int I) (fun u=>u==v) b f i w:=
 fun n o d x _=>adL x v B _ (by
  unfold sortWorld;rw[cell?_grow _ _ _ (by show B<O (T (putRow _ _ _ _ _));rw[size_putRow];exact h),cell?_putRow_other _ _ b f _ _ (Or.inl e)];exact c)
theorem adN (x z:wF) (b:Kd) (cb:Nat) (f:Kx) (v:Int) (w:E) (hx:bV x) (hz:bV z) (h:aB w b f) (hn:C f<=1000):
  c6 206 #[zd #[x,Z b (C f) cb,z],J I v] w fun e w'=>∃d cd,e=yW (zd #[x,Z d (C (cH f v)) cd,Z N 0 0])/\aB w' d (cH f v)/\i7 (O (T w)) d cd/\da w w':=by
 obtain⟨a,i,c,rfl⟩:=hx;obtain⟨l,p,m,rfl⟩:=hz;have HV:=Fa h;obtain⟨L,Ba⟩:∃L,cH f v=L:=⟨_,rfl⟩;rw[Ba];have S:=Fa Ba;clear h Ba;go_enter func206,ntmps206;go_wp2_with fail
 have H:da w (((w.alloc (yM #[Z a i c,Z b (C f) cb,Z l p m] 177)).alloc (yM #[J I v] 3)).alloc (yM #[Z N 0 0,Z N 0 0,Z N 0 0] 177)):=by
  have t:=(au (O (T w)) w).alloc (ah _) (yM #[Z a i c,Z b (C f) cb,Z l p m] 177);have h2:=t.alloc t.size (yM #[J I v] 3);exact h2.alloc h2.size _
 have P:cI (((w.alloc (yM #[Z a i c,Z b (C f) cb,Z l p m] 177)).alloc (yM #[J I v] 3)).alloc (yM #[Z N 0 0,Z N 0 0,Z N 0 0] 177)) (O (T w)) (Z a i c) (Z b (C f) cb) (Z l p m):=((cI.at (w:=w) rfl _ _ _).alloc _).alloc _
 have an:Boxed (((w.alloc (yM #[Z a i c,Z b (C f) cb,Z l p m] 177)).alloc (yM #[J I v] 3)).alloc (yM #[Z N 0 0,Z N 0 0,Z N 0 0] 177)) (O (T w)+1) 3 (J I v):=by
  have:=(bF (w.alloc (yM #[Z a i c,Z b (C f) cb,Z l p m] 177)) 3 (J I v)).alloc (yM #[Z N 0 0,Z N 0 0,Z N 0 0] 177);rwa [eV] at this
 have V:cI (((w.alloc (yM #[Z a i c,Z b (C f) cb,Z l p m] 177)).alloc (yM #[J I v] 3)).alloc (yM #[Z N 0 0,Z N 0 0,Z N 0 0] 177)) (O (T w)+1+1) (Z N 0 0) (Z N 0 0) (Z N 0 0):=cI.at (w:=(w.alloc (yM #[Z a i c,Z b (C f) cb,Z l p m] 177)).alloc (yM #[J I v] 3)) aE _ _ _;generalize (((w.alloc (yM #[Z a i c,Z b (C f) cb,Z l p m] 177)).alloc (yM #[J I v] 3)).alloc (yM #[Z N 0 0,Z N 0 0,Z N 0 0] 177))=W at *;refine(Kl b cb f _ (HV.o.aa H) al).ae ?_;rintro e A ⟨x,rfl,hr,s⟩;have K:=bI an s;have Bj:=P.aa s P.lt;have F:=V.aa s V.lt;have Bm:=H.trans (s.ae H.size);have ay:=V.lt;have az:=s.size;clear an P V H s;rcases hr.cases with ⟨rfl,rfl⟩ |⟨g,cap,rfl,ax,hg,aj,aq,U⟩
 ·go_wp2_with fail
  refine(WN _ _).ae ?_;rintro e q ⟨rfl,B7⟩;have B9:=Bj.aa B7 Bj.lt;have R:=F.aa B7 F.lt;have D:=Bm.trans (B7.ae Bm.size);have DT:L=[]:=S.o.symm;subst DT;obtain⟨p0,p1,p2⟩:=B9.cells;obtain⟨r0,r1,r2⟩:=R.cells;have r:=R.fz;have RN:=r 0;have RM:=r 1;have RL:=r 2;have Q:=Fa (R.put (Z a i c) (Z N 0 0) (Z N 0 0));have Y:=Fa (eT D (show O (T w)<=O (T w)+1+1 by omega) (Z a i c) (Z N 0 0) (Z N 0 0));clear r B9 R D;go_wp2;refine dI (Q.o.result1 rfl _ rfl) rfl ?_;exact⟨N,0,rfl,fun k X=>absurd X aE,i7.nil _,Y.o⟩
 ·have Bb:=Tryz.slices_DeleteFunc (Value.int I) (fun _=>rfl) (fun u=>u==v) 259 #[zR (M ⟨O (T w)+1,0,N⟩)] (enters_of func259 ao rfl) 0 Tryz.zeroValue3 g 0 cap f.toArray A (amC v _ _ K.lt K.cell) (amB v _ g 0 _ _ K.lt al K.cell) U (by simp;omega) (by simpa using aj);have ak:f.toArray.size=C f:=aE
  rw[ak] at Bb;have mh:f.toArray.toList.filter (fun x=>!(x==v))=cH f v:=by simp[cH]
  rw[mh,S.o] at Bb;have dO:C L<=C f:=by rw[<- S.o];exact oT _ _
  have EE:=Fa Bb;have HH:=Fa U;have kj:=Fa dO;clear Bb U hr ak mh aj aq dO;go_wp2_with fail
  refine EE.o.ae ?_;rintro e q ⟨rfl,ad,Bh⟩
  have yj:(L++List.replicate (C f - C L) 0).toArray.size=f.toArray.size:=by
   have:=kj.o;simp;omega
  have ai:aB q (M ⟨g,0,N⟩) L:=by
   rw[Bh];exact Dt (holds_putRow (Value.int I) (Sort.ahead A ad) g 0 f.toArray _ HH.o yj) (by rw[size_putRow];exact hg) (fun j hj=>⟨by simp;omega,by simp[nU,hj]⟩)
  have ab:∀k,k<O (T A) ->k≠g ->q.heap[k]? =A.heap[k]?:=fun k X av=>by
   rw[Bh];have t:=MB (w:=A) (g:=g) (n:=ad) (os:= #[]) ((L++List.replicate (C f - C L) 0).toArray);rw[grow_empty] at t;exact t.block k X (fun e=>av (jO e))
  have B9:cI q (O (T w)) (Z a i c) (Z b (C f) cb) (Z l p m):=(ab _ Bj.lt al).trans Bj;have R:cI q (O (T w)+1+1) (Z N 0 0) (Z N 0 0) (Z N 0 0):=(ab _ F.lt al).trans F;have D:da w q:=by rw[Bh];exact Us _ Bm Bm.size al
  obtain⟨p0,p1,p2⟩:=B9.cells;obtain⟨r0,r1,r2⟩:=R.cells;have r:=R.fz;have RN:=r 0;have RM:=r 1;have RL:=r 2;have Q:=Fa (R.put (Z a i c) (Z (M ⟨g,0,N⟩) (C L) cap) (Z N 0 0));have Y:=Fa (eT D (show O (T w)<=O (T w)+1+1 by omega) (Z a i c) (Z (M ⟨g,0,N⟩) (C L) cap) (Z N 0 0));have U8:=Fa (((ai.off (g:=O (T w)+1+1) (j:=0) (y:=Z a i c) (fun g' o' e _=>by cases e;omega)).off (g:=O (T w)+1+1) (j:=1) (y:=Z (M ⟨g,0,N⟩) (C L) cap) (fun g' o' e _=>by cases e;omega)).off (g:=O (T w)+1+1) (j:=2) (y:=Z N 0 0) (fun g' o' e _=>by cases e;omega));clear r B9 R D ai ab yj Bh;go_wp2;refine dI (Q.o.result1 rfl _ rfl) rfl ?_;exact⟨M ⟨g,0,N⟩,cap,rfl,U8.o,i7.at al,Y.o⟩
variable {F:List (Int×Int)}
def kn (w:E) (a:Kd) (F:List (Int×Int)):Prop:=∀k (h:k<C F),∃g o,a=M ⟨g,o,N⟩/\g<O (T w)/\w.cell? ⟨g,o+k*2,N⟩=M (J I F[k].1)/\w.cell? ⟨g,o+k*2+1,N⟩=M (J I F[k].2)
theorem kn.aa (h:kn w a F) (c:da w w'):kn w' a F:=fun k i=>by
 obtain⟨g,o,d,b,e,f⟩:=h k i;exact⟨g,o,d,aT b c.size,(c.cell (p:=⟨g,_,N⟩) b).trans e,(c.cell (p:=⟨g,_,N⟩) b).trans f⟩
theorem kn.take (h:kn w a F) (i:Nat):kn w a (F.take i):=fun k j=>by
 have c:k<C F:=by rw[fh] at j;omega
 obtain⟨g,o,b,d,e,f⟩:=h k c;rw[xO];exact⟨g,o,b,d,e,f⟩
theorem apG (a:Kd) (ca f:Nat) (lb:Array wF) (F:List (Int×Int)) (p:Int×Int ->Bool) (w:E) (h:kn w a F) (Bb:C F<=1000) (K:∀x w,(callFunc f x).run prog w=.ok (.enter f x) w)
  (u:∀q∈F,∀U:E,da w U ->c6 f (#[zd #[J I q.1,J I q.2]]++lb) U fun e w'=>e=yW (zZ (p q))/\da U w'):
  c6 153 #[Z a (C F) ca,.func (.func f) #[] lb] w fun e w'=>∃j:Int,e=yW (J I j)/\decide (0<=j)=F.any p/\da w w':=by
 have y:=Fa h;have P:=Fa u
 have A:wT ((∀i (c:i<C F),p F[i]=xd) ->F.any p=xd):=fun d=>JX.2 fun q z=>by
  obtain⟨i,c,rfl⟩:=iE z;rw[d i c];decide
 have Bj:wT (∀i (c:i<C F),p F[i]=y6 ->F.any p=y6):=fun i c d=>rF.2 ⟨_,bU c,d⟩;clear h u;generalize F.any p=R at *;go_enter func153,ntmps153;go_wp2_with fail
 go_loopw [8] (fun iv wr=>∃i:Nat,i<=C F/\iv=J I i/\wT (∀j (b:j<C F),j< i ->p F[j]=xd)/\wT (da w wr)) (fun iv _=>C F - (intOf iv).toNat)
 case atStart=>exact⟨0,aV _,rfl,(fun j _ b=>absurd b al),au _ _⟩
 case round=>
  obtain⟨i,c,rfl,m,H⟩:=hrel;by_cases l:i<C F
  ·obtain⟨g,o,rfl,t,n,r⟩:=y.o i l;have B9:=(H.o.cell (p:=⟨g,_,N⟩) t).trans n;have Q:=(H.o.cell (p:=⟨g,_,N⟩) t).trans r;have k:=Fa (P.o F[i] (bU l) wr H.o);have Bh:=Fa (Bj.o i l)
   have D:wT (p F[i]=xd ->∀j (b:j<C F),j<i+1 ->p F[j]=xd):=fun e j b Ba=>by
    rcases dX j i with s |s
    ·exact m.o j b s
    ·obtain rfl:j=i:=al
     exact e
   clear n r;generalize p F[i]=q at *;generalize F[i].1=f1 at *;generalize F[i].2=L at *;go_wp2_with fail
   refine k.o.ae ?_;rintro e S ⟨rfl,v⟩;have Y:=Fa (H.o.trans (v.ae H.o.size));clear v k;cases q with
   |true=>
    have Bm:=Fa (Bh.o rfl);go_wp2;go_ret;exact⟨(i:Nat),rfl,by rw[Bm.o];simp,Y.o⟩
   |false=>
    have Bm:=Fa (D.o rfl);go_wp2;go_roundw
    case rel=>exact⟨i+1,al,bd,Bm,Y⟩
    case measure=>simp[intOf];omega
  ·obtain rfl:i=C F:=al
   have Bm:=Fa (A.o fun j b=>m.o j b b);go_wp2;go_ret;exact⟨-1,rfl,by rw[Bm.o];rfl,H.o⟩
theorem ahX (a:Kd) (ca f:Nat) (lb:Array wF) (F:List (Int×Int)) (p:Int×Int ->Bool) (w:E) (h:kn w a F) (n:C F<=1000) (i:∀g w,(callFunc f g).run prog w=.ok (.enter f g) w)
  (c:∀q∈F,∀U:E,da w U ->c6 f (#[zd #[J I q.1,J I q.2]]++lb) U fun e w'=>e=yW (zZ (p q))/\da U w'):
  c6 96 #[Z a (C F) ca,.func (.func f) #[] lb] w (dj w (zZ (F.any p))):=by
 have Bj:=Fa (apG a ca f lb F p w h n i c);clear h c;generalize F.any p=R at *;go_enter func96,ntmps96;go_wp2_with fail
 refine Bj.o.ae ?_;rintro e k ⟨j,rfl,b,d⟩;have H:=Fa d;have Bh:=Fa b;clear d b;go_wp2;go_ret;exact⟨by rw[<- Bh.o];rfl,H.o⟩
theorem apy (q:Int×Int) (v:Int) (B:Nat) (w:E) (h:B<O (T w)) (c:w.cell? ⟨B,0,N⟩=M (J I v)):
  c6 137 #[zd #[J I q.1,J I q.2],zR (M ⟨B,0,N⟩)] w (dj w (zZ (q.1==v))):=by
 obtain⟨a,b⟩:=q;have A:=Fa ((au (O (T w)) w).alloc (ah _) (yM #[J I a,J I b] 30));have d:=(A.o.cell (p:=⟨B,0,N⟩) h).trans c;show c6 137 #[zd #[J I a,J I b],zR (M ⟨B,0,N⟩)] w fun e w'=>e=yW (zZ (a==v))/\da w w';clear c;go_enter func137,ntmps137;go_wp2
 all_goals (go_ret;exact⟨by simp_all,A.o⟩)
theorem Ye (a:Kd) (ca:Nat) (F:List (Int×Int)) (v:Int) (w:E) (h:kn w a F) (n:C F<=1000):
  c6 82 #[Z a (C F) ca,J I v] w (dj w (zZ (F.any fun p=>p.1==v))):=by
 have A:=(au (O (T w)) w).alloc (ah _) (yM #[J I v] 3);have x:=bF w 3 (J I v);have f:=Fa (ahX a ca 137 #[zR (M ⟨O (T w),0,N⟩)] F (fun p=>p.1==v) _ (h.aa A) n (enters_of func137 ao rfl) (fun q _ U b=>apy q v (O (T w)) U (aT x.lt b.size) ((b.cell (p:=⟨O (T w),0,N⟩) x.lt).trans x.cell)));have H:=Fa A;clear h A x;generalize (F.any fun p=>p.1==v)=R at *;go_enter func82,ntmps82;go_wp2_with fail
 refine f.o.ae ?_;rintro e g ⟨rfl,c⟩;have d:=Fa (H.o.trans (c.ae H.o.size));clear c;go_wp2;go_ret;exact⟨rfl,d.o⟩
variable {tv u1 u2:wF}
theorem Z9 (W:E) (b:Option Nat):W.grownBy W b:=World.grownBy.refl _ _
theorem aaa {W V:E} {b:Option Nat} (h:W.grownBy V b) (a:da V V'):W.grownBy V' b:=
 ⟨a.os.trans h.os,a.tape.trans h.tape,a.output.trans h.output,aM h.size a.size,fun k c e=>(a.block k (aT c h.size)).trans (h.block k c e)⟩
theorem Pk {W V:E} {b r:Option Nat} (h:W.grownBy V b) (g:V.grownBy V' r) (c:∀k,r=M k ->O (T W)<=k):W.grownBy V' b:=
 ⟨g.os.trans h.os,g.tape.trans h.tape,g.output.trans h.output,aM h.size g.size,fun k a n=>(g.block k (aT a h.size) fun e=>by have:=c k e.symm;omega).trans (h.block k a n)⟩
theorem TQ {W V:E} {b:Nat} (h:W.grownBy V (M b)) (j:Nat) (y:wF):W.grownBy (V.setCell ⟨b,j,N⟩ y) (M b):=by
 have a:=(au 0 V).setCell (p:=⟨b,j,N⟩) (aV _) y;exact⟨a.os.trans h.os,a.tape.trans h.tape,a.output.trans h.output,aM h.size a.size,fun k c n=>(eW V ⟨b,j,N⟩ y k (fun e=>n (by rw[e]))).trans (h.block k c n)⟩
theorem Pj {W V:E} {b B:Nat} (d:Below B w W) (h:W.grownBy V (M b)) (c:B<=b) (a:B<=O (T W)):Below B w V:=d.grown h a (fun k e=>by cases e;exact c)
theorem dH.off {d:Kd} {l:List Fr} (h:dH w d l) (p:∀g' o',d=M ⟨g',o',N⟩ ->l≠[] ->g'≠g):dH (w.setCell ⟨g,j,N⟩ y) d l:=fun k c=>by
 obtain⟨g',o',e,n,f,i,m⟩:=h k c;have o:=p g' o' e (fun e=>by rw[e] at c;exact absurd c aE);have b:(w.setCell ⟨g,j,N⟩ y).heap[g']? =w.heap[g']?:=eW w ⟨g,j,N⟩ y g' o;exact⟨g',o',e,aT n (jJ w _ _).size,(iM (a:=⟨g',_,N⟩) b).trans f,(iM (a:=⟨g',_,N⟩) b).trans i,(iM (a:=⟨g',_,N⟩) b).trans m⟩
theorem bJ.off {x:wF} {t:Tb} (h:bJ w x y t) (u:wF) (a:iA g t (x,y)):bJ (w.setCell ⟨g,j,N⟩ u) x y t:=by
 obtain⟨b,c,cb,cc,rfl,rfl,d,f,i⟩:=h;exact⟨b,c,cb,cc,rfl,rfl,d.off (fun g' o' e n=>a.1 g' o' _ _ (by rw[e]) n),f.off (fun g' o' e n=>a.2 g' o' _ _ (by rw[e]) n),i⟩
theorem nI.off {B:Nat} {v:wF} {Q:List (wF×wF)} {P:List Tb} (h:nI w B v Q P) (u:wF) (f:∀k (h:k<C P) (c:k<C Q),iA g P[k] Q[k]) (e:v.ownBlock≠M g):nI (w.setCell ⟨g,j,N⟩ u) B v Q P:=
 ⟨h.len,QM h.own e u,fun k a b=>(h.val k a b).off u (f k a b),h.far⟩
theorem Xn {B:Nat} {e:TypeId} {s:Nat} (h:w.ownsRow B e s (Z a m c) n xs):i7 B a c:=by
 rcases h.2 with ⟨b,d⟩ |⟨g,cap,r,b,d,_⟩
 ·injection b with h3 h4 h5;subst h3 h5;exact i7.nil B
 ·injection b with h3 h4 h5;subst h3;exact i7.at d
theorem Rg {o:Oper} {a:Act} (q:o.guard=N) (s x:Operand)
  (e:o.op=.call {callee:=.builtin .append,args:= #[s,x],argTypes:= #[175,175]}) (base:Nat) (v:wF) (n:Nat) (xs:List wF) (u1 u2:wF) (hs:a.eval s=v) (Bm:w.ownsRow base 38 2 v n xs) (g:Nat) (f:a.eval x=Z (M ⟨g,0,N⟩) 1 1) (h0:w.cell? ⟨g,0,N⟩=M u1) (h1:w.cell? ⟨g,1,N⟩=M u2) (t:bV u1) (y:bV u2) (H:n+1<=100000) (F:base<=O (T w))
  (h:∀v' w',w'.ownsRow base 38 2 v' (n+1) (xs++[u1,u2]) ->w.grownBy w' v.ownBlock ->(v'.ownBlock=v.ownBlock∨∀k,v'.ownBlock=M k ->O (T w)<=k) ->wpList prog ops Q rest (a.put o.dst v') w'):wpList prog ops Q (o::rest) a w:=by
 obtain⟨i,d,z,A,D⟩:=eC Tryz.infoTable
 obtain⟨v',w',r,l,m,p⟩:=WT (P:=prog) w base 175 o.type 38 i (zd #[Z N 0 0,Z N 0 0]) 2 48 underlying175 d z A D rfl a6 v n xs Bm ⟨g,0,N⟩ 1 1 [u1,u2] rfl (fun j u b=>by
  match j,b with
  |0,b=>cases b;exact h0
  |1,b=>cases b;exact h1
  |j+2,b=>simp at b) (fun u c=>by
  simp only[bY,gK,jq] at c;rcases c with rfl |rfl
  ·obtain⟨_,_,_,rfl⟩:=t;rfl
  ·obtain⟨_,_,_,rfl⟩:=y;rfl) (by unfold maxLen;omega) al F a6
 refine wpList_plain q fun _ K=>?_;unfold Oper.wp execOp;simp only[e,resolve,invoke,builtin,JQ,zi,vZ,JS,gw,oQ,hs,f,r];exact K _ _ (h v' w' l m p)
structure vK (lo:Nat) (W:E) (b:Nat) (x y:wF) (tv:wF) (Q:List (wF×wF)) (P:List Tb) (V:E):Prop where
 box:cI V b x y tv
 own:nI V (O (T W)) tv Q P
 far:∀R,lo<=R ->R<=b ->∀k (h:k<C P) (h':k<C Q),iA R P[k] Q[k]
 fr:W.grownBy V (M b)
theorem vK.start {W:E} {b:Nat} {x:wF} (h:cI W b x y (Z N 0 0)):vK lo W b x y (Z N 0 0) [] [] W:=⟨h,nI.nil _ _,(fun R _ _ k h=>absurd h aE),Z9 _ _⟩
theorem vK.under {W V:E} {b:Nat} {x:wF} {Q:List (wF×wF)} {P:List Tb} (h:vK lo W b x y tv Q P V) (a:da V V'):vK lo W b x y tv Q P V':=⟨h.box.aa a h.box.lt,h.own.under a,h.far,aaa h.fr a⟩
theorem vK.push {W V:E} {b:Nat} {x X:wF} {Q:List (wF×wF)} {P:List Tb} {t:Tb} (h:vK lo W b x y tv Q P V) (s:lo<=b) (u:b<O (T W)) (q:bJ V u1 u2 t) (m:∀R,tv.ownBlock=M R ->iA R t (u1,u2)) (r:∀R,lo<=R ->R<=b ->iA R t (u1,u2)) (o:V'.ownsRow (O (T W)) 38 2 X (C P+1) (fV Q++[u1,u2])) (g:V.grownBy V' tv.ownBlock) (n:X.ownBlock=tv.ownBlock∨∀k,X.ownBlock=M k ->O (T V)<=k):
  vK lo W b x y X (Q++[(u1,u2)]) (P++[t]) (V'.setCell ⟨b,2,N⟩ X):=by
 have a:∀k,tv.ownBlock=M k ->O (T W)<=k:=fun k e=>(h.own.lt k e).1;have B9:=h.own.push q m o g n;have l:cI V' b x y tv:=(g.block b h.box.lt (fun e=>by have:=a b e.symm;omega)).trans h.box
 have p:∀R,lo<=R ->R<=b ->∀k (f:k<C (P++[t])) (j:k<C (Q++[(u1,u2)])),iA R (P++[t])[k] (Q++[(u1,u2)])[k]:=fun R Bj c k f j=>by
  by_cases d:k<C P
  ·have i:k<C Q:=by rw[h.own.len];exact d
   rw[nU i,nU d];exact h.far R Bj c k d i
  ·have i:¬k<C Q:=by rw[h.own.len];exact d
   rw[tX al,tX al];simp only[QZ];exact r R Bj c
 refine⟨l.set2 X,B9.off _ (p b s (ah _)) (fun e=>?_),p,TQ (Pk h.fr g a) _ _⟩;have:=(B9.lt b e).1;omega
theorem ahd (a:Kd) (ca:Nat) (S:Ja) (x y:wF) (t:Tb) (v z:Nat) (w:E) (R:fK (iL S)) (hs:aB w a (iL S)) (h:bJ w x y t) (o:dG S (C S) t) (k:Cw 100000 t.2) (j:v<C S) (l:z<sz S v):
  c6 117 #[Z a (C S) ca,zd #[x,y],J I (v:Nat),J I (z:Nat)] w fun e w'=>Gl (O (T w)) (eZ S v z t) e w'/\da w w':=by
 obtain⟨b,c,cb,cc,rfl,rfl,g,i,n⟩:=h;have f:=R.eight;rw[bR] at f;have m:=o.small R;have:=aks a b c ca cb cc (iL S) t.1 t.2 v z w hs g i (by rw[bR];omega) al (o.check R) k (by rw[bR];exact j) (by rw[jP];exact l);rw[bR,jP] at this;exact this.ae fun e w' d=>⟨Av.tb (t:=eZ S v z t) d.1,d.2⟩
theorem amN (a b t:Kd) (ca cb Bm:Nat) (S:Ja) (f:Kx) (P:List Tb) (D c v z:Nat) (w:E) (aR:fK (iL S)) (hs:aB w a (iL S)) (hb:aB w b f) (hP:jn w t P) (bD:i6 S (C S) P D c) (bf:C P<=1000) (mh:C f<=1000) (hm:2*(B D).size+(B c).size+2<=8192) (hv:v<C S) (hz:z<sz S v):
  c6 151 #[zd #[Z a (C S) ca,Z b (C f) cb,Z t (C P) Bm],zd #[J I (v:Nat),J I (z:Nat)]] w fun e w'=>∃d h t' gO,e=yW (zd #[Z a (C S) ca,Z d (C (cH f v)) h,Z t' (C P) gO])/\aB w' d (cH f v)/\jn w' t' (P.map (eZ S v z))/\i7 (O (T w)) t' gO/\da w w':=by
 have fH:Pos S:=by have:=aR.pos;rwa [jP] at this
 have lJ:=Fa (fun (U:E) (hU:da w U)=>adN (Z a (C S) ca) (Z t (C P) Bm) b cb f (v:Int) U (slv _ _ _) (slv _ _ _) (hb.aa hU) mh);have tP:wT (∀(k:Nat) (B9:k<C P) (x y:wF) (U:E),da w U ->bJ U x y P[k] ->c6 117 #[Z a (C S) ca,zd #[x,y],J I (v:Nat),J I (z:Nat)] U fun e w'=>Gl (O (T U)) (eZ S v z P[k]) e w'/\da U w'):=fun k B9 x y U hU Bh=>ahd a ca S x y _ v z U aR (hs.aa hU) Bh (bD.ok _ (bU B9)) ((bD.cw fH hm P[k] (bU B9)).up a6) hv hz;have HP:=Fa hP;clear hs hb hP bD aR fH hm hz;go_enter func151,ntmps151;go_wp2_with fail
 have ab:da w (((w.alloc (yM #[Z a (C S) ca,Z b (C f) cb,Z t (C P) Bm] 177)).alloc (yM #[J I (v:Nat),J I (z:Nat)] 30)).alloc (yM #[Z N 0 0,Z N 0 0,Z N 0 0] 177)):=by
  have Bh:=(au (O (T w)) w).alloc (ah _) (yM #[Z a (C S) ca,Z b (C f) cb,Z t (C P) Bm] 177);have h2:=Bh.alloc Bh.size (yM #[J I (v:Nat),J I (z:Nat)] 30);exact h2.alloc h2.size _
 have Ae:cI (((w.alloc (yM #[Z a (C S) ca,Z b (C f) cb,Z t (C P) Bm] 177)).alloc (yM #[J I (v:Nat),J I (z:Nat)] 30)).alloc (yM #[Z N 0 0,Z N 0 0,Z N 0 0] 177)) (O (T w)) (Z a (C S) ca) (Z b (C f) cb) (Z t (C P) Bm):=((cI.at (w:=w) rfl _ _ _).alloc _).alloc _
 have ak:(((w.alloc (yM #[Z a (C S) ca,Z b (C f) cb,Z t (C P) Bm] 177)).alloc (yM #[J I (v:Nat),J I (z:Nat)] 30)).alloc (yM #[Z N 0 0,Z N 0 0,Z N 0 0] 177)).heap[O (T w)+1]? =M (yM #[J I (v:Nat),J I (z:Nat)] 30 (0,0)):=by
  rw[uP _ _ _ aE];have:=dU (w.alloc (yM #[Z a (C S) ca,Z b (C f) cb,Z t (C P) Bm] 177)) (yM #[J I (v:Nat),J I (z:Nat)] 30);rwa [eV] at this
 have kV:cI (((w.alloc (yM #[Z a (C S) ca,Z b (C f) cb,Z t (C P) Bm] 177)).alloc (yM #[J I (v:Nat),J I (z:Nat)] 30)).alloc (yM #[Z N 0 0,Z N 0 0,Z N 0 0] 177)) (O (T w)+1+1) (Z N 0 0) (Z N 0 0) (Z N 0 0):=cI.at (w:=(w.alloc (yM #[Z a (C S) ca,Z b (C f) cb,Z t (C P) Bm] 177)).alloc (yM #[J I (v:Nat),J I (z:Nat)] 30)) aE _ _ _;have Jl:=Fa (lJ.o _ ab);clear lJ;generalize (((w.alloc (yM #[Z a (C S) ca,Z b (C f) cb,Z t (C P) Bm] 177)).alloc (yM #[J I (v:Nat),J I (z:Nat)] 30)).alloc (yM #[Z N 0 0,Z N 0 0,Z N 0 0] 177))=W0 at *;refine Jl.o.ae ?_;rintro e m ⟨d,h,rfl,IM,Ot,K⟩;have bc:=kV.lt;have oA:=(au (O (T m)) m).alloc (ah _) (yM #[Z a (C S) ca,Z d (C (cH f v)) h,Z N 0 0] 177);have l8:O (T (m.alloc (yM #[Z a (C S) ca,Z d (C (cH f v)) h,Z N 0 0] 177)))=O (T m)+1:=aE
 have fR:=(ab.trans (K.ae ab.size)).trans (oA.ae (aM ab.size K.size));have I3:=(Ae.aa K Ae.lt).alloc (yM #[Z a (C S) ca,Z d (C (cH f v)) h,Z N 0 0] 177);have yC:=(kV.aa K kV.lt).alloc (yM #[Z a (C S) ca,Z d (C (cH f v)) h,Z N 0 0] 177)
 have an:(m.alloc (yM #[Z a (C S) ca,Z d (C (cH f v)) h,Z N 0 0] 177)).heap[O (T w)+1]? =M (yM #[J I (v:Nat),J I (z:Nat)] 30 (0,0)):=by
  rw[uP _ _ _ (by have:=K.size;omega),K.block _ al];exact ak
 have rh:vK (O (T w)) (m.alloc (yM #[Z a (C S) ca,Z d (C (cH f v)) h,Z N 0 0] 177)) (O (T m)) (Z a (C S) ca) (Z d (C (cH f v)) h) (Z N 0 0) [] [] (m.alloc (yM #[Z a (C S) ca,Z d (C (cH f v)) h,Z N 0 0] 177)):=vK.start (cI.at (w:=m) rfl (Z a (C S) ca) (Z d (C (cH f v)) h) (Z N 0 0));have Pc:=IM.aa oA;have bg:=K.size
 have aq:wT (∀g o,d=M ⟨g,o,N⟩ ->cH f v≠[] ->M g≠M (O (T m))):=fun g o e aY e2=>by
  obtain⟨g',o',e',iz,_⟩:=IM 0 (by cases hl:cH f v with |nil=>exact absurd hl aY |cons x l=>simp);rw[e] at e';cases e';cases e2;omega
 have sK:wT (∀g o,d=M ⟨g,o,N⟩ ->cH f v≠[] ->g≠w.heap.size+1+1):=fun g o e _ e2=>by
  have:=Ot.2 g o e;omega
 clear IM Ot K ab Ae ak kV oA Jl;have fA:=Fa fR;have Ev:=Fa I3;have jU:=Fa yC;have Cv:=Fa an;have tO:=Fa rh;have JA:=Fa Pc;have Ds:=I3.cells.2.2;clear fR I3 yC an rh Pc;generalize Lm:cH f v=L at *;have Qu:=Fa Lm;clear Lm;go_wp2_with fail
 generalize (m.alloc (yM #[Z a (C S) ca,Z d (C L) h,Z N 0 0] 177))=Bb at *;clear Ds;obtain⟨Ba,V⟩:∃Ba:Nat ->List Tb,∀k,(P.take k).map (eZ S v z)=Ba k:=⟨fun k=>(P.take k).map (eZ S v z),fun _=>rfl⟩;have xE:wT (Ba 0=[]):=by show _=_;rw[<- V];rfl
 have Ce:wT (∀k (B9:k<C P),Ba (k+1)=Ba k++[eZ S v z P[k]]):=fun k B9=>by rw[<- V, <- V,gR B9,gV];rfl
 have sI:wT (Ba (C P)=P.map (eZ S v z)):=by show _=_;rw[<- V,iD]
 have El:wT (∀k,k<=C P ->C (Ba k)=k):=fun k B9=>by rw[<- V,cY,fh];omega
 clear V;go_loopw [17] (fun iv wr=>∃(i:Nat) (tv:wF) (Q:List (wF×wF)),i<=C P/\iv=J I i/\wT (vK (O (T w)) Bb (O (T m)) (Z a (C S) ca) (Z d (C L) h) tv Q (Ba i) wr)) (fun iv _=>C P - (intOf iv).toNat)
 case atStart=>exact⟨0,_,_,aV _,rfl,by rw[xE.o];exact tO⟩
 case round=>
  obtain⟨i,tv,Q,hi,rfl,H⟩:=hrel;have Dy:=H.o.fr.size;have HB:wT (da w wr):=Pj fA.o H.o.fr al al;have Qj:wT (cI wr (O (T w)) (Z a (C S) ca) (Z b (C f) cb) (Z t (C P) Bm)):=(H.o.fr.block _ Ev.o.lt (fun e=>by have:=jO e;omega)).trans Ev.o;have tK:wT (cI wr (O (T w)+1+1) (Z N 0 0) (Z N 0 0) (Z N 0 0)):=(H.o.fr.block _ jU.o.lt (fun e=>by have:=jO e;omega)).trans jU.o;have ao:wT (wr.heap[O (T w)+1]? =M (yM #[J I (v:Nat),J I (z:Nat)] 30 (0,0))):=(H.o.fr.block _ al (fun e=>by have:=jO e;omega)).trans Cv.o;by_cases ai:i<C P
  ·obtain⟨g,o,p,q,rfl,hg,k0,k1,gZ⟩:=(HP.o.aa HB.o) i ai;have hA:=(au (O (T wr)) wr).alloc (ah _) (TC p q);have dS:=Fa (HB.o.trans (hA.ae HB.o.size));(have Dq:O (T (wr.alloc (TC p q)))=O (T wr)+1:=aE);have O6:=Qj.o.alloc (TC p q);have av:=O6.cells.1;have ZR:(wr.alloc (TC p q)).heap[O (T w)+1]? =M (yM #[J I (v:Nat),J I (z:Nat)] 30 (0,0)):=(uP _ _ _ al).trans ao.o;(have Ub:(wr.alloc (TC p q)).cell? ⟨O (T w)+1,0,N⟩=M (J I (v:Nat)):=by rw[ba _ _ 0 _ _ (0,0) ZR];rfl);(have aI:(wr.alloc (TC p q)).cell? ⟨O (T w)+1,1,N⟩=M (J I (z:Nat)):=by rw[ba _ _ 1 _ _ (0,0) ZR];rfl);have bB:=aZ.at (w:=wr) rfl p q;have b0:=bB.c0;have b1:=bB.c1;have mF:=Fa (H.o.under hA);have HX:=Fa (tP.o i ai p q _ dS.o (gZ.aa hA));have az:=Fa (Ce.o i ai);have uC:=El.o i hi;obtain⟨ps,pn,pc,rfl⟩:=gZ.slices.1;obtain⟨qs,qn,qc,rfl⟩:=gZ.slices.2;have Ew:wT (∀R,tv.ownBlock=M R ->O (T Bb)<=R/\R<O (T wr)):=H.o.own.lt;clear gZ hA bB O6 ZR;generalize eZ S v z P[i]=ft at *;go_wp2_with fail
   refine HX.o.ae ?_;rintro e F ⟨⟨x2,y2,rfl,ad,iU⟩,eR⟩;obtain⟨xs,r,n,rfl⟩:=ad.slices.1;obtain⟨A,u,s,rfl⟩:=ad.slices.2;rw[Dq] at iU;have S3:=eR.size;rw[Dq] at S3;have pU:=Fa (mF.o.under eR);have BV:=(au (O (T F)) F).alloc (ah _) (TC (Z xs r n) (Z A u s));have pT:=Fa (pU.o.under BV);(have KZ:O (T (F.alloc (TC (Z xs r n) (Z A u s))))=O (T F)+1:=aE);have IX:=aZ.at (w:=F) rfl (Z xs r n) (Z A u s);have a1:=IX.c0;have bb:=IX.c1;have bh:=pT.o.box.cells.2.2;have I8:=(au (O (T (F.alloc (TC (Z xs r n) (Z A u s))))) (F.alloc (TC (Z xs r n) (Z A u s)))).alloc (ah _) (TC (Z xs r n) (Z A u s));have Qr:=Fa (pT.o.under I8);have P5:=Fa ((ad.aa BV).aa I8);have Zj:=aZ.at (w:=F.alloc (TC (Z xs r n) (Z A u s))) KZ (Z xs r n) (Z A u s);have ay:=Fa Zj.c0;have ax:=Fa Zj.c1;have AE:=Fa ad.slices;have pS:=Fa iU;have Gw:wT (O (T Bb)<=O (T ((F.alloc (TC (Z xs r n) (Z A u s))).alloc (TC (Z xs r n) (Z A u s))))):=Qr.o.fr.size;have aJ:=tO.o.box.lt;clear ad eR BV I8 IX Zj iU HX mF k0 k1 b0 b1 av Ub aI
   have aj:∀(X:wF) (Bj:E),Bj.ownsRow (O (T Bb)) 38 2 X (C (Ba i)+1) (fV Q++[Z xs r n,Z A u s]) ->((F.alloc (TC (Z xs r n) (Z A u s))).alloc (TC (Z xs r n) (Z A u s))).grownBy Bj tv.ownBlock ->(X.ownBlock=tv.ownBlock∨∀k,X.ownBlock=M k ->O (T ((F.alloc (TC (Z xs r n) (Z A u s))).alloc (TC (Z xs r n) (Z A u s))))<=k) ->(∃a' n' c',X=Value.slice a' n' c')/\(vK (O (T w)) Bb (O (T m)) (Z a (C S) ca) (Z d (C L) h) X (Q++[(Z xs r n,Z A u s)]) (Ba (i+1)) (Bj.setCell ⟨O (T m),2,N⟩ X))/\Bj.cell? ⟨O (T m),2,N⟩=M tv/\Bj.frozen? ⟨O (T m),2,N⟩=false:=fun X Bj iy ia ji=>by
    have hM:=Qr.o.push al aJ P5.o (fun R hR=>pS.o R (by have:=(Ew.o R hR).2;omega)) (fun R _ hR=>pS.o R al) iy ia ji;rw[<- az.o] at hM;have yF:cI Bj (O (T m)) (Z a (C S) ca) (Z d (C L) h) tv:=(ia.block _ Qr.o.box.lt (fun e=>by have:=(Ew.o _ e.symm).1;omega)).trans Qr.o.box;refine⟨?_,hM,yF.cells.2.2,yF.fz 2⟩;rcases iy.2 with ⟨Bh,_⟩ |⟨g',bp,br,Bh,_⟩
    ·exact⟨_,_,_,Bh⟩
    ·exact⟨_,_,_,Bh⟩
   have HKEY:=Fa aj;clear aj;go_wp2_with (at_builtin;refine Rg rfl _ _ rfl (O (T Bb)) tv (C (Ba i)) (fV Q) (Z xs r n) (Z A u s) rfl Qr.o.own.own (O (T F)+1) rfl ay.o ax.o AE.o.1 AE.o.2 al Gw.o ?_;intro X Bj iy ia ji;obtain⟨⟨A4,bo,A3,rfl⟩,Ag,bt,bs⟩:=HKEY.o X Bj iy ia ji;have rA:=Fa Ag;clear Ag iy ia ji)
   go_roundw
   case rel=>exact⟨i+1,_,_,al,bd,rA⟩
   case measure=>simp[intOf];omega
  ·obtain rfl:i=C P:=al
   rw[sI.o] at H;obtain⟨Y,B7,rfl,Fw⟩:=H.o.own.row;obtain⟨x0,x1,x2⟩:=H.o.box.cells;obtain⟨r0,r1,r2⟩:=tK.o.cells;have RN:=tK.o.fz 0;have RM:=tK.o.fz 1;have RL:=tK.o.fz 2;(have vr:C (P.map (eZ S v z))=C P:=aE);rw[vr] at H x2;have Pb:aB wr d L:=NY JA.o aq.o H.o.fr;have Es:=Fa (tK.o.put (Z a (C S) ca) (Z d (C L) h) (Z Y (C P) B7));have vT:=Fa (eT HB.o (show O (T w)<=O (T w)+1+1 by omega) (Z a (C S) ca) (Z d (C L) h) (Z Y (C P) B7))
   have iR:Value.ownBlock (Z Y (C P) B7)≠M (O (T w)+1+1):=fun e=>by
    have:=(H.o.own.lt _ e).1;omega
   have F4:=((H.o.own.off (g:=O (T w)+1+1) (j:=0) (Z a (C S) ca) (H.o.far _ al al) iR).off (g:=O (T w)+1+1) (j:=1) (Z d (C L) h) (H.o.far _ al al) iR).off (g:=O (T w)+1+1) (j:=2) (Z Y (C P) B7) (H.o.far _ al al) iR;obtain⟨bk,bm,e2,Fv⟩:=F4.row;rw[vr] at e2;injection e2 with e3 e4 e5;subst e3 e5;clear e4;have tF:=Fa Fv;have Ct:=Fa (((Pb.off (g:=O (T w)+1+1) (j:=0) (y:=Z a (C S) ca) sK.o).off (g:=O (T w)+1+1) (j:=1) (y:=Z d (C L) h) sK.o).off (g:=O (T w)+1+1) (j:=2) (y:=Z Y (C P) B7) sK.o);have dR:=Fa ((Xn H.o.own.own).up (show O (T w)<=O (T Bb) by omega));clear F4 Fv Pb Fw;go_wp2;refine dI (Es.o.result1 rfl _ rfl) rfl ?_;have e6:=Qu.o;subst e6;exact⟨d,h,Y,B7,rfl,Ct.o,tF.o,dR.o,vT.o⟩
variable {Q2:List (wF×wF)} {P2:List Tb} {wv:wF}
theorem agI {t:Tb} (h:Up t.1 n):t.1.contains (v:Int)=decide (v∈af t.1):=by
 have:(v:Int)∈t.1↔v∈af t.1:=by
  rw[af,aN];constructor
  ·intro a;exact⟨_,a,aE⟩
  ·rintro⟨x,b,e⟩;have:=((eH.1 h).1 x b).1;rw[show (v:Int)=x by omega];exact b
 by_cases a:v∈af t.1
 ·rw[cJ a,CR];exact this.2 a
 ·rw[cX a, <- Bool.not_eq_true,CR];exact fun e=>a (this.1 e)
theorem ad6 (a:Kd) (ca:Nat) (S:Ja) (x y:wF) (t:Tb) (v:Nat) (w:E) (R:fK (iL S)) (hs:aB w a (iL S)) (h:bJ w x y t) (o:dG S (C S) t) (l:Cw 8192 t.2) (k:v<C S) (m:v∈af t.1):
  c6 107 #[Z a (C S) ca,zd #[x,y],J I (v:Nat),zZ xd] w fun e w'=>Gl (O (T w)) (outT S v xd t) e w'/\da w w':=by
 obtain⟨b,c,cb,cc,rfl,rfl,i,j,p⟩:=h;have f:=R.eight;rw[bR] at f;have n:=o.small R;have g:t.1.contains (v:Int)=true:=by rw[agI o.up,cJ m]
 have:=ako a b c ca cb cc (iL S) t.1 t.2 v w hs i j (by rw[bR];omega) al (o.check R) l g (by rw[bR];exact k);rw[bR,jP] at this;exact this.ae fun e w' d=>⟨Av.tb (t:=outT S v xd t) d.1,d.2⟩
theorem Sc {B:Nat} {e:TypeId} {s:Nat} {v:wF} {r:Option Nat} (h:w.ownsRow B e s v n xs) (f:w.grownBy w' r) (i:∀R,v.ownBlock=M R ->r≠M R):w'.ownsRow B e s v n xs:=by
 refine⟨h.1,?_⟩;rcases h.2 with a |⟨g,cap,u,a,c,b,d⟩
 ·exact yd a
 ·exact yk ⟨g,cap,u,a,c,(f.block g (cS.1 b).1 (fun e=>i g (by rw[a];rfl) e.symm)).trans b,d⟩
theorem uf {B:Nat} {e:TypeId} {s:Nat} {v:wF} (h:w.ownsRow B e s v n xs):∀R,v.ownBlock=M R ->B<=R/\R<O (T w):=fun R a=>by
 rcases h.2 with ⟨b,c⟩ |⟨g,cap,r,b,c,d,_⟩
 ·rw[b] at a;cases a
 ·rw[b] at a;cases a;exact⟨c,(cS.1 d).1⟩
theorem xW {B:Nat} {e:TypeId} {s:Nat} {v:wF} (h:w.ownsRow B e s v n xs):∃a c,v=Z a n c:=by
 rcases h.2 with ⟨b,d⟩ |⟨g,cap,r,b,_⟩
 ·exact⟨N,0,by rw[b,d]⟩
 ·exact⟨_,_,b⟩
structure Au (w:E) (Q:List (wF×wF)) (P:List Tb):Prop where
 len:C Q=C P
 val:∀k (h:k<C P) (h':k<C Q),bJ w Q[k].1 Q[k].2 P[k]
theorem Au.nil (w:E):Au w [] []:=⟨rfl,fun k h=>absurd h aE⟩
theorem Au.push {Q:List (wF×wF)} {P:List Tb} {x:wF} {t:Tb} (h:Au w Q P) (a:bJ w x y t):Au w (Q++[(x,y)]) (P++[t]):=by
 refine⟨by simp[h.len],fun k b c=>?_⟩;by_cases d:k<C P
 ·have i:k<C Q:=by rw[h.len];exact d
  rw[nU i,nU d];exact h.val k d i
 ·have i:¬k<C Q:=by rw[h.len];exact d
  rw[tX al,tX al];simp only[QZ];exact a
theorem Au.owt {V:E} {B:Nat} {v:wF} {Q:List (wF×wF)} {P:List Tb} (h:Au w Q P) (e:da w V) (c:O (T w)<=B) (o:V.ownsRow B 38 2 v (C P) (fV Q)):nI V B v Q P:=
 ⟨h.len,o,fun k a b=>(h.val k a b).aa e,fun R d k a b=>(h.val k a b).lt (aM c (uf o R d).1)⟩
structure pM (w W:E) (b:Nat) (x y tv wv:wF) (Q Q2:List (wF×wF)) (P P2:List Tb) (V:E):Prop where
 box:cI V b x y tv
 own:V.ownsRow (O (T W)) 38 2 tv (C P) (fV Q)
 own2:V.ownsRow (O (T W)) 38 2 wv (C P2) (fV Q2)
 q:Au w Q P
 q2:Au w Q2 P2
 ne:∀R,tv.ownBlock=M R ->wv.ownBlock≠M R
 fr:W.grownBy V (M b)
theorem pM.start {W:E} {b:Nat} {x:wF} (h:cI W b x y (Z N 0 0)):pM w W b x y (Z N 0 0) (Z N 0 0) [] [] [] [] W:=
 ⟨h,(nI.nil _ _).own,(nI.nil _ _).own,Au.nil _,Au.nil _,(fun R e=>by cases e),Z9 _ _⟩
theorem pM.under {W V:E} {b:Nat} {x:wF} {Q:List (wF×wF)} {P:List Tb} (h:pM w W b x y tv wv Q Q2 P P2 V) (a:da V V'):pM w W b x y tv wv Q Q2 P P2 V':=
 ⟨h.box.aa a h.box.lt,KB h.own (Ee.aa a),KB h.own2 (Ee.aa a),h.q,h.q2,h.ne,aaa h.fr a⟩
theorem pM.push2 {W V:E} {b:Nat} {x a:wF} {Q:List (wF×wF)} {P:List Tb} {t:Tb} (h:pM w W b x y tv wv Q Q2 P P2 V) (l:b<O (T W)) (f:bJ w u1 u2 t) (o:V'.ownsRow (O (T W)) 38 2 a (C P2+1) (fV Q2++[u1,u2])) (g:V.grownBy V' wv.ownBlock) (n:a.ownBlock=wv.ownBlock∨∀k,a.ownBlock=M k ->O (T V)<=k):
  pM w W b x y tv a Q (Q2++[(u1,u2)]) P (P2++[t]) V':=by
 have d:∀k,wv.ownBlock=M k ->O (T W)<=k:=fun k e=>(uf h.own2 k e).1;refine⟨(g.block b h.box.lt (fun e=>by have:=d b e.symm;omega)).trans h.box,Sc h.own g h.ne,by rw[Nf,cE];exact o,h.q,h.q2.push f,fun R e c=>?_,Pk h.fr g d⟩;rcases n with n |n
 ·rw[n] at c;exact h.ne R e c
 ·have i:=n R c;have j:=(uf h.own R e).2;omega
theorem pM.push1 {W V:E} {b:Nat} {x X:wF} {Q:List (wF×wF)} {P:List Tb} {t:Tb} (h:pM w W b x y tv wv Q Q2 P P2 V) (p:b<O (T W)) (j:bJ w u1 u2 t) (i:V'.ownsRow (O (T W)) 38 2 X (C P+1) (fV Q++[u1,u2])) (g:V.grownBy V' tv.ownBlock) (n:X.ownBlock=tv.ownBlock∨∀k,X.ownBlock=M k ->O (T V)<=k):
  pM w W b x y X wv (Q++[(u1,u2)]) Q2 (P++[t]) P2 (V'.setCell ⟨b,2,N⟩ X)/\cI V' b x y tv:=by
 have d:∀k,tv.ownBlock=M k ->O (T W)<=k:=fun k e=>(uf h.own k e).1;have c:cI V' b x y tv:=(g.block b h.box.lt (fun e=>by have:=d b e.symm;omega)).trans h.box;have f:V'.ownsRow (O (T W)) 38 2 wv (C P2) (fV Q2):=Sc h.own2 g (fun R e a=>h.ne R a e);have o:V'.ownsRow (O (T W)) 38 2 X (C (P++[t])) (fV (Q++[(u1,u2)])):=by rw[Nf,cE];exact i
 refine⟨⟨c.set2 X,QM o (fun e=>?_) _,QM f (fun e=>?_) _,h.q.push j,h.q2,fun R e a=>?_,TQ (Pk h.fr g d) _ _⟩,c⟩
 ·have:=(uf o b e).1;omega
 ·have:=(uf f b e).1;omega
 ·rcases n with n |n
  ·rw[n] at e;exact h.ne R e a
  ·have l:=n R e;have m:=(uf h.own2 R a).2;omega
theorem pM.plm {W V:E} {b:Nat} {x:wF} {Q:List (wF×wF)} {P:List Tb} (h:pM w W b x y tv wv Q Q2 P P2 V) (e:da w V) (d:O (T w)<=O (T W)):vK (O (T w)) W b x y tv Q P V:=
 ⟨h.box,h.q.owt e d h.own,fun _ R _ k a c=>(h.q.val k a c).lt R,h.fr⟩
theorem pM.row2 {W V:E} {b:Nat} {x:wF} {Q:List (wF×wF)} {P:List Tb} (h:pM w W b x y tv wv Q Q2 P P2 V) (e:da w V) (d:O (T w)<=O (T W)):∃a c,wv=Z a (C P2) c/\jn V a P2:=(h.q2.owt e d h.own2).row
end Go.Proofs.YtkflnpjapgiajaaGreatDoor
