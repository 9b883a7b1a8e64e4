/- Part7: part 7. -/
import Derived.Test.YtkflnpjapgiajaaGreatDoorLegB6
set_option maxRecDepth 100000
set_option maxHeartbeats 400000000
set_option linter.unusedSimpArgs false
set_option linter.unusedVariables false
namespace Go.Proofs.YtkflnpjapgiajaaGreatDoor
open Value renaming slice→J,int→E,string→zX,pointer→zZ,bool→zd,agg→zp,tuple→zz
open IntKind renaming i64→yR
open Obj renaming cells→yd
open Ending renaming returned→yk
open Or renaming inl→yp,inr→xS
open Option renaming none→O,some→I
open Bool renaming true→xq,false→x3
open Go renaming World→wA,Value→wQ
open RowKit renaming Hid→we
open Go.Proofs.Tryz
open List renaming length→Z
open World renaming alloc→AC
open World renaming cell?→AJ
open Go.RowKit Go.Shelf Go.Lib
variable {R:List (List Fr)} {L:List Kx} {V:List Vr}
theorem Sz (h0:aU V L R=0) {d:List (Nat×Nat)} (h:fj (ah V) (Z V) d):ik V L R d []=1:=X0 (Pu h0 h)
theorem ar3 (h0:aU V L R=0) {d:List (Nat×Nat)} (h:fj (ah V) (Z V) d) {Y:Kx} (a:Up Y (Z V)):b9 (lX V L R d Y [])=1:=by
 have e:=afk h0 h (E8 a) [];rw[Sz h0 h] at e;rw[lX,Sz h0 h,Pj];refine Eq.trans (gD fun K _=>?_) e;rw[k9,show (1:Rat)⁻¹=1 from by have:=JR 1 a6;rwa [lI] at this,mU]
theorem Ue (d:List (Nat×Nat)) (y:Nat):Z (lX V L R d [(y:Int)] [])=sz (ah V) y:=by
 simp[lX,ag,cnt]
theorem ar1 (h0:aU V L R=0) {d:List (Nat×Nat)} (h:fj (ah V) (Z V) d) (Y:Kx):lX V L R d Y []=(cP V (eh d L) (dV V d (cC R)) Y []).2:=by
 rw[lX,cP];refine qh fun K _=>?_;rw[Sz h0 h,SA h0 h,k9,show (1:Rat)⁻¹=1 from by have:=JR 1 a6;rwa [lI] at this,mU]
theorem ar4 (M:NM V L R) {d:List (Nat×Nat)} (a:fj (ah V) (Z V) d) {Y:Kx} (b:Up Y (Z V)):(∀k (h:k<Z (lX V L R d Y [])),(lX V L R d Y [])[k].2.1.size+(lX V L R d Y [])[k].2.2.size<=40000)/\∀k,k<=Z (lX V L R d Y []) ->qw (b9 ((lX V L R d Y []).take k))<=40000:=by
 have n:aU V (eh d L) (dV V d (cC R))=0:=Pt (by rw[Sp];exact M.ok) a;have c:=(M.dos a).lt;rw[ar1 M.ok a Y];exact⟨Rm n c Y [],Rl n c b []⟩
theorem akF (a b c y d:Kd) (ca cb cc cy i:Nat) (V:List Vr) (L:List Kx) (R:List (List Fr)) (Y:Kx) (D:List (Nat×Nat)) (w:wA) (M:NM V L R) (h:Ay w a b c V L R) (B9:aC w y Y) (m:Up Y (Z V)) (u:j9 w d (zF D)) (B7:Z (zF D)<=i) (f:fj (ah V) (Z V) D) (h1:∀v∈ag Y,¬v∈D.map (·.1)):
  c6 12 #[zp #[J a (Z V) ca,J b (Z L) cb,J c (Z R) cc],J y (Z Y) cy,J d (Z (zF D)) i,J O 0 0] w fun e w'=>sU Y (lX V L R D Y []) 0 e w'/\da w w':=by
 have s:=M.six;have T:=(RQ M.ok f).1;have P:Z Y<=6:=Hr m s;have F:fj (ah V) (Z V) []:=⟨JT,(fun _ g=>by cases g),(fun _ g=>by cases g)⟩;have j:∀ {l:List (Nat×Nat)},fj (ah V) (Z V) l ->Z (zF l)<=1000:=fun {l} j=>by rw[A4];have:=j.len;omega
 have n:=atc a b c y d O ca cb cc cy i 0 V L R Y (zF D) [] w h B9 al u (j f) B7 (fun k x=>absurd x aE) aE aE (fun _=>by rw[Db];exact M.dos f);have B2:=any_none (Y:=Y) (d:=D) (l:=[]) h1 (fun p g=>by cases g);obtain⟨q,r⟩:=ar2 (d:=D) M.ok f m F (fun v _ A=>by cases A);have H:=Sz M.ok f;have z:ik V L R D []≠0:=by rw[H];decide
 have o:DV V L R Y (zF D) (zF [])=0:=by
  rw[DV,aA T,B2,Db,aD aE,q,aD z]
 have t:I3 V L R Y (zF D) (zF [])=(Y,lX V L R D Y []):=by rw[I3,aA o,Db,r z]
 have K:DV V L R Y (zF D) []=0:=o;have B6:I3 V L R Y (zF D) []=(Y,lX V L R D Y []):=t;rw[K,B6] at n;exact n
theorem akb (a b c:Kd) (ca cb cc:Nat) (V:List Vr) (L:List Kx) (R:List (List Fr)) (x vx y:Nat) (w:wA) (B2:NM V L R) (h:Ay w a b c V L R) (B1:x<Z V) (iW:vx<sz (ah V) x) (hy:y<Z V) (j3:x≠y):
  c6 27 #[zp #[J a (Z V) ca,J b (Z L) cb,J c (Z R) cc],zp #[E yR (x:Nat),E yR (vx:Nat)],E yR (y:Nat)] w fun e w'=>∃d cd,e=yk (zz #[J d (sz (ah V) y) cd,zd xq])/\dE w' d (lX V L R [(x,vx)] [(y:Int)] [])/\da w w':=by
 have M:fj (ah V) (Z V) [(x,vx)]:=⟨aE,fun p z=>by rw[bD.1 z];exact B1,fun p z=>by rw[bD.1 z];exact iW⟩;have Y:Up [(y:Int)] (Z V):=dY.2 ⟨fun v D=>by rw[bD.1 D];omega,EW _ _⟩
 have ab:we (∀(l j:Nat) (U:wA),da w U ->aC U (I ⟨l,0,O⟩) [(y:Int)] ->j9 U (I ⟨j,0,O⟩) [((x:Int),(vx:Int))] ->c6 12 #[zp #[J a (Z V) ca,J b (Z L) cb,J c (Z R) cc],J (I ⟨l,0,O⟩) 1 1,J (I ⟨j,0,O⟩) 1 1,J O 0 0] U fun e w'=>sU [(y:Int)] (lX V L R [(x,vx)] [(y:Int)] []) 0 e w'/\da U w'):=fun l j U hU hi hf=>
  akF a b c (I ⟨l,0,O⟩) (I ⟨j,0,O⟩) ca cb cc 1 1 V L R [(y:Int)] [(x,vx)] U B2 (h.aa hU) hi Y hf (by simp[zF]) M (fun v D hm=>by
   simp[ag] at D hm;omega)
 have ae:=Ue (V:=V) (L:=L) (R:=R) [(x,vx)] y;have qZ:=Fa ae;clear ae M Y h B2 B1 iW hy;generalize lX V L R [(x,vx)] [(y:Int)] []=B9 at *;have q:da w (AC w (yd #[J a (Z V) ca,J b (Z L) cb,J c (Z R) cc] 26)):=(aw _ w).alloc (ak _) _;have b2:=q.alloc q.size (yd #[E yR (x:Nat),E yR (vx:Nat)] 30);have n:(AC (AC w (yd #[J a (Z V) ca,J b (Z L) cb,J c (Z R) cc] 26)) (yd #[E yR (x:Nat),E yR (vx:Nat)] 30)).heap.size=w.heap.size+1+1:=aE
 generalize hW2:(AC (AC w (yd #[J a (Z V) ca,J b (Z L) cb,J c (Z R) cc] 26)) (yd #[E yR (x:Nat),E yR (vx:Nat)] 30))=i at b2 n;have zS:=tE i (y:Nat);have ad:(AC i (yd #[E yR (y:Nat)] 3)).heap.size=w.heap.size+1+1+1:=by simp[n]
 have u:Below (AC i (yd #[E yR (y:Nat)] 3)).heap.size _ (AC (AC i (yd #[E yR (y:Nat)] 3)) (yd #[E yR (x:Nat),E yR (vx:Nat)] 30)):=(aw _ _).alloc (ak _) _;have S:=zS.aa u;have T:=Sn (AC i (yd #[E yR (y:Nat)] 3)) (x:Nat) (vx:Nat);have H:=(b2.alloc b2.size (yd #[E yR (y:Nat)] 3)).trans (u.af (b2.alloc b2.size _).size);rw[n] at S;rw[ad] at T;have Q:=Fa (ab.o _ _ _ H S T);have k:=Fa H;rw[<- hW2] at Q k;clear q b2 n hW2 zS ad u S T H ab i;go_enter func27,ntmps27;go_wp2_with fail
 refine Q.o.af ?_;rintro e f ⟨⟨m,t,s,r,rfl, -,X⟩,P⟩;have B6:da f (AC f (yd #[J m 1 s,J t (Z B9) r] 38)):=(aw _ f).alloc (ak _) _;have A:bh (AC f (yd #[J m 1 s,J t (Z B9) r] 38)) f.heap.size (J m 1 s) (J t (Z B9) r):=dU f _;have F:=k.o.trans (P.af k.o.size);have K:=F.trans (B6.af F.size);have B7:=X.aa B6;obtain⟨gt,fH⟩:∃g,f.heap.size=g:=⟨_,rfl⟩;obtain⟨w2,SM⟩:∃U,AC f (yd #[J m 1 s,J t (Z B9) r] 38)=U:=⟨_,rfl⟩;rw[SM] at A K B7;rw[fH] at A;obtain⟨t0,t1, -, -⟩:=A.facts;have HW:=Fa K;have HC:=Fa B7;clear P B6 A F K B7 X Q k;go_wp2_with fail
 go_ret2;exact⟨t,r,by rw[<- qZ.o];rfl,HC.o,HW.o⟩
variable {U:wA}
theorem anP {b:Kd} {c:Nat} {x:Kx} (h0:aC U b x):ei (AC U (yd #[J b (Z x) c] 27)) (I ⟨U.heap.size,0,O⟩) [x]:=fun k a=>by
 have h:da U (AC U (yd #[J b (Z x) c] 27)):=(aw _ U).alloc (ak _) _;have n:(AC U (yd #[J b (Z x) c] 27)).heap[U.heap.size]? =I (yd #[J b (Z x) c] 27 (0,0)):=dU U _;have z:U.heap.size<(AC U (yd #[J b (Z x) c] 27)).heap.size:=aE
 match k,a with
 |0,_=>exact⟨_,0,b,c,rfl,z,by rw[a8 _ _ _ _ _ (0,0) n];rfl,h0.aa h⟩
theorem akc (s t A az:Kd) (B9 F B7 cz:Nat) (j L2 n z:Kx) (bk:Bool) (kx ky kv:Int) (w:wA) (h1:aC w s j) (h2:aC w t L2) (h3:aC w A n) (hz:aC w az z) (r1:Cc j) (r2:Cc L2) (r3:Cc n) (rz:Cc z) (cG: -9223372036854775808<=kx/\kx<=9223372036854775807) (Le: -9223372036854775808<=ky/\ky<=9223372036854775807) (zQ: -9223372036854775808<=kv/\kv<=9223372036854775807):
  c6 5 #[zp #[J s (Z j) B9,J t (Z L2) F,J A (Z n) B7,zd bk],E yR kx,E yR ky,J az (Z z) cz,E yR kv] w (dj w (zd xq)):=by
 have bA:=Fa (fun (U:wA) (hB:da w U)=>apa s t A B9 F B7 j L2 n bk U (h1.aa hB) (h2.aa hB) (h3.aa hB) r1 r2 r3);have bz:=Fa (fun (U:wA) (hB:da w U)=>akD s t A B9 F B7 j L2 n bk U (h1.aa hB) (h2.aa hB) (h3.aa hB) r1.1 r2.1 r3.1);have td:we (∀U:wA,da w U ->ei (AC U (yd #[J az (Z z) cz] 27)) (I ⟨U.heap.size,0,O⟩) [z]):=fun U B6=>anP (hz.aa B6)
 have Vg:we (∀(G:Nat) (U:wA),ei U (I ⟨G,0,O⟩) [z] ->c6 26 #[J (I ⟨G,0,O⟩) 1 1] U fun e w'=>∃q,e=yk (zd q)/\(q=x3 ->Z z<=512)/\w'=U):=fun G U B6=>(acg (I ⟨G,0,O⟩) 1 [z] U B6 (fun l hl=>by
  rw[bD.1 hl];exact rz.1) aE).af fun e w' ⟨q,h,h',c8⟩=>⟨q,h,fun e=>h' e z aE,c8⟩
 have aM:=Fa cG;have aR:=Fa Le;have Jw:=Fa zQ;have sG:(AC w (yd #[J s (Z j) B9,J t (Z L2) F,J A (Z n) B7,zd bk] 47)).heap[w.heap.size]? =I (yd #[J s (Z j) B9,J t (Z L2) F,J A (Z n) B7,zd bk] 47 (0,0)):=dU w _;have q0:AJ (AC w (yd #[J s (Z j) B9,J t (Z L2) F,J A (Z n) B7,zd bk] 47)) ⟨w.heap.size,0,O⟩=I (J s (Z j) B9):=by rw[a8 _ _ _ _ _ (0,0) sG];rfl
 have q1:AJ (AC w (yd #[J s (Z j) B9,J t (Z L2) F,J A (Z n) B7,zd bk] 47)) ⟨w.heap.size,1,O⟩=I (J t (Z L2) F):=by rw[a8 _ _ _ _ _ (0,0) sG];rfl
 have q2:AJ (AC w (yd #[J s (Z j) B9,J t (Z L2) F,J A (Z n) B7,zd bk] 47)) ⟨w.heap.size,2,O⟩=I (J A (Z n) B7):=by rw[a8 _ _ _ _ _ (0,0) sG];rfl
 have q3:AJ (AC w (yd #[J s (Z j) B9,J t (Z L2) F,J A (Z n) B7,zd bk] 47)) ⟨w.heap.size,3,O⟩=I (zd bk):=by rw[a8 _ _ _ _ _ (0,0) sG];rfl
 have ax:da w (AC w (yd #[J s (Z j) B9,J t (Z L2) F,J A (Z n) B7,zd bk] 47)):=(aw _ w).alloc (ak _) _;have ku:w.heap.size<(AC w (yd #[J s (Z j) B9,J t (Z L2) F,J A (Z n) B7,zd bk] 47)).heap.size:=aE
 have UU:=Fa rz.2;have HZ:=Fa hz;clear h1 h2 h3 hz r1 r2 r3 rz sG cG Le zQ;go_enter func5,ntmps5;go_wp2_with fail
 generalize (AC w (yd #[J s (Z j) B9,J t (Z L2) F,J A (Z n) B7,zd bk] 47))=W0 at *;refine(bz.o _ ax).af ?_;rintro e W1 ⟨q,rfl,ai⟩;have cO:=Fa (ax.trans (ai.af ax.size))
 have bJ:we (∀U:wA,da W1 U ->AJ U ⟨w.heap.size,0,O⟩=I (J s (Z j) B9)/\U.cell? ⟨w.heap.size,1,O⟩=I (J t (Z L2) F)/\U.cell? ⟨w.heap.size,2,O⟩=I (J A (Z n) B7)/\U.cell? ⟨w.heap.size,3,O⟩=I (zd bk)):=fun U B6=>by
  have jE:=aT ku ai.size;exact⟨(B6.cell (p:=⟨w.heap.size,0,O⟩) jE).trans ((ai.cell (p:=⟨w.heap.size,0,O⟩) ku).trans q0),(B6.cell (p:=⟨w.heap.size,1,O⟩) jE).trans ((ai.cell (p:=⟨w.heap.size,1,O⟩) ku).trans q1),(B6.cell (p:=⟨w.heap.size,2,O⟩) jE).trans ((ai.cell (p:=⟨w.heap.size,2,O⟩) ku).trans q2),(B6.cell (p:=⟨w.heap.size,3,O⟩) jE).trans ((ai.cell (p:=⟨w.heap.size,3,O⟩) ku).trans q3)⟩
 clear q0 q1 q2 q3 ax ai ku bz;cases q with
 |true=>
  go_wp2;go_ret;exact⟨rfl,cO.o⟩
 |false=>
  have nP:da W1 (AC W1 (yd #[J az (Z z) cz] 27)):=(aw _ W1).alloc (ak _) _;have aZ:=Fa (cO.o.trans (nP.af cO.o.size));have nW:=Fa (td.o W1 cO.o);have tX:=Fa (bJ.o _ nP);clear td cO bJ nP;go_wp2_with fail
  generalize (AC W1 (yd #[J az (Z z) cz] 27))=W2 at *;refine(Vg.o _ _ nW.o).af ?_;rintro e W3 ⟨q,rfl,D,rfl⟩;clear nW Vg;cases q with
  |true=>
   clear D;go_wp2;go_ret;exact⟨rfl,aZ.o⟩
  |false=>
   have lz:=D rfl;obtain⟨q0,q1,q2,q3⟩:=tX.o;clear D tX;go_wp2_with fail
   refine(bA.o _ aZ.o).af ?_;rintro e W4 ⟨a,aq,c,ca,cb,cc,V,L,R,rfl,hN,cB,k,Q⟩;clear q0 q1 q2 q3 bA;have fW:=k.one;have zO:=k.six;have bF:=fK k.ok;have fN:=aZ.o.trans (Q.af aZ.o.size);have Y:da W4 (W4.alloc (NC (J a (Z V) ca) (J aq (Z L) cb) (J c (Z R) cc))):=(aw _ W4).alloc (ak _) _;have bt:=bZ.at (w:=W4) rfl (J a (Z V) ca) (J aq (Z L) cb) (J c (Z R) cc);have HS:=Fa (show TS w _ _ a aq c ca cb cc V L R from ⟨bt,(k.ni4 hN cB).aa Y,fN.trans (Y.af fN.size)⟩);obtain⟨f,i,b2⟩:=bt.cells;clear hN cB Q fN Y bt aZ
   have yT:we (∀(d:Kd) (cd:Nat) (l:Kx) (B1:wA),aC B1 d l ->Z l<=512 ->(∀x∈l, -9223372036854775808<=x/\x<=9223372036854775807) ->c6 23 #[J d (Z l) cd,E yR (Z V:Nat)] B1 fun e w'=>∃d' LU U,e=yk (J d' (Z U) LU)/\aC w' d' U/\Up U (Z V)/\U.length<=6/\da B1 w'):=fun d cd l B1 hd hl hr=>(al9 d cd (Z V) l B1 hd hr al fW al).af fun e w' ⟨x,U,h,hr,hu,B2⟩=>by
    obtain⟨d',LU,rfl,hi⟩:=hr.ints;exact⟨d',LU,U,h,hi,hu,Hr hu zO,B2⟩
   have Qg:we (∀U:wA,c6 21 #[E yR kx,E yR (Z V:Nat)] U fun e w'=>e=yk (E yR (tC kx (Z V):Nat))/\da U w'):=fun U=>Ku kx (Z V) U aM.o.1 aM.o.2 fW al;have bC:we (∀U:wA,c6 21 #[E yR ky,E yR (Z V:Nat)] U fun e w'=>e=yk (E yR (tC ky (Z V):Nat))/\da U w'):=fun U=>Ku ky (Z V) U aR.o.1 aR.o.2 fW al;have K9:=KD kx fW;have Og:=KD ky fW;generalize tC kx (Z V)=x at *;generalize tC ky (Z V)=y at *;go_wp2_with fail
   clear f i b2;generalize Ak:W4.heap.size=B at *;clear Ak;generalize (W4.alloc (NC (J a (Z V) ca) (J aq (Z L) cb) (J c (Z R) cc)))=W5 at *;refine(Qg.o _).af ?_;rintro e W6 ⟨rfl,gZ⟩;have rK:=Fa (HS.o.step gZ);clear gZ HS Qg;go_wp2_with fail
   refine(bC.o _).af ?_;rintro e W7 ⟨rfl,eR⟩;have wj:=Fa (rK.o.step eR);clear eR rK bC;by_cases j3:x=y
   ·have hc:((x:Int)==(y:Int))=true:=by rw[j3];simp
    go_wp2_with fail
    go_ret;exact⟨rfl,wj.o.fr⟩
   ·have hc:((x:Int)==(y:Int))=false:=by simp;omega
    have b3:=Fa (HZ.o.aa wj.o.fr);have dk:Z V<=6:=zO;go_wp2_with fail
    clear hc;refine(yT.o az cz z _ b3.o lz UU.o).af ?_;rintro e W8 ⟨d1,k1,U1,rfl,i1,u1,m1,iB⟩;have GH:=Fa (wj.o.step iB);have Y:da W8 (AC W8 (yd #[E yR (x:Nat),E yR (y:Nat)] 3)):=(aw _ W8).alloc (ak _) _;have qZ:=Fa (amh d1 (I ⟨W8.heap.size,0,O⟩) k1 2 U1 [(x:Int),(y:Int)] _ (i1.aa Y) (Wn W8 (x:Nat) (y:Nat)) al aE);have ch:=Fa (GH.o.step Y);have bO:=Fa u1;clear i1 u1 iB Y wj b3 HZ yT UU;go_wp2_with fail
    refine qZ.o.af ?_;rintro e X ⟨v9,rfl,vA,z7⟩;have GG:=Fa (ch.o.step z7);obtain⟨d2,k2,rfl,i2,b6, -⟩:=bS.ints3 vA;have bg:=Fa b6;clear b6;have AH:=Fa i2;clear z7 vA i2 qZ GH ch;have eP:Z (py U1 [(x:Int),(y:Int)])<=6:=aO (oq _ _) m1;obtain⟨f,i,b2⟩:=GG.o.box.cells;have bm:da X (AC X (yd #[E yR (x:Nat)] 3)):=(aw _ X).alloc (ak _) _;(have b5:(AC X (yd #[E yR (x:Nat)] 3)).heap.size=X.heap.size+1:=aE);have Um:Below (AC X (yd #[E yR (x:Nat)] 3)).heap.size _ (AC (AC X (yd #[E yR (x:Nat)] 3)) (yd #[E yR kv] 3)):=(aw _ _).alloc (ak _) _;have ZL:=(GG.o.step bm).step Um;have cg:=(tE X (x:Nat)).aa Um;have Za:=tE (AC X (yd #[E yR (x:Nat)] 3)) kv;rw[b5] at Za;have bw:=Fa (amk a aq c (I ⟨X.heap.size,0,O⟩) (I ⟨X.heap.size+1,0,O⟩) ca cb cc 1 1 V L R [(x:Int)] [kv] _ ZL.net.net cg Za (dY.2 ⟨fun v hv=>by rw[bD.1 hv];omega,EW _ _⟩) aE (fun v hv=>by rw[bD.1 hv];exact Jw.o) aE (fun v hv=>by have:=((XL k.ok).1.len v hv);have h2:=k.small.Fd.2 V[v] (bQ hv);exact⟨al,al⟩));have cm:=Fa ZL;have cu:=Fa ((AH.o.aa bm).aa Um);clear bm b5 Um ZL cg Za GG AH aM aR Jw;go_wp2_with fail
    refine bw.o.af ?_;rintro e Ea ⟨dn,l,rfl,cL,ae,ay,IV⟩
    obtain⟨vx,rfl,iW⟩:∃vx,l=[(x,vx)]/\vx<sz (ah V) x:=by
     match l,ae,ay with
     |[],ae,_=>simp[ag] at ae
     |[q],ae,ay=>
      (have h1:q.1=x:=by simpa [ag] using ae);exact⟨q.2,by rw[<- h1],by rw[<- h1];exact ay q aE⟩
     |q::r::m,ae,_=>simp[ag] at ae
    obtain⟨df,cf,rfl,zT, -, -⟩:=cL.facts;obtain⟨gf,of,e0,yF,f0,f1⟩:=zT 0 (by simp[zF]);(have c0:AJ Ea ⟨gf,of,O⟩=I (E yR (x:Nat)):=by simpa [zF] using f0);have c7:AJ Ea ⟨gf,of+1,O⟩=I (E yR (vx:Nat)):=by simpa [zF] using f1
    cases e0;have cM:Z (zF [(x,vx)])=1:=rfl;have cl:=Fa (cm.o.step IV);have ct:=Fa (cu.o.aa IV);simp only[cM];have Y:da Ea (AC Ea (yd #[E yR (x:Nat),E yR (vx:Nat)] 30)):=(aw _ Ea).alloc (ak _) _;have D:=dU Ea (yd #[E yR (x:Nat),E yR (vx:Nat)] 30);have ZK:=cl.o.step Y;have ZT:=ct.o.aa Y;obtain⟨b,Lg⟩:∃g,Ea.heap.size=g:=⟨_,rfl⟩;obtain⟨L8,b7⟩:∃U,AC Ea (yd #[E yR (x:Nat),E yR (vx:Nat)] 30)=U:=⟨_,rfl⟩;rw[b7] at D ZK ZT;rw[Lg] at D;have UT:=Fa ZK;have cr:=Fa ZT;have bb:we (L8.heap[b]? =I (yd #[E yR (x:Nat),E yR (vx:Nat)] 30 (0,0))):=D;clear cL ae ay IV zT f0 f1 cm cu bw f i b2 cM Y ZK ZT cl ct;obtain⟨f,i,b2⟩:=UT.o.box.cells;have p0:AJ L8 ⟨b,0,O⟩=I (E yR (x:Nat)):=(a8 L8 b 0 _ _ (0,0) D).trans rfl;have p1:AJ L8 ⟨b,1,O⟩=I (E yR (vx:Nat)):=(a8 L8 b 1 _ _ (0,0) D).trans rfl;have sY:=Fa (akb a aq c ca cb cc V L R x vx y L8 k UT.o.net K9 iW Og j3);clear D;go_wp2_with fail
    clear Lg b7;refine sY.o.af ?_;rintro e Jd ⟨dp,cp,rfl,b4,Tt⟩;have UR:=Fa (UT.o.step Tt);have cq:=Fa (cr.o.aa Tt);have bd:=Fa b4;have a6:we (Jd.heap[b]? =I (yd #[E yR (x:Nat),E yR (vx:Nat)] 30 (0,0))):=(Tt.block b (c5.1 bb.o).1).trans bb.o;clear b4 Tt sY UT cr bb f i b2 p0 p1 c0 c7 yF;obtain⟨f,i,b2⟩:=UR.o.box.cells;obtain⟨gv,ov,bv,cv,rfl,F2,v0,v1, -⟩:=UR.o.net.net.Fd y Og;have jC:V[y].2.length=sz (ah V) y:=(Hx Og).symm;rw[jC] at v1;(have N2:(y:Int)<(Z V:Int):=al);have fD:fj (ah V) (Z V) [(x,vx)]:=⟨aE,fun p hp=>by rw[bD.1 hp];exact K9,fun p hp=>by rw[bD.1 hp];exact iW⟩;have Zy:Up [(y:Int)] (Z V):=dY.2 ⟨fun v hv=>by rw[bD.1 hv];omega,EW _ _⟩;have bo:=ar4 (L:=L) (R:=R) k fD Zy;have ad:=Ue (V:=V) (L:=L) (R:=R) [(x,vx)] y;have cw:=k.szs y;have bs:=al8 dp cp (lX V L R [(x,vx)] [(y:Int)] []) Jd bd.o bo.1 bo.2 al;rw[ar3 k.ok fD Zy,ad] at bs;have tS:we (c6 28 #[J dp (sz (ah V) y) cp] Jd fun e w'=>e=yk (zp #[zd (aV 1),zX (nu 1),zX (de 1)])/\da Jd w'):=bs;have rM:we (∀U:wA,c6 29 #[E yR 1] U fun e w'=>e=yk (zp #[zd (aV 1),zX (nu 1),zX (de 1)])/\da U w'):=fun U=>amc U;clear bo ad bs jC fD Zy;go_wp2_with fail
    refine tS.o.af ?_;rintro e cR ⟨rfl,OY⟩;have ck:=Fa (UR.o.step OY);go_wp2_with fail
    refine(rM.o _).af ?_;rintro e Gn ⟨rfl,OX⟩;have Jn:=Fa (ck.o.step OX);have bf:=Fa ((cq.o.aa OY).aa OX);have cn:=Fa ((bd.o.aa OY).aa OX);have aW:we (cR.heap[b]? =I (yd #[E yR (x:Nat),E yR (vx:Nat)] 30 (0,0))):=(OY.block b (c5.1 a6.o).1).trans a6.o;have UY:we (Gn.heap[b]? =I (yd #[E yR (x:Nat),E yR (vx:Nat)] 30 (0,0))):=(OX.block b (c5.1 aW.o).1).trans aW.o;clear OY OX tS rM UR ck cq bd a6 aW f i b2 v0 v1 F2;go_wp2_with fail
    (have pz:x<Z L:=by have:=(fK k.ok).len;omega);obtain⟨gp,P,bx,cx,rfl,im,uC,vD⟩:=Jn.o.net.net.pars x pz;have Tr:=Jn.o.net.ls x pz gp P bx _ cx rfl uC;obtain⟨K,av⟩:∃l,L[x]=l:=⟨_,rfl⟩;have Y2:L.getD x []=K:=(getD_at pz).trans av;rw[av] at uC vD;(have IH:∀l∈L,Z l<=1000:=fun l hl=>by have:=k.few l hl;omega);(have b8:Z K<=1000:=by rw[<- av];exact IH _ (bQ pz));obtain⟨r1,r2,YN⟩:∃r1 r2,rH L x y K=(r1,r2):=⟨_,_,rfl⟩
    have Vx:we (∀U:wA,da Gn U ->c6 30 #[J (I ⟨gp,P,O⟩) (Z L) cb,E yR (x:Nat),E yR (y:Nat),J bx (Z K) cx] U fun e w'=>e=yk (zz #[zd r1,E yR r2])/\da U w'):=fun U B6=>by
     have:=aim (I ⟨gp,P,O⟩) bx cb cx L x y K U ((Jn.o.net.net.pars).aa B6) IH (vD.aa B6) Tr b8;rw[YN] at this;exact this
    have cS:we (¬y∈ag K ->r1=xq/\r2=0):=fun db=>by
     (have h8:Z L<=8:=by have:=(fK k.ok).len;omega);have:=atr k.ok h8 K9 Og j3 (by rw[Y2];exact db);rw[Y2,YN] at this;cases this;exact⟨rfl,rfl⟩
    have cW:=Fa vD;have Mi:we (gp<Gn.heap.size/\Gn.cell? ⟨gp,P+x,O⟩=I (J bx (Z K) cx)):=⟨im,uC⟩;(have SL:(x:Int)<(Z L:Int):=al)
    have bT:we (Up K (Z V)):=by
     have h:=(fK k.ok).up x pz;rw[av] at h;exact h
    have Qs:=Fa IH;clear av Y2 IH b8 YN uC vD Tr im;have cF:=(aw Gn.heap.size Gn).drew;have H:=Fa cF;refine iD (S:=fun u=>AJ u ⟨B,1,O⟩=I (J (I ⟨gp,P,O⟩) (Z L) cb)/\u.cell? ⟨gp,P+x,O⟩=I (J bx (Z K) cx)) ao ⟨(Jn.o.step H.o).box.cells.2.1,(H.o.cell (p:=⟨gp,_,O⟩) Mi.o.1).trans Mi.o.2⟩ (fun uJ=>?_);clear cF;generalize Gn.drew=y0 at *;refine au 0 (zZ (I ⟨B,1,O⟩)) ?_;refine au 1 (J (I ⟨gp,P,O⟩) (Z L) cb) ?_;refine au 2 (E yR (x:Nat)) ?_;refine au 3 (E yR (y:Nat)) ?_;refine au 4 (zZ (I ⟨B,1,O⟩)) ?_;refine au 5 (J (I ⟨gp,P,O⟩) (Z L) cb) ?_;refine au 6 (E yR (x:Nat)) ?_;refine au 7 (zZ (I ⟨gp,P+x,O⟩)) ?_;refine au 8 (J bx (Z K) cx) ?_;refine aG [9] (cA ?_ aH)
    ·intro K' cy;go_simp;refine(Vx.o _ H.o).af ?_;rintro e y1 ⟨rfl,B2⟩;replace H:=Fa (H.o.trans (B2.af H.o.size));refine cy.o _ _ ⟨(Jn.o.step H.o).box.cells.2.1,(H.o.cell (p:=⟨gp,_,O⟩) Mi.o.1).trans Mi.o.2⟩ (fun c9=>?_);clear cy K' uJ B2 Vx;refine au 10 ((zz #[zd r1,E yR r2])) ?_;refine au 11 (zd r1) ?_;refine au 12 (E yR r2) ?_;refine au 13 (zd r1) ?_;refine au 14 (E yR r2) ?_;(try simp only[gE,aP]);refine eV ao ?_ _;clear c9;have cj:=Fa (Jn.o.step H.o);obtain⟨f,i,b2⟩:=cj.o.box.cells;have uC:=(H.o.cell (p:=⟨gp,P+x,O⟩) Mi.o.1).trans Mi.o.2;have dd:Z K<=6:=Hr bT.o zO;go_wp2_with fail
     refine(adl (y:Nat) bx cx K _ (cW.o.aa H.o) al).af ?_;rintro e y2 ⟨rfl,dc⟩;subst dc;clear f i b2 uC cj;have Mf:=Fa (Jn.o.step H.o);obtain⟨f,i,b2⟩:=Mf.o.box.cells
     have TG:fZ V x y (py U1 [(x:Int),(y:Int)]):=by
      have cH:∀u:Nat,u=x∨u=y ->¬u∈ag (py U1 [(x:Int),(y:Int)]):=fun u hu hm=>by
       obtain⟨q,D,e⟩:=aQ.1 hm;obtain⟨ry,nI⟩:=cU.1 D;have vB:=((dY.1 bO.o).1 q ry).1;(have YO:q=(u:Int):=al);subst YO;rcases hu with rfl |rfl<;>simp[jQ] at nI
      exact⟨K9,Og,aj7 bO.o,j3,cH x (yp rfl),cH y (xS rfl)⟩
     have Mt:=Fa TG;obtain⟨bu,eI⟩:=ar8 k.ok TG;obtain⟨r3,br⟩:∃r3,rH L x y (py U1 [(x:Int),(y:Int)])=(r3,0):=⟨_,by rw[rH,aA bu]⟩;have di:=Hr TG.hz zO
     have Vw:we (∀U:wA,da y2 U ->c6 30 #[J (I ⟨gp,P,O⟩) (Z L) cb,E yR (x:Nat),E yR (y:Nat),J d2 (Z (py U1 [(x:Int),(y:Int)])) k2] U fun e w'=>e=yk (zz #[zd r3,E yR 0])/\da U w'):=fun U B6=>by
      have:=aim (I ⟨gp,P,O⟩) d2 cb k2 L x y (py U1 [(x:Int),(y:Int)]) U ((Mf.o.net.net.pars).aa B6) Qs.o ((bf.o.aa H.o).aa B6) bg.o al;rw[br] at this;exact this
     have jd:=Fa br;have bN:=Fa bu;have rO:=Fa eI;clear TG bu eI br;cases hin:jQ (y:Int) K with
     |true=>
      go_wp2_with fail
      refine(Vw.o _ (aw _ _)).af ?_;rintro e M ⟨rfl,B2⟩;have T:=Fa (Mf.o.step B2);have Ci:=Fa (H.o.trans (B2.af H.o.size));clear B2 f i b2 Vw Mf H;obtain⟨f,i,b2⟩:=T.o.box.cells;cases r3 with
      |false=>
       go_wp2_with fail
       go_ret;exact⟨rfl,T.o.fr⟩
      |true=>
       have wZ:M.heap[b]? =I (yd #[E yR (x:Nat),E yR (vx:Nat)] 30 (0,0)):=(Ci.o.block b (c5.1 UY.o).1).trans UY.o;have p0:AJ M ⟨b,0,O⟩=I (E yR (x:Nat)):=(a8 M b 0 _ _ (0,0) wZ).trans rfl;have p1:AJ M ⟨b,1,O⟩=I (E yR (vx:Nat)):=(a8 M b 1 _ _ (0,0) wZ).trans rfl;have fD:fj (ah V) (Z V) [(x,vx)]:=⟨aE,fun p hp=>by rw[bD.1 hp];exact K9,fun p hp=>by rw[bD.1 hp];exact iW⟩;have JL:=Fa (ain _ _ c d2 ca cb cc k2 V L R x vx y (py U1 [(x:Int),(y:Int)]) M T.o.net Qs.o (bf.o.aa Ci.o) bg.o (RQ k.ok fD).1 bN.o rO.o (Xf k.ok Mt.o.q).1 (aiL k Mt.o iW jd.o));clear wZ fD;go_wp2_with fail
       refine JL.o.af ?_;rintro e y4 ⟨⟨d4,n4,c4,k4,rfl,bp,an⟩,Q⟩;have ab:=T.o.fr.trans (Q.af T.o.fr.size);rcases bp with rfl |rfl
       ·obtain⟨Dv,rfl,aj⟩:=an rfl;rw[ahF k Mt.o iW jd.o Dv] at aj;have cw:=k.szs y;have ad:=Ue (V:=V) (L:=L) (R:=R) [(x,vx)] y;have Ix:=ace dp d4 cp c4 (lX V L R [(x,vx)] [(y:Int)] []) y4 ((cn.o.aa Ci.o).aa Q) aj al;rw[ad] at Ix;have k6:=Fa Ix;have AP:=Fa ab;clear an Dv aj Ix ad Q ab f i b2 p0 p1 JL;go_wp2_with fail
        refine k6.o.af ?_;rintro e y5 ⟨rfl,ar⟩;have JH:=Fa (AP.o.trans (ar.af AP.o.size));clear ar;go_wp2_with fail
        go_ret;exact⟨rfl,JH.o⟩
       ·have AP:=Fa ab;clear an Q ab f i b2 p0 p1 JL;go_wp2_with fail
        go_ret;exact⟨rfl,AP.o⟩
     |false=>
      obtain⟨rfl,rfl⟩:=cS.o (fun hm=>by
       obtain⟨q,D,e⟩:=aQ.1 hm;have vB:=((dY.1 bT.o).1 q D).1;(have YO:q=(y:Int):=al);subst YO;(have:jQ (y:Int) K=true:=by simp[jQ,D]);rw[this] at hin;cases hin)
      go_wp2_with fail
      refine(Vw.o _ (aw _ _)).af ?_;rintro e M ⟨rfl,B2⟩;have T:=Fa (Mf.o.step B2);have Ci:=Fa (H.o.trans (B2.af H.o.size));clear B2 f i b2 Vw Mf H;obtain⟨f,i,b2⟩:=T.o.box.cells;cases r3 with
      |false=>
       go_wp2_with fail
       go_ret;exact⟨rfl,T.o.fr⟩
      |true=>
       have wZ:M.heap[b]? =I (yd #[E yR (x:Nat),E yR (vx:Nat)] 30 (0,0)):=(Ci.o.block b (c5.1 UY.o).1).trans UY.o;have p0:AJ M ⟨b,0,O⟩=I (E yR (x:Nat)):=(a8 M b 0 _ _ (0,0) wZ).trans rfl;have p1:AJ M ⟨b,1,O⟩=I (E yR (vx:Nat)):=(a8 M b 1 _ _ (0,0) wZ).trans rfl;have fD:fj (ah V) (Z V) [(x,vx)]:=⟨aE,fun p hp=>by rw[bD.1 hp];exact K9,fun p hp=>by rw[bD.1 hp];exact iW⟩;have JL:=Fa (ain _ _ c d2 ca cb cc k2 V L R x vx y (py U1 [(x:Int),(y:Int)]) M T.o.net Qs.o (bf.o.aa Ci.o) bg.o (RQ k.ok fD).1 bN.o rO.o (Xf k.ok Mt.o.q).1 (aiL k Mt.o iW jd.o));clear wZ fD;go_wp2_with fail
       refine JL.o.af ?_;rintro e y4 ⟨⟨d4,n4,c4,k4,rfl,bp,an⟩,Q⟩;have ab:=T.o.fr.trans (Q.af T.o.fr.size);rcases bp with rfl |rfl
       ·obtain⟨Dv,rfl,aj⟩:=an rfl;rw[ahF k Mt.o iW jd.o Dv] at aj;have cw:=k.szs y;have ad:=Ue (V:=V) (L:=L) (R:=R) [(x,vx)] y;have Ix:=ace dp d4 cp c4 (lX V L R [(x,vx)] [(y:Int)] []) y4 ((cn.o.aa Ci.o).aa Q) aj al;rw[ad] at Ix;have k6:=Fa Ix;have AP:=Fa ab;clear an Dv aj Ix ad Q ab f i b2 p0 p1 JL;go_wp2_with fail
        refine k6.o.af ?_;rintro e y5 ⟨rfl,ar⟩;have JH:=Fa (AP.o.trans (ar.af AP.o.size));clear ar;go_wp2_with fail
        go_ret;exact⟨rfl,JH.o⟩
       ·have AP:=Fa ab;clear an Q ab f i b2 p0 p1 JL;go_wp2_with fail
        go_ret;exact⟨rfl,AP.o⟩
open Go.ChangeShapes Go.WideShapes Go.ChangeAt
variable {fn:Func}
theorem aps {H:Type} {enc:TypeId×wQ ->H} {a:Assume} {C:Checked} {os:Os} {f:FuncId} {s:ChangeSpec} {c:List PathCond} {r d B2 n:Bool} {X:wA ->Array wQ ->Prop}
  (k:∀(w w':wA) (g:Array wQ),w.heap=w'.heap ->X w g ->X w' g)
  (own:ownKnob C.prog.godebug=O) (K:os.Started) (o:C.prog.inits.idxOf? f=O) (A:C.prog.funcs[f]? =I fn)
  (L:∃(w:wA) (p:Tape) (i:Input),w.os=os/\(w.forCall p i).Shaped C.prog/\i.vars=[]/\Input.okWide C.prog (w.forCall p i) .any w.heap.size f i/\
   ((s.pre enc C.prog fn c r (w.forCall p i).memory i.args/\X (w.forCall p i).memory i.args)/\sizedMet enc C.prog fn (OpenSpec.ofChange s) r (w.forCall p i).memory i.args)/\a.holds C.prog (lone (Frame.enter C.prog f i.args .normal) [] (w.forCall p i)))
  (B6:∀(W:wA) (D:Nat) (g:Array wQ) (ds gs:List (DataW H)) (b:List MemPlace),
   (∀(j:Nat) t v,fn.params[j]? =I t ->g[j]? =I v ->Value.okWide C.prog W .any D t v) ->
   DataW.Whole enc C.prog fn.params.toList s.vars r W g.toList ds gs b ->
   (DataW.weightsEach C.prog (fn.params.toList++s.plain.varTypes C.prog) (ds++gs)).all (·<=reachBytes)=xq ->X W g ->W.ShapedOpen C.prog ->
   Calls C.prog f g W fun e W'=>∃v,e=yk v/\s.post enc C.prog fn r d B2 n W g v W'):
  ReturnsInHanded a C os f .any (fun w g=>(s.pre enc C.prog fn c r w g/\X w g)/\sizedMet enc C.prog fn (OpenSpec.ofChange s) r w g) (s.post enc C.prog fn r d B2 n):=by
 refine returnsInHanded_of_calls own K o L ?_;intro w p i _ u _ F B9 _;obtain⟨_,_,_,y,q,_,_,_,_,B7⟩:=F;obtain rfl:y=fn:=kg (q.symm.trans A);obtain⟨⟨⟨ds,gs,b,h,_⟩,x⟩,z⟩:=B9;refine(B6 (w.forCall p i) w.heap.size i.args ds gs b B7 (DataW.Whole.of_heap (w':=w.forCall p i) (by rfl) h) (z.weights h) (k _ _ _ (by rfl) x) u).af fun e W' ⟨v,l,m⟩=>?_;subst l;exact ChangeSpec.post_blind m
variable {w:wA}
theorem as8 {a:Addr} {v:wQ} (h:AJ w a=I v):a.block<w.heap.size:=by
 rcases dR a.block w.heap.size with b |b
 ·exact b
 ·simp[World.cell?,Array.getElem?_eq_none b] at h
variable {l:Kx} {j:Nat}
def yo {H:Type} (x:Int):DataW H:=.lit (.int .i64 x)
theorem as6:prog.cellsOf 3=1:=ao
theorem Rk {H:Type} {enc:TypeId×wQ ->H} {W:wA} {fuel:Nat} {t:List wQ} {x:DataW H×List MemPlace} (K:DataW.trod enc prog W 0 (fun _=>xq) xq fuel 27 t=I x):
  ∃(a:Kd) (cap:Nat) (l:Kx),t=[J a (Z l) cap]/\aC W a l/\(a=O ->cap=0)/\((x.1=.nil/\l=[])∨∃rest,x.1=.slice (l.map yo) rest)/\∀y∈l, -9223372036854775808<=y/\y<=9223372036854775807:=by
 rcases Deep.open_slice underlying27 K with ⟨s,q⟩ |⟨o,b,cap,m,n,D,S,s,T,U,V,P,q,u⟩
 ·exact⟨O,0,[],s,fun k p=>absurd p aE,fun _=>rfl,yp ⟨by rw[q],rfl⟩,fun _ h=>by cases h⟩
 ·have X:b<=m:=by rw[P];split<;>omega
  rw[as6] at u
  have Q:∀i,i<b ->∃z:Int,(AJ W (o.add (i*1))=I (E yR z)/\ -9223372036854775808<=z/\z<=9223372036854775807)/\D i=yo z:=by
   intro i c;obtain⟨B1,B7,B6⟩:=u i al;obtain⟨_,aa,R⟩:=World.cells?_some B7;obtain⟨z,B9,v,w⟩:=DataW.trod_int underlying3 B6;subst B9;simp only[Prod.mk.injEq] at v;have g:=R 0 al;rw[Deep.add_add] at g;exact⟨z,⟨by simpa using g,bounds_i64 w⟩,v.1⟩
  obtain⟨f,d⟩:=Deep.choose_lt (α:=Int) Q;refine⟨I o,cap,(List.range b).map f,by rw[s];simp,?_,fun e=>by(cases e),xS ⟨(List.range (m - b)).map fun j=>D (b+j),?_⟩,?_⟩
  ·intro k p;(have F:k<b:=by simpa using p);obtain⟨⟨g,_⟩,_⟩:=d k F;obtain⟨⟨B2,_⟩,_⟩:=d 0 al;have r:=World.cell?_spot B2;obtain⟨A,M,Y⟩:=o;rw[oY] at r;simp[Addr.add] at r;subst r;rw[WideShapes.add_plain] at g;refine⟨A,M,rfl,as8 g,?_⟩;simpa using g
  ·rw[q];show DataW.slice _ _=DataW.slice _ _;congr 1
   rw[AZ];exact qh fun i c=>(d i (bR.1 c)).2
  ·intro y L;obtain⟨i,c,rfl⟩:=aQ.1 L;exact(d i (bR.1 c)).1.2
theorem open_ints {H:Type} {enc:TypeId×wQ ->H} {W:wA} {r:Reach} {b:Nat} {v:wQ} {d:DataW H} {p:List MemPlace} (k:Value.okWide prog W r b 27 v) (h:DataW.Trod enc prog W 0 (fun _=>xq) xq 27 v d p):
  ∃(a:Kd) (cap:Nat) (l:Kx),v=J a (Z l) cap/\aC W a l/\(a=O ->cap=0)/\((d=.nil/\l=[])∨∃rest,d=.slice (l.map yo) rest)/\∀x∈l, -9223372036854775808<=x/\x<=9223372036854775807:=by
 obtain⟨a,n,cap,rfl⟩:=okWide_slice underlying27 k;obtain⟨u,g⟩:=h;obtain⟨m,o,l,c,i,e,f,j⟩:=Rk g;simp[Value.cells] at c;obtain⟨rfl,rfl,rfl⟩:=c;exact⟨a,cap,l,rfl,i,e,f,j⟩
theorem atj:prog.bytesOf 3=8:=ao
theorem Ry {H:Type} {s:List TypeId} {ds:List (DataW H)} (h:(DataW.weightsEach prog s ds).all (·<=reachBytes)=xq) {d:DataW H} (t:s[j]? =I 27) (c:ds[j]? =I d) (e:(d=.nil/\l=[])∨∃rest,d=.slice (l.map yo) rest):
  l.length<=140737488355328:=by
 rcases e with ⟨_,rfl⟩ |⟨rest,rfl⟩
 ·simp
 have b:=fG.1 h _ (DataW.weights_mem_each t c ((Z (l.map (yo (H:=H)))+Z rest)*prog.bytesOf 3) (by simp[DataW.weights,underlying27]));have a:(Z (l.map (yo (H:=H)))+Z rest)*prog.bytesOf 3<=reachBytes:=by simpa using b
 rw[atj,dm] at a;simp only[reachBytes] at a;omega
theorem as4:prog.cellsOf 47=4:=ao
theorem as5:prog.cellsOf 27=1:=ao
theorem as7:prog.cellsOf 4=1:=ao
theorem anG {H:Type} {enc:TypeId×wQ ->H} {W:wA} {r:Reach} {u:Nat} {v:wQ} {d:DataW H} {p:List MemPlace} (B1:Value.okWide prog W r u 47 v) (h:DataW.Trod enc prog W 0 (fun _=>xq) xq 47 v d p):
  ∃(b c e:Kd) (f g i:Nat) (L L2 a:Kx) (bk:Bool) (j k n z:DataW H),v=zp #[J b (Z L) f,J c (Z L2) g,J e (Z a) i,zd bk]/\d=.agg [j,k,n,z]/\aC W b L/\aC W c L2/\aC W e a/\
   ((j=.nil/\L=[])∨∃rest,j=.slice (L.map yo) rest)/\((k=.nil/\L2=[])∨∃rest,k=.slice (L2.map yo) rest)/\((n=.nil/\a=[])∨∃rest,n=.slice (a.map yo) rest)/\
   (∀x∈L, -9223372036854775808<=x/\x<=9223372036854775807)/\(∀x∈L2, -9223372036854775808<=x/\x<=9223372036854775807)/\(∀x∈a, -9223372036854775808<=x/\x<=9223372036854775807):=by
 obtain⟨w,rfl,s⟩:=okWide_struct underlying47 B1;rw[as4] at s;obtain⟨l⟩:=w;match l,s with
 |[c0,f,g,i],_=>
  obtain⟨aa,R⟩:=h;obtain⟨y0,y1,y2,y3,m,o,_,q,y,t,K⟩:=Go.Joins.trod_struct4 underlying47 R;simp[Value.cells,as5,as7] at q y t K;obtain⟨b,S,L,A,B2,_,B7,V⟩:=Rk q;obtain⟨c,T,L2,D,P,_,B6,X⟩:=Rk y;obtain⟨e,U,a,B9,Q,_,M,Y⟩:=Rk t;obtain⟨nn,F,rfl⟩:=DataW.trod_bool underlying4 K;obtain rfl:c0=_:=by simpa using A
  obtain rfl:f=_:=by simpa using D
  obtain rfl:g=_:=by simpa using B9
  obtain rfl:i=_:=by simpa using F
  simp only[Prod.mk.injEq] at o;exact⟨b,c,e,S,T,U,L,L2,a,_,_,_,_,_,rfl,o.1,B2,P,Q,B7,B6,M,V,X,Y⟩
theorem alh {H:Type} {s:List TypeId} {ds:List (DataW H)} (h:(DataW.weightsEach prog s ds).all (·<=reachBytes)=xq) {L L2 c:Kx} {d a b f:DataW H} (t:s[j]? =I 47) (k:ds[j]? =I (.agg [d,a,b,f])) (h1:(d=.nil/\L=[])∨∃rest,d=.slice (L.map yo) rest) (g:(a=.nil/\L2=[])∨∃rest,a=.slice (L2.map yo) rest) (i:(b=.nil/\c=[])∨∃rest,b=.slice (c.map yo) rest):
  L.length<=140737488355328/\L2.length<=140737488355328/\c.length<=140737488355328:=by
 have e:(DataW.weightsEach prog [27,27,27,4] [d,a,b,f]).all (·<=reachBytes)=true:=by
  rw[fG];intro n l;refine fG.1 h _ (DataW.weights_mem_each t k n ?_);simp only[DataW.weights,underlying47];exact l
 exact⟨Ry e (j:=0) rfl rfl h1,Ry e (j:=1) rfl rfl g,Ry e (j:=2) rfl rfl i⟩
variable {W':wA}
theorem ait {H:Type} {enc:TypeId×wQ ->H} {P:Program} (l:laidOutB P=xq) {W:wA} (a:da W W'):∀ {s:List TypeId} {vs:List wQ} {ds:List (DataW H)} {c:List MemPlace},
  (s.all fun t=>P.readableRec t&&decide (t<P.types.size))=xq ->DataW.TrodAll enc P W 0 (fun _=>xq) xq s vs ds c ->DataW.TrodAll enc P W' 0 (fun b=>decide (b<W.heap.size)) xq s vs ds c
 |[],[],[],_,_,h=>h
 |t::s,v::vs,d::ds,_,ht,⟨p,q,h,hr,e⟩=>by
  rw[List.all_cons,iI,iI] at ht;refine⟨p,q,Below.trod l ht.1.1 (mS ht.1.2) h a ?_,ait l a ht.2 hr,e⟩;obtain⟨m,f⟩:=h;exact DataW.trod_lt m _ _ _ f
 |[],_::_,_,_,_,h=>by simp[DataW.TrodAll] at h
 |[],[],_::_,_,_,h=>by simp[DataW.TrodAll] at h
 |_::_,[],_,_,_,h=>by simp[DataW.TrodAll] at h
 |_::_,_::_,[],_,_,h=>by simp[DataW.TrodAll] at h
end Go.Proofs.YtkflnpjapgiajaaGreatDoor
