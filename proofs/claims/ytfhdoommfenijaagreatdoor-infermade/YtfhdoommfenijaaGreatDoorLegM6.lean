/- Part6: part 6. -/
import Derived.Test.YtfhdoommfenijaaGreatDoorLegM5
set_option maxRecDepth 100000
set_option maxHeartbeats 400000000
set_option linter.unusedSimpArgs false
set_option linter.unusedVariables false
namespace Go.Proofs.YtfhdoommfenijaaGreatDoor
open Go.RowKit Go.Shelf Go.Lib
variable {l:List Int} {x y:Value} {w:World}
theorem ap5 (q:Option Addr) (c:Nat) (V:List Vr) (Q:List Int) (w:World) (s:Option Addr) (a:Nat) (h:az w s (iL (ah V))) (d:az w q Q) (e:Q.length<=1000) (f:V.length<=5000):
  c6 14 #[.slice s V.length a,.slice q Q.length c] w (da w (.tuple #[.int .i64 (gM (iL (ah V)) Q).1,.int .i64 (gM (iL (ah V)) Q).2])):=by
 have b:(iL (ah V)).length=V.length:=by rw[ba,ix]
 have:=Uf s q a c (iL (ah V)) Q w h d (by rw[b];omega) al;rwa [b] at this
theorem ajk (a b c q f:Option Addr) (ca cb cc I cf:Nat) (V:List Vr) (L:List (List Int)) (R:List (List Fr)) (Q:List Int) (F:List (Int×Int)) (w:World) (h:gO w a b c V L R) (y:tK V L R) (X:az w q Q) (hQ:Q.length<=1000) (T:jf w f F) (hn:F.length<=1000):
  c6 46 #[.agg #[.slice a V.length ca,.slice b L.length cb,.slice c R.length cc],.slice q Q.length I,.slice f F.length cf] w (da w (.int .i64 (jd V L R Q F))):=by
 have qg:=hid (fun (U:World) (d:c8 w U)=>Ud a b c f ca cb cc cf V L R F U (h.aa d) y (T.aa d) hn);have eD:=hid (fun (U:World) (d:c8 w U)=>PN a b c ca cb cc L.length R.length V U (h.aa d).vars y.vars.1);have zR:=hid (fun (s:Option Addr) (J:Nat) (U:World) (d:c8 w U) (k:az U s (iL (ah V)))=>ap5 q I V Q U s J k (X.aa d) hQ y.vars.1);have FH:=hid (fun (x:Int) (U:World) (d:c8 w U)=>PQ x q I Q U (X.aa d) al);have Oy:=hid (fun (U:World) (d:c8 w U)=>T.aa d);obtain⟨m,u⟩:∃m,jd V L R Q F=m:=⟨_,rfl⟩;have M:Hid (bY V L R F≠0 ->bY V L R F=m):=fun e=>by rw[<- u,jd,aB e]
 have P:Hid (bY V L R F=0 ->(gM (iL (ah V)) Q).2≠0 ->(gM (iL (ah V)) Q).2=m):=fun e r=>by rw[<- u,jd,aA e,aB r]
 have O:Hid (bY V L R F=0 ->(gM (iL (ah V)) Q).2=0 ->∀i (k:i<F.length),gJ F[i].1 Q=true ->7=m):=fun e r i k S=>by rw[<- u,jd,aA e,aA r,aA (tX.2 ⟨F[i],bB k,S⟩)]
 have E:Hid (bY V L R F=0 ->(gM (iL (ah V)) Q).2=0 ->(∀i (k:i<F.length),gJ F[i].1 Q=false) ->0=m):=fun e r S=>by
  rw[<- u,jd,aA e,aA r,aB];rw[Ad,KZ];intro p hp;obtain⟨i,k,rfl⟩:=ij hp;rw[S i k];decide
 rw[u];have z:=hid ((aw w.heap.size w).alloc (ar _) (NC (.slice a V.length ca) (.slice b L.length cb) (.slice c R.length cc)));have D:=hid (cT.at (w:=w) rfl (.slice a V.length ca) (.slice b L.length cb) (.slice c R.length cc));obtain⟨Y,n1,n2⟩:=D.o.cells;clear h y X T u;generalize bY V L R F=fe at *;go_enter Tryz.func46,Tryz.ntmps46;go_wp2_with fail
 generalize (w.alloc (NC (.slice a V.length ca) (.slice b L.length cb) (.slice c R.length cc)))=w1 at *;refine(qg.o w1 z.o).af ?_;rintro e w2 ⟨rfl,ab⟩;have o:=hid (z.o.trans (ab.af z.o.size));have fQ:=hid (D.o.aa ab D.o.lt);clear Y n1 n2 ab z D qg;by_cases v:fe=0
 ·subst v;have zQ:=hid (P.o rfl);have zP:=hid (O.o rfl);have Z:=hid (E.o rfl);obtain⟨Y,n1,n2⟩:=fQ.o.cells;clear M P O E;go_wp2_with fail
  refine(eD.o w2 o.o).af ?_;rintro e w3 ⟨s,J,rfl,ak,ad⟩;have t:=hid (o.o.trans (ad.af o.o.size));have mM:=hid (zR.o s J w3 t.o ak);clear Y n1 n2 ad o fQ eD zR ak;generalize (gM (iL (ah V)) Q).1=c1 at *;generalize (gM (iL (ah V)) Q).2=c2 at *;go_wp2_with fail
  refine mM.o.af ?_;rintro e w4 ⟨rfl,ai⟩;have K:=hid (t.o.trans (ai.af t.o.size));clear ai t mM;by_cases A:c2=0
  ·subst A;have OC:=hid (zP.o rfl);have an:=hid (Z.o rfl);clear zQ zP Z;go_wp2_with fail
   go_loopw [8] (fun iv wr=>∃i:Nat,i<=F.length/\iv=.int .i64 i/\Hid (∀j (l:j<F.length),j< i ->gJ F[j].1 Q=false)/\Hid (c8 w wr)) (fun iv _=>F.length - (intOf iv).toNat)
   case atStart=>exact⟨0,aS _,rfl,(fun j _ l=>absurd l al),K⟩
   case round=>
    obtain⟨i,k,rfl,HZ,n⟩:=hrel;clear K;by_cases aj:i<F.length
    ·obtain⟨g,aq,rfl,hg,k0,k1⟩:=Oy.o wr n.o i aj;have HX:=hid (FH.o F[i].1 wr n.o);have ao:=hid (OC.o i aj)
     have tL:Hid (gJ F[i].1 Q=false ->∀j (l:j<F.length),j<i+1 ->gJ F[j].1 Q=false):=fun e j l sF=>by
      rcases cF j i with h2 |h2
      ·exact HZ.o j l h2
      ·obtain rfl:j=i:=al
       exact e
     clear k1;generalize gJ F[i].1 Q=ib at *;generalize F[i].1=f1 at *;go_wp2_with fail
     refine HX.o.af ?_;rintro e w5 ⟨rfl,rfl⟩;clear HX k0;cases ib with
     |true=>
      have H:=hid (ao.o rfl);go_wp2;go_ret;exact⟨by rw[<- H.o];rfl,n.o⟩
     |false=>
      have H:=hid (tL.o rfl);go_wp2;go_roundw
      case rel=>exact⟨i+1,al,bd,H,n⟩
      case measure=>simp[intOf];omega
    ·obtain rfl:i=F.length:=al
     have H:=hid (an.o fun j l=>HZ.o j l l);go_wp2;go_ret;exact⟨by rw[<- H.o];rfl,n.o⟩
  ·have H:=hid (zQ.o A);(have kd:(c2==0)=false:=by simpa using A);clear A zQ zP Z;go_wp2;go_ret;exact⟨by rw[<- H.o];rfl,K.o⟩
 ·have H:=hid (M.o v);have kd:(fe==0)=false:=by simpa using v
  clear v M P O E;go_wp2;go_ret;exact⟨by rw[<- H.o];rfl,o.o⟩
theorem aix {B:Nat} {v:Value} (h:bA w B v l):∃d cd,v=.slice d l.length cd/\az w d l/\(d=none ->cd=0):=by
 rcases h.cases with ⟨rfl,rfl⟩ |⟨g,cap,rfl,_,a,_,_,b⟩
 ·exact⟨none,0,rfl,fun k f=>absurd f aE,fun _=>rfl⟩
 ·exact⟨_,_,rfl,EB b a fun j c=>⟨by simpa using c,aE⟩,fun e=>by cases e⟩
theorem di.tabA {t:Tb} (h:di w x y t) (k:Int):sI t.1 t.2 k (.returned (.tuple #[.agg #[x,y],.int .i64 k])) w:=by
 obtain⟨b,c,cb,cc,rfl,rfl,a,d,_⟩:=h;exact⟨b,c,cb,cc,rfl,a,d⟩
theorem aiZ (a b c q f:Option Addr) (ca cb cc u S:Nat) (V:List Vr) (L:List (List Int)) (R:List (List Fr)) (Q:List Int) (F:List (Int×Int)) (w:World) (h:xM w a b c V L R) (Y:az w q Q) (tB:q=none ->u=0) (hQ:Q.length<=1000) (hF:jf w f F) (hn:F.length<=1000):
  c6 21 #[.agg #[.slice a V.length ca,.slice b L.length cb,.slice c R.length cc],.slice q Q.length u,.slice f F.length S] w fun e w'=>sI (jR V L R Q F).1 (jR V L R Q F).2 (kV V L R Q F) e w'/\c8 w w':=by
 have ak:=hid (fun (U:World) (n:c8 w U)=>ajk a b c q f ca cb cc u S V L R Q F U (h.net.aa n) h.sm (Y.aa n) hQ (hF.aa n) hn)
 have He:jd V L R Q F=0 ->aY V L R=0/\F=zF (nF F)/\lV (ah V) V.length (nF F)/\Up Q V.length:=fun e=>by
  rw[jd] at e;by_cases l:bY V L R F=0
  ·rw[aA l] at e;obtain⟨j,A,e3⟩:=rK l;by_cases h2:(gM (iL (ah V)) Q).2=0
   ·exact⟨j,A,e3,XU h2⟩
   ·rw[aB h2] at e;exact absurd e h2
  ·rw[aB l] at e;exact absurd e l
 have zq:Hid (jd V L R Q F=0 ->∀U:World,c8 w U ->c6 47 #[.agg #[.slice a V.length ca,.slice b L.length cb,.slice c R.length cc],.slice q Q.length u,.slice f F.length S] U fun e w'=>∃d cd,e=.returned (.slice d (dF V L R Q (nF F)).2.length cd)/\cG w' d (dF V L R Q (nF F)).2/\c8 U w'):=fun e U n=>by
  obtain⟨t,z,hl,Z⟩:=He e;have l:=hF.aa n;rw[z] at l;have:=aiP a b c q f ca cb cc u S V L R Q (nF F) U (h.net.aa n) h.wt t h.lt (Y.aa n) Z l hl (by rw[<- tY, <- z];exact hn) (h.few t);rw[<- tY, <- z] at this;exact this
 have po:Hid (jd V L R Q F=0 ->∀(d:Option Addr) (cd:Nat) (U:World),cG U d (dF V L R Q (nF F)).2 ->c6 48 #[.slice d (dF V L R Q (nF F)).2.length cd] U fun e w'=>((aX (dF V L R Q (nF F)).2=0/\e=.returned (.tuple #[.slice none 0 0,.int .i64 3]))∨(aX (dF V L R Q (nF F)).2≠0/\∃d cd,e=.returned (.tuple #[.slice d (iZ (dF V L R Q (nF F)).2).length cd,.int .i64 0])/\cG w' d (iZ (dF V L R Q (nF F)).2)))/\c8 U w'):=fun e d cd U n=>by
  obtain⟨t,z,hl,Z⟩:=He e;have h5:=TB t Z (nF F) (h.few t);exact aiV d cd _ U n (TD t h.lt Q (nF F)) (TA t h.lt Z (nF F)) al h5.2
 have fR:Hid (jd V L R Q F≠0 ->kV V L R Q F=jd V L R Q F/\jR V L R Q F=([],[])):=fun e=>by
  have j:kV V L R Q F=jd V L R Q F:=aB e;exact⟨j,by rw[jR,j,aB e]⟩
 have eP:Hid (jd V L R Q F=0 ->aX (dF V L R Q (nF F)).2=0 ->kV V L R Q F=3/\jR V L R Q F=([],[])):=fun e A=>by
  have j:kV V L R Q F=3:=by rw[kV,aA e,aA A]
  exact⟨j,by rw[jR,j,aB a6]⟩
 have gA:Hid (jd V L R Q F=0 ->aX (dF V L R Q (nF F)).2≠0 ->kV V L R Q F=0/\jR V L R Q F=(Q,iZ (dF V L R Q (nF F)).2)):=fun e A=>by
  have j:kV V L R Q F=0:=by rw[kV,aA e,aB A]
  exact⟨j,by rw[jR,aA j]⟩
 have HQ:=hid Y;have Kp:=hid tB;generalize kV V L R Q F=pe at *;generalize jR V L R Q F=pt at *;generalize jd V L R Q F=ae at *;generalize (dF V L R Q (nF F)).2=T at *;clear h Y tB hF He
 have J:Hid (c8 w ((w.alloc (NC (.slice a V.length ca) (.slice b L.length cb) (.slice c R.length cc))).alloc (TC (.slice none 0 0) (.slice none 0 0)))):=by
  have l:=(aw w.heap.size w).alloc (ar _) (NC (.slice a V.length ca) (.slice b L.length cb) (.slice c R.length cc));exact l.alloc l.size _
 have nV:Hid (cT ((w.alloc (NC (.slice a V.length ca) (.slice b L.length cb) (.slice c R.length cc))).alloc (TC (.slice none 0 0) (.slice none 0 0))) w.heap.size (.slice a V.length ca) (.slice b L.length cb) (.slice c R.length cc)):=by
  have hN:=cT.at (w:=w) rfl (.slice a V.length ca) (.slice b L.length cb) (.slice c R.length cc);exact hN.aa ((aw _ _).alloc (ar _) (TC (.slice none 0 0) (.slice none 0 0))) hN.lt
 have pq:Hid (bs ((w.alloc (NC (.slice a V.length ca) (.slice b L.length cb) (.slice c R.length cc))).alloc (TC (.slice none 0 0) (.slice none 0 0))) (w.heap.size+1) (.slice none 0 0) (.slice none 0 0)):=bs.at (w:=w.alloc (NC (.slice a V.length ca) (.slice b L.length cb) (.slice c R.length cc))) aE _ _;obtain⟨n0,n1,n2⟩:=nV.o.cells;go_enter Tryz.func21,Tryz.ntmps21;go_wp2_with fail
 generalize ((w.alloc (NC (.slice a V.length ca) (.slice b L.length cb) (.slice c R.length cc))).alloc (TC (.slice none 0 0) (.slice none 0 0)))=W0 at *;refine(ak.o W0 J.o).af ?_;rintro e w2 ⟨rfl,ab⟩;have v:=hid (J.o.trans (ab.af J.o.size));have fQ:=hid (nV.o.aa ab nV.o.lt);have K:=hid (pq.o.aa ab pq.o.lt);clear n0 n1 n2 ab J nV pq ak;by_cases uw:ae=0
 ·subst uw;have ju:=hid (zq.o rfl w2 v.o);have gQ:=hid (po.o rfl);have zQ:=hid (eP.o rfl);have zP:=hid (gA.o rfl);obtain⟨n0,n1,n2⟩:=fQ.o.cells;clear fR eP gA zq po;go_wp2_with fail
  refine ju.o.af ?_;rintro e w3 ⟨d3,Hm,rfl,an,ad⟩;have df:=hid (v.o.trans (ad.af v.o.size));have jy:=hid (K.o.aa ad K.o.lt);have mM:=hid (gQ.o d3 Hm w3 an);clear n0 n1 n2 ad v K fQ ju gQ an;go_wp2_with fail
  refine mM.o.af ?_;rintro e i ⟨EI,ai⟩;have X:=hid (df.o.trans (ai.af df.o.size));have iE:=hid (jy.o.aa ai jy.o.lt);clear ai df jy mM;rcases EI with ⟨z,rfl⟩ |⟨z,y,I,rfl,Q5⟩
  ·obtain⟨r,s⟩:=zQ.o z;have D:=hid r;have P:=hid s;obtain⟨t0,t1,f0,f1⟩:=iE.o.facts;have H:=hid (iE.o.put (.slice none 0 0) (.slice none 0 0));have E:=hid (nN (g:=w.heap.size+1) X.o al (.slice none 0 0) (.slice none 0 0));clear r s z zQ zP;go_wp2;refine bD (H.o.result2 rfl _ rfl) rfl ?_;exact⟨by rw[D.o,P.o];exact sI.empty 3 _,E.o⟩
  ·obtain⟨r,s⟩:=zP.o z;have D:=hid r;have P:=hid s;have pC:=hid Q5;have O:c8 i (i.alloc (.cells #[] 3)):=(aw _ i).alloc (ar _) _;have H5:Hid (bA (i.alloc (.cells #[] 3)) i.heap.size (.slice (some ⟨i.heap.size,0,none⟩) 0 0) []):=⟨rfl,.inr ⟨i.heap.size,0, #[],rfl,ar _,jg _ _,ar _,aS _,rfl,rfl⟩⟩;have ao:=hid ((HQ.o.aa X.o).aa O);have Ew:i.heap.size<=(i.alloc (.cells #[] 3)).heap.size:=O.size;have FP:=hid O
   have aq:Hid (∀(v':Value) (p:World),bA p i.heap.size v' Q ->(i.alloc (.cells #[] 3)).grownBy p (Value.ownBlock (.slice (some ⟨i.heap.size,0,none⟩) 0 0)) ->∃m x,v'=.slice m Q.length x/\di p (.slice m Q.length x) (.slice y (iZ T).length I) (Q,iZ T)/\bs p (w.heap.size+1) (.slice none 0 0) (.slice none 0 0)/\c8 w p):=fun v' p hr hg=>by
    have aj:c8 i p:=FP.o.grown hg Ew (fun k e=>by cases e;exact ar _);obtain⟨m,x,e5,Mm,av⟩:=aix hr;exact⟨m,x,e5,⟨m,y,x,I,rfl,rfl,Mm,pC.o.aa aj,av⟩,iE.o.aa aj iE.o.lt,X.o.trans (aj.af X.o.size)⟩
   clear r s z zQ zP Q5 O;go_wp2_with (at_builtin;refine wI rfl _ _ rfl i.heap.size _ [] Q rfl H5.o q u rfl ao.o Kp.o (by simp;omega) Ew ?_;intro v' p pS yK;rw[iI] at pS;obtain⟨m,x,rfl,xe,M,qI⟩:=aq.o v' p pS yK;obtain⟨t0,t1,f0,f1⟩:=M.facts;have H:=hid (M.put (.slice m Q.length x) (.slice y (iZ T).length I));have Hv:=hid (xe.putT M (slv _ _ _) (slv _ _ _) (slv m Q.length x) (.slice y (iZ T).length I));have E:=hid (nN (g:=w.heap.size+1) qI al (.slice m Q.length x) (.slice y (iZ T).length I));clear pS yK xe M qI)
   refine bD (H.o.result2 rfl _ rfl) rfl ?_;exact⟨by rw[D.o,P.o];exact Hv.o.tabA 0,E.o⟩
 ·obtain⟨r,s⟩:=fR.o uw;have D:=hid r;have P:=hid s;have kd:(ae==0)=false:=by simpa using uw
  obtain⟨t0,t1,f0,f1⟩:=K.o.facts;have H:=hid (K.o.put (.slice none 0 0) (.slice none 0 0));have E:=hid (nN (g:=w.heap.size+1) v.o al (.slice none 0 0) (.slice none 0 0));clear r s uw fR eP gA zq po;go_wp2;refine bD (H.o.result2 rfl _ rfl) rfl ?_;exact⟨by rw[D.o,P.o];exact sI.empty ae _,E.o⟩
theorem al8 (a:Option Addr) (ca f:Nat) (lb:Array Value) (F:List Int) (p:Int ->Bool) (w:World) (h:az w a F) (K:F.length<=1000) (I:∀v w,(callFunc f v).run Tryz.prog w=.ok (.enter f v) w)
  (t:∀q∈F,∀U:World,c8 w U ->c6 f (#[.int .i64 q]++lb) U fun e w'=>e=.returned (.bool (p q))/\c8 U w'):
  c6 78 #[.slice a F.length ca,.func (.func f) #[] lb] w fun e w'=>∃j:Int,e=.returned (.int .i64 j)/\decide (0<=j)=F.any p/\c8 w w':=by
 have y:=hid h;have P:=hid t
 have z:Hid ((∀i (c:i<F.length),p F[i]=false) ->F.any p=false):=fun d=>KZ.2 fun q D=>by
  obtain⟨i,c,rfl⟩:=ij D;rw[d i c];decide
 have x:Hid (∀i (c:i<F.length),p F[i]=true ->F.any p=true):=fun i c d=>tX.2 ⟨_,bB c,d⟩;clear h t;generalize F.any p=R at *;go_enter Tryz.func78,Tryz.ntmps78;go_wp2_with fail
 go_loopw [8] (fun iv wr=>∃i:Nat,i<=F.length/\iv=.int .i64 i/\Hid (∀j (b:j<F.length),j< i ->p F[j]=false)/\Hid (c8 w wr)) (fun iv _=>F.length - (intOf iv).toNat)
 case atStart=>exact⟨0,aS _,rfl,(fun j _ b=>absurd b al),aw _ _⟩
 case round=>
  obtain⟨i,c,rfl,m,H⟩:=hrel;by_cases l:i<F.length
  ·obtain⟨g,o,rfl,A,r⟩:=y.o i l;have L:=(H.o.cell (p:=⟨g,_,none⟩) A).trans r;have k:=hid (P.o F[i] (bB l) wr H.o);have Y:=hid (x.o i l)
   have T:Hid (p F[i]=false ->∀j (b:j<F.length),j<i+1 ->p F[j]=false):=fun e j b M=>by
    rcases cF j i with s |s
    ·exact m.o j b s
    ·obtain rfl:j=i:=al
     exact e
   clear r;generalize p F[i]=q at *;generalize F[i]=J at *;go_wp2_with fail
   refine k.o.af ?_;rintro e O ⟨rfl,u⟩;have n:=hid (H.o.trans (u.af H.o.size));clear u k;cases q with
   |true=>
    have E:=hid (Y.o rfl);go_wp2;go_ret;exact⟨(i:Nat),rfl,by rw[E.o];simp,n.o⟩
   |false=>
    have E:=hid (T.o rfl);go_wp2;go_roundw
    case rel=>exact⟨i+1,al,bd,E,n⟩
    case measure=>simp[intOf];omega
  ·obtain rfl:i=F.length:=al
   have E:=hid (z.o fun j b=>m.o j b b);go_wp2;go_ret;exact⟨-1,rfl,by rw[E.o];rfl,H.o⟩
theorem ao7 (a:Option Addr) (ca f:Nat) (lb:Array Value) (F:List Int) (p:Int ->Bool) (w:World) (h:az w a F) (n:F.length<=1000) (i:∀g w,(callFunc f g).run Tryz.prog w=.ok (.enter f g) w)
  (c:∀q∈F,∀U:World,c8 w U ->c6 f (#[.int .i64 q]++lb) U fun e w'=>e=.returned (.bool (p q))/\c8 U w'):
  c6 42 #[.slice a F.length ca,.func (.func f) #[] lb] w (da w (.bool (F.any p))):=by
 have I:=hid (al8 a ca f lb F p w h n i c);clear h c;generalize F.any p=R at *;go_enter Tryz.func42,Tryz.ntmps42;go_wp2_with fail
 refine I.o.af ?_;rintro e k ⟨j,rfl,b,d⟩;have H:=hid d;have J:=hid b;clear d b;go_wp2;go_ret;exact⟨by rw[<- J.o];rfl,H.o⟩
theorem ajx (a:Option Addr) (ca:Nat) (F:List (Int×Int)) (v:Int) (B:Nat) (w:World) (h:jf w a F) (n:F.length<=1000) (c:w.cell? ⟨B,0,none⟩=some (.slice a F.length ca)):
  c6 43 #[.int .i64 v,.pointer (some ⟨B,0,none⟩)] w (da w (.bool (F.any fun p=>p.1==v))):=by
 have I:=hid (adv a ca F v w h n);clear h;generalize (F.any fun p=>p.1==v)=R at *;go_enter Tryz.func43,Tryz.ntmps43;go_wp2_with fail
 refine I.o.af ?_;rintro e d ⟨rfl,b⟩;have H:=hid b;clear b;go_wp2;go_ret;exact⟨rfl,H.o⟩
theorem amb (a b c q f:Option Addr) (ca cb cc z d:Nat) (V:List Vr) (L:List (List Int)) (R:List (List Fr)) (Q:List Int) (F:List (Int×Int)) (w:World) (h:xM w a b c V L R) (hq:az w q Q) (hQ:Q.length<=1000) (hF:jf w f F) (hn:F.length<=1000) (uq:F.length<=d):
  c6 20 #[.agg #[.slice a V.length ca,.slice b L.length cb,.slice c R.length cc],.slice q Q.length z,.slice f F.length d] w fun e w'=>sI (jR V L R Q F).1 (jR V L R Q F).2 (kV V L R Q F) e w'/\c8 w w':=by
 have qg:=hid (fun (U:World) (j:c8 w U)=>Vj a b c f ca cb cc d V L R F U (h.net.aa j) h.sm (hF.aa j) hn uq);have eD:=hid (fun (U:World) (j:c8 w U)=>Qr a b c ca cb cc L.length R.length V U (h.net.aa j).vars h.sm.vars.1)
 have zR:Hid (∀(G:Nat) (U:World),c8 w U ->cC U G (ah V) ->c6 41 #[.slice (some ⟨G,0,none⟩) V.length V.length,.slice q Q.length z] U fun e w'=>e=.returned (.tuple #[.int .i64 (gM (iL (ah V)) Q).1,.int .i64 (gM (iL (ah V)) Q).2])/\c8 U w'):=fun G U j hi=>by
  have u:(iL (ah V)).length=V.length:=by rw[ba,ix]
  have xe:=h.sm.vars.1;have:=Px (some ⟨G,0,none⟩) q V.length z (iL (ah V)) Q U hi.ints (hq.aa j) (by rw[u];omega) al;rwa [u] at this
 have aq:Hid (∀(B:Nat) (U:World),c8 w U ->B<U.heap.size ->U.cell? ⟨B,0,none⟩=some (.slice f F.length d) ->c6 42 #[.slice q Q.length z,.func (.func 43) #[] #[.pointer (some ⟨B,0,none⟩)]] U fun e w'=>e=.returned (.bool (F.any fun p=>gJ p.1 Q))/\c8 U w'):=fun B U j hB hc=>by
  rw[aqb];exact ao7 q z 43 #[.pointer (some ⟨B,0,none⟩)] Q (fun v=>F.any fun p=>p.1==v) U (hq.aa j) hQ (enters_of Tryz.func43 ao rfl) (fun v _ U' EP=>ajx f d F v B U' ((hF.aa j).aa EP) hn ((EP.cell (p:=⟨B,0,none⟩) hB).trans hc))
 have He:bY V L R F=0 ->(gM (iL (ah V)) Q).2=0 ->aY V L R=0/\F=zF (nF F)/\lV (ah V) V.length (nF F)/\Up Q V.length:=fun e i=>by
  obtain⟨l,n,e4⟩:=rK e;exact⟨l,n,e4,XU i⟩
 have zq:Hid (bY V L R F=0 ->(gM (iL (ah V)) Q).2=0 ->(F.any fun p=>gJ p.1 Q)=false ->∀U:World,c8 w U ->c6 36 #[.agg #[.slice a V.length ca,.slice b L.length cb,.slice c R.length cc],.slice q Q.length z,.slice f F.length d] U fun e w'=>∃x y,e=.returned (.agg #[x,y])/\di w' x y (dF V L R Q (nF F))/\c8 U w'):=fun e i n U j=>by
  obtain⟨m,hz,hl,A⟩:=He e i;have h1:=hF.aa j;rw[hz] at h1 n;have EO:=h.aa j;have:=adB a b c q f ca cb cc z d V L R Q (nF F) U EO.net EO.ls h.sm h.wt m h.lt (hq.aa j) A h1 hl (ap9 A n) (fun U' EP=>RO a b c ca cb cc V L R U' EP h.sm);rw[<- tY, <- hz] at this;exact this
 have fC:Hid (bY V L R F=0 ->(gM (iL (ah V)) Q).2=0 ->(F.any fun p=>gJ p.1 Q)=false ->∀(G:Nat) (x y:Value) (U:World),cC U G (ah V) ->di U x y (dF V L R Q (nF F)) ->c6 45 #[.slice (some ⟨G,0,none⟩) V.length V.length,.agg #[x,y]] U fun e w'=>sI (jR V L R Q F).1 (jR V L R Q F).2 (kV V L R Q F) e w'/\c8 U w'):=fun e i n G x y U hi hv=>by
  obtain⟨m,hz,hl,A⟩:=He e i;have u:(iL (ah V)).length=V.length:=by rw[ba,ix]
  have h8:=(gD m).n8;have h5:=TB m A (nF F) (h.few m);have av:=ahc m A (nF F);obtain⟨b',c',fG,kZ,rfl,rfl,h1,h2,_⟩:=hv;have uw:jd V L R Q F=0:=by rw[jd,aA e,aA i,aB (by rw[n];decide)]
  by_cases aj:aX (dF V L R Q (nF F)).2=0
  ·have l:kV V L R Q F=3:=by rw[kV,aA uw,aA aj]
   (have e5:jR V L R Q F=([],[]):=by rw[jR,l,aB a6]);rw[l,e5];have:=ahB (some ⟨G,0,none⟩) b' c' V.length fG kZ (iL (ah V)) Q (dF V L R Q (nF F)).2 U hi.ints h1 h2 (by rw[u];omega) al av (TD m h.lt Q (nF F)) (TA m h.lt A (nF F)) al aj;rwa [u] at this
  ·have l:kV V L R Q F=0:=by rw[kV,aA uw,aB aj]
   (have e5:jR V L R Q F=(Q,iZ (dF V L R Q (nF F)).2):=by rw[jR,aA l]);rw[l,e5];have:=ahC (some ⟨G,0,none⟩) b' c' V.length fG kZ (iL (ah V)) Q (dF V L R Q (nF F)).2 U hi.ints h1 h2 (by rw[u];omega) al av (TD m h.lt Q (nF F)) (TA m h.lt A (nF F)) al aj;rwa [u] at this
 have E:Hid (∀k,jd V L R Q F=k ->k≠0 ->kV V L R Q F=k/\jR V L R Q F=([],[])):=fun k e i=>by
  have l:kV V L R Q F=k:=by rw[kV,aB (by rw[e];exact i),e]
  exact⟨l,by rw[jR,l,aB i]⟩
 have fR:Hid (bY V L R F≠0 ->jd V L R Q F=bY V L R F):=fun e=>aB e;have eP:Hid (bY V L R F=0 ->(gM (iL (ah V)) Q).2≠0 ->jd V L R Q F=(gM (iL (ah V)) Q).2):=fun e i=>by rw[jd,aA e,aB i]
 have gA:Hid (bY V L R F=0 ->(gM (iL (ah V)) Q).2=0 ->(F.any fun p=>gJ p.1 Q)=true ->jd V L R Q F=7):=fun e i n=>by rw[jd,aA e,aA i,aA n]
 generalize kV V L R Q F=pe at *;generalize jR V L R Q F=t at *;generalize jd V L R Q F=ae at *;generalize dF V L R Q (nF F)=TT at *;generalize bY V L R F=fe at *;generalize (F.any fun p=>gJ p.1 Q)=fq at *;clear h hq hF He uq;have E4:=(aw w.heap.size w).alloc (ar _) (NC (.slice a V.length ca) (.slice b L.length cb) (.slice c R.length cc));have Xr:=E4.alloc E4.size (.cells #[.slice f F.length d] 33);have HA:=hid (Xr.alloc Xr.size (TC (.slice none 0 0) (.slice none 0 0)));have ay:(w.alloc (NC (.slice a V.length ca) (.slice b L.length cb) (.slice c R.length cc))).heap.size=w.heap.size+1:=aE
 have aG:((w.alloc (NC (.slice a V.length ca) (.slice b L.length cb) (.slice c R.length cc))).alloc (.cells #[.slice f F.length d] 33)).heap.size=w.heap.size+1+1:=aE
 have nV:Hid (cT (((w.alloc (NC (.slice a V.length ca) (.slice b L.length cb) (.slice c R.length cc))).alloc (.cells #[.slice f F.length d] 33)).alloc (TC (.slice none 0 0) (.slice none 0 0))) w.heap.size (.slice a V.length ca) (.slice b L.length cb) (.slice c R.length cc)):=by
  have hN:=cT.at (w:=w) rfl (.slice a V.length ca) (.slice b L.length cb) (.slice c R.length cc);have G7:=hN.aa ((aw _ _).alloc (ar _) (.cells #[.slice f F.length d] 33)) hN.lt;exact G7.aa ((aw _ _).alloc (ar _) (TC (.slice none 0 0) (.slice none 0 0))) G7.lt
 have Be:Hid (Boxed (((w.alloc (NC (.slice a V.length ca) (.slice b L.length cb) (.slice c R.length cc))).alloc (.cells #[.slice f F.length d] 33)).alloc (TC (.slice none 0 0) (.slice none 0 0))) (w.heap.size+1) 33 (.slice f F.length d)):=by
  have:=(bh (w.alloc (NC (.slice a V.length ca) (.slice b L.length cb) (.slice c R.length cc))) 33 (.slice f F.length d)).alloc (TC (.slice none 0 0) (.slice none 0 0));rwa [ay] at this
 have pq:Hid (bs (((w.alloc (NC (.slice a V.length ca) (.slice b L.length cb) (.slice c R.length cc))).alloc (.cells #[.slice f F.length d] 33)).alloc (TC (.slice none 0 0) (.slice none 0 0))) (w.heap.size+1+1) (.slice none 0 0) (.slice none 0 0)):=bs.at (w:=(w.alloc (NC (.slice a V.length ca) (.slice b L.length cb) (.slice c R.length cc))).alloc (.cells #[.slice f F.length d] 33)) aG _ _;obtain⟨n0,n1,n2⟩:=nV.o.cells;have x0:=Be.o.cell;clear E4 Xr ay aG;go_enter Tryz.func20,Tryz.ntmps20;go_wp2_with fail
 generalize (((w.alloc (NC (.slice a V.length ca) (.slice b L.length cb) (.slice c R.length cc))).alloc (.cells #[.slice f F.length d] 33)).alloc (TC (.slice none 0 0) (.slice none 0 0)))=W0 at *;refine(qg.o W0 HA.o).af ?_;rintro e w2 ⟨rfl,ab⟩;have M:=hid (HA.o.trans (ab.af HA.o.size));have fQ:=hid (nV.o.aa ab nV.o.lt);have mN:=hid (bj Be.o ab);have Y:=hid (pq.o.aa ab pq.o.lt);clear n0 n1 n2 x0 ab HA nV Be pq qg;by_cases gm:fe=0
 ·subst gm;have ju:=hid (zq.o rfl);have xV:=hid (fC.o rfl);have zQ:=hid (eP.o rfl);have zP:=hid (gA.o rfl);obtain⟨n0,n1,n2⟩:=fQ.o.cells;clear fR eP gA zq fC;go_wp2_with fail
  refine(eD.o w2 M.o).af ?_;rintro e w3 ⟨G,rfl,hG,ak,ad⟩;have df:=hid (M.o.trans (ad.af M.o.size));have Dt:=hid (fQ.o.aa ad fQ.o.lt);have mM:=hid (bj mN.o ad);have jy:=hid (Y.o.aa ad Y.o.lt);have an:=hid (zR.o G w3 df.o ak);have sQ:=hid ak;clear n0 n1 n2 ad ak hG M fQ mN Y eD zR;generalize (gM (iL (ah V)) Q).1=c1 at *;generalize (gM (iL (ah V)) Q).2=c2 at *;go_wp2_with fail
  refine an.o.af ?_;rintro e w4 ⟨rfl,D⟩;have X:=hid (df.o.trans (D.af df.o.size));have wA:=hid (Dt.o.aa D Dt.o.lt);have Dj:=hid (bj mM.o D);have iE:=hid (jy.o.aa D jy.o.lt);have Ox:=hid (sQ.o.aa D sQ.o.lt);clear D df Dt mM jy sQ an;by_cases ai:c2=0
  ·subst ai;have YK:=hid (ju.o rfl);have Ob:=hid (xV.o rfl);have OC:=hid (zP.o rfl);have pC:=hid (aq.o (w.heap.size+1) w4 X.o Dj.o.lt Dj.o.cell);clear zQ zP ju xV aq;go_wp2_with fail
   refine pC.o.af ?_;rintro e w5 ⟨rfl,H⟩;have T:=hid (X.o.trans (H.af X.o.size));have Ds:=hid (wA.o.aa H wA.o.lt);have rP:=hid (bj Dj.o H);have uL:=hid (iE.o.aa H iE.o.lt);have zL:=hid (Ox.o.aa H Ox.o.lt);clear H X wA Dj iE Ox pC;cases fq with
   |true=>
    obtain⟨r,s⟩:=E.o 7 (OC.o rfl) a6;have gR:=hid r;have Z:=hid s;obtain⟨t0,t1,f0,f1⟩:=uL.o.facts;have P:=hid (uL.o.put (.slice none 0 0) (.slice none 0 0));have K:=hid (nN (g:=w.heap.size+1+1) T.o al (.slice none 0 0) (.slice none 0 0));clear r s E OC YK Ob;go_wp2;refine bD (P.o.result2 rfl _ rfl) rfl ?_;exact⟨by rw[gR.o,Z.o];exact sI.empty 7 _,K.o⟩
   |false=>
    have xR:=hid (YK.o rfl w5 T.o);have Ib:=hid (Ob.o rfl);obtain⟨n0,n1,n2⟩:=Ds.o.cells;have x0:=rP.o.cell;clear E OC YK Ob;go_wp2_with fail
    refine xR.o.af ?_;rintro e w6 ⟨x,y,rfl,Ay,bE⟩;have FQ:=hid (T.o.trans (bE.af T.o.size));have YT:=hid (uL.o.aa bE uL.o.lt);have Fl:=hid (Ib.o G x y w6 (zL.o.aa bE zL.o.lt) Ay);obtain⟨xs,xn,xc,rfl⟩:=Ay.slices.1;obtain⟨ys,yn,yc,rfl⟩:=Ay.slices.2;clear n0 n1 n2 x0 Ay bE T Ds rP uL zL xR Ib;go_wp2_with fail
    refine Fl.o.af ?_;rintro e w7 ⟨⟨O,S,J,I,rfl,uh,ax⟩,bV⟩;have vL:=YT.o.aa bV YT.o.lt;have nL:=FQ.o.trans (bV.af FQ.o.size);obtain⟨t0,t1,f0,f1⟩:=vL.facts;have P:=hid (vL.put (.slice O t.1.length J) (.slice S t.2.length I));have Dy:=hid (uh.putT vL (slv _ _ _) (slv _ _ _) (slv O t.1.length J) (.slice S t.2.length I));have aM:=hid (ax.putT vL (slv _ _ _) (slv _ _ _) (slv O t.1.length J) (.slice S t.2.length I));have K:=hid (nN (g:=w.heap.size+1+1) nL al (.slice O t.1.length J) (.slice S t.2.length I));clear uh ax bV vL nL Fl YT FQ;go_wp2;refine bD (P.o.result2 rfl _ rfl) rfl ?_;exact⟨⟨O,S,J,I,rfl,Dy.o,aM.o⟩,K.o⟩
  ·obtain⟨r,s⟩:=E.o c2 (zQ.o ai) ai;have gR:=hid r;have Z:=hid s;(have kd:(c2==0)=false:=by simpa using ai);obtain⟨t0,t1,f0,f1⟩:=iE.o.facts;have P:=hid (iE.o.put (.slice none 0 0) (.slice none 0 0));have K:=hid (nN (g:=w.heap.size+1+1) X.o al (.slice none 0 0) (.slice none 0 0));clear r s ai E zQ zP ju xV;go_wp2;refine bD (P.o.result2 rfl _ rfl) rfl ?_;exact⟨by rw[gR.o,Z.o];exact sI.empty c2 _,K.o⟩
 ·obtain⟨r,s⟩:=E.o fe (fR.o gm) gm;have gR:=hid r;have Z:=hid s;have kd:(fe==0)=false:=by simpa using gm
  obtain⟨t0,t1,f0,f1⟩:=Y.o.facts;have P:=hid (Y.o.put (.slice none 0 0) (.slice none 0 0));have K:=hid (nN (g:=w.heap.size+1+1) M.o al (.slice none 0 0) (.slice none 0 0));clear r s gm E fR eP gA zq fC;go_wp2;refine bD (P.o.result2 rfl _ rfl) rfl ?_;exact⟨by rw[gR.o,Z.o];exact sI.empty fe _,K.o⟩
variable {R:List (List Fr)} {L:List (List Int)} {S vs ws:List Nat} {V:List Vr} {k n:Nat} {f:Nat ->Nat}
theorem Mx.put {F:(Nat ->Nat) ->Rat} {m:Rat} {l:List (Nat×Nat)} (n:(l.map (·.1)).Nodup) (x:∀p∈l,p.2<sz S p.1) (r:∀u∈vs,¬u∈l.map (·.1)) (s:Fit S f) (h:Mx S vs (fun g=>F (dw l g)) f m):Mx S vs F (dw l f) m:=by
 have y:∀g u,u∈l.map (·.1) ->dw l g u=dw l f u:=fun g u a=>by
  obtain⟨p,c,rfl⟩:=bc.1 a;rw[Jg n c,Jg n c]
 obtain⟨⟨g,d,i,j⟩,o⟩:=h;refine⟨⟨dw l g,PW x d,fun u a=>?_,j⟩,fun g t b=>?_⟩
 ·by_cases k:u∈l.map (·.1)
  ·exact y g u k
  ·rw[Ek k,Ek k];exact i u a
 ·have e:dw l (fun u=>if u∈l.map (·.1) then f u else g u)=g:=funext fun u=>by
   by_cases k:u∈l.map (·.1)
   ·rw[y _ u k, <- b u fun v=>r u v k]
   ·rw[Ek k,aB k]
  have:=o (fun u=>if u∈l.map (·.1) then f u else g u) (fun u=>by
   show (if u∈l.map (·.1) then f u else g u)<sz S u;split
   ·exact s u
   ·exact t u) (fun u a=>by
   show (if u∈l.map (·.1) then f u else g u)=f u;split
   ·rfl
   ·rename_i k
    rw[b u a,Ek k])
  have q:F (dw l fun u=>if u∈l.map (·.1) then f u else g u)<=m:=this;rwa [e] at q
def gZ (V:List Vr) (L:List (List Int)) (R:List (List Fr)) (ws:List Nat) (l:List (Nat×Nat)) (q:List Int):Tb:=allT (ah V) (jC (ah V) true (fun u=>q.contains (u:Int)) (fT ws l) (kY (ah V) l (gT V L R ws)))
def pF (V:List Vr) (L:List (List Int)) (R:List (List Fr)) (g:Nat ->Nat):Rat:=jQ V L R g V.length
theorem Qs (h0:aY V L R=0) (w:ws.Perm (List.range V.length)) (o:mS L (·∈ws)) {l:List (Nat×Nat)} (e:lV (ah V) V.length l) {q:List Int} (j:Up q V.length) (P:∀v∈ag q,¬v∈l.map (·.1)):
  dH (ah V) V.length (gZ V L R ws l q)/\(gZ V L R ws l q).1=q/\∃M:Nat ->Rat,(gZ V L R ws l q).2=(List.range (cnt (ah V) (ag q))).map (fun K=>qF (M K))/\∀K,K<cnt (ah V) (ag q) ->Mx (ah V) ((List.range V.length).filter fun u=>!(l.map (·.1)).contains u&&!(ag q).contains u) (pF V L R) (dw l (aT (ah V) (ag q) K)) (M K):=by
 have p:=mq h0;have m:∀v∈ws,v<V.length:=fun v f=>bJ.1 (w.mem_iff.1 f);have x:(fun v:Nat=>q.contains (v:Int))=fun v=>(ag q).contains v:=funext (abU j);have z:PI (ah V) V.length (fT ws l) (kY (ah V) l (gT V L R ws)) (fun g=>dT V L R (dw l g) ws):=(PI.net h0 m o).fixes p e.nd e.val;have H:NN (ah V) (kY (ah V) l (gT V L R ws)):=NN.fixes p e.val (PI.net h0 m o).ok (NN.net h0 m);obtain⟨O,D,s,_⟩:=PI.mosts p (fun v=>(ag q).contains v) (fT ws l) z H
 have J:∀u,u∈O↔u∈ag q:=fun u=>by
  rw[D u,Aw];constructor
  ·rintro⟨⟨a,b⟩,c⟩;exact mh.1 (c ⟨a,b⟩)
  ·intro h;exact⟨⟨w.mem_iff.2 (bJ.2 (j.aa u h)),P u h⟩,fun _=>mh.2 h⟩
 have d:=zg p s.ok
 have f:(allT (ah V) (jC (ah V) true (fun v=>(ag q).contains v) (fT ws l) (kY (ah V) l (gT V L R ws)))).1=q:=by
  refine aap d.1.up j fun u=>?_;rw[d.2.1 u, <- J u];exact⟨fun ⟨t,E,k⟩=>s.sub t E u k,fun h=>s.sup u h⟩
 rw[gZ,x];refine⟨d.1,f,fun K=>elimM (ah V) ((fT ws l).filter fun v=>!(ag q).contains v) (fun g=>dT V L R (dw l g) ws) (aT (ah V) (ag q) K),?_,fun K i=>?_⟩
 ·rw[TF p d.1 (Yj _ _),f];refine wG fun K i=>?_;have r:=bJ.1 i;rw[d.2.2 _ (fun u=>o6 p _ _ u r),s.val _ (fun u=>o6 p _ _ u r)]
 ·have I:Fit (ah V) (aT (ah V) (ag q) K):=fun u=>o6 p _ _ u i;have A:=afg p ((fT ws l).filter fun v=>!(ag q).contains v) (fun g=>dT V L R (dw l g) ws) (aT (ah V) (ag q) K) I;have n:=Mx.put (F:=fun g=>dT V L R g ws) e.nd e.val (fun u k=>(Aw.1 (dB.1 k).1).2) I A;have y:(fun g=>dT V L R g ws)=pF V L R:=funext fun g=>by rw[pF,LA,Un w]
  rw[y] at n;refine n.same fun u=>?_;rw[dB,dB,Aw,w.mem_iff,gX,Ac, <- Ad,mh,Ac, <- Ad,mh];exact⟨fun h=>⟨h.1.1,h.1.2,h.2⟩,fun h=>⟨⟨h.1,h.2.1⟩,h.2.2⟩⟩
def cJ (V:List Vr) (L:List (List Int)) (R:List (List Fr)) (ws:List Nat) (l:List (Nat×Nat)):Nat ->List (Nat×Nat)
 |0=>l
 |k+1=>if (l.map (·.1)).contains k then cJ V L R ws l k else cJ V L R ws l k++[(k,ig (gZ V L R ws (cJ V L R ws l k) [(k:Int)]).2 ((gZ V L R ws (cJ V L R ws l k) [(k:Int)]).2.length - 1))]
theorem JZ {l:List (Nat×Nat)}:∀(k u:Nat),u∈(cJ V L R ws l k).map (·.1)↔u∈l.map (·.1)∨u<k
 |0,u=>by rw[cJ];exact⟨.inl,fun h=>h.resolve_right (DW _)⟩
 |k+1,u=>by
  rw[cJ];by_cases a:(l.map (·.1)).contains k=true
  ·rw[aA a,JZ k u];have:=mh.1 a;constructor
   ·rintro(h |h)
    ·exact .inl h
    ·exact .inr al
   ·rintro(h |h)
    ·exact .inl h
    ·by_cases e:u=k
     ·subst e;exact .inl this
     ·exact .inr al
  ·rw[aB a,fg,dh,JZ k u];simp only[gV,lx,dX];constructor
   ·rintro((h |h) |h)
    ·exact .inl h
    ·exact .inr al
    ·exact .inr al
   ·rintro(h |h)
    ·exact .inl (.inl h)
    ·by_cases e:u=k
     ·exact .inr e
     ·exact .inl (.inr al)
theorem Qn (h:k<n):Up [(k:Int)] n:=il.2 ⟨fun x a=>by
  rw[dX.1 a];omega,O2 _ _⟩
theorem Ee (k:Nat):ag [(k:Int)]=[k]:=by simp[ag]
theorem RL (S:List Nat) (k:Nat):cnt S [k]=sz S k:=by rw[cnt,cnt,pI]
theorem X5 {l:List (Nat×Nat)} (b:(l.map (·.1)).contains k=false):¬k∈(cJ V L R ws l k).map (·.1):=fun h=>by
 rcases (JZ k k).1 h with a |a
 ·rw[mh.2 a] at b;cases b
 ·omega
theorem RR (h0:aY V L R=0) (w:ws.Perm (List.range V.length)) (c:mS L (·∈ws)) {l:List (Nat×Nat)} (b:lV (ah V) V.length l):∀k,k<=V.length ->lV (ah V) V.length (cJ V L R ws l k)
 |0,_=>b
 |k+1,hk=>by
  have i:=RR h0 w c b k al;rw[cJ];cases eO:(l.map (·.1)).contains k with
  |true=>rw[aA rfl];exact i
  |false=>
   rw[aB a6];have n:=X5 (V:=V) (L:=L) (R:=R) (ws:=ws) eO;obtain⟨_,_,M,j,_⟩:=Qs h0 w c i (Qn (show k<V.length by omega)) (fun v d=>by rw[Ee,dX] at d;subst d;exact n);(have o:(gZ V L R ws (cJ V L R ws l k) [(k:Int)]).2.length=sz (ah V) k:=by rw[j,dD,ly,Ee,RL]);have s:=iM (mq h0) k;refine⟨?_,fun p a=>?_,fun p a=>?_⟩
   ·rw[fg];refine IL.2 ⟨i.nd,O2 _ _,fun x m y f e=>?_⟩;subst e;rw[gV,lx,dX] at f;have g:x=k:=f;exact n (g▸m)
   ·rcases dh.1 a with h |h
    ·exact i.lt p h
    ·rw[dX.1 h];show k<V.length;omega
   ·rcases dh.1 a with h |h
    ·exact i.val p h
    ·rw[dX.1 h];have:=J5 (gZ V L R ws (cJ V L R ws l k) [(k:Int)]).2 ((gZ V L R ws (cJ V L R ws l k) [(k:Int)]).2.length - 1);show ig _ _<sz (ah V) k;omega
theorem ap8 (S:List Nat) (k y:Nat):aT S [k] y=aV (fun _=>0) k y:=funext fun u=>by
 rw[aT,aV];by_cases h:u=k
 ·rw[aA h,aA h,cnt,Cb]
 ·rw[aB h,aB h];rfl
theorem afJ (h0:aY V L R=0) (w:ws.Perm (List.range V.length)) (m:mS L (·∈ws)) {l:List (Nat×Nat)} (o:lV (ah V) V.length l):∀d k,k+d=V.length ->tT (ah V) ((List.range V.length).drop k) (fun v=>!(l.map (·.1)).contains v) (pF V L R) (dw (cJ V L R ws l k) fun _=>0) (dw (cJ V L R ws l V.length) fun _=>0)
 |0,k,hk=>by
  obtain rfl:k=V.length:=al
  rw[List.drop_eq_nil_of_le aE];exact tT.nil (PW (RR h0 w m o _ (ar _)).val fun u=>iM (mq h0) u)
 |d+1,k,hk=>by
  have s:k<V.length:=al
  have n:=afJ h0 w m o d (k+1) al;have D:=RR h0 w m o k al
  have E:(List.range V.length).drop k=k::(List.range V.length).drop (k+1):=by
   rw[ou (by simp;exact s),r5]
  have H:¬k∈(List.range V.length).drop (k+1):=fun h=>by
   obtain⟨i,q,e⟩:=ij h;rw[KX,r5] at e;omega
  rw[E];cases eO:(l.map (·.1)).contains k with
  |true=>
   rw[cJ,aA eO] at n;exact n.known (by rw[eO];rfl)
  |false=>
   have z:=X5 (V:=V) (L:=L) (R:=R) (ws:=ws) eO;obtain⟨_,_,M,j,J⟩:=Qs h0 w m D (Qn s) (fun v r=>by rw[Ee,dX] at r;subst r;exact z);rw[Ee] at j J;rw[RL] at j J;(have S:(gZ V L R ws (cJ V L R ws l k) [(k:Int)]).2.length=sz (ah V) k:=by rw[j,dD,ly]);have O:=iM (mq h0) k
   have Q:∀y,y<sz (ah V) k ->aW (bG (gZ V L R ws (cJ V L R ws l k) [(k:Int)]).2 y)=M y:=fun y g=>by
    rw[qM al];(have:(gZ V L R ws (cJ V L R ws l k) [(k:Int)]).2[y]'al=qF (M y):=by simp[j]);rw[this,qJ]
   have t:=afK (gZ V L R ws (cJ V L R ws l k) [(k:Int)]).2 ((gZ V L R ws (cJ V L R ws l k) [(k:Int)]).2.length - 1);have Y:=J5 (gZ V L R ws (cJ V L R ws l k) [(k:Int)]).2 ((gZ V L R ws (cJ V L R ws l k) [(k:Int)]).2.length - 1);rw[cJ,aB (by rw[eO];decide),PY] at n;refine tT.chosen (M:=M) (x:=ig (gZ V L R ws (cJ V L R ws l k) [(k:Int)]).2 ((gZ V L R ws (cJ V L R ws l k) [(k:Int)]).2.length - 1)) (fun y g=>?_) al (fun y g=>?_) (fun y g=>?_) H n (by rw[eO];rfl)
   ·have f:=J y g;rw[ap8,PX (fun p F e=>z (bc.2 ⟨p,F,e⟩))] at f;refine f.same fun u=>?_;rw[dB,dB,gX,Ac, <- Ad,mh,Ac, <- Ad,mh,Ac, <- Ad,mh,bJ,JZ,dX]
    have I:u∈(List.range V.length).drop (k+1)↔k<u/\u<V.length:=by
     constructor
     ·intro h;obtain⟨i,q,e⟩:=ij h;rw[mY,ly] at q;rw[KX,r5] at e;omega
     ·rintro⟨a,b⟩
      have:(List.range V.length).drop (k+1)=(List.range (V.length - (k+1))).map (k+1+·):=by
       refine qh aE fun i f K=>?_;rw[KX,r5,om,r5]
      rw[this,bc];exact⟨u - (k+1),bJ.2 al,al⟩
    rw[I];constructor
    ·rintro⟨a,b,c⟩
     exact⟨⟨Nat.lt_of_not_le fun P=>by
      rcases cF u k with h |h
      ·exact b (.inr h)
      ·exact c al,a⟩,fun h=>b (.inl h)⟩
    ·rintro⟨⟨a,A⟩,b⟩;exact⟨A,fun h=>h.elim b fun h=>al,al⟩
   ·have f:=t.1 y al;rwa [Q y g,Q _ al] at f
   ·have f:=t.2 y g;rwa [Q y al,Q _ al] at f
variable {Q:List (Value×Value)} {P:List Tb} {Z c g j:Nat} {a:Option Addr} {z:Value} {w':World}
def km (w:World) (Z:Nat) (a:Option Addr) (P:List Tb):Prop:=∀k (h:k<P.length),∃g o x y,a=some ⟨g,o,none⟩/\g<w.heap.size/\g≠Z/\w.cell? ⟨g,o+k*2,none⟩=some x/\w.cell? ⟨g,o+k*2+1,none⟩=some y/\di w x y P[k]/\fV Z P[k] (x,y)
theorem km.tbs (h:km w Z a P):eC w a P:=fun k i=>by
 obtain⟨g,o,x,y,b,c,_,d,e,f,_⟩:=h k i;exact⟨g,o,x,y,b,c,d,e,f⟩
theorem km.aa (h:km w Z a P) (b:c8 w w'):km w' Z a P:=fun k l=>by
 obtain⟨g,o,x,y,d,c,n,e,f,i,j⟩:=h k l;exact⟨g,o,x,y,d,aU c b.size,n,(b.cell (p:=⟨g,_,none⟩) c).trans e,(b.cell (p:=⟨g,_,none⟩) c).trans f,i.aa b,j⟩
theorem km.old (h:eC w a P) (i:w.heap.size<=Z):km w Z a P:=fun k j=>by
 obtain⟨g,o,x,y,c,d,e,f,b⟩:=h k j;exact⟨g,o,x,y,c,d,al,e,f,b,b.lt i⟩
theorem km.off (h:km w Z a P) (j:Nat) (u:Value):km (w.setCell ⟨Z,j,none⟩ u) Z a P:=fun k n=>by
 obtain⟨g,o,x,y,d,f,e,i,l,m,b⟩:=h k n;have c:(w.setCell ⟨Z,j,none⟩ u).heap[g]? =w.heap[g]?:=iJ w ⟨Z,j,none⟩ u g e;exact⟨g,o,x,y,d,aU f (jk w _ _).size,e,(lu (a:=⟨g,_,none⟩) c).trans i,(lu (a:=⟨g,_,none⟩) c).trans l,m.off u b,b⟩
theorem km.offP {V:World} (u:Value) (h:km V Z a P) (n:∀g' o',a=some ⟨g',o',none⟩ ->g'≠g) (t:∀k (b:k<P.length) p q,di V p q P[k] ->fV g P[k] (p,q)):km (V.setCell ⟨g,j,none⟩ u) Z a P:=fun k b=>by
 obtain⟨g',o,p,q,e,m,r,f,i,c,l⟩:=h k b;have d:(V.setCell ⟨g,j,none⟩ u).heap[g']? =V.heap[g']?:=iJ V ⟨g,j,none⟩ u g' (n g' o e);exact⟨g',o,p,q,e,aU m (jk V _ _).size,r,(lu (a:=⟨g',_,none⟩) d).trans f,(lu (a:=⟨g',_,none⟩) d).trans i,c.off u (t k b p q c),l⟩
theorem km.putP {V:World} (h:km V Z a P) (b:bt V g x y z) (i:cP x) (e:cP y) (c:cP z) (n:∀g' o',a=some ⟨g',o',none⟩ ->g'≠g) {u v:Value} (d:cP u) (f:cP v) (s:Value):km (((V.setCell ⟨g,0,none⟩ u).setCell ⟨g,1,none⟩ v).setCell ⟨g,2,none⟩ s) Z a P:=
 ((h.offP u n fun _ _ _ _ t=>I3 t b i e c).offP v n fun _ _ _ _ t=>I3 t (b.set0 u) d e c).offP s n fun _ _ _ _ t=>I3 t ((b.set0 u).set1 v) d f c
theorem lg.rowA {B:Nat} (h:lg w B (.slice a n c) Q P) (p:∀k (h:k<P.length) (s:k<Q.length),fV Z P[k] Q[k]) (y:Z<B):km w Z a P:=by
 rcases h.own.2 with ⟨f,m⟩ |⟨g,cap,A,f,m,i,t,v,x,o⟩
 ·exact fun k b=>absurd b al
 ·intro k b;injection f with e1 _ _;have d:k<Q.length:=by rw[h.len];exact b
  obtain⟨q,r⟩:=Lg Q k d;have D:=I4 Q
  have l:∀j u,(eI Q)[j]? =some u ->w.cell? ⟨g,j,none⟩=some u:=fun j u e=>by
   rw[bZ w g j _ _ (0,0) i];have z:=(mZ.1 e).1;rw[<- o,r7,aA (by have:=h.len;omega),vr] at e;exact e
  exact⟨g,0,_,_,e1,(dS.1 i).1,al,by rw[bM];exact l _ _ q,by rw[bM];exact l _ _ r,h.val k b d,p k b d⟩
theorem ajO (a b t:Option Addr) (ca cb ct:Nat) (S:List Nat) (f:List Int) (P:List Tb) (D c v z:Nat) (w:World) (aM:eW (iL S)) (hs:az w a (iL S)) (hb:az w b f) (hP:eC w t P) (aQ:fH S S.length P D c) (av:P.length<=1000) (ku:f.length<=1000) (hm:2*(B D).size+(B c).size+2<=8192) (hv:v<S.length) (hz:z<sz S v):
  c6 52 #[.agg #[.slice a S.length ca,.slice b f.length cb,.slice t P.length ct],.agg #[.int .i64 (v:Nat),.int .i64 (z:Nat)]] w fun e w'=>∃d cd t' cI,e=.returned (.agg #[.slice a S.length ca,.slice d (bC f v).length cd,.slice t' P.length cI])/\az w' d (bC f v)/\eC w' t' (P.map (ie S v z))/\eV w.heap.size t' cI/\c8 w w'/\eV w.heap.size d cd/\∀Z,Z<w.heap.size ->km w' Z t' (P.map (ie S v z)):=by
 have dG:Pos S:=by have:=aM.pos;rwa [eM] at this
 have ll:=hid (fun (U:World) (hU:c8 w U)=>Ut (.slice a S.length ca) (.slice t P.length ct) b cb f (v:Int) U (slv _ _ _) (slv _ _ _) (hb.aa hU) ku);have rV:Hid (∀(k:Nat) (M:k<P.length) (x y:Value) (U:World),c8 w U ->di U x y P[k] ->c6 92 #[.slice a S.length ca,.agg #[x,y],.int .i64 (v:Nat),.int .i64 (z:Nat)] U fun e w'=>De U.heap.size (ie S v z P[k]) e w'/\c8 U w'):=fun k M x y U hU E=>ae3 a ca S x y _ v z U aM (hs.aa hU) E (aQ.ok _ (bB M)) ((aQ.cw dG hm P[k] (bB M)).up a6) hv hz;have HP:=hid hP;clear hs hb hP aQ aM dG hm hz;go_enter Tryz.func52,Tryz.ntmps52;go_wp2_with fail
 have Y:c8 w (((w.alloc (.cells #[.slice a S.length ca,.slice b f.length cb,.slice t P.length ct] 93)).alloc (.cells #[.int .i64 (v:Nat),.int .i64 (z:Nat)] 66)).alloc (.cells #[.slice none 0 0,.slice none 0 0,.slice none 0 0] 93)):=by
  have E:=(aw w.heap.size w).alloc (ar _) (.cells #[.slice a S.length ca,.slice b f.length cb,.slice t P.length ct] 93);have h2:=E.alloc E.size (.cells #[.int .i64 (v:Nat),.int .i64 (z:Nat)] 66);exact h2.alloc h2.size _
 have qG:bt (((w.alloc (.cells #[.slice a S.length ca,.slice b f.length cb,.slice t P.length ct] 93)).alloc (.cells #[.int .i64 (v:Nat),.int .i64 (z:Nat)] 66)).alloc (.cells #[.slice none 0 0,.slice none 0 0,.slice none 0 0] 93)) w.heap.size (.slice a S.length ca) (.slice b f.length cb) (.slice t P.length ct):=((bt.at (w:=w) rfl _ _ _).alloc _).alloc _
 have EZ:(((w.alloc (.cells #[.slice a S.length ca,.slice b f.length cb,.slice t P.length ct] 93)).alloc (.cells #[.int .i64 (v:Nat),.int .i64 (z:Nat)] 66)).alloc (.cells #[.slice none 0 0,.slice none 0 0,.slice none 0 0] 93)).heap[w.heap.size+1]? =some (.cells #[.int .i64 (v:Nat),.int .i64 (z:Nat)] 66 (0,0)):=by
  rw[r8 _ _ _ aE];have:=jg (w.alloc (.cells #[.slice a S.length ca,.slice b f.length cb,.slice t P.length ct] 93)) (.cells #[.int .i64 (v:Nat),.int .i64 (z:Nat)] 66);rwa [cU] at this
 have jb:bt (((w.alloc (.cells #[.slice a S.length ca,.slice b f.length cb,.slice t P.length ct] 93)).alloc (.cells #[.int .i64 (v:Nat),.int .i64 (z:Nat)] 66)).alloc (.cells #[.slice none 0 0,.slice none 0 0,.slice none 0 0] 93)) (w.heap.size+1+1) (.slice none 0 0) (.slice none 0 0) (.slice none 0 0):=bt.at (w:=(w.alloc (.cells #[.slice a S.length ca,.slice b f.length cb,.slice t P.length ct] 93)).alloc (.cells #[.int .i64 (v:Nat),.int .i64 (z:Nat)] 66)) aE _ _ _;have Bg:=hid (ll.o _ Y);clear ll;generalize (((w.alloc (.cells #[.slice a S.length ca,.slice b f.length cb,.slice t P.length ct] 93)).alloc (.cells #[.int .i64 (v:Nat),.int .i64 (z:Nat)] 66)).alloc (.cells #[.slice none 0 0,.slice none 0 0,.slice none 0 0] 93))=W0 at *;refine Bg.o.af ?_;rintro e h ⟨d,cd,rfl,yJ,CQ,K⟩;have aq:=jb.lt;have ai:=hid (CQ.up Y.size);have ky:=(aw h.heap.size h).alloc (ar _) (.cells #[.slice a S.length ca,.slice d (bC f v).length cd,.slice none 0 0] 93);have fh:(h.alloc (.cells #[.slice a S.length ca,.slice d (bC f v).length cd,.slice none 0 0] 93)).heap.size=h.heap.size+1:=aE
 have dU:=(Y.trans (K.af Y.size)).trans (ky.af (aR Y.size K.size));have yS:=(qG.aa K qG.lt).alloc (.cells #[.slice a S.length ca,.slice d (bC f v).length cd,.slice none 0 0] 93);have tH:=(jb.aa K jb.lt).alloc (.cells #[.slice a S.length ca,.slice d (bC f v).length cd,.slice none 0 0] 93)
 have AW:(h.alloc (.cells #[.slice a S.length ca,.slice d (bC f v).length cd,.slice none 0 0] 93)).heap[w.heap.size+1]? =some (.cells #[.int .i64 (v:Nat),.int .i64 (z:Nat)] 66 (0,0)):=by
  rw[r8 _ _ _ (by have:=K.size;omega),K.block _ al];exact EZ
 have nJ:qQ 0 (h.alloc (.cells #[.slice a S.length ca,.slice d (bC f v).length cd,.slice none 0 0] 93)) h.heap.size (.slice a S.length ca) (.slice d (bC f v).length cd) (.slice none 0 0) [] [] (h.alloc (.cells #[.slice a S.length ca,.slice d (bC f v).length cd,.slice none 0 0] 93)):=qQ.start (bt.at (w:=h) rfl (.slice a S.length ca) (.slice d (bC f v).length cd) (.slice none 0 0));have EW:=yJ.aa ky;have ax:=K.size
 have Oe:Hid (∀g o,d=some ⟨g,o,none⟩ ->bC f v≠[] ->some g≠some h.heap.size):=fun g o e ak e2=>by
  obtain⟨g',o',e',iA,_⟩:=yJ 0 (by cases hl:bC f v with |nil=>exact absurd hl ak |cons x l=>simp);rw[e] at e';cases e';cases e2;omega
 have nU:Hid (∀g o,d=some ⟨g,o,none⟩ ->bC f v≠[] ->g≠w.heap.size+1+1):=fun g o e _ e2=>by
  have:=CQ.2 g o e;omega
 clear yJ CQ K Y qG EZ jb ky Bg;have eL:=hid dU;have sO:=hid yS;have iE:=hid tH;have pC:=hid AW;have uQ:=hid nJ;have Ip:=hid EW;have vG:=yS.cells.2.2;clear dU yS tH AW nJ EW;generalize yT:bC f v=F at *;have Sz:=hid yT;clear yT;go_wp2_with fail
 generalize (h.alloc (.cells #[.slice a S.length ca,.slice d F.length cd,.slice none 0 0] 93))=L at *;clear vG;obtain⟨T,V⟩:∃T:Nat ->List Tb,∀k,(P.take k).map (ie S v z)=T k:=⟨fun k=>(P.take k).map (ie S v z),fun _=>rfl⟩;have xS:Hid (T 0=[]):=by show _=_;rw[<- V];rfl
 have uK:Hid (∀k (M:k<P.length),T (k+1)=T k++[ie S v z P[k]]):=fun k M=>by rw[<- V, <- V,fL M,fg];rfl
 have rQ:Hid (T P.length=P.map (ie S v z)):=by show _=_;rw[<- V,fD]
 have xQ:Hid (∀k,k<=P.length ->(T k).length=k):=fun k M=>by rw[<- V,dD,eX];omega
 clear V;go_loopw [17] (fun iv wr=>∃(i:Nat) (tv:Value) (Q:List (Value×Value)),i<=P.length/\iv=.int .i64 i/\Hid (qQ 0 L h.heap.size (.slice a S.length ca) (.slice d F.length cd) tv Q (T i) wr)) (fun iv _=>P.length - (intOf iv).toNat)
 case atStart=>exact⟨0,_,_,aS _,rfl,by rw[xS.o];exact uQ⟩
 case round=>
  obtain⟨i,tv,Q,hi,rfl,H⟩:=hrel;have JH:=H.o.fr.size;have HB:Hid (c8 w wr):=JT eL.o H.o.fr al al;have H6:Hid (bt wr w.heap.size (.slice a S.length ca) (.slice b f.length cb) (.slice t P.length ct)):=(H.o.fr.block _ sO.o.lt (fun e=>by have:=mW e;omega)).trans sO.o;have mO:Hid (bt wr (w.heap.size+1+1) (.slice none 0 0) (.slice none 0 0) (.slice none 0 0)):=(H.o.fr.block _ iE.o.lt (fun e=>by have:=mW e;omega)).trans iE.o;have Zp:Hid (wr.heap[w.heap.size+1]? =some (.cells #[.int .i64 (v:Nat),.int .i64 (z:Nat)] 66 (0,0))):=(H.o.fr.block _ al (fun e=>by have:=mW e;omega)).trans pC.o;by_cases ad:i<P.length
  ·obtain⟨g,o,p,q,rfl,hg,k0,k1,mA⟩:=(HP.o.aa HB.o) i ad;have hA:=(aw wr.heap.size wr).alloc (ar _) (TC p q);have bT:=hid (HB.o.trans (hA.af HB.o.size));(have CM:(wr.alloc (TC p q)).heap.size=wr.heap.size+1:=aE);have ES:=H6.o.alloc (TC p q);have VZ:=ES.cells.1;have Ha:(wr.alloc (TC p q)).heap[w.heap.size+1]? =some (.cells #[.int .i64 (v:Nat),.int .i64 (z:Nat)] 66 (0,0)):=(r8 _ _ _ al).trans Zp.o;(have A2:(wr.alloc (TC p q)).cell? ⟨w.heap.size+1,0,none⟩=some (.int .i64 (v:Nat)):=by rw[bZ _ _ 0 _ _ (0,0) Ha];rfl);(have Db:(wr.alloc (TC p q)).cell? ⟨w.heap.size+1,1,none⟩=some (.int .i64 (z:Nat)):=by rw[bZ _ _ 1 _ _ (0,0) Ha];rfl);have bP:=bs.at (w:=wr) rfl p q;have b0:=bP.c0;have b1:=bP.c1;have pw:=hid (H.o.under hA);have HX:=hid (rV.o i ad p q _ bT.o (mA.aa hA));have YI:=hid (uK.o i ad);have pU:=xQ.o i hi;obtain⟨ps,pn,pc,rfl⟩:=mA.slices.1;obtain⟨qs,qn,qc,rfl⟩:=mA.slices.2;have Dp:Hid (∀R,tv.ownBlock=some R ->L.heap.size<=R/\R<wr.heap.size):=H.o.own.lt;clear mA hA bP ES Ha;generalize ie S v z P[i]=ft at *;go_wp2_with fail
   refine HX.o.af ?_;rintro e A ⟨⟨x2,y2,rfl,ab,dK⟩,bV⟩;obtain⟨xs,n,m,rfl⟩:=ab.slices.1;obtain⟨u,s,r,rfl⟩:=ab.slices.2;rw[CM] at dK;have VM:=bV.size;rw[CM] at VM;have KA:=hid (pw.o.under bV);have uB:=(aw A.heap.size A).alloc (ar _) (TC (.slice xs n m) (.slice u s r));have zD:=hid (KA.o.under uB);(have Ex:(A.alloc (TC (.slice xs n m) (.slice u s r))).heap.size=A.heap.size+1:=aE);have yN:=bs.at (w:=A) rfl (.slice xs n m) (.slice u s r);have an:=yN.c0;have ao:=yN.c1;have ay:=zD.o.box.cells.2.2;have Hf:=(aw (A.alloc (TC (.slice xs n m) (.slice u s r))).heap.size (A.alloc (TC (.slice xs n m) (.slice u s r)))).alloc (ar _) (TC (.slice xs n m) (.slice u s r));have zC:=hid (zD.o.under Hf);have Hv:=hid ((ab.aa uB).aa Hf);have GZ:=bs.at (w:=A.alloc (TC (.slice xs n m) (.slice u s r))) Ex (.slice xs n m) (.slice u s r);have ZE:=hid GZ.c0;have ZC:=hid GZ.c1;have tM:=hid ab.slices;have fQ:=hid dK;have qR:Hid (L.heap.size<=((A.alloc (TC (.slice xs n m) (.slice u s r))).alloc (TC (.slice xs n m) (.slice u s r))).heap.size):=zC.o.fr.size;have aj:=uQ.o.box.lt;clear ab bV uB Hf yN GZ dK HX pw k0 k1 b0 b1 VZ A2 Db
   have ae:∀(J:Value) (I:World),I.ownsRow L.heap.size 58 2 J ((T i).length+1) (eI Q++[.slice xs n m,.slice u s r]) ->((A.alloc (TC (.slice xs n m) (.slice u s r))).alloc (TC (.slice xs n m) (.slice u s r))).grownBy I tv.ownBlock ->(J.ownBlock=tv.ownBlock∨∀k,J.ownBlock=some k ->((A.alloc (TC (.slice xs n m) (.slice u s r))).alloc (TC (.slice xs n m) (.slice u s r))).heap.size<=k) ->(∃a' n' c',J=Value.slice a' n' c')/\(qQ 0 L h.heap.size (.slice a S.length ca) (.slice d F.length cd) J (Q++[(.slice xs n m,.slice u s r)]) (T (i+1)) (I.setCell ⟨h.heap.size,2,none⟩ J))/\I.cell? ⟨h.heap.size,2,none⟩=some tv/\I.frozen? ⟨h.heap.size,2,none⟩=false:=fun J I dP dL gF=>by
    have hM:=zC.o.push al aj Hv.o (fun R hR=>fQ.o R (by have:=(Dp.o R hR).2;omega)) (fun R _ hR=>fQ.o R al) dP dL gF;rw[<- YI.o] at hM;have yZ:bt I h.heap.size (.slice a S.length ca) (.slice d F.length cd) tv:=(dL.block _ zC.o.box.lt (fun e=>by have:=(Dp.o _ e.symm).1;omega)).trans zC.o.box;refine⟨?_,hM,yZ.cells.2.2,yZ.fz 2⟩;rcases dP.2 with ⟨E,_⟩ |⟨g',aN,aO,E,_⟩
    ·exact⟨_,_,_,E⟩
    ·exact⟨_,_,_,E⟩
   have HKEY:=hid ae;clear ae;go_wp2_with (at_builtin;refine K3 rfl _ _ rfl L.heap.size tv (T i).length (eI Q) (.slice xs n m) (.slice u s r) rfl zC.o.own.own (A.heap.size+1) rfl ZE.o ZC.o tM.o.1 tM.o.2 al qR.o ?_;intro J I dP dL gF;obtain⟨⟨yo,aG,ym,rfl⟩,uy,a7,a1⟩:=HKEY.o J I dP dL gF;have pz:=hid uy;clear uy dP dL gF)
   go_roundw
   case rel=>exact⟨i+1,_,_,al,bd,pz⟩
   case measure=>simp[intOf];omega
  ·obtain rfl:i=P.length:=al
   rw[rQ.o] at H;obtain⟨O,X,rfl,AB⟩:=H.o.own.row;obtain⟨x0,x1,x2⟩:=H.o.box.cells;obtain⟨r0,r1,r2⟩:=mO.o.cells;have Cn:=mO.o.fz 0;have Lr:=mO.o.fz 1;have Lq:=mO.o.fz 2;(have rF:(P.map (ie S v z)).length=P.length:=aE);rw[rF] at H x2;have EU:az wr d F:=Jt Ip.o Oe.o H.o.fr;have zA:=hid (mO.o.put (.slice a S.length ca) (.slice d F.length cd) (.slice O P.length X));have sS:=hid (bL HB.o (show w.heap.size<=w.heap.size+1+1 by omega) (.slice a S.length ca) (.slice d F.length cd) (.slice O P.length X))
   have fC:Value.ownBlock (.slice O P.length X)≠some (w.heap.size+1+1):=fun e=>by
    have:=(H.o.own.lt _ e).1;omega
   have xA:=((H.o.own.off (g:=w.heap.size+1+1) (j:=0) (.slice a S.length ca) (H.o.far _ al al) fC).off (g:=w.heap.size+1+1) (j:=1) (.slice d F.length cd) (H.o.far _ al al) fC).off (g:=w.heap.size+1+1) (j:=2) (.slice O P.length X) (H.o.far _ al al) fC;have lp:Hid (∀Z,Z<w.heap.size ->km _ Z O (P.map (ie S v z))):=fun Z hZ=>xA.rowA (fun k E h2=>H.o.far Z (aS _) al k E h2) al;obtain⟨TH,TE,e2,yz⟩:=xA.row;rw[rF] at e2;injection e2 with e3 e4 e5;subst e3 e5;clear e4;have Hx:=hid yz;have xZ:=hid (((EU.off (g:=w.heap.size+1+1) (j:=0) (y:=.slice a S.length ca) nU.o).off (g:=w.heap.size+1+1) (j:=1) (y:=.slice d F.length cd) nU.o).off (g:=w.heap.size+1+1) (j:=2) (y:=.slice O P.length X) nU.o);have Ic:=hid ((Qf H.o.own.own).up (show w.heap.size<=L.heap.size by omega));clear xA yz EU AB;go_wp2;refine bD (zA.o.result1 rfl _ rfl) rfl ?_;have e6:=Sz.o;subst e6;exact⟨d,cd,O,X,rfl,xZ.o,Hx.o,Ic.o,sS.o,ai.o,lp.o⟩
theorem al3 (a b c:Option Addr) (ca cb cc n m:Nat) (V:List Vr) (w:World) (X:V.length<=8):
  c6 51 #[.agg #[.slice a V.length ca,.slice b n cb,.slice c m cc]] w fun e w'=>∃G,e=.returned (.slice (some ⟨G,0,none⟩) V.length V.length)/\cC w' G (List.range V.length)/\c8 w w':=by
 obtain⟨K,v,M,O,P⟩:=dW Tryz.infoInt;have R:(List.range V.length).length=V.length:=ly
 have Q:Hid (∀i,i<V.length ->(lB (List.range V.length) i).set i i=lB (List.range V.length) (i+1)):=fun i r=>by
  have A:i<(List.range V.length).length:=by rw[R];exact r
  have E:=Qa (List.range V.length) A;rwa [r5] at E
 generalize List.range V.length=ds at *;have J:=cT.at (w:=w) rfl (.slice a V.length ca) (.slice b n cb) (.slice c m cc);have g:=(aw _ w).alloc (ar _) (NC (.slice a V.length ca) (.slice b n cb) (.slice c m cc));obtain⟨y, -, -⟩:=J.cells;go_enter Tryz.func51,Tryz.ntmps51;go_upto_region 1 with fail
 generalize (w.alloc (NC (.slice a V.length ca) (.slice b n cb) (.slice c m cc)))=d at *
 go_wp2_with (first
  |(at_make;refine nY _ rfl _ _ 22 rfl d.heap.size 3 K (.int .i64 0) 1 Tryz.underlying22 v M O .i64 .i64 _ _ V.length rfl rfl bd bd (by rw[P];omega) (by unfold maxLen;omega) (ar _) ?_;intro f t u))
 have j:=qP t;rw[CA] at j;have s:c8 d f:=(aw _ d).grown u (ar _) (fun k e=>by cases e);have I:Hid (cC f d.heap.size (List.replicate V.length 0)):=j;have q:Hid (c8 w f):=g.trans (s.af g.size);have F:=g.size;clear t u j s y;go_wp2_with fail
 go_loopw [11] (fun iv wr=>∃i:Nat,i<=V.length/\iv=.int .i64 i/\Hid (cC wr d.heap.size (lB ds i))/\Hid (c8 w wr)) (fun iv _=>V.length - (intOf iv).toNat)
 case atStart=>exact⟨0,aS _,rfl,by rw[P9,R];exact I,q⟩
 case round=>
  obtain⟨i,r,rfl,H,l⟩:=hrel;clear I q;by_cases L:i<V.length
  ·have Y:=H.o.cell i (by rw[Cu _ al];omega);have U:=H.o.fz i;have h:=H.o.set i i;rw[Q.o i L] at h;have S:=hid h;have D:=hid (l.o.setCell (p:=⟨d.heap.size,i,none⟩) F (.int .i64 (i:Nat)));generalize (lB ds i)[i]'(by rw[Cu _ al];omega)=z at *;clear h;go_wp2;go_roundw
   case rel=>exact⟨i+1,al,bd,S,D⟩
   case measure=>simp[intOf];omega
  ·obtain rfl:i=V.length:=al
   have T:=H.o;rw[<- R,Qb] at T;have x:=hid T;clear T;go_wp2;go_ret;exact⟨d.heap.size,rfl,x.o,l.o⟩
variable {A:List Nat} {B8 G9 cd ct:Nat} {U U':World}
def nC (ws:List Nat) (m:List (Nat×Nat)):List Int:=iL (fT ws m)
def kn (V:List Vr) (L:List (List Int)) (R:List (List Fr)) (ws:List Nat) (m:List (Nat×Nat)):List Tb:=kY (ah V) m (gT V L R ws)
def mJ (n:Nat) (m:List (Nat×Nat)):List Nat:=(List.range n).map (dw m fun _=>0)
theorem Nt (n:Nat) (m:List (Nat×Nat)):(mJ n m).length=n:=by simp[mJ]
theorem ap1 (n:Nat):mJ n []=List.replicate n 0:=by
 refine qh (by simp[mJ]) fun i h a=>?_;simp[mJ,dw]
theorem afO (n:Nat) (m:List (Nat×Nat)) (p:Nat×Nat):mJ n (m++[p])=(mJ n m).set p.1 p.2:=by
 refine qh (by simp[mJ]) fun i a b=>?_;rw[KW];simp only[mJ,om,r5,PY];show aV (dw m fun _=>0) p.1 p.2 i=_;rw[aV];by_cases e:i=p.1
 ·rw[aA e,aA e.symm]
 ·rw[aB e,aB (fun h=>e h.symm)]
def wH (L:List (List Int)) (n:Nat):List Nat:=(iY L).filter fun v:Nat=>(iL (List.range n)).contains (v:Int)
theorem Pk (h0:aY V L R=0):(wH L V.length).Perm (List.range V.length):=by
 have Q:=gD h0;have g:=vS (Qo h0);have c:L.length<=8:=by rw[Q.len];exact Q.n8
 have b:1<=L.length:=by
  have:=Q.fine.one;rw[ba,ix] at this;rw[Q.len];exact this
 refine(KU ((UH g b c).sublist IP) qZ).2 fun v=>?_;rw[dB,bJ];constructor
 ·rintro⟨a,_⟩;rw[<- Q.len];exact Ql g b c a
 ·intro h;refine⟨UI g b c (by rw[Q.len];exact h),?_⟩;rw[mh,iL];exact bc.2 ⟨v,bJ.2 h,rfl⟩
theorem ZY (h0:aY V L R=0):mS L (·∈wH L V.length):=fun v a u h=>by
 have:=T7 h0 v ((Pk h0).mem_iff.1 a) u h;exact(Pk h0).mem_iff.2 this
theorem Us (h0:aY V L R=0) (w:ws.Perm (List.range V.length)) (c:mS L (·∈ws)) {m:List (Nat×Nat)} (h:lV (ah V) V.length m):fH (ah V) V.length (kn V L R ws m) (fp R ws) 1:=
 fH.fixes (mq h0) (aeN h0 (fun _ v=>bJ.1 (w.mem_iff.1 v)) c) h.val
theorem ae2 (h0:aY V L R=0) (D:lW V R) (i:ws.Perm (List.range V.length)) (q:mS L (·∈ws)) {m:List (Nat×Nat)} (r:lV (ah V) V.length m) {p:Nat×Nat} (A:p.1<V.length) (J:p.2<sz (ah V) p.1) (s b t:Option Addr) (g cb ct:Nat) (w:World) (u:az w s (iL (ah V))) (o:az w b (nC ws m)) (P:eC w t (kn V L R ws m)):
  c6 52 #[.agg #[.slice s V.length g,.slice b (nC ws m).length cb,.slice t (kn V L R ws m).length ct],.agg #[.int .i64 (p.1:Nat),.int .i64 (p.2:Nat)]] w fun e w'=>∃d cd a c,e=.returned (.agg #[.slice s V.length g,.slice d (nC ws (m++[p])).length cd,.slice a (kn V L R ws (m++[p])).length c])/\az w' d (nC ws (m++[p]))/\c8 w w'/\eV w.heap.size d cd/\eV w.heap.size a c/\∀Z,Z<w.heap.size ->km w' Z a (kn V L R ws (m++[p])):=by
 have Q:=gD h0;have f:(ah V).length=V.length:=ix V;have n:ws.Nodup:=i.nodup_iff.2 qZ;have l:∀v∈ws,v<V.length:=fun v h=>bJ.1 (i.mem_iff.1 h);have T:=Gl n l;have S:=Q.n8;have M:(nC ws m).length<=ws.length:=by rw[nC,ba];exact(QB _ _).length_le
 have O:(kn V L R ws m).length=ws.length:=by rw[kn,M6,gT,dD]
 have I:=Us h0 i q r;have K:=D.pool h0 n l (vs:=[]) List.nodup_nil (fun v h=>by cases h);have:=ajO s b t g cb ct (ah V) (nC ws m) (kn V L R ws m) (fp R ws) 1 p.1 p.2 w Q.fine u o P (by rw[f];exact I) al al K (by rw[f];exact A) J;rw[f] at this;have j:nC ws (m++[p])=bC (nC ws m) (p.1:Int):=by rw[nC,nC,Vg,adr]
 have k:kn V L R ws (m++[p])=(kn V L R ws m).map (ie (ah V) p.1 p.2):=by rw[kn,kn,XG]
 rw[j,k,dD];exact this.af fun e w' ⟨d,cd,a,c,x,y,_,z,E,F,H⟩=>⟨d,cd,a,c,x,y,E,F,z,H⟩
theorem acD (h0:aY V L R=0) (D:lW V R) (g:ws.Perm (List.range V.length)) (d:mS L (·∈ws)) {m:List (Nat×Nat)} (c:lV (ah V) V.length m) {Q:List Int} (F:Q.length<=8) (s b t q:Option Addr) (k cb ct j:Nat) (w:World) (u:az w s (iL (ah V))) (r:az w b (nC ws m)) (P:eC w t (kn V L R ws m)) (o:az w q Q):
  c6 55 #[.agg #[.slice s V.length k,.slice b (nC ws m).length cb,.slice t (kn V L R ws m).length ct],.slice q Q.length j,.bool true] w fun e w'=>∃x y,e=.returned (.agg #[x,y])/\di w' x y (gZ V L R ws m Q)/\c8 w w':=by
 have i:=gD h0;have p:=mq h0;have a:(ah V).length=V.length:=ix V;have n:ws.Nodup:=g.nodup_iff.2 qZ;have h:∀v∈ws,v<V.length:=fun v f=>bJ.1 (g.mem_iff.1 f);have J:=Gl n h;have A:=i.n8;have I:=LR (l:=m) n;have E:∀v∈fT ws m,v<V.length:=fun v f=>h v (Aw.1 f).1;have z:=Gl I E;have H:(kn V L R ws m).length=ws.length:=by rw[kn,M6,gT,dD]
 have:=ab7 s b t q k cb ct j (ah V) (fT ws m) Q (kn V L R ws m) _ (fp R ws) 1 true w i.fine u r P o al I (by rw[a];exact E) (by rw[a];exact(PI.net h0 h d).fixes p c.nd c.val) (NN.fixes p c.val (PI.net h0 h d).ok (NN.net h0 h)) (by rw[a];exact Us h0 g d c) al (D.pool h0 n h I E);rw[a] at this;rw[nC,ba];exact this
theorem ak7 (h0:aY V L R=0) (D:lW V R) (w:ws.Perm (List.range V.length)) (c:mS L (·∈ws)) {m:List (Nat×Nat)} (e:lV (ah V) V.length m) (Q:List Int):Cw 8192 (gZ V L R ws m Q).2:=by
 have p:=mq h0;have n:ws.Nodup:=w.nodup_iff.2 qZ;have t:∀v∈ws,v<V.length:=fun v h=>bJ.1 (w.mem_iff.1 h);have y:=LR (l:=m) n;have E:∀v∈fT ws m,v<V.length:=fun v h=>t v (Aw.1 h).1;obtain⟨d,b,f⟩:=fH.outs p true (fun u=>Q.contains (u:Int)) (fT ws m) (Us h0 w c e);have g:=D.pool h0 n t y E;have i:=j8 f;have a:=b.part p (m:=8192) al (jC (ah V) true (fun u=>Q.contains (u:Int)) (fT ws m) (kn V L R ws m)).length;rw[fD] at a;exact a.2
structure uX (w:World) (S:List Nat) (n G9 B8 G:Nat) (d t:Option Addr) (cd ct:Nat) (F:List Int) (P:List Tb) (A:List Nat) (U:World):Prop where
 box:bt U B8 (.slice (some ⟨G,0,none⟩) n n) (.slice d F.length cd) (.slice t P.length ct)
 sz:az U (some ⟨G,0,none⟩) (iL S)
 fr:az U d F
 fa:∀g o,d=some ⟨g,o,none⟩ ->F≠[] ->g≠G9
 tb:km U G9 t P
 row:cC U G9 A
 rb:aF U (w.heap.size+1) false ⟨#[]⟩ ⟨#[]⟩
 bel:c8 w U
 lo:w.heap.size+1<B8/\B8<G9/\G<G9
theorem uX.step {G:Nat} {d t:Option Addr} {F:List Int} (h:uX w S n G9 B8 G d t cd ct F P A U) (b:c8 U U'):uX w S n G9 B8 G d t cd ct F P A U':=
 ⟨h.box.aa b h.box.lt,h.sz.aa b,h.fr.aa b,h.fa,h.tb.aa b,h.row.aa b h.row.lt,h.rb.aa b h.rb.lt,h.bel.trans (b.af h.bel.size),h.lo⟩
theorem uX.setA {G:Nat} {d t:Option Addr} {F:List Int} (h:uX w S n G9 B8 G d t cd ct F P A U) (j y:Nat):uX w S n G9 B8 G d t cd ct F P (A.set j y) (U.setCell ⟨G9,j,none⟩ (.int .i64 (y:Int))):=by
 obtain⟨l,a,b⟩:=h.lo;exact⟨h.box.off G9 j _ al,h.sz.off (fun g o e _=>by cases e;omega),h.fr.off h.fa,h.fa,h.tb.off j _,h.row.set j y,h.rb.far al _,h.bel.setCell (p:=⟨G9,j,none⟩) (by show w.heap.size<=G9;omega) _,h.lo⟩
theorem uX.putP {G:Nat} {d t b c:Option Addr} {cd' cI:Nat} {F a:List Int} {e:List Tb} (h:uX w S n G9 B8 G d t cd ct F P A U) (f:az U b a) (V:∀g o,b=some ⟨g,o,none⟩ ->a≠[] ->g≠G9) (i:km U G9 c e) (j:∀g o,c=some ⟨g,o,none⟩ ->g≠B8):
  uX w S n G9 B8 G b c cd' cI a e A (((U.setCell ⟨B8,0,none⟩ (.slice (some ⟨G,0,none⟩) n n)).setCell ⟨B8,1,none⟩ (.slice b a.length cd')).setCell ⟨B8,2,none⟩ (.slice c e.length cI)):=by
 obtain⟨l,k,m⟩:=h.lo;exact⟨h.box.put _ _ _,h.sz.putP h.box (slv _ _ _) (slv _ _ _) (slv _ _ _) _ _ _,f.putP h.box (slv _ _ _) (slv _ _ _) (slv _ _ _) _ _ _,V,i.putP h.box (slv _ _ _) (slv _ _ _) (slv _ _ _) j (slv _ _ _) (slv _ _ _) _,((h.row.off B8 0 _ al).off B8 1 _ al).off B8 2 _ al,h.rb.far3 al _ _ _,bL h.bel al _ _ _,h.lo⟩
variable {F:List (Int×Int)}
theorem abx {P:Program} {c:Code} {Q:Exit ->Act ->World ->Prop} {a:Act} (T:Act ->Exit ->Act ->World ->Prop) (h:c.wp P (T a) a w) (m:∀e b w',T a e b w' ->Q e b w'):c.wp P Q a w:=Code.wp_mono m h
theorem ahp {t:Option Addr} (h:eC w t P) (n:P≠[]) {o:Nat} (e:t=some ⟨g,o,none⟩):g≠w.heap.size:=by
 obtain⟨g',o',_,_,a,b,_⟩:=h 0 (by cases P with |nil=>exact absurd rfl n |cons x l=>simp);rw[e] at a;cases a;omega
theorem aho {V:World} (h:eC V a P) (b:bt V g x y z) (i:cP x) (j:cP y) (m:cP z) (n:∀g' o',a=some ⟨g',o',none⟩ ->P≠[] ->g'≠g) {u v:Value} (d:cP u) (f:cP v) (s:Value):eC (((V.setCell ⟨g,0,none⟩ u).setCell ⟨g,1,none⟩ v).setCell ⟨g,2,none⟩ s) a P:=by
 cases P with
 |nil=>exact fun k c=>absurd c aE
 |cons t l=>exact h.putP b i j m (fun g' o' e=>n g' o' e aE) d f s
theorem ady {d:Option Addr} (h:az w d l) {o:Nat} (e:d=some ⟨g,o,none⟩) (n:l≠[]):g<w.heap.size:=by
 obtain⟨g',o',a,b,_⟩:=h 0 (by cases l with |nil=>exact absurd rfl n |cons x l=>simp);rw[e] at a;cases a;exact b
def xK (V:List Vr) (L:List (List Int)) (R:List (List Fr)) (F:List (Int×Int)):List (Nat×Nat):=cJ V L R (wH L V.length) (nF F) V.length
def gN (V:List Vr) (L:List (List Int)) (R:List (List Fr)) (F:List (Int×Int)):Rat:=pF V L R (dw (xK V L R F) fun _=>0)
def kB (V:List Vr) (L:List (List Int)) (R:List (List Fr)) (F:List (Int×Int)):Int:=if bY V L R F=0 then(if gN V L R F=0 then 3 else 0) else bY V L R F
def qN (V:List Vr) (L:List (List Int)) (R:List (List Fr)) (F:List (Int×Int)):List Int:=if kB V L R F=0 then iL (mJ V.length (xK V L R F)) else[]
def rM (V:List Vr) (L:List (List Int)) (R:List (List Fr)) (F:List (Int×Int)):Fr:=if kB V L R F=0 then qF (gN V L R F) else(false,⟨#[]⟩,⟨#[]⟩)
def ZL (V:List Vr) (L:List (List Int)) (R:List (List Fr)) (F:List (Int×Int)) (e:Ending) (w':World):Prop:=∃d cd,e=.returned (.tuple #[.slice d (qN V L R F).length cd,dM (rM V L R F),.int .i64 (kB V L R F)])/\az w' d (qN V L R F)
structure BeC (V:List Vr) (L:List (List Int)) (R:List (List Fr)) (F:List (Int×Int)) (FF:Nat ->List Int) (PP:Nat ->List Tb) (AT:Nat ->List Nat) (FC:Nat ->List Int) (PC:Nat ->List Tb) (AC:Nat ->List Nat) (ck:Nat ->Bool) (xk:Nat ->Nat) (MT:Nat ->Tb):Prop where
 fix1:∀i (hi:i<F.length) (s b t:Option Addr) (cs cb ct:Nat) (U:World),az U s (iL (ah V)) ->az U b (FF i) ->eC U t (PP i) ->c6 52 #[.agg #[.slice s V.length cs,.slice b (FF i).length cb,.slice t (PP i).length ct],.agg #[.int .i64 F[i].1,.int .i64 F[i].2]] U fun e w'=>∃d cd t' cI,e=.returned (.agg #[.slice s V.length cs,.slice d (FF (i+1)).length cd,.slice t' (PP (i+1)).length cI])/\az w' d (FF (i+1))/\c8 U w'/\eV U.heap.size d cd/\eV U.heap.size t' cI/\∀Z,Z<U.heap.size ->km w' Z t' (PP (i+1))
 at1:∀i (hi:i<F.length),∃v z:Nat,F[i].1=(v:Int)/\F[i].2=(z:Int)/\v<V.length/\AT (i+1)=(AT i).set v z
 at0:AT 0=List.replicate V.length 0
 len:∀i,(AT i).length=V.length/\(AC i).length=V.length
 link:FF F.length=FC 0/\PP F.length=PC 0/\AT F.length=AC 0
 con:∀k,k<V.length ->(FC k).contains (k:Int)=ck k
 no:∀k,k<V.length ->ck k=false ->FC (k+1)=FC k/\PC (k+1)=PC k/\AC (k+1)=AC k
 only:∀k,k<V.length ->ck k=true ->∀(s b t q:Option Addr) (cs cb ct cq:Nat) (U:World),az U s (iL (ah V)) ->az U b (FC k) ->eC U t (PC k) ->az U q [(k:Int)] ->c6 55 #[.agg #[.slice s V.length cs,.slice b (FC k).length cb,.slice t (PC k).length ct],.slice q 1 cq,.bool true] U fun e w'=>∃x y,e=.returned (.agg #[x,y])/\di w' x y (MT k)/\c8 U w'
 best:∀k,k<V.length ->ck k=true ->∀(s:Option Addr) (cs:Nat) (x y:Value) (U:World),az U s (iL (ah V)) ->di U x y (MT k) ->c6 54 #[.slice s V.length cs,.agg #[x,y]] U fun e w'=>∃(d:Option Addr) (cd:Nat) (bf:Fr),e=.returned (.tuple #[.slice d 1 cd,dM bf,.int .i64 0])/\az w' d [(xk k:Int)]/\c8 U w'
 fix2:∀k,k<V.length ->ck k=true ->∀(s b t:Option Addr) (cs cb ct:Nat) (U:World),az U s (iL (ah V)) ->az U b (FC k) ->eC U t (PC k) ->c6 52 #[.agg #[.slice s V.length cs,.slice b (FC k).length cb,.slice t (PC k).length ct],.agg #[.int .i64 (k:Nat),.int .i64 (xk k:Nat)]] U fun e w'=>∃d cd t' cI,e=.returned (.agg #[.slice s V.length cs,.slice d (FC (k+1)).length cd,.slice t' (PC (k+1)).length cI])/\az w' d (FC (k+1))/\c8 U w'/\eV U.heap.size d cd/\eV U.heap.size t' cI/\∀Z,Z<U.heap.size ->km w' Z t' (PC (k+1))
 at2:∀k,k<V.length ->ck k=true ->AC (k+1)=(AC k).set k (xk k)
 last:∀(s b t:Option Addr) (cs cb ct:Nat) (U:World),az U s (iL (ah V)) ->az U b (FC V.length) ->eC U t (PC V.length) ->c6 55 #[.agg #[.slice s V.length cs,.slice b (FC V.length).length cb,.slice t (PC V.length).length ct],.slice none 0 0,.bool true] U fun e w'=>∃(x:Value) (g o cg:Nat),e=.returned (.agg #[x,.slice (some ⟨g,o,none⟩) 1 cg])/\w'.cell? ⟨g,o,none⟩=some (.bool (qF (gN V L R F)).1)/\w'.cell? ⟨g,o+1,none⟩=some (.string (qF (gN V L R F)).2.1)/\w'.cell? ⟨g,o+2,none⟩=some (.string (qF (gN V L R F)).2.2)/\cP x/\c8 U w'
 fin:AC V.length=mJ V.length (xK V L R F)
 size:qw (gN V L R F)<=40000
 few:∀k,(FC k).length<=1000
theorem apU (H:lW V R) (gm:bY V L R F=0):∃FF PP AT FC PC AC ck xk MT,BeC V L R F FF PP AT FC PC AC ck xk MT/\FF 0=iL (wH L V.length)/\PP 0=gT V L R (wH L V.length):=by
 obtain⟨a,hz,D⟩:=rK gm;have S:=gD a;have E:=mq a;have w:=Pk a;have z:=ZY a;generalize qu:wH L V.length=ws at w z;have hn:ws.Nodup:=w.nodup_iff.2 qZ;have aq:∀v∈ws,v<V.length:=fun v o=>bJ.1 (w.mem_iff.1 o);have aG:=Gl hn aq;have h8:=S.n8;have T:(iL (ah V)).length=V.length:=by rw[ba,ix]
 have Xh:F.length=(nF F).length:=by simp[nF]
 have X:∀i (I:i<F.length),F[i]=((((nF F)[i]'al).1:Int),(((nF F)[i]'al).2:Int)):=fun i I=>by
  have:∀(l:List (Nat×Nat)) (e:F=zF l) (f:i<l.length),F[i]=((l[i].1:Int),(l[i].2:Int)):=fun l e f=>by
   subst e;simp[zF]
  exact this (nF F) hz al
 have my:∀i,lV (ah V) V.length ((nF F).take i):=fun i=>⟨by rw[List.map_take];exact D.nd.sublist (List.take_sublist _ _),fun p E=>D.lt p (O3 E),fun p E=>D.val p (O3 E)⟩;have J:=RR a w z D;have av:∀k,(!((nF F).map (·.1)).contains k)=true ->¬k∈(cJ V L R ws (nF F) k).map (·.1):=fun k h=>X5 (by simpa using h)
 have ai:∀k,(!((nF F).map (·.1)).contains k)=true ->cJ V L R ws (nF F) (k+1)=cJ V L R ws (nF F) k++[(k,ig (gZ V L R ws (cJ V L R ws (nF F) k) [(k:Int)]).2 ((gZ V L R ws (cJ V L R ws (nF F) k) [(k:Int)]).2.length - 1))]:=fun k h=>by
  rw[cJ,aB];intro e;rw[e] at h;cases h
 have ad:∀k,k<V.length ->(!((nF F).map (·.1)).contains k)=true ->dH (ah V) V.length (gZ V L R ws (cJ V L R ws (nF F) k) [(k:Int)])/\(gZ V L R ws (cJ V L R ws (nF F) k) [(k:Int)]).1=[(k:Int)]/\(gZ V L R ws (cJ V L R ws (nF F) k) [(k:Int)]).2.length=sz (ah V) k:=fun k j h=>by
  obtain⟨c,f,aa,Y,_⟩:=Qs a w z (J k al) (Qn j) (fun v o=>by rw[Ee,dX] at o;subst o;exact av v h);refine⟨c,f,?_⟩;rw[Y,dD,ly,Ee,RL]
 have Vq:∀k,k<V.length ->(!((nF F).map (·.1)).contains k)=true ->ig (gZ V L R ws (cJ V L R ws (nF F) k) [(k:Int)]).2 ((gZ V L R ws (cJ V L R ws (nF F) k) [(k:Int)]).2.length - 1)<sz (ah V) k:=fun k j h=>by
  have c:=J5 (gZ V L R ws (cJ V L R ws (nF F) k) [(k:Int)]).2 ((gZ V L R ws (cJ V L R ws (nF F) k) [(k:Int)]).2.length - 1);have f:=(ad k j h).2.2;have m:=iM E k;omega
 refine⟨fun i=>nC ws ((nF F).take i),fun i=>kn V L R ws ((nF F).take i),fun i=>mJ V.length ((nF F).take i),fun k=>nC ws (cJ V L R ws (nF F) k),fun k=>kn V L R ws (cJ V L R ws (nF F) k),fun k=>mJ V.length (cJ V L R ws (nF F) k),fun k=>!((nF F).map (·.1)).contains k,fun k=>ig (gZ V L R ws (cJ V L R ws (nF F) k) [(k:Int)]).2 ((gZ V L R ws (cJ V L R ws (nF F) k) [(k:Int)]).2.length - 1),fun k=>gZ V L R ws (cJ V L R ws (nF F) k) [(k:Int)],?_,rfl,rfl⟩;have P:xK V L R F=cJ V L R ws (nF F) V.length:=by rw[xK,qu]
 refine{fix1:=?_,at1:=?_,at0:=ap1 _,len:=fun i=>⟨Nt _ _,Nt _ _⟩,link:=?_,con:=?_,no:=?_,only:=?_,best:=?_,fix2:=?_,at2:=?_,last:=?_,fin:=by rw[P],size:=?_,few:=?_}
 ·intro i I s b t r cb ct U c f m;have K:i<(nF F).length:=al
  rw[X i I,fL K];exact ae2 a H w z (my i) (D.lt _ (bB K)) (D.val _ (bB K)) s b t r cb ct U c f m
 ·intro i I;have K:i<(nF F).length:=al
  refine⟨(nF F)[i].1,(nF F)[i].2,by rw[X i I],by rw[X i I],D.lt _ (bB K),?_⟩;show mJ V.length ((nF F).take (i+1))=_;rw[fL K,afO]
 ·show nC ws ((nF F).take F.length)=nC ws (nF F)/\kn V L R ws ((nF F).take F.length)=kn V L R ws (nF F)/\mJ V.length ((nF F).take F.length)=mJ V.length (nF F);rw[Xh,fD];exact⟨rfl,rfl,rfl⟩
 ·intro k j;show (iL (fT ws (cJ V L R ws (nF F) k))).contains (k:Int)=!((nF F).map (·.1)).contains k;rw[td,mh,Ac, <- Ad,mh]
  have:((k:Nat):Int)∈iL (fT ws (cJ V L R ws (nF F) k))↔k∈fT ws (cJ V L R ws (nF F) k):=by
   rw[iL,bc];exact⟨fun ⟨x,hx,e⟩=>(show x=k by omega)▸hx,fun h=>⟨k,h,rfl⟩⟩
  rw[this,Aw,w.mem_iff,bJ,JZ];exact⟨fun h hm=>h.2 (.inl hm),fun h=>⟨j,fun hm=>hm.elim h fun h=>al⟩⟩
 ·intro k j h
  have e:cJ V L R ws (nF F) (k+1)=cJ V L R ws (nF F) k:=by
   rw[cJ,aA (by simpa using h)]
  show nC ws (cJ V L R ws (nF F) (k+1))=_/\kn V L R ws (cJ V L R ws (nF F) (k+1))=_/\mJ V.length (cJ V L R ws (nF F) (k+1))=_;rw[e];exact⟨rfl,rfl,rfl⟩
 ·intro k j h s b t q r cb ct cq U c f m A;exact acD (Q:=[(k:Int)]) a H w z (J k al) aE s b t q r cb ct cq U c f m A
 ·intro k j h s r x y U c f;obtain⟨m1,m2,m3⟩:=ad k j h;obtain⟨b',c',fG,kZ,rfl,rfl,m,A,_⟩:=f;have ao:=ak7 a H w z (J k al) [(k:Int)];have fh:=Lj S.fine k;have ay:=iM E k;rw[m2] at m;have:=ahE s b' c' r fG kZ (iL (ah V)) [(k:Int)] (gZ V L R ws (cJ V L R ws (nF F) k) [(k:Int)]).2 U c m A (by rw[T];omega) aE (RQ (Hi S.fine (by rw[T];exact Qn j)) (by rw[eM,Ee,RL];exact m3)) (ao.up a6) al;rw[T,eM,Ee] at this;have ed:∀x,bX (ah V) [k] x=[x]:=fun x=>by rw[bX,bX,cnt,Cb]
  rw[ed] at this;rw[m2];exact this.af fun e w' ⟨d,cd,k1,k2,k3⟩=>⟨d,cd,_,k1,k2,k3⟩
 ·intro k j h s b t r cb ct U c f m;show Calls _ _ _ U fun e w'=>∃d cd t' cI,e=.returned (.agg #[.slice s V.length r,.slice d (nC ws (cJ V L R ws (nF F) (k+1))).length cd,.slice t' (kn V L R ws (cJ V L R ws (nF F) (k+1))).length cI])/\az w' d (nC ws (cJ V L R ws (nF F) (k+1)))/\c8 U w'/\eV U.heap.size d cd/\eV U.heap.size t' cI/\∀ab,ab<U.heap.size ->km w' ab t' (kn V L R ws (cJ V L R ws (nF F) (k+1)));rw[ai k h];exact ae2 a H w z (J k al) (p:=(k,_)) j (Vq k j h) s b t r cb ct U c f m
 ·intro k j h;show mJ V.length (cJ V L R ws (nF F) (k+1))=_;rw[ai k h,afO]
 ·intro s b t r cb ct U c f m;have M:=J V.length (ar _);have ax:∀v∈ag ([]:List Int),¬v∈(cJ V L R ws (nF F) V.length).map (·.1):=fun v o=>by cases o
  obtain⟨m1,m2,aa,Y,MJ⟩:=Qs a w z M (q:=[]) (il.2 ⟨fun x hx=>(by cases hx),List.Pairwise.nil⟩) ax
  have ak:aa 0=gN V L R F:=by
   have A:=MJ 0 (show 0<1 by decide)
   have he:(List.range V.length).filter (fun u=>!((cJ V L R ws (nF F) V.length).map (·.1)).contains u&&!(ag ([]:List Int)).contains u)=[]:=by
    rw[List.filter_eq_nil_iff];intro u hu;rw[gX,Ac, <- Ad,mh];exact fun Z=>Z.1 ((JZ _ _).2 (.inr (bJ.1 hu)))
   rw[he] at A;obtain⟨⟨g,_,O,uk⟩,_⟩:=A;rw[<- uk,gN,P];congr 1
   funext u
   rw[O u l8];rfl
  refine(acD (Q:=[]) a H w z M aE s b t none r cb ct 0 U c f m (fun k j=>absurd j aE)).af fun e' w' Z=>?_;obtain⟨x,y,k2,⟨b',c',fG,kZ,k3,k4,_,k5,_⟩,k6⟩:=Z;have an:(gZ V L R ws (cJ V L R ws (nF F) V.length) []).2=[qF (gN V L R F)]:=by rw[Y, <- ak];rfl
  rw[an] at k4 k5;obtain⟨g,aj,k7,_,k8,k9,ae⟩:=k5 0 aE;refine⟨x,g,aj,kZ,by rw[k2,k4,k7];rfl,?_,?_,?_,⟨_,_,_,k3⟩,k6⟩
  ·rw[mX,fZ] at k8;exact k8
  ·rw[mX,fZ] at k9;exact k9
  ·rw[mX,fZ] at ae;exact ae
 ·have M:=J V.length (ar _);have O:Fit (ah V) (dw (cJ V L R ws (nF F) V.length) fun _=>0):=PW M.val fun u=>iM E u;have c:=(PD.net (R:=R) (L:=L) (ws:=List.range V.length) a (fun v o=>bJ.1 o)).prod O;have f:=(PI.net a (fun v o=>bJ.1 o) (T7 a)).val _ O;rw[f, <- LA] at c;have hz:fp R (List.range V.length)≠0:=(PD.net (V:=V) (L:=L) a (fun v o=>bJ.1 o)).nz.1;have m:=c.1.size hz c.2;have A:=S0 (n:=1) al;have h5:(B (fp R (List.range V.length))).size<=4000:=H;rw[gN,P,pF];omega
 ·intro k;show (iL _).length<=1000;rw[ba];exact aR (QB _ _).length_le al
variable {p q:Rat}
def BeT (B8 G9 k:Nat) (p q r:Value) (x:Nat) (c:Bool) (U:World):Prop:=c=false ->(U.cell? ⟨B8,0,none⟩=some p/\U.cell? ⟨B8,1,none⟩=some q/\U.cell? ⟨B8,2,none⟩=some r)/\U.cell? ⟨G9,k,none⟩=some (.int .i64 (x:Nat))
theorem apj (h:c5 p q=0):p=q:=by
 by_cases a:p<q
 ·rw[c5,aA a] at h;exact absurd h a6
 ·by_cases b:p=q
  ·exact b
  ·rw[c5,aB a,aB b] at h;exact absurd h a6
theorem CD {V:World} {b:Option Addr} {n:Bool} {x y:ByteArray} (h:az V b l) (i:aF V g n x y) (u v s:Value):az (((V.setCell ⟨g,0,none⟩ u).setCell ⟨g,1,none⟩ v).setCell ⟨g,2,none⟩ s) b l:=by
 have a:∀g' o',b=some ⟨g',o',none⟩ ->l≠[] ->g'≠g:=fun g' o' e j f=>by
  obtain⟨k,m,d,_,c⟩:=h 0 (by cases l with |nil=>exact absurd rfl j |cons x l=>simp);rw[e] at d;cases d;subst f;rw[fZ,bZ V _ _ _ _ (0,0) i] at c;match o',c with
  |0,c=>cases c
  |1,c=>cases c
  |2,c=>cases c
  |o+3,c=>simp at c
 exact((h.off a).off a).off a
theorem ame (a b c f:Option Addr) (ca cb cc cf:Nat) (V:List Vr) (L:List (List Int)) (R:List (List Fr)) (F:List (Int×Int)) (w:World) (h:xM w a b c V L R) (hF:jf w f F) (hn:F.length<=1000) (uq:F.length<=cf):
  c6 23 #[.agg #[.slice a V.length ca,.slice b L.length cb,.slice c R.length cc],.slice f F.length cf] w fun e w'=>ZL V L R F e w'/\c8 w w':=by
 obtain⟨i0,b6,bO,bP,bR⟩:=dW Tryz.infoInt;have qg:=hid (fun (U:World) (Z:c8 w U)=>Vj a b c f ca cb cc cf V L R F U (h.net.aa Z) h.sm (hF.aa Z) hn uq)
 have fR:Hid (bY V L R F≠0 ->kB V L R F=bY V L R F/\qN V L R F=[]/\rM V L R F=(false,⟨#[]⟩,⟨#[]⟩)):=fun e=>by
  have e1:kB V L R F=bY V L R F:=aB e;exact⟨e1,by rw[qN,e1,aB e],by rw[rM,e1,aB e]⟩
 have eP:Hid (bY V L R F=0 ->gN V L R F=0 ->kB V L R F=3/\qN V L R F=[]/\rM V L R F=(false,⟨#[]⟩,⟨#[]⟩)):=fun e e2=>by
  have e1:kB V L R F=3:=by rw[kB,aA e,aA e2]
  exact⟨e1,by rw[qN,e1,aB a6],by rw[rM,e1,aB a6]⟩
 have gA:Hid (bY V L R F=0 ->gN V L R F≠0 ->kB V L R F=0/\qN V L R F=iL (mJ V.length (xK V L R F))/\rM V L R F=qF (gN V L R F)):=fun e e2=>by
  have e1:kB V L R F=0:=by rw[kB,aA e,aB e2]
  exact⟨e1,by rw[qN,aA e1],by rw[rM,aA e1]⟩
 have kJ:Hid (bY V L R F=0 ->∃FF PP AT FC PC AC ck xk MT,BeC V L R F FF PP AT FC PC AC ck xk MT/\FF 0=iL (wH L V.length)/\PP 0=gT V L R (wH L V.length)):=fun e=>apU h.lt e
 have xO:Hid (bY V L R F=0 ->V.length<=8/\1<=V.length):=fun e=>by
  have aQ:=gD (rK e).1;have:=aQ.fine.one;rw[ba,ix] at this;exact⟨aQ.n8,this⟩
 have IB:Hid (bY V L R F=0 ->∀U:World,c6 51 #[.agg #[.slice a V.length ca,.slice b L.length cb,.slice c R.length cc]] U fun e w'=>∃G,e=.returned (.slice (some ⟨G,0,none⟩) V.length V.length)/\cC w' G (List.range V.length)/\c8 U w'):=fun e U=>al3 a b c ca cb cc L.length R.length V U (xO.o e).1
 have qU:Hid (bY V L R F=0 ->∀(Ga:Nat) (U:World),c8 w U ->cC U Ga (List.range V.length) ->c6 50 #[.agg #[.slice a V.length ca,.slice b L.length cb,.slice c R.length cc],.slice (some ⟨Ga,0,none⟩) V.length V.length] U fun e w'=>∃g d cd t' cI,e=.returned (.agg #[.slice (some ⟨g,0,none⟩) V.length V.length,.slice d (iL (wH L V.length)).length cd,.slice t' (gT V L R (wH L V.length)).length cI])/\az w' (some ⟨g,0,none⟩) (iL (ah V))/\az w' d (iL (wH L V.length))/\eC w' t' (gT V L R (wH L V.length))/\c8 U w'/\eV U.heap.size t' cI):=fun e Ga U Z hr=>by
  obtain⟨h0,_,_⟩:=rK e;have aQ:=gD h0;have yU:1<=L.length:=by rw[aQ.len];exact(xO.o e).2
  have cN:∀x∈L,x.length<=140737488355328:=fun x hx=>by
   obtain⟨i,hi,rfl⟩:=ij hx;have:=(aQ.up i hi).length;have:=aQ.n8;omega
  have MB:(iL (List.range V.length)).length=V.length:=by simp[iL]
  have EO:=h.aa Z;have:=ab2 a b c (some ⟨Ga,0,none⟩) ca cb cc V.length V L R (iL (List.range V.length)) U EO.net EO.ls h.sm h.wt h0 (Qo h0) yU cN hr.ints (by have:=aQ.n8;omega) (fun U' EP=>RO a b c ca cb cc V L R U' EP h.sm);rw[MB] at this;rw[ba,gT,dD];exact this
 have Oy:=hid (fun (U:World) (Z:c8 w U)=>hF.aa Z);have cE:=hid (LK.new w (.slice a V.length ca) (.slice b L.length cb) (.slice c R.length cc));obtain⟨n0,n1,n2⟩:=cE.o.1.1.cells;clear h hF uq;obtain⟨FE,MR⟩:∃FE,bY V L R F=FE:=⟨_,rfl⟩;rw[MR] at qg fR eP gA kJ xO IB qU;clear MR;go_enter Tryz.func23,Tryz.ntmps23;go_wp2_with fail
 generalize ((w.alloc (NC (.slice a V.length ca) (.slice b L.length cb) (.slice c R.length cc))).alloc (FC false ⟨#[]⟩ ⟨#[]⟩))=bp at *;refine(qg.o bp cE.o.1.2).af ?_;rintro e W0 ⟨rfl,M⟩;have HK:=hid (cE.o.step M);clear n0 n1 n2 M cE qg;by_cases gm:FE=0
 ·subst gm;obtain⟨FF,PP,AT,x7,PC,AC,ck,xk,MT,a7,EZ,qG⟩:=kJ.o rfl;obtain⟨G0,bW⟩:=xO.o rfl;replace IB:=hid (IB.o rfl);replace qU:=hid (qU.o rfl);replace eP:=hid (eP.o rfl);replace gA:=hid (gA.o rfl);rw[<- EZ, <- qG] at qU;have O:=hid a7;clear fR kJ xO a7 EZ qG;obtain⟨BK,Xj⟩:∃BK,FF 0=BK:=⟨_,rfl⟩;obtain⟨vX,WY⟩:∃vX,PP 0=vX:=⟨_,rfl⟩;rw[Xj,WY] at qU;have OB:=hid Xj;have BB:=hid WY;clear Xj WY;obtain⟨n0,n1,n2⟩:=HK.o.1.1.cells;have av:w.heap.size+1<W0.heap.size:=HK.o.2.lt;go_upto_region 4 with fail
  refine abx (fun a0 e a' w'=>e=.normal/\∃(Ga G B8:Nat) (d t:Option Addr) (cd ct:Nat),a'=((((a0.put (some 24) (.agg #[.slice a V.length ca,.slice b L.length cb,.slice c R.length cc])).put (some 25) (.agg #[.slice a V.length ca,.slice b L.length cb,.slice c R.length cc])).put (some 26) (.slice (some ⟨Ga,0,none⟩) V.length V.length)).put (some 27) (.agg #[.slice (some ⟨G,0,none⟩) V.length V.length,.slice d BK.length cd,.slice t vX.length ct])).put (some 8) (.pointer (some ⟨B8,0,none⟩))/\bt w' B8 (.slice (some ⟨G,0,none⟩) V.length V.length) (.slice d BK.length cd) (.slice t vX.length ct)/\az w' (some ⟨G,0,none⟩) (iL (ah V))/\az w' d BK/\eC w' t vX/\c8 W0 w'/\w.heap.size+1<B8) ?_ ?_
  ·have I:Hid (∀U:World,c8 W0 U ->U.cell? ⟨w.heap.size,0,none⟩=some (.slice a V.length ca)/\U.cell? ⟨w.heap.size,1,none⟩=some (.slice b L.length cb)/\U.cell? ⟨w.heap.size,2,none⟩=some (.slice c R.length cc)):=fun U Z=>(HK.o.1.1.aa Z HK.o.1.1.lt).cells;have j:Hid (c8 W0 W0.drew):=(aw W0.heap.size W0).drew;obtain⟨W1,aj⟩:∃W1,W0.drew=W1:=⟨_,rfl⟩;rw[aj] at j;refine iu (S:=fun U=>U.cell? ⟨w.heap.size,0,none⟩=some (.slice a V.length ca)/\U.cell? ⟨w.heap.size,1,none⟩=some (.slice b L.length cb)/\U.cell? ⟨w.heap.size,2,none⟩=some (.slice c R.length cc)) ao (by rw[aj];exact I.o _ j.o) (fun q=>?_);rw[aj] at q⊢;have lU:Hid (∀U:World,c8 W0 U ->c8 w U):=fun U Z=>HK.o.1.2.trans (Z.af HK.o.1.2.size);clear aj n0 n1 n2 eP gA O;refine au 0 (.agg #[.slice a V.length ca,.slice b L.length cb,.slice c R.length cc]) ?_;refine au 1 (.agg #[.slice a V.length ca,.slice b L.length cb,.slice c R.length cc]) ?_;refine aI [2,4] (cA ?_ (cA ?_ aH))
   focus
    intro l K;go_simp;refine(IB.o W1).af ?_;rintro e u1 ⟨Ga,rfl,xq,ad⟩;have ir:=hid xq;replace j:=hid (j.o.trans (ad.af j.o.size));clear q;refine K.o _ _ (I.o u1 j.o) (fun q=>?_);clear K l ad xq;refine aI [3,4] (cA ?_ (cA ?_ aH))
    focus
     intro l K;go_simp;refine(qU.o Ga u1 (lU.o _ j.o) ir.o).af ?_;rintro e u2 ⟨G,d,cd,t,ct,rfl,yV,jH,Ev,M,dK⟩;have kI:=hid yV;have x5:=hid jH;have ju:=hid Ev;have fQ:Hid (∀g o,t=some ⟨g,o,none⟩ ->u1.heap.size<=g):=dK.2;have AU:u1.heap.size<=u2.heap.size:=M.size;replace j:=hid (j.o.trans (M.af j.o.size));clear q;refine K.o _ _ (I.o u2 j.o) (fun q=>?_);clear K l M yV jH Ev dK;refine aI [4] (cA ?_ aH);intro l K;go_simp;have m:=(aw _ u2).alloc (ar _) (Ho (.slice none 0 0) (.slice none 0 0) (.slice none 0 0));have r:=hid (bt.at (w:=u2) rfl (.slice none 0 0) (.slice none 0 0) (.slice none 0 0));have uz:w.heap.size+1<u2.heap.size:=aU av j.o.size;have JO:W0.heap.size<=u2.heap.size:=j.o.size;have dV:Hid (∀g o,t=some ⟨g,o,none⟩ ->vX≠[] ->g≠u2.heap.size):=fun g o e ay=>ahp ju.o ay e;replace kI:=hid (kI.o.aa m);replace x5:=hid (x5.o.aa m);replace ju:=hid (ju.o.aa m);replace j:=hid (j.o.trans (m.af j.o.size));clear q;refine K.o _ _ (I.o _ j.o) (fun q=>?_);clear K l m;obtain⟨B8,yY⟩:∃B8,u2.heap.size=B8:=⟨_,rfl⟩;obtain⟨Y,eY⟩:∃Y,u2.alloc (Ho (.slice none 0 0) (.slice none 0 0) (.slice none 0 0))=Y:=⟨_,rfl⟩;have lH:u2.alloc (.cells #[.slice none 0 0,.slice none 0 0,.slice none 0 0] 93)=Y:=eY;rw[yY] at r uz JO dV;rw[eY] at r j kI x5 ju;simp only[lH] at q⊢;simp only[yY];clear eY lH yY;try simp only[gE,aP]
    rotate_left
    focus
     intro l K;go_simp;have m:=(aw _ u1).alloc (ar _) (Ho (.slice none 0 0) (.slice none 0 0) (.slice none 0 0));have r:=hid (bt.at (w:=u1) rfl (.slice none 0 0) (.slice none 0 0) (.slice none 0 0));have uz:w.heap.size+1<u1.heap.size:=aU av j.o.size;have JO:W0.heap.size<=u1.heap.size:=j.o.size;replace j:=hid (j.o.trans (m.af j.o.size));replace ir:=hid (ir.o.aa m ir.o.lt);clear q;refine K.o _ _ (I.o _ j.o) (fun q=>?_);clear K l m;obtain⟨B8,yY⟩:∃B8,u1.heap.size=B8:=⟨_,rfl⟩;obtain⟨Y,eY⟩:∃Y,u1.alloc (Ho (.slice none 0 0) (.slice none 0 0) (.slice none 0 0))=Y:=⟨_,rfl⟩;have lH:u1.alloc (.cells #[.slice none 0 0,.slice none 0 0,.slice none 0 0] 93)=Y:=eY;rw[yY] at r uz JO;rw[eY] at r j ir;simp only[lH] at q⊢;simp only[yY];clear eY lH yY;refine aI [3] (cA ?_ aH);intro l K;go_simp;refine(qU.o Ga Y (lU.o _ j.o) ir.o).af ?_;rintro e u2 ⟨G,d,cd,t,ct,rfl,yV,jH,Ev,M,dK⟩;have kI:=hid yV;have x5:=hid jH;have ju:=hid Ev;have fQ:Hid (∀g o,t=some ⟨g,o,none⟩ ->Y.heap.size<=g):=dK.2;have AU:Y.heap.size<=u2.heap.size:=M.size;replace j:=hid (j.o.trans (M.af j.o.size));have bw:B8<Y.heap.size:=r.o.lt;replace r:=hid (r.o.aa M r.o.lt);clear q;refine K.o _ _ (I.o u2 j.o) (fun q=>?_);clear K l M yV jH Ev dK;have dV:Hid (∀g o,t=some ⟨g,o,none⟩ ->vX≠[] ->g≠B8):=fun g o e _=>by have:=fQ.o g o e;omega
   rotate_left 2
   focus
    intro l K;go_simp;have m:=(aw _ W1).alloc (ar _) (Ho (.slice none 0 0) (.slice none 0 0) (.slice none 0 0));have r:=hid (bt.at (w:=W1) rfl (.slice none 0 0) (.slice none 0 0) (.slice none 0 0));have uz:w.heap.size+1<W1.heap.size:=aU av j.o.size;have JO:W0.heap.size<=W1.heap.size:=j.o.size;replace j:=hid (j.o.trans (m.af j.o.size));clear q;refine K.o _ _ (I.o _ j.o) (fun q=>?_);clear K l m;obtain⟨B8,yY⟩:∃B8,W1.heap.size=B8:=⟨_,rfl⟩;obtain⟨Y,eY⟩:∃Y,W1.alloc (Ho (.slice none 0 0) (.slice none 0 0) (.slice none 0 0))=Y:=⟨_,rfl⟩;have lH:W1.alloc (.cells #[.slice none 0 0,.slice none 0 0,.slice none 0 0] 93)=Y:=eY;rw[yY] at r uz JO;rw[eY] at r j;simp only[lH] at q⊢;simp only[yY];clear eY lH yY;refine aI [2] (cA ?_ aH);intro l K;go_simp;refine(IB.o Y).af ?_;rintro e u1 ⟨Ga,rfl,xq,ad⟩;have ir:=hid xq;replace j:=hid (j.o.trans (ad.af j.o.size));replace r:=hid (r.o.aa ad r.o.lt);clear q;refine K.o _ _ (I.o u1 j.o) (fun q=>?_);clear K l ad xq;refine aI [3] (cA ?_ aH);intro l K;go_simp;refine(qU.o Ga u1 (lU.o _ j.o) ir.o).af ?_;rintro e u2 ⟨G,d,cd,t,ct,rfl,yV,jH,Ev,M,dK⟩;have kI:=hid yV;have x5:=hid jH;have ju:=hid Ev;have fQ:Hid (∀g o,t=some ⟨g,o,none⟩ ->u1.heap.size<=g):=dK.2;have AU:u1.heap.size<=u2.heap.size:=M.size;replace j:=hid (j.o.trans (M.af j.o.size));have bw:B8<u1.heap.size:=r.o.lt;replace r:=hid (r.o.aa M r.o.lt);refine K.o _ _ (I.o u2 j.o) (fun ak=>?_)
    clear M yV jH Ev dK K l q;have q:=ak;clear ak;have dV:Hid (∀g o,t=some ⟨g,o,none⟩ ->vX≠[] ->g≠B8):=fun g o e _=>by have:=fQ.o g o e;omega
   all_goals
    obtain⟨p0,p1,p2⟩:=r.o.cells;have Ct:=r.o.fz 0;have Cs:=r.o.fz 1;have Cr:=r.o.fz 2;refine aI [5] (cA ?_ aH);intro l K;go_simp;have mP:=hid (r.o.put (.slice (some ⟨G,0,none⟩) V.length V.length) (.slice d BK.length cd) (.slice t vX.length ct));have Ow:=hid (kI.o.putP r.o (slv _ _ _) (slv _ _ _) (slv _ _ _) (.slice (some ⟨G,0,none⟩) V.length V.length) (.slice d BK.length cd) (.slice t vX.length ct));have OE:=hid (x5.o.putP r.o (slv _ _ _) (slv _ _ _) (slv _ _ _) (.slice (some ⟨G,0,none⟩) V.length V.length) (.slice d BK.length cd) (.slice t vX.length ct));have Sn:=hid (aho ju.o r.o (slv _ _ _) (slv _ _ _) (slv _ _ _) dV.o (slv (some ⟨G,0,none⟩) V.length V.length) (slv d BK.length cd) (.slice t vX.length ct));have uJ:=hid (bL j.o JO (.slice (some ⟨G,0,none⟩) V.length V.length) (.slice d BK.length cd) (.slice t vX.length ct));clear q;refine K.o _ _ (I.o _ uJ.o) (fun q=>?_);clear K l p0 p1 p2 Ct Cs Cr r kI x5 ju j dV;(try simp only[gE,aP]);refine dC ao ?_ _;exact⟨rfl,Ga,G,B8,d,t,cd,ct,rfl,mP.o,Ow.o,OE.o,Sn.o,uJ.o,uz⟩
  ·rintro e a' w4 ⟨rfl,Ga,G,B8,d,t,cd,ct,rfl,bb,JP,xC,bf,Rc,uz⟩;(try simp only[aP]);have mP:=hid bb;have Ow:=hid JP;have OE:=hid xC;have Sn:=hid bf;have rU:=hid (HK.o.step Rc);clear bb JP xC bf Rc HK n0 n1 n2 IB qU;obtain⟨n0,n1,n2⟩:=rU.o.1.1.cells
   go_wp2_with (first
    |(at_make;refine nY _ rfl _ _ 22 rfl w4.heap.size 3 i0 (.int .i64 0) 1 Tryz.underlying22 b6 bO bP .i64 .i64 _ _ V.length rfl rfl bd bd (by rw[bR];omega) (by unfold maxLen;omega) (ar _) ?_;intro w5 QP Q4))
   have ab:=qP QP;rw[CA] at ab;have qI:c8 w4 w5:=(aw _ w4).grown Q4 (ar _) (fun k e=>by cases e);have G8:G<w4.heap.size:=ady Ow.o rfl (fun e=>by have e2:=bU List.length e;rw[ba,ix,mg] at e2;omega)
   have qb:Hid (uX w (ah V) V.length w4.heap.size B8 G d t cd ct (FF 0) (PP 0) (AT 0) w5):=by
    rw[OB.o,BB.o,O.o.at0];exact⟨mP.o.aa qI mP.o.lt,Ow.o.aa qI,OE.o.aa qI,fun g o e ay=>Nat.ne_of_lt (ady OE.o e ay),(km.old Sn.o (ar _)).aa qI,ab,rU.o.2.aa qI rU.o.2.lt,rU.o.1.2.trans (qI.af rU.o.1.2.size),uz,mP.o.lt,G8⟩
   clear QP Q4 ab qI G8 mP Ow OE Sn rU n0 n1 n2 OB BB;generalize w4.heap.size=G9 at *;go_wp2_with fail
   go_loopw [34] (fun iv wr=>∃(i:Nat) (d t:Option Addr) (cd ct:Nat),i<=F.length/\iv=.int .i64 i/\Hid (uX w (ah V) V.length G9 B8 G d t cd ct (FF i) (PP i) (AT i) wr)) (fun iv _=>F.length - (intOf iv).toNat)
   case atStart=>exact⟨0,d,t,cd,ct,aS _,rfl,qb⟩
   case round=>
    obtain⟨i,d',t',ai,cI,hi,rfl,HS⟩:=hrel;clear qb;by_cases ax:i<F.length
    ·obtain⟨v,z,ev,ez,hv,bg⟩:=O.o.at1 i ax;obtain⟨g,o,rfl,hg,k0,k1⟩:=Oy.o wr HS.o.bel i ax;rw[ev] at k0;rw[ez] at k1;have Be:=hid (O.o.fix1 i ax);rw[ev,ez] at Be;have SV:=hid bg;clear ev ez bg;have uu:=(aw wr.heap.size wr).alloc (ar _) (.cells #[.int .i64 (v:Nat),.int .i64 (z:Nat)] 66);have an:(wr.alloc (.cells #[.int .i64 (v:Nat),.int .i64 (z:Nat)] 66)).heap[wr.heap.size]? =some (.cells #[.int .i64 (v:Nat),.int .i64 (z:Nat)] 66 (0,0)):=jg wr _;(have A2:(wr.alloc (.cells #[.int .i64 (v:Nat),.int .i64 (z:Nat)] 66)).cell? ⟨wr.heap.size,0,none⟩=some (.int .i64 (v:Nat)):=by rw[bZ _ _ 0 _ _ (0,0) an];rfl);(have Db:(wr.alloc (.cells #[.int .i64 (v:Nat),.int .i64 (z:Nat)] 66)).cell? ⟨wr.heap.size,1,none⟩=some (.int .i64 (z:Nat)):=by rw[bZ _ _ 1 _ _ (0,0) an];rfl);have kE:=hid (HS.o.step uu);(have bm:v<(AT i).length:=by rw[(O.o.len i).1];exact hv);have r0:=kE.o.row.cell v bm;have Cn:=kE.o.row.fz v;generalize (AT i)[v]'bm=bT at *;have gQ:=hid (kE.o.setA v z);rw[<- SV.o] at gQ;(have a8:wr.heap.size≠G9:=by have:=HS.o.row.lt;omega);have Wm:((wr.alloc (.cells #[.int .i64 (v:Nat),.int .i64 (z:Nat)] 66)).setCell ⟨G9,v,none⟩ (.int .i64 (z:Int))).heap[wr.heap.size]? =some (.cells #[.int .i64 (v:Nat),.int .i64 (z:Nat)] 66 (0,0)):=(iJ _ ⟨G9,v,none⟩ _ _ a8).trans an
     have BG:Hid (((wr.alloc (.cells #[.int .i64 (v:Nat),.int .i64 (z:Nat)] 66)).setCell ⟨G9,v,none⟩ (.int .i64 (z:Int))).cell? ⟨wr.heap.size,0,none⟩=some (.int .i64 (v:Nat))/\((wr.alloc (.cells #[.int .i64 (v:Nat),.int .i64 (z:Nat)] 66)).setCell ⟨G9,v,none⟩ (.int .i64 (z:Int))).cell? ⟨wr.heap.size,1,none⟩=some (.int .i64 (z:Nat))):=⟨by rw[bZ _ _ 0 _ _ (0,0) Wm];rfl,by rw[bZ _ _ 1 _ _ (0,0) Wm];rfl⟩;clear uu an Wm HS kE SV;go_upto_region 10 with fail
     generalize hU7:((wr.alloc (.cells #[.int .i64 (v:Nat),.int .i64 (z:Nat)] 66)).setCell ⟨G9,v,none⟩ (.int .i64 (z:Int)))=U7 at *;generalize wr.heap.size=pH at *;clear hU7 A2 Db r0 Cn k0 k1 a8;obtain⟨A2,Db⟩:=BG.o;obtain⟨p0,p1,p2⟩:=gQ.o.box.cells;have HX:=hid (Be.o (some ⟨G,0,none⟩) d' t' V.length ai cI U7 gQ.o.sz gQ.o.fr gQ.o.tb.tbs);clear BG Be;go_wp2_with fail
     refine HX.o.af ?_;rintro e w7 ⟨d7,uC,t7,y8,rfl,uh,bV,jE,Ma,GF⟩;have Km:=hid (gQ.o.step bV);have oO:=gQ.o.box.lt;have JD:=gQ.o.row.lt;have y:=hid (Km.o.putP (cd':=uC) (cI:=y8) uh (fun g o e _=>by have:=jE.2 g o e;omega) (GF G9 JD) (fun g o e=>by have:=Ma.2 g o e;omega));clear p0 p1 p2 A2 Db;obtain⟨p0,p1,p2⟩:=Km.o.box.cells;have Ct:=Km.o.box.fz 0;have Cs:=Km.o.box.fz 1;have Cr:=Km.o.box.fz 2;clear uh bV jE Ma GF HX Km gQ;go_wp2;go_roundw
     case rel=>exact⟨i+1,_,_,_,_,al,bd,y⟩
     case measure=>simp[intOf];omega
    ·obtain rfl:i=F.length:=al
     obtain⟨l1,l2,l3⟩:=O.o.link;rw[l1,l2,l3] at HS;clear l1 l2 l3;go_wp2_with fail
     go_loopw [50] (fun iv wr=>∃(k:Nat) (d t:Option Addr) (cd ct:Nat),k<=V.length/\iv=.int .i64 k/\Hid (uX w (ah V) V.length G9 B8 G d t cd ct (x7 k) (PC k) (AC k) wr)) (fun iv _=>V.length - (intOf iv).toNat)
     case atStart=>exact⟨0,d',t',ai,cI,aS _,rfl,HS⟩
     case round=>
      obtain⟨k,d,t,cd,ct,hk,rfl,zr⟩:=hrel;clear HS;rename World=>W6
      by_cases ae:k<V.length
      ·obtain⟨p0,p1,p2⟩:=zr.o.box.cells;have HX:=hid (I8 d cd (x7 k) (k:Int) W6 zr.o.fr (by have:=O.o.few k;omega));rw[O.o.con k ae] at HX;obtain⟨XZ,Ww⟩:∃XZ,ck k=XZ:=⟨_,rfl⟩;rw[Ww] at HX;have eQ:=hid Ww;clear Ww;go_wp2_with fail
       refine HX.o.af ?_;rintro e ZJ ⟨rfl,T⟩;have tO:=hid (zr.o.step T);clear T HX zr p0 p1 p2;cases XZ with
       |false=>
        obtain⟨e1,e2,e3⟩:=O.o.no k ae eQ.o;rw[<- e1, <- e2, <- e3] at tO;clear e1 e2 e3;go_wp2;go_roundw
        case rel=>exact⟨k+1,_,_,_,_,al,bd,tO⟩
        case measure=>simp[intOf];omega
       |true=>
        have Kt:=hid (O.o.only k ae eQ.o);have FP:=hid (O.o.best k ae eQ.o);have rV:=hid (O.o.fix2 k ae eQ.o);have DN:=hid (O.o.at2 k ae eQ.o);(have bl:k<(AC k).length:=by rw[(O.o.len k).2];exact ae);obtain⟨x,hx⟩:∃x,xk k=x:=⟨_,rfl⟩;rw[hx] at FP rV DN;clear hx eQ;go_upto_region 16 with fail
        refine abx (fun a0 e a' w'=>e=.normal/\∃(tV H:Nat) (tx ty:Value) (s:Option Addr) (u:Nat) (bn:Bool) (n p:ByteArray),a'=(((((((((((((a0.put (some 58) (.pointer (some ⟨B8,0,none⟩))).put (some 59) (.slice (some ⟨G,0,none⟩) V.length V.length)).put (some 60) (.agg #[.slice (some ⟨G,0,none⟩) V.length V.length,.slice d (x7 k).length cd,.slice t (PC k).length ct])).put (some 61) (.int .i64 (k:Nat))).put (some 62) (.slice (some ⟨tV,0,none⟩) 1 1)).put (some 63) (.agg #[tx,ty])).put (some 64) (.tuple #[.slice s 1 u,.agg #[.bool bn,.string n,.string p],.int .i64 0])).put (some 57) (.tuple #[.slice s 1 u,.agg #[.bool bn,.string n,.string p],.int .i64 0])).put (some 65) (.slice s 1 u)).put (some 66) (.agg #[.bool bn,.string n,.string p])).put (some 67) (.int .i64 0)).put (some 14) (.pointer (some ⟨H,0,none⟩))).put (some 13) (.slice s 1 u)).put (some 15) (.int .i64 0)/\uX w (ah V) V.length G9 B8 G d t cd ct (x7 k) (PC k) (AC k) w'/\az w' s [(x:Int)]) ?_ ?_
        ·obtain⟨D,Rm⟩:∃D,ZJ.drew=D:=⟨_,rfl⟩;have Q:=hid (tO.o.step ((aw ZJ.heap.size ZJ).drew));rw[Rm] at Q;have I:Hid (∀U:World,c8 D U ->U.cell? ⟨B8,0,none⟩=some (.slice (some ⟨G,0,none⟩) V.length V.length)/\U.cell? ⟨B8,1,none⟩=some (.slice d (x7 k).length cd)/\U.cell? ⟨B8,2,none⟩=some (.slice t (PC k).length ct)):=fun U Z=>(Q.o.step Z).box.cells;have j:Hid (c8 D D):=aw _ _;refine iu (S:=fun U=>U.cell? ⟨B8,0,none⟩=some (.slice (some ⟨G,0,none⟩) V.length V.length)/\U.cell? ⟨B8,1,none⟩=some (.slice d (x7 k).length cd)/\U.cell? ⟨B8,2,none⟩=some (.slice t (PC k).length ct)) ao (by rw[Rm];exact I.o _ j.o) (fun q=>?_);rw[Rm] at q⊢;clear Rm tO rV DN;refine au 0 (.pointer (some ⟨B8,0,none⟩)) ?_;refine au 1 (.slice (some ⟨G,0,none⟩) V.length V.length) ?_;refine au 2 (.agg #[.slice (some ⟨G,0,none⟩) V.length V.length,.slice d (x7 k).length cd,.slice t (PC k).length ct]) ?_;refine au 3 (.int .i64 (k:Nat)) ?_;refine aI [4,11] (cA ?_ (cA ?_ aH))
         ·intro l K;go_simp;have m:=(aw _ D).alloc (ar _) (.cells #[.int .i64 (k:Nat)] 3);have Dz:Hid (az (D.alloc (.cells #[.int .i64 (k:Nat)] 3)) (some ⟨D.heap.size,0,none⟩) [(k:Int)]):=Cv D k;replace j:=hid (j.o.trans (m.af j.o.size));clear q;refine K.o _ _ (I.o _ j.o) (fun q=>?_);clear K l m;obtain⟨tV,Hd⟩:∃tV,D.heap.size=tV:=⟨_,rfl⟩;obtain⟨vw,CJ⟩:∃vw,D.alloc (.cells #[.int .i64 (k:Nat)] 3)=vw:=⟨_,rfl⟩;rw[Hd,CJ] at Dz;rw[CJ] at j;simp only[CJ] at q⊢;simp only[Hd];clear CJ Hd;refine aI [5,11] (cA ?_ (cA ?_ aH))
          ·intro l K;go_simp;refine(Kt.o (some ⟨G,0,none⟩) d t (some ⟨tV,0,none⟩) V.length cd ct 1 vw (Q.o.step j.o).sz (Q.o.step j.o).fr (Q.o.step j.o).tb.tbs Dz.o).af ?_;rintro e u5 ⟨tx,ty,rfl,xe,ab⟩;have HV:=hid xe;replace j:=hid (j.o.trans (ab.af j.o.size));clear q;refine K.o _ _ (I.o _ j.o) (fun q=>?_);clear K l ab xe;refine aI [6,11] (cA ?_ (cA ?_ aH))
           ·intro l K;go_simp;refine(FP.o (some ⟨G,0,none⟩) V.length tx ty u5 (Q.o.step j.o).sz HV.o).af ?_;rintro e u6 ⟨s,u,⟨bn,n,p⟩,rfl,ui,T⟩;have uR:=hid ui;replace j:=hid (j.o.trans (T.af j.o.size));clear q;refine K.o _ _ (I.o _ j.o) (fun q=>?_);clear K l T ui;refine au 7 (.tuple #[.slice s 1 u,.agg #[.bool bn,.string n,.string p],.int .i64 0]) ?_;refine au 8 (.slice s 1 u) ?_;refine au 9 (.agg #[.bool bn,.string n,.string p]) ?_;refine au 10 (.int .i64 0) ?_;refine aI [11] (cA ?_ aH)
            ·intro l K;go_simp;have m:=(aw _ u6).alloc (ar _) (FC false ⟨#[]⟩ ⟨#[]⟩);have X:=hid (aF.new u6 false ⟨#[]⟩ ⟨#[]⟩);have yB:D.heap.size<=u6.heap.size:=j.o.size;replace uR:=hid (uR.o.aa m);replace j:=hid (j.o.trans (m.af j.o.size));clear q;refine K.o _ _ (I.o _ j.o) (fun q=>?_);clear K l m;obtain⟨H,P⟩:∃H,u6.heap.size=H:=⟨_,rfl⟩;(have Hg:D.heap.size<=H:=by rw[<- P];exact yB);clear yB;obtain⟨E,tz⟩:∃E,u6.alloc (FC false ⟨#[]⟩ ⟨#[]⟩)=E:=⟨_,rfl⟩;have yw:u6.alloc (.cells #[.bool false,.string ⟨#[]⟩,.string ⟨#[]⟩] 53)=E:=tz;rw[P] at X;rw[tz] at X j uR;simp only[yw] at q⊢;simp only[P];clear tz yw P;refine au 12 (.slice s 1 u) ?_;(try simp only[gE,aP]);obtain⟨x0,x1,x2,f0,f1,f2⟩:=X.o.facts;refine aI [13] (cA ?_ aH)
             ·intro l K;go_simp;have Dy:=hid (CD uR.o X.o (.bool bn) (.string n) (.string p));have uJ:=hid (bL j.o Hg (.bool bn) (.string n) (.string p));clear q;refine K.o _ _ (I.o _ uJ.o) (fun q=>?_);clear K l x0 x1 x2 f0 f1 f2;refine au 14 (.int .i64 0) ?_;(try simp only[gE,aP]);refine dC ao ?_ _;exact⟨rfl,tV,H,tx,ty,s,u,bn,n,p,rfl,Q.o.step uJ.o,Dy.o⟩
           ·intro l K;go_simp;have m:=(aw _ u5).alloc (ar _) (FC false ⟨#[]⟩ ⟨#[]⟩);have X:=hid (aF.new u5 false ⟨#[]⟩ ⟨#[]⟩);have yB:D.heap.size<=u5.heap.size:=j.o.size;replace HV:=hid (HV.o.aa m);replace j:=hid (j.o.trans (m.af j.o.size));clear q;refine K.o _ _ (I.o _ j.o) (fun q=>?_);clear K l m;obtain⟨H,P⟩:∃H,u5.heap.size=H:=⟨_,rfl⟩;(have Hg:D.heap.size<=H:=by rw[<- P];exact yB);clear yB;obtain⟨E,tz⟩:∃E,u5.alloc (FC false ⟨#[]⟩ ⟨#[]⟩)=E:=⟨_,rfl⟩;have yw:u5.alloc (.cells #[.bool false,.string ⟨#[]⟩,.string ⟨#[]⟩] 53)=E:=tz;rw[P] at X;rw[tz] at X j HV;simp only[yw] at q⊢;simp only[P];clear tz yw P;refine aI [6] (cA ?_ aH)
            ·intro l K;go_simp;refine(FP.o (some ⟨G,0,none⟩) V.length tx ty E (Q.o.step j.o).sz HV.o).af ?_;rintro e u6 ⟨s,u,⟨bn,n,p⟩,rfl,ui,T⟩;have uR:=hid ui;replace j:=hid (j.o.trans (T.af j.o.size));replace X:=hid (X.o.aa T X.o.lt);clear q;refine K.o _ _ (I.o _ j.o) (fun q=>?_);clear K l T ui;refine au 7 (.tuple #[.slice s 1 u,.agg #[.bool bn,.string n,.string p],.int .i64 0]) ?_;refine au 8 (.slice s 1 u) ?_;refine au 9 (.agg #[.bool bn,.string n,.string p]) ?_;refine au 10 (.int .i64 0) ?_;refine au 12 (.slice s 1 u) ?_;(try simp only[gE,aP]);obtain⟨x0,x1,x2,f0,f1,f2⟩:=X.o.facts;refine aI [13] (cA ?_ aH)
             ·intro l K;go_simp;have Dy:=hid (CD uR.o X.o (.bool bn) (.string n) (.string p));have uJ:=hid (bL j.o Hg (.bool bn) (.string n) (.string p));clear q;refine K.o _ _ (I.o _ uJ.o) (fun q=>?_);clear K l x0 x1 x2 f0 f1 f2;refine au 14 (.int .i64 0) ?_;(try simp only[gE,aP]);refine dC ao ?_ _;exact⟨rfl,tV,H,tx,ty,s,u,bn,n,p,rfl,Q.o.step uJ.o,Dy.o⟩
          ·intro l K;go_simp;have m:=(aw _ vw).alloc (ar _) (FC false ⟨#[]⟩ ⟨#[]⟩);have X:=hid (aF.new vw false ⟨#[]⟩ ⟨#[]⟩);have yB:D.heap.size<=vw.heap.size:=j.o.size;replace Dz:=hid (Dz.o.aa m);replace j:=hid (j.o.trans (m.af j.o.size));clear q;refine K.o _ _ (I.o _ j.o) (fun q=>?_);clear K l m;obtain⟨H,P⟩:∃H,vw.heap.size=H:=⟨_,rfl⟩;(have Hg:D.heap.size<=H:=by rw[<- P];exact yB);clear yB;obtain⟨E,tz⟩:∃E,vw.alloc (FC false ⟨#[]⟩ ⟨#[]⟩)=E:=⟨_,rfl⟩;have yw:vw.alloc (.cells #[.bool false,.string ⟨#[]⟩,.string ⟨#[]⟩] 53)=E:=tz;rw[P] at X;rw[tz] at X j Dz;simp only[yw] at q⊢;simp only[P];clear tz yw P;refine aI [5] (cA ?_ aH)
           ·intro l K;go_simp;refine(Kt.o (some ⟨G,0,none⟩) d t (some ⟨tV,0,none⟩) V.length cd ct 1 E (Q.o.step j.o).sz (Q.o.step j.o).fr (Q.o.step j.o).tb.tbs Dz.o).af ?_;rintro e u5 ⟨tx,ty,rfl,xe,ab⟩;have HV:=hid xe;replace j:=hid (j.o.trans (ab.af j.o.size));replace X:=hid (X.o.aa ab X.o.lt);clear q;refine K.o _ _ (I.o _ j.o) (fun q=>?_);clear K l ab xe;refine aI [6] (cA ?_ aH)
            ·intro l K;go_simp;refine(FP.o (some ⟨G,0,none⟩) V.length tx ty u5 (Q.o.step j.o).sz HV.o).af ?_;rintro e u6 ⟨s,u,⟨bn,n,p⟩,rfl,ui,T⟩;have uR:=hid ui;replace j:=hid (j.o.trans (T.af j.o.size));replace X:=hid (X.o.aa T X.o.lt);clear q;refine K.o _ _ (I.o _ j.o) (fun q=>?_);clear K l T ui;refine au 7 (.tuple #[.slice s 1 u,.agg #[.bool bn,.string n,.string p],.int .i64 0]) ?_;refine au 8 (.slice s 1 u) ?_;refine au 9 (.agg #[.bool bn,.string n,.string p]) ?_;refine au 10 (.int .i64 0) ?_;refine au 12 (.slice s 1 u) ?_;(try simp only[gE,aP]);obtain⟨x0,x1,x2,f0,f1,f2⟩:=X.o.facts;refine aI [13] (cA ?_ aH)
             ·intro l K;go_simp;have Dy:=hid (CD uR.o X.o (.bool bn) (.string n) (.string p));have uJ:=hid (bL j.o Hg (.bool bn) (.string n) (.string p));clear q;refine K.o _ _ (I.o _ uJ.o) (fun q=>?_);clear K l x0 x1 x2 f0 f1 f2;refine au 14 (.int .i64 0) ?_;(try simp only[gE,aP]);refine dC ao ?_ _;exact⟨rfl,tV,H,tx,ty,s,u,bn,n,p,rfl,Q.o.step uJ.o,Dy.o⟩
         ·intro l K;go_simp;have m:=(aw _ D).alloc (ar _) (FC false ⟨#[]⟩ ⟨#[]⟩);have X:=hid (aF.new D false ⟨#[]⟩ ⟨#[]⟩);have yB:D.heap.size<=D.heap.size:=j.o.size;replace j:=hid (j.o.trans (m.af j.o.size));clear q;refine K.o _ _ (I.o _ j.o) (fun q=>?_);clear K l m;obtain⟨H,P⟩:∃H,D.heap.size=H:=⟨_,rfl⟩;(have Hg:D.heap.size<=H:=by rw[<- P];exact yB);clear yB;obtain⟨E,tz⟩:∃E,D.alloc (FC false ⟨#[]⟩ ⟨#[]⟩)=E:=⟨_,rfl⟩;have yw:D.alloc (.cells #[.bool false,.string ⟨#[]⟩,.string ⟨#[]⟩] 53)=E:=tz;rw[P] at X;rw[tz] at X j;simp only[yw] at q⊢;simp only[P];clear tz yw P;refine aI [4] (cA ?_ aH)
          ·intro l K;go_simp;have m:=(aw _ E).alloc (ar _) (.cells #[.int .i64 (k:Nat)] 3);have Dz:Hid (az (E.alloc (.cells #[.int .i64 (k:Nat)] 3)) (some ⟨E.heap.size,0,none⟩) [(k:Int)]):=Cv E k;replace X:=hid (X.o.aa m X.o.lt);replace j:=hid (j.o.trans (m.af j.o.size));clear q;refine K.o _ _ (I.o _ j.o) (fun q=>?_);clear K l m;obtain⟨tV,Hd⟩:∃tV,E.heap.size=tV:=⟨_,rfl⟩;obtain⟨vw,CJ⟩:∃vw,E.alloc (.cells #[.int .i64 (k:Nat)] 3)=vw:=⟨_,rfl⟩;rw[Hd,CJ] at Dz;rw[CJ] at j X;simp only[CJ] at q⊢;simp only[Hd];clear CJ Hd;refine aI [5] (cA ?_ aH)
           ·intro l K;go_simp;refine(Kt.o (some ⟨G,0,none⟩) d t (some ⟨tV,0,none⟩) V.length cd ct 1 vw (Q.o.step j.o).sz (Q.o.step j.o).fr (Q.o.step j.o).tb.tbs Dz.o).af ?_;rintro e u5 ⟨tx,ty,rfl,xe,ab⟩;have HV:=hid xe;replace j:=hid (j.o.trans (ab.af j.o.size));replace X:=hid (X.o.aa ab X.o.lt);clear q;refine K.o _ _ (I.o _ j.o) (fun q=>?_);clear K l ab xe;refine aI [6] (cA ?_ aH)
            ·intro l K;go_simp;refine(FP.o (some ⟨G,0,none⟩) V.length tx ty u5 (Q.o.step j.o).sz HV.o).af ?_;rintro e u6 ⟨s,u,⟨bn,n,p⟩,rfl,ui,T⟩;have uR:=hid ui;replace j:=hid (j.o.trans (T.af j.o.size));replace X:=hid (X.o.aa T X.o.lt);clear q;refine K.o _ _ (I.o _ j.o) (fun q=>?_);clear K l T ui;refine au 7 (.tuple #[.slice s 1 u,.agg #[.bool bn,.string n,.string p],.int .i64 0]) ?_;refine au 8 (.slice s 1 u) ?_;refine au 9 (.agg #[.bool bn,.string n,.string p]) ?_;refine au 10 (.int .i64 0) ?_;refine au 12 (.slice s 1 u) ?_;(try simp only[gE,aP]);obtain⟨x0,x1,x2,f0,f1,f2⟩:=X.o.facts;refine aI [13] (cA ?_ aH)
             ·intro l K;go_simp;have Dy:=hid (CD uR.o X.o (.bool bn) (.string n) (.string p));have uJ:=hid (bL j.o Hg (.bool bn) (.string n) (.string p));clear q;refine K.o _ _ (I.o _ uJ.o) (fun q=>?_);clear K l x0 x1 x2 f0 f1 f2;refine au 14 (.int .i64 0) ?_;(try simp only[gE,aP]);refine dC ao ?_ _;exact⟨rfl,tV,H,tx,ty,s,u,bn,n,p,rfl,Q.o.step uJ.o,Dy.o⟩
        ·rintro e a' w8 ⟨rfl,tV,H,tx,ty,s,u,bn,n,p,rfl,MF,bk⟩;(try simp only[aP]);have y:=hid MF;obtain⟨gx,ox,rfl,bN,kx⟩:=bk 0 aE;rw[fZ] at kx;have r0:=MF.row.cell k bl;have Cn:=MF.row.fz k;generalize (AC k)[k]'bl=bT at *;have qR:=hid (MF.setA k x);rw[<- DN.o] at qR;clear MF bk y tO Kt FP bN;go_upto_region 18 with fail
         generalize Rc:(w8.setCell ⟨G9,k,none⟩ (.int .i64 (x:Int)))=U9 at *;clear Rc kx r0 Cn;obtain⟨D5,jq⟩:∃D5,U9.drew=D5:=⟨_,rfl⟩;replace qR:=hid (qR.o.step ((aw U9.heap.size U9).drew));rw[jq] at qR;(have Wa:k<(AC (k+1)).length:=by rw[(O.o.len (k+1)).2];exact ae)
         have aM:Hid ((AC (k+1))[k]'Wa=x):=by
          have e:=DN.o;(have:∀(A:List Nat) (h:k<A.length),A=(AC k).set k x ->A[k]=x:=fun A h e=>by subst e;rw[List.getElem_set_self]);exact this _ Wa e
         have uK:Hid (∀U:World,uX w (ah V) V.length G9 B8 G d t cd ct (x7 k) (PC k) (AC (k+1)) U ->∀c,BeT B8 G9 k (.slice (some ⟨G,0,none⟩) V.length V.length) (.slice d (x7 k).length cd) (.slice t (PC k).length ct) x c U):=fun U Z c _=>⟨Z.box.cells,by have:=Z.row.cell k Wa;rw[aM.o] at this;exact this⟩;refine Tl 8 (BeT B8 G9 k (.slice (some ⟨G,0,none⟩) V.length V.length) (.slice d (x7 k).length cd) (.slice t (PC k).length ct) x) ao (by rw[jq];exact uK.o _ qR.o false) (fun q=>?_);rw[jq] at q⊢;clear jq;(try simp only[gE,aP]);refine IW (i:=0) (oi:=_) (v:=.agg #[.slice (some ⟨G,0,none⟩) V.length V.length,.slice d (x7 k).length cd,.slice t (PC k).length ct]) rfl ao ao ao a6 rfl ao (fun _ _ _ h=>h) (Or.inl ⟨by rfl,?_⟩) ao b5 ?_
         ·intro u' aO;(try simp only[gE]);obtain⟨⟨s0,s1,s2⟩,s3⟩:=aO rfl;go_simp
         (try simp only[gE,aP]);refine nk (i:=1) (oi:=_) (v:=.int .i64 (k:Nat)) (b:=false) rfl ao ao ao a6 (fun _ _ _ h=>h) (Or.inl ⟨by rfl,?_⟩) ao b5 ?_
         ·intro u' aO;go_simp
         (try simp only[gE,aP]);refine nk (i:=2) (oi:=_) (v:=.slice (some ⟨G9,0,none⟩) V.length V.length) (b:=false) rfl ao ao ao a6 (fun _ _ _ h=>h) (Or.inl ⟨by rfl,?_⟩) ao b5 ?_
         ·intro u' aO;go_simp
         (try simp only[gE,aP]);refine nk (i:=3) (oi:=_) (v:=.int .i64 (k:Nat)) (b:=false) rfl ao ao ao a6 (fun _ _ _ h=>h) (Or.inl ⟨by rfl,?_⟩) ao b5 ?_
         ·intro u' aO;go_simp
         (try simp only[gE,aP]);refine nk (i:=4) (oi:=_) (v:=.pointer (some ⟨G9,k,none⟩)) (b:=false) rfl ao ao ao a6 (fun _ _ _ h=>h) (Or.inl ⟨by rfl,?_⟩) ao b5 ?_
         ·intro u' aO;go_simp
         (try simp only[gE,aP]);refine IW (i:=5) (oi:=_) (v:=.int .i64 (x:Nat)) rfl ao ao ao a6 rfl ao (fun _ _ _ h=>h) (Or.inl ⟨by rfl,?_⟩) ao b5 ?_
         ·intro u' aO;(try simp only[gE]);obtain⟨⟨s0,s1,s2⟩,s3⟩:=aO rfl;go_simp
         (try simp only[gE,aP]);refine nk (i:=6) (oi:=_) (v:=.agg #[.int .i64 (k:Nat),.int .i64 (x:Nat)]) (b:=false) rfl ao ao ao a6 (fun _ _ _ h=>h) (Or.inl ⟨by rfl,?_⟩) ao b5 ?_
         ·intro u' aO;go_simp
         (try simp only[gE,aP]);refine pM (rs:=[7]) ao aE (eG.cons (b:=false) rfl ao ?_ (eG.nil))
         ·intro l K;go_simp;refine(rV.o (some ⟨G,0,none⟩) d t V.length cd ct D5 qR.o.sz qR.o.fr qR.o.tb.tbs).af ?_;rintro e bQ ⟨d7,uC,t7,y8,rfl,uh,bV,jE,Ma,GF⟩;have H4:=hid (qR.o.step bV);have oO:=qR.o.box.lt;have JD:=qR.o.row.lt;have bu:=hid (H4.o.putP (cd':=uC) (cI:=y8) uh (fun g o e _=>by have:=jE.2 g o e;omega) (GF G9 JD) (fun g o e=>by have:=Ma.2 g o e;omega));clear q;refine K.o _ _ (uK.o _ H4.o false) (fun q=>?_);clear K l uh bV jE Ma GF;(try simp only[gE,aP]);obtain⟨p0,p1,p2⟩:=H4.o.box.cells;have Ct:=H4.o.box.fz 0;have Cs:=H4.o.box.fz 1;have Cr:=H4.o.box.fz 2;refine pM (rs:=[8]) ao aE (eG.cons (b:=true) rfl ao ?_ (eG.nil))
          ·intro l K;go_simp;clear q;refine K.o _ _ (fun e=>by cases e) (fun q=>?_);clear K l p0 p1 p2 Ct Cs Cr;(try simp only[gE,aP]);refine K2 ao ?_ _;clear q uK aM qR H4 rV;generalize (((bQ.setCell ⟨B8,0,none⟩ (.slice (some ⟨G,0,none⟩) V.length V.length)).setCell ⟨B8,1,none⟩ (.slice d7 (x7 (k+1)).length uC)).setCell ⟨B8,2,none⟩ (.slice t7 (PC (k+1)).length y8))=vu at *;go_wp2;go_roundw
           case rel=>exact⟨k+1,_,_,_,_,al,bd,bu⟩
           case measure=>simp[intOf];omega
      ·obtain rfl:k=V.length:=al
       obtain⟨p0,p1,p2⟩:=zr.o.box.cells;have HX:=hid (O.o.last (some ⟨G,0,none⟩) d t V.length cd ct W6 zr.o.sz zr.o.fr zr.o.tb.tbs);have qA:=O.o.size;have uT:=hid O.o.fin;obtain⟨sn,sx,sy,xp⟩:∃a b c,qF (gN V L R F)=(a,b,c):=⟨_,_,_,rfl⟩;(have bo:val sn sx sy=gN V L R F:=by have:=qJ (gN V L R F);rw[xp] at this;exact this);(have b0:sx.size+sy.size<=40000:=by have:=Ul (gN V L R F);rw[xp] at this;simp only at this;omega);rw[xp] at HX gA;have Hu:=hid bo;clear xp qA bo O;go_wp2_with fail
       refine HX.o.af ?_;rintro e w7 ⟨xt,gx,ox,a1,rfl,q0,q1,q2,⟨xa,xn,xc,rfl⟩,bV⟩;(have bK:∀U:World,(Instr.field 58 (.agg #[.slice xa xn xc,.slice (some ⟨gx,ox,none⟩) 1 a1]) 1).run Tryz.prog U=.ok (.slice (some ⟨gx,ox,none⟩) 1 a1) U:=fun _=>ao);have m:=bV.alloc bV.size (FC sn sx sy);have y:=hid (zr.o.step m);have J:=hid (aF.new w7 sn sx sy);have br:w.heap.size+1<w7.heap.size:=(zr.o.step bV).rb.lt;clear p0 p1 p2 bV m zr HX;go_upto_region 21 with fail
       generalize ans:w7.heap.size=KH at *;generalize hw8:(w7.alloc (FC sn sx sy))=w8 at *;clear ans hw8 q0 q1 q2 bK;obtain⟨D5,jq⟩:∃D5,w8.drew=D5:=⟨_,rfl⟩;have jr:=(aw w8.heap.size w8).drew;replace y:=hid (y.o.step jr);replace J:=hid (J.o.aa jr J.o.lt);rw[jq] at y J;clear jr;refine iu (S:=fun U=>U.cell? ⟨KH,0,none⟩=some (.bool sn)/\U.cell? ⟨KH,1,none⟩=some (.string sx)/\U.cell? ⟨KH,2,none⟩=some (.string sy)) ao (by rw[jq];exact⟨J.o.c0,J.o.c1,J.o.c2⟩) (fun q=>?_);rw[jq] at q⊢;clear jq;refine au 0 (.agg #[.bool sn,.string sx,.string sy]) ?_;refine aI [1] (cA ?_ aH);intro l K;go_simp;refine(aoz 0 D5 al al).af ?_;rintro e u1 ⟨rfl,ad⟩;replace y:=hid (y.o.step ad);replace J:=hid (J.o.aa ad J.o.lt);rw[F3];clear q;refine K.o _ _ ⟨J.o.c0,J.o.c1,J.o.c2⟩ (fun q=>?_);clear K l ad;refine aI [2] (cA ?_ aH);intro l K;go_simp;refine(afc sn (aJ 0) sx sy (nu 0) (de 0) u1 al al (by have:=lC (0:Rat);have:=Jf;omega) (by have:=lC (0:Rat);have:=Jf;omega)).af ?_;rintro e u2 ⟨rfl,M⟩;replace y:=hid (y.o.step M);replace J:=hid (J.o.aa M J.o.lt);rw[gg,Hu.o];clear q;refine K.o _ _ ⟨J.o.c0,J.o.c1,J.o.c2⟩ (fun q=>?_);clear K l M;refine au 3 (.bool (c5 (gN V L R F) 0==0)) ?_;(try simp only[gE,aP]);refine dC ao ?_ _;clear q;(have JP:G9≠w.heap.size+1:=by have:=y.o.lo;omega);by_cases hz:gN V L R F=0
       ·have hc:(c5 (gN V L R F) 0==0)=true:=by rw[hz];rfl
        rw[hc];obtain⟨q1,q2,q3⟩:=eP.o hz;have gR:=hid q1;have fP:=hid q2;have wk:=hid q3;obtain⟨k0,k1,k2,f0,f1,f2⟩:=y.o.rb.facts;have bI:=hid (y.o.rb.put false ⟨#[]⟩ ⟨#[]⟩);have zU:=hid (bL y.o.bel (show w.heap.size<=w.heap.size+1 by omega) (.bool false) (.string ⟨#[]⟩) (.string ⟨#[]⟩));clear q1 q2 q3 hc hz eP gA J y;go_wp2;refine bD (Gh bI.o rfl _ rfl) rfl ?_;exact⟨⟨none,0,by rw[gR.o,fP.o,wk.o];rfl,by rw[fP.o];exact fun k hk=>absurd hk aE⟩,zU.o⟩
       ·have hc:(c5 (gN V L R F) 0==0)=false:=by
         rw[BU];exact fun e=>hz (apj e)
        rw[hc];obtain⟨q1,q2,q3⟩:=gA.o hz;rw[<- uT.o] at q2;have gR:=hid q1;have fP:=hid q2;have wk:=hid q3;(have V8:(iL (AC V.length)).length=V.length:=by rw[uT.o,ba,Nt]);clear q1 q2 q3 hc hz eP gA;go_upto_region 23 with fail
        obtain⟨D9,xC⟩:∃D9,u2.drew=D9:=⟨_,rfl⟩;have jr:=(aw u2.heap.size u2).drew;replace y:=hid (y.o.step jr);replace J:=hid (J.o.aa jr J.o.lt);rw[xC] at y J;clear jr;refine iu (S:=fun U=>U.cell? ⟨KH,0,none⟩=some (.bool sn)/\U.cell? ⟨KH,1,none⟩=some (.string sx)/\U.cell? ⟨KH,2,none⟩=some (.string sy)) ao (by rw[xC];exact⟨J.o.c0,J.o.c1,J.o.c2⟩) (fun q=>?_);rw[xC] at q⊢;clear xC;refine au 0 (.slice (some ⟨G9,0,none⟩) V.length V.length) ?_;refine au 1 (.agg #[.bool sn,.string sx,.string sy]) ?_;refine au 2 (.slice (some ⟨G9,0,none⟩) V.length V.length) ?_;(try simp only[gE,aP]);obtain⟨k0,k1,k2,f0,f1,f2⟩:=y.o.rb.facts;refine aI [3] (cA ?_ aH);intro l K;go_simp;have Hr:=hid (J.o.far3 (Nat.ne_of_gt br) (.bool sn) (.string sx) (.string sy));have bI:=hid (y.o.rb.put sn sx sy);have zU:=hid (bL y.o.bel (show w.heap.size<=w.heap.size+1 by omega) (.bool sn) (.string sx) (.string sy));have YR:=hid (((y.o.row.off (w.heap.size+1) 0 (.bool sn) JP).off (w.heap.size+1) 1 (.string sx) JP).off (w.heap.size+1) 2 (.string sy) JP);clear q;refine K.o _ _ ⟨Hr.o.c0,Hr.o.c1,Hr.o.c2⟩ (fun q=>?_);clear K l k0 k1 k2 f0 f1 f2;refine au 4 (.int .i64 0) ?_;(try simp only[gE,aP]);refine dC ao ?_ _;clear q;go_wp2;refine bD (Gh bI.o rfl _ rfl) rfl ?_;exact⟨⟨some ⟨G9,0,none⟩,V.length,by rw[gR.o,fP.o,wk.o,V8];rfl,by rw[fP.o];exact YR.o.ints⟩,zU.o⟩
 ·obtain⟨q1,q2,q3⟩:=fR.o gm;have gR:=hid q1;have fP:=hid q2;have wk:=hid q3;have kd:(FE==0)=false:=by simpa using gm
  obtain⟨k0,k1,k2,f0,f1,f2⟩:=HK.o.2.facts;have bI:=hid (HK.o.2.put false ⟨#[]⟩ ⟨#[]⟩);have zU:=hid (bL HK.o.1.2 (show w.heap.size<=w.heap.size+1 by omega) (.bool false) (.string ⟨#[]⟩) (.string ⟨#[]⟩));clear q1 q2 q3 gm fR eP gA kJ xO IB qU;go_wp2;refine bD (Gh bI.o rfl _ rfl) rfl ?_;exact⟨⟨none,0,by rw[gR.o,fP.o,wk.o];rfl,by rw[fP.o];exact fun k hk=>absurd hk aE⟩,zU.o⟩
theorem apl (h:q<p):c5 p q=1:=by rw[c5,aB (BW.2 (Rat.le_of_lt h)),aB (fun e=>Rat.lt_irrefl (e▸h))]
theorem apk (h:¬q<p):¬0<c5 p q:=by
 rw[c5];by_cases a:p<q
 ·rw[aA a];decide
 ·rw[aB a,aA (Rat.le_antisymm (BW.1 h) (BW.1 a))];decide
theorem aoW (S:List Nat) (n k:Nat):bX S (List.range n) k=(List.range n).map (aT S (List.range n) k):=by
 refine IQ fun i=>?_;by_cases h:i<n
 ·rw[J6 qZ (by rw[ly];exact h),r5,pL,Ti h];rfl
 ·rw[iV (by rw[vT,ly];omega),iV (by simp;omega)]
def mi (V:List Vr) (L:List (List Int)) (R:List (List Fr)) (l:List (Nat×Nat)) (k:Nat):Option Nat×Rat:=ud (fun k=>lN (bX (ah V) (List.range V.length) k) l) (pK V L R) k
theorem abi (h0:aY V L R=0) (h:lW V R) (l:List (Nat×Nat)):∀k,k<=cnt (ah V) (List.range V.length) ->qw (mi V L R l k).2<=8003
 |0,_=>by
  show qw 0<=8003;have:=Jf;omega
 |k+1,hk=>by
  rw[mi,ud];split
  ·exact P7 h0 (mq h0) h al
  ·exact abi h0 h l k al
theorem aip (h:bY V L R F=0):(gN V L R F=0/\mi V L R (nF F) (cnt (ah V) (List.range V.length))=(none,0))∨(gN V L R F≠0/\∃K,K<cnt (ah V) (List.range V.length)/\mi V L R (nF F) (cnt (ah V) (List.range V.length))=(some K,gN V L R F)/\bX (ah V) (List.range V.length) K=mJ V.length (xK V L R F)):=by
 obtain⟨a,_,l⟩:=rK h;have p:=mq a;have H:=afJ a (Pk a) (ZY a) l V.length 0 al;rw[Aa] at H;have b:tT (ah V) (List.range V.length) (fun v=>!((nF F).map (·.1)).contains v) (pF V L R) (dw (nF F) fun _=>0) (dw (xK V L R F) fun _=>0):=H;obtain⟨d,f⟩:=aio p l.nd l.lt b
 have c:mi V L R (nF F) (cnt (ah V) (List.range V.length))=if 0<gN V L R F then(some (pos (ah V) (dw (xK V L R F) fun _=>0) (List.range V.length)),gN V L R F) else(none,0):=by
  have:(fun k=>lN (bX (ah V) (List.range V.length) k) (nF F))=fun k=>tG (nF F) (aT (ah V) (List.range V.length) k):=funext fun k=>Yk (nF F) k;rw[mi,this];exact f
 have o:0<=gN V L R F:=adu a b.fit (ar _);by_cases z:gN V L R F=0
 ·refine .inl ⟨z,?_⟩;rw[c,aB (by rw[z];decide)]
 ·refine .inr ⟨z,pos (ah V) (dw (xK V L R F) fun _=>0) (List.range V.length),rq _ b.fit _,?_,?_⟩
  ·rw[c,aA (Rat.lt_of_le_of_ne o (fun e=>z e.symm))]
  ·rw[aoW,d];rfl
def BO (V:List Vr) (bv:Value) (o:Option Nat) (U:World):Prop:=match o with
 |none=>bv=.slice none 0 0
 |some K=>∃d cd,bv=.slice d V.length cd/\az U d (iL (bX (ah V) (List.range V.length) K))
theorem BO.aa {bv:Value} {o:Option Nat} (h:BO V bv o U) (b:c8 U U'):BO V bv o U':=by
 cases o with
 |none=>exact h
 |some K=>
  obtain⟨d,cd,e,i⟩:=h;exact⟨d,cd,e,i.aa b⟩
theorem BO.slv {bv:Value} {o:Option Nat} (h:BO V bv o U):cP bv:=by
 cases o with
 |none=>exact⟨_,_,_,h⟩
 |some K=>
  obtain⟨d,cd,e,i⟩:=h;exact⟨_,_,_,e⟩
theorem BO.putF {bv:Value} {o:Option Nat} (h:BO V bv o U) {n:Bool} {x y:ByteArray} (b:aF U g n x y) (u v s:Value):BO V bv o (((U.setCell ⟨g,0,none⟩ u).setCell ⟨g,1,none⟩ v).setCell ⟨g,2,none⟩ s):=by
 cases o with
 |none=>exact h
 |some K=>
  obtain⟨d,cd,e,i⟩:=h;exact⟨d,cd,e,CD i b u v s⟩
theorem ajj (a b c f:Option Addr) (ca cb cc cf:Nat) (V:List Vr) (L:List (List Int)) (R:List (List Fr)) (F:List (Int×Int)) (w:World) (h:xM w a b c V L R) (hF:jf w f F) (hn:F.length<=1000):
  c6 24 #[.agg #[.slice a V.length ca,.slice b L.length cb,.slice c R.length cc],.slice f F.length cf] w fun e w'=>ZL V L R F e w'/\c8 w w':=by
 have qg:=hid (fun (U:World) (t:c8 w U)=>Ud a b c f ca cb cc cf V L R F U (h.net.aa t) h.sm (hF.aa t) hn)
 have fR:Hid (bY V L R F≠0 ->kB V L R F=bY V L R F/\qN V L R F=[]/\rM V L R F=(false,⟨#[]⟩,⟨#[]⟩)):=fun e=>by
  have i:kB V L R F=bY V L R F:=aB e;exact⟨i,by rw[qN,i,aB e],by rw[rM,i,aB e]⟩
 have eP:Hid (bY V L R F=0 ->gN V L R F=0 ->kB V L R F=3/\qN V L R F=[]/\rM V L R F=(false,⟨#[]⟩,⟨#[]⟩)):=fun e n=>by
  have i:kB V L R F=3:=by rw[kB,aA e,aA n]
  exact⟨i,by rw[qN,i,aB a6],by rw[rM,i,aB a6]⟩
 have gA:Hid (bY V L R F=0 ->gN V L R F≠0 ->kB V L R F=0/\qN V L R F=iL (mJ V.length (xK V L R F))/\rM V L R F=qF (gN V L R F)):=fun e n=>by
  have i:kB V L R F=0:=by rw[kB,aA e,aB n]
  exact⟨i,by rw[qN,aA i],by rw[rM,aA i]⟩
 have Y:=hid (fun (e:bY V L R F=0)=>aip e)
 have xO:Hid (bY V L R F=0 ->V.length<=8/\1<=V.length):=fun e=>by
  have aQ:=gD (rK e).1;have:=aQ.fine.one;rw[ba,ix] at this;exact⟨aQ.n8,this⟩
 have eD:=hid (fun (U:World) (t:c8 w U)=>PN a b c ca cb cc L.length R.length V U (h.net.aa t).vars h.sm.vars.1);have tS:Hid (bY V L R F=0 ->∀(U:World) (s:Option Addr) (m:Nat),c6 58 #[.slice s V.length m] U fun e w'=>∃s m,e=.returned (.slice s V.length m)/\az w' s (iL (List.range V.length))/\c8 U w'):=fun e U s m=>Uh s m V.length U (by have:=(xO.o e).1;omega);have je:=hid (fun (e:bY V L R F=0) (s d:Option Addr) (m cd:Nat) (U:World)=>Ug (rK e).1 s d m cd U);have wj:=hid (fun (e:bY V L R F=0) (s d:Option Addr) (m cd k:Nat) (U:World)=>T9 (rK e).1 s d m cd k U);have HJ:=hid (fun (e:bY V L R F=0) (d:Option Addr) (cd k:Nat) (U:World) (O:k<cnt (ah V) (List.range V.length)) (t:c8 w U)=>Uc (rK e).1 h.wt a b c d ca cb cc cd k U O (h.net.aa t))
 have DL:Hid (bY V L R F=0 ->∀(d:Option Addr) (cd k:Nat) (U:World),az U d (iL (bX (ah V) (List.range V.length) k)) ->c8 w U ->c6 60 #[.slice d V.length cd,.slice f F.length cf] U fun e w'=>e=.returned (.bool (lN (bX (ah V) (List.range V.length) k) (nF F)))/\c8 U w'):=fun e d cd k U hA t=>by
  obtain⟨_,A,hl⟩:=rK e;have p:=hF.aa t;rw[A] at p;have:=Ui d f cd cf k V (nF F) U hA p hl.lt (by rw[<- tY, <- A];exact hn);rw[<- tY, <- A] at this;exact this
 have KE:Hid (bY V L R F=0 ->∀k,k<cnt (ah V) (List.range V.length) ->∀U:World,c6 62 #[dM (qF (pK V L R k)),.agg #[.bool (aJ (mi V L R (nF F) k).2),.string (nu (mi V L R (nF F) k).2),.string (de (mi V L R (nF F) k).2)]] U fun e w'=>e=.returned (.int .i64 (c5 (pK V L R k) (mi V L R (nF F) k).2))/\c8 U w'):=fun e k O U=>by
  obtain⟨h0,_,_⟩:=rK e;have p:=P7 h0 (mq h0) h.lt O;have h2:=abi h0 h.lt (nF F) k al;have:=abN (aJ (pK V L R k)) (aJ (mi V L R (nF F) k).2) (nu (pK V L R k)) (de (pK V L R k)) (nu (mi V L R (nF F) k).2) (de (mi V L R (nF F) k).2) U (by rw[lC];omega) (by rw[lC];omega);rwa [gg,gg] at this
 have gP:Hid (∀k,lN (bX (ah V) (List.range V.length) k) (nF F)=true ->(mi V L R (nF F) k).2<pK V L R k ->mi V L R (nF F) (k+1)=(some k,pK V L R k)):=fun k p h2=>by
  rw[mi,ud,aA];rw[gX,eR];exact⟨p,h2⟩
 have bb:Hid (∀k,(lN (bX (ah V) (List.range V.length) k) (nF F)=false∨¬(mi V L R (nF F) k).2<pK V L R k) ->mi V L R (nF F) (k+1)=mi V L R (nF F) k):=fun k p=>by
  rw[mi,ud,aB]
  ·rfl
  ·rw[gX,eR];rintro⟨h2,h3⟩;rcases p with p |p
   ·rw[p] at h2;cases h2
   ·exact p h3
 have qb:Hid (mi V L R (nF F) 0=(none,0)):=rfl;have MV:bY V L R F=0 ->cnt (ah V) (List.range V.length)<=65536:=fun e=>R2 (rK e).1;obtain⟨FE,MR⟩:∃FE,bY V L R F=FE:=⟨_,rfl⟩;rw[MR] at qg fR eP gA Y xO tS je wj HJ DL KE MV;clear MR;generalize mi V L R (nF F)=SC at *;generalize pK V L R=PK at *;generalize cnt (ah V) (List.range V.length)=C0 at *;have cE:=hid (LK.new w (.slice a V.length ca) (.slice b L.length cb) (.slice c R.length cc));obtain⟨c0,c1,c2⟩:=cE.o.1.1.cells;clear h hF;go_enter Tryz.func24,Tryz.ntmps24;go_wp2_with fail
 generalize ((w.alloc (NC (.slice a V.length ca) (.slice b L.length cb) (.slice c R.length cc))).alloc (FC false ⟨#[]⟩ ⟨#[]⟩))=bg at *;refine(qg.o bg cE.o.1.2).af ?_;rintro e w1 ⟨rfl,aO⟩;have Z:=hid (cE.o.step aO);clear c0 c1 c2 aO cE qg;by_cases gm:FE=0
 ·subst gm;replace eP:=hid (eP.o rfl);replace gA:=hid (gA.o rfl);replace Y:=hid (Y.o rfl);obtain⟨G0,bl⟩:=xO.o rfl;replace tS:=hid (tS.o rfl);replace je:=hid (je.o rfl);replace wj:=hid (wj.o rfl);replace HJ:=hid (HJ.o rfl);replace DL:=hid (DL.o rfl);replace KE:=hid (KE.o rfl);replace MV:=MV rfl;clear fR xO;obtain⟨c0,c1,c2⟩:=Z.o.1.1.cells;go_wp2_with fail
  refine(eD.o w1 Z.o.1.2).af ?_;rintro e w2 ⟨s,m,rfl,a1,ae⟩;have qf:=hid (Z.o.step ae);clear ae Z eD c0 c1 c2;go_wp2_with fail
  refine(tS.o w2 s m).af ?_;rintro e w3 ⟨d3,Hm,rfl,uj,u⟩;have ax:=a1.aa u;have pA:=hid (qf.o.step u);clear u qf a1;go_wp2_with fail
  refine(je.o s d3 m Hm w3 ax uj).af ?_;rintro e w4 ⟨rfl,ad⟩;have fh:=ax.aa ad;have rU:=hid (pA.o.step ad);clear ad pA ax uj je;go_wp2_with fail
  refine(Lt _).af ?_;rintro e M ⟨rfl,ak⟩;have a7:=fh.aa ak;have r:=(aw _ M).alloc (ar _) (FC (aJ 0) (nu 0) (de 0));have aG:w.heap.size+1<M.heap.size:=(rU.o.step ak).2.lt;have zK:=hid ((rU.o.step ak).step r);have Fl:=hid (aF.new M (aJ 0) (nu 0) (de 0));have Bu:=hid a7;have bT:=hid r;clear ak rU fh a7 r;go_wp2_with fail
  generalize (M.alloc (FC (aJ 0) (nu 0) (de 0)))=w6 at *;go_loopw [11,13] (fun bv iv wr=>∃k:Nat,k<=C0/\iv=.int .i64 k/\Hid (BO V bv (SC k).1 wr)/\Hid (LK w wr (.slice a V.length ca) (.slice b L.length cb) (.slice c R.length cc))/\Hid (aF wr M.heap.size (aJ (SC k).2) (nu (SC k).2) (de (SC k).2))/\Hid (c8 M wr)) (fun _ iv _=>C0 - (intOf iv).toNat)
  case atStart=>exact⟨0,aS _,rfl,by rw[qb.o];rfl,zK,by rw[qb.o];exact Fl,bT⟩
  case round=>
   obtain⟨k,O,rfl,j,g,H,l⟩:=hrel;clear zK Fl bT;obtain⟨vd,vn,vc,rfl⟩:=j.o.slv;by_cases av:k<C0
   ·go_wp2_with fail
    refine(tS.o wr s m).af ?_;rintro e z1 ⟨d1,A4,rfl,kr,aj⟩;have lT:=hid kr;clear kr;go_wp2_with fail
    refine(wj.o s d1 m A4 k z1 av ((Bu.o.aa l.o).aa aj) lT.o).af ?_;rintro e z2 ⟨d2,uD,rfl,kq,ae⟩;have jX:=aj.trans (ae.af aj.size);have v:=hid kq;replace j:=hid (j.o.aa jX);replace g:=hid (g.o.step jX);replace H:=hid (H.o.aa jX H.o.lt);replace l:=hid (l.o.trans (jX.af l.o.size));clear lT kq aj ae jX;have Sl:=hid (gP.o k);have Oo:=hid (bb.o k);have FR:=hid (DL.o d2 uD k z2 v.o g.o.1.2);have BF:=hid (fun U=>HJ.o d2 uD k U av);have ZB:=hid (KE.o k av);have Zw:Hid (∀U:World,az U d2 (iL (bX (ah V) (List.range V.length) k)) ->BO V (.slice d2 V.length uD) (some k) U):=fun U t=>⟨d2,uD,rfl,t⟩;generalize bX (ah V) (List.range V.length) k=DG at *;generalize lN DG (nF F)=ab at *;go_wp2_with fail
    refine FR.o.af ?_;rintro e z3 ⟨rfl,u⟩;replace v:=hid (v.o.aa u);replace j:=hid (j.o.aa u);replace g:=hid (g.o.step u);replace H:=hid (H.o.aa u H.o.lt);replace l:=hid (l.o.trans (u.af l.o.size));clear u FR;obtain⟨c0,c1,c2⟩:=g.o.1.1.cells;obtain⟨D,E,I,mA⟩:∃x y z,qF (PK k)=(x,y,z):=⟨_,_,_,rfl⟩
    have ay:aJ (PK k)=D/\nu (PK k)=E/\de (PK k)=I:=by
     have e:=mA;rw[qF] at e;injection e with i n;injection n with n e3;exact⟨i,n,e3⟩
    have N6:=hid ay;rw[mA] at BF ZB;clear mA ay;go_wp2_with fail
    refine(BF.o z3 g.o.1.2 v.o).af ?_;rintro e z4 ⟨rfl,ad⟩;have r:=ad.alloc ad.size (FC D E I);replace v:=hid (v.o.aa r);replace j:=hid (j.o.aa r);replace g:=hid (g.o.step r);replace H:=hid (H.o.aa r H.o.lt);replace l:=hid (l.o.trans (r.af l.o.size));have HP:=hid (aF.new z4 D E I);obtain⟨p0,p1,p2, -⟩:=HP.o.facts;obtain⟨x0,x1,x2, -⟩:=H.o.facts;clear ad r c0 c1 c2 BF;go_wp2_with fail
    generalize (z4.alloc (FC D E I))=z5 at *;generalize z4.heap.size=bk at *;refine(ZB.o z5).af ?_;rintro e z6 ⟨rfl,bE⟩;replace v:=hid (v.o.aa bE);replace j:=hid (j.o.aa bE);replace g:=hid (g.o.step bE);replace H:=hid (H.o.aa bE H.o.lt);replace l:=hid (l.o.trans (bE.af l.o.size));replace HP:=hid (HP.o.aa bE HP.o.lt);clear p0 p1 p2 x0 x1 x2 bE ZB;by_cases oP:(SC k).2<PK k
    ·have X:c5 (PK k) (SC k).2=1:=apl oP;rw[X];cases ab with
     |true=>
      have a8:=Sl.o rfl oP;have q:=hid a8;obtain⟨p0,p1,p2, -⟩:=HP.o.facts;obtain⟨x0,x1,x2,f0,f1,f2⟩:=H.o.facts;obtain⟨i,n,e3⟩:=N6.o;have YA:=hid (H.o.put D E I);have wD:=hid (g.o.put aG D E I);have ZG:=hid (bL l.o (ar _) (.bool D) (.string E) (.string I));have bf:=hid ((Zw.o z6 v.o).putF H.o (.bool D) (.string E) (.string I));have N8:Hid (aJ (PK k)=D/\nu (PK k)=E/\de (PK k)=I):=⟨i,n,e3⟩;clear a8 X oP Sl Oo i n e3 N6;go_wp2;go_roundw
      case rel=>exact⟨k+1,al,bd,by rw[q.o];exact bf,wD,by rw[q.o,N8.o.1,N8.o.2.1,N8.o.2.2];exact YA,ZG⟩
      case measure=>simp[intOf];omega
     |false=>
      have q:=hid (Oo.o (.inl rfl));clear X oP Sl Oo;go_wp2;go_roundw
      case rel=>exact⟨k+1,al,bd,by rw[q.o];exact j,g,by rw[q.o];exact H,l⟩
      case measure=>simp[intOf];omega
    ·have q:=hid (Oo.o (.inr oP));obtain⟨cq,X⟩:∃cq,c5 (PK k) (SC k).2=cq:=⟨_,rfl⟩
     have EH:¬0<cq:=by
      rw[<- X];exact apk oP
     have bm:decide (0<cq)=false:=cK EH;rw[X];clear X EH oP Sl Oo;cases ab with
     |true=>
      go_wp2;go_roundw
      case rel=>exact⟨k+1,al,bd,by rw[q.o];exact j,g,by rw[q.o];exact H,l⟩
      case measure=>simp[intOf];omega
     |false=>
      go_wp2;go_roundw
      case rel=>exact⟨k+1,al,bd,by rw[q.o];exact j,g,by rw[q.o];exact H,l⟩
      case measure=>simp[intOf];omega
   ·obtain rfl:C0=k:=al
    rcases Y.o with ⟨A,ai⟩ |⟨A,K,hK,ai,CX⟩
    ·rw[ai] at j H;obtain⟨Q,T,J⟩:=eP.o A;have gR:=hid Q;have P:=hid T;have wk:=hid J;have EJ:Value.slice vd vn vc=.slice none 0 0:=j.o;injection EJ with b1 b2 b3;subst b1 b2 b3;obtain⟨k0,k1,k2,f0,f1,f2⟩:=g.o.2.facts;have bI:=hid (g.o.2.put false ⟨#[]⟩ ⟨#[]⟩);have zU:=hid (bL g.o.1.2 (show w.heap.size<=w.heap.size+1 by omega) (.bool false) (.string ⟨#[]⟩) (.string ⟨#[]⟩));clear Q T J A ai eP gA Y j H;go_wp2;refine bD (Gh bI.o rfl _ rfl) rfl ?_;exact⟨⟨none,0,by rw[gR.o,P.o,wk.o];rfl,by rw[P.o];exact fun k O=>absurd O aE⟩,zU.o⟩
    ·rw[ai] at j H;obtain⟨Q,T,J⟩:=gA.o A;obtain⟨db,X7,EJ,an⟩:=j.o;rw[CX] at an;injection EJ.symm with b1 b2 b3;subst b1 b2 b3;obtain⟨sn,sx,sy,xp⟩:∃x y z,qF (gN V L R F)=(x,y,z):=⟨_,_,_,rfl⟩
     have QK:aJ (gN V L R F)=sn/\nu (gN V L R F)=sx/\de (gN V L R F)=sy:=by
      have e:=xp;rw[qF] at e;injection e with i n;injection n with n e3;exact⟨i,n,e3⟩
     rw[xp] at J;simp only[QK.1,QK.2.1,QK.2.2] at H;have gR:=hid Q;have P:=hid T;have wk:=hid J;have Dx:=hid an;(have V8:(iL (mJ V.length (xK V L R F))).length=V.length:=by rw[ba,Nt]);clear Q T J A ai eP gA Y j an CX xp QK;go_upto_region 20 with fail
     obtain⟨D9,xC⟩:∃D9,wr.drew=D9:=⟨_,rfl⟩;have jr:=(aw wr.heap.size wr).drew;replace g:=hid (g.o.step jr);replace H:=hid (H.o.aa jr H.o.lt);replace Dx:=hid (Dx.o.aa jr);rw[xC] at g H Dx;clear jr;refine iu (S:=fun U=>U.cell? ⟨M.heap.size,0,none⟩=some (.bool sn)/\U.cell? ⟨M.heap.size,1,none⟩=some (.string sx)/\U.cell? ⟨M.heap.size,2,none⟩=some (.string sy)) ao (by rw[xC];exact⟨H.o.c0,H.o.c1,H.o.c2⟩) (fun aq=>?_);rw[xC] at aq⊢;clear xC;refine au 0 (.slice db V.length X7) ?_;refine au 1 (.agg #[.bool sn,.string sx,.string sy]) ?_;refine au 2 (.slice db V.length X7) ?_;(try simp only[gE,aP]);obtain⟨k0,k1,k2,f0,f1,f2⟩:=g.o.2.facts;refine aI [3] (cA ?_ aH);intro K' aM;go_simp;have Hr:=hid (H.o.far3 (Nat.ne_of_gt aG) (.bool sn) (.string sx) (.string sy));have bI:=hid (g.o.2.put sn sx sy);have zU:=hid (bL g.o.1.2 (show w.heap.size<=w.heap.size+1 by omega) (.bool sn) (.string sx) (.string sy));have YR:=hid (CD Dx.o g.o.2 (.bool sn) (.string sx) (.string sy));clear aq;refine aM.o _ _ ⟨Hr.o.c0,Hr.o.c1,Hr.o.c2⟩ (fun aq=>?_);clear aM K' k0 k1 k2 f0 f1 f2;refine au 4 (.int .i64 0) ?_;(try simp only[gE,aP]);refine dC ao ?_ _;clear aq;go_wp2;refine bD (Gh bI.o rfl _ rfl) rfl ?_;exact⟨⟨db,X7,by rw[gR.o,P.o,wk.o,V8];rfl,by rw[P.o];exact YR.o⟩,zU.o⟩
 ·obtain⟨Q,T,J⟩:=fR.o gm;have gR:=hid Q;have P:=hid T;have wk:=hid J;have kd:(FE==0)=false:=by simpa using gm
  obtain⟨k0,k1,k2,f0,f1,f2⟩:=Z.o.2.facts;have bI:=hid (Z.o.2.put false ⟨#[]⟩ ⟨#[]⟩);have zU:=hid (bL Z.o.1.2 (show w.heap.size<=w.heap.size+1 by omega) (.bool false) (.string ⟨#[]⟩) (.string ⟨#[]⟩));clear Q T J gm fR eP gA Y xO tS je wj HJ DL KE MV;go_wp2;refine bD (Gh bI.o rfl _ rfl) rfl ?_;exact⟨⟨none,0,by rw[gR.o,P.o,wk.o];rfl,by rw[P.o];exact fun k O=>absurd O aE⟩,zU.o⟩
theorem ajD {Q:List Int} (f:Q.length<=64) (e:aY V L R=0 ->cnt (ah V) (List.range V.length)<=800):(jR V L R Q F).1.length<=100000/\(jR V L R Q F).2.length<=100000:=by
 rw[jR];by_cases h:kV V L R Q F=0
 ·rw[aA h]
  have b:jd V L R Q F=0:=by
   rw[kV] at h;by_cases a:jd V L R Q F=0
   ·exact a
   ·rw[aB a] at h;exact absurd h a
  rw[jd] at b;by_cases a:bY V L R F=0
  ·rw[aA a] at b;by_cases c:(gM (iL (ah V)) Q).2=0
   ·have d:=(rK a).1;have:=TB d (XU c) (nF F) (e d);simp only[iZ,dD];omega
   ·rw[aB c] at b;exact absurd b c
  ·rw[aB a] at b;exact absurd b a
 ·rw[aB h];simp
theorem apO:(qN V L R F).length<=100000:=by
 rw[qN];by_cases h:kB V L R F=0
 ·rw[aA h,ba,Nt];rw[kB] at h;by_cases a:bY V L R F=0
  ·have:=(gD (rK a).1).n8;omega
  ·rw[aB a] at h;exact absurd h a
 ·rw[aB h];simp
theorem al2 (a b c q f:Option Addr) (ca cb cc cq u:Nat) (V:List Vr) (L:List (List Int)) (R:List (List Fr)) (Q:List Int) (F:List (Int×Int)) (w:World) (h:gO w a b c V L R) (hN:vZ w b L) (hq:az w q Q) (tB:q=none ->cq=0) (hF:jf w f F) (hu:Yt V L R) (bg:Q.length<=140737488355328) (Xh:F.length<=140737488355328) (uq:F.length<=u):
  c6 6 #[.agg #[.slice a V.length ca,.slice b L.length cb,.slice c R.length cc],.slice q Q.length cq,.slice f F.length u] w (da w (.bool true)):=by
 have HI:=hid h;have HN:=hid hN;have HQ:=hid hq;have Kp:=hid tB;have H:=hid hF;have HU:=hid hu;clear h hN hq tB hF hu;have D:=hid (NK.new w (.slice a V.length ca) (.slice b L.length cb) (.slice c R.length cc));obtain⟨i,k,l⟩:=D.o.1.cells;have qu:IntKind.i64.wrap ((Q.length:Int)+(F.length:Int))=(Q.length:Int)+(F.length:Int):=by rw[dE];omega
 go_enter Tryz.func6,Tryz.ntmps6;go_wp2_with fail
 generalize (w.alloc (NC (.slice a V.length ca) (.slice b L.length cb) (.slice c R.length cc)))=z0 at *;refine(am9 a b c ca cb cc V L R _ (HI.o.aa D.o.2) HU.o).af ?_;rintro e z1 ⟨⟨r,rfl,hr⟩,hb⟩;replace D:=hid (D.o.step hb);clear i k l hb;cases r
 case true=>
  clear hr;go_wp2;go_ret;exact⟨rfl,D.o.2⟩
 case false=>
  have Mg:=hr rfl;clear hr;by_cases av:64<Q.length+F.length
  ·have aQ:(64:Int)<(Q.length:Int)+(F.length:Int):=al
   clear av;go_wp2;go_ret;exact⟨rfl,D.o.2⟩
  ·have aQ:(Q.length:Int)+(F.length:Int)<=64:=al
   obtain⟨aM,aE⟩:=akF Mg.li;have E:xM w a b c V L R:=⟨HI.o,HN.o,aM,aE,Mg.lite,Mg.few⟩;have mQ:=hid (fun (U:World) (d:c8 w U)=>ama a b c f ca cb cc u V L R F U (E.aa d) (H.o.aa d) al uq);have Fv:=hid (fun (U:World) (d:c8 w U)=>aiX a b c f ca cb cc u V L R F U (E.aa d) (H.o.aa d) al);have Kj:=hid (fun (U:World) (d:c8 w U)=>amb a b c q f ca cb cc cq u V L R Q F U (E.aa d) (HQ.o.aa d) al (H.o.aa d) al uq);have ju:=hid (fun (U:World) (d:c8 w U)=>aiZ a b c q f ca cb cc cq u V L R Q F U (E.aa d) (HQ.o.aa d) Kp.o al (H.o.aa d) al);have dN:=hid (fun (U:World) (d:c8 w U)=>ame a b c f ca cb cc u V L R F U (E.aa d) (H.o.aa d) al uq);have a7:=hid (fun (U:World) (d:c8 w U)=>ajj a b c f ca cb cc u V L R F U (E.aa d) (H.o.aa d) al)
   have rT:Hid (∀U:World,c6 19 #[dM (sj V L R F),.int .i64 (bY V L R F),dM (sj V L R F),.int .i64 (bY V L R F)] U fun e w'=>e=.returned (.bool true)/\c8 U w'):=fun U=>by
    by_cases I:bY V L R F=0
    ·rw[I];exact acH _ _ _ U
    ·have e:sj V L R F=(false,⟨#[]⟩,⟨#[]⟩):=aB I;rw[e];exact acI _ I U
   have xV:Hid (∀U:World,c6 19 #[dM (rM V L R F),.int .i64 (kB V L R F),dM (rM V L R F),.int .i64 (kB V L R F)] U fun e w'=>e=.returned (.bool true)/\c8 U w'):=fun U=>by
    by_cases I:kB V L R F=0
    ·rw[I];exact acH _ _ _ U
    ·have e:rM V L R F=(false,⟨#[]⟩,⟨#[]⟩):=aB I;rw[e];exact acI _ I U
   obtain⟨jm,aG⟩:=ajD (V:=V) (L:=L) (R:=R) (Q:=Q) (F:=F) al Mg.few;have tM:=hid (apO (V:=V) (L:=L) (R:=R) (F:=F));have aj:=hid (fun (v y q1 q2:Option Addr) (s p Y X:Nat) (U:World) h1 h2 h3 h5=>aiu v q1 y q2 s Y p X (jR V L R Q F).1 (jR V L R Q F).2 U h1 h2 h3 h5 jm aG);have ai:=hid (fun (v y:Option Addr) (s p:Nat) (U:World) h1 h2=>abl v y s p (qN V L R F) U h1 h2 tM.o);clear E aM aE Mg av jm aG HI HN HQ Kp H HU tM;simp only[ZL] at dN a7;generalize (jR V L R Q F).1=T at *;generalize (jR V L R Q F).2=C at *;generalize kV V L R Q F=pe at *;generalize qN V L R F=BL at *;generalize kB V L R F=be at *;generalize rM V L R F=bf at *;generalize bY V L R F=fe at *;generalize sj V L R F=pf at *;obtain⟨pn,px,py⟩:=pf;obtain⟨bn,x,g⟩:=bf;obtain⟨i,k,l⟩:=D.o.1.cells;go_wp2_with fail
   refine(mQ.o z1 D.o.2).af ?_;rintro e z2 ⟨rfl,ab⟩;have aO:=hid (D.o.step ab);have A:=ab.alloc ab.size (FC pn px py);replace D:=hid (D.o.step A);have J:=hid (aF.new z2 pn px py);have ax:w.heap.size<z2.heap.size:=aO.o.1.lt;clear i k l ab A mQ;obtain⟨i,k,l⟩:=D.o.1.cells;go_wp2_with fail
   generalize (z2.alloc (FC pn px py))=z3 at *;generalize z2.heap.size=m at *;refine(Fv.o z3 D.o.2).af ?_;rintro e z4 ⟨rfl,ad⟩;have A:=ad.alloc ad.size (FC pn px py);have an:m<z4.heap.size:=(J.o.aa ad J.o.lt).lt;replace D:=hid (D.o.step A);replace J:=hid (J.o.aa A J.o.lt);have j:=hid (aF.new z4 pn px py);clear i k l ad A Fv;obtain⟨K,M,O, -⟩:=J.o.facts;obtain⟨t0,t1,t2, -⟩:=j.o.facts;go_wp2_with fail
   generalize (z4.alloc (FC pn px py))=z5 at *;generalize z4.heap.size=P at *;refine(rT.o z5).af ?_;rintro e z6 ⟨rfl,bE⟩;replace D:=hid (D.o.step bE);replace J:=hid (J.o.aa bE J.o.lt);replace j:=hid (j.o.aa bE j.o.lt);clear K M O t0 t1 t2 bE rT;obtain⟨i,k,l⟩:=D.o.1.cells;go_wp2_with fail
   refine(Kj.o z6 D.o.2).af ?_;rintro e z7 ⟨⟨v,q1,s,Y,rfl,kr,CW⟩,bV⟩;have n:=(aw _ z7).alloc (ar _) (TC (.slice v T.length s) (.slice q1 C.length Y));have A:=bV.trans (n.af bV.size);replace D:=hid (D.o.step A);replace J:=hid (J.o.aa A J.o.lt);replace j:=hid (j.o.aa A j.o.lt);have Z:=hid (bs.at (w:=z7) rfl (.slice v T.length s) (.slice q1 C.length Y));have lT:=hid (kr.aa n);have zO:=hid (CW.aa n);clear i k l bV A n kr CW Kj;obtain⟨i,k,l⟩:=D.o.1.cells;go_wp2_with fail
   generalize (z7.alloc (TC (.slice v T.length s) (.slice q1 C.length Y)))=z8 at *;generalize z7.heap.size=pH at *;refine(ju.o z8 D.o.2).af ?_;rintro e z9 ⟨⟨y,q2,p,X,rfl,kq,ay⟩,xz⟩;have n:=(aw _ z9).alloc (ar _) (TC (.slice y T.length p) (.slice q2 C.length X));have A:=xz.trans (n.af xz.size);replace D:=hid (D.o.step A);replace J:=hid (J.o.aa A J.o.lt);replace j:=hid (j.o.aa A j.o.lt);replace Z:=hid (Z.o.aa A Z.o.lt);replace lT:=hid (lT.o.aa A);replace zO:=hid (zO.o.aa A);have Yz:=hid (bs.at (w:=z9) rfl (.slice y T.length p) (.slice q2 C.length X));have gS:=hid (kq.aa n);have FN:=hid (ay.aa n);clear i k l xz A n kq ay ju;have y0:=Z.o.c0;have y1:=Z.o.c1;have y2:=Yz.o.c0;have y3:=Yz.o.c1;go_wp2_with fail
   generalize (z9.alloc (TC (.slice y T.length p) (.slice q2 C.length X)))=a1 at *;generalize z9.heap.size=ZM at *;refine(aj.o v y q1 q2 s p Y X a1 lT.o zO.o gS.o FN.o).af ?_;rintro e a6 ⟨rfl,Q9⟩;replace D:=hid (D.o.step Q9);replace J:=hid (J.o.aa Q9 J.o.lt);replace j:=hid (j.o.aa Q9 j.o.lt);clear y0 y1 y2 y3 Q9 aj Z Yz lT zO gS FN;obtain⟨i,k,l⟩:=D.o.1.cells;go_wp2_with fail
   refine(dN.o a6 D.o.2).af ?_;rintro e ae ⟨⟨d1,A4,rfl,EF⟩,jX⟩;replace D:=hid (D.o.step jX);replace J:=hid (J.o.aa jX J.o.lt);replace j:=hid (j.o.aa jX j.o.lt);obtain⟨K,M,O,f0,f1,f2⟩:=J.o.facts;have NQ:=hid (J.o.put bn x g);have t:=hid (j.o.far3 (Nat.ne_of_gt an) (.bool bn) (.string x) (.string g));have SD:=hid (CD EF J.o (.bool bn) (.string x) (.string g));have S:Hid (NK w (((ae.setCell ⟨m,0,none⟩ (.bool bn)).setCell ⟨m,1,none⟩ (.string x)).setCell ⟨m,2,none⟩ (.string g)) (.slice a V.length ca) (.slice b L.length cb) (.slice c R.length cc)):=⟨D.o.1.aa (bL (aw m ae) (ar m) (.bool bn) (.string x) (.string g)) ax,bL D.o.2 (vk ax) (.bool bn) (.string x) (.string g)⟩;clear i k l jX EF dN D J j;obtain⟨i,k,l⟩:=S.o.1.cells;go_upto_region 12 with fail
   generalize amg:(((ae.setCell ⟨m,0,none⟩ (.bool bn)).setCell ⟨m,1,none⟩ (.string x)).setCell ⟨m,2,none⟩ (.string g))=a8 at *;clear amg K M O f0 f1 f2;go_wp2_with fail
   refine(a7.o a8 S.o.2).af ?_;rintro e ZX ⟨⟨d2,uD,rfl,JE⟩,Mz⟩;replace S:=hid (S.o.step Mz);replace NQ:=hid (NQ.o.aa Mz NQ.o.lt);replace t:=hid (t.o.aa Mz t.o.lt);replace SD:=hid (SD.o.aa Mz);obtain⟨K,M,O,f0,f1,f2⟩:=t.o.facts;have Sh:=hid (t.o.put bn x g);have Si:=hid (NQ.o.far3 (Nat.ne_of_lt an) (.bool bn) (.string x) (.string g));have aq:=hid (CD SD.o t.o (.bool bn) (.string x) (.string g));have ao:=hid (CD JE t.o (.bool bn) (.string x) (.string g));have z:Hid (c8 w (((ZX.setCell ⟨P,0,none⟩ (.bool bn)).setCell ⟨P,1,none⟩ (.string x)).setCell ⟨P,2,none⟩ (.string g))):=bL S.o.2 al (.bool bn) (.string x) (.string g);clear i k l Mz JE a7 S NQ t SD;go_upto_region 13 with fail
   generalize amf:(((ZX.setCell ⟨P,0,none⟩ (.bool bn)).setCell ⟨P,1,none⟩ (.string x)).setCell ⟨P,2,none⟩ (.string g))=bb at *;clear amf K M O f0 f1 f2;go_wp2_with fail
   refine(ai.o d1 d2 A4 uD bb aq.o ao.o).af ?_;rintro e bd ⟨rfl,Q8⟩;replace Si:=hid (Si.o.aa Q8 Si.o.lt);replace Sh:=hid (Sh.o.aa Q8 Sh.o.lt);replace z:=hid (z.o.trans (Q8.af z.o.size));obtain⟨K,M,O, -⟩:=Si.o.facts;obtain⟨t0,t1,t2, -⟩:=Sh.o.facts;clear Q8 ai aq ao;go_wp2_with fail
   refine(xV.o bd).af ?_;rintro e bk ⟨rfl,ak⟩;replace z:=hid (z.o.trans (ak.af z.o.size));clear K M O t0 t1 t2 ak xV;go_wp2;go_ret;exact⟨rfl,z.o⟩
theorem bA.intsN {B:Nat} {v:Value} (h:bA w B v l):∃d cd,v=.slice d l.length cd/\az w d l/\(d=none ->cd=0):=by
 rcases h.cases with ⟨rfl,rfl⟩ |⟨g,cap,rfl,_,a,_,_,b⟩
 ·exact⟨none,0,rfl,(fun k f=>absurd f aE),fun _=>rfl⟩
 ·exact⟨_,_,rfl,EB b a fun j c=>⟨by simpa using c,aE⟩,fun e=>by cases e⟩
theorem aa2:∀ {l:List Fr},fw l<=400 ->l.length<=400/\∀f∈l,f.2.1.size<=400/\f.2.2.size<=400
 |[],_=>⟨aE,fun f c=>by cases c⟩
 |f::l,h=>by
  rw[fw] at h;obtain⟨d,b⟩:=aa2 (l:=l) al;have e:=Pz l;refine⟨by rw[eA];omega,fun g a=>?_⟩;rcases dR.1 a with rfl |a
  ·exact⟨al,al⟩
  ·exact b g a
theorem NM.hu (h:NM V L R):Yt V L R:=by
 have v:=h.small.vars;have Q:=gD h.ok;have j:=h.six;refine⟨⟨al,fun x i=>?_⟩,⟨by rw[Q.len];omega,fun l a=>by have:=h.few l a;omega⟩,⟨by rw[Q.lenR];omega,fun l a=>?_⟩⟩
 ·obtain⟨c,b,d⟩:=v.2 x i;exact⟨al,al,fun s g=>by have:=d s g;omega⟩
 ·obtain⟨c,b⟩:=aa2 (h.light l a);exact⟨al,fun f e=>by have:=b f e;omega⟩
theorem al1 (n r s ax ay av:Option Addr) (t u z cx cy cv:Nat) (i j k x y K:List Int) (bk:Bool) (w:World) (h1:az w n i) (h2:az w r j) (h3:az w s k) (hx:az w ax x) (hy:az w ay y) (hv:az w av K) (r1:xL i) (r2:xL j) (r3:xL k) (rx:xL x) (ry:xL y) (rv:xL K):
  c6 3 #[.agg #[.slice n i.length t,.slice r j.length u,.slice s k.length z,.bool bk],.slice ax x.length cx,.slice ay y.length cy,.slice av K.length cv] w (da w (.bool true)):=by
 have ad:=hid (fun (U:World) (hB:c8 w U)=>alI n r s t u z i j k bk U (h1.aa hB) (h2.aa hB) (h3.aa hB) r1 r2 r3);have nG:(w.alloc (.cells #[.slice n i.length t,.slice r j.length u,.slice s k.length z,.bool bk] 24)).heap[w.heap.size]? =some (.cells #[.slice n i.length t,.slice r j.length u,.slice s k.length z,.bool bk] 24 (0,0)):=jg w _;have q0:(w.alloc (.cells #[.slice n i.length t,.slice r j.length u,.slice s k.length z,.bool bk] 24)).cell? ⟨w.heap.size,0,none⟩=some (.slice n i.length t):=by rw[bZ _ _ _ _ _ (0,0) nG];rfl
 have q1:(w.alloc (.cells #[.slice n i.length t,.slice r j.length u,.slice s k.length z,.bool bk] 24)).cell? ⟨w.heap.size,1,none⟩=some (.slice r j.length u):=by rw[bZ _ _ _ _ _ (0,0) nG];rfl
 have q2:(w.alloc (.cells #[.slice n i.length t,.slice r j.length u,.slice s k.length z,.bool bk] 24)).cell? ⟨w.heap.size,2,none⟩=some (.slice s k.length z):=by rw[bZ _ _ _ _ _ (0,0) nG];rfl
 have q3:(w.alloc (.cells #[.slice n i.length t,.slice r j.length u,.slice s k.length z,.bool bk] 24)).cell? ⟨w.heap.size,3,none⟩=some (.bool bk):=by rw[bZ _ _ _ _ _ (0,0) nG];rfl
 have ab:c8 w (w.alloc (.cells #[.slice n i.length t,.slice r j.length u,.slice s k.length z,.bool bk] 24)):=(aw _ w).alloc (ar _) _;have Sr:=hid rx;have ae:=hid ry;have rR:=hid rv;have HX:=hid hx;have HY:=hid hy;have HV:=hid hv;clear h1 h2 h3 hx hy hv r1 r2 r3 rx ry rv nG;go_enter Tryz.func3,Tryz.ntmps3;go_wp2_with fail
 generalize (w.alloc (.cells #[.slice n i.length t,.slice r j.length u,.slice s k.length z,.bool bk] 24))=W0 at *;refine(ad.o _ ab).af ?_;rintro e Y ⟨a,b,c,ca,cb,cc,V,L,R,rfl,hN,ai,T,aj⟩;clear q0 q1 q2 q3 ad;have eN:=T.one;have CR:=T.six;have aQ:=gD T.ok;have dU:=ab.trans (aj.af ab.size);have aN:c8 Y (Y.alloc (NC (.slice a V.length ca) (.slice b L.length cb) (.slice c R.length cc))):=(aw _ Y).alloc (ar _) _;have bP:=cT.at (w:=Y) rfl (.slice a V.length ca) (.slice b L.length cb) (.slice c R.length cc);have HS:=hid (show TS w _ _ a b c ca cb cc V L R from ⟨bP,(T.ni4 hN ai).aa aN,dU.trans (aN.af dU.size)⟩);obtain⟨b0,b1,b2⟩:=bP.cells;clear hN ai aj dU aN bP ab;go_wp2_with fail
 clear b0 b1 b2;generalize qI:Y.heap.size=B at *;clear qI;generalize (Y.alloc (NC (.slice a V.length ca) (.slice b L.length cb) (.slice c R.length cc)))=W5 at *
 have Oy:Hid (∀(d:Option Addr) (cd:Nat) (U:List Int) (Z:World),TS w Z B a b c ca cb cc V L R ->az Z d U ->Up U V.length ->c6 7 #[.agg #[.slice a V.length ca,.slice b L.length cb,.slice c R.length cc],.slice d U.length cd,.slice av K.length cv] Z fun e w'=>∃x l,e=.returned x/\lQ w' Z.heap.size x (zF l)/\l.map (·.1)=ag U/\(∀p∈l,p.2<sz (ah V) p.1)/\c8 Z w'):=fun d cd U Z hZ hd hU=>ajf a b c d av ca cb cc cd cv V L R U K Z hZ.net.net hd (HV.o.aa hZ.fr) hU (by have:=aao hU CR;omega) rR.o.2 rR.o.1 (fun v hv=>by
  have h1:=iM (mq T.ok) v;have h2:=T.szs v;rw[Lk hv] at h1 h2;omega)
 have Bl:Hid (∀(d:Option Addr) (cd:Nat) (l:List Int) (Z:World),az Z d l ->l.length<=140737488355328 ->(∀x∈l, -9223372036854775808<=x/\x<=9223372036854775807) ->c6 5 #[.slice d l.length cd,.int .i64 (V.length:Nat)] Z fun e w'=>∃E J U,e=.returned (.slice E U.length J)/\az w' E U/\(E=none ->J=0)/\Up U V.length/\U.length<=6/\c8 Z w'):=fun d cd l Z hd hl hr=>(aiU d cd V.length l Z hd hr hl eN al).af fun e w' ⟨x,U,h,hr,hu,A⟩=>by
  obtain⟨E,J,rfl,hi,b6⟩:=hr.intsN;exact⟨E,J,U,h,hi,b6,hu,aao hu CR,A⟩
 have tR:Hid (∀(d f:Option Addr) (cd I:Nat) (l m:List Int) (Z:World),az Z d l ->az Z f m ->l.length<=6 ->m.length<=6 ->c6 8 #[.slice d l.length cd,.slice f m.length I] Z fun e w'=>∃E J,e=.returned (.slice E (sq l m).length J)/\az w' E (sq l m)/\(sq l m).length<=6/\c8 Z w'):=fun d f cd I l m Z hd hf hl hm=>(ai8 d f cd I l m Z hd hf al al).af fun e w' ⟨x,h,hr,A⟩=>by
  obtain⟨E,J,rfl,hi⟩:=hr.ints;exact⟨E,J,h,hi,aR (pJ _ _) hl,A⟩
 have ak:Hid (∀(q f:Option Addr) (cq I:Nat) (Q:List Int) (F:List (Int×Int)) (Z:World),TS w Z B a b c ca cb cc V L R ->az Z q Q ->(q=none ->cq=0) ->Q.length<=6 ->jf Z f F ->F.length<=6 ->F.length<=I ->c6 6 #[.agg #[.slice a V.length ca,.slice b L.length cb,.slice c R.length cc],.slice q Q.length cq,.slice f F.length I] Z fun e w'=>e=.returned (.bool true)/\c8 Z w'):=fun q f cq I Q F Z hZ hq tB hQ hF Xh uq=>al2 a b c q f ca cb cc cq I V L R Q F Z hZ.net.net hZ.net.ls hq tB hF T.hu al al uq;clear T aQ eN;refine(Bl.o ax cx x _ (HX.o.aa HS.o.fr) Sr.o.1 Sr.o.2).af ?_;rintro e W6 ⟨d1,k1,X,rfl,i1,z1,u1,m1,bE⟩;have P:=hid (HS.o.step bE);have lT:=hid i1;have an:=hid z1;clear HS bE i1 u1 z1;go_upto_region 3 with fail
 have dI:Hid (∀U:World,c8 W6 U ->U.cell? ⟨B,0,none⟩=some (.slice a V.length ca)/\U.cell? ⟨B,1,none⟩=some (.slice b L.length cb)/\U.cell? ⟨B,2,none⟩=some (.slice c R.length cc)):=fun U hU=>(P.o.step hU).box.cells;have g:Hid (c8 W6 W6.drew):=(aw W6.heap.size W6).drew;obtain⟨X0,Ra⟩:∃x,W6.drew=x:=⟨_,rfl⟩;rw[Ra] at g;refine iu (S:=fun U=>U.cell? ⟨B,0,none⟩=some (.slice a V.length ca)/\U.cell? ⟨B,1,none⟩=some (.slice b L.length cb)/\U.cell? ⟨B,2,none⟩=some (.slice c R.length cc)) ao (by rw[Ra];exact dI.o _ g.o) (fun H=>?_);rw[Ra] at H⊢;clear Ra;try simp only[gE,aP]
 refine au 0 (.agg #[.slice a V.length ca,.slice b L.length cb,.slice c R.length cc]) ?_;try simp only[gE,aP]
 refine au 1 (.slice d1 X.length k1) ?_;try simp only[gE,aP]
 refine au 2 (.agg #[.slice a V.length ca,.slice b L.length cb,.slice c R.length cc]) ?_;try simp only[gE,aP]
 refine au 3 (.slice ay y.length cy) ?_;try simp only[gE,aP]
 refine au 4 (.pointer (some ⟨B,0,none⟩)) ?_;try simp only[gE,aP]
 refine au 5 (.slice a V.length ca) ?_;try simp only[gE,aP]
 refine au 6 (.int .i64 (V.length:Nat)) ?_;try simp only[gE,aP]
 refine au 8 (.slice d1 X.length k1) ?_;try simp only[gE,aP]
 refine au 10 (.slice av K.length cv) ?_;try simp only[gE,aP]
 refine aI [7] (cA ?_ aH);intro O D;go_simp;refine(Bl.o ay cy y _ (HY.o.aa (P.o.fr.trans (g.o.af P.o.fr.size))) ae.o.1 ae.o.2).af ?_;rintro e X1 ⟨d2,k2,Y2,rfl,i2, -,u2,m2,A⟩;have gS:=hid i2;have Hw:=hid u2;clear i2 u2;replace g:=hid (g.o.trans (A.af g.o.size));clear H;refine D.o _ _ (dI.o _ g.o) (fun H=>?_);clear D O;try simp only[gE,aP]
 refine aI [9] (cA ?_ aH);intro O D;go_simp;refine(tR.o d2 d1 k2 k1 Y2 X _ gS.o (lT.o.aa g.o) m2 m1).af ?_;rintro e X2 ⟨d3,k3,rfl,i3,m3,A⟩;have FK:=hid i3;have YH:=hid (ag8 (M:=X) Hw.o);clear i3 gS;replace g:=hid (g.o.trans (A.af g.o.size));clear H;refine D.o _ _ (dI.o _ g.o) (fun H=>?_);clear D O;try simp only[gE,aP]
 refine aI [11] (cA ?_ aH);intro O D;go_simp;refine(Oy.o d3 k3 (sq Y2 X) _ (P.o.step g.o) FK.o YH.o).af ?_;rintro e X3 ⟨x4,l4,rfl,o4,e4, -,A⟩;obtain⟨p4,q4,rfl,h4,h5, -⟩:=o4.facts;have Ox:=hid h4;have Za:=hid h5;have uQ:Hid ((zF l4).length<=6):=by show _<=_;rw[tY, <- dD (f:=(·.1)),e4,cV];exact m3
 clear o4 h4 h5 e4;replace g:=hid (g.o.trans (A.af g.o.size));clear H;refine D.o _ _ (dI.o _ g.o) (fun H=>?_);clear D O;try simp only[gE,aP]
 refine aI [12] (cA ?_ aH);intro O D;go_simp;refine(ak.o d1 p4 k1 q4 X (zF l4) _ (P.o.step g.o) (lT.o.aa g.o) an.o m1 Ox.o uQ.o Za.o).af ?_;rintro e X4 ⟨rfl,A⟩;replace g:=hid (g.o.trans (A.af g.o.size));clear H;refine D.o _ _ (dI.o _ g.o) (fun H=>?_);clear D O;try simp only[gE,aP]
 refine au 13 (.bool true) ?_;try simp only[gE,aP]
 refine dC ao ?_ _;go_wp2;go_ret;exact⟨rfl,P.o.fr.trans (g.o.af P.o.fr.size)⟩
open Go.ChangeShapes Go.WideShapes Go.ChangeAt
variable {fn:Func}
theorem alR {H:Type} {enc:TypeId×Value ->H} {a:Assume} {C:Checked} {os:Os} {f:FuncId} {s:ChangeSpec} {c:List PathCond} {r d O n:Bool} {X:World ->Array Value ->Prop}
  (k:∀(w w':World) (g:Array Value),w.heap=w'.heap ->X w g ->X w' g)
  (own:ownKnob C.prog.godebug=none) (J:os.Started) (I:C.prog.inits.idxOf? f=none) (A:C.prog.funcs[f]? =some fn)
  (K:∃(w:World) (p:Tape) (i:Input),w.os=os/\(w.forCall p i).Shaped C.prog/\i.vars=[]/\Input.okWide C.prog (w.forCall p i) .any w.heap.size f i/\
   ((s.pre enc C.prog fn c r (w.forCall p i).memory i.args/\X (w.forCall p i).memory i.args)/\sizedMet enc C.prog fn (OpenSpec.ofChange s) r (w.forCall p i).memory i.args)/\a.holds C.prog (lone (Frame.enter C.prog f i.args .normal) [] (w.forCall p i)))
  (F:∀(W:World) (base:Nat) (g:Array Value) (ds b:List (DataW H)) (o:List MemPlace),
   (∀(j:Nat) t v,fn.params[j]? =some t ->g[j]? =some v ->Value.okWide C.prog W .any base t v) ->
   DataW.Whole enc C.prog fn.params.toList s.vars r W g.toList ds b o ->
   (DataW.weightsEach C.prog (fn.params.toList++s.plain.varTypes C.prog) (ds++b)).all (·<=reachBytes)=true ->X W g ->W.ShapedOpen C.prog ->
   Calls C.prog f g W fun e W'=>∃v,e=.returned v/\s.post enc C.prog fn r d O n W g v W'):
  ReturnsInHanded a C os f .any (fun w g=>(s.pre enc C.prog fn c r w g/\X w g)/\sizedMet enc C.prog fn (OpenSpec.ofChange s) r w g) (s.post enc C.prog fn r d O n):=by
 refine returnsInHanded_of_calls own J I K ?_;intro w p i _ y _ Q D _;obtain⟨_,_,_,u,q,_,_,_,_,E⟩:=Q;obtain rfl:u=fn:=mW (q.symm.trans A);obtain⟨⟨⟨ds,b,o,h,_⟩,x⟩,z⟩:=D;refine(F (w.forCall p i) w.heap.size i.args ds b o E (DataW.Whole.of_heap (w':=w.forCall p i) (by rfl) h) (z.weights h) (k _ _ _ (by rfl) x) y).af fun e W' ⟨v,l,m⟩=>?_;subst l;exact ChangeSpec.post_blind m
theorem apJ {a:Addr} {v:Value} (h:w.cell? a=some v):a.block<w.heap.size:=by
 rcases cF a.block w.heap.size with b |b
 ·exact b
 ·simp[World.cell?,Array.getElem?_eq_none b] at h
def wV {H:Type} (x:Int):DataW H:=.lit (.int .i64 x)
theorem apH:Tryz.prog.cellsOf 3=1:=ao
theorem Pt {H:Type} {enc:TypeId×Value ->H} {W:World} {fuel:Nat} {t:List Value} {x:DataW H×List MemPlace} (I:DataW.trod enc Tryz.prog W 0 (fun _=>true) true fuel 22 t=some x):
  ∃(a:Option Addr) (cap:Nat) (l:List Int),t=[.slice a l.length cap]/\az W a l/\(a=none ->cap=0)/\((x.1=.nil/\l=[])∨∃rest,x.1=.slice (l.map wV) rest)/\∀y∈l, -9223372036854775808<=y/\y<=9223372036854775807:=by
 rcases Deep.open_slice Tryz.underlying22 I with ⟨s,q⟩ |⟨o,b,cap,m,n,D,S,s,T,U,V,O,q,u⟩
 ·exact⟨none,0,[],s,fun k p=>absurd p aE,fun _=>rfl,.inl ⟨by rw[q],rfl⟩,fun _ h=>by cases h⟩
 ·have X:b<=m:=by rw[O];split<;>omega
  rw[apH] at u
  have Q:∀i,i<b ->∃z:Int,(W.cell? (o.add (i*1))=some (.int .i64 z)/\ -9223372036854775808<=z/\z<=9223372036854775807)/\D i=wV z:=by
   intro i c;obtain⟨Z,E,F⟩:=u i al;obtain⟨_,aa,R⟩:=World.cells?_some E;obtain⟨z,A,v,P⟩:=DataW.trod_int Tryz.underlying3 F;subst A;simp only[Prod.mk.injEq] at v;have g:=R 0 al;rw[Deep.add_add] at g;exact⟨z,⟨by simpa using g,bounds_i64 P⟩,v.1⟩
  obtain⟨f,d⟩:=Deep.choose_lt (α:=Int) Q;refine⟨some o,cap,(List.range b).map f,by rw[s];simp,?_,fun e=>by(cases e),.inr ⟨(List.range (m - b)).map fun j=>D (b+j),?_⟩,?_⟩
  ·intro k p;(have K:k<b:=by simpa using p);obtain⟨⟨g,_⟩,_⟩:=d k K;obtain⟨⟨M,_⟩,_⟩:=d 0 al;have r:=World.cell?_spot M;obtain⟨w,L,Y⟩:=o;rw[mX] at r;simp[Addr.add] at r;subst r;rw[WideShapes.add_plain] at g;refine⟨w,L,rfl,apJ g,?_⟩;simpa using g
  ·rw[q];show DataW.slice _ _=DataW.slice _ _;congr 1
   rw[D7];exact wG fun i c=>(d i (bJ.1 c)).2
  ·intro y J;obtain⟨i,c,rfl⟩:=bc.1 J;exact(d i (bJ.1 c)).1.2
theorem open_ints {H:Type} {enc:TypeId×Value ->H} {W:World} {r:Reach} {b:Nat} {v:Value} {d:DataW H} {p:List MemPlace} (k:Value.okWide Tryz.prog W r b 22 v) (h:DataW.Trod enc Tryz.prog W 0 (fun _=>true) true 22 v d p):
  ∃(a:Option Addr) (cap:Nat) (l:List Int),v=.slice a l.length cap/\az W a l/\(a=none ->cap=0)/\((d=.nil/\l=[])∨∃rest,d=.slice (l.map wV) rest)/\∀x∈l, -9223372036854775808<=x/\x<=9223372036854775807:=by
 obtain⟨a,n,cap,rfl⟩:=okWide_slice Tryz.underlying22 k;obtain⟨u,g⟩:=h;obtain⟨m,o,l,c,i,e,f,j⟩:=Pt g;simp[Value.cells] at c;obtain⟨rfl,rfl,rfl⟩:=c;exact⟨a,cap,l,rfl,i,e,f,j⟩
theorem apM:Tryz.prog.bytesOf 3=8:=ao
theorem I9 {H:Type} {s:List TypeId} {ds:List (DataW H)} (h:(DataW.weightsEach Tryz.prog s ds).all (·<=reachBytes)=true) {d:DataW H} (t:s[j]? =some 22) (c:ds[j]? =some d) (e:(d=.nil/\l=[])∨∃rest,d=.slice (l.map wV) rest):
  l.length<=140737488355328:=by
 rcases e with ⟨_,rfl⟩ |⟨rest,rfl⟩
 ·simp
 have b:=gW.1 h _ (DataW.weights_mem_each t c (((l.map (wV (H:=H))).length+rest.length)*Tryz.prog.bytesOf 3) (by simp[DataW.weights,Tryz.underlying22]));have a:((l.map (wV (H:=H))).length+rest.length)*Tryz.prog.bytesOf 3<=reachBytes:=by simpa using b
 rw[apM,dD] at a;simp only[reachBytes] at a;omega
theorem apF:Tryz.prog.cellsOf 24=4:=ao
theorem apG:Tryz.prog.cellsOf 22=1:=ao
theorem apI:Tryz.prog.cellsOf 4=1:=ao
theorem akr {H:Type} {enc:TypeId×Value ->H} {W:World} {r:Reach} {z:Nat} {v:Value} {d:DataW H} {p:List MemPlace} (aa:Value.okWide Tryz.prog W r z 24 v) (h:DataW.Trod enc Tryz.prog W 0 (fun _=>true) true 24 v d p):
  ∃(c e f:Option Addr) (g i j:Nat) (L a b:List Int) (bk:Bool) (k n o D:DataW H),v=.agg #[.slice c L.length g,.slice e a.length i,.slice f b.length j,.bool bk]/\d=.agg [k,n,o,D]/\az W c L/\az W e a/\az W f b/\
   ((k=.nil/\L=[])∨∃rest,k=.slice (L.map wV) rest)/\((n=.nil/\a=[])∨∃rest,n=.slice (a.map wV) rest)/\((o=.nil/\b=[])∨∃rest,o=.slice (b.map wV) rest)/\
   (∀x∈L, -9223372036854775808<=x/\x<=9223372036854775807)/\(∀x∈a, -9223372036854775808<=x/\x<=9223372036854775807)/\(∀x∈b, -9223372036854775808<=x/\x<=9223372036854775807):=by
 obtain⟨A,rfl,s⟩:=okWide_struct Tryz.underlying24 aa;rw[apF] at s;obtain⟨l⟩:=A;match l,s with
 |[c0,g,i,j],_=>
  obtain⟨ab,S⟩:=h;obtain⟨y0,y1,y2,y3,m,q,_,w,y,t,u⟩:=Go.Joins.trod_struct4 Tryz.underlying24 S;simp[Value.cells,apG,apI] at w y t u;obtain⟨c,T,L,E,P,_,K,X⟩:=Pt w;obtain⟨e,U,a,F,Q,_,M,Y⟩:=Pt y;obtain⟨f,V,b,I,R,_,O,Z⟩:=Pt t;obtain⟨nn,J,rfl⟩:=DataW.trod_bool Tryz.underlying4 u;obtain rfl:c0=_:=by simpa using E
  obtain rfl:g=_:=by simpa using F
  obtain rfl:i=_:=by simpa using I
  obtain rfl:j=_:=by simpa using J
  simp only[Prod.mk.injEq] at q;exact⟨c,e,f,T,U,V,L,a,b,_,_,_,_,_,rfl,q.1,P,Q,R,K,M,O,X,Y,Z⟩
theorem ah8 {H:Type} {s:List TypeId} {ds:List (DataW H)} (h:(DataW.weightsEach Tryz.prog s ds).all (·<=reachBytes)=true) {L c e:List Int} {d a b g:DataW H} (t:s[j]? =some 24) (l:ds[j]? =some (.agg [d,a,b,g])) (h1:(d=.nil/\L=[])∨∃rest,d=.slice (L.map wV) rest) (i:(a=.nil/\c=[])∨∃rest,a=.slice (c.map wV) rest) (k:(b=.nil/\e=[])∨∃rest,b=.slice (e.map wV) rest):
  L.length<=140737488355328/\c.length<=140737488355328/\e.length<=140737488355328:=by
 have f:(DataW.weightsEach Tryz.prog [22,22,22,4] [d,a,b,g]).all (·<=reachBytes)=true:=by
  rw[gW];intro n m;refine gW.1 h _ (DataW.weights_mem_each t l n ?_);simp only[DataW.weights,Tryz.underlying24];exact m
 exact⟨I9 f (j:=0) rfl rfl h1,I9 f (j:=1) rfl rfl i,I9 f (j:=2) rfl rfl k⟩
variable {W':World}
theorem afN {H:Type} {enc:TypeId×Value ->H} {P:Program} (l:laidOutB P=true) {W:World} (a:c8 W W'):∀ {s:List TypeId} {vs:List Value} {ds:List (DataW H)} {c:List MemPlace},
  (s.all fun t=>P.readableRec t&&decide (t<P.types.size))=true ->DataW.TrodAll enc P W 0 (fun _=>true) true s vs ds c ->DataW.TrodAll enc P W' 0 (fun b=>decide (b<W.heap.size)) true s vs ds c
 |[],[],[],_,_,h=>h
 |t::s,v::vs,d::ds,_,ht,⟨p,q,h,hr,e⟩=>by
  rw[List.all_cons,gX,gX] at ht;refine⟨p,q,Below.trod l ht.1.1 (tW ht.1.2) h a ?_,afN l a ht.2 hr,e⟩;obtain⟨m,f⟩:=h;exact DataW.trod_lt m _ _ _ f
 |[],_::_,_,_,_,h=>by simp[DataW.TrodAll] at h
 |[],[],_::_,_,_,h=>by simp[DataW.TrodAll] at h
 |_::_,[],_,_,_,h=>by simp[DataW.TrodAll] at h
 |_::_,_::_,[],_,_,h=>by simp[DataW.TrodAll] at h
end Go.Proofs.YtfhdoommfenijaaGreatDoor
