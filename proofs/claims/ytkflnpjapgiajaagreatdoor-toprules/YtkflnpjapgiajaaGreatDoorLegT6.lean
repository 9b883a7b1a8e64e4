/- Part6: part 6. -/
import Derived.Test.YtkflnpjapgiajaaGreatDoorLegT5
set_option maxRecDepth 100000
set_option maxHeartbeats 400000000
set_option linter.unusedSimpArgs false
set_option linter.unusedVariables false
namespace Go.Proofs.YtkflnpjapgiajaaGreatDoor
open Go.RowKit Go.Shelf Go.Lib
variable {R:List (List Fr)} {L:List Kh} {Xp Xr Xv:List Value} {V:List Vr} {cv g gm gp gr gv i k n nl nr:Nat} {x y z:Value} {U w:World}
theorem acx {α:Type} (f:Nat×Nat ->α) (d:List (Nat×Nat)) (L:List α) (h:i<d.length):xP f (d.take (i+1)) L=(xP f (d.take i) L).set d[i].1 (f d[i]):=by
 rw[im h,xP,List.foldl_append];rfl
theorem VU (f:bW U g x y z) (i:cO x) (j:cO y) (k:cO z) {b:Kd} (h:n≠0 ->∃g' o v,b=some ⟨g',o,none⟩/\U.cell? ⟨g',o,none⟩=some v/\¬cO v):qY [g] b n:=fun g' o e q m=>by
 obtain⟨l,p,v,d,c,a⟩:=h q;rw[e] at d;cases d;rw[dS.1 m] at c;rw[bh U g o _ _ (0,0) f] at c;match o,c with
 |0,c=>cases c;exact a i
 |1,c=>cases c;exact a j
 |2,c=>cases c;exact a k
 |o+3,c=>simp at c
theorem VW {gs:Ki} {b:Kd} (h1:qY gs b n) (a:qY [g] b n):qY (gs++[g]) b n:=fun g' o e h m=>(aZ.1 m).elim (h1 g' o e h) (a g' o e h)
theorem al9 {s:ByteArray}:¬cO (.string s):=fun ⟨_,_,_,e⟩=>by cases e
theorem adE {i:Int}:¬cO (.int .i64 i):=fun ⟨_,_,_,e⟩=>by cases e
theorem V4 {s:Bool}:¬cO (.bool s):=fun ⟨_,_,_,e⟩=>by cases e
section
variable {gs : Ki} {g gb : Nat} {V : List Vr} {L : List Kh} {R : List (List Fr)} {X : List Value} {W : World} {x y z : Value}
theorem pF.with_net (h:pF gs g V X W) (n:bW W gb x y z) (p:cO x) (q:cO y) (r:cO z):pF (gs++[gb]) g V X W:=⟨h.row,h.len,fun k m=>by
 obtain⟨b,c,d,f,a,i,j⟩:=h.at' k m;refine⟨b,c,d,f,a,i,VW j (VU n p q r fun s=>?_)⟩;obtain⟨g',o,e,_,l⟩:=a 0 al;exact⟨g',o,_,e,l,al9⟩⟩
theorem mX.with_net (h:mX gs g L X W) (n:bW W gb x y z) (m:cO x) (p:cO y) (q:cO z):mX (gs++[gb]) g L X W:=⟨h.row,h.len,fun k l=>by
 obtain⟨b,c,d,a,f,i⟩:=h.at' k l;refine⟨b,c,d,a,f,VW i (VU n m p q fun r=>?_)⟩;obtain⟨g',o,e,_,j⟩:=a 0 al;exact⟨g',o,_,e,j,adE⟩⟩
theorem pG.with_net (h:pG gs g R X W) (n:bW W gb x y z) (m:cO x) (p:cO y) (q:cO z):pG (gs++[gb]) g R X W:=⟨h.row,h.len,fun k l=>by
 obtain⟨b,c,f,a,i,j⟩:=h.at' k l;refine⟨b,c,f,a,i,VW j (VU n m p q fun r=>?_)⟩;obtain⟨g',o,e,_,d,_⟩:=a 0 al;rw[nW,iX] at d;exact⟨g',o,_,e,d,V4⟩⟩
end
theorem eQ.cellR (h:eQ w gm gv gp gr cv x y z V L R nl nr Xv Xp Xr U) (a:k<nr):(∃q,U.cell? ⟨gr,k,none⟩=some q)/\U.frozen? ⟨gr,k,none⟩=false:=⟨⟨_,h.r.row.cell _ (by have:=h.rlen;omega)⟩,h.r.row.fz _⟩
theorem agz (h0:aW V L R=0) (hs:sk V L R):0<V.length/\(∀x∈V,0<x.2.length/\x.2.length<=5000)/\(∀l∈L,l.length<=5000)/\∀l∈R,0<l.length/\l.length<=5000/\∀f∈l,f.2.1.size+f.2.2.size<=50000:=by
 have k:=gC h0;have p:=y9 h0
 have d:∀v (h:v<V.length),1<=V[v].2.length:=fun v h=>by
  have:=jE p v;rwa [GW h] at this
 refine⟨by have:=(lQ (vr (J8 h0)).1).1;rw[<- k.len];exact this,fun x c=>?_,hs.pars.2,fun l b=>?_⟩
 ·obtain⟨v,h,rfl⟩:=iI c;exact⟨d v h,(hs.vars.2 _ c).2.1⟩
 ·have a:=hs.rows.2 l b;obtain⟨v,h,rfl⟩:=iI b;refine⟨?_,a.1,fun f e=>?_⟩
  ·rw[k.rows v (by rw[k.len, <- k.lenR];exact h) h];exact LO (K0 p _) (jE p v)
  ·have:=SC e;have:=a.2;omega
theorem aru (a b c f:Kd) (ca cb cc d:Nat) (V:List Vr) (L:List Kh) (R:List (List Fr)) (D:List (Int×Int)) (w:World) (h:iT w a b c V L R) (hs:sk V L R) (F:ju w f D) (n:D.length<=1000) (u:D.length<=d) (m:ir V L R D≠0):
  da 9 #[.agg #[.slice a V.length ca,.slice b L.length cb,.slice c R.length cc],.slice f D.length d] w (du w (.tuple #[.agg #[.slice none 0 0,.slice none 0 0,.slice none 0 0],.int .i64 (ir V L R D)])):=by
 have z:=hid (fun (U:World) (i:db w U)=>Wv a b c f ca cb cc d V L R D U (h.aa i) hs (F.aa i) n u);obtain⟨l,k⟩:∃l,ir V L R D=l:=⟨_,rfl⟩;rw[k] at z m⊢;have g:pH w ((w.alloc (.cells #[.slice a V.length ca,.slice b L.length cb,.slice c R.length cc] 26)).alloc (.cells #[.slice none 0 0,.slice none 0 0,.slice none 0 0] 26)) (.slice a V.length ca) (.slice b L.length cb) (.slice c R.length cc):=pH.begin w _ _ _;clear h hs F k;go_enter Tryz.func9,Tryz.ntmps9;go_upto_region 1 with fail
 generalize ((w.alloc (.cells #[.slice a V.length ca,.slice b L.length cb,.slice c R.length cc] 26)).alloc (.cells #[.slice none 0 0,.slice none 0 0,.slice none 0 0] 26))=v at *;have A:=hid g;obtain⟨q,s,t⟩:=g.cells;clear g;go_wp2_with fail
 refine(z.o _ A.o.bel).af ?_;rintro e K ⟨rfl,j⟩;replace A:=hid (A.o.step j);have r:=A.o.res;have x:=fj _ (w.heap.size+1) 0 _ _ r;have y:=fj _ (w.heap.size+1) 1 _ _ r;have E:=fj _ (w.heap.size+1) 2 _ _ r;obtain⟨H,I,J⟩:=A.o.res.cells;clear j q s t z;go_wp2_with fail
 refine cP (bW.result2' (((r.set0 _).set1 _).set2 _) rfl _ rfl) rfl ?_;exact⟨rfl,((A.o.bel.setCell (p:=⟨w.heap.size+1,0,none⟩) (by show _<=w.heap.size+1;omega) _).setCell (p:=⟨w.heap.size+1,1,none⟩) (by show _<=w.heap.size+1;omega) _).setCell (p:=⟨w.heap.size+1,2,none⟩) (by show _<=w.heap.size+1;omega) _⟩
theorem arv (j n:Nat) (b c f:Kd) (ca cb cc cf:Nat) (V:List Vr) (L:List Kh) (R:List (List Fr)) (D:List (Int×Int)) (d:List (Nat×Nat)) (w:World) (h:iT w (some ⟨j,n,none⟩) b c V L R) (hs:sk V L R) (hF:ju w f D) (hn:D.length<=1000) (ub:D.length<=cf) (he:ir V L R D=0) (hD:D=zF d) (hd:eV (ar V) V.length d):
  da 9 #[.agg #[.slice (some ⟨j,n,none⟩) V.length ca,.slice b L.length cb,.slice c R.length cc],.slice f D.length cf] w fun e w'=>∃(a' b' c':Kd) (yv eP jX:Nat),e=.returned (.tuple #[.agg #[.slice a' V.length yv,.slice b' (dw d L).length eP,.slice c' (eJ V d (cK R)).length jX],.int .i64 0])/\iT w' a' b' c' V (dw d L) (eJ V d (cK R))/\oZ w' b' (dw d L)/\db w w':=by
 have Az:=hid (fun (U:World) (M:db w U)=>Wv (some ⟨j,n,none⟩) b c f ca cb cc cf V L R D U (h.aa M) hs (hF.aa M) hn ub);rw[he] at Az;have h0:aW V L R=0:=(SQ he).1;have I:=gC h0;obtain⟨hp,O,hl,hr⟩:=agz h0 hs;have tz:=hid (fun (U:World) (M:db w U)=>aqL (some ⟨j,n,none⟩) b c ca cb cc V L R U (h.aa M) I.len I.lenR hp I.n8 O hl hr);have nM:D.length=d.length:=by rw[hD,yZ]
 have aT:Hid (∀i (hi:i<d.length) (U:World),db w U ->∃g o,f=some ⟨g,o,none⟩/\U.cell? ⟨g,o+i*2,none⟩=some (.int .i64 (d[i].1:Nat))/\U.cell? ⟨g,o+i*2+1,none⟩=some (.int .i64 (d[i].2:Nat))):=fun i hi U M=>by
  obtain⟨g,o,e,_,h1,h2⟩:=(hF.aa M) i al;have e1:D[i]'al=((d[i].1:Int),(d[i].2:Int)):=by simp[hD,zF]
  rw[e1] at h1 h2;exact⟨g,o,e,h1,h2⟩
 have BV:Hid (∀v,v<V.length ->∀U:World,db w U ->∃Z cs,U.cell? ⟨j,n+v*2+1,none⟩=some (.slice Z (sz (ar V) v) cs)):=fun v O U M=>by
  obtain⟨g,o,b,c,e,_,h1,h2,_⟩:=(h.vars.aa M) v O;cases e;rw[GW O];exact⟨b,c,h2⟩
 have Pg:Hid (j<w.heap.size):=by
  obtain⟨g,o,_,_,e,E,_⟩:=h.vars 0 hp;cases e;exact E
 have ij:Hid (∀v,1<=sz (ar V) v/\(v<V.length ->sz (ar V) v<=1000)):=fun v=>⟨jE (y9 h0) v,fun O=>by
  have h8:=((adL h0).1.len v O).2;rw[GW O];exact aL h8 bd⟩
 have HD:=hid hd;have lu:=hid I.len;have yG:=hid I.lenR;have KG:=I.n8;have hA:pH w ((w.alloc (.cells #[.slice (some ⟨j,n,none⟩) V.length ca,.slice b L.length cb,.slice c R.length cc] 26)).alloc (.cells #[.slice none 0 0,.slice none 0 0,.slice none 0 0] 26)) (.slice (some ⟨j,n,none⟩) V.length ca) (.slice b L.length cb) (.slice c R.length cc):=pH.begin w _ _ _;rw[nM] at Az⊢;clear h hs hF ub he hD I O hl hr h0 hd;go_enter Tryz.func9,Tryz.ntmps9;go_upto_region 1 with fail
 generalize ((w.alloc (.cells #[.slice (some ⟨j,n,none⟩) V.length ca,.slice b L.length cb,.slice c R.length cc] 26)).alloc (.cells #[.slice none 0 0,.slice none 0 0,.slice none 0 0] 26))=W0 at *;have A:=hid hA;obtain⟨i0,i1,i2⟩:=hA.cells;clear hA;go_wp2_with fail
 refine(Az.o _ A.o.bel).af ?_;rintro e w1 ⟨rfl,s⟩;replace A:=hid (A.o.step s);obtain⟨k0,k1,k2⟩:=A.o.cells;clear s i0 i1 i2 Az;go_wp2_with fail
 refine(tz.o _ A.o.bel).af ?_;rintro e Q ⟨gv,gp,gr,cv,Xv,Xp,Xr,rfl,hV,hP,hR,ax,a8,s⟩;have Fe:w.heap.size+2<=w1.heap.size:=A.o.res.lt;replace A:=hid (A.o.step s);have K:db Q (Q.alloc (.cells #[.slice (some ⟨gv,0,none⟩) V.length cv,.slice (some ⟨gp,0,none⟩) L.length L.length,.slice (some ⟨gr,0,none⟩) R.length R.length] 26)):=(au _ Q).alloc (ah _) _;have bb:w.heap.size+2<=Q.heap.size:=aL Fe s.size;have bD:=bW.at (w:=Q) rfl (.slice (some ⟨gv,0,none⟩) V.length cv) (.slice (some ⟨gp,0,none⟩) L.length L.length) (.slice (some ⟨gr,0,none⟩) R.length R.length);obtain⟨gm,pW⟩:∃g,Q.heap.size=g:=⟨_,rfl⟩;obtain⟨w3,T⟩:∃U,Q.alloc (.cells #[.slice (some ⟨gv,0,none⟩) V.length cv,.slice (some ⟨gp,0,none⟩) L.length L.length,.slice (some ⟨gr,0,none⟩) R.length R.length] 26)=U:=⟨_,rfl⟩
 have nS:Hid (eQ w gm gv gp gr cv (.slice (some ⟨j,n,none⟩) V.length ca) (.slice b L.length cb) (.slice c R.length cc) V (dw (d.take 0) L) (eJ V (d.take 0) (cK R)) L.length R.length Xv Xp Xr w3):=by
  have J:=slv none 0 0;refine⟨by rw[<- T];exact A.o.step K,by rw[<- T, <- pW];exact bD,?_,?_,?_,rfl,cH _,ax,⟨al,al,al,al⟩⟩
  ·rw[<- T];exact(hV.with_net A.o.res J J J).aa K
  ·rw[<- T];exact(hP.with_net A.o.res J J J).aa K
  ·rw[<- T];exact(hR.with_net A.o.res J J J).aa K
 have OE:=hid T;have TR:=hid pW;clear hV hP hR ax a8 s Fe K bb bD pW T A k0 k1 k2 tz;go_wp2_with fail
 simp only[OE.o,TR.o];go_loopw [21] (fun kv wr=>∃(i:Nat) (Xp Xr:List Value),i<=d.length/\kv=.int .i64 i/\Hid (eQ w gm gv gp gr cv (.slice (some ⟨j,n,none⟩) V.length ca) (.slice b L.length cb) (.slice c R.length cc) V (dw (d.take i) L) (eJ V (d.take i) (cK R)) L.length R.length Xv Xp Xr wr)) (fun kv _=>d.length - (intOf kv).toNat)
 case atStart=>exact⟨0,_,_,aU _,rfl,nS⟩
 case round=>
  obtain⟨i,a1,a6,hi,rfl,H⟩:=hrel;clear nS OE TR;by_cases ae:i<d.length
  ·obtain⟨gf,of,rfl,c0,c1⟩:=aT.o i ae wr H.o.a.bel;have WL:=HD.o.lt d[i] (bP ae);have WG:=HD.o.val d[i] (bP ae);have X:Hid (dw (d.take (i+1)) L=(dw (d.take i) L).set d[i].1 []/\eJ V (d.take (i+1)) (cK R)=(eJ V (d.take i) (cK R)).set d[i].1 (rB (sz (ar V) d[i].1) d[i].2)):=⟨acx _ d L ae,acx _ d (cK R) ae⟩;obtain⟨x,P⟩:∃x,d[i].1=x:=⟨_,rfl⟩;obtain⟨y,hy⟩:∃y,d[i].2=y:=⟨_,rfl⟩;rw[P] at c0 WL WG X;rw[hy] at c1 WG X;(have tR:x<L.length:=by have:=lu.o;omega);(have WM:x<R.length:=by have:=yG.o;omega);have mS:=hid (fun (U:World)=>arp (sz (ar V) x) y U (ij.o x).1 ((ij.o x).2 WL) WG);have K:db wr (wr.alloc (.cells #[.int .i64 (x:Nat),.int .i64 (y:Nat)] 30)):=(au _ wr).alloc (ah _) _;have eU:(wr.alloc (.cells #[.int .i64 (x:Nat),.int .i64 (y:Nat)] 30)).heap[wr.heap.size]? =some (.cells #[.int .i64 (x:Nat),.int .i64 (y:Nat)] 30 (0,0)):=eM wr _;have a7:=H.o.lts;obtain⟨m,E⟩:∃g,wr.heap.size=g:=⟨_,rfl⟩;obtain⟨F,Yp⟩:∃U,wr.alloc (.cells #[.int .i64 (x:Nat),.int .i64 (y:Nat)] 30)=U:=⟨_,rfl⟩;(have RM:m≠gr:=al);(have XC:m≠gp:=al)
   have gi:Hid (eQ w gm gv gp gr cv (.slice (some ⟨j,n,none⟩) V.length ca) (.slice b L.length cb) (.slice c R.length cc) V (dw (d.take i) L) (eJ V (d.take i) (cK R)) L.length R.length Xv a1 a6 F):=by
    show eQ _ _ _ _ _ _ _ _ _ _ _ _ _ _ _ _ _ _;rw[<- Yp];exact H.o.step K
   rw[E,Yp] at eU;have t:=hid eU;have uz:=hid RM;obtain⟨n0,n1,n2⟩:=gi.o.box.cells;obtain⟨⟨qy,q0⟩,q1⟩:=gi.o.cellP tR;(have v0:F.cell? ⟨m,0,none⟩=some (.int .i64 (x:Nat)):=by rw[bh F m 0 _ _ (0,0) eU];rfl);have Y:=hid (gi.o.setP (k:=x) (l:=[]) (b:=none) (c:=0) (fun k I=>absurd I aE) (fun _=>rfl) (fun g o e=>by cases e));have av:Hid ((F.setCell ⟨gp,x,none⟩ (.slice none 0 0)).heap[m]? =some (.cells #[.int .i64 (x:Nat),.int .i64 (y:Nat)] 30 (0,0))):=(eN F ⟨gp,x,none⟩ _ m XC).trans eU;(have WN:(x:Int)<(L.length:Int):=al);(have bg:(x:Int)<(R.length:Int):=al);(have bf:(x:Int)<(V.length:Int):=al);(have Da:i<1000:=al);clear K eU a7 RM XC H P hy;go_upto_region 9 with fail
   clear E Yp;have NG:=((au (F.setCell ⟨gp,x,none⟩ (.slice none 0 0)).heap.size (F.setCell ⟨gp,x,none⟩ (.slice none 0 0))).drew);obtain⟨Z,cs,ad⟩:=BV.o x WL _ (Y.o.step NG).a.bel;have H:=hid (Y.o.step NG);have TV:Hid ((F.setCell ⟨gp,x,none⟩ (.slice none 0 0)).drew.heap[m]? =some (.cells #[.int .i64 (x:Nat),.int .i64 (y:Nat)] 30 (0,0))):=av.o;have pj:=hid ad;refine jZ (S:=fun u=>(u.cell? ⟨gm,2,none⟩=some (.slice (some ⟨gr,0,none⟩) R.length R.length)/\u.cell? ⟨w.heap.size,0,none⟩=some (.slice (some ⟨j,n,none⟩) V.length ca))/\u.cell? ⟨m,0,none⟩=some (.int .i64 (x:Nat))/\u.cell? ⟨m,1,none⟩=some (.int .i64 (y:Nat))/\u.cell? ⟨j,n+x*2+1,none⟩=some (.slice Z (sz (ar V) x) cs)) ao ⟨⟨H.o.box.cells.2.2,H.o.a.cells.1⟩,by rw[bh _ m 0 _ _ (0,0) TV.o];rfl,by rw[bh _ m 1 _ _ (0,0) TV.o];rfl,pj.o⟩ (fun aq=>?_);clear NG ad Y t av gi q0 q1 v0 n0 n1 n2 c0 c1;generalize (F.setCell ⟨gp,x,none⟩ (.slice none 0 0)).drew=z1 at *;have t:=TV;clear TV;have an:Hid (w.heap.size<=z1.heap.size):=H.o.a.bel.size;(have O6:Hid (j≠gr):=by have:=H.o.low;have:=Pg.o;show j≠gr;omega);refine az 0 (.pointer (some ⟨gm,2,none⟩)) ?_;(try simp only[gE,aP]);refine dW 1 (.slice (some ⟨gr,0,none⟩) R.length R.length) ?_ ?_
   ·intro u' q;try simp only[gE];obtain⟨⟨s1,s2⟩,s3,s4,s5⟩:=q;go_simp
   refine az 2 (.pointer (some ⟨m,0,none⟩)) ?_;(try simp only[gE,aP]);refine dW 3 (.int .i64 (x:Nat)) ?_ ?_
   ·intro u' q;try simp only[gE];obtain⟨⟨s1,s2⟩,s3,s4,s5⟩:=q;go_simp
   refine az 4 (.pointer (some ⟨w.heap.size,0,none⟩)) ?_;(try simp only[gE,aP]);refine dW 5 (.slice (some ⟨j,n,none⟩) V.length ca) ?_ ?_
   ·intro u' q;try simp only[gE];obtain⟨⟨s1,s2⟩,s3,s4,s5⟩:=q;go_simp
   refine az 6 (.pointer (some ⟨m,0,none⟩)) ?_;(try simp only[gE,aP]);refine dW 7 (.int .i64 (x:Nat)) ?_ ?_
   ·intro u' q;try simp only[gE];obtain⟨⟨s1,s2⟩,s3,s4,s5⟩:=q;go_simp
   refine az 8 (.pointer (some ⟨j,n+x*2,none⟩)) ?_;refine az 9 (.pointer (some ⟨j,n+x*2+1,none⟩)) ?_;(try simp only[gE,aP]);refine dW 10 (.slice Z (sz (ar V) x) cs) ?_ ?_
   ·intro u' q;try simp only[gE];obtain⟨⟨s1,s2⟩,s3,s4,s5⟩:=q;go_simp
   refine az 11 (.int .i64 (sz (ar V) x:Nat)) ?_;refine az 12 (.pointer (some ⟨m,1,none⟩)) ?_;(try simp only[gE,aP]);refine dW 13 (.int .i64 (y:Nat)) ?_ ?_
   ·intro u' q;try simp only[gE];obtain⟨⟨s1,s2⟩,s3,s4,s5⟩:=q;go_simp
   refine aG [14] (cA ?_ aI);intro K' ab;go_simp;refine(mS.o _).af ?_;rintro e z ⟨G,rfl,hG,aS,s⟩;have hB:=H.o.lts;have b9:=H.o.a.res.lt;replace H:=hid (H.o.step s);replace t:=hid ((s.block _ (dD.1 t.o).1).trans t.o);have ad:=(s.cell (p:=⟨j,n+x*2+1,none⟩) (aO Pg.o an.o)).trans pj.o;have aj:=hid ad;have Y:=hid (H.o.setR (k:=x) aS.fr (Nat.le_of_eq (GX _ _)) (Q5 (B:=z1.heap.size) (fun g o e=>by cases e;exact hG) fun g E=>by simp only[bT,fR,iV] at E;omega));rw[GX] at Y;have xq:Hid ((z.cell? ⟨gm,2,none⟩=some (.slice (some ⟨gr,0,none⟩) R.length R.length)/\z.cell? ⟨w.heap.size,0,none⟩=some (.slice (some ⟨j,n,none⟩) V.length ca))/\z.cell? ⟨m,0,none⟩=some (.int .i64 (x:Nat))/\z.cell? ⟨m,1,none⟩=some (.int .i64 (y:Nat))/\z.cell? ⟨j,n+x*2+1,none⟩=some (.slice Z (sz (ar V) x) cs)):=⟨⟨H.o.box.cells.2.2,H.o.a.cells.1⟩,by rw[bh z m 0 _ _ (0,0) t.o];rfl,by rw[bh z m 1 _ _ (0,0) t.o];rfl,aj.o⟩;refine ab.o _ _ xq.o (fun ak=>?_);clear ab K' aq aS s hB b9 hG ad;obtain⟨⟨qy,q0⟩,q1⟩:=H.o.cellR WM;refine az 15 (.pointer (some ⟨gr,x,none⟩)) ?_;refine aG [16] (cA ?_ aI);intro K' ab;go_simp;refine ab.o _ _ ⟨⟨Y.o.box.cells.2.2,Y.o.a.cells.1⟩,by rw[bh _ m 0 _ _ (0,0) ((eN z ⟨gr,x,none⟩ _ m uz.o).trans t.o)];rfl,by rw[bh _ m 1 _ _ (0,0) ((eN z ⟨gr,x,none⟩ _ m uz.o).trans t.o)];rfl,(iz (eN z ⟨gr,x,none⟩ _ j O6.o)).trans aj.o⟩ (fun NP=>?_);clear ab K' ak NP q0 q1 xq t aj H mS
   generalize (z.setCell ⟨gr,x,none⟩ (.slice (some ⟨G,0,none⟩) (sz (ar V) x) (sz (ar V) x)))=z3 at *;(try simp only[gE,aP]);refine gj ao ?_ _
   obtain⟨XP,XR,HD⟩:∃XP XR,Hid (eQ w gm gv gp gr cv (.slice (some ⟨j,n,none⟩) V.length ca) (.slice b L.length cb) (.slice c R.length cc) V (dw (d.take (i+1)) L) (eJ V (d.take (i+1)) (cK R)) L.length R.length Xv XP XR z3):=by
    have h9:=Y.o;rw[<- X.o.1, <- X.o.2] at h9;exact⟨_,_,h9⟩
   clear Y X pj an;go_wp2_with fail
   go_roundw
   case rel=>exact⟨i+1,XP,XR,al,b5,HD⟩
   case measure=>simp[intOf];omega
  ·have ay:i=d.length:=al
   rw[ay,iY] at H;have ai:=H.o.a.res;have f0:=fj _ (w.heap.size+1) 0 _ _ ai;have f1:=fj _ (w.heap.size+1) 1 _ _ ai;have f2:=fj _ (w.heap.size+1) 2 _ _ ai;obtain⟨n0,n1,n2⟩:=H.o.box.cells;obtain⟨r0,r1,r2⟩:=H.o.a.res.cells;have bj:=H.o.low;clear ay;go_wp2_with fail
   refine cP (bW.result2' (((ai.set0 _).set1 _).set2 _) rfl _ rfl) rfl ?_;have P:=(((fE.refl [w.heap.size+1] wr).put (b:=w.heap.size+1) (.inl aE) 0 (.slice (some ⟨gv,0,none⟩) V.length cv)).put (b:=w.heap.size+1) (.inl aE) 1 (.slice (some ⟨gp,0,none⟩) L.length L.length)).put (b:=w.heap.size+1) (.inl aE) 2 (.slice (some ⟨gr,0,none⟩) R.length R.length);(have CZ:=P.more (hs:=[gv,gp,gr,w.heap.size+1]) fun g E=>by rw[dS.1 E];simp);have WU:=H.o.v.keep CZ (P.block gv H.o.lts.1 (by simp;omega));have aQ:=H.o.p.keep CZ (P.block gp H.o.lts.2.1 (by simp;omega));have pT:=H.o.r.keep CZ (P.block gr H.o.lts.2.2 (by simp;omega));refine⟨some ⟨gv,0,none⟩,some ⟨gp,0,none⟩,some ⟨gr,0,none⟩,cv,L.length,R.length,?_,⟨WU.vars,aQ.pars,pT.rows⟩,aQ.lsn,P.low H.o.a.bel fun g E=>by rw[dS.1 E];omega⟩;rw[H.o.nl,H.o.nr];rfl
theorem art (a b c f:Kd) (ca cb cc g:Nat) (V:List Vr) (L:List Kh) (R:List (List Fr)) (D:List (Int×Int)) (w:World) (h:iT w a b c V L R) (hs:sk V L R) (F:ju w f D) (o:D.length<=1000) (u:D.length<=g) (k:ir V L R D=0):
  da 9 #[.agg #[.slice a V.length ca,.slice b L.length cb,.slice c R.length cc],.slice f D.length g] w fun e w'=>∃(i d j:Kd) (v P X:Nat),e=.returned (.tuple #[.agg #[.slice i V.length v,.slice d (dw (nF D) L).length P,.slice j (eJ V (nF D) (cK R)).length X],.int .i64 0])/\iT w' i d j V (dw (nF D) L) (eJ V (nF D) (cK R))/\oZ w' d (dw (nF D) L)/\db w w':=by
 obtain⟨m,z,n⟩:=SQ k;obtain⟨l,p,_,_,rfl,_⟩:=h.vars 0 (agz m hs).1;exact arv l p b c f ca cb cc g V L R D (nF D) w h hs F o u k z n
theorem aqN {q:Ki} (p:Pos (ar V)) (a:q.Nodup) (t:∀v∈q,v<V.length):cnt (ar V) q<=cnt (ar V) (List.range V.length):=by
 rw[<- Qu, <- Qu]
 have h:jN (ar V) q=jN (ar V) ((List.range V.length).filter fun v=>q.contains v):=by
  have e:=MG a t;generalize ((List.range V.length).filter fun v=>q.contains v)=b at e;clear a t;induction e with
  |nil=>rfl
  |cons x _ ih=>rw[jN,jN,ih]
  |swap x y l=>simp only[jN];rw[<- jh, <- jh,eB (sz _ _) (sz _ _)]
  |trans _ _ h h2=>rw[h,h2]
 rw[h];exact aiT p Ju
def xe (V:List Vr) (L:List Kh) (R:List (List Fr)) (Q:Kh) (F:List (Int×Int)):Int:=
 if ir V L R F=0 then(if (jV (iL (ar V)) Q).2=0 then(if (F.any fun p=>zj p.1 Q)=true then 7 else 0) else(jV (iL (ar V)) Q).2) else ir V L R F
def kX (V:List Vr) (L:List Kh) (R:List (List Fr)) (Q:Kh) (F:List (Int×Int)):Int:=
 if xe V L R Q F=0 then(if di (gV V L R Q (nF F)).2=0 then 3 else 0) else xe V L R Q F
def oB (V:List Vr) (L:List Kh) (R:List (List Fr)) (Q:Kh) (F:List (Int×Int)):Tb:=
 if kX V L R Q F=0 then(Q,xW (gV V L R Q (nF F)).2) else([],[])
theorem arT (Q:Kh) (F:List (Int×Int)):(F.any fun p=>zj p.1 Q)=Q.any fun v=>F.any fun p=>p.1==v:=by
 rw[xL,sJ,sJ];constructor
 ·rintro⟨p,a,h⟩;obtain⟨x,c,e⟩:=sJ.1 h;exact⟨x,c,sJ.2 ⟨p,a,by rw[xG] at e⊢;exact e.symm⟩⟩
 ·rintro⟨v,b,h⟩;obtain⟨p,a,e⟩:=sJ.1 h;exact⟨p,a,sJ.2 ⟨v,b,by rw[xG] at e⊢;exact e.symm⟩⟩
theorem aqJ {Q:Kh} (h:(jV (iL (ar V)) Q).2=0):Up Q V.length:=by
 cases hb:countB (iL (ar V)) Q with
 |false=>rw[KZ hb] at h;exact absurd h bd
 |true=>
  rw[countB,iB] at hb;have:=j8 hb.2;rwa [bL,nE] at this
theorem arO {Q:Kh} {l:List (Nat×Nat)} (q:Up Q n) (h:((zF l).any fun p=>zj p.1 Q)=false):∀v∈ag Q,¬v∈l.map (·.1):=fun v c m=>by
 obtain⟨p,b,rfl⟩:=aH.1 m;refine Jw.1 h ((p.1:Int),(p.2:Int)) (aH.2 ⟨p,b,rfl⟩) ?_;obtain⟨x,a,e⟩:=aH.1 c;have:=(GR q x a).1;refine sJ.2 ⟨x,a,xG.2 ?_⟩;have d:x.toNat=p.1:=e;show x=(p.1:Int);omega
theorem Y4 (g:Nat ->Rat):∀n,di ((List.range n).map fun K=>qF (g K))=bG g n
 |0=>rfl
 |n+1=>by
  rw[uI,eh,List.map_singleton,SE,Y4 g n];show bG g n+ba (qF (g n))=_;rw[nP];rfl
theorem asY (h:n<=4294967296):(B n).size<=5:=by
 have a:=kW h;have b:(B 4294967296).size<=5:=by rw[mY];exact rX 5 4294967296 bd
 omega
theorem aa8 (h0:aW V L R=0) (D:tE V R) (Q:Kh) (l:List (Nat×Nat)):∀k (h:k<(gV V L R Q l).2.length),(gV V L R Q l).2[k].2.1.size+(gV V L R Q l).2[k].2.2.size<=40000:=fun k h=>by
 have e:(gV V L R Q l).2[k]=qF (qI V L R (qV (ar V) (ag Q) k++l)):=by simp[gV]
 rw[e,acr,Wj];have:=ann h0 (y9 h0) D (qV (ar V) (ag Q) k++l) (ah _);omega
theorem aio (h0:aW V L R=0) (D:tE V R) {Q:Kh} (q:Up Q V.length) (l:List (Nat×Nat)):∀k,k<=(gV V L R Q l).2.length ->qw (di ((gV V L R Q l).2.take k))<=8005:=fun k o=>by
 have r:(gV V L R Q l).2.length=cnt (ar V) (ag Q):=by simp[gV]
 have e:(gV V L R Q l).2.take k=(List.range k).map fun K=>qF (qI V L R (qV (ar V) (ag Q) K++l)):=by
  rw[gV, <- List.map_take,List.take_range,wm al]
 rw[e,Y4];have p:=y9 h0;have z:gP R (List.range V.length)≠0:=(PD.net (V:=V) (L:=L) h0 (fun v c=>bM.1 c)).nz.1
 have a:fQ (gP R (List.range V.length)) (bG (fun K=>qI V L R (qV (ar V) (ag Q) K++l)) k):=fQ.sum fun K _=>by
  rw[Wj];exact fQ.sum fun x h=>(ZT h0 p _ h).1
 have b:l8 (k*(cnt (ar V) (List.range V.length)*1)) (bG (fun K=>qI V L R (qV (ar V) (ag Q) K++l)) k):=l8.sum fun K _=>by
  rw[Wj];exact l8.sum fun x h=>(ZT h0 p _ h).2
 have d:=a.size z b;have f:=ag6 h0;have g:=S1 (gC h0).fine q.nodup (by rw[nE];exact q.aa);have i:k*(cnt (ar V) (List.range V.length)*1)<=65536*65536:=kp al al;have j:=asY (n:=k*(cnt (ar V) (List.range V.length)*1)) al;have m:(B (gP R (List.range V.length))).size<=4000:=D;omega
theorem aa7 (h0:aW V L R=0) (h:tE V R) {Q:Kh} (q:Up Q V.length) (l:List (Nat×Nat)):∀k,k<=(gV V L R Q l).2.length ->qw (di ((gV V L R Q l).2.take k))<=40000:=fun k a=>aL (aio h0 h q l k a) bd
theorem ais (h0:aW V L R=0) {Q:Kh} (h:Up Q V.length) (l:List (Nat×Nat)):kI (iL (ar V)) Q (gV V L R Q l).2.length=0:=
 Zu (KX (gC h0).fine (by rw[bL,nE];exact h)) (by rw[iJ];simp[gV])
theorem air (h0:aW V L R=0) {Q:Kh} (h:Up Q V.length) (l:List (Nat×Nat)) (c:cnt (ar V) (List.range V.length)<=800):(gV V L R Q l).2.length<=800/\1<=(gV V L R Q l).2.length:=by
 have e:(gV V L R Q l).2.length=cnt (ar V) (ag Q):=by simp[gV]
 have a:=aqN (y9 h0) h.nodup h.aa;have b:=K0 (y9 h0) (ag Q);omega
theorem anP (a:Kd) (ca f:Nat) (lb:Array Value) (F:Kh) (p:Int ->Bool) (w:World) (h:aC w a F) (K:F.length<=1000) (I:∀u w,(callFunc f u).run Tryz.prog w=.ok (.enter f u) w)
  (s:∀q∈F,∀U:World,db w U ->da f (#[.int .i64 q]++lb) U fun e w'=>e=.returned (.bool (p q))/\db U w'):
  da 149 #[.slice a F.length ca,.func (.func f) #[] lb] w fun e w'=>∃j:Int,e=.returned (.int .i64 j)/\decide (0<=j)=F.any p/\db w w':=by
 have v:=hid h;have P:=hid s
 have A:Hid ((∀i (c:i<F.length),p F[i]=false) ->F.any p=false):=fun d=>Jw.2 fun q z=>by
  obtain⟨i,c,rfl⟩:=iI z;rw[d i c];decide
 have x:Hid (∀i (c:i<F.length),p F[i]=true ->F.any p=true):=fun i c d=>sJ.2 ⟨_,bP c,d⟩;clear h s;generalize F.any p=R at *;go_enter Tryz.func149,Tryz.ntmps149;go_wp2_with fail
 go_loopw [8] (fun iv wr=>∃i:Nat,i<=F.length/\iv=.int .i64 i/\Hid (∀j (b:j<F.length),j< i ->p F[j]=false)/\Hid (db w wr)) (fun iv _=>F.length - (intOf iv).toNat)
 case atStart=>exact⟨0,aU _,rfl,(fun j _ b=>absurd b al),au _ _⟩
 case round=>
  obtain⟨i,c,rfl,m,H⟩:=hrel;by_cases l:i<F.length
  ·obtain⟨g,o,rfl,y,n⟩:=v.o i l;have L:=(H.o.cell (p:=⟨g,_,none⟩) y).trans n;have k:=hid (P.o F[i] (bP l) wr H.o);have Z:=hid (x.o i l)
   have D:Hid (p F[i]=false ->∀j (b:j<F.length),j<i+1 ->p F[j]=false):=fun e j b O=>by
    rcases dG j i with r |r
    ·exact m.o j b r
    ·obtain rfl:j=i:=al
     exact e
   clear n;generalize p F[i]=q at *;generalize F[i]=J at *;go_wp2_with fail
   refine k.o.af ?_;rintro e M ⟨rfl,t⟩;have S:=hid (H.o.trans (t.af H.o.size));clear t k;cases q with
   |true=>
    have E:=hid (Z.o rfl);go_wp2;go_ret;exact⟨(i:Nat),rfl,by rw[E.o];simp,S.o⟩
   |false=>
    have E:=hid (D.o rfl);go_wp2;go_roundw
    case rel=>exact⟨i+1,al,b5,E,S⟩
    case measure=>simp[intOf];omega
  ·obtain rfl:i=F.length:=al
   have E:=hid (A.o fun j b=>m.o j b b);go_wp2;go_ret;exact⟨-1,rfl,by rw[E.o];rfl,H.o⟩
theorem aqM (a:Kd) (ca f:Nat) (lb:Array Value) (F:Kh) (p:Int ->Bool) (w:World) (h:aC w a F) (n:F.length<=1000) (i:∀g w,(callFunc f g).run Tryz.prog w=.ok (.enter f g) w)
  (c:∀q∈F,∀U:World,db w U ->da f (#[.int .i64 q]++lb) U fun e w'=>e=.returned (.bool (p q))/\db U w'):
  da 93 #[.slice a F.length ca,.func (.func f) #[] lb] w (du w (.bool (F.any p))):=by
 have I:=hid (anP a ca f lb F p w h n i c);clear h c;generalize F.any p=R at *;go_enter Tryz.func93,Tryz.ntmps93;go_wp2_with fail
 refine I.o.af ?_;rintro e k ⟨j,rfl,b,d⟩;have H:=hid d;have J:=hid b;clear d b;go_wp2;go_ret;exact⟨by rw[<- J.o];rfl,H.o⟩
theorem akP (a:Kd) (ca:Nat) (F:List (Int×Int)) (v:Int) (B:Nat) (w:World) (h:ju w a F) (n:F.length<=1000) (c:w.cell? ⟨B,0,none⟩=some (.slice a F.length ca)):
  da 94 #[.int .i64 v,.pointer (some ⟨B,0,none⟩)] w (du w (.bool (F.any fun p=>p.1==v))):=by
 have I:=hid (Ww a ca F v w h n);clear h;generalize (F.any fun p=>p.1==v)=R at *;go_enter Tryz.func94,Tryz.ntmps94;go_wp2_with fail
 refine I.o.af ?_;rintro e d ⟨rfl,b⟩;have H:=hid b;clear b;go_wp2;go_ret;exact⟨rfl,H.o⟩
theorem anS (a b c q f:Kd) (ca cb cc u d:Nat) (V:List Vr) (L:List Kh) (R:List (List Fr)) (Q:Kh) (F:List (Int×Int)) (w:World) (h:FV w a b c V L R) (hq:aC w q Q) (hQ:Q.length<=1000) (hF:ju w f F) (hn:F.length<=1000) (ub:F.length<=d):
  da 44 #[.agg #[.slice a V.length ca,.slice b L.length cb,.slice c R.length cc],.slice q Q.length u,.slice f F.length d] w fun e w'=>um (oB V L R Q F).1 (oB V L R Q F).2 (kX V L R Q F) e w'/\db w w':=by
 have Az:=hid (fun (U:World) (j:db w U)=>Wv a b c f ca cb cc d V L R F U (h.net.aa j) h.sm (hF.aa j) hn ub);have ij:=hid (fun (U:World) (j:db w U)=>Q8 a b c ca cb cc L.length R.length V U (h.net.aa j).vars h.sm.vars.1)
 have Ps:Hid (∀(G:Nat) (U:World),db w U ->dK U G (ar V) ->da 92 #[.slice (some ⟨G,0,none⟩) V.length V.length,.slice q Q.length u] U fun e w'=>e=.returned (.tuple #[.int .i64 (jV (iL (ar V)) Q).1,.int .i64 (jV (iL (ar V)) Q).2])/\db U w'):=fun G U j hi=>by
  have D:(iL (ar V)).length=V.length:=by rw[bL,nE]
  have bg:=h.sm.vars.1;have:=Qt (some ⟨G,0,none⟩) q V.length u (iL (ar V)) Q U hi.ints (hq.aa j) (by rw[D];omega) al;rwa [D] at this
 have aN:Hid (∀(B:Nat) (U:World),db w U ->B<U.heap.size ->U.cell? ⟨B,0,none⟩=some (.slice f F.length d) ->da 93 #[.slice q Q.length u,.func (.func 94) #[] #[.pointer (some ⟨B,0,none⟩)]] U fun e w'=>e=.returned (.bool (F.any fun p=>zj p.1 Q))/\db U w'):=fun B U j hB hc=>by
  rw[arT];exact aqM q u 94 #[.pointer (some ⟨B,0,none⟩)] Q (fun v=>F.any fun p=>p.1==v) U (hq.aa j) hQ (enters_of Tryz.func94 ao rfl) (fun v _ U' Sc=>akP f d F v B U' ((hF.aa j).aa Sc) hn ((Sc.cell (p:=⟨B,0,none⟩) hB).trans hc))
 have YM:ir V L R F=0 ->(jV (iL (ar V)) Q).2=0 ->aW V L R=0/\F=zF (nF F)/\eV (ar V) V.length (nF F)/\Up Q V.length:=fun e i=>by
  obtain⟨l,n,e4⟩:=SQ e;exact⟨l,n,e4,aqJ i⟩
 have IP:Hid (ir V L R F=0 ->(jV (iL (ar V)) Q).2=0 ->(F.any fun p=>zj p.1 Q)=false ->∀U:World,db w U ->da 95 #[.agg #[.slice a V.length ca,.slice b L.length cb,.slice c R.length cc],.slice q Q.length u,.slice f F.length d] U fun e w'=>∃x y,e=.returned (.agg #[x,y])/\eL w' x y (gV V L R Q (nF F))/\db U w'):=fun e i n U j=>by
  obtain⟨m,hz,hl,z⟩:=YM e i;have h1:=hF.aa j;rw[hz] at h1 n;have aR:=h.aa j;have:=anR a b c q f ca cb cc u d V L R Q (nF F) U aR.net aR.ls h.sm h.wt m h.lt (hq.aa j) z h1 hl (arO z n) (fun U' Sc=>agK a b c ca cb cc V L R U' Sc h.sm);rw[<- yZ, <- hz] at this;exact this
 have iy:Hid (ir V L R F=0 ->(jV (iL (ar V)) Q).2=0 ->(F.any fun p=>zj p.1 Q)=false ->∀(G:Nat) (x y:Value) (U:World),dK U G (ar V) ->eL U x y (gV V L R Q (nF F)) ->da 63 #[.slice (some ⟨G,0,none⟩) V.length V.length,.agg #[x,y]] U fun e w'=>um (oB V L R Q F).1 (oB V L R Q F).2 (kX V L R Q F) e w'/\db U w'):=fun e i n G x y U hi hv=>by
  obtain⟨m,hz,hl,z⟩:=YM e i;have D:(iL (ar V)).length=V.length:=by rw[bL,nE]
  have h8:=(gC m).n8;have h5:=air m z (nF F) (h.few m);have a1:=ais m z (nF F);obtain⟨b',c',eP,jX,rfl,rfl,h1,h2,_⟩:=hv;have aT:xe V L R Q F=0:=by rw[xe,aw e,aw i,aA (by rw[n];decide)]
  by_cases aj:di (gV V L R Q (nF F)).2=0
  ·have l:kX V L R Q F=3:=by rw[kX,aw aT,aw aj]
   (have e5:oB V L R Q F=([],[]):=by rw[oB,l,aA bd]);rw[l,e5];have:=aiM (some ⟨G,0,none⟩) b' c' V.length eP jX (iL (ar V)) Q (gV V L R Q (nF F)).2 U hi.ints h1 h2 (by rw[D];omega) al a1 (aa8 m h.lt Q (nF F)) (aa7 m h.lt z (nF F)) al aj;rwa [D] at this
  ·have l:kX V L R Q F=0:=by rw[kX,aw aT,aA aj]
   (have e5:oB V L R Q F=(Q,xW (gV V L R Q (nF F)).2):=by rw[oB,aw l]);rw[l,e5];have:=aiN (some ⟨G,0,none⟩) b' c' V.length eP jX (iL (ar V)) Q (gV V L R Q (nF F)).2 U hi.ints h1 h2 (by rw[D];omega) al a1 (aa8 m h.lt Q (nF F)) (aa7 m h.lt z (nF F)) al aj;rwa [D] at this
 have E:Hid (∀k,xe V L R Q F=k ->k≠0 ->kX V L R Q F=k/\oB V L R Q F=([],[])):=fun k e i=>by
  have l:kX V L R Q F=k:=by rw[kX,aA (by rw[e];exact i),e]
  exact⟨l,by rw[oB,l,aA i]⟩
 have uE:Hid (ir V L R F≠0 ->xe V L R Q F=ir V L R F):=fun e=>aA e;have pg:Hid (ir V L R F=0 ->(jV (iL (ar V)) Q).2≠0 ->xe V L R Q F=(jV (iL (ar V)) Q).2):=fun e i=>by rw[xe,aw e,aA i]
 have xD:Hid (ir V L R F=0 ->(jV (iL (ar V)) Q).2=0 ->(F.any fun p=>zj p.1 Q)=true ->xe V L R Q F=7):=fun e i n=>by rw[xe,aw e,aw i,aw n]
 generalize kX V L R Q F=pe at *;generalize oB V L R Q F=t at *;generalize xe V L R Q F=ae at *;generalize gV V L R Q (nF F)=TT at *;generalize ir V L R F=fe at *;generalize (F.any fun p=>zj p.1 Q)=fq at *;clear h hq hF YM ub;have p4:=(au w.heap.size w).alloc (ah _) (NC (.slice a V.length ca) (.slice b L.length cb) (.slice c R.length cc));have mM:=p4.alloc p4.size (.cells #[.slice f F.length d] 28);have HA:=hid (mM.alloc mM.size (TC (.slice none 0 0) (.slice none 0 0)));have a7:(w.alloc (NC (.slice a V.length ca) (.slice b L.length cb) (.slice c R.length cc))).heap.size=w.heap.size+1:=aE
 have a8:((w.alloc (NC (.slice a V.length ca) (.slice b L.length cb) (.slice c R.length cc))).alloc (.cells #[.slice f F.length d] 28)).heap.size=w.heap.size+1+1:=aE
 have Au:Hid (bW (((w.alloc (NC (.slice a V.length ca) (.slice b L.length cb) (.slice c R.length cc))).alloc (.cells #[.slice f F.length d] 28)).alloc (TC (.slice none 0 0) (.slice none 0 0))) w.heap.size (.slice a V.length ca) (.slice b L.length cb) (.slice c R.length cc)):=by
  have hN:=bW.at (w:=w) rfl (.slice a V.length ca) (.slice b L.length cb) (.slice c R.length cc);have zR:=hN.aa ((au _ _).alloc (ah _) (.cells #[.slice f F.length d] 28)) hN.lt;exact zR.aa ((au _ _).alloc (ah _) (TC (.slice none 0 0) (.slice none 0 0))) zR.lt
 have yC:Hid (Boxed (((w.alloc (NC (.slice a V.length ca) (.slice b L.length cb) (.slice c R.length cc))).alloc (.cells #[.slice f F.length d] 28)).alloc (TC (.slice none 0 0) (.slice none 0 0))) (w.heap.size+1) 28 (.slice f F.length d)):=by
  have:=(bt (w.alloc (NC (.slice a V.length ca) (.slice b L.length cb) (.slice c R.length cc))) 28 (.slice f F.length d)).alloc (TC (.slice none 0 0) (.slice none 0 0));rwa [a7] at this
 have qi:Hid (bw (((w.alloc (NC (.slice a V.length ca) (.slice b L.length cb) (.slice c R.length cc))).alloc (.cells #[.slice f F.length d] 28)).alloc (TC (.slice none 0 0) (.slice none 0 0))) (w.heap.size+1+1) (.slice none 0 0) (.slice none 0 0)):=bw.at (w:=(w.alloc (NC (.slice a V.length ca) (.slice b L.length cb) (.slice c R.length cc))).alloc (.cells #[.slice f F.length d] 28)) a8 _ _;obtain⟨n0,n1,n2⟩:=Au.o.cells;have x0:=yC.o.cell;clear p4 mM a7 a8;go_enter Tryz.func44,Tryz.ntmps44;go_wp2_with fail
 generalize (((w.alloc (NC (.slice a V.length ca) (.slice b L.length cb) (.slice c R.length cc))).alloc (.cells #[.slice f F.length d] 28)).alloc (TC (.slice none 0 0) (.slice none 0 0)))=W0 at *;refine(Az.o W0 HA.o).af ?_;rintro e w2 ⟨rfl,ab⟩;have S:=hid (HA.o.trans (ab.af HA.o.size));have o6:=hid (Au.o.aa ab Au.o.lt);have qZ:=hid (bc yC.o ab);have T:=hid (qi.o.aa ab qi.o.lt);clear n0 n1 n2 x0 ab HA Au yC qi Az;by_cases qQ:fe=0
 ·subst qQ;have vJ:=hid (IP.o rfl);have DX:=hid (iy.o rfl);have ax:=hid (pg.o rfl);have av:=hid (xD.o rfl);obtain⟨n0,n1,n2⟩:=o6.o.cells;clear uE pg xD IP iy;go_wp2_with fail
  refine(ij.o w2 S.o).af ?_;rintro e w3 ⟨G,rfl,hG,ay,ad⟩;have dZ:=hid (S.o.trans (ad.af S.o.size));have Ll:=hid (o6.o.aa ad o6.o.lt);have Ak:=hid (bc qZ.o ad);have mV:=hid (T.o.aa ad T.o.lt);have uG:=hid (Ps.o G w3 dZ.o ay);have yK:=hid ay;clear n0 n1 n2 ad ay hG S o6 qZ T ij Ps;generalize (jV (iL (ar V)) Q).1=c1 at *;generalize (jV (iL (ar V)) Q).2=c2 at *;go_wp2_with fail
  refine uG.o.af ?_;rintro e w4 ⟨rfl,I⟩;have X:=hid (dZ.o.trans (I.af dZ.o.size));have xA:=hid (Ll.o.aa I Ll.o.lt);have Dw:=hid (bc Ak.o I);have Z:=hid (mV.o.aa I mV.o.lt);have an:=hid (yK.o.aa I yK.o.lt);clear I dZ Ll Ak mV yK uG;by_cases ai:c2=0
  ·subst ai;have aq:=hid (vJ.o rfl);have F8:=hid (DX.o rfl);have ak:=hid (av.o rfl);have Cn:=hid (aN.o (w.heap.size+1) w4 X.o Dw.o.lt Dw.o.cell);clear ax av vJ DX aN;go_wp2_with fail
   refine Cn.o.af ?_;rintro e w5 ⟨rfl,J⟩;have Y:=hid (X.o.trans (J.af X.o.size));have I3:=hid (xA.o.aa J xA.o.lt);have yB:=hid (bc Dw.o J);have sA:=hid (Z.o.aa J Z.o.lt);have qo:=hid (an.o.aa J an.o.lt);clear J X xA Dw Z an Cn;cases fq with
   |true=>
    obtain⟨r,s⟩:=E.o 7 (ak.o rfl) bd;have yH:=hid r;have tr:=hid s;obtain⟨t0,t1,f0,f1⟩:=sA.o.facts;have H:=hid (sA.o.put (.slice none 0 0) (.slice none 0 0));have A:=hid (qU (g:=w.heap.size+1+1) Y.o al (.slice none 0 0) (.slice none 0 0));clear r s E ak aq F8;go_wp2;refine cP (H.o.result2 rfl _ rfl) rfl ?_;exact⟨by rw[yH.o,tr.o];exact um.empty 7 _,A.o⟩
   |false=>
    have yF:=hid (aq.o rfl w5 Y.o);have I2:=hid (F8.o rfl);obtain⟨n0,n1,n2⟩:=I3.o.cells;have x0:=yB.o.cell;clear E ak aq F8;go_wp2_with fail
    refine yF.o.af ?_;rintro e w6 ⟨x,y,rfl,Bp,je⟩;have Gl:=hid (Y.o.trans (je.af Y.o.size));have F7:=hid (sA.o.aa je sA.o.lt);have aQ:=hid (I2.o G x y w6 (qo.o.aa je qo.o.lt) Bp);obtain⟨xs,xn,xc,rfl⟩:=Bp.slices.1;obtain⟨ys,yn,yc,rfl⟩:=Bp.slices.2;clear n0 n1 n2 x0 Bp je Y I3 yB sA qo yF I2;go_wp2_with fail
    refine aQ.o.af ?_;rintro e w7 ⟨⟨M,P,K,O,rfl,Fh,a6⟩,fP⟩;have wS:=F7.o.aa fP F7.o.lt;have zW:=Gl.o.trans (fP.af Gl.o.size);obtain⟨t0,t1,f0,f1⟩:=wS.facts;have H:=hid (wS.put (.slice M t.1.length K) (.slice P t.2.length O));have bf:=hid (Fh.putT wS (slv _ _ _) (slv _ _ _) (slv M t.1.length K) (.slice P t.2.length O));have bb:=hid (a6.putT wS (slv _ _ _) (slv _ _ _) (slv M t.1.length K) (.slice P t.2.length O));have A:=hid (qU (g:=w.heap.size+1+1) zW al (.slice M t.1.length K) (.slice P t.2.length O));clear Fh a6 fP wS zW aQ F7 Gl;go_wp2;refine cP (H.o.result2 rfl _ rfl) rfl ?_;exact⟨⟨M,P,K,O,rfl,bf.o,bb.o⟩,A.o⟩
  ·obtain⟨r,s⟩:=E.o c2 (ax.o ai) ai;have yH:=hid r;have tr:=hid s;(have yf:(c2==0)=false:=by simpa using ai);obtain⟨t0,t1,f0,f1⟩:=Z.o.facts;have H:=hid (Z.o.put (.slice none 0 0) (.slice none 0 0));have A:=hid (qU (g:=w.heap.size+1+1) X.o al (.slice none 0 0) (.slice none 0 0));clear r s ai E ax av vJ DX;go_wp2;refine cP (H.o.result2 rfl _ rfl) rfl ?_;exact⟨by rw[yH.o,tr.o];exact um.empty c2 _,A.o⟩
 ·obtain⟨r,s⟩:=E.o fe (uE.o qQ) qQ;have yH:=hid r;have tr:=hid s;have yf:(fe==0)=false:=by simpa using qQ
  obtain⟨t0,t1,f0,f1⟩:=T.o.facts;have H:=hid (T.o.put (.slice none 0 0) (.slice none 0 0));have A:=hid (qU (g:=w.heap.size+1+1) S.o al (.slice none 0 0) (.slice none 0 0));clear r s qQ E uE pg xD IP iy;go_wp2;refine cP (H.o.result2 rfl _ rfl) rfl ?_;exact⟨by rw[yH.o,tr.o];exact um.empty fe _,A.o⟩
def Kc (D:List (Int×Int)) (Y:Kh) (F:List (Int×Int)):Bool:=D.any fun p=>Y.contains p.1 ||F.any fun q=>q.1==p.1
theorem am9 (q:Int×Int) (y f:Kd) (cy j:Nat) (Y:Kh) (F:List (Int×Int)) (B C:Nat) (w:World) (r:B<w.heap.size) (s:C<w.heap.size) (m:w.cell? ⟨B,0,none⟩=some (.slice y Y.length cy)) (X:w.cell? ⟨C,0,none⟩=some (.slice f F.length j)) (l:aC w y Y) (D:Y.length<=1000) (k:ju w f F) (t:F.length<=1000):
  da 97 #[.agg #[.int .i64 q.1,.int .i64 q.2],.pointer (some ⟨B,0,none⟩),.pointer (some ⟨C,0,none⟩)] w (du w (.bool (Y.contains q.1 ||F.any fun p=>p.1==q.1))):=by
 obtain⟨a,c⟩:=q;show da 97 #[.agg #[.int .i64 a,.int .i64 c],.pointer (some ⟨B,0,none⟩),.pointer (some ⟨C,0,none⟩)] w fun e w'=>e=.returned (.bool (Y.contains a ||F.any fun p=>p.1==a))/\db w w';have h:=(au w.heap.size w).alloc (ah _) (.cells #[.int .i64 a,.int .i64 c] 30);have v:=(h.cell (p:=⟨B,0,none⟩) r).trans m;have kC:=(h.cell (p:=⟨C,0,none⟩) s).trans X;have H:=hid (fun (U:World) (g:db w U)=>abL y cy Y a U (l.aa g) al);have K:=hid (fun (U:World) (g:db w U)=>Ww f j F a U (k.aa g) t);have i:(w.alloc (.cells #[.int .i64 a,.int .i64 c] 30)).heap[w.heap.size]? =some (.cells #[.int .i64 a,.int .i64 c] 30 (0,0)):=eM w _;have u:(w.alloc (.cells #[.int .i64 a,.int .i64 c] 30)).cell? ⟨w.heap.size,0,none⟩=some (.int .i64 a):=by rw[bh _ _ _ _ _ (0,0) i];rfl
 have A:=hid h;have x:=hid i;have z:=hid X;clear m X l k h i;generalize Y.contains a=n at *;generalize (F.any fun p=>p.1==a)=b2 at *;go_enter Tryz.func97,Tryz.ntmps97;go_wp2_with fail
 refine(H.o _ A.o).af ?_;rintro e E ⟨rfl,d⟩;subst d;have b:=A;clear H v x A z;cases n with
 |true=>
  go_wp2;go_ret;exact⟨rfl,b.o⟩
 |false=>
  go_wp2_with fail
  refine(K.o _ b.o).af ?_;rintro e I ⟨rfl,d⟩;have S:=hid (b.o.trans (d.af b.o.size));clear d K b u kC;go_wp2;go_ret;exact⟨rfl,S.o⟩
theorem am8 (d y f:Kd) (b cy c:Nat) (D:List (Int×Int)) (Y:Kh) (F:List (Int×Int)) (w:World) (i:ju w d D) (u:D.length<=1000) (k:aC w y Y) (t:Y.length<=1000) (j:ju w f F) (v:F.length<=1000):
  da 45 #[.slice d D.length b,.slice y Y.length cy,.slice f F.length c] w (du w (.bool (Kc D Y F))):=by
 have a:=(au w.heap.size w).alloc (ah _) (.cells #[.slice y Y.length cy] 27);have A:db w ((w.alloc (.cells #[.slice y Y.length cy] 27)).alloc (.cells #[.slice f F.length c] 28)):=a.alloc a.size _
 have x:((w.alloc (.cells #[.slice y Y.length cy] 27)).alloc (.cells #[.slice f F.length c] 28)).cell? ⟨w.heap.size,0,none⟩=some (.slice y Y.length cy):=by
  have g:=bt w 27 (.slice y Y.length cy);exact(((au _ (w.alloc (.cells #[.slice y Y.length cy] 27))).alloc (ah _) (.cells #[.slice f F.length c] 28)).cell (p:=⟨w.heap.size,0,none⟩) g.lt).trans g.cell
 have m:((w.alloc (.cells #[.slice y Y.length cy] 27)).alloc (.cells #[.slice f F.length c] 28)).cell? ⟨w.heap.size+1,0,none⟩=some (.slice f F.length c):=by
  simp
 have s:w.heap.size+1<((w.alloc (.cells #[.slice y Y.length cy] 27)).alloc (.cells #[.slice f F.length c] 28)).heap.size:=aE
 have r:=hid (agA d b 97 #[.pointer (some ⟨w.heap.size,0,none⟩),.pointer (some ⟨w.heap.size+1,0,none⟩)] D (fun p=>Y.contains p.1 ||F.any fun q=>q.1==p.1) _ (i.aa A) u (enters_of Tryz.func97 ao rfl) (fun q _ U h=>am9 q y f cy c Y F w.heap.size (w.heap.size+1) U (by have:=h.size;omega) (by have:=h.size;omega) ((h.cell (p:=⟨w.heap.size,0,none⟩) (by show w.heap.size<_;omega)).trans x) ((h.cell (p:=⟨w.heap.size+1,0,none⟩) s).trans m) ((k.aa A).aa h) t ((j.aa A).aa h) v));have H:=hid A;clear i A x m k j a s;show Calls _ _ _ _ fun e w'=>e=.returned (.bool (D.any fun p=>Y.contains p.1 ||F.any fun q=>q.1==p.1))/\db w w';generalize (D.any fun p=>Y.contains p.1 ||F.any fun q=>q.1==p.1)=R at *;go_enter Tryz.func45,Tryz.ntmps45;go_wp2_with fail
 refine r.o.af ?_;rintro e z ⟨rfl,l⟩;have n:=hid (H.o.trans (l.af H.o.size));clear l;go_wp2;go_ret;exact⟨rfl,n.o⟩
variable {F:List (Int×Int)} {Y:Kh} {U':World}
def FK (V:List Vr) (L:List Kh) (R:List (List Fr)) (Y:Kh) (D F:List (Int×Int)):Int:=
 if ir V L R D=0 then(if (kX V (dw (nF D) L) (eJ V (nF D) (cK R)) Y F=0∨kX V (dw (nF D) L) (eJ V (nF D) (cK R)) Y F=3)/\Kc D Y F=true then 7 else kX V (dw (nF D) L) (eJ V (nF D) (cK R)) Y F) else ir V L R D
def KR (V:List Vr) (L:List Kh) (R:List (List Fr)) (Y:Kh) (D F:List (Int×Int)):Tb:=
 if FK V L R Y D F=0 then oB V (dw (nF D) L) (eJ V (nF D) (cK R)) Y F else([],[])
theorem akW (h:kX V L R Y F≠0):oB V L R Y F=([],[]):=by rw[oB,aA h]
structure Ua (V:List Vr) (L:List Kh) (R:List (List Fr)) (d:List (Nat×Nat)):Prop where
 sm:sk V (dw d L) (eJ V d (cK R))
 wt:∀l∈eJ V d (cK R),fw l<=4200
 lt:tE V (eJ V d (cK R))
theorem VT (f:bw U g x y) (i:cO x) (j:cO y) {b:Kd} (h:n≠0 ->∃g' o v,b=some ⟨g',o,none⟩/\U.cell? ⟨g',o,none⟩=some v/\¬cO v):qY [g] b n:=fun g' o e q m=>by
 obtain⟨k,l,v,a,c,d⟩:=h q;rw[e] at a;cases a;rw[dS.1 m] at c;rw[bh U g o _ _ (0,0) f] at c;match o,c with
 |0,c=>cases c;exact d i
 |1,c=>cases c;exact d j
 |o+2,c=>simp at c
structure tF (w U:World) (x y z:Value):Prop where
 bx:bW U w.heap.size x y z
 res:bw U (w.heap.size+1) (.slice none 0 0) (.slice none 0 0)
 bel:db w U
theorem tF.begin (w:World) (x y z:Value):tF w ((w.alloc (.cells #[x,y,z] 26)).alloc (.cells #[.slice none 0 0,.slice none 0 0] 38)) x y z:=
 have a:Below (w.alloc (.cells #[x,y,z] 26)).heap.size (w.alloc (.cells #[x,y,z] 26)) ((w.alloc (.cells #[x,y,z] 26)).alloc (.cells #[.slice none 0 0,.slice none 0 0] 38)):=(au _ _).alloc (ah _) _;have e:bW (w.alloc (.cells #[x,y,z] 26)) w.heap.size x y z:=bW.at (w:=w) rfl _ _ _;⟨e.aa a e.lt,by have:=eM (w.alloc (.cells #[x,y,z] 26)) (.cells #[.slice none 0 0,.slice none 0 0] 38);simpa [bw] using this,((au _ w).alloc (ah _) _).alloc aE _⟩
theorem tF.step (h:tF w U x y z) (b:db U U'):tF w U' x y z:=⟨h.bx.aa b h.bx.lt,h.res.aa b h.res.lt,h.bel.trans (b.af h.bel.size)⟩
theorem tF.cells (h:tF w U x y z):U.cell? ⟨w.heap.size,0,none⟩=some x/\U.cell? ⟨w.heap.size,1,none⟩=some y/\U.cell? ⟨w.heap.size,2,none⟩=some z:=h.bx.cells
theorem tF.o (h:tF w U x y z) (p q:Value):db w ((U.setCell ⟨w.heap.size+1,0,none⟩ p).setCell ⟨w.heap.size+1,1,none⟩ q)/\(∀(b:Kd) (l:Kh),aC U b l ->aC ((U.setCell ⟨w.heap.size+1,0,none⟩ p).setCell ⟨w.heap.size+1,1,none⟩ q) b l)/\(∀(b:Kd) (l:List Fr),cE U b l ->cE ((U.setCell ⟨w.heap.size+1,0,none⟩ p).setCell ⟨w.heap.size+1,1,none⟩ q) b l):=by
 have d:=((fE.refl [w.heap.size+1] U).put (b:=w.heap.size+1) (.inl aE) 0 p).put (b:=w.heap.size+1) (.inl aE) 1 q;have hs:=slv none 0 0;refine⟨d.low h.bel fun g i=>by rw[dS.1 i];omega,fun b l a=>Rn a (VT h.res hs hs fun f=>?_) d,fun b l a=>KO a (VT h.res hs hs fun f=>?_) d⟩
 ·obtain⟨g',o,e,_,c⟩:=a 0 al;exact⟨g',o,_,e,c,adE⟩
 ·obtain⟨g',o,e,_,c,_⟩:=a 0 al;rw[nW,iX] at c;exact⟨g',o,_,e,c,V4⟩
theorem ars (a b c y d f:Kd) (ca cb cc cy cd cf:Nat) (V:List Vr) (L:List Kh) (R:List (List Fr)) (Y:Kh) (D F:List (Int×Int)) (w:World) (h:FV w a b c V L R) (hy:aC w y Y) (hY:Y.length<=1000) (hD:ju w d D) (hd:D.length<=1000) (zI:D.length<=cd) (hF:ju w f F) (hn:F.length<=1000) (ub:F.length<=cf) (XU:ir V L R D=0 ->Ua V L R (nF D)):
  da 12 #[.agg #[.slice a V.length ca,.slice b L.length cb,.slice c R.length cc],.slice y Y.length cy,.slice d D.length cd,.slice f F.length cf] w fun e w'=>um (KR V L R Y D F).1 (KR V L R Y D F).2 (FK V L R Y D F) e w'/\db w w':=by
 have hA:tF w ((w.alloc (.cells #[.slice a V.length ca,.slice b L.length cb,.slice c R.length cc] 26)).alloc (.cells #[.slice none 0 0,.slice none 0 0] 38)) (.slice a V.length ca) (.slice b L.length cb) (.slice c R.length cc):=tF.begin w _ _ _;by_cases Q:ir V L R D=0
 ·obtain⟨o1,o2,o3⟩:=XU Q;have Pn:=hid (fun (U:World) (k:db w U)=>art a b c d ca cb cc cd V L R D U (h.aa k).net h.sm (hD.aa k) hd zI Q);have aj:=hid (fun (U:World) (k:db w U)=>am8 d y f cd cy cf D Y F U (hD.aa k) hd (hy.aa k) hY (hF.aa k) hn)
  have IX:Hid (∀(H q J:Kd) (yv P X:Nat) (U:World),db w U ->iT U H q J V (dw (nF D) L) (eJ V (nF D) (cK R)) ->oZ U q (dw (nF D) L) ->da 44 #[.agg #[.slice H V.length yv,.slice q (dw (nF D) L).length P,.slice J (eJ V (nF D) (cK R)).length X],.slice y Y.length cy,.slice f F.length cf] U fun e w'=>um (oB V (dw (nF D) L) (eJ V (nF D) (cK R)) Y F).1 (oB V (dw (nF D) L) (eJ V (nF D) (cK R)) Y F).2 (kX V (dw (nF D) L) (eJ V (nF D) (cK R)) Y F) e w'/\db U w'):=fun H q J yv P X U k K s=>
   anS H q J y f yv P X cy cf V _ _ Y F U ⟨K,s,o1,o2,o3,fun _=>h.few (SQ Q).1⟩ (hy.aa k) hY (hF.aa k) hn ub
  have KA:FK V L R Y D F=(if (kX V (dw (nF D) L) (eJ V (nF D) (cK R)) Y F=0∨kX V (dw (nF D) L) (eJ V (nF D) (cK R)) Y F=3)/\Kc D Y F=true then 7 else kX V (dw (nF D) L) (eJ V (nF D) (cK R)) Y F):=by rw[FK,aw Q]
  have ht:kX V (dw (nF D) L) (eJ V (nF D) (cK R)) Y F≠0 ->oB V (dw (nF D) L) (eJ V (nF D) (cK R)) Y F=([],[]):=akW;rw[KR,KA];have HT:=hid ht;generalize dw (nF D) L=DL at *;generalize eJ V (nF D) (cK R)=DR at *;generalize kX V DL DR Y F=p at *;generalize oB V DL DR Y F=T at *;generalize Kc D Y F=m at *;obtain⟨R1,ad⟩:∃x:Tb,(if (if (p=0∨p=3)/\m=true then(7:Int) else p)=0 then T else([],[]))=x:=⟨_,rfl⟩;obtain⟨R2,ae⟩:∃x:Int,(if (p=0∨p=3)/\m=true then(7:Int) else p)=x:=⟨_,rfl⟩;rw[ad,ae];rw[ae] at ad;have O:=hid ad;have l:=hid ae;clear h hy hD hF XU Q o1 o2 o3 KA ht ad ae zI ub;go_enter Tryz.func12,Tryz.ntmps12;go_upto_region 1 with fail
  generalize ((w.alloc (.cells #[.slice a V.length ca,.slice b L.length cb,.slice c R.length cc] 26)).alloc (.cells #[.slice none 0 0,.slice none 0 0] 38))=W0 at *;have A:=hid hA;obtain⟨i0,i1,i2⟩:=hA.cells;clear hA;go_wp2_with fail
  refine(Pn.o _ A.o.bel).af ?_;rintro e w1 ⟨H,q,J,yv,P,X,rfl,hN,hL,i⟩;replace A:=hid (A.o.step i);have I:db w1 (w1.alloc (.cells #[.slice H V.length yv,.slice q DL.length P,.slice J DR.length X] 26)):=(au _ w1).alloc (ah _) _;have bD:=bW.at (w:=w1) rfl (.slice H V.length yv) (.slice q DL.length P) (.slice J DR.length X);have zR:=hN.aa I;have ak:=hL.aa hN.pars I;have mM:=A.o.step I;obtain⟨gm,pW⟩:∃g,w1.heap.size=g:=⟨_,rfl⟩;obtain⟨w2,aq⟩:∃U,w1.alloc (.cells #[.slice H V.length yv,.slice q DL.length P,.slice J DR.length X] 26)=U:=⟨_,rfl⟩;simp only[NC] at bD;rw[aq] at zR ak mM bD;rw[pW] at bD;have o6:=hid zR;have jJ:=hid ak;have iH:=hid mM;obtain⟨n0,n1,n2⟩:=bD.cells;clear i hN hL I zR ak mM bD A Pn i0 i1 i2;go_wp2_with fail
  clear pW aq;refine(IX.o H q J yv P X _ iH.o.bel o6.o jJ.o).af ?_;rintro e n ⟨⟨t,u,z,v,rfl,hq,an⟩,i⟩;have I:db n (n.alloc (.cells #[.slice t T.1.length z,.slice u T.2.length v] 38)):=(au _ n).alloc (ah _) _;have ld:bw (n.alloc (.cells #[.slice t T.1.length z,.slice u T.2.length v] 38)) n.heap.size (.slice t T.1.length z) (.slice u T.2.length v):=eM n _;have zX:=(iH.o.step i).step I;have Xs:=hq.aa I;have al:=an.aa I;obtain⟨gt,S⟩:∃g,n.heap.size=g:=⟨_,rfl⟩;obtain⟨w4,ab⟩:∃U,n.alloc (.cells #[.slice t T.1.length z,.slice u T.2.length v] 38)=U:=⟨_,rfl⟩;rw[ab] at ld zX Xs al;rw[S] at ld;have eo:=hid ld;have Z:=hid zX;have HQ:=hid Xs;have HC:=hid al;have Dx:=hid ab;have Lu:=hid S;clear i hq an I ld zX Xs al ab S n0 n1 n2 IX iH o6 jJ;by_cases M:p=0∨p=3
  ·have ao:da 45 #[.slice d D.length cd,.slice y Y.length cy,.slice f F.length cf] w4 fun e w'=>e=.returned (.bool m)/\db w4 w':=aj.o w4 Z.o.bel;have q8:=hid ao;clear ao aj;rcases M with M |M
   focus
    subst M;have S:=Lu.o;have ab:n.alloc (.cells #[.slice t T.1.length z,.slice u T.2.length v] 38)=w4:=Dx.o;go_wp2_with fail
    clear S ab;refine q8.o.af ?_;rintro e w5 ⟨rfl,i⟩;have vX:=hid (Z.o.step i);have BX:=hid (eo.o.aa i eo.o.lt);have ux:=hid (HQ.o.aa i);have ai:=hid (HC.o.aa i);have r:=vX.o.res;have f0:=fj _ (w.heap.size+1) 0 _ _ r;have f1:=fj _ (w.heap.size+1) 1 _ _ r;obtain⟨t0,t1, -, -⟩:=BX.o.facts;obtain⟨r0,r1, -, -⟩:=vX.o.res.facts;clear i Z eo HQ HC q8 Dx Lu;cases m with
    |false=>
     have E:Hid (R2=0/\R1=T):=⟨by have:=l.o;simpa using this.symm,by have K:=O.o;have s:=l.o;simp at s;rw[<- K, <- s];rfl⟩;clear O l;go_wp2_with fail
     refine cP ((r.put _ _).result2 rfl _ rfl) rfl ?_;have j:=tF.o vX.o;rw[E.o.1,E.o.2];exact⟨⟨t,u,z,v,rfl,(j _ _).2.1 _ _ ux.o,(j _ _).2.2 _ _ ai.o⟩,(j _ _).1⟩
    |true=>
     have E:Hid (R2=7/\R1=([],[])):=⟨by have:=l.o;simpa using this.symm,by have K:=O.o;have s:=l.o;simp at s;rw[<- K, <- s];rfl⟩;clear O l;go_wp2_with fail
     refine cP ((r.put _ _).result2 rfl _ rfl) rfl ?_;have j:=tF.o vX.o;rw[E.o.1,E.o.2];exact⟨um.empty 7 _,(j _ _).1⟩
   focus
    subst M;obtain rfl:T=([],[]):=HT.o bd;have S:=Lu.o;have ab:n.alloc (.cells #[.slice t 0 z,.slice u 0 v] 38)=w4:=Dx.o;go_wp2_with fail
    clear S ab;refine q8.o.af ?_;rintro e w5 ⟨rfl,i⟩;have vX:=hid (Z.o.step i);have BX:=hid (eo.o.aa i eo.o.lt);have ux:=hid (HQ.o.aa i);have ai:=hid (HC.o.aa i);have r:=vX.o.res;have f0:=fj _ (w.heap.size+1) 0 _ _ r;have f1:=fj _ (w.heap.size+1) 1 _ _ r;obtain⟨t0,t1, -, -⟩:=BX.o.facts;obtain⟨r0,r1, -, -⟩:=vX.o.res.facts;clear i Z eo HQ HC q8 Dx Lu;cases m with
    |false=>
     have E:Hid (R2=3/\R1=([],[])):=⟨by have:=l.o;simpa using this.symm,by have K:=O.o;have s:=l.o;simp at s;rw[<- K, <- s];rfl⟩;clear O l;go_wp2_with fail
     refine cP ((r.put _ _).result2 rfl _ rfl) rfl ?_;have j:=tF.o vX.o;rw[E.o.1,E.o.2];exact⟨⟨t,u,z,v,rfl,(j _ _).2.1 _ _ ux.o,(j _ _).2.2 _ _ ai.o⟩,(j _ _).1⟩
    |true=>
     have E:Hid (R2=7/\R1=([],[])):=⟨by have:=l.o;simpa using this.symm,by have K:=O.o;have s:=l.o;simp at s;rw[<- K, <- s];rfl⟩;clear O l;go_wp2_with fail
     refine cP ((r.put _ _).result2 rfl _ rfl) rfl ?_;have j:=tF.o vX.o;rw[E.o.1,E.o.2];exact⟨um.empty 7 _,(j _ _).1⟩
  ·obtain rfl:T=([],[]):=HT.o fun e=>M (.inl e);have C6:¬p=0:=fun e=>M (.inl e);have x8:¬p=3:=fun e=>M (.inr e);have E:Hid (R2=p/\R1=([],[])):=⟨by have:=l.o;simpa [C6,x8] using this.symm,by have K:=O.o;rw[<- K];split<;>rfl⟩;have r:=Z.o.res;have f0:=fj _ (w.heap.size+1) 0 _ _ r;have f1:=fj _ (w.heap.size+1) 1 _ _ r;obtain⟨t0,t1, -, -⟩:=eo.o.facts;obtain⟨r0,r1, -, -⟩:=Z.o.res.facts;have ab:n.alloc (.cells #[.slice t 0 z,.slice u 0 v] 38)=w4:=Dx.o;have S:=Lu.o;have wP:decide (p=0)=false:=cF C6;have pY:decide (p=3)=false:=cF x8;clear M HT aj O l Dx Lu;go_wp2_with fail
   refine cP ((r.put _ _).result2 rfl _ rfl) rfl ?_;have j:=tF.o Z.o;rw[E.o.1,E.o.2];exact⟨⟨t,u,z,v,rfl,(j _ _).2.1 _ _ HQ.o,(j _ _).2.2 _ _ HC.o⟩,(j _ _).1⟩
 ·have Pn:=hid (fun (U:World) (k:db w U)=>aru a b c d ca cb cc cd V L R D U (h.aa k).net h.sm (hD.aa k) hd zI Q);have KA:FK V L R Y D F=ir V L R D:=by rw[FK,aA Q]
  rw[KR,KA,aA Q];generalize ir V L R D=fe at *;clear h hy hD hF XU KA zI ub;go_enter Tryz.func12,Tryz.ntmps12;go_upto_region 1 with fail
  generalize ((w.alloc (.cells #[.slice a V.length ca,.slice b L.length cb,.slice c R.length cc] 26)).alloc (.cells #[.slice none 0 0,.slice none 0 0] 38))=W0 at *;have A:=hid hA;obtain⟨i0,i1,i2⟩:=hA.cells;clear hA;go_wp2_with fail
  refine(Pn.o _ A.o.bel).af ?_;rintro e w1 ⟨rfl,i⟩;have mM:=(A.o.step i).step ((au _ w1).alloc (ah _) (.cells #[.slice none 0 0,.slice none 0 0,.slice none 0 0] 26));have iH:=hid mM;have r:=mM.res;have f0:=fj _ (w.heap.size+1) 0 _ _ r;have f1:=fj _ (w.heap.size+1) 1 _ _ r;obtain⟨r0,r1, -, -⟩:=iH.o.res.facts;clear i Pn A mM i0 i1 i2;go_wp2_with fail
  refine cP ((r.put _ _).result2 rfl _ rfl) rfl ?_;have j:=tF.o iH.o;exact⟨um.empty fe _,(j _ _).1⟩
theorem aqy (f:Fr):(B (ba f).den).size<=f.2.2.size+1:=by
 have e:ba f=mkRat (sg f.1 (N f.2.1)) (N f.2.2):=rfl;by_cases h:N f.2.2=0
 ·rw[e,h,Rat.mkRat_zero];have:(B ((0:Rat).den)).size<=1:=by rw[mY];exact rX 1 1 bd
  omega
 ·have a:fQ (N f.2.2) (ba f):=⟨_,e⟩;have b:=Nat.le_of_dvd (lA h) (a.dvd h);have c:=kW b;have d:=jK f.2.2;omega
theorem agm (y:Nat):∀l:List Fr,(B (p7 l*y)).size<=l.length+sw l+(B y).size
 |[]=>by rw[p7,kO];omega
 |f::l=>by
  rw[p7,jh];have h:=A0 (ba f).den (p7 l*y);have a:=aqy f;have b:=agm y l;rw[dV,sw];omega
def wR (R:List (List Fr)):Ki ->Nat
 |[]=>0
 |v::vs=>(R.getD v []).length+sw (R.getD v [])+wR R vs
theorem agk (R:List (List Fr)):∀us:Ki,(B (gP R us)).size<=wR R us+1
 |[]=>by
  show (B 1).size<=0+1;rw[mY];exact rX 1 1 bd
 |v::vs=>by
  rw[gP,wR];have h:=agm (gP R vs) (R.getD v []);have a:=agk R vs;omega
variable {a:Kd}
theorem U3:∀l:List Fr,l.length+sw l<=fw l
 |[]=>ah _
 |f::l=>by
  have:=U3 l;rw[dV,sw,fw];omega
theorem aaT (h:∀l∈R,fw l<=400):∀us:Ki,wR R us<=400*us.length
 |[]=>ah _
 |v::vs=>by
  have b:=aaT h vs
  have c:(R.getD v []).length+sw (R.getD v [])<=400:=by
   by_cases a:v<R.length
   ·rw[bF,aV a];exact aL (U3 _) (h _ (bP a))
   ·rw[bF,iA al];exact aL (U3 _) bd
  rw[wR,dV];omega
theorem NM.lite (h:NM V L R):tE V R:=by
 have b:=agk R (List.range V.length);have a:=aaT h.light (List.range V.length);have c:=h.six;rw[yU] at a;show (B (gP R (List.range V.length))).size<=4000;omega
theorem NM.ni4 (h:NM V L R) {b c:Kd} (n:iT w a b c V L R) (d:oZ w b L):FV w a b c V L R:=
 ⟨n,d,h.small,fun l m=>by have:=h.light l m;omega,h.lite,fun _=>by have:=aqS h;omega⟩
theorem acF (h0:aW V L R=0) {l:List (Nat×Nat)} (b:eV (ar V) V.length l):ir V L R (zF l)=0/\prF V L R (zF l)=qF (qI V L R l):=by
 have e:ir V L R (zF l)=0:=by
  rw[ir,aw h0];refine BL fun j h=>?_;have c:j<l.length:=by rw[yZ] at h;exact h
  have m:=bP c;have a:(zF l)[j]=((l[j].1:Int),(l[j].2:Int)):=by simp[zF]
  have q:=b.lt _ m;have r:=b.val _ m;refine af9 h (by rw[a];exact⟨Qd _,by show ((l[j].1:Nat):Int)<_;omega⟩) (by rw[a];exact⟨Qd _,by show ((l[j].2:Nat):Int)<((sz (ar V) ((l[j].1:Nat):Int).toNat:Nat):Int);rw[qE];omega⟩) ?_;rw[Jw];intro p n;obtain⟨i,k,rfl⟩:=iI n;rw[eW,yZ] at k;have o:i<l.length:=al
  have d:((zF l).take j)[i]'(by rw[eW,yZ];omega)=((l[i].1:Int),(l[i].2:Int)):=by rw[yV];simp[zF]
  rw[a,d];have f:=yS.1 b.nd i j (by simpa using o) (by simpa using c) al;simp only[mn] at f;intro g;have s:((l[i].1:Nat):Int)=((l[j].1:Nat):Int):=by simpa using g
  exact f al
 refine⟨e,?_⟩;rw[prF,aw e,He]
theorem ad9:∀l:List Fr,fw (l.map k5)<=fw l+l.length
 |[]=>ah _
 |f::l=>by
  have h:=ad9 l;have a:(k5 f).2.1.size+(k5 f).2.2.size<=f.2.1.size+f.2.2.size+1:=JO f.1 f.2.1 f.2.2;rw[fG,fw,fw,dV];omega
theorem agn:∀l:List Fr,p7 (l.map k5)=p7 l
 |[]=>rfl
 |f::l=>by rw[fG,p7,p7,agn l,SH]
theorem abj (n x:Nat):fw (rB n x)<=5*n/\p7 (rB n x)=1:=by
 have y:∀l:Ki,fw (l.map fun k=>qF (if k=x then 1 else 0))<=5*l.length/\p7 (l.map fun k=>qF (if k=x then 1 else 0))=1:=fun l=>by
  induction l with
  |nil=>exact⟨ah _,rfl⟩
  |cons k l ih=>
   obtain⟨a,h⟩:=ih;rw[fG,fw,p7,h,dV,nP];by_cases e:k=x
   ·rw[aw e];(have:(qF 1).2.1.size+(qF 1).2.2.size<=3:=by show qw 1<=3;have:=acn;omega);exact⟨al,rfl⟩
   ·rw[aA e];(have:(qF 0).2.1.size+(qF 0).2.2.size<=3:=by show qw 0<=3;have:=Vp;omega);exact⟨al,rfl⟩
 have:=y (List.range n);rw[yU] at this;exact this
section
variable {V : List Vr} {L : List Kh} {R : List (List Fr)} {d : List (Nat × Nat)}
theorem agj (h0:aW V L R=0) (h:eV (ar V) V.length d) (v:Nat):(eJ V d (cK R)).getD v []=(R.getD v []).map k5∨∃x,v<V.length/\(eJ V d (cK R)).getD v []=rB (sz (ar V) v) x:=by
 by_cases e:v∈d.map (·.1)
 ·obtain⟨p,a,rfl⟩:=aH.1 e;refine .inr ⟨p.2,h.lt p a,QL h.nd a ?_⟩;have:=(gC h0).lenR;rw[cK,cH,this];exact h.lt p a
 ·refine .inl ?_;rw[<- YT];exact JP e
theorem aqj (h0:aW V L R=0) (f:eV (ar V) V.length d) {l:List Fr} (g:l∈eJ V d (cK R)):(∃i∈R,l=i.map k5)∨∃v x,v<V.length/\l=rB (sz (ar V) v) x:=by
 obtain⟨v,a,rfl⟩:=iI g;have b:v<R.length:=by rw[Ze,cK,cH] at a;exact a
 have e:(eJ V d (cK R)).getD v []=(eJ V d (cK R))[v]:=by rw[bF,aV a];rfl
 rcases agj h0 f v with h |⟨x,c,h⟩
 ·refine .inl ⟨R[v],bP b,?_⟩;rw[<- e,h,bF,aV b];rfl
 ·exact .inr ⟨v,x,c,by rw[<- e,h]⟩
theorem agl (h0:aW V L R=0) (a:eV (ar V) V.length d):∀us:Ki,gP (eJ V d (cK R)) us<=gP R us
 |[]=>ah _
 |v::us=>by
  rw[gP,gP];refine kp ?_ (agl h0 a us);rcases agj h0 a v with h |⟨x,_,h⟩
  ·rw[h,agn];exact ah _
  ·rw[h,(abj _ _).2];exact lA (KS _)
theorem Ua.of (h0:aW V L R=0) (hs:sk V L R) (h:tE V R) (w:∀l∈R,fw (l.map k5)<=4200) (c:eV (ar V) V.length d):Ua V L R d:=by
 have i:∀v,v<V.length ->sz (ar V) v<=4:=fun v a=>by rw[GW a];exact((adL h0).1.len v a).2
 have f:∀l∈eJ V d (cK R),l.length<=5000/\fw l<=4200:=fun l h=>by
  rcases aqj h0 c h with ⟨e,b,rfl⟩ |⟨v,x,b,rfl⟩
  ·exact⟨by rw[cH];exact(hs.rows.2 e b).1,w e b⟩
  ·have:=i v b;have:=(abj (sz (ar V) v) x).1;exact⟨by rw[GX];omega,al⟩
 refine⟨⟨hs.vars,⟨by rw[rT];exact hs.pars.1,fun l h=>?_⟩,⟨by rw[Ze,cK,cH];exact hs.rows.1,fun l h=>⟨(f l h).1,aL (f l h).2 bd⟩⟩⟩,fun l h=>(f l h).2,?_⟩
 ·obtain⟨v,a,rfl⟩:=iI h;have g:v<L.length:=by rw[rT] at a;exact a
  have:=(Zf d L v).length_le;rw[bF,aV a,bF,aV g] at this;exact aL this (hs.pars.2 _ (bP g))
 ·exact aL (kW (agl h0 c _)) h
end
theorem afL:∀l:List Fr,2*l.length<=fw l
 |[]=>ah _
 |f::l=>by
  have:=afL l;rw[dV,fw];omega
theorem NM.dos {d:List (Nat×Nat)} (h:NM V L R) (a:eV (ar V) V.length d):Ua V L R d:=
 .of h.ok h.small h.lite (fun l b=>by have:=h.light l b;have:=ad9 l;have:=afL l;omega) a
variable {fy:List (Nat×Nat)}
section
variable {S : Ki} {n : Nat} {L L2 : List Kh} {φ : Nat -> (Nat -> Nat) -> Rat} {d : List (Nat × Nat)}
theorem agi {a b:List (Nat×Nat)} (h:(b.map (·.1)).Nodup):cM (a++b) φ=cM b (cM a φ):=by
 have f:∀(l m:List (Nat×Nat)) (g:Nat ->Nat),dH (l++m) g=dH m (dH l g):=fun l m=>by
  induction l with
  |nil=>exact fun g=>rfl
  |cons p l ih=>exact fun g=>ih _
 funext v g
 rw[cM,cM,cM,eh,f];by_cases e:v∈b.map (·.1)
 ·rw[aw e,aw (aZ.2 (.inr e)),QK h e _ g]
 ·rw[aA e];by_cases c:v∈a.map (·.1)
  ·rw[aw (aZ.2 (.inl c)),aw c,EE e]
  ·rw[aA (fun d=>(aZ.1 d).elim c e),aA c]
theorem ajT (h:fW S n L (cM d φ)) (b:(d.map (·.1)).Nodup) (a:∀p∈d,p.2<sz S p.1/\p.1<n) {fz fw:List (Nat×Nat)} (w:∀p∈d++fw,p.1<n/\p.2<sz S p.1) (y:∀p∈fy,p.1<n) (z:∀p∈fz,p.1<n) (f:((d++fw).map (·.1)).Nodup) (u:∀p∈fy,¬p.1∈(d++fw).map (·.1)) (j:∀p∈fz,¬p.1∈(d++fw).map (·.1))
  (o:¬qX L n (fun v=>v∈fy.map (·.1)) (fun v=>v∈fz.map (·.1)) (fun v=>v∈(d++fw).map (·.1))):
  bV S n (cM d φ) (fy++(fz++fw))*bV S n (cM d φ) fw=bV S n (cM d φ) (fy++fw)*bV S n (cM d φ) (fz++fw):=by
 have hs:∀l,bV S n (cM d φ) ((d++fw)++l)=bV S n (cM d φ) (l++fw):=fun l=>by
  rw[Hh (m:=(l++fw)++d) fun p=>by simp only[aZ];grind];exact Ix b (fun p c=>(a p c).2) _
 have e:=h.apart (iw.ball o) y z w f u j;rw[hs,hs,hs,hs] at e;simp only[kQ,fX] at e;rw[<- e,ny]
theorem ajO (h:fW S n L (cM d φ)) (i:(d.map (·.1)).Nodup) (f:∀p∈d,p.2<sz S p.1/\p.1<n) {fz fw:List (Nat×Nat)} (U:(fz.map (·.1)).Nodup) (z:∀p∈fz,p.2<sz S p.1/\p.1<n) (h1:∀v,v< n ->∀u∈ag (L.getD v []),¬u∈fz.map (·.1) ->u∈ag (L2.getD v [])) (o:∀v,v< n ->∀u∈ag (L2.getD v []),u∈ag (L.getD v [])/\¬u∈fz.map (·.1))
  (D:∀p∈d++fw,p.1<n/\p.2<sz S p.1) (F:∀p∈fy,p.1<n) (H:((d++fw).map (·.1)).Nodup) (V:∀p∈fy,¬p.1∈(d++fw).map (·.1)) (j:∀p∈fz,¬p.1∈(d++fw).map (·.1)) (E:∀p∈fy,¬p.1∈fz.map (·.1))
  (y:¬qX L2 n (fun v=>v∈fy.map (·.1)) (fun v=>v∈fz.map (·.1)) (fun v=>v∈(d++fw).map (·.1))):
  bV S n (cM d φ) (fy++(fz++fw))*bV S n (cM (d++fz) φ) fw=bV S n (cM (d++fz) φ) (fy++fw)*bV S n (cM d φ) (fz++fw):=by
 have w:∀v,v∈d.map (·.1) ->¬v∈fz.map (·.1):=fun v A x=>by
  obtain⟨p,c,rfl⟩:=aH.1 x;exact j p c (by rw[eh];exact aZ.2 (.inl A))
 have hs:∀l,bV S n (cM d φ) ((d++fw)++l)=bV S n (cM d φ) (l++fw):=fun l=>by
  rw[Hh (m:=(l++fw)++d) fun p=>by simp only[aZ];grind];exact Ix i (fun p c=>(f p c).2) _
 have t:cM fz (cM d φ)=cM (d++fz) φ:=(agi U).symm
 have k:((d++fz).map (·.1)).Nodup:=by
  rw[eh,lC];exact⟨i,U,fun a q b r e=>w a q (e▸r)⟩
 have s:∀l,bV S n (cM (d++fz) φ) ((d++fw)++l)=bV S n (cM (d++fz) φ) (l++fw):=fun l=>by
  have a:=Ix (S:=S) (n:=n) (φ:=φ) k (fun p c=>(aZ.1 c).elim (fun h=>(f p h).2) fun h=>(z p h).2) ((d++fw)++l);have b:=Ix (S:=S) (n:=n) (φ:=φ) k (fun p c=>(aZ.1 c).elim (fun h=>(f p h).2) fun h=>(z p h).2) (l++fw);rw[<- a, <- b];exact Hh fun p=>by simp only[aZ];grind
 have e:=ajP h U z h1 o D F H V j E y;rw[t] at e;rw[hs,s,hs] at e;have g:=s [];rw[kQ,fX] at g;rw[g] at e;rw[<- e,ny]
theorem ajQ (h:fW S n L (cM d φ)) (y:S.length=n) (q:(d.map (·.1)).Nodup) (g:∀p∈d,p.2<sz S p.1/\p.1<n) (A:∀v,v∈d.map (·.1) ->L.getD v []=[]) {fz fw:List (Nat×Nat)} (U:(fz.map (·.1)).Nodup) (z:∀p∈fz,p.2<sz S p.1/\p.1<n)
  (K:∀p∈d++fw,p.1<n/\p.2<sz S p.1) (M:∀p∈fy,p.1<n) (O:((d++fw).map (·.1)).Nodup) (V:∀p∈fy,¬p.1∈(d++fw).map (·.1)) (j:∀p∈fz,¬p.1∈(d++fw).map (·.1)) (E:∀p∈fy,¬p.1∈fz.map (·.1))
  (x:∀v,v< n ->(¬v∈fz.map (·.1)∨dL L (fun u=>u∈fw.map (·.1)) v) ->L2.getD v []=L.getD v [])
  (J:¬qX L2 n (fun v=>v∈fz.map (·.1)) (fun v=>v∈fy.map (·.1)) (fun v=>v∈(d++fw).map (·.1))):
  bV S n (cM d φ) (fy++fw)*bV S n (cM (d++fz) φ) fw=bV S n (cM (d++fz) φ) (fy++fw)*bV S n (cM d φ) fw:=by
 have w:∀v,v∈d.map (·.1) ->¬v∈fz.map (·.1):=fun v i I=>by
  obtain⟨p,c,rfl⟩:=aH.1 I;exact j p c (by rw[eh];exact aZ.2 (.inl i))
 have hs:∀l,bV S n (cM d φ) ((d++fw)++l)=bV S n (cM d φ) (l++fw):=fun l=>by
  rw[Hh (m:=(l++fw)++d) fun p=>by simp only[aZ];grind];exact Ix q (fun p c=>(g p c).2) _
 have H:cM fz (cM d φ)=cM (d++fz) φ:=(agi U).symm
 have s:((d++fz).map (·.1)).Nodup:=by
  rw[eh,lC];exact⟨q,U,fun a f b D e=>w a f (e▸D)⟩
 have t:∀l,bV S n (cM (d++fz) φ) ((d++fw)++l)=bV S n (cM (d++fz) φ) (l++fw):=fun l=>by
  have a:=Ix (S:=S) (n:=n) (φ:=φ) s (fun p c=>(aZ.1 c).elim (fun h=>(g p h).2) fun h=>(z p h).2) ((d++fw)++l);have b:=Ix (S:=S) (n:=n) (φ:=φ) s (fun p c=>(aZ.1 c).elim (fun h=>(g p h).2) fun h=>(z p h).2) (l++fw);rw[<- a, <- b];exact Hh fun p=>by simp only[aZ];grind
 have e:=ajR h y U z (X:=fun v=>v∈d.map (·.1)) A (fy:=fy) (fw:=d++fw) K M O V j E (fun v i F=>by
  refine x v i (F.imp id fun f=>?_);refine f.af fun u ⟨r,P⟩=>?_;rw[eh] at r;exact(aZ.1 r).resolve_left P) J
 rw[H] at e;have k:=hs [];rw[kQ,fX] at k;have o:=t [];rw[kQ,fX] at o;rw[hs,t,k,o] at e;exact e
end
theorem arN (h0:aW V L R=0) {Q:Kh} (q:Up Q V.length) {l:List (Nat×Nat)} (f:eV (ar V) V.length l) (d:∀v∈ag Q,¬v∈l.map (·.1)):xe V L R Q (zF l)=0:=by
 have c:(jV (iL (ar V)) Q).2=0:=by
  have e:(iL (ar V)).length=V.length:=by rw[bL,nE]
  have a:=KX (gC h0).fine (by rw[e];exact q);rw[jV,aw a]
 have b:¬((zF l).any fun p=>zj p.1 Q)=true:=fun h=>by
  obtain⟨p,g,n⟩:=sJ.1 h;obtain⟨r,i,rfl⟩:=aH.1 g;have a:=anO.1 n;refine d r.1 ?_ (aH.2 ⟨r,i,rfl⟩);exact aH.2 ⟨_,a,qE r.1⟩
 rw[xe,aw (acF h0 f).1,aw c,aA b]
theorem ain (h0:aW V L R=0) {Q:Kh} (h:Up Q V.length) (l:List (Nat×Nat)):di (gV V L R Q l).2=qI V L R l:=by
 rw[gV];show di ((List.range (cnt (ar V) (ag Q))).map fun K=>qF (qI V L R (qV (ar V) (ag Q) K++l)))=_;rw[Y4 (fun K=>qI V L R (qV (ar V) (ag Q) K++l)),ant h0 (h.nodup)]
variable {I:Kh}
def sX (L:List Kh) (z w:Kh):Kh:=oF z (eY (cX (aF L) (ag w) L.length))
def jP (L:List Kh) (k:Int) (x z w:Kh):List Kh:=
 if k=1 then bB L x [] else if k=2 then bB (bB L x []) [] z else bB (bB L x []) (sX (bB L x []) z w) []
def ED (L:List Kh) (k:Int) (x y z w:Kh):Bool×Int:=
 if kr L [x,y,z,w]=0 then(if k=1∨k=2∨k=3 then(!lH (jP L k x z w) y z (ei x w),0) else(false,15)) else(false,kr L [x,y,z,w])
theorem aqH {F:Kh} (h:∀l∈L,l.length<=1000):∀l∈bB L I F,l.length<=140737488355328:=fun l a=>by
 have:=SZ h l a;omega
variable {Ls:List Kh} {n0:Nat} {b0 b1:Kd}
theorem apL {b2 b:Kd} {c0 c1 c2 c3:Nat} {x y z v:Kh} (h0:aC U b0 x) (h1:aC U b1 y) (a:aC U b2 z) (c:aC U b v):dC (U.alloc (.cells #[.slice b0 x.length c0,.slice b1 y.length c1,.slice b2 z.length c2,.slice b v.length c3] 27)) (some ⟨U.heap.size,0,none⟩) [x,y,z,v]:=fun k d=>by
 have h:=(au U.heap.size U).alloc (ah _) (.cells #[.slice b0 x.length c0,.slice b1 y.length c1,.slice b2 z.length c2,.slice b v.length c3] 27);have e:=eM U (.cells #[.slice b0 x.length c0,.slice b1 y.length c1,.slice b2 z.length c2,.slice b v.length c3] 27);have l:=(dD.1 e).1;match k,d with
 |0,_=>exact⟨_,0,b0,c0,rfl,l,by rw[bh _ U.heap.size _ _ _ (0,0) e];rfl,h0.aa h⟩
 |1,_=>exact⟨_,0,b1,c1,rfl,l,by rw[bh _ U.heap.size _ _ _ (0,0) e];rfl,h1.aa h⟩
 |2,_=>exact⟨_,0,b2,c2,rfl,l,by rw[bh _ U.heap.size _ _ _ (0,0) e];rfl,a.aa h⟩
 |3,_=>exact⟨_,0,b,c3,rfl,l,by rw[bh _ U.heap.size _ _ _ (0,0) e];rfl,c.aa h⟩
theorem oZ.four {b2 d:Kd} {f i j c0 c1 c2 c3:Nat} (p:Ls.length=4) (h0:b0=none ->c0=0) (h1:b1=none ->c1=0) (l:b2=none ->c2=0) (m:d=none ->c3=0):oZ (U.alloc (.cells #[.slice b0 n0 c0,.slice b1 f c1,.slice b2 i c2,.slice d j c3] 27)) (some ⟨U.heap.size,0,none⟩) Ls:=fun k e g o b n c q h a=>by
 have w:=eM U (.cells #[.slice b0 n0 c0,.slice b1 f c1,.slice b2 i c2,.slice d j c3] 27);cases q;rw[bh _ U.heap.size _ _ _ (0,0) w] at h;rw[p] at e;match k,e with
 |0,_=>cases h;exact h0 a
 |1,_=>cases h;exact h1 a
 |2,_=>cases h;exact l a
 |3,_=>cases h;exact m a
theorem Vi {x y z v:Kh} (h:iP n [x,y,z,v]=true):(dN x n=true/\dN y n=true/\dN z n=true/\dN v n=true)/\(x++v).Nodup/\iP n [y,z,ei x v]=true:=by
 obtain⟨f,j⟩:=K5.1 h;have p:=f x aE;have q:=f y aE;have r:=f z aE;have o:=f v aE;simp only[Ut,List.flatten_nil,kQ,lC,aZ] at j;obtain⟨s,⟨u,⟨w,A,D⟩,i⟩,g⟩:=j;have t:=CJ (j8 p) (j8 o);have m:=(Ex x v).2;refine⟨⟨p,q,r,o⟩,lC.2 ⟨s,A,fun a d b c=>g a d b (.inr (.inr c))⟩,K5.2 ⟨fun l k=>?_,?_⟩⟩
 ·simp only[bT,fR,iV] at k;rcases k with rfl |rfl |rfl
  ·exact q
  ·exact r
  ·exact UN t
 ·simp only[Ut,List.flatten_nil,kQ,lC,aZ];refine⟨u,⟨w,y5 t,fun a d b c e=>?_⟩,fun a d b c e=>?_⟩
  ·subst e;rcases (m a).1 c with c |c
   ·exact g a c a (.inr (.inl d)) rfl
   ·exact D a d a c rfl
  ·subst e;rcases c with c |c
   ·exact i a d a (.inl c) rfl
   ·rcases (m a).1 c with c |c
    ·exact g a c a (.inl d) rfl
    ·exact i a d a (.inr c) rfl
theorem aip {x v:Kh} (a:dN x n=true) (h:dN v n=true):(ei x v).length<=n:=aa1 (CJ (j8 a) (j8 h))
theorem alK {z m:Kh} {v:Int} (h:v∈oF z m):v∈z:=(cQ.1 h).1
theorem alM (z m:Kh):(oF z m).length<=z.length:=od _ _
theorem arq (a p T j bv:Kd) (ca cx cy cz cv:Nat) (L:List Kh) (k:Int) (x y z v:Kh) (w:World) (h:dC w a L) (P:∀l∈L,l.length<=1000) (hx:aC w p x) (hy:aC w T y) (hz:aC w j z) (hv:aC w bv v) (ao:p=none ->cx=0) (oK:T=none ->cy=0) (a7:j=none ->cz=0) (an:bv=none ->cv=0) (tR:x.length<=1000) (CW:y.length<=1000) (a8:z.length<=1000) (eZ:v.length<=1000):
  da 34 #[.slice a L.length ca,.int .i64 k,.slice p x.length cx,.slice T y.length cy,.slice j z.length cz,.slice bv v.length cv] w (du w (.tuple #[.bool (ED L k x y z v).1,.int .i64 (ED L k x y z v).2])):=by
 have zX:=(au w.heap.size w).alloc (ah _) (.cells #[.slice p x.length cx,.slice T y.length cy,.slice j z.length cz,.slice bv v.length cv] 27)
 have aq:=hid (ajE a (some ⟨w.heap.size,0,none⟩) ca 4 L [x,y,z,v] _ (h.aa zX) (fun l ab=>by have:=P l ab;omega) (apL (c0:=cx) (c1:=cy) (c2:=cz) (c3:=cv) hx hy hz hv) (oZ.four rfl ao oK a7 an) (fun l ab=>by
  simp only[bT,fR,iV] at ab;rcases ab with rfl |rfl |rfl |rfl<;>assumption) aE aE)
 have ad:=hid zX;have HX:=hid hx;have HY:=hid hy;have HZ:=hid hz;have HV:=hid hv;have HL:=hid h;have lu:=hid P;have yC:=hid ao;have Am:=hid an;obtain⟨rb,J,r⟩:∃rb J,ED L k x y z v=(rb,J):=⟨_,_,rfl⟩
 have ae:Hid (kr L [x,y,z,v]≠0 ->false=rb/\kr L [x,y,z,v]=J):=fun e=>by
  rw[ED,aA e] at r;exact Prod.mk.inj r
 have ai:Hid (kr L [x,y,z,v]=0 ->(k=1∨k=2∨k=3) ->(!lH (jP L k x z v) y z (ei x v))=rb/\0=J):=fun e e2=>by
  rw[ED,aw e,aw e2] at r;exact Prod.mk.inj r
 have rp:Hid (kr L [x,y,z,v]=0 ->¬(k=1∨k=2∨k=3) ->false=rb/\15=J):=fun e e2=>by
  rw[ED,aw e,aA e2] at r;exact Prod.mk.inj r
 rw[r];show da 34 #[.slice a L.length ca,.int .i64 k,.slice p x.length cx,.slice T y.length cy,.slice j z.length cz,.slice bv v.length cv] w fun e w'=>e=.returned (.tuple #[.bool rb,.int .i64 J])/\db w w';clear r zX h P hx hy hz hv ao oK a7 an;go_enter Tryz.func34,Tryz.ntmps34;go_wp2_with fail
 refine aq.o.af ?_;rintro e w1 ⟨rfl,aQ⟩;have D:=hid (ad.o.trans (aQ.af ad.o.size));clear aQ aq ad;by_cases s:kr L [x,y,z,v]=0
 ·obtain⟨hg,aN⟩:=Vb s;obtain⟨⟨Xj,bk,Ko,Kq⟩,fZ,av⟩:=Vi aN;have E:0<L.length/\L.length<=8:=⟨(lQ (vr hg).1).1,(lQ (vr hg).1).2.1⟩
  have I:Hid (∀(R cap:Nat) (G:List Kh) (U:World),db w U ->dC U (some ⟨R,0,none⟩) G ->G.length=L.length ->aX G=0 ->(∀l∈G,l.length<=1000) ->∀(d:Kd) (m:Nat),aC U d (ei x v) ->da 75 #[.slice (some ⟨R,0,none⟩) L.length cap,.slice T y.length cy,.slice j z.length cz,.slice d (ei x v).length m] U fun e w'=>e=.returned (.bool (!lH G y z (ei x v)))/\db U w'):=fun R cap G U n f Ip Kz Io d m hd=>by
   have:=aip Xj Kq;have:=arw (some ⟨R,0,none⟩) T j d cap cy cz m G y z (ei x v) U f (fun l P=>by have:=Io l P;omega) (HY.o.aa n) (HZ.o.aa n) hd al al al Kz (by rw[Ip];exact av);rwa [Ip] at this
  have A:=hid (fun (U:World) (n:db w U)=>aa4 p bv cx cv x v U (HX.o.aa n) (HV.o.aa n) yC.o Am.o tR eZ fZ);have IK:=hid (aaP a p ca cx L x w1 (HL.o.aa D.o) (HX.o.aa D.o) E.1 E.2 (fun u hu=>GQ (j8 Xj) hu) tR);have gR:=hid (ai.o s);have dr:=hid (rp.o s);have HG:=hid hg;have bf:=hid Ko;have xr:=hid Kq;rw[s];clear s hg aN Xj bk Ko Kq fZ av ae ai rp yC Am HX;go_wp2_with fail
  refine IK.o.af ?_;rintro e V ⟨R,cap,rfl,ax,aR⟩;have S:=hid (D.o.trans (aR.af D.o.size));have Q:=hid ax;have Co:Hid (aX (bB L x [])=0):=vt HG.o x [];have tA:Hid (∀l∈bB L x [],l.length<=1000):=SZ lu.o;have c:Hid ((bB L x []).length=L.length):=nR _ _ _;clear aR ax IK D;by_cases yg:k=1
  focus
   subst yg;have i:=hid (gR.o (.inl rfl));(have f:jP L 1 x z v=bB L x []:=by rw[jP,aw rfl]);rw[f] at i;clear f;have H:=hid (A.o V S.o);go_wp2_with fail
   refine H.o.af ?_;rintro e X ⟨O,M,rfl,F,_,g⟩;have t:=hid (S.o.trans (g.af S.o.size));have yM:=hid (I.o R cap (bB L x []) X t.o (Q.o.aa g) c.o Co.o tA.o O M F);clear g F H I A;generalize lH (bB L x []) y z (ei x v)=q at *
  rotate_left
  focus
   by_cases a1:k=2
   focus
    subst a1;have i:=hid (gR.o (.inr (.inl rfl)));(have f:jP L 2 x z v=bB (bB L x []) [] z:=by rw[jP,aA bd,aw rfl]);rw[f] at i;have kK:=hid (ah5 (some ⟨R,0,none⟩) j cap cz (bB L x []) z V Q.o (HZ.o.aa S.o) (by rw[c.o];exact E.1) (by rw[c.o];exact E.2) tA.o a8);rw[c.o] at kK;have Pq:Hid (aX (bB (bB L x []) [] z)=0):=vt Co.o [] z;have Gj:Hid (∀l∈bB (bB L x []) [] z,l.length<=1000):=SZ tA.o;have aj:Hid ((bB (bB L x []) [] z).length=L.length):=(nR _ _ _).trans c.o;generalize bB (bB L x []) [] z=G2 at *;clear f;go_wp2_with fail
    refine kK.o.af ?_;rintro e w3 ⟨R3,bj,rfl,ay,K⟩;have Z:=hid (S.o.trans (K.af S.o.size));have Y:=hid ay;clear K ay kK;have H:=hid (A.o w3 Z.o);go_wp2_with fail
    refine H.o.af ?_;rintro e X ⟨O,M,rfl,F,_,g⟩;have t:=hid (Z.o.trans (g.af Z.o.size));have yM:=hid (I.o R3 bj G2 X t.o (Y.o.aa g) aj.o Pq.o Gj.o O M F);clear g F H I A;generalize lH G2 y z (ei x v)=q at *
   rotate_left
   focus
    by_cases a6:k=3
    focus
     subst a6;have i:=hid (gR.o (.inr (.inr rfl)));(have f:jP L 3 x z v=bB (bB L x []) (sX (bB L x []) z v) []:=by rw[jP,aA bd,aA bd]);rw[f] at i
     have Pg:Hid (da 78 #[.slice (some ⟨R,0,none⟩) L.length cap,.slice bv v.length cv] V fun e w'=>∃d m,e=.returned (.tuple #[.slice d (eY (cX (aF (bB L x [])) (ag v) (bB L x []).length)).length m,.int .i64 0])/\aC w' d (eY (cX (aF (bB L x [])) (ag v) (bB L x []).length))/\db V w'):=by
      have h1:=YX (some ⟨R,0,none⟩) bv cap cv (bB L x []) v V Q.o (aqH lu.o) (HV.o.aa S.o) al;rw[c.o] at h1;refine h1.af fun e w' h=>?_;rcases h.1 with ⟨k,_⟩ |⟨_,k,_⟩ |⟨_,_,d,m,k,k2⟩
      ·exact absurd Co.o k
      ·rw[c.o,xr.o] at k;cases k
      ·exact⟨d,m,k,k2,h.2⟩
     have O8:Hid ((eY (cX (aF (bB L x [])) (ag v) (bB L x []).length)).length<=8):=by
      show _<=_;have:=kZ (cX (aF (bB L x [])) (ag v) (bB L x []).length) 8;rw[eY,bL];exact this
     have jg:Hid (sX (bB L x []) z v=oF z (eY (cX (aF (bB L x [])) (ag v) (bB L x []).length))):=rfl;have TY:Hid (∀u∈sX (bB L x []) z v,0<=u/\u<(L.length:Int)):=fun u hu=>GQ (j8 bf.o) (alK hu);have TX:Hid ((sX (bB L x []) z v).length<=1000):=aL (alM _ _) a8
     have OE:Hid (∀(b:Kd) (cb:Nat) (U:World),db w U ->dC U (some ⟨R,0,none⟩) (bB L x []) ->aC U b (sX (bB L x []) z v) ->da 77 #[.slice (some ⟨R,0,none⟩) L.length cap,.slice b (sX (bB L x []) z v).length cb] U fun e w'=>∃R cap,e=.returned (.slice (some ⟨R,0,none⟩) L.length cap)/\dC w' (some ⟨R,0,none⟩) (bB (bB L x []) (sX (bB L x []) z v) [])/\db U w'):=fun b cb U n hL hb=>by
      have:=aaP (some ⟨R,0,none⟩) b cap cb (bB L x []) (sX (bB L x []) z v) U hL hb (by rw[c.o];exact E.1) (by rw[c.o];exact E.2) (by rw[c.o];exact TY.o) TX.o;rwa [c.o] at this
     have Pq:Hid (aX (bB (bB L x []) (sX (bB L x []) z v) [])=0):=vt Co.o _ _;have Gj:Hid (∀l∈bB (bB L x []) (sX (bB L x []) z v) [],l.length<=1000):=SZ tA.o;have aj:Hid ((bB (bB L x []) (sX (bB L x []) z v) []).length=L.length):=(nR _ _ _).trans c.o;have vQ:=hid (fun (d:Kd) (m:Nat) (U:World) (n:db w U) (hd:aC U d (eY (cX (aF (bB L x [])) (ag v) (bB L x []).length)))=>VN j d cz m z (eY (cX (aF (bB L x [])) (ag v) (bB L x []).length)) U (HZ.o.aa n) hd al (by have:=O8.o;omega));rw[<- jg.o] at vQ;generalize bB (bB L x []) (sX (bB L x []) z v) []=G3 at *;generalize eY (cX (aF (bB L x [])) (ag v) (bB L x []).length)=ml at *;generalize sX (bB L x []) z v=fl at *;clear f jg TY TX O8;go_wp2_with fail
     refine Pg.o.af ?_;rintro e w3 ⟨d3,c3,rfl,zD,K⟩;have Z:=hid (S.o.trans (K.af S.o.size));have F8:=hid (vQ.o d3 c3 w3 Z.o zD);have Y:=hid (Q.o.aa K);clear K zD Pg vQ Q;go_wp2_with fail
     refine F8.o.af ?_;rintro e w4 ⟨d4,c4,rfl,C9,_,ak⟩;have fV:=hid (Z.o.trans (ak.af Z.o.size));have Dx:=hid (OE.o d4 c4 w4 fV.o (Y.o.aa ak) C9);clear ak C9 F8 OE Y;go_wp2_with fail
     refine Dx.o.af ?_;rintro e w5 ⟨R5,bg,rfl,NV,aT⟩;have fh:=hid (fV.o.trans (aT.af fV.o.size));have bb:=hid NV;clear aT NV Dx;have H:=hid (A.o w5 fh.o);go_wp2_with fail
     refine H.o.af ?_;rintro e X ⟨O,M,rfl,F,_,g⟩;have t:=hid (fh.o.trans (g.af fh.o.size));have yM:=hid (I.o R5 bg G3 X t.o (bb.o.aa g) aj.o Pq.o Gj.o O M F);clear g F H I A;generalize lH G3 y z (ei x v)=q at *
    rotate_left
    ·have i:=hid (dr.o (fun e=>e.elim yg fun e=>e.elim a1 a6));go_wp2;go_ret2;exact⟨by rw[<- i.o.1, <- i.o.2];rfl,S.o⟩
  all_goals
   go_wp2_with fail
   refine yM.o.af ?_;rintro e w9 ⟨rfl,zN⟩;have nV:=hid (t.o.trans (zN.af t.o.size));clear zN;go_wp2;go_ret2;exact⟨by rw[<- i.o.1, <- i.o.2];rfl,nV.o⟩
 ·have HE:=hid (ae.o s);have bm:(kr L [x,y,z,v]==0)=false:=by simpa using s
  clear s ae ai rp;generalize kr L [x,y,z,v]=st at *;go_wp2;go_ret2;exact⟨by rw[<- HE.o.1, <- HE.o.2];rfl,D.o⟩
variable {fx:List (Nat×Nat)} {u v:Nat}
section
variable {V : List Vr} {L : List Kh} {R : List (List Fr)} {d : List (Nat × Nat)}
def dY (V:List Vr) (L:List Kh) (R:List (List Fr)) (d l:List (Nat×Nat)):Rat:=bV (ar V) V.length (cM d (tO V L R)) l
theorem aee (h0:aW V L R=0) (h:eV (ar V) V.length d) (l:List (Nat×Nat)):qI V (dw d L) (eJ V d (cK R)) l=dY V L R d l:=by
 rw[ano (by rw[adM];exact h0) h]
 have e:tO V L (cK R)=tO V L R:=by
  funext v g
  exact anl v g
 rw[e,dY]
def dP (V:List Vr) (L:List Kh) (R:List (List Fr)) (d:List (Nat×Nat)) (Y:Kh) (l:List (Nat×Nat)):List Fr:=
 (List.range (cnt (ar V) (ag Y))).map fun K=>qF (dY V L R d (qV (ar V) (ag Y) K++l)/dY V L R d l)
theorem aqe (h0:aW V L R=0) (h:eV (ar V) V.length d) (a:Up Y V.length) {l:List (Nat×Nat)} (b:eV (ar V) V.length l) (D:∀v∈ag Y,¬v∈l.map (·.1)):
  kX V (dw d L) (eJ V d (cK R)) Y (zF l)=(if dY V L R d l=0 then 3 else 0)/\(dY V L R d l≠0 ->oB V (dw d L) (eJ V d (cK R)) Y (zF l)=(Y,dP V L R d Y l)):=by
 have n:=Od (R:=cK R) (by rw[adM];exact h0) h;have s:=arN n a b D;have e:di (gV V (dw d L) (eJ V d (cK R)) Y l).2=dY V L R d l:=by rw[ain n a,aee h0 h]
 have E:kX V (dw d L) (eJ V d (cK R)) Y (zF l)=if dY V L R d l=0 then 3 else 0:=by rw[kX,aw s,He,e]
 refine⟨E,fun hs=>?_⟩;rw[oB,E,aA hs,aw rfl,He,xW,e,gV,dP];congr 1
 rw[yT];refine wu fun K _=>?_;show qF (ba (qF _)*(1/_))=_;rw[nP,aee h0 h,tH 1,wj, <- tH]
theorem ap9 {a b c e:Rat} (h:a*b=c*e) (d:b≠0) (f:e≠0):a/e=c/b:=by
 rw[tH,tH];have g:b*b⁻¹=1:=Rat.mul_inv_cancel b d;have i:e*e⁻¹=1:=Rat.mul_inv_cancel e f;grind
theorem Zc {d a l1 l2:List (Nat×Nat)} (h1:dY V L R d l1≠0) (b:dY V L R a l2≠0)
  (h:∀K,K<cnt (ar V) (ag Y) ->dY V L R d (qV (ar V) (ag Y) K++l1)*dY V L R a l2=dY V L R a (qV (ar V) (ag Y) K++l2)*dY V L R d l1):dP V L R d Y l1=dP V L R a Y l2:=by
 rw[dP,dP];refine wu fun K c=>?_;rw[ap9 (h K (bM.1 c)) b h1]
structure qa (V:List Vr) (L:List Kh) (fx fz fw:List (Nat×Nat)) (Y:Kh):Prop where
 x:eV (ar V) V.length fx
 z:eV (ar V) V.length fz
 w:eV (ar V) V.length fw
 y:Up Y V.length
 xz:∀p∈fz,¬p.1∈fx.map (·.1)
 xw:∀p∈fw,¬p.1∈fx.map (·.1)
 zw:∀p∈fz,¬p.1∈fw.map (·.1)
 yx:∀v∈ag Y,¬v∈fx.map (·.1)
 yz:∀v∈ag Y,¬v∈fz.map (·.1)
 yw:∀v∈ag Y,¬v∈fw.map (·.1)
theorem qa.keyY {fz fw:List (Nat×Nat)} (_r:qa V L fx fz fw Y) {K:Nat} {p:Nat×Nat} (h:p∈qV (ar V) (ag Y) K):p.1∈ag Y:=by
 rw[<- G4 (ar V) (ag Y) K];exact aH.2 ⟨p,h,rfl⟩
theorem qa.xwK {fz fw:List (Nat×Nat)} (r:qa V L fx fz fw Y):((fx++fw).map (·.1)).Nodup:=by
 rw[eh,lC];refine⟨r.x.nd,r.w.nd,fun a h b c e=>?_⟩;subst e;obtain⟨p,d,rfl⟩:=aH.1 c;exact r.xw p d h
theorem qa.no {fw:List (Nat×Nat)} (h1:¬v∈fx.map (·.1)) (a:¬v∈fw.map (·.1)):¬v∈(fx++fw).map (·.1):=by
 rw[eh,aZ];exact fun h=>h.elim h1 a
theorem aqf (h0:aW V L R=0) {fz fw:List (Nat×Nat)} (r:qa V L fx fz fw Y)
  (o:¬qX (dw fx L) V.length (fun v=>v∈ag Y) (fun v=>v∈fz.map (·.1)) (fun v=>v∈(fx++fw).map (·.1))) (h1:dY V L R fx fw≠0) (b:dY V L R fx (fz++fw)≠0):
  dP V L R fx Y fw=dP V L R fx Y (fz++fw):=by
 refine Zc h1 b fun K c=>?_
 have e:=ajT (Zd h0 r.x) r.x.nd (fun p a=>⟨r.x.val p a,r.x.lt p a⟩) (fy:=qV (ar V) (ag Y) K) (fz:=fz) (fw:=fw)
  (fun p a=>(aZ.1 a).elim (fun h=>⟨r.x.lt p h,r.x.val p h⟩) fun h=>⟨r.w.lt p h,r.w.val p h⟩) (fun p a=>uM r.y _ (r.keyY a)) r.z.lt r.xwK
  (fun p a=>qa.no (r.yx _ (r.keyY a)) (r.yw _ (r.keyY a))) (fun p a=>qa.no (r.xz p a) (r.zw p a)) (by simpa only[G4] using o)
 exact e.symm
theorem aqc (h0:aW V L R=0) {fz fw:List (Nat×Nat)} (r:qa V L fx fz fw Y) {L2:List Kh} (d:∀v u,v<V.length ->(u∈ag (L2.getD v [])↔u∈ag ((dw fx L).getD v [])/\¬u∈fz.map (·.1)))
  (o:¬qX L2 V.length (fun v=>v∈ag Y) (fun v=>v∈fz.map (·.1)) (fun v=>v∈(fx++fw).map (·.1))) (h1:dY V L R fx (fz++fw)≠0) (e:dY V L R (fx++fz) fw≠0):
  dP V L R fx Y (fz++fw)=dP V L R (fx++fz) Y fw:=by
 refine Zc h1 e fun K f=>?_
 exact ajO (Zd h0 r.x) r.x.nd (fun p a=>⟨r.x.val p a,r.x.lt p a⟩) (fy:=qV (ar V) (ag Y) K) (fz:=fz) (fw:=fw) r.z.nd (fun p a=>⟨r.z.val p a,r.z.lt p a⟩)
  (fun v c u b n=>(d v u c).2 ⟨b,n⟩) (fun v c u b=>(d v u c).1 b)
  (fun p a=>(aZ.1 a).elim (fun h=>⟨r.x.lt p h,r.x.val p h⟩) fun h=>⟨r.w.lt p h,r.w.val p h⟩) (fun p a=>uM r.y _ (r.keyY a)) r.xwK
  (fun p a=>qa.no (r.yx _ (r.keyY a)) (r.yw _ (r.keyY a))) (fun p a=>qa.no (r.xz p a) (r.zw p a)) (fun p a=>r.yz _ (r.keyY a)) (by simpa only[G4] using o)
theorem aqd (h0:aW V L R=0) {fz fw:List (Nat×Nat)} (r:qa V L fx fz fw Y) {L2:List Kh} (d:∀v,v<V.length ->(¬v∈fz.map (·.1)∨dL (dw fx L) (fun u=>u∈fw.map (·.1)) v) ->L2.getD v []=(dw fx L).getD v [])
  (o:¬qX L2 V.length (fun v=>v∈fz.map (·.1)) (fun v=>v∈ag Y) (fun v=>v∈(fx++fw).map (·.1))) (h1:dY V L R fx fw≠0) (b:dY V L R (fx++fz) fw≠0):
  dP V L R fx Y fw=dP V L R (fx++fz) Y fw:=by
 refine Zc h1 b fun K e=>?_
 exact ajQ (Zd h0 r.x) (nE V) r.x.nd (fun p a=>⟨r.x.val p a,r.x.lt p a⟩) (fun v c=>by rw[FM,aw c]) (fy:=qV (ar V) (ag Y) K) (fz:=fz) (fw:=fw) r.z.nd (fun p a=>⟨r.z.val p a,r.z.lt p a⟩)
  (fun p a=>(aZ.1 a).elim (fun h=>⟨r.x.lt p h,r.x.val p h⟩) fun h=>⟨r.w.lt p h,r.w.val p h⟩) (fun p a=>uM r.y _ (r.keyY a)) r.xwK
  (fun p a=>qa.no (r.yx _ (r.keyY a)) (r.yw _ (r.keyY a))) (fun p a=>qa.no (r.xz p a) (r.zw p a)) (fun p a=>r.yz _ (r.keyY a)) d (by simpa only[G4] using o)
def kL (f:List (Nat×Nat)):Kh:=f.map fun p=>(p.1:Int)
theorem Rm (f:List (Nat×Nat)):ag (kL f)=f.map (·.1):=by
 rw[ag,kL,yT];rfl
theorem Wu {f:List (Nat×Nat)}:(u:Int)∈kL f↔u∈f.map (·.1):=by
 rw[kL,aH,aH];exact⟨fun ⟨p,h,e⟩=>⟨p,h,al⟩,fun ⟨p,h,e⟩=>⟨p,h,al⟩⟩
theorem SX (fx:List (Nat×Nat)):dw fx L=bB L (kL fx) []:=aqk
theorem ajS (h0:aW V L R=0) (b:L.length<=8) {fz fw:List (Nat×Nat)} (_r:qa V L fx fz fw Y) {k:Int} (hs:kr L [kL fx,Y,kL fz,kL fw]=0) (o:lH (jP L k (kL fx) (kL fz) (kL fw)) Y (kL fz) (ei (kL fx) (kL fw))=false):
  ¬qX (jP L k (kL fx) (kL fz) (kL fw)) V.length (fun v=>v∈ag Y) (fun v=>v∈fz.map (·.1)) (fun v=>v∈(fx++fw).map (·.1)):=by
 obtain⟨g,p⟩:=Vb hs;obtain⟨_,_,h⟩:=Vi p;have n:L.length=V.length:=(gC h0).len
 have c:(jP L k (kL fx) (kL fz) (kL fw)).length=L.length:=by
  rw[jP];split
  ·exact nR _ _ _
  ·split
   ·rw[nR,nR]
   ·rw[nR,nR]
 have K:aX (jP L k (kL fx) (kL fz) (kL fw))=0:=by
  rw[jP];split
  ·exact vt g _ _
  ·split
   ·exact vt (vt g _ _) _ _
   ·exact vt (vt g _ _) _ _
 intro w
 have:=(adi K (by rw[c];exact b) (x:=Y) (y:=kL fz) (z:=ei (kL fx) (kL fw)) (by rw[c];exact h)).2 (by
  rw[c,n];have e:(fun v=>v∈ag (kL fz))=fun v=>v∈fz.map (·.1):=by funext v;rw[Rm]
  have a:(fun v=>v∈ag (ei (kL fx) (kL fw)))=fun v=>v∈(fx++fw).map (·.1):=by
   funext v
   rw[eq_iff_iff,Mh,Rm,Rm,eh,aZ]
  rw[e,a];exact w)
 rw[o] at this;cases this
theorem Zi {G:List Kh} {F:Kh} (h:v<G.length):(bB G I F).getD v []=rU G I F v:=by
 rw[getD_at (by rw[nR];exact h),KU]
theorem ajN (h0:aW V L R=0) (s:L.length<=8) {fz fw:List (Nat×Nat)} (r:qa V L fx fz fw Y) {k:Int} (hs:kr L [kL fx,Y,kL fz,kL fw]=0) (D:lH (jP L k (kL fx) (kL fz) (kL fw)) Y (kL fz) (ei (kL fx) (kL fw))=false):
  (k=1 ->dY V L R fx fw≠0 ->dY V L R fx (fz++fw)≠0 ->dP V L R fx Y fw=dP V L R fx Y (fz++fw))/\
  (k=2 ->dY V L R fx (fz++fw)≠0 ->dY V L R (fx++fz) fw≠0 ->dP V L R fx Y (fz++fw)=dP V L R (fx++fz) Y fw)/\
  (k=3 ->dY V L R fx fw≠0 ->dY V L R (fx++fz) fw≠0 ->dP V L R fx Y fw=dP V L R (fx++fz) Y fw):=by
 have o:=ajS h0 s r hs D;obtain⟨A,O⟩:=Vb hs;have n:L.length=V.length:=(gC h0).len;refine⟨fun e b c=>?_,fun e b c=>?_,fun e b c=>?_⟩
 ·subst e;rw[jP,aw rfl, <- SX] at o;exact aqf h0 r o b c
 ·subst e;rw[jP,aA bd,aw rfl, <- SX] at o;refine aqc h0 r (fun v u h=>?_) o b c;rw[Zi (by rw[rT,n];exact h),agv];rw[ag,aH];constructor
  ·rintro⟨x,j,rfl⟩;obtain⟨a,g⟩:=cQ.1 j
   have l:0<=x:=by
    have:=(jM.1 ((gC (Od h0 r.x)).up v (by rw[rT,n];exact h))).1 x (by rw[getD_at (by rw[rT,n];exact h)] at a;exact a);omega
   refine⟨aH.2 ⟨x,a,rfl⟩,fun m=>?_⟩;have q:=Wu.2 m;rw[Uw l] at q;exact absurd q (by simpa using g)
  ·rintro⟨f,K⟩;obtain⟨x,a,rfl⟩:=aH.1 f
   have l:0<=x:=by
    have:=(jM.1 ((gC (Od h0 r.x)).up v (by rw[rT,n];exact h))).1 x (by rw[getD_at (by rw[rT,n];exact h)] at a;exact a);omega
   refine⟨x,cQ.2 ⟨a,?_⟩,rfl⟩;rw[eG];intro m;(have:((x.toNat:Nat):Int)∈kL fz:=by rw[Uw l];exact m);exact K (Wu.1 this)
 ·subst e;rw[jP,aA bd,aA bd, <- SX] at o;have I:aX (dw fx L)=0:=by rw[SX];exact vt A _ _
  have M:∀v∈fw.map (·.1),v<(dw fx L).length:=fun v h=>by
   obtain⟨p,i,rfl⟩:=aH.1 h;rw[rT,n];exact r.w.lt p i
  refine aqd h0 r (L2:=bB (dw fx L) (sX (dw fx L) (kL fz) (kL fw)) []) (fun v h d=>?_) (fun E=>o ?_) b c
  ·rw[Zi (by rw[rT,n];exact h),Oh,aA];intro m;rw[sX,oF,cQ] at m;obtain⟨J,t⟩:=m;rcases d with d |d
   ·exact d (Wu.1 J)
   ·have y:v∈cX (aF (dw fx L)) (ag (kL fw)) (dw fx L).length:=by
     rw[Rm];exact(ZK I (by rw[rT];exact s) M v).1 d
    (have F:v<8:=al)
    have H:(eY (cX (aF (dw fx L)) (ag (kL fw)) (dw fx L).length)).contains (v:Int)=true:=by
     rw[Wd F];exact bX y
    exact absurd (AQ.1 H) (by simpa using t)
  ·refine qX.sym (fun v h=>?_) (fun u f v h=>?_) (fun v h=>?_) E
   ·obtain⟨p,i,rfl⟩:=aH.1 h;exact r.z.lt p i
   ·rw[Zi (by rw[rT,n];exact f)] at h;obtain⟨x,j,rfl⟩:=aH.1 h;have g:=(Zj _ _ _ _).subset j;rw[getD_at (by rw[rT,n];exact f)] at g;have:=(jM.1 ((gC (Od h0 r.x)).up u (by rw[rT,n];exact f))).1 x g;omega
   ·exact qa.no (r.yx v h) (r.yw v h)
end
variable {ops:Array Oper} {Q:Exit ->Act ->World ->Prop} {rest:List Oper} {B':Nat} {w':World}
def uj (F:List (Int×Int)):List (Value×Value):=F.map fun p=>(.int .i64 p.1,.int .i64 p.2)
theorem KP (F:List (Int×Int)):(uj F).length=F.length:=cH _
theorem af5 (h:k<F.length):(uj F)[k]'(by rw[KP];exact h)=(.int .i64 F[k].1,.int .i64 F[k].2):=mn _
def kj (w:World) (B:Nat) (v:Value) (F:List (Int×Int)):Prop:=w.ownsRow B 30 2 v F.length (fH (uj F))
theorem kj.nil (w:World) (B:Nat):kj w B (.slice none 0 0) []:=⟨rfl,.inl ⟨rfl,rfl⟩⟩
theorem kj.aa {B:Nat} {v:Value} (h:kj w B v F) (b:db w w'):kj w' B v F:=JY h (Du.aa b)
theorem kj.facts {B:Nat} {v:Value} (h:kj w B v F):∃d c,v=.slice d F.length c/\ju w d F/\F.length<=c/\(d=none ->c=0):=by
 rcases h.2 with ⟨b,i⟩ |⟨g,cap,y,b,i,l,o,t,x,p⟩
 ·exact⟨none,0,by rw[b,i],(fun k a=>absurd a al),al,fun _=>rfl⟩
 ·refine⟨_,cap,b,fun k a=>?_,o,fun e=>by cases e⟩;have r:k<(uj F).length:=by rw[KP];exact a
  obtain⟨q,n⟩:=Qs (uj F) k r;have s:=Mi (uj F)
  have m:∀j u,(fH (uj F))[j]? =some u ->w.cell? ⟨g,j,none⟩=some u:=fun j u f=>by
   rw[bh w g j _ _ (0,0) l];have L:=(nk.1 f).1;rw[<- p,wy,aw (by rw[KP] at s;omega),AV] at f;exact f
  rw[af5 a] at q n;exact⟨g,0,rfl,(dD.1 l).1,by rw[bH];exact m _ _ q,by rw[bH];exact m _ _ n⟩
theorem kj.own {B:Nat} {v:Value} (h:kj w B v F):∀k,v.ownBlock=some k ->B<=k:=fun k a=>by
 rcases h.2 with ⟨b,c⟩ |⟨g,cap,r,b,c,_⟩
 ·rw[b] at a;cases a
 ·rw[b] at a;cases a;exact c
theorem kj.alloc {B:Nat} {v:Value} (h:kj w B v F) (o:Obj):kj (w.alloc o) B v F:=h.aa ((au w.heap.size w).alloc (ah _) o)
theorem Tryz.infoFact:(Tryz.prog.info? 30).map (fun i=>(i.zero,i.size,i.bytes))=some (some (.agg #[.int .i64 0,.int .i64 0]),2,16):=ao
theorem apZ {o:Nat} (h:ju w (some ⟨g,o,none⟩) F):∀j u,(fH (uj F))[j]? =some u ->w.cell? ((⟨g,o,none⟩:Addr).add j)=some u:=fun j u a=>by
 have L:=(nk.1 a).1;rw[Mi,KP] at L;have k:j/2<F.length:=al
 obtain⟨g',l,e,_,c,d⟩:=h (j/2) k;cases e;obtain⟨q,b⟩:=Qs (uj F) (j/2) (by rw[KP];exact k);rw[af5 k] at q b
 have i:((⟨g,o,none⟩:Addr).add j)=⟨g,o+j,none⟩:=by
  rw[Addr.add];by_cases f:j=0
  ·subst f;simp
  ·simp[f]
 rw[i];rcases Nat.mod_two_eq_zero_or_one j with m |m
 ·have e:j/2*2=j:=al
  rw[e] at q c;rw[q] at a;rw[c,a]
 ·have e:j/2*2+1=j:=al
  rw[e] at b;rw[b] at a;rw[show o+j/2*2+1=o+j by omega] at d;rw[d,a]
theorem apY (F:List (Int×Int)):∀u∈fH (uj F),u.oneCell'=true:=by
 induction F with
 |nil=>intro u a;cases a
 |cons p F ih=>
  intro u a;have t:u=.int .i64 p.1∨u=.int .i64 p.2∨u∈fH (uj F):=by simpa [uj,fH] using a
  rcases t with rfl |rfl |h
  ·rfl
  ·rfl
  ·exact ih u h
theorem Jz {o:Oper} {a:Act} (m:o.guard=none) (s x:Operand)
  (d:o.op=.call {callee:=.builtin .append,args:= #[s,x],argTypes:= #[28,28]}) (base:Nat) (v:Value) (xs la:List (Int×Int)) (hs:a.eval s=v) (n:kj w base v xs) (p:Kd) (ca:Nat) (f:a.eval x=.slice p la.length ca) (i:ju w p la) (D:p=none ->ca=0) (K:xs.length+la.length<=100000) (I:base<=w.heap.size)
  (h:∀v' w',kj w' base v' (xs++la) ->w.grownBy w' v.ownBlock ->wpList Tryz.prog ops Q rest (a.put o.dst v') w'):wpList Tryz.prog ops Q (o::rest) a w:=by
 obtain⟨k,c,E,F,H⟩:=eA Tryz.infoFact;cases p with
 |none=>
  have A:la=[]:=by
   cases la with
   |nil=>rfl
   |cons x l=>obtain⟨g,o,e,_⟩:=i 0 aE;cases e
  subst A;have r:=D rfl;subst r;have b:=h v w (by rw[kQ];exact n) ⟨rfl,rfl,rfl,ah _,fun _ _ _=>rfl⟩;exact wpList_append_own_none m s x 28 d base 30 k 2 Tryz.underlying28 c v xs.length _ hs n f b
 |some ad=>
  have y:∀j u,(fH (uj la))[j]? =some u ->w.cell? (ad.add j)=some u:=by
   cases la with
   |nil=>intro j u z;cases z
   |cons q l=>
    obtain⟨g,J,e,_⟩:=i 0 aE;cases e;exact apZ i
  refine AE _ m s x 28 d base 30 k (.agg #[.int .i64 0,.int .i64 0]) 2 16 Tryz.underlying28 c E F H rfl bd v xs.length _ hs n ad la.length ca (fH (uj la)) f (by rw[Mi,KP]) y (apY la) (by unfold maxLen;omega) al I ?_;intro v' w' b t _;refine h v' w' ?_ t;rw[kj,bU,uj,eh,Mj];exact b
theorem kj.start (W:World):kj (W.alloc (.cells #[] 30)) W.heap.size (.slice (some ⟨W.heap.size,0,none⟩) 0 0) []:=
 ⟨rfl,.inr ⟨W.heap.size,0, #[],rfl,ah _,eM W _,ah _,by unfold maxLen;omega,rfl,rfl⟩⟩
theorem kj.lower {B:Nat} {v:Value} (h:kj w B v F) (d:B'<=B):kj w B' v F:=by
 refine⟨h.1,?_⟩;rcases h.2 with a |⟨g,cap,r,a,b,c⟩
 ·exact .inl a
 ·exact .inr ⟨g,cap,r,a,aL d b,c⟩
variable {S:Ki}
structure FF (S:Ki) (U:Kh) (i:Nat) (l:List (Nat×Nat)):Prop where
 vars:l.map (·.1)=ag (U.take i)
 val:∀p∈l,p.2<sz S p.1
theorem FF.start (S:Ki) (U:Kh):FF S U 0 []:=⟨rfl,fun p h=>by cases h⟩
theorem FF.len {U:Kh} {l:List (Nat×Nat)} (h:FF S U i l) (a:i<=U.length):l.length=i:=by
 have:=ed List.length h.vars;rw[cH,fT,eW] at this;omega
theorem FF.snoc {U:Kh} {l:List (Nat×Nat)} (h:FF S U i l) (b:i<U.length) {x:Nat} (c:x<sz S U[i].toNat):FF S U (i+1) (l++[(U[i].toNat,x)]):=by
 refine⟨?_,fun p a=>?_⟩
 ·rw[eh,h.vars,im b,ag,ag,eh];rfl
 ·rcases aZ.1 a with a |a
  ·exact h.val p a
  ·rw[dS.1 a];exact c
theorem aaB (l:List (Nat×Nat)) (p:Nat×Nat):zF (l++[p])=zF l++[((p.1:Int),(p.2:Int))]:=by rw[zF,zF,eh];rfl
theorem adK (w:World) (u v:Int):ju (w.alloc (.cells #[.int .i64 u,.int .i64 v] 30)) (some ⟨w.heap.size,0,none⟩) [(u,v)]:=fun k a=>by
 obtain rfl:k=0:=by simp at a;omega
 have h:=eM w (.cells #[.int .i64 u,.int .i64 v] 30);exact⟨w.heap.size,0,rfl,aE,(bh _ w.heap.size _ _ _ (0,0) h).trans rfl,(bh _ w.heap.size _ _ _ (0,0) h).trans rfl⟩
theorem akw (a b c d r:Kd) (ca cb cc cd cr:Nat) (V:List Vr) (L:List Kh) (R:List (List Fr)) (U K:Kh) (w:World) (h:iT w a b c V L R) (hd:aC w d U) (hr:aC w r K) (hU:Up U V.length) (ay:U.length<=1000) (hK:∀x∈K, -9223372036854775808<=x/\x<=9223372036854775807) (av:K.length<=140737488355328) (hV:∀v (h:v<V.length),1<=V[v].2.length/\V[v].2.length<=1000):
  da 24 #[.agg #[.slice a V.length ca,.slice b L.length cb,.slice c R.length cc],.slice d U.length cd,.slice r K.length cr] w fun e w'=>∃x l,e=.returned x/\kj w' w.heap.size x (zF l)/\l.map (·.1)=ag U/\(∀p∈l,p.2<sz (ar V) p.1)/\db w w':=by
 have bD:=bW.at (w:=w) rfl (.slice a V.length ca) (.slice b L.length cb) (.slice c R.length cc);have an:db w (w.alloc (NC (.slice a V.length ca) (.slice b L.length cb) (.slice c R.length cc))):=(au _ w).alloc (ah _) _;have HN:=hid h;have HD:=hid hd;have HR:=hid hr;have HU:=hid hU;have HK:=hid hK;have HV:=hid hV;have HE:Hid (∀l,FF (ar V) U U.length l ->l.map (·.1)=ag U):=fun l hl=>by have:=hl.vars;rwa [iY] at this
 obtain⟨f,y⟩:∃n,K.length=n:=⟨_,rfl⟩;rw[y];have aq:=hid y;rw[y] at av;clear h hd hr hU hK hV y;go_enter Tryz.func24,Tryz.ntmps24;go_wp2_with fail
 have rj:=hid bD;have rq:=hid an;clear bD an;generalize w.alloc (NC (.slice a V.length ca) (.slice b L.length cb) (.slice c R.length cc))=W0 at *;go_loopw [7,8] (fun xv iv wr=>∃(i:Nat) (l:List (Nat×Nat)),i<=U.length/\iv=.int .i64 i/\Hid (FF (ar V) U i l)/\Hid (kj wr (w.heap.size+1) xv (zF l))/\Hid (bW wr w.heap.size (.slice a V.length ca) (.slice b L.length cb) (.slice c R.length cc))/\Hid (db w wr)) (fun _ iv _=>U.length - (intOf iv).toNat)
 case atStart=>exact⟨0,[],aU _,rfl,FF.start _ _,kj.nil _ _,rj,rq⟩
 case round=>
  obtain⟨i,l,hi,rfl,F,O,X,H⟩:=hrel;clear rj rq;by_cases ad:i<U.length
  ·obtain⟨g,ao,rfl,hg,D⟩:=(HD.o.aa H.o) i ad;have aT:=HU.o.each i ad;obtain⟨v,M⟩:∃v:Nat,U[i]=(v:Int):=⟨U[i].toNat,al⟩;(have Z:v<V.length:=al);obtain⟨I,Q,bb,ax,rfl,BC,n0,n1,n2,n3⟩:=(HN.o.vars.aa H.o) v Z;have ae:=HV.o v Z;have ak:=GW Z
   have Ap:Hid (∀x,x<V[v].2.length ->FF (ar V) U (i+1) (l++[(v,x)])):=fun x hx=>by
    have:=F.o.snoc ad (x:=x) (by rw[M,qE,ak];exact hx);rwa [M,qE] at this
   rw[M] at D;have dQ:=F.o.len hi;clear ak aT n2 n3 n0;generalize V[v].2.length=m at *;by_cases NW:f=0
   ·subst NW;have A:=hid O.o.own;have ab:=hid (O.o.alloc (.cells #[.int .i64 (v:Nat),.int .i64 (0:Nat)] 30));have q:=hid (H.o.alloc H.o.size (.cells #[.int .i64 (v:Nat),.int .i64 (0:Nat)] 30));have Y:=hid (adK wr (v:Nat) (0:Nat));have t:=hid (X.o.aa ((au wr.heap.size wr).alloc (ah _) (.cells #[.int .i64 (v:Nat),.int .i64 (0:Nat)] 30)) X.o.lt);have s:Hid (w.heap.size+1<=(wr.alloc (.cells #[.int .i64 (v:Nat),.int .i64 (0:Nat)] 30)).heap.size):=hid (t.o.lt);go_wp2_with (at_builtin;refine Jz rfl _ _ rfl (w.heap.size+1) _ (zF l) [((v:Int),(0:Nat))] rfl ab.o (some ⟨wr.heap.size,0,none⟩) 1 rfl Y.o (fun e=>by cases e) (by simp[yZ];omega) s.o ?_;intro v' w2 u o)
    have S:=hid (q.o.grown o q.o.size fun k J=>Nat.le_of_succ_le (A.o k J));have T:Hid (bW w2 w.heap.size (.slice (some ⟨I,Q,none⟩) V.length ca) (.slice b L.length cb) (.slice c R.length cc)):=(o.block w.heap.size s.o (fun e=>by have:=A.o _ e.symm;omega)).trans t.o;have E:=hid u;clear u o;go_roundw
    case rel=>exact⟨i+1,_,al,b5,Ap.o 0 al,by rw[aaB];exact E,T,S⟩
    case measure=>simp[intOf];omega
   ·have hj:i % f<K.length:=by rw[aq.o];exact ji _ al
    obtain⟨gk,ok,rfl,XN,k0⟩:=(HR.o.aa H.o) (i % f) hj;have RS:=HK.o _ (bP hj);have aN:((i:Nat):Int) % (f:Int)=((i % f:Nat):Int):=(wB _ _).symm;have aE:i % f<f:=ji _ al;obtain⟨x0,x1,x2⟩:=X.o.cells;have vO:=hid (fun W=>acg K[i % f] m W RS.1 RS.2 ae.1 ae.2);have hP:=JU K[i % f] ae.1;generalize xR K[i % f] m=P at *;generalize K[i % f]=kk at *;generalize i % f=j at *;go_wp2_with fail
    go_quiet ((go_at_call 21;refine Calls.quiet_of_same (vO.o _)))
    have ai:Hid (kj (wr.drewN nq) (w.heap.size+1) u7 (zF l)):=O;have aj:Hid (bW (wr.drewN nq) w.heap.size (.slice (some ⟨I,Q,none⟩) V.length ca) (.slice b L.length cb) (.slice c R.length cc)):=X;have af:=hid (below_drewN H.o nq);have S5:(wr.drewN nq).cell? ⟨g,ao+i,none⟩=some (.int .i64 (v:Nat)):=D;clear O X H D k0 x0 x1 x2 n1;generalize wr.drewN nq=z at *;have O:=ai;have X:=aj;have H:=af;have D:=S5;clear ai aj af S5;have A:=hid O.o.own;have ab:=hid (O.o.alloc (.cells #[.int .i64 (v:Nat),.int .i64 (P:Nat)] 30));have q:=hid (H.o.alloc H.o.size (.cells #[.int .i64 (v:Nat),.int .i64 (P:Nat)] 30));have Y:=hid (adK z (v:Nat) (P:Nat));have t:=hid (X.o.aa ((au z.heap.size z).alloc (ah _) (.cells #[.int .i64 (v:Nat),.int .i64 (P:Nat)] 30)) X.o.lt);have s:Hid (w.heap.size+1<=(z.alloc (.cells #[.int .i64 (v:Nat),.int .i64 (P:Nat)] 30)).heap.size):=hid (t.o.lt);go_wp2_with (at_builtin;refine Jz rfl _ _ rfl (w.heap.size+1) _ (zF l) [((v:Int),(P:Nat))] rfl ab.o (some ⟨z.heap.size,0,none⟩) 1 rfl Y.o (fun e=>by cases e) (by simp[yZ];omega) s.o ?_;intro v' w2 u o)
    have S:=hid (q.o.grown o q.o.size fun k J=>Nat.le_of_succ_le (A.o k J));have T:Hid (bW w2 w.heap.size (.slice (some ⟨I,Q,none⟩) V.length ca) (.slice b L.length cb) (.slice c R.length cc)):=(o.block w.heap.size s.o (fun e=>by have:=A.o _ e.symm;omega)).trans t.o;have E:=hid u;clear u o;go_roundw
    case rel=>exact⟨i+1,_,al,b5,Ap.o P hP,by rw[aaB];exact E,T,S⟩
    case measure=>simp[intOf];omega
  ·obtain rfl:i=U.length:=al
   go_wp2;go_ret;exact⟨_,l,rfl,O.o.lower (Nat.le_succ _),HE.o l F.o,F.o.val,H.o⟩
def tP (L:List Kh) (i:Nat):Nat:=((L.take i).map List.length).sum
theorem aei (h:i<L.length):tP L (i+1)=tP L i+L[i].length:=by
 rw[tP,tP,im h,eh,List.sum_append];simp
theorem ad0:∀ {l:Ki} {x:Nat},x∈l ->x<=l.sum
 |y::l,x,h=>by
  rw[List.sum_cons];rcases bT.1 h with rfl |h
  ·omega
  ·have:=ad0 h;omega
theorem anB (h:tP L L.length<=512):∀l∈L,l.length<=512:=fun l a=>by
 rw[tP,iY] at h;have:l.length<=(L.map List.length).sum:=ad0 (aH.2 ⟨l,a,rfl⟩);omega
theorem aeh (h:∀l∈L,l.length<=140737488355328):∀i,i<=L.length ->tP L i<=i*140737488355328
 |0,_=>by simp[tP]
 |i+1,hi=>by
  have:=aeh h i al;have:=h _ (bP (show i<L.length by omega));rw[aei al];omega
theorem abg (a:Kd) (ca:Nat) (L:List Kh) (w:World) (h:dC w a L) (d:∀l∈L,l.length<=140737488355328) (r:L.length<=8):
  da 26 #[.slice a L.length ca] w fun e w'=>∃q,e=.returned (.bool q)/\(q=false ->∀l∈L,l.length<=512)/\w'=w:=by
 have F:=hid h;have H:=hid d;have D:Hid (tP L 0=0):=by show _=_;simp[tP]
 have j:Hid (∀i (h:i<L.length),tP L (i+1)=tP L i+L[i].length):=fun i h=>aei h;have v:Hid (tP L L.length<=512 ->∀l∈L,l.length<=512):=fun h=>anB h;have U:Hid (∀i,i<=L.length ->tP L i<=i*140737488355328):=aeh d;clear h d;generalize tP L=T at *;go_enter Tryz.func26,Tryz.ntmps26;go_wp2_with fail
 go_loopw [3,4] (fun nv iv wr=>∃i:Nat,i<=L.length/\iv=.int .i64 i/\nv=.int .i64 (T i:Nat)/\wr=w) (fun _ iv _=>L.length - (intOf iv).toNat)
 case atStart=>exact⟨0,aU _,rfl,by rw[D.o];rfl,rfl⟩
 case round=>
  obtain⟨i,k,rfl,rfl,rfl⟩:=hrel;have m:=U.o i k;by_cases n:i<L.length
  ·obtain⟨g,o,b,c,rfl,s,p, -⟩:=F.o i n;have u:=H.o _ (bP n);have S:=hid (j.o i n);generalize L[i].length=t at *;generalize hT:T i=f at *;clear hT;go_wp2_with fail
   go_roundw
   case rel=>exact⟨i+1,al,b5,by rw[S.o];go_num,by first |rfl |trivial⟩
   case measure=>simp[intOf];omega
  ·obtain rfl:i=L.length:=al
   by_cases z:T L.length<=512
   ·have E:=hid (v.o z);generalize hT:T L.length=f at *;clear hT;go_wp2;go_ret;exact⟨false,by simp<;>omega,fun _=>E.o,rfl⟩
   ·generalize hT:T L.length=f at *;clear hT;go_wp2;go_ret;exact⟨true,by simp<;>omega,(fun h=>by cases h),rfl⟩
theorem aiO (b c d:Kd) (c1 c2 c3:Nat) (L L2 a:Kh) (bk:Bool) (w:World) (h1:aC w b L) (g:aC w c L2) (i:aC w d a) (l1:L.length<=140737488355328) (l2:L2.length<=140737488355328) (n:a.length<=140737488355328):
  da 25 #[.agg #[.slice b L.length c1,.slice c L2.length c2,.slice d a.length c3,.bool bk]] w fun e w'=>∃q,e=.returned (.bool q)/\db w w':=by
 have r:(w.alloc (.cells #[.slice b L.length c1,.slice c L2.length c2,.slice d a.length c3,.bool bk] 47)).heap[w.heap.size]? =some (.cells #[.slice b L.length c1,.slice c L2.length c2,.slice d a.length c3,.bool bk] 47 (0,0)):=eM w _;have p:(w.alloc (.cells #[.slice b L.length c1,.slice c L2.length c2,.slice d a.length c3,.bool bk] 47)).cell? ⟨w.heap.size,0,none⟩=some (.slice b L.length c1):=by rw[bh _ _ _ _ _ (0,0) r];rfl
 have t:(w.alloc (.cells #[.slice b L.length c1,.slice c L2.length c2,.slice d a.length c3,.bool bk] 47)).cell? ⟨w.heap.size,1,none⟩=some (.slice c L2.length c2):=by rw[bh _ _ _ _ _ (0,0) r];rfl
 have u:(w.alloc (.cells #[.slice b L.length c1,.slice c L2.length c2,.slice d a.length c3,.bool bk] 47)).cell? ⟨w.heap.size,2,none⟩=some (.slice d a.length c3):=by rw[bh _ _ _ _ _ (0,0) r];rfl
 have f:db w (w.alloc (.cells #[.slice b L.length c1,.slice c L2.length c2,.slice d a.length c3,.bool bk] 47)):=(au _ w).alloc (ah _) _;have s:=hid (aba (cx:=c1) (cy:=c2) (cz:=c3) (h1.aa f) (g.aa f) (i.aa f));have S:=hid (f.trans (((au _ _).alloc (ah _) (.cells #[.slice b L.length c1,.slice c L2.length c2,.slice d a.length c3] 27)).af f.size))
 have T:Hid (∀(G:Nat) (U:World),dC U (some ⟨G,0,none⟩) [L,L2,a] ->da 26 #[.slice (some ⟨G,0,none⟩) 3 3] U fun e w'=>∃q,e=.returned (.bool q)/\w'=U):=fun G U m=>(abg (some ⟨G,0,none⟩) 3 [L,L2,a] U m (fun l j=>by
  simp only[bT,fR,iV] at j;rcases j with rfl |rfl |rfl<;>assumption) aE).af fun e w' ⟨q,h,_,k⟩=>⟨q,h,k⟩
 rw[show (w.alloc (.cells #[.slice b L.length c1,.slice c L2.length c2,.slice d a.length c3,.bool bk] 47)).heap.size=w.heap.size+1 by simp] at s;clear h1 g i l1 l2 n r f;go_enter Tryz.func25,Tryz.ntmps25;go_wp2_with fail
 refine(T.o _ _ s.o).af ?_;rintro e v ⟨q,rfl,rfl⟩;clear p t u;go_wp2;go_ret;exact⟨q,rfl,S.o⟩
variable {l:Kh} {ca cb cc:Nat} {W':World}
structure TS (w W:World) (B:Nat) (a b c:Kd) (ca cb cc:Nat) (V:List Vr) (L:List Kh) (R:List (List Fr)):Prop where
 box:bW W B (.slice a V.length ca) (.slice b L.length cb) (.slice c R.length cc)
 net:FV W a b c V L R
 fr:db w W
theorem TS.step {W:World} {B:Nat} {b c:Kd} (h:TS w W B a b c ca cb cc V L R) (d:db W W'):TS w W' B a b c ca cb cc V L R:=
 ⟨h.box.aa d h.box.lt,h.net.aa d,h.fr.trans (d.af h.fr.size)⟩
theorem aif (h:Up l n) (a:n<=6):l.length<=6:=by have:=h.length;omega
theorem aa3 (h:Up l n):(ag l).Nodup:=by
 rw[ag];refine AO.2 ((jM.1 h).2.imp_of_mem fun {a b} c d e=>?_);have:=(jM.1 h).1 a c;omega
theorem apM {l:List (Nat×Nat)} {u:Ki} (e:l.map (·.1)=u) (h:u.Nodup) (t:∀v∈u,v<V.length) (b:∀p∈l,p.2<sz (ar V) p.1):eV (ar V) V.length l:=
 ⟨by rw[e];exact h,fun p a=>t p.1 (by rw[<- e];exact aH.2 ⟨p,a,rfl⟩),b⟩
theorem aaC (l m:List (Nat×Nat)):zF (l++m)=zF l++zF m:=eh
variable {xs:List Value} {B0 c d gl j m:Nat} {v':Value}
def bq (C:Ki) (j:Nat):Ki:=(List.range C.length).filter fun v=>decide (C.getD v 9=j)
theorem aqX (C:Ki) (i j:Nat):bq (C++[i]) j=if j=i then bq C j++[C.length] else bq C j:=by
 have a:(List.range C.length).filter (fun v=>decide ((C++[i]).getD v 9=j))=(List.range C.length).filter fun v=>decide (C.getD v 9=j):=by
  refine P9 fun v c=>?_;have d:=bM.1 c;rw[bF,bF,GH d]
 have b:(C++[i]).getD C.length 9=i:=by
  rw[bF,AP (ah _)];simp
 rw[bq,bU,Ep,uI,xK,a];by_cases h:j=i
 ·subst h;rw[aw rfl,yX aE];rfl
 ·rw[aA h,yY (by rw[b];simpa using fun e=>h e.symm)];simp[bq]
theorem FO {C:Ki}:v∈bq C j↔v<C.length/\C.getD v 9=j:=by
 rw[bq,cQ,bM,eG]
theorem IB (C:Ki) (j:Nat):Up (iL (bq C j)) C.length:=by
 refine jM.2 ⟨fun x b=>?_,?_⟩
 ·obtain⟨v,a,rfl⟩:=aH.1 b;have:=(FO.1 a).1;omega
 ·rw[iL,AO];exact(List.pairwise_lt_range.filter _).imp fun h=>al
theorem Zt (C:Ki) (j:Nat):(iL (bq C j)).length<=C.length:=by
 rw[bL,bq];exact aL (od _ _) aE
theorem aqY (C:Ki):iP C.length [iL (bq C 0),iL (bq C 1),iL (bq C 2),iL (bq C 3)]=true:=by
 have d:∀i j,i≠j ->∀a∈iL (bq C i),∀b∈iL (bq C j),a≠b:=fun i j p a c b h e=>by
  obtain⟨u,m,rfl⟩:=aH.1 c;obtain⟨v,n,rfl⟩:=aH.1 h;have g:=(FO.1 m).2;have k:=(FO.1 n).2;have:u=v:=al
  subst this;exact p (g.symm.trans k)
 refine K5.2 ⟨fun l f=>?_,?_⟩
 ·simp only[bT,fR,iV] at f;rcases f with rfl |rfl |rfl |rfl<;>exact UN (IB C _)
 ·simp only[Ut,List.flatten_nil,kQ,lC,aZ];refine⟨y5 (IB C 0),⟨y5 (IB C 1),⟨y5 (IB C 2),y5 (IB C 3),d 2 3 bd⟩,fun a c b h=>?_⟩,fun a c b h=>?_⟩
  ·rcases h with h |h
   ·exact d 1 2 bd a c b h
   ·exact d 1 3 bd a c b h
  ·rcases h with h |h |h
   ·exact d 0 1 bd a c b h
   ·exact d 0 2 bd a c b h
   ·exact d 0 3 bd a c b h
def lL:Value:=.slice none 0 0
structure R5 (B0 gl:Nat) (xs:List Value) (C:Ki) (U:World):Prop where
 n5:xs.length=5
 blk:U.heap[gl]? =some (.cells xs.toArray 70 (0,0))
 own:∀j,j< 5 ->bJ U B0 (xs.getD j lL) (iL (bq C j))
 ne:∀i j,i< 5 ->j< 5 ->i≠j ->∀g,(xs.getD i lL).ownBlock=some g ->(xs.getD j lL).ownBlock≠some g
 lo:gl<B0
 hi:B0<=U.heap.size
theorem R5.lt {C:Ki} (h:R5 B0 gl xs C U):gl<U.heap.size:=(dD.1 h.blk).1
theorem R5.step {C:Ki} (h:R5 B0 gl xs C U) (b:db U U'):R5 B0 gl xs C U':=
 ⟨h.n5,(b.block _ h.lt).trans h.blk,fun j a=>(h.own j a).aa b,h.ne,h.lo,aL h.hi b.size⟩
theorem R5.start (U:World):R5 (U.heap.size+1) U.heap.size [lL,lL,lL,lL,lL] [] (U.alloc (.cells #[.slice none 0 0,.slice none 0 0,.slice none 0 0,.slice none 0 0,.slice none 0 0] 70)):=by
 have n:∀j,([lL,lL,lL,lL,lL].getD j lL)=lL:=fun j=>by
  match j with
  |0=>rfl
  |1=>rfl
  |2=>rfl
  |3=>rfl
  |4=>rfl
  |j+5=>rfl
 refine⟨rfl,eM U _,fun j _=>?_,fun i j _ _ _ g h=>?_,PW _,aE⟩
 ·rw[n];exact⟨rfl,.inl ⟨rfl,rfl⟩⟩
 ·rw[n] at h;cases h
theorem R5.cell {C:Ki} (h:R5 B0 gl xs C U) (a:j<5):U.cell? ⟨gl,j,none⟩=some (xs.getD j lL):=by
 have q:j<xs.length:=by rw[h.n5];exact a
 rw[bh U gl j _ _ (0,0) h.blk,Jr,aV q,bF,aV q];rfl
theorem Mr {B:Nat} {v:Value} (h:bJ w B v l) (a:v.ownBlock=some k):B<=k/\k<w.heap.size:=by
 rcases h.2 with ⟨rfl,_⟩ |⟨g,cap,r,rfl,b,c,_⟩
 ·cases a
 ·cases a;exact⟨b,(dD.1 c).1⟩
theorem Qz {B:Nat} {v:Value} (h:bJ w B v l):∃d n c,v=.slice d n c:=by
 obtain⟨d,c,e,_⟩:=bJ.ints3 h;exact⟨d,_,c,e⟩
theorem R5.push {C:Ki} (h:R5 B0 gl xs C U) (F:i<5) (E:bJ U' B0 v' (iL (bq C i)++[(C.length:Int)])) (p:U.grownBy U' (xs.getD i lL).ownBlock) (n:v'.ownBlock=(xs.getD i lL).ownBlock∨∀k,v'.ownBlock=some k ->U.heap.size<=k):
  (U'.cell? ⟨gl,i,none⟩=some (xs.getD i lL)/\U'.frozen? ⟨gl,i,none⟩=false)/\R5 B0 gl (xs.set i v') (C++[i]) (U'.setCell ⟨gl,i,none⟩ v'):=by
 have K:=h.lo;have o:U'.heap[gl]? =some (.cells xs.toArray 70 (0,0)):=(p.block gl h.lt fun e=>by have:=(Mr (h.own i F) e.symm).1;omega).trans h.blk;have L:i<xs.length:=by rw[h.n5];exact F
 have H:∀j,j< 5 ->(xs.set i v').getD j lL=if i=j then v' else xs.getD j lL:=fun j l=>by
  have J:j<xs.length:=by rw[h.n5];exact l
  rw[bF,List.getElem?_set];by_cases e:i=j
  ·rw[aw e,aw e,aw L];rfl
  ·rw[aA e,aA e,bF]
 have v:∀t:TypeId,t≠70 ->gG t U' (U'.setCell ⟨gl,i,none⟩ v'):=fun t I=>gG.set o I i v';refine⟨⟨?_,fj U' gl i _ _ o⟩,⟨by rw[iq];exact h.n5,?_,fun j l=>?_,fun a b d f m g q c=>?_,h.lo,?_⟩⟩
 ·rw[bh U' gl i _ _ (0,0) o,Jr,aV L,bF,aV L];rfl
 ·have:=kn U' gl i _ _ v' o;rw[this];simp
 ·rw[H j l,aqX];by_cases e:i=j
  ·subst e;rw[aw rfl,aw rfl,iL,eh];exact oC E (v 3 bd)
  ·rw[aA e,aA fun x=>e x.symm]
   have D:bJ U' B0 (xs.getD j lL) (iL (bq C j)):=LH (h.own j l) p (by
    by_cases r:(xs.getD j lL).ownBlock=none
    ·exact .inl r
    ·exact .inr fun y=>by
      obtain⟨g,w⟩:=Option.ne_none_iff_exists'.1 r;exact h.ne i j F l e g (by rw[<- y];exact w) w)
   exact oC D (v 3 bd)
 ·rw[H a d] at q;rw[H b f] at c;by_cases s:i=a
  ·subst s;rw[aw rfl] at q;rw[aA m] at c;rcases n with n |n
   ·exact h.ne i b d f m g (n▸q) c
   ·have z:=n g q;have A:=(Mr (h.own b f) c).2;omega
  ·rw[aA s] at q;by_cases u:i=b
   ·subst u;rw[aw rfl] at c;rcases n with n |n
    ·exact h.ne a i d f m g q (n▸c)
    ·have z:=n g c;have A:=(Mr (h.own a d) q).2;omega
   ·rw[aA u] at c;exact h.ne a b d f m g q c
 ·exact aL h.hi (aL p.size (jD U' ⟨gl,i,none⟩ v').size)
def PB (V:List Vr) (L:List Kh) (R:List (List Fr)) (d:List (Nat×Nat)) (Y:Kh) (l:List (Nat×Nat)) (e:Ending) (w':World):Prop:=
 ∃(tb tc:Kd) (m n vz vw:Nat) (k:Int),e=.returned (.tuple #[.agg #[.slice tb m vz,.slice tc n vw],.int .i64 k])/\(k=0∨k=3)/\(k=0 ->dY V L R d l≠0/\n=(dP V L R d Y l).length/\cE w' tc (dP V L R d Y l))
theorem any_none {d l:List (Nat×Nat)} (h1:∀v∈ag Y,¬v∈d.map (·.1)) (a:∀p∈l,¬p.1∈d.map (·.1)):Kc (zF d) Y (zF l)=false:=by
 rw[Kc,Jw];intro q b;obtain⟨p,h,rfl⟩:=aH.1 b;rw[Bool.not_eq_true,Bool.or_eq_false_iff];refine⟨?_,?_⟩
 ·rw[<- Bool.not_eq_true,AQ];intro m;exact h1 p.1 (aH.2 ⟨_,m,aE⟩) (aH.2 ⟨p,h,rfl⟩)
 ·rw[Jw];intro r c e;obtain⟨s,hs,rfl⟩:=aH.1 c
  have:s.1=p.1:=by
   have:=eq_of_beq e;omega
  exact a s hs (aH.2 ⟨p,h,this.symm⟩)
theorem aiQ (a b c y d f:Kd) (ca cb cc cy j k:Nat) (V:List Vr) (L:List Kh) (R:List (List Fr)) (Y:Kh) (D F:List (Nat×Nat)) (w:World) (M:NM V L R) (h:FV w a b c V L R) (P:aC w y Y) (o:Up Y V.length) (I:ju w d (zF D)) (zI:(zF D).length<=j) (J:ju w f (zF F)) (T:(zF F).length<=k) (g:eV (ar V) V.length D) (n:eV (ar V) V.length F) (h1:∀v∈ag Y,¬v∈D.map (·.1)) (A:∀p∈F,¬p.1∈D.map (·.1)) (E:∀v∈ag Y,¬v∈F.map (·.1)):
  da 12 #[.agg #[.slice a V.length ca,.slice b L.length cb,.slice c R.length cc],.slice y Y.length cy,.slice d (zF D).length j,.slice f (zF F).length k] w fun e w'=>PB V L R D Y F e w'/\db w w':=by
 have H:=M.six;have X:=(acF M.ok g).1;have ab:Y.length<=6:=aif o H;have i:∀ {l:List (Nat×Nat)},eV (ar V) V.length l ->(zF l).length<=1000:=fun {l} i=>by rw[yZ];have:=i.len;omega
 refine(ars a b c y d f ca cb cc cy j k V L R Y (zF D) (zF F) w h P al I (i g) zI J (i n) T (fun _=>by rw[He];exact M.dos g)).af fun e w' ⟨O,K⟩=>⟨?_,K⟩;have aa:=any_none h1 A;obtain⟨t,u⟩:=aqe (d:=D) M.ok g o n E
 have r:FK V L R Y (zF D) (zF F)=if dY V L R D F=0 then 3 else 0:=by
  rw[FK,aw X,aa,He,aA aE,t]
 obtain⟨Q,S,Z,U,rfl,hq,q⟩:=O;refine⟨Q,S,_,_,Z,U,_,rfl,?_,fun m=>?_⟩
 ·rw[r];split
  ·exact .inr rfl
  ·exact .inl rfl
 ·have z:dY V L R D F≠0:=fun s=>by rw[r,aw s] at m;exact absurd m bd
  have x:KR V L R Y (zF D) (zF F)=(Y,dP V L R D Y F):=by rw[KR,aw m,He,u z]
  rw[x] at q⊢;exact⟨z,rfl,q⟩
theorem ab2 (h0:aW V L R=0) {x y z v:Kh} (a:iP V.length [x,y,z,v]=true):kr L [x,y,z,v]=0:=by
 rw[kr,aw (J8 h0),aw (by rw[(gC h0).len];exact a)]
theorem ajV (h0:aW V L R=0) {x y z v:Kh} (a:iP V.length [x,y,z,v]=true) {k:Int} (h:k=1∨k=2∨k=3):ED L k x y z v=(!lH (jP L k x z v) y z (ei x v),0):=by
 rw[ED,aw (ab2 h0 a),aw h]
theorem aj6 (g:aX L=0) (k:Int) (x z w:Kh):(jP L k x z w).length=L.length/\aX (jP L k x z w)=0:=by
 rw[jP];split
 ·exact⟨nR _ _ _,vt g _ _⟩
 ·split
  ·exact⟨by rw[nR,nR],vt (vt g _ _) _ _⟩
  ·exact⟨by rw[nR,nR],vt (vt g _ _) _ _⟩
theorem ajU (h0:aW V L R=0) {x y z v:Kh} (p:iP V.length [x,y,z,v]=true) {k:Int} (o:lH (jP L k x z v) y z (ei x v)=true):y≠[]/\z≠[]:=by
 obtain⟨h,b⟩:=aj6 (J8 h0) k x z v;have a:=gC h0;exact arR b (by rw[h,a.len];exact a.n8) (by rw[h,a.len];exact(Vi p).2.2) o
theorem aiG (a b:Kd) (ca cb:Nat) (l:List Fr) (w:World) (h:cE w a l) (c:cE w b l) (s:l.length<=100000):
  da 32 #[.slice a l.length ca,.slice b l.length cb] w (du w (.bool true)):=by
 have A:=hid h;have d:=hid c;clear h c;go_enter Tryz.func32,Tryz.ntmps32;go_wp2_with fail
 go_loopw [5] (fun iv wr=>∃i:Nat,i<=l.length/\iv=.int .i64 i/\Hid (db w wr)) (fun iv _=>l.length - (intOf iv).toNat)
 case atStart=>exact⟨0,aU _,rfl,au _ _⟩
 case round=>
  obtain⟨i,r,rfl,H⟩:=hrel;by_cases t:i<l.length
  ·obtain⟨g,o,rfl,q,e,j,k⟩:=(A.o.aa H.o) i t;obtain⟨p,u,rfl,v,m,n,b2⟩:=(d.o.aa H.o) i t;generalize l[i]=f at *;obtain⟨fn,fx,fy⟩:=f;simp only at e j k m n b2;go_wp2_with fail
   go_quiet (fail)
   go_wp2;go_roundw
   case rel=>exact⟨i+1,al,b5,K3 H.o _⟩
   case measure=>simp[intOf];omega
  ·obtain rfl:i=l.length:=al
   go_wp2;go_ret;exact⟨rfl,H.o⟩
theorem bw.put_fr {p q:Kd} (h:bw U g (.slice p n c) (.slice q m d)) (x y:Value) (b:Kd) (l:List Fr) (f:cE U b l):cE ((U.setCell ⟨g,0,none⟩ x).setCell ⟨g,1,none⟩ y) b l:=by
 have i:=((fE.refl [g] U).put (b:=g) (.inl aE) 0 x).put (b:=g) (.inl aE) 1 y;refine KO f (VT h (slv _ _ _) (slv _ _ _) fun j=>?_) i;obtain⟨g',o,e,_,a,_⟩:=f 0 al;rw[nW,iX] at a;exact⟨g',o,_,e,a,V4⟩
theorem aij {c0 c1:Nat} {x y:Kh} (h0:aC U b0 x) (h1:aC U b1 y):dC (U.alloc (.cells #[.slice b0 x.length c0,.slice b1 y.length c1] 27)) (some ⟨U.heap.size,0,none⟩) [x,y]:=fun k a=>by
 have b:db U (U.alloc (.cells #[.slice b0 x.length c0,.slice b1 y.length c1] 27)):=(au _ U).alloc (ah _) _;have h:(U.alloc (.cells #[.slice b0 x.length c0,.slice b1 y.length c1] 27)).heap[U.heap.size]? =some (.cells #[.slice b0 x.length c0,.slice b1 y.length c1] 27 (0,0)):=eM U _;have z:U.heap.size<(U.alloc (.cells #[.slice b0 x.length c0,.slice b1 y.length c1] 27)).heap.size:=aE
 match k,a with
 |0,_=>exact⟨_,0,b0,c0,rfl,z,by rw[bh _ _ _ _ _ (0,0) h];rfl,h0.aa b⟩
 |1,_=>exact⟨_,0,b1,c1,rfl,z,by rw[bh _ _ _ _ _ (0,0) h];rfl,h1.aa b⟩
theorem eV.cls {C:Ki} {l:List (Nat×Nat)} (a:C.length=V.length) (e:l.map (·.1)=ag (iL (bq C j))) (h:∀p∈l,p.2<sz (ar V) p.1):eV (ar V) V.length l:=by
 rw[iJ] at e;refine apM e ?_ (fun v h=>by rw[<- a];exact(FO.1 h).1) h;have:=aa3 (IB C j);rwa [iJ] at this
theorem Zs {C:Ki} (h:i≠j) {l m:List (Nat×Nat)} (e:l.map (·.1)=ag (iL (bq C i))) (a:m.map (·.1)=ag (iL (bq C j))):∀p∈l,¬p.1∈m.map (·.1):=fun p d b=>by
 rw[iJ] at e a;have c:p.1∈bq C i:=by rw[<- e];exact aH.2 ⟨p,d,rfl⟩
 rw[a] at b;exact h ((FO.1 c).2.symm.trans (FO.1 b).2)
theorem Zr {C:Ki} (h:i≠j) {m:List (Nat×Nat)} (e:m.map (·.1)=ag (iL (bq C j))):∀v∈ag (iL (bq C i)),¬v∈m.map (·.1):=fun v b a=>by
 rw[iJ] at b e;rw[e] at a;exact h ((FO.1 b).2.symm.trans (FO.1 a).2)
theorem eV.app {l m:List (Nat×Nat)} (d:eV S n l) (f:eV S n m) (h:∀p∈l,¬p.1∈m.map (·.1)):eV S n (l++m):=by
 refine⟨?_,fun p c=>(aZ.1 c).elim (d.lt p) (f.lt p),fun p c=>(aZ.1 c).elim (d.val p) (f.val p)⟩;rw[eh,lC];refine⟨d.nd,f.nd,fun a g b i e=>?_⟩;subst e;obtain⟨p,c,rfl⟩:=aH.1 g;exact h p c i
theorem Kf {C:Ki} {l:List (Nat×Nat)} (e:l.map (·.1)=ag (iL (bq C j))):kL l=iL (bq C j):=by
 rw[iJ] at e;rw[kL,iL, <- e,yT];rfl
theorem aim (a1 a2 a3 ax av:Kd) (c1 c2 c3 cx cv:Nat) (L1 L2 L3 x K:Kh) (bk:Bool) (kk:Int) (w:World) (h1:aC w a1 L1) (h2:aC w a2 L2) (h3:aC w a3 L3) (hx:aC w ax x) (hv:aC w av K) (r1:Af L1) (r2:Af L2) (r3:Af L3) (rx:Af x) (rv:Af K) (Nk: -9223372036854775808<=kk/\kk<=9223372036854775807):
  da 7 #[.agg #[.slice a1 L1.length c1,.slice a2 L2.length c2,.slice a3 L3.length c3,.bool bk],.int .i64 kk,.slice ax x.length cx,.slice av K.length cv] w (du w (.bool true)):=by
 have bz:=hid (fun (U:World) (hB:db w U)=>anh a1 a2 a3 c1 c2 c3 L1 L2 L3 bk U (h1.aa hB) (h2.aa hB) (h3.aa hB) r1 r2 r3);have bx:=hid (fun (U:World) (hB:db w U)=>aiO a1 a2 a3 c1 c2 c3 L1 L2 L3 bk U (h1.aa hB) (h2.aa hB) (h3.aa hB) r1.1 r2.1 r3.1);have sF:Hid (∀U:World,db w U ->dC (U.alloc (.cells #[.slice ax x.length cx,.slice av K.length cv] 27)) (some ⟨U.heap.size,0,none⟩) [x,K]):=fun U hU=>aij (hx.aa hU) (hv.aa hU)
 have TN:Hid (∀(G:Nat) (U:World),dC U (some ⟨G,0,none⟩) [x,K] ->da 26 #[.slice (some ⟨G,0,none⟩) 2 2] U fun e w'=>∃q,e=.returned (.bool q)/\(q=false ->x.length<=512/\K.length<=512)/\w'=U):=fun G U hU=>(abg (some ⟨G,0,none⟩) 2 [x,K] U hU (fun l hl=>by
  simp only[bT,fR,iV] at hl;rcases hl with rfl |rfl
  ·exact rx.1
  ·exact rv.1) aE).af fun e w' ⟨q,ae,h',cz⟩=>⟨q,ae,fun e=>⟨h' e x aE,h' e K aE⟩,cz⟩
 have vO:=hid (fun U:World=>Ms kk 3 U Nk.1 Nk.2 al al);have cS:=JU kk (n:=3) al;generalize xR kk 3=M at *
 have DT:Hid (∀(v:Nat) (hv:v<x.length) (U:World),da 21 #[.int .i64 x[v],.int .i64 5] U fun e w'=>∃j:Nat,j<5/\e=.returned (.int .i64 (j:Nat))/\db U w'):=fun v cV U=>by
  have ae:=rx.2 x[v] (bP cV);exact(Ms x[v] 5 U ae.1 ae.2 al al).af fun e w' ⟨e1,h⟩=>⟨_,JU _ al,e1,h⟩
 have rO:(w.alloc (.cells #[.slice a1 L1.length c1,.slice a2 L2.length c2,.slice a3 L3.length c3,.bool bk] 47)).heap[w.heap.size]? =some (.cells #[.slice a1 L1.length c1,.slice a2 L2.length c2,.slice a3 L3.length c3,.bool bk] 47 (0,0)):=eM w _;have q0:(w.alloc (.cells #[.slice a1 L1.length c1,.slice a2 L2.length c2,.slice a3 L3.length c3,.bool bk] 47)).cell? ⟨w.heap.size,0,none⟩=some (.slice a1 L1.length c1):=by rw[bh _ _ _ _ _ (0,0) rO];rfl
 have q1:(w.alloc (.cells #[.slice a1 L1.length c1,.slice a2 L2.length c2,.slice a3 L3.length c3,.bool bk] 47)).cell? ⟨w.heap.size,1,none⟩=some (.slice a2 L2.length c2):=by rw[bh _ _ _ _ _ (0,0) rO];rfl
 have q2:(w.alloc (.cells #[.slice a1 L1.length c1,.slice a2 L2.length c2,.slice a3 L3.length c3,.bool bk] 47)).cell? ⟨w.heap.size,2,none⟩=some (.slice a3 L3.length c3):=by rw[bh _ _ _ _ _ (0,0) rO];rfl
 have q3:(w.alloc (.cells #[.slice a1 L1.length c1,.slice a2 L2.length c2,.slice a3 L3.length c3,.bool bk] 47)).cell? ⟨w.heap.size,3,none⟩=some (.bool bk):=by rw[bh _ _ _ _ _ (0,0) rO];rfl
 have a7:db w (w.alloc (.cells #[.slice a1 L1.length c1,.slice a2 L2.length c2,.slice a3 L3.length c3,.bool bk] 47)):=(au _ w).alloc (ah _) _;have zz:w.heap.size<(w.alloc (.cells #[.slice a1 L1.length c1,.slice a2 L2.length c2,.slice a3 L3.length c3,.bool bk] 47)).heap.size:=aE
 have xr:=hid rv.2;have HX:=hid hx;have HV:=hid hv;clear h1 h2 h3 hx hv r1 r2 r3 rx rv rO Nk;go_enter Tryz.func7,Tryz.ntmps7;go_wp2_with fail
 generalize (w.alloc (.cells #[.slice a1 L1.length c1,.slice a2 L2.length c2,.slice a3 L3.length c3,.bool bk] 47))=W0 at *;refine(bx.o _ a7).af ?_;rintro e W1 ⟨q,rfl,ak⟩;have bS:=hid (a7.trans (ak.af a7.size))
 have bN:Hid (∀U:World,db W1 U ->U.cell? ⟨w.heap.size,0,none⟩=some (.slice a1 L1.length c1)/\U.cell? ⟨w.heap.size,1,none⟩=some (.slice a2 L2.length c2)/\U.cell? ⟨w.heap.size,2,none⟩=some (.slice a3 L3.length c3)/\U.cell? ⟨w.heap.size,3,none⟩=some (.bool bk)):=fun U hU=>by
  have ke:=aO zz ak.size;exact⟨(hU.cell (p:=⟨w.heap.size,0,none⟩) ke).trans ((ak.cell (p:=⟨w.heap.size,0,none⟩) zz).trans q0),(hU.cell (p:=⟨w.heap.size,1,none⟩) ke).trans ((ak.cell (p:=⟨w.heap.size,1,none⟩) zz).trans q1),(hU.cell (p:=⟨w.heap.size,2,none⟩) ke).trans ((ak.cell (p:=⟨w.heap.size,2,none⟩) zz).trans q2),(hU.cell (p:=⟨w.heap.size,3,none⟩) ke).trans ((ak.cell (p:=⟨w.heap.size,3,none⟩) zz).trans q3)⟩
 clear q0 q1 q2 q3 a7 ak zz bx;cases q with
 |true=>
  go_wp2;go_ret;exact⟨rfl,bS.o⟩
 |false=>
  have p4:db W1 (W1.alloc (.cells #[.slice ax x.length cx,.slice av K.length cv] 27)):=(au _ W1).alloc (ah _) _;have aS:=hid (bS.o.trans (p4.af bS.o.size));have jJ:=hid (sF.o W1 bS.o);have tr:=hid (bN.o _ p4);clear sF bS bN p4;go_wp2_with fail
  generalize (W1.alloc (.cells #[.slice ax x.length cx,.slice av K.length cv] 27))=W2 at *;refine(TN.o _ _ jJ.o).af ?_;rintro e W3 ⟨q,rfl,hq,rfl⟩;clear jJ TN;cases q with
  |true=>
   clear hq;go_wp2;go_ret;exact⟨rfl,aS.o⟩
  |false=>
   obtain⟨lx,lv⟩:=hq rfl;obtain⟨q0,q1,q2,q3⟩:=tr.o;clear hq tr;go_wp2_with fail
   refine(bz.o _ aS.o).af ?_;rintro e W4 ⟨a,b,c,ca,cb,cc,V,L,R,rfl,hN,b7,vh,b8⟩;clear q0 q1 q2 q3 bz;have ia:=vh.one;have Hv:=vh.six;have a8:=gC vh.ok;have fC:=aS.o.trans (b8.af aS.o.size);have u:db W4 (W4.alloc (NC (.slice a V.length ca) (.slice b L.length cb) (.slice c R.length cc))):=(au _ W4).alloc (ah _) _;have bD:=bW.at (w:=W4) rfl (.slice a V.length ca) (.slice b L.length cb) (.slice c R.length cc);have HS:=hid (show TS w _ _ a b c ca cb cc V L R from ⟨bD,(vh.ni4 hN b7).aa u,fC.trans (u.af fC.size)⟩);obtain⟨A,E,b2⟩:=bD.cells;(have c6:Hid ((1:Int)+(M:Int)=((M+1:Nat):Int)):=by show _=_;omega);clear hN b7 b8 fC u bD aS;go_wp2_with fail
   clear A E b2;generalize Ir:W4.heap.size=B at *;clear Ir;generalize (W4.alloc (NC (.slice a V.length ca) (.slice b L.length cb) (.slice c R.length cc)))=W5 at *;refine(vO.o _).af ?_;rintro e W6 ⟨rfl,je⟩;have o0:=hid (HS.o.step je);clear je HS vO;have u:=(au W6.heap.size W6).alloc (ah _) (.cells #[.slice none 0 0,.slice none 0 0,.slice none 0 0,.slice none 0 0,.slice none 0 0] 70);have h5:=R5.start W6;obtain⟨gl,cR⟩:∃g,W6.heap.size=g:=⟨_,rfl⟩;obtain⟨W7,uh⟩:∃U,W6.alloc (.cells #[.slice none 0 0,.slice none 0 0,.slice none 0 0,.slice none 0 0,.slice none 0 0] 70)=U:=⟨_,rfl⟩;rw[cR,uh] at h5;(have b4:db W6 W7:=by rw[<- uh];exact u);clear u;have br:=hid h5;(have Lp:Hid (w.heap.size<=gl):=by rw[<- cR];exact o0.o.fr.size);(have c4:Hid (B<gl):=by rw[<- cR];exact o0.o.box.lt);clear h5;go_wp2_with fail
   have c7:=o0;have I9:Hid (W6.heap.size=gl):=cR;have b5:Hid (db W6 W7):=b4;clear cR uh b4;go_loopw [11,12] (fun kv _ wr=>∃(C:Ki) (xs:List Value),C.length<=V.length/\kv=.int .i64 (C.length:Nat)/\Hid (db W6 wr)/\Hid (R5 (gl+1) gl xs C wr)) (fun kv _ _=>V.length - (intOf kv).toNat)
   case atStart=>exact⟨[],_,aU _,rfl,b5,br⟩
   case round=>
    obtain⟨C,xs,hC,rfl,po,H⟩:=hrel;clear b5 br;have HS:=hid (o0.o.step po.o);obtain⟨A,E,b2⟩:=HS.o.box.cells;by_cases dc:C.length<V.length
    ·by_cases tR:C.length<x.length
     ·obtain⟨gx,ox,rfl,c8,cy⟩:=(HX.o.aa HS.o.fr) C.length tR;have O2:=hid (DT.o C.length tR);generalize x[C.length]=xv at *;go_wp2_with fail
      refine(O2.o _).af ?_;rintro e wr' ⟨j,hj,rfl,h⟩;replace po:=hid (po.o.trans (h.af po.o.size));replace H:=hid (H.o.step h);clear h O2 A E b2 cy HS;(have cD:(0:Int)<=(j:Int):=al);(have cG:(j:Int)<5:=al);have ai:=H.o.own j hj;have an:=H.o.cell hj;obtain⟨dj,nj,cj,ES⟩:=Qz ai;have IH:=hid ES;rw[ES] at ai an;have zL:db wr' (wr'.alloc (.cells #[.int .i64 (C.length:Nat)] 3)):=(au _ wr').alloc (ah _) _;have sS:=EI wr' (C.length:Nat);obtain⟨_,_,e0,_,NB⟩:=sS 0 aE;cases e0;have X4:=(zL.cell (p:=⟨gl,j,none⟩) H.o.lt).trans an;have ao:bJ (wr'.alloc (.cells #[.int .i64 (C.length:Nat)] 3)) (gl+1) (.slice dj nj cj) (iL (bq C j)):=ai.aa zL;have Iu:=H.o.step zL;have ND:=po.o.trans (zL.af po.o.size);have cw:=Zt C j;have WY:gl+1<=(wr'.alloc (.cells #[.int .i64 (C.length:Nat)] 3)).heap.size:=Iu.hi;have PA:=hid Iu;have Jf:=hid ND;clear ai zL Iu ND sS;go_wp2_with (at_builtin;refine UD rfl _ _ rfl (gl+1) (.slice dj nj cj) (iL (bq C j)) ((C.length:Nat):Int) rfl ao wr'.heap.size rfl NB al WY ?_;intro v9 w9 pT eU j9;have sB:=hid (R5.push (v':=v9) PA.o hj pT (by rw[IH.o];exact eU) (by rw[IH.o];exact j9));have nV:=hid (Jf.o.grown eU Jf.o.size (fun k e=>by have:=(Mr ao e).1;have:=I9.o;omega));obtain⟨d9,n9,c9,rfl⟩:=Qz pT;obtain⟨⟨q0,q1⟩, -⟩:=sB.o;clear pT eU j9 ao NB)
      have Ap:=hid (sB.o.2);have bg:Hid (db W6 (w9.setCell ⟨gl,j,none⟩ (.slice d9 n9 c9))):=nV.o.setCell (p:=⟨gl,j,none⟩) (by have:=I9.o;show _<=gl;omega) _;(have YI:(C++[j]).length=C.length+1:=aE);clear sB nV PA Jf q0 q1 IH X4 an;go_roundw
      case rel=>exact⟨C++[j],_,al,by rw[YI];go_num,bg,Ap⟩
      case measure=>simp[intOf];omega
     ·obtain⟨j,cL⟩:∃j:Nat,j=4:=⟨4,rfl⟩;(have hj:j<5:=al);(have H4:Hid ((4:Int)=(j:Int)):=by show _=_;omega);clear cL E b2 HS;go_upto_region 12 with fail
      rw[H4.o];clear A H4;(have cD:(0:Int)<=(j:Int):=al);(have cG:(j:Int)<5:=al);have ai:=H.o.own j hj;have an:=H.o.cell hj;obtain⟨dj,nj,cj,ES⟩:=Qz ai;have IH:=hid ES;rw[ES] at ai an;have zL:db wr (wr.alloc (.cells #[.int .i64 (C.length:Nat)] 3)):=(au _ wr).alloc (ah _) _;have sS:=EI wr (C.length:Nat);obtain⟨_,_,e0,_,NB⟩:=sS 0 aE;cases e0;have X4:=(zL.cell (p:=⟨gl,j,none⟩) H.o.lt).trans an;have ao:bJ (wr.alloc (.cells #[.int .i64 (C.length:Nat)] 3)) (gl+1) (.slice dj nj cj) (iL (bq C j)):=ai.aa zL;have Iu:=H.o.step zL;have ND:=po.o.trans (zL.af po.o.size);have cw:=Zt C j;have WY:gl+1<=(wr.alloc (.cells #[.int .i64 (C.length:Nat)] 3)).heap.size:=Iu.hi;have PA:=hid Iu;have Jf:=hid ND;clear ai zL Iu ND sS;go_wp2_with (at_builtin;refine UD rfl _ _ rfl (gl+1) (.slice dj nj cj) (iL (bq C j)) ((C.length:Nat):Int) rfl ao wr.heap.size rfl NB al WY ?_;intro v9 w9 pT eU j9;have sB:=hid (R5.push (v':=v9) PA.o hj pT (by rw[IH.o];exact eU) (by rw[IH.o];exact j9));have nV:=hid (Jf.o.grown eU Jf.o.size (fun k e=>by have:=(Mr ao e).1;have:=I9.o;omega));obtain⟨d9,n9,c9,rfl⟩:=Qz pT;obtain⟨⟨q0,q1⟩, -⟩:=sB.o;clear pT eU j9 ao NB)
      have Ap:=hid (sB.o.2);have bg:Hid (db W6 (w9.setCell ⟨gl,j,none⟩ (.slice d9 n9 c9))):=nV.o.setCell (p:=⟨gl,j,none⟩) (by have:=I9.o;show _<=gl;omega) _;(have YI:(C++[j]).length=C.length+1:=aE);clear sB nV PA Jf q0 q1 IH X4 an;go_roundw
      case rel=>exact⟨C++[j],_,al,by rw[YI];go_num,bg,Ap⟩
      case measure=>simp[intOf];omega
    ·have KI:C.length=V.length:=al
     have aN:=aqY C;rw[KI] at aN;(have aT:∀j,Up (iL (bq C j)) V.length:=fun j=>by have:=IB C j;rwa [KI] at this);(have zG:∀j,(iL (bq C j)).length<=6:=fun j=>by have:=Zt C j;omega);(have b9:((M+1:Nat):Int)=1∨((M+1:Nat):Int)=2∨((M+1:Nat):Int)=3:=al);obtain⟨d0,k0,e0,i0,z0, -⟩:=bJ.ints3 (H.o.own 0 al);obtain⟨d1,k1,e1,i1,z1, -⟩:=bJ.ints3 (H.o.own 1 al);obtain⟨d2,k2,e2,i2,z2, -⟩:=bJ.ints3 (H.o.own 2 al);obtain⟨d3,k3,e3,i3,z3, -⟩:=bJ.ints3 (H.o.own 3 al);have x0:=H.o.cell (j:=0) al;have P:=H.o.cell (j:=1) al;have x2:=H.o.cell (j:=2) al;have x3:=H.o.cell (j:=3) al;rw[e0] at x0;rw[e1] at P;rw[e2] at x2;rw[e3] at x3
     have bO:Hid (∀Z:World,TS w Z B a b c ca cb cc V L R ->aC Z d0 (iL (bq C 0)) ->aC Z d1 (iL (bq C 1)) ->aC Z d2 (iL (bq C 2)) ->aC Z d3 (iL (bq C 3)) ->da 34 #[.slice b L.length cb,.int .i64 ((M+1:Nat):Int),.slice d0 (iL (bq C 0)).length k0,.slice d1 (iL (bq C 1)).length k1,.slice d2 (iL (bq C 2)).length k2,.slice d3 (iL (bq C 3)).length k3] Z fun e w'=>e=.returned (.tuple #[.bool (!lH (jP L ((M+1:Nat):Int) (iL (bq C 0)) (iL (bq C 2)) (iL (bq C 3))) (iL (bq C 1)) (iL (bq C 2)) (ei (iL (bq C 0)) (iL (bq C 3)))),.int .i64 0])/\db Z w'):=fun Z i j0 j1 j2 j3=>by
      have ae:=arq b d0 d1 d2 d3 cb k0 k1 k2 k3 L ((M+1:Nat):Int) _ _ _ _ Z i.net.net.pars (fun l hl=>by have:=vh.few l hl;omega) j0 j1 j2 j3 z0 z1 z2 z3 (by have:=zG 0;omega) (by have:=zG 1;omega) (by have:=zG 2;omega) (by have:=zG 3;omega);rwa [ajV vh.ok aN b9] at ae
     have iy:=hid (fun (e:lH (jP L ((M+1:Nat):Int) (iL (bq C 0)) (iL (bq C 2)) (iL (bq C 3))) (iL (bq C 1)) (iL (bq C 2)) (ei (iL (bq C 0)) (iL (bq C 3)))=true)=>ajU vh.ok aN e)
     have TZ:Hid (∀(d:Kd) (cd j:Nat) (Z:World),TS w Z B a b c ca cb cc V L R ->aC Z d (iL (bq C j)) ->da 24 #[.agg #[.slice a V.length ca,.slice b L.length cb,.slice c R.length cc],.slice d (iL (bq C j)).length cd,.slice av K.length cv] Z fun e w'=>∃(p:Kd) (q:Nat) (l:List (Nat×Nat)),e=.returned (.slice p (zF l).length q)/\ju w' p (zF l)/\((zF l).length<=q/\(p=none ->q=0))/\(l.map (·.1)=ag (iL (bq C j))/\∀p∈l,p.2<sz (ar V) p.1)/\(zF l).length<=6/\db Z w'):=fun d cd j Z i hd=>(akw a b c d av ca cb cc cd cv V L R (iL (bq C j)) K Z i.net.net hd (HV.o.aa i.fr) (aT j) (by have:=zG j;omega) xr.o al (fun v hv=>by
       have h1:=jE (y9 vh.ok) v;have h2:=vh.szs v;rw[GW hv] at h1 h2;omega)).af fun e w' ⟨x,l,ae,ho,e1,e2,h⟩=>by
      obtain⟨p,q,rfl,h1,h2,h3⟩:=ho.facts;refine⟨p,q,l,ae,h1,⟨h2,h3⟩,⟨e1,e2⟩,?_,h⟩;have:=zG j;rw[yZ, <- cH (f:=(·.1)),e1,fT];exact this
     have T2:Hid (∀(dd df:Kd) (cd cf:Nat) (D F:List (Nat×Nat)) (Z:World),TS w Z B a b c ca cb cc V L R ->aC Z d1 (iL (bq C 1)) ->ju Z dd (zF D) ->(zF D).length<=cd ->ju Z df (zF F) ->(zF F).length<=cf ->eV (ar V) V.length D ->eV (ar V) V.length F ->(∀v∈ag (iL (bq C 1)),¬v∈D.map (·.1)) ->(∀p∈F,¬p.1∈D.map (·.1)) ->(∀v∈ag (iL (bq C 1)),¬v∈F.map (·.1)) ->da 12 #[.agg #[.slice a V.length ca,.slice b L.length cb,.slice c R.length cc],.slice d1 (iL (bq C 1)).length k1,.slice dd (zF D).length cd,.slice df (zF F).length cf] Z fun e w'=>PB V L R D (iL (bq C 1)) F e w'/\db Z w'):=fun dd df cd cf D F Z i h1 h2 h3 h4 h5 h6 h7 h8 h9 cB=>aiQ a b c d1 dd df ca cb cc k1 cd cf V L R _ D F Z vh i.net h1 (aT 1) h2 h3 h4 h5 h6 h7 h8 h9 cB
     have bm:Hid (lH (jP L ((M+1:Nat):Int) (iL (bq C 0)) (iL (bq C 2)) (iL (bq C 3))) (iL (bq C 1)) (iL (bq C 2)) (ei (iL (bq C 0)) (iL (bq C 3)))=false ->∀fx z fw:List (Nat×Nat),(fx.map (·.1)=ag (iL (bq C 0))/\∀p∈fx,p.2<sz (ar V) p.1) ->(z.map (·.1)=ag (iL (bq C 2))/\∀p∈z,p.2<sz (ar V) p.1) ->(fw.map (·.1)=ag (iL (bq C 3))/\∀p∈fw,p.2<sz (ar V) p.1) ->qa V L fx z fw (iL (bq C 1))/\
       ((M=0 ->dY V L R fx fw≠0 ->dY V L R fx (z++fw)≠0 ->dP V L R fx (iL (bq C 1)) fw=dP V L R fx (iL (bq C 1)) (z++fw))/\
       (M=1 ->dY V L R fx (z++fw)≠0 ->dY V L R (fx++z) fw≠0 ->dP V L R fx (iL (bq C 1)) (z++fw)=dP V L R (fx++z) (iL (bq C 1)) fw)/\
       (M=2 ->dY V L R fx fw≠0 ->dY V L R (fx++z) fw≠0 ->dP V L R fx (iL (bq C 1)) fw=dP V L R (fx++z) (iL (bq C 1)) fw))):=fun ho fx z fw hx hz hw=>by
      have r:qa V L fx z fw (iL (bq C 1)):=⟨eV.cls KI hx.1 hx.2,eV.cls KI hz.1 hz.2,eV.cls KI hw.1 hw.2,aT 1,Zs bd hz.1 hx.1,Zs bd hw.1 hx.1,Zs bd hz.1 hw.1,Zr bd hx.1,Zr bd hz.1,Zr bd hw.1⟩;(have h8:L.length<=8:=by rw[a8.len];exact a8.n8);rw[<- Kf hx.1, <- Kf hz.1, <- Kf hw.1] at ho;(have hs:kr L [kL fx,iL (bq C 1),kL z,kL fw]=0:=by rw[Kf hx.1,Kf hz.1,Kf hw.1];exact ab2 vh.ok aN);obtain⟨h1,h2,h3⟩:=ajN vh.ok h8 r hs ho;exact⟨r,fun e=>h1 al,fun e=>h2 al,fun e=>h3 al⟩
     have Ax:=hid i0;have X:=hid i1;have tu:=hid i2;have xB:=hid i3;have lV:Hid (∀Z:World,db wr Z ->Z.cell? ⟨gl,0,none⟩=some (.slice d0 (iL (bq C 0)).length k0)/\Z.cell? ⟨gl,1,none⟩=some (.slice d1 (iL (bq C 1)).length k1)/\Z.cell? ⟨gl,2,none⟩=some (.slice d2 (iL (bq C 2)).length k2)/\Z.cell? ⟨gl,3,none⟩=some (.slice d3 (iL (bq C 3)).length k3)):=fun Z i=>⟨(i.cell (p:=⟨gl,0,none⟩) H.o.lt).trans x0,(i.cell (p:=⟨gl,1,none⟩) H.o.lt).trans P,(i.cell (p:=⟨gl,2,none⟩) H.o.lt).trans x2,(i.cell (p:=⟨gl,3,none⟩) H.o.lt).trans x3⟩
     have vT:Hid (cnt (ar V) (ag (iL (bq C 1)))<=100000):=by
      have h1:=S1 (gC vh.ok).fine (aa3 (aT 1)) (fun v hv=>by rw[nE];exact uM (aT 1) v hv);show _<=_;omega
     (have sD:Hid (1+(M:Int)=((M+1:Nat):Int)):=by show _=_;omega);have Pm:=hid (TZ.o d0 k0 0);have Pk:=hid (TZ.o d2 k2 2);have Pj:=hid (TZ.o d3 k3 3);clear TZ i0 i1 i2 i3 e0 e1 e2 e3 z0 z1 z2 z3 vh a8 aT zG aN b9 H po HX DT;generalize lH (jP L ((M+1:Nat):Int) (iL (bq C 0)) (iL (bq C 2)) (iL (bq C 3))) (iL (bq C 1)) (iL (bq C 2)) (ei (iL (bq C 0)) (iL (bq C 3)))=cr at *;generalize iL (bq C 0)=Y0 at *;generalize hY1:iL (bq C 1)=Y at *;generalize iL (bq C 2)=Y2 at *;generalize iL (bq C 3)=Y3 at *;clear KI hY1;go_wp2_with fail
     rw[sD.o];clear A E b2 x0 P x2 x3;refine(bO.o _ HS.o Ax.o X.o tu.o xB.o).af ?_;rintro e wa ⟨rfl,h⟩;have Lf:=hid (HS.o.step h);replace Ax:=hid (Ax.o.aa h);replace X:=hid (X.o.aa h);replace tu:=hid (tu.o.aa h);replace xB:=hid (xB.o.aa h);replace lV:=hid (fun Z (i:db wa Z)=>lV.o Z (h.trans (i.af h.size)));clear h HS bO sD;obtain⟨x0,P,x2,x3⟩:=lV.o wa (au _ _);cases cr with
     |true=>
      obtain⟨n1,n2⟩:=iy.o rfl;(have p1:(0:Int)<(Y.length:Int):=by have:=Jq.2 n1;omega);(have p2:(0:Int)<(Y2.length:Int):=by have:=Jq.2 n2;omega);have P2:Hid (0<Y2.length):=Jq.2 n2;clear n1 n2 iy bm;go_wp2;go_ret;refine⟨?_,Lf.o.fr⟩;show Ending.returned (Value.bool (decide (0<Y2.length)))=_;rw[bX P2.o]
     |false=>
      clear iy;by_cases oK:Y=[]
      ·have CW:((Y.length:Int)==0)=true:=by rw[oK];rfl
       clear oK;go_wp2;go_ret;exact⟨rfl,Lf.o.fr⟩
      ·have CW:((Y.length:Int)==0)=false:=by
        have:=Jq.2 oK;rw[Gr];omega
       clear oK;obtain⟨A,E,b2⟩:=Lf.o.box.cells;go_wp2_with fail
       clear A E b2 x0 P x2 x3 CW;refine(Pm.o _ Lf.o Ax.o).af ?_;rintro e wb ⟨px,qx,fx,rfl,gx,nx,ex,cm,h⟩;have Tt:=hid (Lf.o.step h);replace X:=hid (X.o.aa h);replace tu:=hid (tu.o.aa h);replace xB:=hid (xB.o.aa h);replace lV:=hid (fun Z (i:db wb Z)=>lV.o Z (h.trans (i.af h.size)));have uD:=hid gx;have qm:=hid nx;have bs:=hid ex;have Ge:=hid cm;clear h gx nx ex cm Lf Pm Ax;obtain⟨A,E,b2⟩:=Tt.o.box.cells;obtain⟨x0,P,x2,x3⟩:=lV.o wb (au _ _);go_wp2_with fail
       clear A E b2 x0 P x2 x3;refine(Pk.o _ Tt.o tu.o).af ?_;rintro e wc ⟨pz,qz,z,rfl,gz,nz,ez,cn,h⟩;have Ts:=hid (Tt.o.step h);replace X:=hid (X.o.aa h);replace xB:=hid (xB.o.aa h);replace lV:=hid (fun Z (i:db wc Z)=>lV.o Z (h.trans (i.af h.size)));replace uD:=hid (uD.o.aa h);have Cj:=hid gz;have bj:=hid nz;have bu:=hid ez;have Pc:=hid cn;clear h gz nz ez cn Tt Pk tu;obtain⟨A,E,b2⟩:=Ts.o.box.cells;obtain⟨x0,P,x2,x3⟩:=lV.o wc (au _ _);go_wp2_with fail
       clear A E b2 x0 P x2 x3;refine(Pj.o _ Ts.o xB.o).af ?_;rintro e wd ⟨pw,qw,fw,rfl,gw,nw,ew,cl,h⟩;have bZ:=hid (Ts.o.step h);replace X:=hid (X.o.aa h);replace lV:=hid (fun Z (i:db wd Z)=>lV.o Z (h.trans (i.af h.size)));replace uD:=hid (uD.o.aa h);replace Cj:=hid (Cj.o.aa h);have Gh:=hid gw;have cZ:=hid nw;have ct:=hid cl;obtain⟨zr,ch⟩:=bm.o (by trivial) fx z fw bs.o bu.o ew;have Lh:=hid zr;have yG:=hid ch;clear h gw nw ew cl Ts Pj xB bs bu bm zr ch;have DY:=hid (kj.start wd);have rq:=hid ((au wd.heap.size wd).alloc (ah _) (.cells #[] 30))
       go_upto_region 22 with (at_builtin;first
        |(refine Jz rfl _ _ rfl wd.heap.size _ [] (zF z) rfl DY.o pz qz rfl (Cj.o.aa rq.o) bj.o.2 (by have:=Pc.o;simp;omega) rq.o.size ?_;intro cY cu Mt aq;have IV:=hid Mt;have AD:=hid (rq.o.grown aq rq.o.size DY.o.own);clear Mt aq)
        |(refine Jz rfl _ _ rfl wd.heap.size _ (zF z) (zF fw) rfl IV.o pw qw rfl (Gh.o.aa AD.o) cZ.o.2 (by have:=Pc.o;have:=ct.o;omega) AD.o.size ?_;intro v18 BQ G0 ay;rw[<- aaC] at G0;have OZ:=hid G0;have Pz:=hid (AD.o.grown ay AD.o.size IV.o.own);clear G0 ay))
       have T:Hid (db wd BQ):=Pz.o;have b3:=hid (bZ.o.step T.o);replace X:=hid (X.o.aa T.o);replace lV:=hid (fun Z (i:db BQ Z)=>lV.o Z (T.o.trans (i.af T.o.size)));replace uD:=hid (uD.o.aa T.o);replace Cj:=hid (Cj.o.aa T.o);replace Gh:=hid (Gh.o.aa T.o);obtain⟨pq,qq,rfl,gq,lq, -⟩:=OZ.o.facts;have TQ:=hid gq;have bC:=hid lq;clear AD Pz IV OZ gq lq bZ T DY rq;have qj:=hid (kj.start BQ);have bS:=hid ((au BQ.heap.size BQ).alloc (ah _) (.cells #[] 30))
       go_upto_region 23 with (at_builtin;first
        |(refine Jz rfl _ _ rfl BQ.heap.size _ [] (zF fx) rfl qj.o px qx rfl (uD.o.aa bS.o) qm.o.2 (by have:=Ge.o;simp;omega) bS.o.size ?_;intro cY cu Mt aq;have IV:=hid Mt;have AD:=hid (bS.o.grown aq bS.o.size qj.o.own);clear Mt aq)
        |(refine Jz rfl _ _ rfl BQ.heap.size _ (zF fx) (zF z) rfl IV.o pz qz rfl (Cj.o.aa AD.o) bj.o.2 (by have:=Ge.o;have:=Pc.o;omega) AD.o.size ?_;intro v18 mP G0 ay;rw[<- aaC] at G0;have OZ:=hid G0;have Pz:=hid (AD.o.grown ay AD.o.size IV.o.own);clear G0 ay))
       have T:Hid (db BQ mP):=Pz.o;have Le:=hid (b3.o.step T.o);replace X:=hid (X.o.aa T.o);replace lV:=hid (fun Z (i:db mP Z)=>lV.o Z (T.o.trans (i.af T.o.size)));replace uD:=hid (uD.o.aa T.o);replace Gh:=hid (Gh.o.aa T.o);replace TQ:=hid (TQ.o.aa T.o);obtain⟨pr,qr,rfl,gr,lr, -⟩:=OZ.o.facts;have TP:=hid gr;have Cc:=hid lr;clear AD Pz IV OZ gr lr b3 T qj bS Cj;obtain⟨QI,Vo,QH,cW,r5,r6,r7,r8,r9,nG⟩:=Lh.o;have Bj:eV (ar V) V.length (z++fw):=Vo.app QH r7
       have Bl:eV (ar V) V.length (fx++z):=QI.app Vo fun p hp hm=>by
        obtain⟨q,hq,e⟩:=aH.1 hm;exact r5 q hq (by rw[e];exact aH.2 ⟨p,hp,rfl⟩)
       (have bb:∀ {l m:List (Nat×Nat)} {v:Nat},¬v∈l.map (·.1) ->¬v∈m.map (·.1) ->¬v∈(l++m).map (·.1):=fun h1 h2=>by rw[eh,aZ];exact fun ae=>ae.elim h1 h2);have uE:Hid (∀Z:World,db mP Z ->da 12 #[.agg #[.slice a V.length ca,.slice b L.length cb,.slice c R.length cc],.slice d1 Y.length k1,.slice px (zF fx).length qx,.slice pw (zF fw).length qw] Z fun e w'=>PB V L R fx Y fw e w'/\db Z w'):=fun Z i=>T2.o px pw qx qw fx fw Z (Le.o.step i) (X.o.aa i) (uD.o.aa i) qm.o.1 (Gh.o.aa i) cZ.o.1 QI QH r8 r6 nG;have pg:Hid (∀Z:World,db mP Z ->da 12 #[.agg #[.slice a V.length ca,.slice b L.length cb,.slice c R.length cc],.slice d1 Y.length k1,.slice px (zF fx).length qx,.slice pq (zF (z++fw)).length qq] Z fun e w'=>PB V L R fx Y (z++fw) e w'/\db Z w'):=fun Z i=>T2.o px pq qx qq fx (z++fw) Z (Le.o.step i) (X.o.aa i) (uD.o.aa i) qm.o.1 (TQ.o.aa i) bC.o QI Bj r8 (fun p hp=>(aZ.1 hp).elim (r5 p) (r6 p)) (fun v hv=>bb (r9 v hv) (nG v hv))
       have xD:Hid (∀Z:World,db mP Z ->da 12 #[.agg #[.slice a V.length ca,.slice b L.length cb,.slice c R.length cc],.slice d1 Y.length k1,.slice pr (zF (fx++z)).length qr,.slice pw (zF fw).length qw] Z fun e w'=>PB V L R (fx++z) Y fw e w'/\db Z w'):=fun Z i=>T2.o pr pw qr qw (fx++z) fw Z (Le.o.step i) (X.o.aa i) (TP.o.aa i) Cc.o (Gh.o.aa i) cZ.o.1 Bl QH (fun v hv=>bb (r8 v hv) (r9 v hv)) (fun p hp=>bb (r6 p hp) fun hm=>by
        obtain⟨q,hq,e⟩:=aH.1 hm;exact r7 q hq (by rw[e];exact aH.2 ⟨p,hp,rfl⟩)) nG
       have ri:Hid (∀Z:World,db mP Z ->(Z.cell? ⟨B,0,none⟩=some (.slice a V.length ca)/\Z.cell? ⟨B,1,none⟩=some (.slice b L.length cb)/\Z.cell? ⟨B,2,none⟩=some (.slice c R.length cc))/\Z.cell? ⟨gl,1,none⟩=some (.slice d1 Y.length k1)/\db w Z):=fun Z i=>⟨(Le.o.step i).box.cells,(lV.o Z i).2.1,(Le.o.step i).fr⟩
       have B4:Hid (∀(l m:List Fr) (p q:Kd) (cp cq:Nat) (Z:World),l=m ->l.length<=100000 ->cE Z p l ->cE Z q m ->da 32 #[.slice p l.length cp,.slice q m.length cq] Z fun e w'=>e=.returned (.bool true)/\db Z w'):=fun l m p q cp cq Z e hl h1 h2=>by
        subst e;exact aiG p q cp cq l Z h1 h2 hl
       have HLEN:Hid (∀d l,(dP V L R d Y l).length<=100000):=fun d l=>by
        rw[dP,cH,yU];exact vT.o
       clear QI Vo QH cW r5 r6 r7 r8 r9 nG Bj Bl bb Lh T2 Le lV uD Gh TQ TP X qm cZ bC Cc bj;have Am:=hid (au mP.heap.size mP);obtain⟨⟨A,E,b2⟩,P, -⟩:=ri.o mP Am.o;go_wp2_with fail
       refine(uE.o _ Am.o).af ?_;rintro e Z1 ⟨⟨t1,u1,m1,n1,Oj,IA,s1,rfl,ck,cg⟩,h⟩;have Lz:=hid ((Am.o.trans (h.af Am.o.size)));have gi:=hid ck;have gR:=hid cg;clear h A E b2 P Am ck cg;have u:db Z1 (Z1.alloc (.cells #[.slice t1 m1 Oj,.slice u1 n1 IA] 38)):=(au _ Z1).alloc (ah _) _;have J:bw (Z1.alloc (.cells #[.slice t1 m1 Oj,.slice u1 n1 IA] 38)) Z1.heap.size (.slice t1 m1 Oj) (.slice u1 n1 IA):=eM Z1 _;have mM:=Lz.o.trans (u.af Lz.o.size);have bp:mP.heap.size<=Z1.heap.size:=Lz.o.size;obtain⟨Q,RV⟩:∃g,Z1.heap.size=g:=⟨_,rfl⟩;obtain⟨Z2,R9⟩:∃U,Z1.alloc (.cells #[.slice t1 m1 Oj,.slice u1 n1 IA] 38)=U:=⟨_,rfl⟩;rw[RV] at J bp;rw[R9] at J mM u;have dr:Hid (s1=0 ->dY V L R fx fw≠0/\n1=(dP V L R fx Y fw).length/\cE Z2 u1 (dP V L R fx Y fw)):=fun e=>⟨(gR.o e).1,(gR.o e).2.1,(gR.o e).2.2.aa u⟩;have tB:=hid J;have I:=hid mM;have Ay:=hid bp;clear u J mM bp Lz gR;obtain⟨⟨A,E,b2⟩,P, -⟩:=ri.o Z2 I.o;(have iE:M=0∨M=1∨M=2:=al);clear cS;rcases iE with iE |iE |iE
       ·
        subst iE;go_wp2_with fail
        clear RV R9 A E b2 P;refine(xD.o _ I.o).af ?_;rintro e t ⟨⟨t3,O,m3,n3,oT,sZ,s3,rfl,aj,ad⟩,h⟩;have u:db t (t.alloc (.cells #[.slice t3 m3 oT,.slice O n3 sZ] 38)):=(au _ t).alloc (ah _) _;have J:bw (t.alloc (.cells #[.slice t3 m3 oT,.slice O n3 sZ] 38)) t.heap.size (.slice t3 m3 oT) (.slice O n3 sZ):=eM t _;have ab:=h.trans (u.af h.size);have Nb:=tB.o.lt;have a6:=h.size;obtain⟨s,S⟩:∃g,t.heap.size=g:=⟨_,rfl⟩;obtain⟨Z4,uf⟩:∃U,t.alloc (.cells #[.slice t3 m3 oT,.slice O n3 sZ] 38)=U:=⟨_,rfl⟩;(have Jb:Hid (mP.heap.size<=s):=by rw[<- S];exact aL I.o.size h.size);(have uz:Hid (Q≠s):=by show Q≠s;omega);rw[S] at J;rw[uf] at J ab u;have Ef:=hid J;have Eg:=hid (tB.o.aa ab tB.o.lt);have pA:=hid (I.o.trans (ab.af I.o.size));have gH:Hid (s3=0 ->dY V L R (fx++z) fw≠0/\n3=(dP V L R (fx++z) Y fw).length/\cE Z4 O (dP V L R (fx++z) Y fw)):=fun e=>⟨(ad e).1,(ad e).2.1,(ad e).2.2.aa u⟩;have B8:Hid (s1=0 ->dY V L R fx fw≠0/\n1=(dP V L R fx Y fw).length/\cE Z4 u1 (dP V L R fx Y fw)):=fun e=>⟨(dr.o e).1,(dr.o e).2.1,(dr.o e).2.2.aa ab⟩;have uw:=hid aj;have Gi:=hid S;have Aj:=hid uf;clear h u J ab Nb a6 S uf aj ad;obtain⟨⟨A,E,b2⟩,P, -⟩:=ri.o Z4 pA.o;have S:=Gi.o;have uf:=Aj.o;clear Gi Aj;go_wp2_with fail
        clear S uf A E b2 P;refine(pg.o _ pA.o).af ?_;rintro e Z5 ⟨⟨t5,u5,m5,n5,yu,vu,s5,rfl,aQ,pU⟩,h⟩;have vX:=hid (pA.o.trans (h.af pA.o.size));have Jg:=hid (Eg.o.aa h Eg.o.lt);have Py:=hid (Ef.o.aa h Ef.o.lt);have Tv:Hid (s1=0 ->dY V L R fx fw≠0/\n1=(dP V L R fx Y fw).length/\cE Z5 u1 (dP V L R fx Y fw)):=fun e=>⟨(B8.o e).1,(B8.o e).2.1,(B8.o e).2.2.aa h⟩;have sA:=hid pU;have uu:=hid aQ;clear h pU aQ pA Eg Ef B8 uw gH;obtain⟨c0,c1,f0,f1⟩:=Py.o.facts;have bo:Hid (Q≠s):=uz.o;have lO:bw ((Z5.setCell ⟨s,0,none⟩ (.slice t5 m5 yu)).setCell ⟨s,1,none⟩ (.slice u5 n5 vu)) s (.slice t5 m5 yu) (.slice u5 n5 vu):=Py.o.put _ _;have Nu:bw ((Z5.setCell ⟨s,0,none⟩ (.slice t5 m5 yu)).setCell ⟨s,1,none⟩ (.slice u5 n5 vu)) Q (.slice t1 m1 Oj) (.slice u1 n1 IA):=(Jg.o.off s 0 _ bo.o).off s 1 _ bo.o;have vV:Hid (db mP ((Z5.setCell ⟨s,0,none⟩ (.slice t5 m5 yu)).setCell ⟨s,1,none⟩ (.slice u5 n5 vu))):=(vX.o.setCell (p:=⟨s,0,none⟩) Jb.o _).setCell (p:=⟨s,1,none⟩) Jb.o _;have vM:Hid (s1=0 ->dY V L R fx fw≠0/\n1=(dP V L R fx Y fw).length/\cE ((Z5.setCell ⟨s,0,none⟩ (.slice t5 m5 yu)).setCell ⟨s,1,none⟩ (.slice u5 n5 vu)) u1 (dP V L R fx Y fw)):=fun e=>⟨(Tv.o e).1,(Tv.o e).2.1,Py.o.put_fr _ _ _ _ (Tv.o e).2.2⟩
        have vL:Hid (s5=0 ->dY V L R fx (z++fw)≠0/\n5=(dP V L R fx Y (z++fw)).length/\cE ((Z5.setCell ⟨s,0,none⟩ (.slice t5 m5 yu)).setCell ⟨s,1,none⟩ (.slice u5 n5 vu)) u5 (dP V L R fx Y (z++fw))):=fun e=>⟨(sA.o e).1,(sA.o e).2.1,Py.o.put_fr _ _ _ _ (sA.o e).2.2⟩;have mW:Hid (dY V L R fx fw≠0 ->dY V L R fx (z++fw)≠0 ->dP V L R fx Y fw=dP V L R fx Y (z++fw)):=yG.o.1 (by trivial);obtain⟨-,MN, -, -⟩:=Nu.facts;obtain⟨-,MM, -, -⟩:=lO.facts;clear lO Nu Py Jg vX Tv sA yG uE pg xD bo uz Ay Jb tB dr I;have y:=gi.o;have o:=uu.o;clear gi uu;rcases y with y |y
        ·obtain⟨zA,nA,fA⟩:=vM.o y;rcases o with o |o
         ·obtain⟨zB,nB,fB⟩:=vL.o o;have h9:=B4.o _ _ u1 u5 IA vu _ (mW.o zA zB) (HLEN.o _ _) fA fB;rw[<- nA, <- nB] at h9;have xq:=hid h9;clear h9 zA zB nA nB fA fB vM vL mW B4 HLEN;subst y o;go_wp2_with fail
          refine xq.o.af ?_;rintro e Z9 ⟨rfl,h⟩;have dt:=hid (vV.o.trans (h.af vV.o.size));clear h xq MN MM;go_wp2;go_ret;exact⟨rfl,(ri.o _ dt.o).2.2⟩
         ·subst y o;clear vM vL mW zA nA fA;go_wp2;go_ret;exact⟨rfl,(ri.o _ vV.o).2.2⟩
        ·rcases o with o |o
         all_goals
          subst y o;clear vM vL mW;go_wp2;go_ret;exact⟨rfl,(ri.o _ vV.o).2.2⟩
       ·
        subst iE;go_wp2_with fail
        clear RV R9 A E b2 P;refine(pg.o _ I.o).af ?_;rintro e Z5 ⟨⟨t5,u5,m5,n5,yu,vu,s5,rfl,aQ,pU⟩,h⟩;have vX:=hid (I.o.trans (h.af I.o.size));have Jg:=hid (tB.o.aa h tB.o.lt);have uu:=hid aQ;obtain⟨c0,c1,f0,f1⟩:=Jg.o.facts;have Nu:bw ((Z5.setCell ⟨Q,0,none⟩ (.slice t5 m5 yu)).setCell ⟨Q,1,none⟩ (.slice u5 n5 vu)) Q (.slice t5 m5 yu) (.slice u5 n5 vu):=Jg.o.put _ _;have bf:Hid (db mP ((Z5.setCell ⟨Q,0,none⟩ (.slice t5 m5 yu)).setCell ⟨Q,1,none⟩ (.slice u5 n5 vu))):=(vX.o.setCell (p:=⟨Q,0,none⟩) Ay.o _).setCell (p:=⟨Q,1,none⟩) Ay.o _;have F7:Hid (s5=0 ->dY V L R fx (z++fw)≠0/\n5=(dP V L R fx Y (z++fw)).length/\cE ((Z5.setCell ⟨Q,0,none⟩ (.slice t5 m5 yu)).setCell ⟨Q,1,none⟩ (.slice u5 n5 vu)) u5 (dP V L R fx Y (z++fw))):=fun e=>⟨(pU e).1,(pU e).2.1,Jg.o.put_fr _ _ _ _ (pU e).2.2⟩;have b6:=hid Nu;obtain⟨⟨A,E,b2⟩,P, -⟩:=ri.o _ bf.o;clear h pU aQ Nu I vX tB Jg dr gi;go_wp2_with fail
        clear A E b2 P c0 c1 f0 f1;generalize ((Z5.setCell ⟨Q,0,none⟩ (.slice t5 m5 yu)).setCell ⟨Q,1,none⟩ (.slice u5 n5 vu))=Z2 at *;have I:=bf;have tB:=b6;clear bf b6;refine(xD.o _ I.o).af ?_;rintro e t ⟨⟨t3,O,m3,n3,oT,sZ,s3,rfl,aj,ad⟩,h⟩;have u:db t (t.alloc (.cells #[.slice t3 m3 oT,.slice O n3 sZ] 38)):=(au _ t).alloc (ah _) _;have J:bw (t.alloc (.cells #[.slice t3 m3 oT,.slice O n3 sZ] 38)) t.heap.size (.slice t3 m3 oT) (.slice O n3 sZ):=eM t _;have ab:=h.trans (u.af h.size);have Nb:=tB.o.lt;have a6:=h.size;obtain⟨s,S⟩:∃g,t.heap.size=g:=⟨_,rfl⟩;obtain⟨Z4,uf⟩:∃U,t.alloc (.cells #[.slice t3 m3 oT,.slice O n3 sZ] 38)=U:=⟨_,rfl⟩;(have Jb:Hid (mP.heap.size<=s):=by rw[<- S];exact aL I.o.size h.size);(have uz:Hid (Q≠s):=by show Q≠s;omega);rw[S] at J;rw[uf] at J ab u;have Ef:=hid J;have Eg:=hid (tB.o.aa ab tB.o.lt);have pA:=hid (I.o.trans (ab.af I.o.size));have gH:Hid (s3=0 ->dY V L R (fx++z) fw≠0/\n3=(dP V L R (fx++z) Y fw).length/\cE Z4 O (dP V L R (fx++z) Y fw)):=fun e=>⟨(ad e).1,(ad e).2.1,(ad e).2.2.aa u⟩;have B8:Hid (s5=0 ->dY V L R fx (z++fw)≠0/\n5=(dP V L R fx Y (z++fw)).length/\cE Z4 u5 (dP V L R fx Y (z++fw))):=fun e=>⟨(F7.o e).1,(F7.o e).2.1,(F7.o e).2.2.aa ab⟩;have uw:=hid aj;have Gi:=hid S;have Aj:=hid uf;clear h u J ab Nb a6 S uf aj ad
        have mW:Hid (dY V L R fx (z++fw)≠0 ->dY V L R (fx++z) fw≠0 ->dP V L R fx Y (z++fw)=dP V L R (fx++z) Y fw):=yG.o.2.1 (by trivial);obtain⟨-,MN, -, -⟩:=Eg.o.facts;obtain⟨-,MM, -, -⟩:=Ef.o.facts;have S:=Gi.o;have uf:=Aj.o;have vV:=pA;have vM:=B8;have vL:=gH;clear Gi Aj Eg Ef pA B8 gH yG uE pg xD uz Ay Jb tB F7 I;have y:=uu.o;have o:=uw.o;clear uu uw;rcases y with y |y
        ·obtain⟨zA,nA,fA⟩:=vM.o y;rcases o with o |o
         ·obtain⟨zB,nB,fB⟩:=vL.o o;have h9:=B4.o _ _ u5 O vu sZ _ (mW.o zA zB) (HLEN.o _ _) fA fB;rw[<- nA, <- nB] at h9;have xq:=hid h9;clear h9 zA zB nA nB fA fB vM vL mW B4 HLEN;subst y o;go_wp2_with fail
          refine xq.o.af ?_;rintro e Z9 ⟨rfl,h⟩;have dt:=hid (vV.o.trans (h.af vV.o.size));clear h xq MN MM;go_wp2;go_ret;exact⟨rfl,(ri.o _ dt.o).2.2⟩
         ·subst y o;clear vM vL mW zA nA fA;go_wp2;go_ret;exact⟨rfl,(ri.o _ vV.o).2.2⟩
        ·rcases o with o |o
         all_goals
          subst y o;clear vM vL mW;go_wp2;go_ret;exact⟨rfl,(ri.o _ vV.o).2.2⟩
       ·
        subst iE;go_wp2_with fail
        clear RV R9 A E b2 P;refine(xD.o _ I.o).af ?_;rintro e t ⟨⟨t3,O,m3,n3,oT,sZ,s3,rfl,aj,ad⟩,h⟩;have u:db t (t.alloc (.cells #[.slice t3 m3 oT,.slice O n3 sZ] 38)):=(au _ t).alloc (ah _) _;have J:bw (t.alloc (.cells #[.slice t3 m3 oT,.slice O n3 sZ] 38)) t.heap.size (.slice t3 m3 oT) (.slice O n3 sZ):=eM t _;have ab:=h.trans (u.af h.size);have Nb:=tB.o.lt;have a6:=h.size;obtain⟨s,S⟩:∃g,t.heap.size=g:=⟨_,rfl⟩;obtain⟨Z4,uf⟩:∃U,t.alloc (.cells #[.slice t3 m3 oT,.slice O n3 sZ] 38)=U:=⟨_,rfl⟩;(have Jb:Hid (mP.heap.size<=s):=by rw[<- S];exact aL I.o.size h.size);(have uz:Hid (Q≠s):=by show Q≠s;omega);rw[S] at J;rw[uf] at J ab u;have Ef:=hid J;have Eg:=hid (tB.o.aa ab tB.o.lt);have pA:=hid (I.o.trans (ab.af I.o.size));have gH:Hid (s3=0 ->dY V L R (fx++z) fw≠0/\n3=(dP V L R (fx++z) Y fw).length/\cE Z4 O (dP V L R (fx++z) Y fw)):=fun e=>⟨(ad e).1,(ad e).2.1,(ad e).2.2.aa u⟩;have B8:Hid (s1=0 ->dY V L R fx fw≠0/\n1=(dP V L R fx Y fw).length/\cE Z4 u1 (dP V L R fx Y fw)):=fun e=>⟨(dr.o e).1,(dr.o e).2.1,(dr.o e).2.2.aa ab⟩;have uw:=hid aj;have Gi:=hid S;have Aj:=hid uf;clear h u J ab Nb a6 S uf aj ad;have mW:Hid (dY V L R fx fw≠0 ->dY V L R (fx++z) fw≠0 ->dP V L R fx Y fw=dP V L R (fx++z) Y fw):=yG.o.2.2 (by trivial);obtain⟨-,MN, -, -⟩:=Eg.o.facts;obtain⟨-,MM, -, -⟩:=Ef.o.facts;have S:=Gi.o;have uf:=Aj.o;have vV:=pA;have vM:=B8;have vL:=gH
        clear Gi Aj Eg Ef pA B8 gH yG uE pg xD uz Ay Jb tB dr I;have y:=gi.o;have o:=uw.o;clear gi uw;rcases y with y |y
        ·obtain⟨zA,nA,fA⟩:=vM.o y;rcases o with o |o
         ·obtain⟨zB,nB,fB⟩:=vL.o o;have h9:=B4.o _ _ u1 O IA sZ _ (mW.o zA zB) (HLEN.o _ _) fA fB;rw[<- nA, <- nB] at h9;have xq:=hid h9;clear h9 zA zB nA nB fA fB vM vL mW B4 HLEN;subst y o;go_wp2_with fail
          refine xq.o.af ?_;rintro e Z9 ⟨rfl,h⟩;have dt:=hid (vV.o.trans (h.af vV.o.size));clear h xq MN MM;go_wp2;go_ret;exact⟨rfl,(ri.o _ dt.o).2.2⟩
         ·subst y o;clear vM vL mW zA nA fA;go_wp2;go_ret;exact⟨rfl,(ri.o _ vV.o).2.2⟩
        ·rcases o with o |o
         all_goals
          subst y o;clear vM vL mW;go_wp2;go_ret;exact⟨rfl,(ri.o _ vV.o).2.2⟩
open Go.ChangeShapes Go.WideShapes Go.ChangeAt
variable {fn:Func}
theorem anz {H:Type} {enc:TypeId×Value ->H} {a:Assume} {C:Checked} {os:Os} {f:FuncId} {s:ChangeSpec} {c:List PathCond} {r d O n:Bool} {X:World ->Array Value ->Prop}
  (l:∀(w w':World) (g:Array Value),w.heap=w'.heap ->X w g ->X w' g)
  (own:ownKnob C.prog.godebug=none) (K:os.Started) (u:C.prog.inits.idxOf? f=none) (D:C.prog.funcs[f]? =some fn)
  (L:∃(w:World) (p:Tape) (i:Input),w.os=os/\(w.forCall p i).Shaped C.prog/\i.vars=[]/\Input.okWide C.prog (w.forCall p i) .any w.heap.size f i/\
   ((s.pre enc C.prog fn c r (w.forCall p i).memory i.args/\X (w.forCall p i).memory i.args)/\sizedMet enc C.prog fn (OpenSpec.ofChange s) r (w.forCall p i).memory i.args)/\a.holds C.prog (lone (Frame.enter C.prog f i.args .normal) [] (w.forCall p i)))
  (J:∀(W:World) (E:Nat) (g:Array Value) (ds gs:List (DataW H)) (b:List MemPlace),
   (∀(j:Nat) t v,fn.params[j]? =some t ->g[j]? =some v ->Value.okWide C.prog W .any E t v) ->
   DataW.Whole enc C.prog fn.params.toList s.vars r W g.toList ds gs b ->
   (DataW.weightsEach C.prog (fn.params.toList++s.plain.varTypes C.prog) (ds++gs)).all (·<=reachBytes)=true ->X W g ->W.ShapedOpen C.prog ->
   Calls C.prog f g W fun e W'=>∃v,e=.returned v/\s.post enc C.prog fn r d O n W g v W'):
  ReturnsInHanded a C os f .any (fun w g=>(s.pre enc C.prog fn c r w g/\X w g)/\sizedMet enc C.prog fn (OpenSpec.ofChange s) r w g) (s.post enc C.prog fn r d O n):=by
 refine returnsInHanded_of_calls own K u L ?_;intro w p i _ q _ k F _;obtain⟨_,_,_,A,y,_,_,_,_,I⟩:=k;obtain rfl:A=fn:=ko (y.symm.trans D);obtain⟨⟨⟨ds,gs,b,h,_⟩,x⟩,z⟩:=F;refine(J (w.forCall p i) w.heap.size i.args ds gs b I (DataW.Whole.of_heap (w':=w.forCall p i) (by rfl) h) (z.weights h) (l _ _ _ (by rfl) x) q).af fun e W' ⟨v,m,o⟩=>?_;subst m;exact ChangeSpec.post_blind o
theorem arj {a:Addr} {v:Value} (h:w.cell? a=some v):a.block<w.heap.size:=by
 rcases dG a.block w.heap.size with b |b
 ·exact b
 ·simp[World.cell?,Array.getElem?_eq_none b] at h
def xY {H:Type} (x:Int):DataW H:=.lit (.int .i64 x)
theorem arh:Tryz.prog.cellsOf 3=1:=ao
theorem Qr {H:Type} {enc:TypeId×Value ->H} {W:World} {fuel:Nat} {t:List Value} {x:DataW H×List MemPlace} (I:DataW.trod enc Tryz.prog W 0 (fun _=>true) true fuel 27 t=some x):
  ∃(a:Kd) (cap:Nat) (l:Kh),t=[.slice a l.length cap]/\aC W a l/\(a=none ->cap=0)/\((x.1=.nil/\l=[])∨∃rest,x.1=.slice (l.map xY) rest)/\∀y∈l, -9223372036854775808<=y/\y<=9223372036854775807:=by
 rcases Deep.open_slice Tryz.underlying27 I with ⟨s,q⟩ |⟨o,b,cap,m,n,D,S,s,T,U,V,O,q,u⟩
 ·exact⟨none,0,[],s,fun k p=>absurd p aE,fun _=>rfl,.inl ⟨by rw[q],rfl⟩,fun _ h=>by cases h⟩
 ·have X:b<=m:=by rw[O];split<;>omega
  rw[arh] at u
  have Q:∀i,i<b ->∃z:Int,(W.cell? (o.add (i*1))=some (.int .i64 z)/\ -9223372036854775808<=z/\z<=9223372036854775807)/\D i=xY z:=by
   intro i c;obtain⟨Z,E,F⟩:=u i al;obtain⟨_,aa,R⟩:=World.cells?_some E;obtain⟨z,A,v,P⟩:=DataW.trod_int Tryz.underlying3 F;subst A;simp only[Prod.mk.injEq] at v;have g:=R 0 al;rw[Deep.add_add] at g;exact⟨z,⟨by simpa using g,bounds_i64 P⟩,v.1⟩
  obtain⟨f,d⟩:=Deep.choose_lt (α:=Int) Q;refine⟨some o,cap,(List.range b).map f,by rw[s];simp,?_,fun e=>by(cases e),.inr ⟨(List.range (m - b)).map fun j=>D (b+j),?_⟩,?_⟩
  ·intro k p;(have K:k<b:=by simpa using p);obtain⟨⟨g,_⟩,_⟩:=d k K;obtain⟨⟨M,_⟩,_⟩:=d 0 al;have r:=World.cell?_spot M;obtain⟨w,L,Y⟩:=o;rw[nW] at r;simp[Addr.add] at r;subst r;rw[WideShapes.add_plain] at g;refine⟨w,L,rfl,arj g,?_⟩;simpa using g
  ·rw[q];show DataW.slice _ _=DataW.slice _ _;congr 1
   rw[yT];exact wu fun i c=>(d i (bM.1 c)).2
  ·intro y J;obtain⟨i,c,rfl⟩:=aH.1 J;exact(d i (bM.1 c)).1.2
theorem open_ints {H:Type} {enc:TypeId×Value ->H} {W:World} {r:Reach} {b:Nat} {v:Value} {d:DataW H} {p:List MemPlace} (k:Value.okWide Tryz.prog W r b 27 v) (h:DataW.Trod enc Tryz.prog W 0 (fun _=>true) true 27 v d p):
  ∃(a:Kd) (cap:Nat) (l:Kh),v=.slice a l.length cap/\aC W a l/\(a=none ->cap=0)/\((d=.nil/\l=[])∨∃rest,d=.slice (l.map xY) rest)/\∀x∈l, -9223372036854775808<=x/\x<=9223372036854775807:=by
 obtain⟨a,n,cap,rfl⟩:=okWide_slice Tryz.underlying27 k;obtain⟨u,g⟩:=h;obtain⟨m,o,l,c,i,e,f,j⟩:=Qr g;simp[Value.cells] at c;obtain⟨rfl,rfl,rfl⟩:=c;exact⟨a,cap,l,rfl,i,e,f,j⟩
theorem ary:Tryz.prog.bytesOf 3=8:=ao
theorem Mp {H:Type} {s:List TypeId} {ds:List (DataW H)} (h:(DataW.weightsEach Tryz.prog s ds).all (·<=reachBytes)=true) {d:DataW H} (t:s[j]? =some 27) (c:ds[j]? =some d) (e:(d=.nil/\l=[])∨∃rest,d=.slice (l.map xY) rest):
  l.length<=140737488355328:=by
 rcases e with ⟨_,rfl⟩ |⟨rest,rfl⟩
 ·simp
 have b:=eX.1 h _ (DataW.weights_mem_each t c (((l.map (xY (H:=H))).length+rest.length)*Tryz.prog.bytesOf 3) (by simp[DataW.weights,Tryz.underlying27]));have a:((l.map (xY (H:=H))).length+rest.length)*Tryz.prog.bytesOf 3<=reachBytes:=by simpa using b
 rw[ary,cH] at a;simp only[reachBytes] at a;omega
theorem ard:Tryz.prog.cellsOf 47=4:=ao
theorem arf:Tryz.prog.cellsOf 27=1:=ao
theorem ari:Tryz.prog.cellsOf 4=1:=ao
theorem alT {H:Type} {enc:TypeId×Value ->H} {W:World} {r:Reach} {u:Nat} {v:Value} {d:DataW H} {p:List MemPlace} (Z:Value.okWide Tryz.prog W r u 47 v) (h:DataW.Trod enc Tryz.prog W 0 (fun _=>true) true 47 v d p):
  ∃(b c e:Kd) (f g i:Nat) (L L2 a:Kh) (bk:Bool) (j k n z:DataW H),v=.agg #[.slice b L.length f,.slice c L2.length g,.slice e a.length i,.bool bk]/\d=.agg [j,k,n,z]/\aC W b L/\aC W c L2/\aC W e a/\
   ((j=.nil/\L=[])∨∃rest,j=.slice (L.map xY) rest)/\((k=.nil/\L2=[])∨∃rest,k=.slice (L2.map xY) rest)/\((n=.nil/\a=[])∨∃rest,n=.slice (a.map xY) rest)/\
   (∀x∈L, -9223372036854775808<=x/\x<=9223372036854775807)/\(∀x∈L2, -9223372036854775808<=x/\x<=9223372036854775807)/\(∀x∈a, -9223372036854775808<=x/\x<=9223372036854775807):=by
 obtain⟨w,rfl,s⟩:=okWide_struct Tryz.underlying47 Z;rw[ard] at s;obtain⟨l⟩:=w;match l,s with
 |[c0,f,g,i],_=>
  obtain⟨aa,R⟩:=h;obtain⟨y0,y1,y2,y3,m,o,_,q,y,t,K⟩:=Go.Joins.trod_struct4 Tryz.underlying47 R;simp[Value.cells,arf,ari] at q y t K;obtain⟨b,S,L,A,O,_,I,V⟩:=Qr q;obtain⟨c,T,L2,D,P,_,J,X⟩:=Qr y;obtain⟨e,U,a,E,Q,_,M,Y⟩:=Qr t;obtain⟨nn,F,rfl⟩:=DataW.trod_bool Tryz.underlying4 K;obtain rfl:c0=_:=by simpa using A
  obtain rfl:f=_:=by simpa using D
  obtain rfl:g=_:=by simpa using E
  obtain rfl:i=_:=by simpa using F
  simp only[Prod.mk.injEq] at o;exact⟨b,c,e,S,T,U,L,L2,a,_,_,_,_,_,rfl,o.1,O,P,Q,I,J,M,V,X,Y⟩
theorem ajp {H:Type} {s:List TypeId} {ds:List (DataW H)} (h:(DataW.weightsEach Tryz.prog s ds).all (·<=reachBytes)=true) {L L2 c:Kh} {d a b f:DataW H} (t:s[j]? =some 47) (k:ds[j]? =some (.agg [d,a,b,f])) (h1:(d=.nil/\L=[])∨∃rest,d=.slice (L.map xY) rest) (g:(a=.nil/\L2=[])∨∃rest,a=.slice (L2.map xY) rest) (i:(b=.nil/\c=[])∨∃rest,b=.slice (c.map xY) rest):
  L.length<=140737488355328/\L2.length<=140737488355328/\c.length<=140737488355328:=by
 have e:(DataW.weightsEach Tryz.prog [27,27,27,4] [d,a,b,f]).all (·<=reachBytes)=true:=by
  rw[eX];intro n l;refine eX.1 h _ (DataW.weights_mem_each t k n ?_);simp only[DataW.weights,Tryz.underlying47];exact l
 exact⟨Mp e (j:=0) rfl rfl h1,Mp e (j:=1) rfl rfl g,Mp e (j:=2) rfl rfl i⟩
theorem agV {H:Type} {enc:TypeId×Value ->H} {P:Program} (l:laidOutB P=true) {W:World} (a:db W W'):∀ {s:List TypeId} {vs:List Value} {ds:List (DataW H)} {c:List MemPlace},
  (s.all fun t=>P.readableRec t&&decide (t<P.types.size))=true ->DataW.TrodAll enc P W 0 (fun _=>true) true s vs ds c ->DataW.TrodAll enc P W' 0 (fun b=>decide (b<W.heap.size)) true s vs ds c
 |[],[],[],_,_,h=>h
 |t::s,v::vs,d::ds,_,ht,⟨p,q,h,hr,e⟩=>by
  rw[List.all_cons,iB,iB] at ht;refine⟨p,q,Below.trod l ht.1.1 (mg ht.1.2) h a ?_,agV l a ht.2 hr,e⟩;obtain⟨m,f⟩:=h;exact DataW.trod_lt m _ _ _ f
 |[],_::_,_,_,_,h=>by simp[DataW.TrodAll] at h
 |[],[],_::_,_,_,h=>by simp[DataW.TrodAll] at h
 |_::_,[],_,_,_,h=>by simp[DataW.TrodAll] at h
 |_::_,_::_,[],_,_,h=>by simp[DataW.TrodAll] at h
end Go.Proofs.YtkflnpjapgiajaaGreatDoor
