/- Part5: part 5. -/
import Derived.Test.YtdmdhjmcoijpaaaGreatDoorLegH4
set_option maxRecDepth 100000
set_option maxHeartbeats 400000000
set_option linter.unusedSimpArgs false
set_option linter.unusedVariables false
namespace Go.Proofs.YtdmdhjmcoijpaaaGreatDoor
open Go.RowKit Go.Shelf
theorem agG (a b c q:Option Addr) (ca cb cc cq:Nat) (V:List Vr) (L:List (List Int)) (R:List (List Fr)) (vars:List Int) (w:World) (h:lO w a b c V L R) (hN:xQ w b L) (hs:xP V L R) (hw:∀l∈R,fw l<=4200) (h0:bH V L R=0) (iX:bZ L=0) (h1:1<=L.length) (dD:∀l∈L,l.length<=140737488355328) (hq:aJ w q vars) (eC:vars.length<=1000) (vE:∀U:World,lO U a b c V L R ->du 50 #[.agg #[.slice a V.length ca,.slice b L.length cb,.slice c R.length cc]] U fun e w'=>e=.returned (.int .i64 (bH V L R))/\ef U w'):
  du 54 #[.agg #[.slice a V.length ca,.slice b L.length cb,.slice c R.length cc],.slice q vars.length cq] w fun e w'=>∃g d cd t' fB,e=.returned (.agg #[.slice (some ⟨g,0,none⟩) V.length V.length,.slice d ((iG L).filter fun v:Nat=>vars.contains (v:Int)).length cd,.slice t' ((iG L).filter fun v:Nat=>vars.contains (v:Int)).length fB])/\aJ w' (some ⟨g,0,none⟩) (iL (aw V))/\aJ w' d (iL ((iG L).filter fun v:Nat=>vars.contains (v:Int)))/\iu w' t' (((iG L).filter fun v:Nat=>vars.contains (v:Int)).map fun v=>(gU L v,gL V L R v))/\ef w w'/\ij w.heap.size t' fB:=by
 have aT:=kN h0;have h8:L.length<=8:=by rw[aT.len];exact aT.n8
 have bb:=hid (fun (U:World) (hU:ef w U)=>aiv b cb L U (h.aa hU).pars dD iX);have cS:=hid (fun (x:Option Addr) (cx:Nat) (U:World) (hx:gW U x (mP L))=>alh x cx L U hx (vG iX) h1 h8);have jc:=hid (fun (U:World) (hU:ef w U)=>NB a b c ca cb cc L.length R.length V U (h.aa hU).vars hs.vars.1);have Wb:=hid (fun (v:Nat) (hv:v<V.length) (U:World) (hU:ef w U)=>akB a b c ca cb cc v V L R U (h.aa hU) (hN.aa h.pars hU) hs hw h0 hv vE);have wk:Hid (∀(x:Int) (U:World),ef w U ->du 101 #[.slice q vars.length cq,.int .i64 x] U fun e w'=>e=.returned (.bool (vars.contains x))/\ef U w'):=fun x U hU=>Jt q cq vars x U (hq.aa hU) al;have qa:=(au w.heap.size w).alloc (aq _) (NC (.slice a V.length ca) (.slice b L.length cb) (.slice c R.length cc));have qU:=qa.alloc qa.size (.cells #[.slice none 0 0,.slice none 0 0,.slice none 0 0] 100);have T1:=dQ.at (w:=w) rfl (.slice a V.length ca) (.slice b L.length cb) (.slice c R.length cc);have OC:=T1.aa ((au _ _).alloc (aq _) (.cells #[.slice none 0 0,.slice none 0 0,.slice none 0 0] 100)) T1.lt;have jZ:bQ ((w.alloc (NC (.slice a V.length ca) (.slice b L.length cb) (.slice c R.length cc))).alloc (.cells #[.slice none 0 0,.slice none 0 0,.slice none 0 0] 100)) (w.heap.size+1) (.slice none 0 0) (.slice none 0 0) (.slice none 0 0):=bQ.at (w:=w.alloc (NC (.slice a V.length ca) (.slice b L.length cb) (.slice c R.length cc))) aE _ _ _;have n1:=OC.cells.2.1
 obtain⟨F,CM⟩:∃F:Nat ->List Nat,∀k,((iG L).take k).filter (fun v:Nat=>vars.contains (v:Int))=F k:=⟨fun k=>((iG L).take k).filter (fun v:Nat=>vars.contains (v:Int)),fun _=>rfl⟩;obtain⟨TL,rV⟩:∃TL:Nat ->List Tb,∀k,(F k).map (fun v=>(gU L v,gL V L R v))=TL k:=⟨fun k=>(F k).map (fun v=>(gU L v,gL V L R v)),fun _=>rfl⟩;have Ep:(iG L).length=L.length:=by rw[Nx];simp
 have nD:Hid (∀i,i<L.length ->∃v:Nat,v<V.length/\(∀(d1:Option Addr) (U:World),aJ U d1 (iL (iG L)) ->∃g ab,d1=some ⟨g,ab,none⟩/\g<U.heap.size/\U.cell? ⟨g,ab+i,none⟩=some (.int .i64 (v:Nat)))/\(vars.contains (v:Int)=true ->F (i+1)=F i++[v])/\(vars.contains (v:Int)=false ->F (i+1)=F i)):=fun i hi=>by
  have Oo:i<(iG L).length:=al
  have J9:i<(iL (iG L)).length:=by rw[bI];exact Oo
  refine⟨(iG L)[i],?_,fun d1 U hU=>?_,fun h=>?_,fun h=>?_⟩
  ·rw[<- aT.len];exact RY (vG iX) h1 h8 (bF Oo)
  ·obtain⟨g,ab,e,hg,hc⟩:=hU i J9;refine⟨g,ab,e,hg,?_⟩;rw[hc];simp[iL]
  ·rw[<- CM, <- CM,iF Oo,BL,BI (p:=fun v:Nat=>vars.contains (v:Int)) h];rfl
  ·rw[<- CM, <- CM,iF Oo,BL,BK (p:=fun v:Nat=>vars.contains (v:Int)) (by rw[h];decide)];simp
 have Qm:Hid (F 0=[]/\TL 0=[]):=by show _/\_;rw[<- rV, <- CM];exact⟨rfl,rfl⟩
 have fO:Hid (∀k,(F k).length<=8):=fun k=>by rw[<- CM];exact aR (pH ..) (by rw[eE];omega)
 have Vk:Hid (∀k,(TL k).length<=8):=fun k=>by rw[<- rV,dM];exact fO.o k
 have Da:Hid (∀(k v:Nat),F (k+1)=F k++[v] ->iL (F (k+1))=iL (F k)++[(v:Int)]/\TL (k+1)=TL k++[(gU L v,gL V L R v)]):=fun k v h=>by rw[<- rV, <- rV,h,eP,iL,eP];exact⟨rfl,rfl⟩
 have Lt:Hid (∀k,F (k+1)=F k ->TL (k+1)=TL k):=fun k h=>by rw[<- rV, <- rV,h]
 have Wj:Hid (F L.length=(iG L).filter (fun v:Nat=>vars.contains (v:Int))):=by show _=_;rw[<- CM, <- Ep,jR]
 have vQ:Hid (TL L.length=((iG L).filter (fun v:Nat=>vars.contains (v:Int))).map fun v=>(gU L v,gL V L R v)):=by show _=_;rw[<- rV,Wj.o]
 have bh:(TL L.length).length=(F L.length).length:=by rw[<- rV,dM]
 rw[<- Wj.o] at vQ⊢;rw[<- vQ.o];clear CM rV Wj vQ Ep h hN hs hw hq vE qa T1;go_enter Tryz.func54,Tryz.ntmps54;go_wp2_with fail
 generalize ((w.alloc (NC (.slice a V.length ca) (.slice b L.length cb) (.slice c R.length cc))).alloc (.cells #[.slice none 0 0,.slice none 0 0,.slice none 0 0] 100))=W0 at *;refine(bb.o W0 qU).af ?_;rintro e w1 ⟨G1,rfl,iW,av⟩;have ay:=qU.trans (av.af qU.size);have CH:=OC.aa av OC.lt;have az:=jZ.aa av jZ.lt;have Dp:=hid (cS.o _ L.length w1 iW);clear n1 OC jZ qU av iW;go_wp2_with fail
 refine Dp.o.af ?_;rintro e w2 ⟨d1,bA,G2,rfl,uo,ax⟩;have aj:=ay.trans (ax.af ay.size);have zg:=CH.aa ax CH.lt;have an:=az.aa ax az.lt;obtain⟨n0,n1,n2⟩:=zg.cells;have qi:=hid (jc.o w2 aj);clear ay CH az ax Dp;go_wp2_with fail
 refine qi.o.af ?_;rintro e n ⟨G,rfl,hG,a1,ai⟩;have bT:=aj.trans (ai.af aj.size);have TZ:=zg.aa ai zg.lt;have lC:=an.aa ai an.lt;have KD:=uo.aa ai;have bJ:=an.lt;have bL:=ai.size;have mj:=(au n.heap.size n).alloc (aq _) (.cells #[.slice (some ⟨G,0,none⟩) V.length V.length,.slice none 0 0,.slice none 0 0] 100);have ku:(n.alloc (.cells #[.slice (some ⟨G,0,none⟩) V.length V.length,.slice none 0 0,.slice none 0 0] 100)).heap.size=n.heap.size+1:=aE
 have eW:=hid (bT.trans (mj.af bT.size));have uK:=hid (TZ.aa mj TZ.lt);have kd:=hid (lC.alloc (.cells #[.slice (some ⟨G,0,none⟩) V.length V.length,.slice none 0 0,.slice none 0 0] 100));have Md:=hid (KD.aa mj);have br:=hid (a1.ints.aa mj);have OJ:=a1.lt;have vV:Hid (lM (n.alloc (.cells #[.slice (some ⟨G,0,none⟩) V.length V.length,.slice none 0 0,.slice none 0 0] 100)) n.heap.size (.slice (some ⟨G,0,none⟩) V.length V.length) (.slice none 0 0) (.slice none 0 0) (.slice none 0 0) (.slice none 0 0) (iL []) [] [] (n.alloc (.cells #[.slice (some ⟨G,0,none⟩) V.length V.length,.slice none 0 0,.slice none 0 0] 100))):=lM.start (bQ.at (w:=n) rfl (.slice (some ⟨G,0,none⟩) V.length V.length) (.slice none 0 0) (.slice none 0 0));have bm:=hid mj
 have a7:Hid (∀U:World,(n.alloc (.cells #[.slice (some ⟨G,0,none⟩) V.length V.length,.slice none 0 0,.slice none 0 0] 100)).grownBy U (some n.heap.size) ->aJ U d1 (iL (iG L))):=fun U hU=>JM Md.o (fun g ab e ae e2=>by
  obtain⟨g',o',e',iI,_⟩:=KD 0 (by cases hl:iL (iG L) with |nil=>exact absurd hl ae |cons x l=>simp);rw[e] at e';cases e';cases e2;omega) hU
 have bp:Hid (∀U:World,(n.alloc (.cells #[.slice (some ⟨G,0,none⟩) V.length V.length,.slice none 0 0,.slice none 0 0] 100)).grownBy U (some n.heap.size) ->aJ U (some ⟨G,0,none⟩) (iL (aw V))):=fun U hU=>JM br.o (fun g ab e ae e2=>by
  cases e;cases e2;omega) hU
 clear aj bT zg TZ an lC KD uo mj a1 ai n0 n1 n2 qi jc bb cS h0 iX aT dD;go_wp2_with fail
 generalize (n.alloc (.cells #[.slice (some ⟨G,0,none⟩) V.length V.length,.slice none 0 0,.slice none 0 0] 100))=W4 at *;have ad:n.heap.size<W4.heap.size:=al
 go_loopw [32] (fun iv wr=>∃(i:Nat) (fv tv:Value) (Q:List (Value×Value)),i<=L.length/\iv=.int .i64 i/\Hid (lM W4 n.heap.size (.slice (some ⟨G,0,none⟩) V.length V.length) fv tv fv tv (iL (F i)) Q (TL i) wr)) (fun iv _=>L.length - (intOf iv).toNat)
 case atStart=>exact⟨0,_,_,_,aV _,rfl,by rw[Qm.o.1,Qm.o.2];exact vV⟩
 case round=>
  obtain⟨i,fv,tv,Q,hi,rfl,H⟩:=hrel;have y9:=H.o.fr.size;have HB:Hid (ef w wr):=KL eW.o H.o.fr al al;have mD:Hid (ef n wr):=KL bm.o H.o.fr al al;have Ie:Hid (dQ wr w.heap.size (.slice a V.length ca) (.slice b L.length cb) (.slice c R.length cc)):=(H.o.fr.block _ uK.o.lt (fun e=>by have:=oP e;omega)).trans uK.o;have q9:Hid (bQ wr (w.heap.size+1) (.slice none 0 0) (.slice none 0 0) (.slice none 0 0)):=(H.o.fr.block _ kd.o.lt (fun e=>by have:=oP e;omega)).trans kd.o;by_cases bz:i<L.length
  ·obtain⟨v,hv,bk,aS,TW⟩:=nD.o i bz;obtain⟨g,ab,rfl,hg,hc⟩:=bk d1 wr (a7.o wr H.o.fr);have HX:=hid (wk.o (v:Int) wr HB.o);have a6:=hid (Wb.o v hv);have j8:=hid (fun h=>Da.o i v (aS h));have tH:=hid TW;clear bk aS TW kd uK q9;generalize vars.contains (v:Int)=bv at *;go_wp2_with fail
   refine HX.o.af ?_;rintro e w5 ⟨rfl,Kp⟩;have sk:=hid (H.o.under Kp);have Fc:=hid (Ie.o.aa Kp Ie.o.lt);have dI:=hid (HB.o.trans (Kp.af HB.o.size));have bM:=Kp.size;have qm:Hid (∀Z,fv.ownBlock=some Z ->Z<wr.heap.size):=fun Z hZ=>(rJ H.o.fo Z hZ).2;have Df:Hid (∀Z,tv.ownBlock=some Z ->Z<wr.heap.size):=fun Z hZ=>(H.o.own.lt Z hZ).2;clear hc HX H Ie HB Kp mD;cases bv with
   |false=>
    replace tH:=hid (tH.o rfl);replace Lt:=hid (Lt.o i tH.o);go_wp2;go_roundw
    case rel=>exact⟨i+1,fv,tv,Q,al,b5,by rw[tH.o,Lt.o];exact sk⟩
    case measure=>simp[intOf];omega
   |true=>
    obtain⟨n0,n1,n2⟩:=Fc.o.cells;have ye:=hid (a6.o w5 dI.o);replace j8:=hid (j8.o rfl);clear a6 tH dI Wb wk Lt Da;go_wp2_with fail
    refine ye.o.af ?_;rintro e w6 ⟨⟨u1,u2,rfl,qP,bl⟩,eT⟩;have A0:=hid qP.slices;have bN:=eT.size;have pz:Hid (∀Z,Z<wr.heap.size ->gA Z (gU L v,gL V L R v) (u1,u2)):=fun Z hZ=>bl Z al;have Ih:=hid (sk.o.under eT);have bc:=hid qP;obtain⟨u,D,I,rfl⟩:=qP.slices.1;obtain⟨z,A,E,rfl⟩:=qP.slices.2;clear qP bl ye n0 n1 n2 Fc sk;go_upto_region 9 with (fail)
    have zh:=(au w6.heap.size w6).alloc (aq _) (TC (.slice u D I) (.slice z A E));have O:=hid (nB.new Ih.o (.slice u D I) (.slice z A E));have H:=hid (Ih.o.under zh);have o:=hid (bc.o.aa zh);(have ae:w6.heap.size≠n.heap.size:=al);clear zh Ih bc eT;generalize akq:w6.heap.size=FD at *;obtain⟨W8,TR⟩:∃W8,w6.alloc (TC (.slice u D I) (.slice z A E))=W8:=⟨_,rfl⟩;have bg:w6.alloc (.cells #[.slice u D I,.slice z A E] 49)=W8:=TR;rw[TR] at O H o;simp only[bg];clear TR bg akq;have xE:ef W8 W8.drew:=(au W8.heap.size W8).drew;replace O:=hid (O.o.under xE);replace H:=hid (H.o.under xE);replace o:=hid (o.o.aa xE);clear xE;obtain⟨D5,AE⟩:∃D5,W8.drew=D5:=⟨_,rfl⟩;rw[AE] at O H o;refine QO 11 (kV n.heap.size FD fv tv (.slice u D I) (.slice z A E)) ao (by rw[AE];exact kV.of H.o O.o false) (fun m=>?_);rw[AE] at m⊢;clear AE;(try simp only[gE,aP]);refine gF (i:=0) (oi:=_) (v:=.pointer (some ⟨n.heap.size,1,none⟩)) (b:=false) rfl ao ao ao bd (fun _ _ _ h=>h) (Or.inl ⟨by rfl,?_⟩) ao dj ?_
    ·intro u' aO;go_simp
    (try simp only[gE,aP]);refine FU (i:=1) (oi:=_) (v:=fv) rfl ao ao ao bd rfl ao (fun _ _ _ h=>h) (Or.inl ⟨by rfl,?_⟩) ao dj ?_
    ·intro u' aO;(try simp only[gE]);obtain⟨⟨_,_⟩,OA⟩:=aO;obtain⟨bu,bx⟩:=OA rfl;go_simp
    (try simp only[gE,aP]);refine gF (i:=2) (oi:=_) (v:=.int .i64 (v:Nat)) (b:=false) rfl ao ao ao bd (fun _ _ _ h=>h) (Or.inl ⟨by rfl,?_⟩) ao dj ?_
    ·intro u' aO;go_simp
    (try simp only[gE,aP]);refine gF (i:=5) (oi:=_) (v:=.pointer (some ⟨n.heap.size,2,none⟩)) (b:=false) rfl ao ao ao bd (fun _ _ _ h=>h) (Or.inl ⟨by rfl,?_⟩) ao dj ?_
    ·intro u' aO;go_simp
    (try simp only[gE,aP]);refine FU (i:=6) (oi:=_) (v:=tv) rfl ao ao ao bd rfl ao (fun _ _ _ h=>h) (Or.inl ⟨by rfl,?_⟩) ao dj ?_
    ·intro u' aO;(try simp only[gE]);obtain⟨⟨_,_⟩,OA⟩:=aO;obtain⟨bu,bx⟩:=OA rfl;go_simp
    (try simp only[gE,aP]);refine gF (i:=7) (oi:=_) (v:=.agg #[.slice u D I,.slice z A E]) (b:=false) rfl ao ao ao bd (fun _ _ _ h=>h) (Or.inl ⟨by rfl,?_⟩) ao dj ?_
    ·intro u' aO;(try simp only[gE]);obtain⟨_,⟨TW,aS⟩,_⟩:=aO;go_simp
    (try simp only[gE,aP]);refine fR (rs:=[3,8]) ao aE (bt.cons (b:=false) rfl ao ?_ (bt.cons (b:=false) rfl ao ?_ (bt.nil)))
    ·intro s K;go_simp;have t:=(au D5.heap.size D5).alloc (aq _) (.cells #[.int .i64 (v:Nat)] 3);have qp:=hid (a8 D5 3 (.int .i64 (v:Nat))).cell;replace H:=hid (H.o.under t);replace O:=hid (O.o.under t);replace o:=hid (o.o.aa t);refine K.o _ _ (kV.of H.o O.o false) (fun f=>?_);clear t K s m;have m:=f;clear f;obtain⟨ga,mi⟩:∃ga,D5.heap.size=ga:=⟨_,rfl⟩;obtain⟨ua,l8⟩:∃ua,D5.alloc (.cells #[.int .i64 (v:Nat)] 3)=ua:=⟨_,rfl⟩;rw[mi,l8] at qp;rw[l8] at H O o;simp only[l8] at m⊢;simp only[mi];clear l8 mi;(try simp only[gE,aP]);refine fR (rs:=[4,8]) ao aE (bt.cons (b:=false) rfl ao ?_ (bt.cons (b:=false) rfl ao ?_ (bt.nil)))
     ·intro s K;rw[aA (by rfl)];refine QQ _ _ rfl W4.heap.size fv (iL (F i)) (v:Int) rfl H.o.fo ga rfl qp.o (by rw[bI];have:=fO.o i;omega) H.o.fr.size ?_;intro CT w9 rQ Y mV
      have Di:Hid (∀Z,CT.ownBlock=some Z ->gA Z (gU L v,gL V L R v) (.slice u D I,.slice z A E)):=fun Z hR=>by
       rcases mV with hn |hn
       ·exact pz.o Z (qm.o Z (by rw[<- hn];exact hR))
       ·exact o.o.lt (hn Z hR)
      replace o:=hid (o.o.keepR (fun r hr=>pz.o r (qm.o r hr)) Y);replace O:=hid (O.o.pushF Y mV);replace H:=hid (H.o.pushF ad rQ Y mV)
      obtain⟨X,J,M,rfl⟩:∃X J M,CT=Value.slice J X M:=by
       obtain⟨J,M,e⟩:=vg rQ;exact⟨_,J,M,e⟩
      refine K.o _ _ (kV.of H.o O.o false) (fun f=>?_);clear rQ Y mV qp K s m;have m:=f;clear f;(try simp only[gE,aP]);refine gF (i:=10) (oi:=_) (v:=.pointer (some ⟨n.heap.size,1,none⟩)) (b:=false) rfl ao ao ao bd (fun _ _ _ h=>h) (Or.inl ⟨by rfl,?_⟩) ao dj ?_
      ·intro u' aO;go_simp
      (try simp only[gE,aP]);refine fR (rs:=[8]) ao aE (bt.cons (b:=false) rfl ao ?_ (bt.nil))
      ·intro s K;go_simp;have t:=(au w9.heap.size w9).alloc (aq _) (TC (.slice u D I) (.slice z A E));have P:=hid (nB.new H.o (.slice u D I) (.slice z A E));replace H:=hid (H.o.under t);replace O:=hid (O.o.under t);replace o:=hid (o.o.aa t);refine K.o _ _ (kV.of H.o O.o false) (fun f=>?_);clear t K s m;have m:=f;clear f;obtain⟨gt,sY⟩:∃gt,w9.heap.size=gt:=⟨_,rfl⟩;obtain⟨ut,nX⟩:∃ut,w9.alloc (TC (.slice u D I) (.slice z A E))=ut:=⟨_,rfl⟩;have Cc:w9.alloc (.cells #[.slice u D I,.slice z A E] 49)=ut:=nX;rw[sY,nX] at P;rw[nX] at H O o;simp only[Cc] at m⊢;simp only[sY];clear nX Cc sY;(try simp only[gE,aP]);refine fR (rs:=[9]) ao aE (bt.cons (b:=false) rfl ao ?_ (bt.nil))
       ·intro s K;rw[aA (by rfl)];refine QP _ _ rfl W4.heap.size tv (TL i).length (eM Q) (.slice u D I) (.slice z A E) rfl H.o.own.own gt rfl P.o.tb.c0 P.o.tb.c1 A0.o.1 A0.o.2 (by have:=Vk.o i;omega) H.o.fr.size ?_;intro dZ cC gi gR im;replace O:=hid (O.o.pushT gR im);replace H:=hid (H.o.pushT ad o.o (fun Z hZ=>pz.o Z (Df.o Z hZ)) Di.o (fun Z hZ=>pz.o Z al) gi gR im);obtain⟨S,T,rfl⟩:=vg gi;refine K.o _ _ (kV.of H.o O.o false) (fun f=>?_);clear gi gR im P o Di K s m;have m:=f;clear f;have c1:=H.o.box.cells.2.1;have f1:=H.o.box.fz 1;refine fR (rs:=[11]) ao aE (bt.cons (b:=true) rfl ao ?_ (bt.nil))
        ·intro s K;go_simp;replace H:=hid (H.o.set1 ad (.slice J X M));replace O:=hid (O.o.off n.heap.size 1 (.slice J X M) ae);refine K.o _ _ (kV.late O.o) (fun f=>?_);clear c1 f1 K s m;have m:=f;clear f;(try simp only[gE,aP]);refine gF (i:=12) (oi:=_) (v:=.pointer (some ⟨n.heap.size,2,none⟩)) (b:=true) rfl ao ao ao bd (fun _ _ _ h=>h) (Or.inl ⟨by rfl,?_⟩) ao dj ?_
         ·intro u' aO;go_simp
         have c2:=H.o.box.cells.2.2;have f2:=H.o.box.fz 2;refine fR (rs:=[13]) ao aE (bt.cons (b:=true) rfl ao ?_ (bt.nil))
         ·intro s K;go_simp;replace H:=hid (H.o.set2 ad (.slice S ((TL i).length+1) T));replace O:=hid (O.o.off n.heap.size 2 (.slice S ((TL i).length+1) T) ae);refine K.o _ _ (kV.late O.o) (fun f=>?_);clear c2 f2 K s m;have m:=f;clear f;(try simp only[gE,aP]);refine I8 ao ?_ _;clear m O;generalize (((cC.setCell ⟨n.heap.size,1,none⟩ (.slice J X M))).setCell ⟨n.heap.size,2,none⟩ (.slice S ((TL i).length+1) T))=tZ at *;go_wp2;go_roundw
          case rel=>exact⟨i+1,_,_,_,al,b5,by rw[j8.o.1,j8.o.2];exact H⟩
          case measure=>simp[intOf];omega
     ·intro s K;go_simp;have t:=(au ua.heap.size ua).alloc (aq _) (TC (.slice u D I) (.slice z A E));have P:=hid (nB.new H.o (.slice u D I) (.slice z A E));replace H:=hid (H.o.under t);replace O:=hid (O.o.under t);replace o:=hid (o.o.aa t);replace qp:=hid (((t.cell (p:=⟨ga,0,none⟩) (World.block_lt_of_cell? _ _ qp.o))).trans qp.o);refine K.o _ _ (kV.of H.o O.o false) (fun f=>?_);clear t K s m;have m:=f;clear f;obtain⟨gt,sY⟩:∃gt,ua.heap.size=gt:=⟨_,rfl⟩;obtain⟨ut,nX⟩:∃ut,ua.alloc (TC (.slice u D I) (.slice z A E))=ut:=⟨_,rfl⟩;have Cc:ua.alloc (.cells #[.slice u D I,.slice z A E] 49)=ut:=nX;rw[sY,nX] at P;rw[nX] at H O o qp;simp only[Cc] at m⊢;simp only[sY];clear nX Cc sY;(try simp only[gE,aP]);refine fR (rs:=[4]) ao aE (bt.cons (b:=false) rfl ao ?_ (bt.nil))
      ·intro s K;rw[aA (by rfl)];refine QQ _ _ rfl W4.heap.size fv (iL (F i)) (v:Int) rfl H.o.fo ga rfl qp.o (by rw[bI];have:=fO.o i;omega) H.o.fr.size ?_;intro CT w9 rQ Y mV
       have Di:Hid (∀Z,CT.ownBlock=some Z ->gA Z (gU L v,gL V L R v) (.slice u D I,.slice z A E)):=fun Z hR=>by
        rcases mV with hn |hn
        ·exact pz.o Z (qm.o Z (by rw[<- hn];exact hR))
        ·exact o.o.lt (hn Z hR)
       replace o:=hid (o.o.keepR (fun r hr=>pz.o r (qm.o r hr)) Y);replace P:=hid (P.o.pushF Y mV);replace O:=hid (O.o.pushF Y mV);replace H:=hid (H.o.pushF ad rQ Y mV)
       obtain⟨X,J,M,rfl⟩:∃X J M,CT=Value.slice J X M:=by
        obtain⟨J,M,e⟩:=vg rQ;exact⟨_,J,M,e⟩
       refine K.o _ _ (kV.of H.o O.o false) (fun f=>?_);clear rQ Y mV qp K s m;have m:=f;clear f;(try simp only[gE,aP]);refine gF (i:=10) (oi:=_) (v:=.pointer (some ⟨n.heap.size,1,none⟩)) (b:=false) rfl ao ao ao bd (fun _ _ _ h=>h) (Or.inl ⟨by rfl,?_⟩) ao dj ?_
       ·intro u' aO;go_simp
       (try simp only[gE,aP]);refine fR (rs:=[9]) ao aE (bt.cons (b:=false) rfl ao ?_ (bt.nil))
       ·intro s K;rw[aA (by rfl)];refine QP _ _ rfl W4.heap.size tv (TL i).length (eM Q) (.slice u D I) (.slice z A E) rfl H.o.own.own gt rfl P.o.tb.c0 P.o.tb.c1 A0.o.1 A0.o.2 (by have:=Vk.o i;omega) H.o.fr.size ?_;intro dZ cC gi gR im;replace O:=hid (O.o.pushT gR im);replace H:=hid (H.o.pushT ad o.o (fun Z hZ=>pz.o Z (Df.o Z hZ)) Di.o (fun Z hZ=>pz.o Z al) gi gR im);obtain⟨S,T,rfl⟩:=vg gi;refine K.o _ _ (kV.of H.o O.o false) (fun f=>?_);clear gi gR im P o Di K s m;have m:=f;clear f;have c1:=H.o.box.cells.2.1;have f1:=H.o.box.fz 1;refine fR (rs:=[11]) ao aE (bt.cons (b:=true) rfl ao ?_ (bt.nil))
        ·intro s K;go_simp;replace H:=hid (H.o.set1 ad (.slice J X M));replace O:=hid (O.o.off n.heap.size 1 (.slice J X M) ae);refine K.o _ _ (kV.late O.o) (fun f=>?_);clear c1 f1 K s m;have m:=f;clear f;(try simp only[gE,aP]);refine gF (i:=12) (oi:=_) (v:=.pointer (some ⟨n.heap.size,2,none⟩)) (b:=true) rfl ao ao ao bd (fun _ _ _ h=>h) (Or.inl ⟨by rfl,?_⟩) ao dj ?_
         ·intro u' aO;go_simp
         have c2:=H.o.box.cells.2.2;have f2:=H.o.box.fz 2;refine fR (rs:=[13]) ao aE (bt.cons (b:=true) rfl ao ?_ (bt.nil))
         ·intro s K;go_simp;replace H:=hid (H.o.set2 ad (.slice S ((TL i).length+1) T));replace O:=hid (O.o.off n.heap.size 2 (.slice S ((TL i).length+1) T) ae);refine K.o _ _ (kV.late O.o) (fun f=>?_);clear c2 f2 K s m;have m:=f;clear f;(try simp only[gE,aP]);refine I8 ao ?_ _;clear m O;generalize (((cC.setCell ⟨n.heap.size,1,none⟩ (.slice J X M))).setCell ⟨n.heap.size,2,none⟩ (.slice S ((TL i).length+1) T))=tZ at *;go_wp2;go_roundw
          case rel=>exact⟨i+1,_,_,_,al,b5,by rw[j8.o.1,j8.o.2];exact H⟩
          case measure=>simp[intOf];omega
    ·intro s K;go_simp;have t:=(au D5.heap.size D5).alloc (aq _) (TC (.slice u D I) (.slice z A E));have P:=hid (nB.new H.o (.slice u D I) (.slice z A E));replace H:=hid (H.o.under t);replace O:=hid (O.o.under t);replace o:=hid (o.o.aa t);refine K.o _ _ (kV.of H.o O.o false) (fun f=>?_);clear t K s m;have m:=f;clear f;obtain⟨gt,sY⟩:∃gt,D5.heap.size=gt:=⟨_,rfl⟩;obtain⟨ut,nX⟩:∃ut,D5.alloc (TC (.slice u D I) (.slice z A E))=ut:=⟨_,rfl⟩;have Cc:D5.alloc (.cells #[.slice u D I,.slice z A E] 49)=ut:=nX;rw[sY,nX] at P;rw[nX] at H O o;simp only[Cc] at m⊢;simp only[sY];clear nX Cc sY;(try simp only[gE,aP]);refine fR (rs:=[3]) ao aE (bt.cons (b:=false) rfl ao ?_ (bt.nil))
     ·intro s K;go_simp;have t:=(au ut.heap.size ut).alloc (aq _) (.cells #[.int .i64 (v:Nat)] 3);have qp:=hid (a8 ut 3 (.int .i64 (v:Nat))).cell;replace H:=hid (H.o.under t);replace O:=hid (O.o.under t);replace P:=hid (P.o.under t);replace o:=hid (o.o.aa t);refine K.o _ _ (kV.of H.o O.o false) (fun f=>?_);clear t K s m;have m:=f;clear f;obtain⟨ga,mi⟩:∃ga,ut.heap.size=ga:=⟨_,rfl⟩;obtain⟨ua,l8⟩:∃ua,ut.alloc (.cells #[.int .i64 (v:Nat)] 3)=ua:=⟨_,rfl⟩;rw[mi,l8] at qp;rw[l8] at H O o P;simp only[l8] at m⊢;simp only[mi];clear l8 mi;(try simp only[gE,aP]);refine fR (rs:=[4]) ao aE (bt.cons (b:=false) rfl ao ?_ (bt.nil))
      ·intro s K;rw[aA (by rfl)];refine QQ _ _ rfl W4.heap.size fv (iL (F i)) (v:Int) rfl H.o.fo ga rfl qp.o (by rw[bI];have:=fO.o i;omega) H.o.fr.size ?_;intro CT w9 rQ Y mV
       have Di:Hid (∀Z,CT.ownBlock=some Z ->gA Z (gU L v,gL V L R v) (.slice u D I,.slice z A E)):=fun Z hR=>by
        rcases mV with hn |hn
        ·exact pz.o Z (qm.o Z (by rw[<- hn];exact hR))
        ·exact o.o.lt (hn Z hR)
       replace o:=hid (o.o.keepR (fun r hr=>pz.o r (qm.o r hr)) Y);replace P:=hid (P.o.pushF Y mV);replace O:=hid (O.o.pushF Y mV);replace H:=hid (H.o.pushF ad rQ Y mV)
       obtain⟨X,J,M,rfl⟩:∃X J M,CT=Value.slice J X M:=by
        obtain⟨J,M,e⟩:=vg rQ;exact⟨_,J,M,e⟩
       refine K.o _ _ (kV.of H.o O.o false) (fun f=>?_);clear rQ Y mV qp K s m;have m:=f;clear f;(try simp only[gE,aP]);refine gF (i:=10) (oi:=_) (v:=.pointer (some ⟨n.heap.size,1,none⟩)) (b:=false) rfl ao ao ao bd (fun _ _ _ h=>h) (Or.inl ⟨by rfl,?_⟩) ao dj ?_
       ·intro u' aO;go_simp
       (try simp only[gE,aP]);refine fR (rs:=[9]) ao aE (bt.cons (b:=false) rfl ao ?_ (bt.nil))
       ·intro s K;rw[aA (by rfl)];refine QP _ _ rfl W4.heap.size tv (TL i).length (eM Q) (.slice u D I) (.slice z A E) rfl H.o.own.own gt rfl P.o.tb.c0 P.o.tb.c1 A0.o.1 A0.o.2 (by have:=Vk.o i;omega) H.o.fr.size ?_;intro dZ cC gi gR im;replace O:=hid (O.o.pushT gR im);replace H:=hid (H.o.pushT ad o.o (fun Z hZ=>pz.o Z (Df.o Z hZ)) Di.o (fun Z hZ=>pz.o Z al) gi gR im);obtain⟨S,T,rfl⟩:=vg gi;refine K.o _ _ (kV.of H.o O.o false) (fun f=>?_);clear gi gR im P o Di K s m;have m:=f;clear f;have c1:=H.o.box.cells.2.1;have f1:=H.o.box.fz 1;refine fR (rs:=[11]) ao aE (bt.cons (b:=true) rfl ao ?_ (bt.nil))
        ·intro s K;go_simp;replace H:=hid (H.o.set1 ad (.slice J X M));replace O:=hid (O.o.off n.heap.size 1 (.slice J X M) ae);refine K.o _ _ (kV.late O.o) (fun f=>?_);clear c1 f1 K s m;have m:=f;clear f;(try simp only[gE,aP]);refine gF (i:=12) (oi:=_) (v:=.pointer (some ⟨n.heap.size,2,none⟩)) (b:=true) rfl ao ao ao bd (fun _ _ _ h=>h) (Or.inl ⟨by rfl,?_⟩) ao dj ?_
         ·intro u' aO;go_simp
         have c2:=H.o.box.cells.2.2;have f2:=H.o.box.fz 2;refine fR (rs:=[13]) ao aE (bt.cons (b:=true) rfl ao ?_ (bt.nil))
         ·intro s K;go_simp;replace H:=hid (H.o.set2 ad (.slice S ((TL i).length+1) T));replace O:=hid (O.o.off n.heap.size 2 (.slice S ((TL i).length+1) T) ae);refine K.o _ _ (kV.late O.o) (fun f=>?_);clear c2 f2 K s m;have m:=f;clear f;(try simp only[gE,aP]);refine I8 ao ?_ _;clear m O;generalize (((cC.setCell ⟨n.heap.size,1,none⟩ (.slice J X M))).setCell ⟨n.heap.size,2,none⟩ (.slice S ((TL i).length+1) T))=tZ at *;go_wp2;go_roundw
          case rel=>exact⟨i+1,_,_,_,al,b5,by rw[j8.o.1,j8.o.2];exact H⟩
          case measure=>simp[intOf];omega
  ·obtain rfl:i=L.length:=al
   obtain⟨d,cd,rfl,bf⟩:=H.o.fo.ints;obtain⟨S,T,rfl,Cg⟩:=H.o.own.row;obtain⟨x0,u,z⟩:=H.o.box.cells;obtain⟨r0,r1,r2⟩:=q9.o.cells;have Nf:=q9.o.fz 0;have Nd:=q9.o.fz 1;have Nc:=q9.o.fz 2;have e1:(iL (F L.length)).length=(F L.length).length:=bI _;rw[e1] at H u;rw[bh] at H z;have A4:=hid (q9.o.put (.slice (some ⟨G,0,none⟩) V.length V.length) (.slice d (F L.length).length cd) (.slice S (F L.length).length T));have k8:=hid (dV HB.o (show w.heap.size<=w.heap.size+1 by omega) (.slice (some ⟨G,0,none⟩) V.length V.length) (.slice d (F L.length).length cd) (.slice S (F L.length).length T))
   have fD:Value.ownBlock (.slice S (F L.length).length T)≠some (w.heap.size+1):=fun e=>by
    have:=(H.o.own.lt _ e).1;omega
   have CG:=((H.o.own.off (g:=w.heap.size+1) (j:=0) (.slice (some ⟨G,0,none⟩) V.length V.length) (H.o.far _ al) fD).off (g:=w.heap.size+1) (j:=1) (.slice d (F L.length).length cd) (H.o.far _ al) fD).off (g:=w.heap.size+1) (j:=2) (.slice S (F L.length).length T) (H.o.far _ al) fD;obtain⟨XD,Xz,e2,Cf⟩:=CG.row;rw[bh] at e2;injection e2 with e3 e4 e5;subst e3 e5;clear e4;have Lu:=hid Cf
   have sj:∀g ab,d=some ⟨g,ab,none⟩ ->iL (F L.length)≠[] ->g≠w.heap.size+1:=fun g ab e _ e2=>by
    subst e;have:=(rJ H.o.fo g rfl).1;omega
   have zE:=hid (((bf.off (g:=w.heap.size+1) (j:=0) (y:=.slice (some ⟨G,0,none⟩) V.length V.length) sj).off (g:=w.heap.size+1) (j:=1) (y:=.slice d (F L.length).length cd) sj).off (g:=w.heap.size+1) (j:=2) (y:=.slice S (F L.length).length T) sj)
   have Be:∀g ab,(some ⟨G,0,none⟩:Option Addr)=some ⟨g,ab,none⟩ ->iL (aw V)≠[] ->g≠w.heap.size+1:=fun g ab e _ e2=>by
    cases e;omega
   have bo:=hid ((((bp.o wr H.o.fr).off (g:=w.heap.size+1) (j:=0) (y:=.slice (some ⟨G,0,none⟩) V.length V.length) Be).off (g:=w.heap.size+1) (j:=1) (y:=.slice d (F L.length).length cd) Be).off (g:=w.heap.size+1) (j:=2) (y:=.slice S (F L.length).length T) Be);have LQ:=hid ((RN H.o.own.own).up (show w.heap.size<=W4.heap.size by omega));clear CG Cf Cg bf Be sj fD H HB mD Ie q9 a7 nD Wb wk Da Lt;go_wp2;refine cj (A4.o.result1 rfl _ rfl) rfl ?_;exact⟨G,d,cd,S,T,rfl,bo.o,zE.o,Lu.o,k8.o,LQ.o⟩
theorem agH (a b c q:Option Addr) (ca cb cc j:Nat) (V:List Vr) (L:List (List Int)) (R:List (List Fr)) (vars:List Int) (w:World) (h:lO w a b c V L R) (m:xQ w b L) (s:xP V L R) (o:∀l∈R,fw l<=4200) (h0:bH V L R=0) (X:bZ L=0) (h1:1<=L.length) (D:∀l∈L,l.length<=140737488355328) (n:aJ w q vars) (k:vars.length<=1000) (E:∀U:World,lO U a b c V L R ->du 50 #[.agg #[.slice a V.length ca,.slice b L.length cb,.slice c R.length cc]] U fun e w'=>e=.returned (.int .i64 (bH V L R))/\ef U w'):
  du 54 #[.agg #[.slice a V.length ca,.slice b L.length cb,.slice c R.length cc],.slice q vars.length j] w fun e w'=>∃g d f t i,e=.returned (.agg #[.slice (some ⟨g,0,none⟩) V.length V.length,.slice d ((iG L).filter fun v:Nat=>vars.contains (v:Int)).length f,.slice t ((iG L).filter fun v:Nat=>vars.contains (v:Int)).length i])/\aJ w' (some ⟨g,0,none⟩) (iL (aw V))/\aJ w' d (iL ((iG L).filter fun v:Nat=>vars.contains (v:Int)))/\iu w' t (((iG L).filter fun v:Nat=>vars.contains (v:Int)).map fun v=>(gU L v,gL V L R v))/\ef w w':=
 (agG a b c q ca cb cc j V L R vars w h m s o h0 X h1 D n k E).af fun _ _ ⟨g,d,f,t,i,e,p,r,u,x,_⟩=>⟨g,d,f,t,i,e,p,r,u,x⟩
open Go.Sort Go.Lib
variable {n:Nat}
theorem afi {B:Nat} (d:Option Addr) (n c:Nat) (l:List Int) (w:World) (h:bP w B (.slice d n c) l) (r:B<=w.heap.size) (D:l.length<=100000):
  du 52 #[.slice d n c] w fun e w'=>e=.returned (.tuple #[])/\n=l.length/\aJ w' d (l.mergeSort fun x y=>decide (x<=y))/\Below B w w':=by
 rcases h.cases with ⟨e,rfl⟩ |⟨g,cap,e,v,a,E,F,i⟩
 ·cases e;refine(Tryz.slices_Sort_int_none none 0 w).af ?_;rintro e u ⟨rfl,rfl⟩;exact⟨rfl,rfl,fun k t=>absurd t aE,au _ _⟩
 ·cases e;refine(Tryz.slices_Sort_int g 0 c l w i a al).af ?_;have A:(l.mergeSort fun x y=>decide (x<=y)).length=l.length:=MD _;generalize (l.mergeSort fun x y=>decide (x<=y))=s at *;rintro e u ⟨rfl,q,o,rfl⟩;have z:s.toArray.size=l.toArray.size:=by simp;exact A
  have J:Holds (Value.int .i64) (grow (putRow (Value.int .i64) (Sort.ahead w q) g 0 s.toArray) o) g 0 s.toArray:=fun j b=>by
   obtain⟨m,p⟩:=holds_putRow (Value.int .i64) (Sort.ahead w q) g 0 _ s.toArray i z j b;(have f:g<(putRow (Value.int .i64) (Sort.ahead w q) g 0 s.toArray).heap.size:=by rw[size_putRow];exact a);refine⟨(cell?_grow _ _ _ f).trans m,?_⟩;rw[frozen?_grow _ _ _ f];exact p
  have K:g<(grow (putRow (Value.int .i64) (Sort.ahead w q) g 0 s.toArray) o).heap.size:=aU a (Mt (w:=w) (g:=g) (n:=q) (os:=o) s.toArray).size;exact⟨rfl,rfl,GW J K (fun j b=>⟨by simpa using b,aE⟩),UU s.toArray (au _ _) r v⟩
theorem afh {l:List Int} (d:∀x∈l,0<=x/\x<n) (k:l.Nodup):Up (l.mergeSort fun x y=>decide (x<=y)) n:=by
 have s:(l.mergeSort fun x y=>decide (x<=y)).Pairwise (fun x y=>decide (x<=y)=true):=List.pairwise_mergeSort (fun a b c=>by simp;omega) (fun a b=>by simp;omega) _;have p:=QJ l fun x y=>decide (x<=y);have e:(l.mergeSort fun x y=>decide (x<=y)).Nodup:=p.nodup_iff.2 k;refine rG.2 ⟨fun x f=>d x (p.mem_iff.1 f),(s.and e).imp fun {a b} h=>?_⟩;have g:=tW h.1;have i:=h.2;omega
def pK (V:List Vr) (L:List (List Int)) (R:List (List Fr)) (k:Nat):Rat:=gO V L R (aY (aw V) (List.range V.length) k) V.length
variable {R:List (List Fr)} {L:List (List Int)} {S us vs:List Nat} {k:Nat}
theorem Ny (a:us.Nodup) (l:∀v∈us,v<n):us.Perm ((List.range n).filter fun v=>us.contains v):=
 (MA a (BD.sublist MI)).2 fun v=>by
  rw[eL,cI,BO];exact⟨fun h=>⟨l v h,h⟩,fun h=>h.2⟩
theorem alB {a b:List Nat} (h:a.Perm b):gS R a=gS R b:=by
 induction h with
 |nil=>rfl
 |cons x _ ih=>rw[gS,gS,ih]
 |swap x y l=>simp only[gS];rw[<- iP, <- iP,dK (vI _) (vI _)]
 |trans _ _ h1 h2=>rw[h1,h2]
theorem alA {a b:List Nat} (h:a.Sublist b):gS R a<=gS R b:=by
 induction h with
 |slnil=>exact aq _
 |cons x _ ih=>rw[gS];exact aR ih (Dz _ (lR (KY _)))
 |cons_cons x _ ih=>rw[gS,gS];exact jg _ ih
theorem alC (h:us.Nodup) (l:∀v∈us,v<n):gS R us<=gS R (List.range n):=by
 rw[alB (Ny h l)];exact alA MI
theorem XI (S:List Nat):∀l,pJ S l=cnt S l
 |[]=>rfl
 |v::l=>by rw[pJ,cnt,XI S l]
theorem acD (h:∀v,sz S v<=4):∀l:List Nat,cnt S l<=4^l.length
 |[]=>aq _
 |v::l=>by
  rw[cnt,ew,gJ,dK];exact iO (acD h l) (h v)
theorem aeY (f:fX (iL S)) (v:Nat):sz S v<=4:=by
 by_cases h:v<S.length
 ·have a:=(f.each v (by rw[bI];exact h)).2;have b:(iL S)[v]'(by rw[bI];exact h)=(S[v]:Int):=by simp[iL]
  rw[b] at a;rw[sz,bj h];show S[v]<=4;omega
 ·rw[sz,jA al];decide
theorem UH (f:fX (iL S)) (n:us.Nodup) (l:∀v∈us,v<S.length):cnt S us<=65536:=by
 have c:=(Ny n l).length_eq;have d:((List.range S.length).filter fun v=>us.contains v).length<=S.length:=aR (pH ..) aE;have h:=f.eight;rw[bI] at h;have a:=acD (aeY f) us;have b:4^us.length<=4^8:=kE bd al;exact aR a b
theorem adQ (h:n<=65536):(B n).size<=3:=by
 have a:=lY h;have b:(B 65536).size<=3:=by rw[lg];exact o8 3 65536 bd
 omega
def tR (V:List Vr) (R:List (List Fr)):Prop:=(B (gS R (List.range V.length))).size<=4000
theorem tR.at {V:List Vr} (h:tR V R) (n:us.Nodup) (l:∀v∈us,v<V.length):(B (gS R us)).size<=4000:=aR (lY (alC n l)) h
theorem tR.pool {V:List Vr} (h:tR V R) (h0:bH V L R=0) (n:us.Nodup) (l:∀v∈us,v<V.length) (b:vs.Nodup) (o:∀v∈vs,v<V.length):2*(B (gS R us)).size+(B (pJ (aw V) vs*1)).size+2<=8192:=by
 have c:=h.at n l
 have a:pJ (aw V) vs*1<=65536:=by
  rw[kF,XI];exact UH (kN h0).fine b (by rw[oT];exact o)
 have d:=adQ a;omega
theorem ZM {V:List Vr} (h0:bH V L R=0):bZ L=0:=by
 rw[bH] at h0;by_cases a:L.length=V.length/\R.length=V.length
 ·rw[aA a] at h0;by_cases h:bZ L=0
  ·exact h
  ·rw[aD h] at h0;exact absurd h0 h
 ·rw[aD a] at h0;exact absurd h0 bd
theorem af7 {V:List Vr} (h0:bH V L R=0):tS L (·∈List.range V.length):=fun v _ u h=>by
 have a:=kN h0;rw[<- Y6] at h;have:=(Sk (vG (ZM h0)) v u h).1;rw[a.len] at this;exact cI.2 this
theorem agV {V:List Vr} (h0:bH V L R=0) (p:Pos (aw V)) (c:k<cnt (aw V) (List.range V.length)):eR (gS R (List.range V.length)) (pK V L R k)/\k9 1 (pK V L R k):=by
 have f:Fit (aw V) (aY (aw V) (List.range V.length) k):=fun u=>vK p _ _ u c;have a:=(PD.net (R:=R) (L:=L) (ws:=List.range V.length) h0 (fun v h=>cI.1 h)).prod f;have b:=(PI.net h0 (fun v h=>cI.1 h) (af7 h0)).val _ f;rw[b, <- RD] at a;exact a
def aK (V:List Vr) (L:List (List Int)) (R:List (List Fr)) (l:List (Nat×Nat)) (k:Nat):Rat:=eh l (aY (aw V) (List.range V.length) k)*pK V L R k
theorem Ss (V:List Vr) (L:List (List Int)) (R:List (List Fr)) (l:List (Nat×Nat)):mQ V L R l=bq (aK V L R l) (cnt (aw V) (List.range V.length)):=rfl
theorem Vb {V:List Vr} (h0:bH V L R=0) (p:Pos (aw V)) (l:List (Nat×Nat)) (c:k<cnt (aw V) (List.range V.length)):eR (gS R (List.range V.length)) (aK V L R l k)/\k9 1 (aK V L R l k):=by
 obtain⟨a,b⟩:=agV h0 p c;rw[aK,TH];by_cases h:Hc l (aY (aw V) (List.range V.length) k)=true
 ·rw[aA h,sF];exact⟨a,b⟩
 ·rw[aD h,II];exact⟨eR.zero _,by constructor<;>decide⟩
theorem ae1 {V:List Vr} (h0:bH V L R=0) (D:tR V R) {g:Nat ->Rat} (j:n<=65536) (a:∀k,k< n ->eR (gS R (List.range V.length)) (g k)/\k9 1 (g k)):qw (bq g n)<=8003:=by
 have z:gS R (List.range V.length)≠0:=(PD.net (V:=V) (L:=L) h0 (fun v d=>cI.1 d)).nz.1;have b:=eR.sum (k:=n) fun x h=>(a x h).1;have c:=k9.sum (k:=n) fun x h=>(a x h).2;have e:=b.size z c;have f:=adQ (n:=n*1) al;have i:(B (gS R (List.range V.length))).size<=4000:=D;omega
theorem acX {V:List Vr} (h0:bH V L R=0):cnt (aw V) (List.range V.length)<=65536:=UH (kN h0).fine BD fun v h=>by rw[oT];exact cI.1 h
theorem aiL {V:List Vr} (h0:bH V L R=0) (p:Pos (aw V)) (h:tR V R) (l:List (Nat×Nat)) (a:n<=cnt (aw V) (List.range V.length)):qw (bq (aK V L R l) n)<=8003:=
 ae1 h0 h (aR a (acX h0)) fun k b=>Vb h0 p l al
theorem Gk {V:List Vr} (h0:bH V L R=0):Pos (aw V):=by have:=(kN h0).fine.pos;rwa [jC] at this
variable {ws:List Nat} {i:Nat}
def uA (q:List Int) (l:List (Nat×Nat)):List Int:=q++(zF l).map (·.1)
def xL (q:List Int) (l:List (Nat×Nat)):List Int:=(uA q l).mergeSort fun x y=>decide (x<=y)
theorem acR {q:List Int} {l:List (Nat×Nat)} (v:Nat):v∈ag (xL q l)↔v∈ag q∨v∈l.map (·.1):=by
 have c:=QJ (uA q l) fun x y=>decide (x<=y)
 have m:v∈ag (xL q l)↔∃x∈uA q l,x.toNat=v:=by
  rw[xL,ag,ba];exact⟨fun ⟨x,h,e⟩=>⟨x,c.mem_iff.1 h,e⟩,fun ⟨x,h,e⟩=>⟨x,c.mem_iff.2 h,e⟩⟩
 rw[m];constructor
 ·rintro⟨x,a,rfl⟩;rcases ck.1 a with a |a
  ·exact .inl (ba.2 ⟨x,a,rfl⟩)
  ·obtain⟨p,d,rfl⟩:=ba.1 a;obtain⟨r,b,rfl⟩:=ba.1 d;exact .inr (ba.2 ⟨r,b,aE⟩)
 ·rintro(h |h)
  ·obtain⟨x,a,e⟩:=ba.1 h;exact⟨x,ck.2 (.inl a),e⟩
  ·obtain⟨r,b,rfl⟩:=ba.1 h;exact⟨(r.1:Int),ck.2 (.inr (ba.2 ⟨_,ba.2 ⟨r,b,rfl⟩,rfl⟩)),aE⟩
theorem amJ {q:List Int} {l:List (Nat×Nat)} (i:Up q n) (g:tO S n l) (j:∀v∈ag q,¬v∈l.map (·.1)):Up (xL q l) n:=by
 refine afh (fun x c=>?_) ?_
 ·rcases ck.1 c with c |c
  ·exact DK i x c
  ·obtain⟨p,f,rfl⟩:=ba.1 c;obtain⟨r,d,rfl⟩:=ba.1 f;have:=g.lt r d;show 0<=(r.1:Int)/\(r.1:Int)<n;omega
 ·refine IX.2 ⟨?_,?_,fun x c y k e=>?_⟩
  ·exact(rG.1 i).2.imp fun h=>al
  ·rw[zF,yw];refine(FR.2 ?_);exact(FR.1 g.nd).imp fun {a b} h e=>h (by have m:(a.1:Int)=(b.1:Int):=e;omega)
  ·subst e;obtain⟨p,f,rfl⟩:=ba.1 k;obtain⟨r,d,rfl⟩:=ba.1 f;exact j r.1 (ba.2 ⟨_,c,aE⟩) (ba.2 ⟨r,d,rfl⟩)
theorem tO.len {l:List (Nat×Nat)} (h:tO S n l):l.length<=n:=by
 have a:=(Ny h.nd (n:=n) fun v c=>by
  obtain⟨p,b,rfl⟩:=ba.1 c;exact h.lt p b).length_eq
 have d:((List.range n).filter fun v=>(l.map (·.1)).contains v).length<=n:=aR (pH ..) aE;rw[dM] at a;omega
theorem amZ (b d:Option Addr) (cb c:Nat) (L:List (List Int)) (A:List Int) (w:World) (h:gW w b L) (o:∀l∈L,l.length<=140737488355328) (j:aJ w d A) (m:bZ L=0) (u:Up A L.length) (O:A.length<=1000):
  du 53 #[.slice b L.length cb,.slice d A.length c] w fun e w'=>∃d c,e=.returned (.tuple #[.slice d (gP (ie (aN L) (ag A) L.length)).length c,.int .i64 0])/\aJ w' d (gP (ie (aN L) (ag A) L.length))/\ef w w':=
 (akM b d cb c L A w h o j al).af fun e w' n=>by
  rcases n with ⟨⟨f,_⟩ |⟨_,a,_⟩ |⟨_,_,d,c,g,i⟩,k⟩
  ·exact absurd m f
  ·rw[aeu u] at a;cases a
  ·exact⟨d,c,g,i,k⟩
theorem ab0 (S:List Nat) (p:Nat×Nat):∀(l:List (Nat×Nat)) (P:List Tb),ow S (l++[p]) P=(ow S l P).map (kR S p.1 p.2)
 |[],_=>rfl
 |x::l,P=>by rw[fG,ow,ow,ab0 S p l]
theorem aai (p:Nat×Nat):∀(l:List (Nat×Nat)) (f:List Nat),kO f (l++[p])=(kO f l).filter fun u=>!(u==p.1)
 |[],_=>rfl
 |x::l,f=>by rw[fG,kO,kO,aai p l]
theorem aiS (f:List Nat) (v:Nat):bS (iL f) (v:Int)=iL (f.filter fun u=>!(u==v)):=by
 rw[bS,iL,MJ];congr 1
 refine List.filter_congr fun x _=>?_;show (!((x:Int)==(v:Int)))=!(x==v);congr 1
 rw[wE,uO,uO];omega
def ou (ws:List Nat) (l:List (Nat×Nat)) (i:Nat):List Int:=iL (kO ws (l.take i))
def mY (V:List Vr) (L:List (List Int)) (R:List (List Fr)) (ws:List Nat) (l:List (Nat×Nat)) (i:Nat):List Tb:=ow (aw V) (l.take i) (gT V L R ws)
theorem akP {l:List (Nat×Nat)} (h:i<l.length):ou ws l (i+1)=bS (ou ws l i) (l[i].1:Int):=by
 rw[ou,ou,iF h,aai,aiS]
theorem akN {V:List Vr} {l:List (Nat×Nat)} (h:i<l.length):mY V L R ws l (i+1)=(mY V L R ws l i).map (kR (aw V) l[i].1 l[i].2):=by
 rw[mY,mY,iF h,ab0]
theorem abL {V:List Vr} (h0:bH V L R=0) (t:∀v∈ws,v<V.length) (c:tS L (·∈ws)) {l:List (Nat×Nat)} (h:tO (aw V) V.length l) (i:Nat):fW (aw V) V.length (mY V L R ws l i) (gS R ws) 1:=
 fW.fixes (Gk h0) (akF h0 t c) fun p a=>h.val p (QK a)
theorem akO (V:List Vr) (L:List (List Int)) (R:List (List Fr)) (ws:List Nat) (l:List (Nat×Nat)) (i:Nat):(mY V L R ws l i).length=ws.length:=by rw[mY,UA,gT,dM]
theorem akQ (ws:List Nat) (l:List (Nat×Nat)) (i:Nat):(ou ws l i).length<=ws.length:=by rw[ou,bI];exact(aah _ _).length_le
theorem Sb (h:ws.Nodup) (l:∀v∈ws,v<n):ws.length<=n:=by
 have a:=(Ny h l).length_eq;have b:((List.range n).filter fun v=>ws.contains v).length<=n:=aR (pH ..) aE;omega
theorem alc {V:List Vr} (h0:bH V L R=0) (D:tR V R) (n:ws.Nodup) (g:∀v∈ws,v<V.length) (q:tS L (·∈ws)) {l:List (Nat×Nat)} (a:tO (aw V) V.length l) (h:i<l.length) (s b t:Option Addr) (c cb j:Nat) (w:World) (u:aJ w s (iL (aw V))) (o:aJ w b (ou ws l i)) (P:iu w t (mY V L R ws l i)):
  du 55 #[.agg #[.slice s V.length c,.slice b (ou ws l i).length cb,.slice t (mY V L R ws l i).length j],.agg #[.int .i64 (l[i].1:Nat),.int .i64 (l[i].2:Nat)]] w fun e w'=>∃d m f k,e=.returned (.agg #[.slice s V.length c,.slice d (ou ws l (i+1)).length m,.slice f (mY V L R ws l (i+1)).length k])/\aJ w' d (ou ws l (i+1))/\iu w' f (mY V L R ws l (i+1))/\ij w.heap.size f k/\ef w w':=by
 have T:=kN h0;have H:(aw V).length=V.length:=oT V;have E:=Sb n g;have A:=T.n8;have y:=akQ ws l i;have z:=akO V L R ws l i;have p:=abL h0 g q a i;have r:=D.pool h0 n g (vs:=[]) List.nodup_nil (fun v x=>by cases x);have:=agU s b t c cb j (aw V) (ou ws l i) (mY V L R ws l i) (gS R ws) 1 l[i].1 l[i].2 w T.fine u o P (by rw[H];exact p) al al r (by rw[H];exact a.lt _ (bF h)) (a.val _ (bF h));rw[H] at this;rw[akP h,akN h,dM];exact this
theorem ahx {V:List Vr} (h0:bH V L R=0) (D:tR V R) (n:ws.Nodup) (h:∀v∈ws,v<V.length) (c:tS L (·∈ws)) {l:List (Nat×Nat)} (a:tO (aw V) V.length l) (o:∀p∈l,p.1∈ws) {Q:List Int} (k:Up Q V.length) (m:∀v∈ag Q,v∈ws/\¬v∈l.map (·.1)) (s b t q:Option Addr) (g cb i f:Nat) (w:World) (z:aJ w s (iL (aw V))) (j:aJ w b (ou ws l l.length)) (P:iu w t (mY V L R ws l l.length)) (r:aJ w q Q):
  du 56 #[.agg #[.slice s V.length g,.slice b (ou ws l l.length).length cb,.slice t (mY V L R ws l l.length).length i],.slice q Q.length f,.bool false] w fun e w'=>∃x y,e=.returned (.agg #[x,y])/\ei w' x y (fk V L R Q l)/\ef w w':=by
 have T:=kN h0;have d:=Gk h0;have H:(aw V).length=V.length:=oT V;have S:=Sb n h;have K:=T.n8;have u:=Sw (l:=l) n;have J:∀v∈kO ws l,v<V.length:=fun v E=>h v (NT.1 E).1;have F:ou ws l l.length=iL (kO ws l):=by rw[ou,jR]
 have O:mY V L R ws l l.length=ow (aw V) l (gT V L R ws):=by rw[mY,jR]
 have A:=abL h0 h c a l.length;rw[O] at A P⊢;rw[F] at j⊢;have I:=Sb u J;have M:(ow (aw V) l (gT V L R ws)).length=ws.length:=by rw[UA,gT,dM]
 have:=agS s b t q g cb i f (aw V) (kO ws l) Q (ow (aw V) l (gT V L R ws)) _ (gS R ws) 1 false w T.fine z j P r (by have:=k.length;omega) u (by rw[H];exact J) (by rw[H];exact(PI.net h0 h c).fixes d a.nd a.val) (NN.fixes d a.val (PI.net h0 h c).ok (NN.net h0 h)) (by rw[H];exact A) al (D.pool h0 n h u J);rw[H,aeA h0 d n h c a o k m] at this;rw[bI];exact this
theorem aau (a b c q f:Option Addr) (ca cb cc cq cf:Nat) (V:List Vr) (L:List (List Int)) (R:List (List Fr)) (Q:List Int) (l:List (Nat×Nat)) (w:World) (h:lO w a b c V L R) (hN:xQ w b L) (hs:xP V L R) (hw:∀l∈R,fw l<=4200) (h0:bH V L R=0) (hD:tR V R) (hq:aJ w q Q) (Ob:Up Q V.length) (hF:kD w f (zF l)) (hl:tO (aw V) V.length l) (hd:∀v∈ag Q,¬v∈l.map (·.1)) (vE:∀U:World,lO U a b c V L R ->du 50 #[.agg #[.slice a V.length ca,.slice b L.length cb,.slice c R.length cc]] U fun e w'=>e=.returned (.int .i64 (bH V L R))/\ef U w'):
  du 22 #[.agg #[.slice a V.length ca,.slice b L.length cb,.slice c R.length cc],.slice q Q.length cq,.slice f l.length cf] w fun e w'=>∃x y,e=.returned (.agg #[x,y])/\ei w' x y (fk V L R Q l)/\ef w w':=by
 have T:=kN h0;have h8:=T.n8;have X:=ZM h0;have ae:=vG X
 have xB:1<=L.length:=by
  have:=T.fine.one;rw[bI,oT] at this;rw[T.len];exact this
 have vD:L.length<=8:=by rw[T.len];exact h8
 have dD:∀x∈L,x.length<=140737488355328:=fun x hx=>by
  obtain⟨i,m,rfl⟩:=jz hx;have:=(T.up i m).length;omega
 have eC:=Ob.length;have fA:=hl.len;have TG:=amJ Ob hl hd;have OS:(xL Q l).length=(uA Q l).length:=MD _;have bz:(uA Q l).length=Q.length+l.length:=by rw[uA,bK,dM,yC]
 have hA:∀v∈ag (xL Q l),v<L.length:=fun v S=>by rw[T.len];exact TG.aa v S
 obtain⟨ws,Y⟩:∃ws,yD L (ag (xL Q l))=ws:=⟨_,rfl⟩;have SH:ws.Nodup:=by rw[<- Y];exact adS ae xB vD _
 have ai:∀v∈ws,v<V.length:=fun v S=>by rw[<- T.len];rw[<- Y] at S;exact adT ae xB vD S
 have ah:tS L (·∈ws):=by rw[<- Y];exact adU X xB vD hA
 have bc:∀p∈l,p.1∈ws:=fun p hp=>by
  rw[<- Y];exact WU X xB vD hA ((acR _).2 (.inr (ba.2 ⟨p,hp,rfl⟩)))
 have SG:∀v∈ag Q,v∈ws/\¬v∈l.map (·.1):=fun v S=>⟨by
  rw[<- Y];exact WU X xB vD hA ((acR _).2 (.inl S)),hd v S⟩
 have Fv:=hid (fun (U:World) (D:ef w U)=>M6 q cq Q U (hq.aa D) al);have an:Hid (∀(d:Option Addr) (n j B:Nat) (U:World),bP U B (.slice d n j) (uA Q l) ->B<=U.heap.size ->du 52 #[.slice d n j] U fun e w'=>e=.returned (.tuple #[])/\n=(uA Q l).length/\aJ w' d (xL Q l)/\Below B U w'):=fun d n j B U J h2=>afi d n j (uA Q l) U J h2 al;obtain⟨K,N2⟩:∃K,gP (ie (aN L) (ag (xL Q l)) L.length)=K:=⟨_,rfl⟩;have oY:K.length<=8:=by rw[<- N2,gP,bI,fL];exact aR (pH ..) aE
 have yg:Hid (∀(d:Option Addr) (j:Nat) (U:World),ef w U ->aJ U d (xL Q l) ->du 53 #[.slice b L.length cb,.slice d (uA Q l).length j] U fun e w'=>∃d j,e=.returned (.tuple #[.slice d K.length j,.int .i64 0])/\aJ w' d K/\ef U w'):=fun d j U D m=>by
  have:=amZ b d cb j L (xL Q l) U (h.aa D).pars dD m X (by rw[T.len];exact TG) al;rwa [N2,OS] at this
 have E5:Hid (∀(d:Option Addr) (j:Nat) (U:World),ef w U ->aJ U d K ->du 54 #[.agg #[.slice a V.length ca,.slice b L.length cb,.slice c R.length cc],.slice d K.length j] U fun e w'=>∃g d j M fB,e=.returned (.agg #[.slice (some ⟨g,0,none⟩) V.length V.length,.slice d (ou ws l 0).length j,.slice M (mY V L R ws l 0).length fB])/\aJ w' (some ⟨g,0,none⟩) (iL (aw V))/\aJ w' d (ou ws l 0)/\iu w' M (mY V L R ws l 0)/\ef U w'):=fun d j U D m=>by
  have:=agH a b c d ca cb cc j V L R K U (h.aa D) (hN.aa h.pars D) hs hw h0 X xB dD m al vE;have e:(iG L).filter (fun v:Nat=>K.contains (v:Int))=ws:=by rw[<- Y,yD,N2]
  rw[e] at this;have e1:ou ws l 0=iL ws:=rfl;have e2:mY V L R ws l 0=ws.map fun v=>(gU L v,gL V L R v):=rfl;rw[e1,e2,bI,dM];exact this
 have je:=hid (fun (i:Nat) (m:i<l.length) (s b t:Option Addr) (cs cb ct:Nat) (U:World)=>alc (L:=L) h0 hD SH ai ah hl m s b t cs cb ct U);have bl:=hid (fun (s b t:Option Addr) (cs cb ct:Nat) (U:World) (D:ef w U) J h2 h3=>ahx h0 hD SH ai ah hl bc Ob SG s b t q cs cb ct cq U J h2 h3 (hq.aa D))
 have HF:Hid (∀i (m:i<l.length) (U:World),ef w U ->∃g o,f=some ⟨g,o,none⟩/\g<U.heap.size/\U.cell? ⟨g,o+i*2,none⟩=some (.int .i64 (l[i].1:Nat))/\U.cell? ⟨g,o+i*2+1,none⟩=some (.int .i64 (l[i].2:Nat))):=fun i m U D=>by
  have hz:i<(zF l).length:=by rw[yC];exact m
  obtain⟨g,o,e,hg,h0,J⟩:=(hF.aa D) i hz;have e1:(zF l)[i]=((l[i].1:Int),(l[i].2:Int)):=by simp[zF]
  rw[e1] at h0 J;exact⟨g,o,e,hg,h0,J⟩
 obtain⟨A,Hi⟩:∃A:Nat ->List Int,∀k,Q++(l.take k).map (fun p=>(p.1:Int))=A k:=⟨fun k=>Q++(l.take k).map (fun p=>(p.1:Int)),fun _=>rfl⟩;have Qv:Hid (A 0=Q):=by show _=_;rw[<- Hi];simp
 have aj:Hid (∀k (hk:k<l.length),A (k+1)=A k++[((l[k].1:Nat):Int)]):=fun k hk=>by rw[<- Hi, <- Hi,iF hk,eP,lV];rfl
 have zK:Hid (A l.length=uA Q l):=by show _=_;rw[<- Hi,jR,uA,zF,yw];rfl
 have IA:Hid (∀k,(A k).length<=16):=fun k=>by
  rw[<- Hi,bK,dM,eE];omega
 have ke:=hid (dQ.at (w:=w) rfl (.slice a V.length ca) (.slice b L.length cb) (.slice c R.length cc));clear Hi h hN hs hw h0 hD hq Ob hF hl hd vE T X ae dD TG OS bz hA Y SH ai ah bc SG N2 xB;generalize ou ws l=F at *;generalize mY V L R ws l=P at *;generalize fk V L R Q l=TT at *
 have HA:Hid (ef w ((w.alloc (NC (.slice a V.length ca) (.slice b L.length cb) (.slice c R.length cc))).alloc (TC (.slice none 0 0) (.slice none 0 0)))):=by
  have J:=(au w.heap.size w).alloc (aq _) (NC (.slice a V.length ca) (.slice b L.length cb) (.slice c R.length cc));exact J.alloc J.size _
 have x6:Hid (dQ ((w.alloc (NC (.slice a V.length ca) (.slice b L.length cb) (.slice c R.length cc))).alloc (TC (.slice none 0 0) (.slice none 0 0))) w.heap.size (.slice a V.length ca) (.slice b L.length cb) (.slice c R.length cc)):=ke.o.aa ((au _ _).alloc (aq _) (TC (.slice none 0 0) (.slice none 0 0))) ke.o.lt;have mr:Hid (bE ((w.alloc (NC (.slice a V.length ca) (.slice b L.length cb) (.slice c R.length cc))).alloc (TC (.slice none 0 0) (.slice none 0 0))) (w.heap.size+1) (.slice none 0 0) (.slice none 0 0)):=bE.at (w:=w.alloc (NC (.slice a V.length ca) (.slice b L.length cb) (.slice c R.length cc))) aE _ _;clear ke;go_enter Tryz.func22,Tryz.ntmps22;go_wp2_with fail
 generalize ((w.alloc (NC (.slice a V.length ca) (.slice b L.length cb) (.slice c R.length cc))).alloc (TC (.slice none 0 0) (.slice none 0 0)))=W0 at *;refine(Fv.o W0 HA.o).af ?_;rintro e w1 ⟨av,rfl,a7,aC⟩;have bM:=mr.o.lt;have ax:=hid a7;have bh:=hid aC;clear a7 aC Fv;go_wp2_with fail
 go_loopw [7,19] (fun av iv wr=>∃i:Nat,i<=l.length/\iv=.int .i64 i/\Hid (bP wr W0.heap.size av (A i))/\Hid (ef W0 wr)) (fun _ iv _=>l.length - (intOf iv).toNat)
 case atStart=>exact⟨0,aV _,rfl,by rw[Qv.o];exact ax,bh⟩
 case round=>
  obtain⟨i,m,rfl,jL,O⟩:=hrel;clear ax bh;have H:=hid (HA.o.trans (O.o.af HA.o.size));obtain⟨d,j,rfl⟩:=vg jL.o;by_cases a1:i<l.length
  ·obtain⟨g,o,rfl,hg,k0,k1⟩:=HF.o i a1 wr H.o;have br:=hid (aj.o i a1);generalize l[i].1=v at *;generalize l[i].2=z at *;have u:=(au wr.heap.size wr).alloc (aq _) (.cells #[.int .i64 (v:Nat),.int .i64 (z:Nat)] 39);(have O4:(wr.alloc (.cells #[.int .i64 (v:Nat),.int .i64 (z:Nat)] 39)).cell? ⟨wr.heap.size,0,none⟩=some (.int .i64 (v:Nat)):=by rw[bG _ _ 0 _ _ (0,0) (dB wr _)];rfl);(have bb:(wr.alloc (.cells #[.int .i64 (v:Nat),.int .i64 (z:Nat)] 39)).heap.size=wr.heap.size+1:=aE);have aS:=(au _ (wr.alloc (.cells #[.int .i64 (v:Nat),.int .i64 (z:Nat)] 39))).alloc (aq _) (.cells #[.int .i64 (v:Nat)] 3)
   have bf:Hid (((wr.alloc (.cells #[.int .i64 (v:Nat),.int .i64 (z:Nat)] 39)).alloc (.cells #[.int .i64 (v:Nat)] 3)).cell? ⟨wr.heap.size+1,0,none⟩=some (.int .i64 (v:Nat))):=by
    have:=(a8 (wr.alloc (.cells #[.int .i64 (v:Nat),.int .i64 (z:Nat)] 39)) 3 (.int .i64 (v:Nat))).cell;rwa [bb] at this
   have iZ:=u.trans (aS.af u.size);have ao:=hid (Ge jL.o (AV.aa iZ));have eV:=hid (O.o.trans (iZ.af O.o.size));have AH:=IA.o i;have LC:Hid (W0.heap.size<=((wr.alloc (.cells #[.int .i64 (v:Nat),.int .i64 (z:Nat)] 39)).alloc (.cells #[.int .i64 (v:Nat)] 3)).heap.size):=eV.o.size;clear u aS iZ bb jL O H;go_wp2_with (at_builtin;refine ad2 rfl _ _ rfl W0.heap.size (.slice d (A i).length j) (A i) (v:Int) rfl ao.o (wr.heap.size+1) rfl bf.o al LC.o ?_;intro bu w9 rQ cU mV;have bp:=hid rQ;have sq:=hid (eV.o.grown cU LC.o (fun k e=>(rJ ao.o k e).1));obtain⟨n9,d9,c9,rfl⟩:∃n d c,bu=Value.slice d n c:=(vg rQ).elim fun d h=>h.elim fun c e=>⟨_,d,c,e⟩;clear rQ cU mV)
   go_roundw
   case rel=>exact⟨i+1,al,b5,by rw[br.o];exact bp,sq⟩
   case measure=>simp[intOf];omega
  ·obtain rfl:i=l.length:=al
   rw[zK.o] at jL;(have e1:(A l.length).length=(uA Q l).length:=by rw[zK.o]);rw[e1];clear e1 zK aj IA Qv;have j8:=hid (an.o d _ j W0.heap.size wr jL.o O.o.size);clear jL H an;go_wp2_with fail
   refine j8.o.af ?_;rintro e w2 ⟨rfl, -,uo,aO⟩;have OQ:=O.o.trans aO;have bA:=hid (HA.o.trans (OQ.af HA.o.size));have jd:=hid (x6.o.aa OQ x6.o.lt);have iC:=hid (mr.o.aa OQ mr.o.lt);have iw:=hid (yg.o d j w2 bA.o uo);have n1:=jd.o.cells.2.1;clear uo aO OQ O j8 yg x6 mr HA;go_wp2_with fail
   refine iw.o.af ?_;rintro e w3 ⟨d3,bx,rfl,Cn,ab⟩;have iE:=hid (bA.o.trans (ab.af bA.o.size));have xZ:=hid (jd.o.aa ab jd.o.lt);have kC:=hid (iC.o.aa ab iC.o.lt);have jt:=hid (E5.o d3 bx w3 iE.o Cn);clear n1;obtain⟨n0,n1,n2⟩:=xZ.o.cells;clear Cn ab iw E5 jd iC bA;go_wp2_with fail
   refine jt.o.af ?_;rintro e r ⟨G,d4,K6,t4,K0,rfl,ay,Tp,GH,ad⟩;have mj:=ad.alloc ad.size (.cells #[.slice (some ⟨G,0,none⟩) V.length V.length,.slice d4 (F 0).length K6,.slice t4 (P 0).length K0] 100);have CP:=(au r.heap.size r).alloc (aq _) (.cells #[.slice (some ⟨G,0,none⟩) V.length V.length,.slice d4 (F 0).length K6,.slice t4 (P 0).length K0] 100);have dI:=hid (iE.o.trans (mj.af iE.o.size));have rh:=hid (kC.o.aa mj kC.o.lt);have PM:Hid (bQ (r.alloc (.cells #[.slice (some ⟨G,0,none⟩) V.length V.length,.slice d4 (F 0).length K6,.slice t4 (P 0).length K0] 100)) r.heap.size (.slice (some ⟨G,0,none⟩) V.length V.length) (.slice d4 (F 0).length K6) (.slice t4 (P 0).length K0)):=bQ.at (w:=r) rfl _ _ _;have ye:=hid (ay.aa CP);have Fl:=hid (Tp.aa CP);have H4:=hid (GH.aa CP);have bL:w.heap.size+1<r.heap.size:=(kC.o.aa ad kC.o.lt).lt;clear ay Tp GH ad mj CP jt iE xZ kC n0 n1 n2;go_wp2_with fail
   generalize (r.alloc (.cells #[.slice (some ⟨G,0,none⟩) V.length V.length,.slice d4 (F 0).length K6,.slice t4 (P 0).length K0] 100))=W5 at *;go_loopw [43] (fun iv wr=>∃(i:Nat) (b' M:Option Addr) (eU fB:Nat),i<=l.length/\iv=.int .i64 i/\Hid (bQ wr r.heap.size (.slice (some ⟨G,0,none⟩) V.length V.length) (.slice b' (F i).length eU) (.slice M (P i).length fB))/\Hid (aJ wr (some ⟨G,0,none⟩) (iL (aw V)))/\Hid (aJ wr b' (F i))/\Hid (iu wr M (P i))/\Hid (bE wr (w.heap.size+1) (.slice none 0 0) (.slice none 0 0))/\Hid (ef w wr)) (fun iv _=>l.length - (intOf iv).toNat)
   case atStart=>exact⟨0,_,_,_,_,aV _,rfl,PM,ye,Fl,H4,rh,dI⟩
   case round=>
    obtain⟨i,b',M,eU,fB,m,rfl,pw,HG,HI,HT,HR,H⟩:=hrel;clear PM ye Fl H4 rh dI;rename World=>W6
    obtain⟨p0,p1,p2⟩:=pw.o.cells;by_cases bd:i<l.length
    ·obtain⟨g,o,rfl,hg,k0,k1⟩:=HF.o i bd W6 H.o;have ak:=hid (je.o i bd);generalize l[i].1=v at *;generalize l[i].2=z at *;have u:=(au W6.heap.size W6).alloc (aq _) (.cells #[.int .i64 (v:Nat),.int .i64 (z:Nat)] 39);(have O4:(W6.alloc (.cells #[.int .i64 (v:Nat),.int .i64 (z:Nat)] 39)).cell? ⟨W6.heap.size,0,none⟩=some (.int .i64 (v:Nat)):=by rw[bG _ _ 0 _ _ (0,0) (dB W6 _)];rfl);(have UC:(W6.alloc (.cells #[.int .i64 (v:Nat),.int .i64 (z:Nat)] 39)).cell? ⟨W6.heap.size,1,none⟩=some (.int .i64 (z:Nat)):=by rw[bG _ _ 1 _ _ (0,0) (dB W6 _)];rfl);have PK:=hid (pw.o.aa u pw.o.lt);have Qg:=hid (HG.o.aa u);have ri:=hid (HR.o.aa u HR.o.lt);have bh:=hid (H.o.trans (u.af H.o.size));have HX:=hid (ak.o (some ⟨G,0,none⟩) b' M V.length eU fB _ Qg.o (HI.o.aa u) (HT.o.aa u));clear p0 p1 p2 pw HG HI HT HR H ak u;obtain⟨p0,p1,p2⟩:=PK.o.cells;go_wp2_with fail
     refine HX.o.af ?_;rintro e w7 ⟨d7,EK,t7,Hr,rfl,Cm,GG,a6,I⟩;have E:=PK.o.aa I PK.o.lt;have Z:=ri.o.aa I ri.o.lt;have tr:=bh.o.trans (I.af bh.o.size);have az:=Qg.o.aa I;have bJ:=PK.o.lt;clear p0 p1 p2 O4 UC k0 k1;obtain⟨p0,p1,p2⟩:=E.cells;have Nr:=E.fz 0;have Nq:=E.fz 1;have Np:=E.fz 2;have Vz:=hid (E.put (.slice (some ⟨G,0,none⟩) V.length V.length) (.slice d7 (F (i+1)).length EK) (.slice t7 (P (i+1)).length Hr));have bg:=hid (az.putP E (slv _ _ _) (slv _ _ _) (slv _ _ _) (.slice (some ⟨G,0,none⟩) V.length V.length) (.slice d7 (F (i+1)).length EK) (.slice t7 (P (i+1)).length Hr));have bk:=hid (Cm.putP E (slv _ _ _) (slv _ _ _) (slv _ _ _) (.slice (some ⟨G,0,none⟩) V.length V.length) (.slice d7 (F (i+1)).length EK) (.slice t7 (P (i+1)).length Hr));have bo:=hid (GG.putP E (slv _ _ _) (slv _ _ _) (slv _ _ _) (fun g' o' e=>by have:=a6.2 g' o' e;omega) (slv (some ⟨G,0,none⟩) V.length V.length) (slv d7 (F (i+1)).length EK) (.slice t7 (P (i+1)).length Hr));have bm:=hid (((Z.off r.heap.size 0 (.slice (some ⟨G,0,none⟩) V.length V.length) al).off r.heap.size 1 (.slice d7 (F (i+1)).length EK) al).off r.heap.size 2 (.slice t7 (P (i+1)).length Hr) al);have eV:=hid (dV tr (show w.heap.size<=r.heap.size by omega) (.slice (some ⟨G,0,none⟩) V.length V.length) (.slice d7 (F (i+1)).length EK) (.slice t7 (P (i+1)).length Hr));clear Cm GG a6 I E Z tr az HX;go_wp2;go_roundw
     case rel=>exact⟨i+1,_,_,_,_,al,b5,Vz,bg,bk,bo,bm,eV⟩
     case measure=>simp[intOf];omega
    ·obtain rfl:i=l.length:=al
     have VA:=hid (bl.o (some ⟨G,0,none⟩) b' M V.length eU fB W6 H.o HG.o HI.o HT.o);go_wp2_with fail
     refine VA.o.af ?_;rintro e w7 ⟨x,y,rfl,sP,I⟩;obtain⟨xs,xn,xc,rfl⟩:=sP.slices.1;obtain⟨ys,yn,yc,rfl⟩:=sP.slices.2;have Z:=HR.o.aa I HR.o.lt;have tr:=H.o.trans (I.af H.o.size);obtain⟨t0,t1,f0,f1⟩:=Z.facts;have A7:=hid (Z.put (.slice xs xn xc) (.slice ys yn yc));have Vi:=hid (sP.putT Z (slv _ _ _) (slv _ _ _) (slv xs xn xc) (.slice ys yn yc));have sq:=hid (o9 (g:=w.heap.size+1) tr al (.slice xs xn xc) (.slice ys yn yc));clear sP I Z tr p0 p1 p2;go_wp2;refine cj (A7.o.result1 rfl _ rfl) rfl ?_;exact⟨_,_,rfl,Vi.o,sq.o⟩
def nF (F:List (Int×Int)):List (Nat×Nat):=F.map fun p=>(p.1.toNat,p.2.toNat)
theorem ND (l:List (Nat×Nat)):nF (zF l)=l:=by
 rw[nF,zF,yw];refine(sG fun p _=>?_).trans (List.map_id l);show (((p.1:Int).toNat),((p.2:Int).toNat))=p;simp
theorem acb {V:List Vr} {F:List (Int×Int)} (h:i7 V L R F=0):bH V L R=0/\F=zF (nF F)/\tO (aw V) V.length (nF F):=by
 obtain⟨a,l,rfl,b⟩:=aln h;rw[ND];exact⟨a,rfl,b⟩
def yM (V:List Vr) (L:List (List Int)) (R:List (List Fr)) (F:List (Int×Int)):Fr:=if i7 V L R F=0 then qF (mQ V L R (nF F)) else(false,⟨#[]⟩,⟨#[]⟩)
theorem aeC (V:List Vr) (L:List (List Int)) (R:List (List Fr)) (l:List (Nat×Nat)):fk V L R [] l=([],[qF (mQ V L R l)]):=rfl
def uB (V:List Vr) (L:List (List Int)) (R:List (List Fr)) (Q:List Int) (F:List (Int×Int)):Int:=
 if i7 V L R F=0 then(if (lG (iL (aw V)) Q).2=0 then(if (F.any fun p=>wP p.1 Q)=true then 7 else 0) else(lG (iL (aw V)) Q).2) else i7 V L R F
def sM (V:List Vr) (L:List (List Int)) (R:List (List Fr)) (Q:List Int) (F:List (Int×Int)):Int:=
 if uB V L R Q F=0 then(if fsum (fk V L R Q (nF F)).2=0 then 3 else 0) else uB V L R Q F
def rH (V:List Vr) (L:List (List Int)) (R:List (List Fr)) (Q:List Int) (F:List (Int×Int)):Tb:=
 if sM V L R Q F=0 then(Q,vk (fk V L R Q (nF F)).2) else([],[])
theorem amQ (Q:List Int) (F:List (Int×Int)):(F.any fun p=>wP p.1 Q)=Q.any fun v=>F.any fun p=>p.1==v:=by
 rw[wE,uT,uT];constructor
 ·rintro⟨p,a,h⟩;obtain⟨x,c,e⟩:=uT.1 h;exact⟨x,c,uT.2 ⟨p,a,by rw[uO] at e⊢;exact e.symm⟩⟩
 ·rintro⟨v,b,h⟩;obtain⟨p,a,e⟩:=uT.1 h;exact⟨p,a,uT.2 ⟨v,b,by rw[uO] at e⊢;exact e.symm⟩⟩
theorem alV {V:List Vr} {Q:List Int} (h:(lG (iL (aw V)) Q).2=0):Up Q V.length:=by
 cases hb:countB (iL (aw V)) Q with
 |false=>rw[Pc hb] at h;exact absurd h bd
 |true=>
  rw[countB,kj] at hb;have:=DU hb.2;rwa [bI,oT] at this
theorem amO {Q:List Int} {l:List (Nat×Nat)} (q:Up Q n) (h:((zF l).any fun p=>wP p.1 Q)=false):∀v∈ag Q,¬v∈l.map (·.1):=fun v c m=>by
 obtain⟨p,b,rfl⟩:=ba.1 m;refine I4.1 h ((p.1:Int),(p.2:Int)) (ba.2 ⟨p,b,rfl⟩) ?_;obtain⟨x,a,e⟩:=ba.1 c;have:=(DK q x a).1;refine uT.2 ⟨x,a,uO.2 ?_⟩;have d:x.toNat=p.1:=e;show x=(p.1:Int);omega
theorem Ux (g:Nat ->Rat):∀n,fsum ((List.range n).map fun K=>qF (g K))=bq g n
 |0=>rfl
 |n+1=>by
  rw[qC,eP,List.map_singleton,Hl,Ux g n];show bq g n+aQ (qF (g n))=_;rw[mZ];rfl
theorem an0 (h:n<=4294967296):(B n).size<=5:=by
 have a:=lY h;have b:(B 4294967296).size<=5:=by rw[lg];exact o8 5 4294967296 bd
 omega
theorem Xy {V:List Vr} (h0:bH V L R=0) (D:tR V R) (Q:List Int) (l:List (Nat×Nat)):∀k (h:k<(fk V L R Q l).2.length),(fk V L R Q l).2[k].2.1.size+(fk V L R Q l).2[k].2.2.size<=40000:=fun k h=>by
 have e:(fk V L R Q l).2[k]=qF (mQ V L R (qV (aw V) (ag Q) k++l)):=by simp[fk]
 rw[e,YP,Ss];have:=aiL h0 (Gk h0) D (qV (aw V) (ag Q) k++l) (aq _);omega
theorem aez {V:List Vr} (h0:bH V L R=0) (D:tR V R) {Q:List Int} (q:Up Q V.length) (l:List (Nat×Nat)):∀k,k<=(fk V L R Q l).2.length ->qw (fsum ((fk V L R Q l).2.take k))<=8005:=fun k o=>by
 have r:(fk V L R Q l).2.length=cnt (aw V) (ag Q):=by simp[fk]
 have e:(fk V L R Q l).2.take k=(List.range k).map fun K=>qF (mQ V L R (qV (aw V) (ag Q) K++l)):=by
  rw[fk, <- List.map_take,List.take_range,tX al]
 rw[e,Ux];have p:=Gk h0;have z:gS R (List.range V.length)≠0:=(PD.net (V:=V) (L:=L) h0 (fun v c=>cI.1 c)).nz.1
 have a:eR (gS R (List.range V.length)) (bq (fun K=>mQ V L R (qV (aw V) (ag Q) K++l)) k):=eR.sum fun K _=>by
  rw[Ss];exact eR.sum fun x h=>(Vb h0 p _ h).1
 have b:k9 (k*(cnt (aw V) (List.range V.length)*1)) (bq (fun K=>mQ V L R (qV (aw V) (ag Q) K++l)) k):=k9.sum fun K _=>by
  rw[Ss];exact k9.sum fun x h=>(Vb h0 p _ h).2
 have d:=a.size z b;have f:=acX h0;have g:=UH (kN h0).fine q.nodup (by rw[oT];exact q.aa);have i:k*(cnt (aw V) (List.range V.length)*1)<=65536*65536:=iO al al;have j:=an0 (n:=k*(cnt (aw V) (List.range V.length)*1)) al;have m:(B (gS R (List.range V.length))).size<=4000:=D;omega
theorem Xx {V:List Vr} (h0:bH V L R=0) (h:tR V R) {Q:List Int} (q:Up Q V.length) (l:List (Nat×Nat)):∀k,k<=(fk V L R Q l).2.length ->qw (fsum ((fk V L R Q l).2.take k))<=40000:=fun k a=>aR (aez h0 h q l k a) bd
theorem aeB {V:List Vr} (h0:bH V L R=0) {Q:List Int} (h:Up Q V.length) (l:List (Nat×Nat)):j7 (iL (aw V)) Q (fk V L R Q l).2.length=0:=
 UN (K3 (kN h0).fine (by rw[bI,oT];exact h)) (by rw[jC];simp[fk])
theorem alP (f:Fr):(B (aQ f).den).size<=f.2.2.size+1:=by
 have e:aQ f=mkRat (sg f.1 (N f.2.1)) (N f.2.2):=rfl;by_cases h:N f.2.2=0
 ·rw[e,h,Rat.mkRat_zero];have:(B ((0:Rat).den)).size<=1:=by rw[lg];exact o8 1 1 bd
  omega
 ·have a:eR (N f.2.2) (aQ f):=⟨_,e⟩;have b:=Nat.le_of_dvd (lR h) (a.dvd h);have c:=lY b;have d:=ju f.2.2;omega
theorem acp (y:Nat):∀l:List Fr,(B (vI l*y)).size<=l.length+sw l+(B y).size
 |[]=>by rw[vI,jP];omega
 |f::l=>by
  rw[vI,iP];have h:=yH (aQ f).den (vI l*y);have a:=alP f;have b:=acp y l;rw[ew,sw];omega
def wR (R:List (List Fr)):List Nat ->Nat
 |[]=>0
 |v::vs=>(R.getD v []).length+sw (R.getD v [])+wR R vs
theorem acm (R:List (List Fr)):∀s:List Nat,(B (gS R s)).size<=wR R s+1
 |[]=>by
  show (B 1).size<=0+1;rw[lg];exact o8 1 1 bd
 |v::vs=>by
  rw[gS,wR];have h:=acp (gS R vs) (R.getD v []);have a:=acm R vs;omega
theorem Rb:∀l:List Fr,l.length+sw l<=fw l
 |[]=>aq _
 |f::l=>by
  have:=Rb l;rw[ew,sw,fw];omega
theorem Xd (h:∀l∈R,fw l<=400):∀s:List Nat,wR R s<=400*s.length
 |[]=>aq _
 |v::vs=>by
  have b:=Xd h vs
  have c:(R.getD v []).length+sw (R.getD v [])<=400:=by
   by_cases a:v<R.length
   ·rw[bY,bj a];exact aR (Rb _) (h _ (bF a))
   ·rw[bY,jA al];exact aR (Rb _) bd
  rw[wR,ew];omega
theorem YV {V:List Vr} (h0:bH V L R=0) {l:List (Nat×Nat)} (b:tO (aw V) V.length l):i7 V L R (zF l)=0/\yM V L R (zF l)=qF (mQ V L R l):=by
 have e:i7 V L R (zF l)=0:=by
  rw[i7,aA h0];refine CU fun j h=>?_;have c:j<l.length:=by rw[yC] at h;exact h
  have m:=bF c;have a:(zF l)[j]=((l[j].1:Int),(l[j].2:Int)):=by simp[zF]
  have o:=b.lt _ m;have q:=b.val _ m;refine aca h (by rw[a];exact⟨ML _,by show ((l[j].1:Nat):Int)<_;omega⟩) (by rw[a];exact⟨ML _,by show ((l[j].2:Nat):Int)<((sz (aw V) ((l[j].1:Nat):Int).toNat:Nat):Int);rw[rD];omega⟩) ?_;rw[I4];intro p n;obtain⟨i,g,rfl⟩:=jz n;rw[eE,yC] at g;have w:i<l.length:=al
  have d:((zF l).take j)[i]'(by rw[eE,yC];omega)=((l[i].1:Int),(l[i].2:Int)):=by rw[zV];simp[zF]
  rw[a,d];have k:=zU.1 b.nd i j (by simpa using w) (by simpa using c) al;simp only[nO] at k;intro f;have r:((l[i].1:Nat):Int)=((l[j].1:Nat):Int):=by simpa using f
  exact k al
 refine⟨e,?_⟩;rw[yM,aA e,ND]
theorem amN {V:List Vr} (h0:bH V L R=0) {Q:List Int} (q:Up Q V.length) {l:List (Nat×Nat)} (f:tO (aw V) V.length l) (d:∀v∈ag Q,¬v∈l.map (·.1)):uB V L R Q (zF l)=0:=by
 have c:(lG (iL (aw V)) Q).2=0:=by
  have e:(iL (aw V)).length=V.length:=by rw[bI,oT]
  have a:=K3 (kN h0).fine (by rw[e];exact q);rw[lG,aA a]
 have b:¬((zF l).any fun p=>wP p.1 Q)=true:=fun h=>by
  obtain⟨p,g,n⟩:=uT.1 h;obtain⟨r,i,rfl⟩:=ba.1 g;have a:=ai4.1 n;refine d r.1 ?_ (ba.2 ⟨r,i,rfl⟩);exact ba.2 ⟨_,a,rD r.1⟩
 rw[uB,aA (YV h0 f).1,aA c,aD b]
theorem aey {V:List Vr} (h0:bH V L R=0) {Q:List Int} (h:Up Q V.length) (l:List (Nat×Nat)):fsum (fk V L R Q l).2=mQ V L R l:=by
 rw[fk];show fsum ((List.range (cnt (aw V) (ag Q))).map fun K=>qF (mQ V L R (qV (aw V) (ag Q) K++l)))=_;rw[Ux (fun K=>mQ V L R (qV (aw V) (ag Q) K++l)),aiN h0 (h.nodup)]
variable {K:Act ->World ->Prop} {Q:Exit ->Act ->World ->Prop} {R1 R2:List (List Fr)} {l:List Fr} {X:List Value} {D g m s:Nat} {F:Nat ->Nat ->Rat} {U U' w w':World}
theorem adV {P:Program} (w:World) {o:Oper} {a:Act} (l c:Operand) (t:TypeId) (A:o.op=Op.makeSlice t l c)
  (base:Nat) (e:TypeId) (i:TypeInfo) (z:Value) (s:Nat) (h1:P.underlying t=some (.slice e)) (h:P.info? e=some i) (j:i.zero=some z) (m:i.size=s)
  (b k:IntKind) (L C:Int) (n:Nat) (v:a.eval l=.int b L) (u:a.eval c=.int k C) (r:L=(n:Int)) (p:C=(n:Int)) (d:i.bytes*n<=281474976710656) (f:n<=maxLen) (g:base<=w.heap.size)
  (q:∀w',w'.ownsRow base e s (.slice (some ⟨w.heap.size,0,none⟩) n n) n (madeCells z.cells (n*s)).toList ->w.grownBy w' none ->K (a.put o.dst (.slice (some ⟨w.heap.size,0,none⟩) n n)) w'):o.wp P a w K Q:=by
 obtain⟨w',D,x,y⟩:=run_make_full (P:=P) w base t e i z s h1 h j m b k n d f g;subst r;subst p;unfold Oper.wp;simp[execOp,A,v,u,D,Result.andThen];exact q w' x y
def lL (w:World) (G:Nat) (X:List Value):Prop:=w.heap[G]? =some (.cells X.toArray 24 (0,0))
theorem lL.cell (h:lL w g X) (j:Nat) (a:j<X.length):w.cell? ⟨g,j,none⟩=some X[j]:=by
 rw[bG w g j _ _ (0,0) h];simp[a]
theorem lL.fz (h:lL w g X) (j:Nat):w.frozen? ⟨g,j,none⟩=false:=jw w g j _ _ h
theorem lL.lt (h:lL w g X):g<w.heap.size:=(cJ.1 h).1
theorem lL.aa {b:Nat} (h:lL w g X) (a:Below b w w') (c:g<b):lL w' g X:=(a.block g c).trans h
theorem lL.set (h:lL w g X) (j:Nat) (v:Value):lL (w.setCell ⟨g,j,none⟩ v) g (X.set j v):=by
 have a:(w.setCell ⟨g,j,none⟩ v).heap[g]? =some (.cells (X.toArray.setIfInBounds j v) 24 (0,0)):=jf w g j _ _ _ h;rw[lL,a];simp
theorem Z2 (n:Nat):(madeCells (Value.slice none 0 0).cells (n*1)).toList=List.replicate n (.slice none 0 0):=by
 rw[show (Value.slice none 0 0).cells= #[Value.slice none 0 0] from rfl,FK,kF]
structure wy (w:World) (s L G t:Nat) (F:Nat ->Nat ->Rat) (U:World):Prop where
 ex:∃X:List Value,X.length=L/\lL U G X/\∀k (hk:k<X.length),k< t ->(∃g,X[k]=.slice (some ⟨g,0,none⟩) s s/\G<g/\eN U g (lF s (F k)))/\∀k' (dH:k'<X.length),k'< k ->X[k']≠X[k]
 bel:ef w U
theorem wy.step {L G t:Nat} (h:wy w s L G t F U) (b:ef U U'):wy w s L G t F U':=by
 obtain⟨X,i,a,j⟩:=h.ex;refine⟨⟨X,i,a.aa b a.lt,fun k l m=>?_⟩,h.bel.trans (b.af h.bel.size)⟩;obtain⟨⟨g,c,d,e⟩,f⟩:=j k l m;exact⟨⟨g,c,d,e.aa b e.lt⟩,f⟩
theorem wy.lt {L G t:Nat} (h:wy w s L G t F U):G<U.heap.size:=by
 obtain⟨X,_,a,_⟩:=h.ex;exact a.lt
theorem wy.rows {L G:Nat} (h:wy w s L G L F U):gD U (some ⟨G,0,none⟩) ((List.range L).map fun t=>lF s (F t)):=fun k i=>by
 obtain⟨X,j,a,f⟩:=h.ex;have d:k<L:=by simpa using i
 obtain⟨⟨g,b,_,c⟩,_⟩:=f k al d;have e:((List.range L).map fun t=>lF s (F t))[k]=lF s (F k):=aE
 rw[e,iU];exact⟨G,0,_,s,rfl,a.lt,by rw[bB,a.cell k al,b],c.fr,aq _⟩
def HC.inn (h:HC):Nat ->Nat ->Rat
 |0,j=>h.st j
 |t+1,j=>eA (fun i=>h.alp t i*h.mv i j) h.s
theorem HC.alp_inn (h:HC):∀t i,h.alp t i=h.inn t i*h.sh t i
 |0,_=>rfl
 |_+1,_=>rfl
structure pj (D:Nat) (h:HC) (m:Nat) (l:List Fr) (R1 R2:List (List Fr)) (Q:List Nat):Prop where
 ok:ES h.s m l R1 R2
 L:Q.length=h.L
 q:∀x∈Q,x<m
 st:gV h.s h.st l
 mv:∀i (hi:i<R1.length),gV h.s (h.mv i) R1[i]
 sh:∀t (ht:t<Q.length) i (hi:i<R2.length),∃hx:Q[t]<R2[i].length,aQ R2[i][Q[t]]=h.sh t i/\R2[i][Q[t]].2.1.size+R2[i][Q[t]].2.2.size<=30010
 sm:h.Sml D
theorem pj.inn {h:HC} {Q:List Nat} (v:pj D h m l R1 R2 Q):∀t i,t<h.L ->i<h.s ->qw (h.inn t i)<=30010
 |0,i,_,a=>v.sm.qw (v.sm.st i a) al
 |t+1,j,ht,hj=>v.sm.qw (Sm.sum v.sm.s4 fun i a=>(v.sm.alp t i al a).mul (v.sm.mv i a j hj)) al
theorem pj.mvs {h:HC} {Q:List Nat} (v:pj D h m l R1 R2 Q) (t:Nat) (c:t<h.L) (i j:Nat) (a:i<h.s) (b:j<h.s):qw (h.alp t i*h.mv i j)<=30010:=v.sm.qw ((v.sm.alp t i c a).mul (v.sm.mv i a j b)) al
theorem pj.mvp {h:HC} {Q:List Nat} (v:pj D h m l R1 R2 Q) (t:Nat) (b:t<h.L) (j k:Nat) (a:j<h.s) (d:k<=h.s):qw (eA (fun i=>h.alp t i*h.mv i j) k)<=40000:=aR (v.sm.qw (Sm.sum (by have:=v.sm.s4;omega) fun i c=>(v.sm.alp t i b al).mul (v.sm.mv i al j a)) al) al
theorem pj.alps {h:HC} {Q:List Nat} (v:pj D h m l R1 R2 Q) (t:Nat) (b:t<h.L):gV h.s (h.alp t) (lF h.s (h.alp t)):=gV.mk' fun i a=>v.sm.qw (v.sm.alp t i b a) al
structure FwH (h:HC) (m n:Nat) (Q:List Nat) (l:List Fr) (R1 R2:List (List Fr)):Prop where
 L:Q.length=h.L
 q:∀x∈Q,x<m
 st:gV n h.st l
 mv:∀i (hi:i<R1.length),gV n (h.mv i) R1[i]
 sh:∀t (ht:t<Q.length) i (hi:i<R2.length),∃hx:Q[t]<R2[i].length,aQ R2[i][Q[t]]=h.sh t i/\R2[i][Q[t]].2.1.size+R2[i][Q[t]].2.2.size<=30010
theorem aba (a b c d:Option Addr) (ca cb cc cd n L m:Nat) (l:List Fr) (R1 R2:List (List Fr)) (Q:List Nat) (h:HC) (w:World) (hI:xS w a b c n m l R1 R2) (V:pj D h m l R1 R2 Q) (iH:h.s=n) (hL:h.L=L) (hQ:aJ w d (iL Q)):
  du 20 #[.agg #[.slice a n ca,.slice b n cb,.slice c n cc],.slice d L cd] w fun e w'=>∃G,e=.returned (.slice (some ⟨G,0,none⟩) L L)/\w.heap.size<=G/\wy w n L G L h.alp w':=by
 obtain⟨i0,bM,bg,bh,bk⟩:=dJ Tryz.infoFracs;have mW:=V.sm.s4;have vD:=V.sm.L8;have cK:=V.ok.n1;have bm:=V.ok.m4;have aT:=V.ok;have AZ:=hid iH;have HL:=hid hL;have Mb:=hid V.inn;have Ig:=hid V.mvs;have VP:=hid V.mvp;have ad:=hid V.alps;have hv:=V;obtain⟨-,sU,iV,aj,Er,pV, -⟩:=hv;rw[iH] at mW cK aT Mb Ig VP ad aj Er;rw[hL] at vD Mb Ig VP ad;have oM:=hid aT;have I:Hid (FwH h m n Q l R1 R2):=⟨sU,iV,aj,Er,pV⟩;have HI:=hid hI;have HQ:=hid hQ;clear hI V hQ iH hL aT sU iV aj Er pV;have hA:=(au w.heap.size w).alloc (aq _) (dX (.slice a n ca) (.slice b n cb) (.slice c n cc));have dO:=b6.new w (.slice a n ca) (.slice b n cb) (.slice c n cc);have bf:(w.alloc (dX (.slice a n ca) (.slice b n cb) (.slice c n cc))).heap.size=w.heap.size+1:=aE
 have F:Hid (w.heap.size+1<=(w.alloc (dX (.slice a n ca) (.slice b n cb) (.slice c n cc))).heap.size):=by show _<=_;omega
 clear bf;go_enter Tryz.func20,Tryz.ntmps20;go_upto_region 1 with fail
 generalize (w.alloc (dX (.slice a n ca) (.slice b n cb) (.slice c n cc)))=W at *;have x:Hid (b6 W.drew w.heap.size (.slice a n ca) (.slice b n cb) (.slice c n cc)):=dO;have sA:=hid hA.drew;have ax:Hid (W.heap.size<=W.drew.heap.size):=aq W.heap.size;have ay:Hid (w.heap.size+1<=W.drew.heap.size):=F.o;clear F;have F:=ay;clear ay dO hA;refine gI (S:=fun u=>u.cell? ⟨w.heap.size,0,none⟩=some (.slice a n ca)) ao x.o.cells.1 (fun ak=>?_);generalize W.drew=O at *;refine ar 0 (.slice d L cd) ?_;refine ar 1 (.int .i64 (L:Nat)) ?_;refine ar 3 (.pointer (some ⟨w.heap.size,0,none⟩)) ?_;try simp only[gE,aP]
 refine ed 4 (.slice a n ca) ?_ ?_
 ·intro u' aO;try simp only[gE];obtain s0:=aO;go_simp
 refine aG [2] (cA ?_ aF);intro K' P;rw[aA (by rfl)];refine adV _ _ _ 25 rfl W.heap.size 24 i0 (.slice none 0 0) 1 Tryz.underlying25 bM bg bh .i64 .i64 _ _ L rfl rfl b5 b5 (by rw[bk];omega) (by unfold maxLen;omega) (by exact ax.o) ?_;intro w2 a1 a6;have ae:ef O w2:=(au _ O).grown a6 (aq _) (fun k e=>by cases e);have ai:=qg a1;rw[Z2] at ai;have eo:Hid (wy w n L O.heap.size 0 h.alp w2):=⟨⟨_,BF,ai,fun k _ h=>absurd h al⟩,(sA.o.trans (ae.af sA.o.size))⟩;replace x:=hid (x.o.aa ae x.o.lt);refine P.o _ _ x.o.cells.1 (fun ah=>?_);clear P K' ak a1 a6 ai ae;refine ar 5 (.slice (some ⟨O.heap.size,0,none⟩) L L) ?_;refine ar 6 (.slice a n ca) ?_;try simp only[gE,aP]
 refine dS ao ?_ _;clear ah;obtain⟨G,xC⟩:∃G,O.heap.size=G:=⟨_,rfl⟩;simp only[xC] at eo⊢;have OI:w.heap.size<G:=by have h1:=sA.o.size;have h2:=F.o;omega
 clear xC;have mr:Hid (aW w2 a l/\gV n (h.inn 0) l):=⟨HI.o.st.aa eo.o.bel,I.o.st⟩;clear sA ax F;go_wp2_with fail
 go_loopw [6,16] (fun rv iv wr=>∃t:Nat,t<=L/\iv=.int .i64 t/\(∃(K:Option Addr) (cr:Nat) (r:List Fr),rv=.slice K n cr/\Hid (aW wr K r/\(t< L ->gV n (h.inn t) r)))/\Hid (wy w n L G t h.alp wr)/\Hid (b6 wr w.heap.size (.slice a n ca) (.slice b n cb) (.slice c n cc))) (fun _ iv _=>L - (intOf iv).toNat)
 case atStart=>exact⟨0,aV _,rfl,⟨a,ca,l,rfl,mr.o.1,fun _=>mr.o.2⟩,eo,x⟩
 case round=>
  obtain⟨t,ht,rfl,⟨K,cr,r,rfl,j9⟩,H,E⟩:=hrel;clear eo x mr;by_cases v:t<L
  ·have Y:t<Q.length:=by rw[I.o.L,HL.o];exact v
   (have vv:t<(iL Q).length:=by rw[bI];exact Y);obtain⟨gq,oq,rfl,y8,q0⟩:=(HQ.o.aa H.o.bel) t vv;(have eq:(iL Q)[t]=((Q[t]:Nat):Int):=by simp[iL]);rw[eq] at q0;have En:Q[t]<m:=I.o.q _ (bF Y);have jK:=hid (fun (U:World) (hU:ef w U) (hr:aW U K r)=>abA a b c K n n ca cb cc cr n Q[t] R2 r (h.inn t) (h.sh t) U ((HI.o.aa hU).sh) hr (j9.o.2 v) oM.o.sh.len (I.o.sh t Y) (fun i hi=>by rw[oM.o.sh.each i hi];omega) al);have bb:=hid (fun (U:World) (hU:ef w U) (g:Nat) (hr:aW U (some ⟨g,0,none⟩) (lF n (h.alp t)))=>amn (some ⟨g,0,none⟩) b n cb n (lF n (h.alp t)) R1 (h.alp t) h.mv U hr ((HI.o.aa hU).mv) (ad.o t v) oM.o.mv I.o.mv (Ig.o t v) (VP.o t v) al al);have zK:Hid ((lF n fun i=>h.inn t i*h.sh t i)=lF n (h.alp t)):=aal fun i _=>(h.alp_inn t i).symm
   have a7:Hid (t+1< L ->gV n (h.inn (t+1)) (lF n fun j=>eA (fun i=>h.alp t i*h.mv i j) n)):=fun h1=>by
    (have e:(lF n fun j=>eA (fun i=>h.alp t i*h.mv i j) n)=lF n (h.inn (t+1)):=aal fun j _=>by rw[HC.inn,AZ.o]);rw[e];exact gV.mk' fun i hi=>Mb.o (t+1) i h1 hi
   rw[zK.o] at jK;generalize Q[t]=qt at *;clear eq vv Y zK;obtain⟨e0,e1,e2⟩:=E.o.cells;go_wp2_with fail
   refine(jK.o _ H.o.bel j9.o.1).af ?_;rintro e A ⟨gt,rfl,sY,aC,R⟩;have bd:G<gt:=aU H.o.lt sY;obtain⟨X,aS,av,Gu⟩:=H.o.ex;have ab:=av.aa R av.lt
   have an:∀k (M:k<X.length),k< t ->(∃g,X[k]=.slice (some ⟨g,0,none⟩) n n/\G<g/\eN A g (lF n (h.alp k)))/\(∀z (dH:z<X.length),z< k ->X[z]≠X[k])/\X[k]≠.slice (some ⟨gt,0,none⟩) n n:=fun k M ht=>by
    obtain⟨⟨g,e1,e2,e3⟩,e4⟩:=Gu k M ht;refine⟨⟨g,e1,e2,e3.aa R e3.lt⟩,e4,fun e=>?_⟩;have h1:=e3.lt;rw[e1] at e;injection e with e5;injection e5 with e6;injection e6 with e7;omega
   clear av Gu;replace H:=hid (H.o.step R);replace E:=hid (E.o.aa R E.o.lt);have k0:=ab.cell t al;have f0:=ab.fz t;have cO:=ab.set t (.slice (some ⟨gt,0,none⟩) n n);have si:=hid (H.o.bel.setCell (p:=⟨G,t,none⟩) (show w.heap.size<=G by omega) (.slice (some ⟨gt,0,none⟩) n n));have kC:Hid (eN (A.setCell ⟨G,t,none⟩ (.slice (some ⟨gt,0,none⟩) n n)) gt (lF n (h.alp t))):=aC.off G t _ al
   have Z:Hid (wy w n L G (t+1) h.alp (A.setCell ⟨G,t,none⟩ (.slice (some ⟨gt,0,none⟩) n n))):=by
    refine⟨⟨_,by rw[kg];exact aS,cO,fun k M wW=>?_⟩,si.o⟩;(have dH:k<X.length:=by rw[kg] at M;exact M);by_cases Ti:k=t
    ·subst Ti;refine⟨⟨gt,aE,bd,kC.o⟩,fun z T v=>?_⟩;rw[kg] at T;rw[I1 al,List.getElem_set_self];exact(an z T v).2.2
    ·obtain⟨⟨g,g1,y,g3⟩,g4,_⟩:=an k dH al;refine⟨⟨g,by rw[I1 al];exact g1,y,g3.off G t _ al⟩,fun z T v=>?_⟩;rw[kg] at T;rw[I1 al,I1 al];exact g4 z T v
   have tE:Hid (b6 (A.setCell ⟨G,t,none⟩ (.slice (some ⟨gt,0,none⟩) n n)) w.heap.size (.slice a n ca) (.slice b n cb) (.slice c n cc)):=(fQ A ⟨G,t,none⟩ _ w.heap.size (by simp;omega)).trans E.o
   have bc:Hid ((A.setCell ⟨G,t,none⟩ (.slice (some ⟨gt,0,none⟩) n n)).cell? ⟨G,t,none⟩=some (.slice (some ⟨gt,0,none⟩) n n)):=by
    have h9:=cO.cell t (by rw[kg];omega);show _=_;rw[h9];simp
   generalize X[t]'al=xt at *;clear an cO H E aC R q0 e0 e1 e2 aS ab si jK j9;go_upto_region 6 with fail
   clear k0 f0;generalize (A.setCell ⟨G,t,none⟩ (.slice (some ⟨gt,0,none⟩) n n))=J at *;have f:Hid (ef J J.drew):=(au _ J).drew;have HELD:Hid (∀u,ef J u ->u.cell? ⟨w.heap.size,1,none⟩=some (.slice b n cb)/\u.cell? ⟨G,t,none⟩=some (.slice (some ⟨gt,0,none⟩) n n)):=fun u hu=>⟨(tE.o.aa hu tE.o.lt).cells.2.1,(hu.cell (p:=⟨G,t,none⟩) Z.o.lt).trans bc.o⟩;refine gI (S:=fun u=>u.cell? ⟨w.heap.size,1,none⟩=some (.slice b n cb)/\u.cell? ⟨G,t,none⟩=some (.slice (some ⟨gt,0,none⟩) n n)) ao (HELD.o _ f.o) (fun ak=>?_);generalize J.drew=u4 at *;refine ar 0 (.slice (some ⟨G,0,none⟩) L L) ?_;refine ar 1 (.int .i64 (t:Nat)) ?_;refine ar 2 (.pointer (some ⟨G,t,none⟩)) ?_;refine ar 3 (.slice (some ⟨gt,0,none⟩) n n) ?_;refine ar 4 (.pointer (some ⟨w.heap.size,1,none⟩)) ?_;refine ar 5 (.slice b n cb) ?_;refine aG [6] (cA ?_ aF);intro K' P;go_simp;refine(bb.o _ (Z.o.bel.trans (f.o.af Z.o.bel.size)) gt ((kC.o.aa f.o kC.o.lt).fr)).af ?_;rintro e u5 ⟨y,rfl,bl,az,hb⟩;replace f:=hid (f.o.trans (hb.af f.o.size));refine P.o _ _ (HELD.o _ f.o) (fun ah=>?_);clear P K' ak hb;refine ar 7 (.tuple #[.slice (some ⟨y,0,none⟩) n n,.int .i64 0]) ?_;refine ar 8 (.slice (some ⟨y,0,none⟩) n n) ?_;refine ar 9 (.int .i64 0) ?_;refine ar 10 (.slice (some ⟨y,0,none⟩) n n) ?_;(try simp only[gE,aP]);refine dS ao ?_ _;clear ah;have jd:Hid (aW u5 (some ⟨y,0,none⟩) (lF n fun j=>eA (fun i=>h.alp t i*h.mv i j) n)):=az.fr
   have Fh:=hid (Z.o.step f.o);have tD:=hid (tE.o.aa f.o tE.o.lt);clear az;go_wp2;go_roundw
   case rel=>exact⟨t+1,al,b5,⟨some ⟨y,0,none⟩,n,_,rfl,jd.o,a7.o⟩,Fh,tD⟩
   case measure=>simp[intOf];omega
  ·obtain rfl:t=L:=al
   go_wp2;go_ret;exact⟨G,rfl,al,H.o⟩
theorem ajO (a b c d:Option Addr) (ca cb cc f n L m:Nat) (l:List Fr) (R1 R2:List (List Fr)) (Q:List Nat) (h:HC) (w:World) (I:xS w a b c n m l R1 R2) (V:pj D h m l R1 R2 Q) (H:h.s=n) (i:h.L=L) (j:aJ w d (iL Q)):
  du 20 #[.agg #[.slice a n ca,.slice b n cb,.slice c n cc],.slice d L f] w fun e w'=>∃G,e=.returned (.slice (some ⟨G,0,none⟩) L L)/\w.heap.size<=G/\gD w' (some ⟨G,0,none⟩) ((List.range L).map fun t=>lF n (h.alp t))/\ef w w':=by
 refine(aba a b c d ca cb cc f n L m l R1 R2 Q h w I V H i j).af ?_;rintro e w' ⟨G,rfl,g,K⟩;exact⟨G,rfl,g,K.rows,K.bel⟩
variable {M j:Nat} {v' x y z:Value}
theorem aW.at {b:Nat} (h:aW w (some ⟨g,0,none⟩) l) (a:Below b w w') (c:g<b):aW w' (some ⟨g,0,none⟩) l:=fun k m=>by
 obtain⟨g',o,e,d,f,i,j⟩:=h k m;cases e;exact⟨g,0,rfl,aU d a.size,(a.cell (p:=⟨g,_,none⟩) c).trans f,(a.cell (p:=⟨g,_,none⟩) c).trans i,(a.cell (p:=⟨g,_,none⟩) c).trans j⟩
theorem aW.setOff {b:Nat} (h:aW w (some ⟨g,0,none⟩) l) (v:Value) (n:g≠b):aW (w.setCell ⟨b,j,none⟩ v) (some ⟨g,0,none⟩) l:=fun k i=>by
 obtain⟨g',o,e,a,c,d,f⟩:=h k i;cases e;refine⟨g,0,rfl,by simpa using a,?_,?_,?_⟩
 ·exact(dY _ _ _ _ (fun e=>n (dh Addr.block e).symm)).trans c
 ·exact(dY _ _ _ _ (fun e=>n (dh Addr.block e).symm)).trans d
 ·exact(dY _ _ _ _ (fun e=>n (dh Addr.block e).symm)).trans f
theorem cH.some' {B:Nat} {v:Value} (h:cH w B v l) (h1:1<=l.length):∃g c,v=.slice (some ⟨g,0,none⟩) l.length c/\g<w.heap.size/\l.length<=c/\aW w (some ⟨g,0,none⟩) l:=by
 obtain⟨d,c,e,j⟩:=h.fr;rcases h.2 with ⟨_,b⟩ |⟨g,cap,r,a,b,f,i,_⟩
 ·omega
 ·rw[e] at a;cases a;exact⟨g,c,e,(cJ.1 f).1,i,j⟩
structure yh (w:World) (n L G back:Nat) (F:Nat ->Nat ->Rat) (U:World):Prop where
 ex:∃X:List Value,X.length=L/\lL U G X/\(∀k (hk:k<X.length),k+back< L ->X[k]=.slice none 0 0)/\∀k (hk:k<X.length),L<=k+back ->∃g c,X[k]=.slice (some ⟨g,0,none⟩) n c/\n<=c/\g<U.heap.size/\G<g/\aW U (some ⟨g,0,none⟩) (lF n (F k))
 Gw:w.heap.size<G
 bel:ef w U
structure tU (w:World) (n L G M t:Nat) (F:Nat ->Nat ->Rat) (v:Value) (p:List Fr) (U:World):Prop where
 ex:∃X:List Value,X.length=L/\lL U G X/\(∃h:t<X.length,X[t]=v)/\(∀k (hk:k<X.length),k< t ->X[k]=.slice none 0 0)/\∀k (hk:k<X.length),t< k ->∃g c,X[k]=.slice (some ⟨g,0,none⟩) n c/\n<=c/\g<M/\G<g/\aW U (some ⟨g,0,none⟩) (lF n (F k))
 own:cH U M v p
 GM:G<M
 Gw:w.heap.size<G
 MU:M<=U.heap.size
 bel:ef w U
theorem tU.step {L G t:Nat} {v:Value} {p:List Fr} (h:tU w n L G M t F v p U) (b:ef U U'):tU w n L G M t F v p U':=by
 obtain⟨X,l,a,m,o,q⟩:=h.ex;refine⟨⟨X,l,a.aa b a.lt,m,o,fun k r s=>?_⟩,h.own.aa b,h.GM,h.Gw,aR h.MU b.size,h.bel.trans (b.af h.bel.size)⟩;obtain⟨g,c,e,d,f,i,j⟩:=q k r s;exact⟨g,c,e,d,f,i,j.aa b⟩
theorem tU.cell {L G t:Nat} {v:Value} {p:List Fr} (h:tU w n L G M t F v p U):U.cell? ⟨G,t,none⟩=some v/\U.frozen? ⟨G,t,none⟩=false/\G<U.heap.size:=by
 obtain⟨X,d,a,⟨b,c⟩,_⟩:=h.ex;exact⟨by rw[a.cell t b,c],a.fz t,a.lt⟩
theorem tU.grown {L G t:Nat} {v:Value} {p j:List Fr} (h:tU w n L G M t F v p U) (y:U.grownBy U' v.ownBlock) (z:cH U' M v' j):tU w n L G M t F v' j (U'.setCell ⟨G,t,none⟩ v')/\U'.cell? ⟨G,t,none⟩=some v/\U'.frozen? ⟨G,t,none⟩=false/\Below M U U':=by
 have o:Below M U U':=(au M U).grown y h.MU h.own.own;obtain⟨X,r,s,⟨i,A⟩,u,x⟩:=h.ex;have b:=s.aa o h.GM;have D:=h.GM;have I:=h.Gw;refine⟨⟨⟨X.set t v',by rw[kg];exact r,b.set t v',⟨by rw[kg];exact i,aE⟩,fun k a d=>?_,fun k a d=>?_⟩,z.off G t v' h.GM,h.GM,h.Gw,by rw[World.size_setCell];exact aR h.MU o.size,?_⟩,by rw[b.cell t i,A],b.fz t,o⟩
 ·rw[I1 al];exact u k (by rw[kg] at a;exact a) d
 ·rw[I1 al];obtain⟨g,c,l,m,e,f,q⟩:=x k (by rw[kg] at a;exact a) d;exact⟨g,c,l,m,e,f,(q.at o e).setOff v' (Nat.ne_of_gt f)⟩
 ·exact(h.bel.trans (o.af (by have:=h.bel.size;omega))).setCell (p:=⟨G,t,none⟩) (show w.heap.size<=G by omega) v'
theorem yh.into {L G d t:Nat} (h:yh w n L G d F U) (i:t+d+1=L):tU w n L G U.heap.size t F (.slice none 0 0) [] U:=by
 obtain⟨X,e,b,c,f⟩:=h.ex;refine⟨⟨X,e,b,⟨al,c t al al⟩,fun k a g=>c k a al,fun k a g=>f k a al⟩,cH.empty _ _,b.lt,h.Gw,aq _,h.bel⟩
theorem tU.done {L G t i:Nat} {v:Value} (h:tU w n L G M t F v (lF n (F t)) U) (u:t+i+1=L) (h1:1<=n):yh w n L G (i+1) F U:=by
 obtain⟨X,x,o,⟨y,r⟩,p,q⟩:=h.ex;have z:=h.GM;refine⟨⟨X,x,o,fun k f m=>p k f al,fun k f m=>?_⟩,h.Gw,h.bel⟩;by_cases T:k=t
 ·subst T;obtain⟨g,j,e,b,a,d⟩:=h.own.some' (by rw[iU];exact h1);rw[iU] at e a;refine⟨g,j,by rw[r,e],a,b,?_,d⟩;have s:=h.own.own g (by rw[e];rfl);omega
 ·obtain⟨g,c,e,b,a,d,l⟩:=q k f al;exact⟨g,c,e,b,aU a h.MU,d,l⟩
theorem yh.start {L G:Nat} (r:lL U G (List.replicate L (.slice none 0 0))) (b:w.heap.size<G) (c:ef w U):yh w n L G 0 F U:=
 ⟨⟨_,BF,r,fun k a _=>aE,fun k a h=>by rw[BF] at a;omega⟩,b,c⟩
theorem tU.next {L G t:Nat} {v:Value} {p:List Fr} (h:tU w n L G M t F v p U) (o:t+1<L):∃g c,U.cell? ⟨G,t+1,none⟩=some (.slice (some ⟨g,0,none⟩) n c)/\g<U.heap.size/\aW U (some ⟨g,0,none⟩) (lF n (F (t+1))):=by
 obtain⟨X,k,d,l,m,f⟩:=h.ex;obtain⟨g,c,e,i,a,j,b⟩:=f (t+1) al al;exact⟨g,c,by rw[d.cell (t+1) al,e],aU a h.MU,b⟩
theorem aiW {f:Nat ->Rat} (h:i<n):(lF n f).take i++[qF (f i)]=(lF n f).take (i+1):=by
 rw[iF (by rw[iU];exact h),B8]
theorem b6.setOff (h:b6 w g x y z) (b j:Nat) (v:Value) (e:g≠b):b6 (w.setCell ⟨b,j,none⟩ v) g x y z:=(fQ w ⟨b,j,none⟩ v g e).trans h
theorem ajU (a b c d:Option Addr) (ca cb cc cd n L m Hm:Nat) (l:List Fr) (R1 R2:List (List Fr)) (Q:List Nat) (h:HC) (F:Nat ->Nat ->Rat) (Tg:(Nat ->Rat) ->Rat) (w:World) (hI:xS w a b c n m l R1 R2) (E:pj D h m l R1 R2 Q) (iH:h.s=n) (hL:h.L=L) (hQ:aJ w d (iL Q)) (eF:∀bb w,(callFunc Hm bb).run Tryz.prog w=.ok (.enter Hm bb) w)
  (KG:∀i,i< n ->F (L - 1) i=1) (ax:∀t i,t+1< L ->i< n ->F t i=Tg fun j=>h.mv i j*h.sh (t+1) j*F (t+1) j) (T9:∀t i,t< L ->i< n ->qw (F t i)<=30010) (ay:∀t i j,t+1< L ->i< n ->j< n ->qw (h.mv i j*h.sh (t+1) j)<=30010/\qw (h.mv i j*h.sh (t+1) j*F (t+1) j)<=30010)
  (az:∀t i k,t+1< L ->i< n ->k<=n ->qw (eA (fun j=>h.mv i j*h.sh (t+1) j*F (t+1) j) k)<=40000) (aE:∀(f:Nat ->Rat) (U:World) (g k:Nat),(∀i,i< n ->qw (f i)<=30010) ->(∀k,k<=n ->qw (eA f k)<=40000) ->aW U (some ⟨g,0,none⟩) (lF n f) ->du Hm #[.slice (some ⟨g,0,none⟩) n k] U fun e w'=>e=.returned (iB (qF (Tg f)))/\ef U w'):
  du 23 #[.agg #[.slice a n ca,.slice b n cb,.slice c n cc],.slice d L cd,.func (.func Hm) #[] #[]] w fun e w'=>∃G,e=.returned (.slice (some ⟨G,0,none⟩) L L)/\yh w n L G L F w':=by
 obtain⟨i0,bM,bx,bz,bA⟩:=dJ Tryz.infoFracs;have mW:=E.sm.s4;have vD:=E.sm.L8;have cK:=E.ok.n1;have b1:=E.ok.m4;have aT:=E.ok;obtain⟨-,sU,iV,a1,Er,pV, -⟩:=E;rw[iH] at mW cK aT a1 Er;rw[hL] at vD sU;have oM:=hid aT;have LL:=hid sU;have PG:=hid iV;have bk:=hid Er;have bo:=hid pV;have Qm:=hid KG;have Dp:=hid ax;have Ir:=hid T9;have Qh:=hid ay;have bg:=hid az;have bl:=hid aE;have HI:=hid hI;have HQ:=hid hQ;have nD:=hid (fun V:World=>xI (k:=1) (w:=V) 1 1 rfl bd (by rfl));clear hI hQ iH hL aT sU iV a1 Er pV KG ax T9 ay az aE;have hA:=(au w.heap.size w).alloc (aq _) (dX (.slice a n ca) (.slice b n cb) (.slice c n cc));have dO:=b6.new w (.slice a n ca) (.slice b n cb) (.slice c n cc);have Dq:Hid (w.heap.size+1<=(w.alloc (dX (.slice a n ca) (.slice b n cb) (.slice c n cc))).heap.size):=by show _<=_;simp
 go_enter Tryz.func23,Tryz.ntmps23;go_upto_region 1 with fail
 generalize (w.alloc (dX (.slice a n ca) (.slice b n cb) (.slice c n cc)))=W at *;go_upto_region 2 with (at_make;refine lj _ rfl _ _ 25 rfl W.heap.size 24 i0 (.slice none 0 0) 1 Tryz.underlying25 bM bx bz .i64 .i64 _ _ L rfl rfl b5 b5 (by rw[bA];omega) (by unfold maxLen;omega) (aq _) ?_;intro w2 bc bf)
 have ad:ef W w2:=(au _ W).grown bf (aq _) (fun k e=>by cases e);have ae:=qg bc;rw[Z2] at ae;have eo:Hid (yh w n L W.heap.size 0 F w2):=yh.start ae (by have:=Dq.o;omega) (hA.trans (ad.af hA.size));have ai:=hid (dO.aa ad dO.lt);obtain⟨G,xC⟩:∃G,W.heap.size=G:=⟨_,rfl⟩;simp only[xC] at eo⊢;clear bc bf ae ad hA dO Dq xC;go_wp2_with fail
 go_loopw [17] (fun iv wr=>∃R:Nat,R<=L/\iv=.int .i64 R/\Hid (yh w n L G R F wr)/\Hid (b6 wr w.heap.size (.slice a n ca) (.slice b n cb) (.slice c n cc))) (fun iv _=>L - (intOf iv).toNat)
 case atStart=>exact⟨0,aV _,rfl,eo,ai⟩
 case round=>
  obtain⟨R,TA,rfl,VT,V4⟩:=hrel;clear eo ai;by_cases b0:R<L
  ·obtain⟨t,ht⟩:∃t,t+R+1=L:=⟨L - 1 - R,al⟩;(have b2:t<L:=al);(have AY:Hid ((L:Int) - 1 - (R:Int)=(t:Int)):=by show _=_;omega);have VW:=hid (VT.o.into ht);obtain⟨e0, -, -⟩:=V4.o.cells;obtain⟨M,hM⟩:∃M,wr.heap.size=M:=⟨_,rfl⟩;rw[hM] at VW;clear hM VT;go_wp2_with fail
   rw[AY.o];clear e0;go_loopw [28] (fun iv wr=>∃i:Nat,i<=n/\iv=.int .i64 i/\(∃v,Hid (tU w n L G M t F v ((lF n (F t)).take i) wr))/\Hid (b6 wr w.heap.size (.slice a n ca) (.slice b n cb) (.slice c n cc))) (fun iv _=>n - (intOf iv).toNat)
   case atStart=>exact⟨0,aV _,rfl,⟨.slice none 0 0,VW⟩,V4⟩
   case round=>
    obtain⟨i,hi,rfl,⟨v,r⟩,z⟩:=hrel;clear VW V4;by_cases Es:i<n
    ·have Da:=hid (aiW (f:=F t) Es);go_wp2_with fail
     refine(nD.o _).af ?_;rintro e w3 ⟨rfl,ab⟩;have H:=hid (aI.new w3 (bw 1) (nu 1) (de 1));have O:=hid (ab.alloc ab.size (FC (bw 1) (nu 1) (de 1)));have av:wr.heap.size<=w3.heap.size:=ab.size;clear ab;by_cases bp:R=0
     focus
      have qj:Hid ((bw 1,nu 1,de 1)=qF (F t i)):=by
       show _=_;(obtain rfl:t=L - 1:=al);rw[Qm.o i Es];rfl
      (have bR:¬(0:Int)<(R:Int):=al);clear bp;generalize bw 1=on at *;generalize nu 1=ox at *;generalize de 1=oy at *;go_upto_region 12 with fail
      generalize (w3.alloc (FC on ox oy))=W9 at *;generalize w3.heap.size=gL at *;replace r:=hid (r.o.step O.o);replace z:=hid (z.o.aa O.o z.o.lt);obtain⟨q,S0⟩:∃q:Fr,q=(on,ox,oy):=⟨_,rfl⟩;rw[<- qj.o, <- S0] at Da;(have iw:Hid (aI W9 gL q.1 q.2.1 q.2.2):=by rw[S0];exact H.o);clear H S0 qj O;have H:=iw;clear iw;generalize W9=Wz at *;go_upto_region 12 with fail
      refine gI (S:=fun _=>True) ao trivial (fun _=>?_);replace r:=hid (r.o.step (au _ _).drew);have x8:Hid (b6 Wz.drew w.heap.size (.slice a n ca) (.slice b n cb) (.slice c n cc)):=z.o;have C3:Hid (aI Wz.drew gL q.1 q.2.1 q.2.2):=H.o;clear z H;have z:=x8;have H:=C3;clear x8 C3;generalize Wz.drew=A at *;refine ar 0 (.slice (some ⟨G,0,none⟩) L L) ?_;(try simp only[gE,aP]);refine ar 1 (.int .i64 (t:Nat)) ?_;(try simp only[gE,aP]);refine ar 2 (.slice (some ⟨G,0,none⟩) L L) ?_;(try simp only[gE,aP]);refine ar 3 (.int .i64 (t:Nat)) ?_;(try simp only[gE,aP]);refine ar 4 (.pointer (some ⟨G,t,none⟩)) ?_;(try simp only[gE,aP]);refine aG [5,6] (cA ?_ (cA ?_ aF))
      focus
       intro y K;obtain⟨P, -, -⟩:=r.o.cell;go_simp;refine K.o _ _ trivial (fun _=>?_);clear K y P;(try simp only[gE,aP]);refine aG [6] (cA ?_ aF);intro y K;obtain⟨x0,x1,x2, -⟩:=H.o.facts;go_simp;refine K.o _ _ trivial (fun _=>?_);clear K y x0 x1 x2;(try simp only[gE,aP]);refine aG [7] (cA ?_ aF);intro y K;go_simp;have I:=(au A.heap.size A).alloc (aq _) (FC q.1 q.2.1 q.2.2);have Y:=hid (aI.new A q.1 q.2.1 q.2.2);replace r:=hid (r.o.step I);replace z:=hid (z.o.aa I z.o.lt);replace H:=hid (H.o.aa I H.o.lt);clear I;refine K.o _ _ trivial (fun _=>?_);clear K y;obtain⟨gy,J⟩:∃x,A.heap.size=x:=⟨_,rfl⟩;obtain⟨z1,E⟩:∃x,A.alloc (FC q.1 q.2.1 q.2.2)=x:=⟨_,rfl⟩;rw[J] at Y;rw[E] at Y r z H;simp only[E];simp only[J];clear J E
      rotate_left
      focus
       intro y K;obtain⟨x0,x1,x2, -⟩:=H.o.facts;go_simp;refine K.o _ _ trivial (fun _=>?_);clear K y x0 x1 x2;(try simp only[gE,aP]);refine aG [5,7] (cA ?_ (cA ?_ aF))
       focus
        intro y K;obtain⟨P, -, -⟩:=r.o.cell;go_simp;refine K.o _ _ trivial (fun _=>?_);clear K y P;(try simp only[gE,aP]);refine aG [7] (cA ?_ aF);intro y K;go_simp;have I:=(au A.heap.size A).alloc (aq _) (FC q.1 q.2.1 q.2.2);have Y:=hid (aI.new A q.1 q.2.1 q.2.2);replace r:=hid (r.o.step I);replace z:=hid (z.o.aa I z.o.lt);replace H:=hid (H.o.aa I H.o.lt);clear I;refine K.o _ _ trivial (fun _=>?_);clear K y;obtain⟨gy,J⟩:∃x,A.heap.size=x:=⟨_,rfl⟩;obtain⟨z1,E⟩:∃x,A.alloc (FC q.1 q.2.1 q.2.2)=x:=⟨_,rfl⟩;rw[J] at Y;rw[E] at Y r z H;simp only[E];simp only[J];clear J E
       rotate_left
       focus
        intro y K;go_simp;have I:=(au A.heap.size A).alloc (aq _) (FC q.1 q.2.1 q.2.2);have Y:=hid (aI.new A q.1 q.2.1 q.2.2);replace r:=hid (r.o.step I);replace z:=hid (z.o.aa I z.o.lt);replace H:=hid (H.o.aa I H.o.lt);clear I;refine K.o _ _ trivial (fun _=>?_);clear K y;obtain⟨gy,J⟩:∃x,A.heap.size=x:=⟨_,rfl⟩;obtain⟨z1,E⟩:∃x,A.alloc (FC q.1 q.2.1 q.2.2)=x:=⟨_,rfl⟩;rw[J] at Y;rw[E] at Y r z H;simp only[E];simp only[J];clear J E;(try simp only[gE,aP]);refine aG [5] (cA ?_ aF);intro y K;obtain⟨P, -, -⟩:=r.o.cell;go_simp;refine K.o _ _ trivial (fun _=>?_);clear K y P
      all_goals
       (try simp only[gE,aP]);refine aG [8] (cA ?_ aF);intro y K;rw[aA (by rfl)];refine WX _ _ rfl M v ((lF n (F t)).take i) q rfl r.o.own gy rfl Y.o (by rw[eE,iU];omega) r.o.MU ?_;intro v2 V8 Ao Ew;obtain⟨d8,n8,c8,rfl⟩:=Ao.slv;obtain⟨Om,kc,kf,iZ⟩:=r.o.grown Ew Ao;refine K.o _ _ trivial (fun _=>?_);clear K y;(try simp only[gE,aP]);refine ar 9 (.pointer (some ⟨G,t,none⟩)) ?_;(try simp only[gE,aP]);refine aG [10] (cA ?_ aF);intro y K;go_simp;have VU:=hid Om;have aj:Hid (b6 (V8.setCell ⟨G,t,none⟩ (.slice d8 n8 c8)) w.heap.size (.slice a n ca) (.slice b n cb) (.slice c n cc)):=(z.o.aa iZ (by have:=r.o.GM;have:=r.o.Gw;omega)).setOff G t (.slice d8 n8 c8) (by have:=r.o.Gw;omega)
     rotate_left 3
     focus
      (have an:t+1<L:=al);(have bN:(t:Int)+1<(L:Int):=al);(have bL:IntKind.i64.wrap ((t:Int)+1)=(t:Int)+1:=by rw[fj];omega);(have bJ:¬(t:Int)+1<0:=al);(have qQ:i<R1.length:=by rw[oM.o.mv.len];exact Es);obtain⟨T,Z,bm,cm,rfl,rT,m0,aO, -⟩:=HI.o.mv i qQ;rw[oM.o.mv.each i qQ] at m0;(have Al:t+1<Q.length:=by rw[LL.o];exact an);obtain⟨gq,oq,rfl,y8,q0⟩:=HQ.o (t+1) (by rw[bI];exact Al);(have eq:(iL Q)[t+1]'(by rw[bI];exact Al)=((Q[t+1]:Nat):Int):=by simp[iL]);rw[eq] at q0;obtain⟨gn,cn,n0,bX,aS⟩:=r.o.next al;have En:Q[t+1]<m:=PG.o _ (bF Al);have xm:=r.o.bel
      have jK:Hid (∀(U:World),ef wr U ->du 48 #[.agg #[.slice a n ca,.slice (some ⟨T,Z,none⟩) n cb,.slice c n cc],.slice bm n cm,.int .i64 (Q[t+1]:Nat)] U fun e w'=>∃g1,e=.returned (.slice (some ⟨g1,0,none⟩) n n)/\U.heap.size<=g1/\eN w' g1 (lF n fun j=>h.mv i j*h.sh (t+1) j)/\ef U w'):=fun U hU=>by
       have a6:=xm.trans (hU.af xm.size);exact abA a (some ⟨T,Z,none⟩) c bm n n ca cb cc cm n Q[t+1] R2 R1[i] (h.mv i) (h.sh (t+1)) U ((HI.o.aa a6).sh) (aO.aa a6) (bk.o i qQ) oM.o.sh.len (bo.o (t+1) Al) (fun i hi=>by rw[oM.o.sh.each i hi];omega) al
      have Db:Hid (∀(U:World),ef wr U ->∀g k,aW U (some ⟨g,0,none⟩) (lF n fun j=>h.mv i j*h.sh (t+1) j) ->du 24 #[.slice (some ⟨g,0,none⟩) n k,.slice (some ⟨gn,0,none⟩) n cn] U fun e w'=>∃g2,e=.returned (.slice (some ⟨g2,0,none⟩) n n)/\U.heap.size<=g2/\eN w' g2 (lF n fun j=>h.mv i j*h.sh (t+1) j*F (t+1) j)/\ef U w'):=fun U hU g k hg=>
       aby (some ⟨g,0,none⟩) (some ⟨gn,0,none⟩) k cn n _ _ (fun j=>h.mv i j*h.sh (t+1) j) (F (t+1)) U hg (aS.aa hU) (gV.mk' fun j hj=>by exact(Qh.o t i j al Es hj).1) (gV.mk' fun j hj=>Ir.o (t+1) j an hj) al
      have PA:Hid (∀(U:World) (g k:Nat),aW U (some ⟨g,0,none⟩) (lF n fun j=>h.mv i j*h.sh (t+1) j*F (t+1) j) ->du Hm #[.slice (some ⟨g,0,none⟩) n k] U fun e w'=>e=.returned (.agg #[.bool (qF (F t i)).1,.string (qF (F t i)).2.1,.string (qF (F t i)).2.2])/\ef U w'):=fun U g k hg=>by
       have h9:=bl.o (fun j=>h.mv i j*h.sh (t+1) j*F (t+1) j) U g k (fun j hj=>by exact(Qh.o t i j al Es hj).2) (fun k hk=>bg.o t i k al Es hk) hg;rw[Dp.o t i al Es];exact h9
      clear eq aO aS;generalize Q[t+1]=qt at *
      have HELD:Hid (∀u,ef wr u ->u.cell? ⟨w.heap.size,0,none⟩=some (.slice a n ca)/\u.cell? ⟨w.heap.size,1,none⟩=some (.slice (some ⟨T,Z,none⟩) n cb)/\u.cell? ⟨w.heap.size,2,none⟩=some (.slice c n cc)/\u.cell? ⟨T,Z+i,none⟩=some (.slice bm n cm)/\u.cell? ⟨gq,oq+(t+1),none⟩=some (.int .i64 (qt:Nat))/\u.cell? ⟨G,t+1,none⟩=some (.slice (some ⟨gn,0,none⟩) n cn)):=fun u hu=>by
       have a7:=xm.trans (hu.af xm.size);obtain⟨A,z1,z2⟩:=(z.o.aa hu z.o.lt).cells;exact⟨A,z1,z2,(a7.cell (p:=⟨T,_,none⟩) rT).trans m0,(a7.cell (p:=⟨gq,_,none⟩) y8).trans q0,(hu.cell (p:=⟨G,_,none⟩) r.o.cell.2.2).trans n0⟩
      generalize qF (F t i)=q at *;(have bO:(0:Int)<(R:Int):=al);generalize bw 1=on at *;generalize nu 1=ox at *;generalize de 1=oy at *;go_upto_region 11 with fail
      clear q0 m0 n0 xm;generalize (w3.alloc (FC on ox oy))=W8 at *;generalize w3.heap.size=gL at *;replace O:=hid O.o.drew;have C3:Hid (aI W8.drew gL on ox oy):=H.o;clear H;have H:=C3;clear C3;refine gI (S:=fun u=>u.cell? ⟨w.heap.size,0,none⟩=some (.slice a n ca)/\u.cell? ⟨w.heap.size,1,none⟩=some (.slice (some ⟨T,Z,none⟩) n cb)/\u.cell? ⟨w.heap.size,2,none⟩=some (.slice c n cc)/\u.cell? ⟨T,Z+i,none⟩=some (.slice bm n cm)/\u.cell? ⟨gq,oq+(t+1),none⟩=some (.int .i64 (qt:Nat))/\u.cell? ⟨G,t+1,none⟩=some (.slice (some ⟨gn,0,none⟩) n cn)) ao (HELD.o _ O.o) (fun ak=>?_);generalize W8.drew=u0 at *;refine ar 0 (.func (.func Hm) #[] #[]) ?_;(try simp only[gE,aP]);refine ar 1 (.agg #[.slice a n ca,.slice (some ⟨T,Z,none⟩) n cb,.slice c n cc]) ?_;(try simp only[gE,aP]);refine ar 2 (.pointer (some ⟨w.heap.size,1,none⟩)) ?_;(try simp only[gE,aP]);refine ar 3 (.slice (some ⟨T,Z,none⟩) n cb) ?_;(try simp only[gE,aP]);refine ar 4 (.int .i64 (i:Nat)) ?_;(try simp only[gE,aP]);refine ar 5 (.pointer (some ⟨T,Z+i,none⟩)) ?_;(try simp only[gE,aP]);refine ar 6 (.slice bm n cm) ?_;(try simp only[gE,aP]);refine ar 7 (.slice (some ⟨gq,oq,none⟩) L cd) ?_;(try simp only[gE,aP]);refine ar 8 (.int .i64 (t:Nat)) ?_;(try simp only[gE,aP]);refine ar 9 (.int .i64 (t+1:Nat)) ?_;(try simp only[gE,aP]);refine ar 10 (.pointer (some ⟨gq,oq+(t+1),none⟩)) ?_;(try simp only[gE,aP]);refine ar 11 (.int .i64 (qt:Nat)) ?_;(try simp only[gE,aP])
      refine ar 13 (.slice (some ⟨G,0,none⟩) L L) ?_;(try simp only[gE,aP]);refine ar 14 (.int .i64 (t:Nat)) ?_;(try simp only[gE,aP]);refine ar 15 (.int .i64 (t+1:Nat)) ?_;(try simp only[gE,aP]);refine ar 16 (.pointer (some ⟨G,t+1,none⟩)) ?_;(try simp only[gE,aP]);refine ar 17 (.slice (some ⟨gn,0,none⟩) n cn) ?_;(try simp only[gE,aP]);refine aG [12] (cA ?_ aF);intro y K;go_simp;refine(jK.o _ O.o).af ?_;rintro e u1 ⟨g1,rfl,bT,br,X⟩;replace H:=hid (H.o.aa X H.o.lt);replace O:=hid (O.o.trans (X.af O.o.size));refine K.o _ _ (HELD.o _ O.o) (fun ah=>?_);clear K y ak;have ak:=ah;clear ah X;(try simp only[gE,aP]);refine aG [18] (cA ?_ aF);intro y K;go_simp;refine(Db.o _ O.o g1 n br.fr).af ?_;rintro e u2 ⟨g2,rfl,bW,bu,X⟩;replace H:=hid (H.o.aa X H.o.lt);replace O:=hid (O.o.trans (X.af O.o.size));refine K.o _ _ (HELD.o _ O.o) (fun ah=>?_);clear K y ak;have ak:=ah;clear ah X;(try simp only[gE,aP]);refine aG [19] (cA ?_ aF);intro y K;go_simp;refine(PA.o _ g2 n bu.fr).af ?_;rintro e u3 ⟨rfl,X⟩;replace H:=hid (H.o.aa X H.o.lt);replace O:=hid (O.o.trans (X.af O.o.size));refine K.o _ _ (HELD.o _ O.o) (fun ah=>?_);clear K y ak;have ak:=ah;clear ah X;(try simp only[gE,aP]);obtain⟨P,k1,k2,f0,f1,f2⟩:=H.o.facts;refine aG [20] (cA ?_ aF);intro y K;go_simp;refine K.o _ _ (HELD.o _ (dV O.o av _ _ _)) (fun _=>dS ao ?_ _);clear K y ak;have ET:=hid (H.o.put q.1 q.2.1 q.2.2)
      have k8:=hid (dV O.o av (.bool q.1) (.string q.2.1) (.string q.2.2));clear P k1 k2 f0 f1 f2;generalize (((u3.setCell ⟨gL,0,none⟩ (.bool q.1)).setCell ⟨gL,1,none⟩ (.string q.2.1)).setCell ⟨gL,2,none⟩ (.string q.2.2))=W9 at *;replace r:=hid (r.o.step k8.o);replace z:=hid (z.o.aa k8.o z.o.lt);clear O H k8 HELD jK Db PA;have H:=ET;clear ET;generalize W9=Wz at *;go_upto_region 12 with fail
      refine gI (S:=fun _=>True) ao trivial (fun _=>?_);replace r:=hid (r.o.step (au _ _).drew);have x8:Hid (b6 Wz.drew w.heap.size (.slice a n ca) (.slice (some ⟨T,Z,none⟩) n cb) (.slice c n cc)):=z.o;have C3:Hid (aI Wz.drew gL q.1 q.2.1 q.2.2):=H.o;clear z H;have z:=x8;have H:=C3;clear x8 C3;generalize Wz.drew=A at *;refine ar 0 (.slice (some ⟨G,0,none⟩) L L) ?_;(try simp only[gE,aP]);refine ar 1 (.int .i64 (t:Nat)) ?_;(try simp only[gE,aP]);refine ar 2 (.slice (some ⟨G,0,none⟩) L L) ?_;(try simp only[gE,aP]);refine ar 3 (.int .i64 (t:Nat)) ?_;(try simp only[gE,aP]);refine ar 4 (.pointer (some ⟨G,t,none⟩)) ?_;(try simp only[gE,aP]);refine aG [5,6] (cA ?_ (cA ?_ aF))
      focus
       intro y K;obtain⟨P, -, -⟩:=r.o.cell;go_simp;refine K.o _ _ trivial (fun _=>?_);clear K y P;(try simp only[gE,aP]);refine aG [6] (cA ?_ aF);intro y K;obtain⟨x0,x1,x2, -⟩:=H.o.facts;go_simp;refine K.o _ _ trivial (fun _=>?_);clear K y x0 x1 x2;(try simp only[gE,aP]);refine aG [7] (cA ?_ aF);intro y K;go_simp;have I:=(au A.heap.size A).alloc (aq _) (FC q.1 q.2.1 q.2.2);have Y:=hid (aI.new A q.1 q.2.1 q.2.2);replace r:=hid (r.o.step I);replace z:=hid (z.o.aa I z.o.lt);replace H:=hid (H.o.aa I H.o.lt);clear I;refine K.o _ _ trivial (fun _=>?_);clear K y;obtain⟨gy,J⟩:∃x,A.heap.size=x:=⟨_,rfl⟩;obtain⟨z1,E⟩:∃x,A.alloc (FC q.1 q.2.1 q.2.2)=x:=⟨_,rfl⟩;rw[J] at Y;rw[E] at Y r z H;simp only[E];simp only[J];clear J E
      rotate_left
      focus
       intro y K;obtain⟨x0,x1,x2, -⟩:=H.o.facts;go_simp;refine K.o _ _ trivial (fun _=>?_);clear K y x0 x1 x2;(try simp only[gE,aP]);refine aG [5,7] (cA ?_ (cA ?_ aF))
       focus
        intro y K;obtain⟨P, -, -⟩:=r.o.cell;go_simp;refine K.o _ _ trivial (fun _=>?_);clear K y P;(try simp only[gE,aP]);refine aG [7] (cA ?_ aF);intro y K;go_simp;have I:=(au A.heap.size A).alloc (aq _) (FC q.1 q.2.1 q.2.2);have Y:=hid (aI.new A q.1 q.2.1 q.2.2);replace r:=hid (r.o.step I);replace z:=hid (z.o.aa I z.o.lt);replace H:=hid (H.o.aa I H.o.lt);clear I;refine K.o _ _ trivial (fun _=>?_);clear K y;obtain⟨gy,J⟩:∃x,A.heap.size=x:=⟨_,rfl⟩;obtain⟨z1,E⟩:∃x,A.alloc (FC q.1 q.2.1 q.2.2)=x:=⟨_,rfl⟩;rw[J] at Y;rw[E] at Y r z H;simp only[E];simp only[J];clear J E
       rotate_left
       focus
        intro y K;go_simp;have I:=(au A.heap.size A).alloc (aq _) (FC q.1 q.2.1 q.2.2);have Y:=hid (aI.new A q.1 q.2.1 q.2.2);replace r:=hid (r.o.step I);replace z:=hid (z.o.aa I z.o.lt);replace H:=hid (H.o.aa I H.o.lt);clear I;refine K.o _ _ trivial (fun _=>?_);clear K y;obtain⟨gy,J⟩:∃x,A.heap.size=x:=⟨_,rfl⟩;obtain⟨z1,E⟩:∃x,A.alloc (FC q.1 q.2.1 q.2.2)=x:=⟨_,rfl⟩;rw[J] at Y;rw[E] at Y r z H;simp only[E];simp only[J];clear J E;(try simp only[gE,aP]);refine aG [5] (cA ?_ aF);intro y K;obtain⟨P, -, -⟩:=r.o.cell;go_simp;refine K.o _ _ trivial (fun _=>?_);clear K y P
      all_goals
       (try simp only[gE,aP]);refine aG [8] (cA ?_ aF);intro y K;rw[aA (by rfl)];refine WX _ _ rfl M v ((lF n (F t)).take i) q rfl r.o.own gy rfl Y.o (by rw[eE,iU];omega) r.o.MU ?_;intro v2 V8 Ao Ew;obtain⟨d8,n8,c8,rfl⟩:=Ao.slv;obtain⟨Om,kc,kf,iZ⟩:=r.o.grown Ew Ao;refine K.o _ _ trivial (fun _=>?_);clear K y;(try simp only[gE,aP]);refine ar 9 (.pointer (some ⟨G,t,none⟩)) ?_;(try simp only[gE,aP]);refine aG [10] (cA ?_ aF);intro y K;go_simp;have VU:=hid Om;have aj:Hid (b6 (V8.setCell ⟨G,t,none⟩ (.slice d8 n8 c8)) w.heap.size (.slice a n ca) (.slice (some ⟨T,Z,none⟩) n cb) (.slice c n cc)):=(z.o.aa iZ (by have:=r.o.GM;have:=r.o.Gw;omega)).setOff G t (.slice d8 n8 c8) (by have:=r.o.Gw;omega)
     all_goals
      refine K.o _ _ trivial (fun _=>?_);clear K y;refine dS ao ?_ _;rw[Da.o] at VU;clear kc kf iZ Om Ao Ew r z H Y;go_wp2;go_roundw
      case rel=>exact⟨i+1,al,b5,⟨.slice d8 n8 c8,VU⟩,aj⟩
      case measure=>simp[intOf];omega
    ·obtain rfl:i=n:=al
     have td:=r.o;rw[lT (by rw[iU];exact aq _)] at td;have Wu:=hid (td.done ht al);clear td r;go_wp2;go_roundw
     case rel=>exact⟨R+1,al,b5,Wu,z⟩
     case measure=>simp[intOf];omega
  ·obtain rfl:R=L:=al
   go_wp2;go_ret;exact⟨G,rfl,VT.o⟩
theorem pj.okn {h:HC} {Q:List Nat} (v:pj D h m l R1 R2 Q) (i:h.s=n):ES n m l R1 R2:=by
 have a:=v.ok;rwa [i] at a
def HC.behind (h:HC) (t i:Nat):Rat:=h.bet (h.L - 1 - t) i
theorem HC.behind_last (h:HC) (i:Nat):h.behind (h.L - 1) i=1:=by rw[HC.behind,mF];rfl
theorem HC.behind_step (h:HC) {t:Nat} (a:t+1<h.L):h.behind t i=eA (fun j=>h.mv i j*h.sh (t+1) j*h.behind (t+1) j) h.s:=by
 rw[HC.behind,show h.L - 1 - t=(h.L - 1 - (t+1))+1 by omega,HC.bet,show h.L - 1 - (h.L - 1 - (t+1))=t+1 by omega];rfl
theorem HC.Sml.behind {h:HC} (v:h.Sml D) {t:Nat} (b:t<h.L) (a:i<h.s):Sm D (3*(h.L - 1 - t)) (h.behind t i):=v.bet (h.L - 1 - t) i al a
def HC.seen (h:HC):Rat:=if h.L=0 then 1 else h.all
theorem ajV (a b c d:Option Addr) (ca cb cc u n L m:Nat) (l:List Fr) (R1 R2:List (List Fr)) (Q:List Nat) (h:HC) (w:World) (I:xS w a b c n m l R1 R2) (V:pj D h m l R1 R2 Q) (H:h.s=n) (y:h.L=L) (A:aJ w d (iL Q)):
  du 23 #[.agg #[.slice a n ca,.slice b n cb,.slice c n cc],.slice d L u,.func (.func 19) #[] #[]] w fun e w'=>∃G,e=.returned (.slice (some ⟨G,0,none⟩) L L)/\yh w n L G L h.behind w':=by
 have O:=V.sm.s4;refine ajU a b c d ca cb cc u n L m 19 l R1 R2 Q h h.behind (fun f=>eA f n) w I V H y A (enters_of Tryz.func19 ao rfl) ?_ ?_ ?_ ?_ ?_ ?_
 ·intro i _;rw[<- y];exact h.behind_last i
 ·intro t i r _;rw[<- H];exact h.behind_step al
 ·intro t i r z;exact V.sm.qw (V.sm.behind al al) al
 ·intro t i j r z J;have v:=(V.sm.mv i al j al).mul (V.sm.sh (t+1) al j al);exact⟨V.sm.qw v al,V.sm.qw (v.mul (V.sm.behind (t:=t+1) al al)) al⟩
 ·intro t i k r z M;exact aR (V.sm.qw (Sm.sum al fun j J=>((V.sm.mv i al j al).mul (V.sm.sh (t+1) al j al)).mul (V.sm.behind (t:=t+1) al al)) al) al
 ·intro f U g k F K E;have p:=gV.mk' F;have x:=Ho (some ⟨g,0,none⟩) k (lF n f) U E (fun q o=>aR (p.size q o) al) (fun q o=>by rw[iU] at o;rw[p.fsumk o];exact K q o) (by rw[iU];omega);rw[iU,p.fsum] at x;exact x
theorem aa9 (a b c d:Option Addr) (ca cb cc y n L m:Nat) (l:List Fr) (R1 R2:List (List Fr)) (Q:List Nat) (h:HC) (w:World) (Y:xS w a b c n m l R1 R2) (f:pj D h m l R1 R2 Q) (u:h.s=n) (x:h.L=L) (ad:b=none ->cb=0) (ae:c=none ->cc=0) (Z:aJ w d (iL Q)):
  du 8 #[.agg #[.slice a n ca,.slice b n cb,.slice c n cc],.slice d L y] w (eS w (.tuple #[iB (qF h.seen),.int .i64 0])):=by
 have O:=f.L;rw[x] at O;have qa:=(au w.heap.size w).alloc (aq _) (dX (.slice a n ca) (.slice b n cb) (.slice c n cc));have P:=b6.new w (.slice a n ca) (.slice b n cb) (.slice c n cc);have I:=qa.alloc qa.size (FC false ⟨#[]⟩ ⟨#[]⟩);have aj:=(au (w.alloc (dX (.slice a n ca) (.slice b n cb) (.slice c n cc))).heap.size (w.alloc (dX (.slice a n ca) (.slice b n cb) (.slice c n cc)))).alloc (aq _) (FC false ⟨#[]⟩ ⟨#[]⟩);have S:=P.aa aj P.lt
 have hX:aI ((w.alloc (dX (.slice a n ca) (.slice b n cb) (.slice c n cc))).alloc (FC false ⟨#[]⟩ ⟨#[]⟩)) (w.heap.size+1) false ⟨#[]⟩ ⟨#[]⟩:=by
  have g:=aI.new (w.alloc (dX (.slice a n ca) (.slice b n cb) (.slice c n cc))) false ⟨#[]⟩ ⟨#[]⟩;rwa [dE] at g
 have gC:Hid (du 17 #[.agg #[.slice a n ca,.slice b n cb,.slice c n cc],.slice d L y] ((w.alloc (dX (.slice a n ca) (.slice b n cb) (.slice c n cc))).alloc (FC false ⟨#[]⟩ ⟨#[]⟩)) fun e w'=>e=.returned (.int .i64 0)/\Below ((w.alloc (dX (.slice a n ca) (.slice b n cb) (.slice c n cc))).alloc (FC false ⟨#[]⟩ ⟨#[]⟩)).heap.size ((w.alloc (dX (.slice a n ca) (.slice b n cb) (.slice c n cc))).alloc (FC false ⟨#[]⟩ ⟨#[]⟩)) w'):=by
  have g:=ajR a b c d ca cb cc y n m l R1 R2 Q _ (Y.aa I) (f.okn u) ad ae (Z.aa I) f.q (by rw[O, <- x];exact f.sm.L8);rwa [O] at g
 have Iq:=hid (fun (U:World) (hU:ef w U)=>ajO a b c d ca cb cc y n L m l R1 R2 Q h U (Y.aa hU) f u x (Z.aa hU));have mW:=f.sm.s4;have vD:=f.sm.L8;rw[u] at mW;rw[x] at vD
 have A1:Hid (∀k,k+1=L ->h.seen=eA (h.alp k) n):=fun k j=>by
  rw[HC.seen,aD al,HC.all,u,show h.L - 1=k by omega]
 have jc:Hid (L=0 ->h.seen=1):=fun e=>by rw[HC.seen,aA al]
 have IA:Hid (∀k,k+1=L ->gV n (h.alp k) (lF n (h.alp k))):=fun k j=>by
  have g:=f.alps k al;rwa [u] at g
 have an:Hid (∀k,k+1=L ->∀q,q<=n ->qw (eA (h.alp k) q)<=40000):=fun k j q r=>aR (f.sm.qw (Sm.sum (by have:=f.sm.s4;omega) fun i hi=>f.sm.alp k i al al) al) al;have nD:=hid (fun V:World=>xI (k:=1) (w:=V) 1 1 rfl bd (by rfl));have HH:=hid S;have H:=hid hX;have HA:=hid I;obtain⟨z,E,F⟩:=S.cells;clear Y f u x ad ae Z O I S qa P aj hX;generalize h.seen=q at *;go_enter Tryz.func8,Tryz.ntmps8;go_wp2_with fail
 generalize ((w.alloc (dX (.slice a n ca) (.slice b n cb) (.slice c n cc))).alloc (FC false ⟨#[]⟩ ⟨#[]⟩))=W at *;refine gC.o.af ?_;rintro e w1 ⟨rfl,K⟩;have v:=hid (HA.o.trans (K.af HA.o.size));have T:=HH.o.aa K HH.o.lt;replace H:=hid (H.o.aa K H.o.lt);clear K z E F;obtain⟨z,E,F⟩:=T.cells;by_cases M:L=0
 ·have qj:=hid (jc.o M);have ai:(L:Int)=0:=al
  clear M;go_wp2_with fail
  refine(nD.o _).af ?_;rintro e J ⟨rfl,p⟩;replace H:=hid (H.o.aa p H.o.lt);have A:=hid (v.o.trans (p.af v.o.size));obtain⟨k0,k1,k2,f0,f1,f2⟩:=H.o.facts;clear p T z E F;go_wp2;refine cj ((H.o.put _ _ _).result2 rfl _ rfl) rfl ?_;exact⟨by rw[qj.o];rfl,dV A.o al _ _ _⟩
 ·obtain⟨k,j⟩:∃k,k+1=L:=⟨L - 1,al⟩;have ai:¬(L:Int)=0:=al
  have kx:((L:Int)==0)=false:=by simpa using ai
  have G4:(L:Int) - 1=(k:Int):=al
  have ah:k<L:=al
  have oK:=hid (A1.o k j);have R:=hid (IA.o k j);have ak:=hid (an.o k j);clear j M;go_wp2_with fail
  refine(Iq.o _ v.o).af ?_;rintro e J ⟨G,rfl,hG,hr,p⟩;replace H:=hid (H.o.aa p H.o.lt);have A:=hid (v.o.trans (p.af v.o.size));obtain⟨g',o',b',c',e',iI,r0,r1, -⟩:=hr k (by simpa using ah);cases e';have X:((List.range L).map fun t=>lF n (h.alp t))[k]'(by simpa using ah)=lF n (h.alp k):=aE
  rw[X,iU,bB] at r0;rw[X] at r1
  have kX:Hid (du 19 #[.slice b' n c'] J fun e w'=>e=.returned (.agg #[.bool (bw q),.string (nu q),.string (de q)])/\ef J w'):=by
   have g:=Ho b' c' (lF n (h.alp k)) J r1 (fun q r=>aR (R.o.size q r) al) (fun q r=>by rw[iU] at r;rw[R.o.fsumk r];exact ak.o q r) (by rw[iU];omega);rw[iU,R.o.fsum, <- oK.o] at g;exact g
  clear hr p hG T z E F X r1;go_wp2_with fail
  refine kX.o.af ?_;rintro e w3 ⟨rfl,ab⟩;replace H:=hid (H.o.aa ab H.o.lt);have iE:=hid (A.o.trans (ab.af A.o.size));obtain⟨k0,k1,k2,f0,f1,f2⟩:=H.o.facts;clear ab r0;go_wp2;refine cj ((H.o.put _ _ _).result2 rfl _ rfl) rfl ?_;exact⟨rfl,dV iE.o al _ _ _⟩
section
variable {n m T : Nat} {l : List Fr} {R1 R2 : List (List Fr)} {h : HC} {q : Nat -> Nat} {sw : Nat -> Nat -> Rat}
theorem abZ (q:Nat ->Nat) (T:Nat):(di q T).map (·.1)=(List.range T).map fun u=>2*u+1:=by
 rw[di,yw];rfl
theorem jM.fok (k:jM n m T l R1 R2 h q sw):tO (aw (uV n m T)) (uV n m T).length (di q T):=by
 refine⟨?_,fun p a=>?_,fun p a=>?_⟩
 ·rw[abZ,List.Nodup,FR];exact BD.imp fun c e=>c al
 ·obtain⟨u,b,rfl⟩:=ba.1 a;have:=cI.1 b;rw[sJ];show 2*u+1<2*T;omega
 ·obtain⟨u,b,rfl⟩:=ba.1 a;have y:=cI.1 b;show q u<sz _ (2*u+1);rw[(z6 y).2];exact k.q u y
theorem jM.seen (k:jM n m T l R1 R2 h q sw) (a:1<=T):h.seen=h.all:=by rw[HC.seen,aD (by rw[k.L];omega)]
theorem jM.pos (_k:jM n m T l R1 R2 h q sw) (h0:bH (uV n m T) (uL T) (uR l R1 R2 T)=0):∀u,0<sz (aw (uV n m T)) u:=fun u=>nT (Gk h0) u
theorem jM.prob (k:jM n m T l R1 R2 h q sw) (a:1<=T) (h0:bH (uV n m T) (uL T) (uR l R1 R2 T)=0):i7 (uV n m T) (uL T) (uR l R1 R2 T) (zF (di q T))=0/\yM (uV n m T) (uL T) (uR l R1 R2 T) (zF (di q T))=qF h.seen:=by
 obtain⟨b,c⟩:=YV h0 k.fok;refine⟨b,?_⟩;rw[c,k.all a (k.pos h0),k.seen a]
theorem jM.post (k:jM n m T l R1 R2 h q sw) (c:1<=T) (h0:bH (uV n m T) (uL T) (uR l R1 R2 T)=0) {t:Nat} (o:t<T):
  cnt (aw (uV n m T)) (ag [2*(t:Int)])=n/\sM (uV n m T) (uL T) (uR l R1 R2 T) [2*(t:Int)] (zF (di q T))=(if h.seen=0 then 3 else 0)/\(h.seen≠0 ->rH (uV n m T) (uL T) (uR l R1 R2 T) [2*(t:Int)] (zF (di q T))=([2*(t:Int)],lF n fun j=>h.alp t j*h.behind t j/h.seen)):=by
 have a:ag [2*(t:Int)]=[2*t]:=by
  rw[Jm];congr 1
 have f:cnt (aw (uV n m T)) (ag [2*(t:Int)])=n:=by
  rw[a];show sz _ (2*t)*1=_;rw[(z6 o).1,kF]
 have b:Up [2*(t:Int)] (uV n m T).length:=rG.2 ⟨fun x A=>by
  rw[dT.1 A,sJ];omega,List.pairwise_singleton _ _⟩
 have s:∀v∈ag [2*(t:Int)],¬v∈(di q T).map (·.1):=fun v z g=>by
  rw[a,dT] at z;rw[abZ] at g;obtain⟨u,_,e⟩:=ba.1 g;omega
 have E:=amN h0 b k.fok s;have p:fsum (fk (uV n m T) (uL T) (uR l R1 R2 T) [2*(t:Int)] (di q T)).2=h.seen:=by rw[aey h0 b,k.all c (k.pos h0),k.seen c]
 have d:sM (uV n m T) (uL T) (uR l R1 R2 T) [2*(t:Int)] (zF (di q T))=if h.seen=0 then 3 else 0:=by rw[sM,aA E,ND,p]
 refine⟨f,d,fun y=>?_⟩;rw[rH,d,aD y,aA rfl,ND]
 have D:(fk (uV n m T) (uL T) (uR l R1 R2 T) [2*(t:Int)] (di q T)).2=(List.range n).map fun i=>qF (h.alp t i*h.behind t i):=by
  rw[fk];show (List.range (cnt _ _)).map _=_;rw[f];refine sG fun i w=>?_;have F:=cI.1 w
  have r:qV (aw (uV n m T)) (ag [2*(t:Int)]) i=[(2*t,i)]:=by
   rw[a];show [(2*t,aY (aw (uV n m T)) [2*t] i (2*t))]=_
   have:aY (aw (uV n m T)) [2*t] i (2*t)=i:=by
    show (if 2*t=2*t then i/cnt _ [] else _)=i;rw[aA rfl];exact DC i
   rw[this]
  rw[r];show qF (mQ _ _ _ ((2*t,i)::di q T))=_;rw[k.one (k.pos h0) o F,HC.behind,k.L]
 rw[vk,p,D,yw,lF];congr 1
 refine sG fun i _=>?_;show qF (aQ (qF _)*(1/h.seen))=_;rw[mZ,rC 1,sF, <- rC]
end
variable {T:Nat}
theorem Xk:∀T,∀r∈uR l R1 R2 T,r=fC [l]∨r=fC R1∨r=fC R2
 |0,r,h=>by cases h
 |t+1,r,h=>by
  rw[uR] at h;rcases ck.1 h with h |h
  ·exact Xk t r h
  ·rcases dU.1 h with rfl |h
   ·split
    ·exact .inl rfl
    ·exact .inr (.inl rfl)
   ·exact .inr (.inr (dT.1 h))
theorem Uu:∀ {l:List Fr},(∀f∈l,f.2.1.size+f.2.2.size<=k) ->fw l<=(k+2)*l.length
 |[],_=>aq _
 |f::l,h=>by
  have b:=h f dp;have c:=Uu (l:=l) fun g a=>h g (dF _ a);rw[fw,ew,kH,kF];omega
theorem UI (a:∀r∈R,r.length=k/\∀f∈r,f.2.1.size+f.2.2.size<=2) (d:k<=3) (n:R.length<=3):fw (fC R)<=45/\(fC R).length<=9:=by
 have q:=Pd (R:=R) (k:=k) fun r h=>(a r h).1;have p:R.length*k<=3*3:=iO n d
 have e:∀f∈fC R,f.2.1.size+f.2.2.size<=3:=fun f b=>by
  obtain⟨s,j,i⟩:=List.mem_flatten.1 b;obtain⟨r,h,rfl⟩:=ba.1 j;obtain⟨g,c,rfl⟩:=ba.1 i;have l:=(a r h).2 g c;have m:qw (lD g)<=g.2.1.size+g.2.2.size+1:=F6 g.1 g.2.1 g.2.2;show (nu (lD g)).size+(de (lD g)).size<=3;rw[mM];omega
 have o:=Uu e;constructor
 ·have:(3+2)*(fC R).length<=(3+2)*9:=jg _ al;omega
 ·omega
theorem aev (h1:1<=T) (u:T<=4) (K:1<=n) (j:n<=3) (y:1<=m) (d:m<=3) (i:l.length=n/\∀f∈l,f.2.1.size+f.2.2.size<=2) (v:R1.length=n) (o:∀r∈R1,r.length=n/\∀f∈r,f.2.1.size+f.2.2.size<=2) (w:R2.length=n) (p:∀r∈R2,r.length=m/\∀f∈r,f.2.1.size+f.2.2.size<=2):
  xP (uV n m T) (uL T) (uR l R1 R2 T)/\(∀r∈uR l R1 R2 T,fw r<=45/\r.length<=9)/\tR (uV n m T) (uR l R1 R2 T):=by
 have S:∀r∈uR l R1 R2 T,fw r<=45/\r.length<=9:=fun r h=>by
  rcases Xk T r h with rfl |rfl |rfl
  ·exact UI (R:=[l]) (k:=n) (fun r h=>by rw[dT.1 h];exact i) j aE
  ·exact UI o j al
  ·exact UI p d al
 have c:T=1∨T=2∨T=3∨T=4:=al
 have e:n=1∨n=2∨n=3:=al
 have M:m=1∨m=2∨m=3:=al
 refine⟨⟨?_,?_,?_⟩,S,?_⟩
 ·show (uV n m T).length<=5000/\∀x∈uV n m T,x.1.size<=5000/\x.2.length<=5000/\∀s∈x.2,s.size<=5000;rcases c with rfl |rfl |rfl |rfl<;>rcases e with rfl |rfl |rfl<;>rcases M with rfl |rfl |rfl<;>decide+kernel
 ·rcases c with rfl |rfl |rfl |rfl<;>decide+kernel
 ·refine⟨by rw[BR];omega,fun r h=>?_⟩;obtain⟨a,b⟩:=S r h;omega
 ·have q:=acm (uR l R1 R2 T) (List.range (uV n m T).length);have g:=Xd (R:=uR l R1 R2 T) (fun r h=>by have:=(S r h).1;omega) (List.range (uV n m T).length);rw[wD] at g;have t:=sJ n m T;show (B (gS (uR l R1 R2 T) (List.range (uV n m T).length))).size<=4000;omega
variable {H:Nat}
theorem aiX (f:Nat ->Rat) (q:Rat):(lF n f).set i (qF q)=lF n fun j=>if j=i then q else f j:=by
 refine sI (by simp[lF]) fun k h a=>?_;rw[MG];by_cases e:i=k
 ·rw[aA e];simp[lF,e]
 ·rw[aD e];simp[lF,Ne.symm e]
structure lK (w:World) (n L G H M:Nat) (F B:Nat ->Nat ->Rat) (U:World):Prop where
 sm:∃X:List Value,X.length=L/\lL U G X/\∀k (hk:k<X.length),(∃g,X[k]=.slice (some ⟨g,0,none⟩) n n/\G<g/\g<M/\eN U g (lF n (F k)))/\∀k' (dH:k'<X.length),k'< k ->X[k']≠X[k]
 bk:∃Y:List Value,Y.length=L/\lL U H Y/\∀k (hk:k<Y.length),∃g c,Y[k]=.slice (some ⟨g,0,none⟩) n c/\H<g/\g<U.heap.size/\aW U (some ⟨g,0,none⟩) (lF n (B k))
 Gw:w.heap.size<=G
 GM:G<M
 MH:M<=H
 bel:ef w U
theorem lK.start {W:World} {L G:Nat} {B:Nat ->Nat ->Rat} (h:wy w n L G L F W) (p:w.heap.size<=G) (b:yh W n L H L B U):lK w n L G H W.heap.size F B U:=by
 obtain⟨X,m,f,o⟩:=h.ex;obtain⟨Y,y,q,_,r⟩:=b.ex;refine⟨⟨X,m,f.aa b.bel f.lt,fun k i=>?_⟩,⟨Y,y,q,fun k i=>?_⟩,p,f.lt,yo b.Gw,h.bel.trans (b.bel.af h.bel.size)⟩
 ·obtain⟨⟨g,a,j,e⟩,d⟩:=o k i al;exact⟨⟨g,a,j,e.lt,e.aa b.bel e.lt⟩,d⟩
 ·obtain⟨g,c,a,_,e,d,l⟩:=r k i al;exact⟨g,c,a,d,e,l⟩
theorem lK.step {L G:Nat} {B:Nat ->Nat ->Rat} (h:lK w n L G H M F B U) (b:ef U U'):lK w n L G H M F B U':=by
 obtain⟨X,m,j,o⟩:=h.sm;obtain⟨Y,p,y,q⟩:=h.bk;refine⟨⟨X,m,j.aa b j.lt,fun k i=>?_⟩,⟨Y,p,y.aa b y.lt,fun k i=>?_⟩,h.Gw,h.GM,h.MH,h.bel.trans (b.af h.bel.size)⟩
 ·obtain⟨⟨g,a,d,f,e⟩,l⟩:=o k i;exact⟨⟨g,a,d,f,e.aa b e.lt⟩,l⟩
 ·obtain⟨g,c,a,d,f,e⟩:=q k i;exact⟨g,c,a,d,aU f b.size,e.aa b⟩
theorem lK.at {L G:Nat} {B:Nat ->Nat ->Rat} (h:lK w n L G H M F B U) {t:Nat} (o:t<L):∃g b cb,U.cell? ⟨G,t,none⟩=some (.slice (some ⟨g,0,none⟩) n n)/\U.cell? ⟨H,t,none⟩=some (.slice (some ⟨b,0,none⟩) n cb)/\G<g/\g<M/\eN U g (lF n (F t))/\aW U (some ⟨b,0,none⟩) (lF n (B t)):=by
 obtain⟨X,m,j,k⟩:=h.sm;obtain⟨Y,p,y,l⟩:=h.bk;obtain⟨⟨g,e,a,c,d⟩,_⟩:=k t al;obtain⟨b,cb,f,_,_,i⟩:=l t al;exact⟨g,b,cb,by rw[j.cell t al,e],by rw[y.cell t al,f],a,c,d,i⟩
theorem aW.off3 {b:Nat} (h:aW w (some ⟨g,0,none⟩) l) (x y z:Value) (e:g≠b):aW (((w.setCell ⟨b,i*3,none⟩ x).setCell ⟨b,i*3+1,none⟩ y).setCell ⟨b,i*3+2,none⟩ z) (some ⟨g,0,none⟩) l:=((h.setOff x e).setOff y e).setOff z e
theorem lL.off3 {b:Nat} (h:lL w g X) (x y z:Value) (e:g≠b):lL (((w.setCell ⟨b,i*3,none⟩ x).setCell ⟨b,i*3+1,none⟩ y).setCell ⟨b,i*3+2,none⟩ z) g X:=(fQ _ ⟨b,i*3+2,none⟩ z g e).trans ((fQ _ ⟨b,i*3+1,none⟩ y g e).trans ((fQ w ⟨b,i*3,none⟩ x g e).trans h))
theorem lK.put {L G:Nat} {B:Nat ->Nat ->Rat} (h:lK w n L G H M F B U) {t:Nat} (ht:t<L) (i g:Nat) (q:Rat) (A:U.cell? ⟨G,t,none⟩=some (.slice (some ⟨g,0,none⟩) n n)):lK w n L G H M (fun k j=>if k=t/\j=i then q else F k j) B (((U.setCell ⟨g,i*3,none⟩ (.bool (qF q).1)).setCell ⟨g,i*3+1,none⟩ (.string (qF q).2.1)).setCell ⟨g,i*3+2,none⟩ (.string (qF q).2.2)):=by
 obtain⟨X,Q,x,z⟩:=h.sm;obtain⟨Y,R,S,T⟩:=h.bk;have aa:=h.GM;have ab:=h.MH;have Z:=h.Gw
 have y:X[t]'al=.slice (some ⟨g,0,none⟩) n n:=by
  rw[x.cell t al] at A;exact oP A
 obtain⟨⟨g',s,E,I,K⟩,J⟩:=z t al
 have O:g'=g:=by
  rw[y] at s;cases s;rfl
 subst O;refine⟨⟨X,Q,x.off3 _ _ _ al,fun k a=>?_⟩,⟨Y,R,S.off3 _ _ _ al,fun k a=>?_⟩,h.Gw,h.GM,h.MH,?_⟩
 ·obtain⟨⟨v,f,d,l,m⟩,u⟩:=z k a;refine⟨?_,u⟩;by_cases D:k=t
  ·subst D;refine⟨g',y,E,I,?_⟩;have o:=K.put i (qF q);rw[aiX] at o;(have b:(fun j=>if j=i then q else F k j)=fun j=>if k=k/\j=i then q else F k j:=funext fun j=>aE);rw[b] at o;exact o
  ·have r:v≠g':=fun e=>by
    subst e;rcases cT k t with V |ad
    ·exact J k a V (f.trans y.symm)
    ·exact u t al al (y.trans f.symm)
   refine⟨v,f,d,l,?_⟩;(have b:(fun j=>if k=t/\j=i then q else F k j)=F k:=funext fun j=>by simp[D]);rw[b];exact((m.off g' _ _ r).off g' _ _ r).off g' _ _ r
 ·obtain⟨P,c,f,d,l,m⟩:=T k a;refine⟨P,c,f,d,?_,m.off3 _ _ _ al⟩;simp only[World.size_setCell];exact l
 ·exact((h.bel.setCell (p:=⟨g',i*3,none⟩) (by show _<=g';omega) _).setCell (p:=⟨g',i*3+1,none⟩) (by show _<=g';omega) _).setCell (p:=⟨g',i*3+2,none⟩) (by show _<=g';omega) _
variable {neg:Bool} {den num:ByteArray}
theorem lK.congr {L G:Nat} {F' B:Nat ->Nat ->Rat} (h:lK w n L G H M F B U) (e:∀k j,k< L ->j< n ->F k j=F' k j):lK w n L G H M F' B U:=by
 obtain⟨X,l,m,o⟩:=h.sm;refine⟨⟨X,l,m,fun k q=>?_⟩,h.bk,h.Gw,h.GM,h.MH,h.bel⟩;obtain⟨⟨g,a,b,c,f⟩,d⟩:=o k q;refine⟨⟨g,a,b,c,?_⟩,d⟩;have i:lF n (F k)=lF n (F' k):=sG fun j p=>by rw[e k j al (cI.1 p)]
 rwa [i] at f
theorem lK.rows {L G:Nat} {B:Nat ->Nat ->Rat} (h:lK w n L G H M F B U):gD U (some ⟨G,0,none⟩) ((List.range L).map fun t=>lF n (F t)):=fun k f=>by
 obtain⟨X,o,a,d⟩:=h.sm;have i:k<L:=by simpa using f
 obtain⟨⟨g,b,j,l,c⟩,m⟩:=d k al;have e:((List.range L).map fun t=>lF n (F t))[k]=lF n (F k):=aE
 rw[e,iU];exact⟨G,0,_,n,rfl,a.lt,by rw[bB,a.cell k al,b],c.fr,aq _⟩
theorem aI.tri (h:aI w g neg num den):w.cell? ⟨g,0,none⟩=some (.bool neg)/\w.cell? ⟨g,1,none⟩=some (.string num)/\w.cell? ⟨g,2,none⟩=some (.string den):=⟨h.c0,h.c1,h.c2⟩
theorem acK (v:World) (g i G t:Nat) (h:G≠g) (x y z:Value):(((v.setCell ⟨g,i*3,none⟩ x).setCell ⟨g,i*3+1,none⟩ y).setCell ⟨g,i*3+2,none⟩ z).cell? ⟨G,t,none⟩=v.cell? ⟨G,t,none⟩:=by
 rw[dY _ _ _ _ (fun e=>h (dh Addr.block e).symm),dY _ _ _ _ (fun e=>h (dh Addr.block e).symm),dY _ _ _ _ (fun e=>h (dh Addr.block e).symm)]
theorem aI.far9 {b:Nat} (h:aI w g neg num den) (e:g≠b) (x y z:Value):aI (((w.setCell ⟨b,i*3,none⟩ x).setCell ⟨b,i*3+1,none⟩ y).setCell ⟨b,i*3+2,none⟩ z) g neg num den:=((h.far e x).far e y).far e z
theorem eN.far9 {b:Nat} (h:eN w g l) (e:g≠b) (x y z:Value):eN (((w.setCell ⟨b,i*3,none⟩ x).setCell ⟨b,i*3+1,none⟩ y).setCell ⟨b,i*3+2,none⟩ z) g l:=((h.off b _ x e).off b _ y e).off b _ z e
theorem ajN (a b c d:Option Addr) (ca cb cc cd n L m:Nat) (l:List Fr) (R1 R2:List (List Fr)) (Q:List Nat) (h:HC) (w:World) (hI:xS w a b c n m l R1 R2) (V:pj D h m l R1 R2 Q) (iH:h.s=n) (hL:h.L=L) (az:b=none ->cb=0) (aC:c=none ->cc=0) (hQ:aJ w d (iL Q)):
  du 10 #[.agg #[.slice a n ca,.slice b n cb,.slice c n cc],.slice d L cd] w fun e w'=>((h.seen=0/\e=.returned (.tuple #[.slice none 0 0,.int .i64 3]))∨(h.seen≠0/\∃x k,e=.returned (.tuple #[.slice x L k,.int .i64 0])/\gD w' x ((List.range L).map fun t=>lF n fun j=>h.alp t j*h.behind t j/h.seen)))/\ef w w':=by
 have an:=hid (fun (U:World) (hU:ef w U)=>aa9 a b c d ca cb cc cd n L m l R1 R2 Q h U (hI.aa hU) V iH hL az aC (hQ.aa hU));have Iq:=hid (fun (U:World) (hU:ef w U)=>aba a b c d ca cb cc cd n L m l R1 R2 Q h U (hI.aa hU) V iH hL (hQ.aa hU));have zI:=hid (fun (U:World) (hU:ef w U)=>ajV a b c d ca cb cc cd n L m l R1 R2 Q h U (hI.aa hU) V iH hL (hQ.aa hU));have aT:=V.okn iH;have cK:=aT.n1;have mW:=aT.n4;have vD:L<=8:=by rw[<- hL];exact V.sm.L8
 have mC:Hid (∀t,t< L ->gV n (h.alp t) (lF n (h.alp t))/\gV n (h.behind t) (lF n (h.behind t))):=fun t ht=>⟨gV.mk' fun i hi=>V.sm.qw (V.sm.alp t i al al) al,gV.mk' fun i hi=>V.sm.qw (V.sm.behind (t:=t) al al) al⟩;have H7:Hid (∀t i,t< L ->i< n ->qw (h.alp t i*h.behind t i)<=30010):=fun t i ht hi=>V.sm.qw ((V.sm.alp t i al al).mul (V.sm.behind (t:=t) al al)) al
 have Dc:Hid (qw h.seen<=30010):=by
  show _<=_;rw[HC.seen];by_cases h0:h.L=0
  ·rw[aA h0];exact V.sm.qw (D:=D) Sm.one al
  ·rw[aD h0];exact V.sm.qw ((Sm.sum V.sm.s4 fun i hi=>V.sm.alp (h.L - 1) i al hi).up (j:=3*h.L) al) al
 have tH:Hid (L=0 ->h.seen≠0):=fun e=>by rw[HC.seen,aA al];decide
 have hA:=(au w.heap.size w).alloc (aq _) (dX (.slice a n ca) (.slice b n cb) (.slice c n cc));have dO:=b6.new w (.slice a n ca) (.slice b n cb) (.slice c n cc);clear hI V iH hL az aC hQ aT;obtain⟨e0,e1,e2⟩:=dO.cells;obtain⟨sv,sR⟩:∃q,h.seen=q:=⟨_,rfl⟩;rw[sR] at an Dc tH⊢;clear sR;go_enter Tryz.func10,Tryz.ntmps10;go_wp2_with fail
 generalize (w.alloc (dX (.slice a n ca) (.slice b n cb) (.slice c n cc)))=W1 at *;refine(an.o _ hA).af ?_;rintro e w1 ⟨rfl,z⟩;have Mp:=hid (hA.trans (z.af hA.size));have wh:=hid (dO.aa z dO.lt);clear hA dO z e0 e1 e2;have zb:=(au w1.heap.size w1).alloc (aq _) (FC (qF sv).1 (qF sv).2.1 (qF sv).2.2);have HP:=hid (aI.new w1 (qF sv).1 (qF sv).2.1 (qF sv).2.2);have P:=hid (Mp.o.trans (zb.af Mp.o.size));have HH:=hid (wh.o.aa zb wh.o.lt);clear Mp wh zb;go_upto_region 4 with fail
 generalize (w1.alloc (FC (qF sv).1 (qF sv).2.1 (qF sv).2.2))=w2 at *;obtain⟨gp,fM⟩:∃x,w1.heap.size=x:=⟨_,rfl⟩;rw[fM] at HP;simp only[fM];clear fM;replace HH:=hid HH.o;have ab:ef w2 w2.drew:=(au _ w2).drew;replace P:=hid (P.o.trans (ab.af P.o.size));replace HH:=hid (HH.o.aa ab HH.o.lt);replace HP:=hid (HP.o.aa ab HP.o.lt);clear ab;refine gI (S:=fun u=>u.cell? ⟨w.heap.size,0,none⟩=some (.slice a n ca)/\u.cell? ⟨w.heap.size,1,none⟩=some (.slice b n cb)/\u.cell? ⟨w.heap.size,2,none⟩=some (.slice c n cc)) ao HH.o.cells (fun F=>?_);generalize w2.drew=u0 at *;refine ar 0 (.agg #[.slice a n ca,.slice b n cb,.slice c n cc]) ?_;refine ar 1 (.slice d L cd) ?_;refine ar 3 (.agg #[.slice a n ca,.slice b n cb,.slice c n cc]) ?_;refine ar 4 (.slice d L cd) ?_;refine aG [2] (cA ?_ aF);intro R K;go_simp;refine(Iq.o _ P.o).af ?_;rintro e u1 ⟨G,rfl,hG,KF⟩;have ae:=hid KF;have bb:gp<G:=aU HP.o.lt hG;have bh:=hid (P.o.trans (KF.bel.af P.o.size));have wh:=hid (HH.o.aa KF.bel HH.o.lt);have eO:=hid (HP.o.aa KF.bel HP.o.lt);clear KF;refine K.o _ _ wh.o.cells (fun A=>?_);clear K R F;have F:=A;clear A;refine aG [5] (cA ?_ aF);intro R K;go_simp;refine(zI.o _ bh.o).af ?_;rintro e u2 ⟨H,rfl,KH⟩;have Vq:=hid (lK.start ae.o hG KH);have Im:=hid (wh.o.aa KH.bel wh.o.lt);have H9:=hid (eO.o.aa KH.bel eO.o.lt);have bA:=hid (bh.o.trans (KH.bel.af bh.o.size));clear KH;refine K.o _ _ Im.o.cells (fun A=>?_);clear K R F;have F:=A;clear A
 refine ar 6 (.slice (some ⟨G,0,none⟩) L L) ?_;refine ar 7 (.slice (some ⟨H,0,none⟩) L L) ?_;try simp only[gE,aP]
 refine dS ao ?_ _;clear F;obtain⟨M,hM⟩:∃x,u1.heap.size=x:=⟨_,rfl⟩;rw[hM] at Vq;clear hM ae bh wh eO Iq zI HH HP Im bA;obtain⟨Z,TV⟩:∃f:Nat ->Nat ->Rat,f=fun k j=>h.alp k j*h.behind k j/sv:=⟨_,rfl⟩;have EZ:Hid (∀k j,Z k j=h.alp k j*h.behind k j/sv):=fun k j=>by rw[TV]
 have E4:Hid ((fun t=>lF n fun j=>h.alp t j*h.behind t j/sv)=fun t=>lF n (Z t)):=by show _=_;rw[TV]
 clear TV;have aj:Hid (lK u0 n L G H M (fun k j=>if k<0 then Z k j else h.alp k j) h.behind u2):=Vq.o.congr fun k j _ _=>by rw[aD (BA _)]
 clear Vq;go_wp2_with fail
 go_loopw [30] (fun iv wr=>∃t:Nat,t<=L/\iv=.int .i64 t/\Hid (0< t ->sv≠0)/\Hid (lK u0 n L G H M (fun k j=>if k<t then Z k j else h.alp k j) h.behind wr)/\Hid (aI wr gp (qF sv).1 (qF sv).2.1 (qF sv).2.2)) (fun iv _=>L - (intOf iv).toNat)
 case atStart=>exact⟨0,aV _,rfl,fun e=>absurd e (Nat.lt_irrefl _),aj,H9⟩
 case round=>
  obtain⟨t,SL,rfl,a7,v,y⟩:=hrel;clear aj H9;by_cases ht:t<L
  ·obtain⟨g,gb,eU,c0,c1,ax,bc,O,aS⟩:=v.o.at ht;(have e9:lF n (fun j=>if t<t then Z t j else h.alp t j)=lF n (h.alp t):=sG fun j _=>aE);rw[e9] at O;clear e9;have L0:Hid (g<wr.heap.size):=O.lt;have ir:=mC.o t ht;have bo:=v.o.MH;have Vj:Hid (∀u,ef wr u ->du 24 #[.slice (some ⟨g,0,none⟩) n n,.slice (some ⟨gb,0,none⟩) n eU] u fun e w'=>∃G',e=.returned (.slice (some ⟨G',0,none⟩) n n)/\u.heap.size<=G'/\eN w' G' (lF n fun i=>h.alp t i*h.behind t i)/\ef u w'):=fun u hu=>aby _ _ n eU n _ _ (h.alp t) (h.behind t) u (O.fr.aa hu) (aS.aa hu) ir.1 ir.2 al
   have T:Hid (G<wr.heap.size/\H<wr.heap.size):=by
    obtain⟨X,_,h2,_⟩:=v.o.sm;obtain⟨Y,_,y2,_⟩:=v.o.bk;exact⟨h2.lt,y2.lt⟩
   have HELD:Hid (∀u,ef wr u ->u.cell? ⟨G,t,none⟩=some (.slice (some ⟨g,0,none⟩) n n)/\u.cell? ⟨H,t,none⟩=some (.slice (some ⟨gb,0,none⟩) n eU)):=fun u hu=>⟨(hu.cell (p:=⟨G,t,none⟩) T.o.1).trans c0,(hu.cell (p:=⟨H,t,none⟩) T.o.2).trans c1⟩;have tF:Hid (ef wr wr.drew):=(au _ _).drew;replace v:=hid (v.o.step tF.o);replace y:=hid (y.o.aa tF.o y.o.lt);clear c0 c1 O aS ir;go_upto_region 8 with fail
   refine gI (S:=fun u=>u.cell? ⟨G,t,none⟩=some (.slice (some ⟨g,0,none⟩) n n)/\u.cell? ⟨H,t,none⟩=some (.slice (some ⟨gb,0,none⟩) n eU)) ao (HELD.o _ tF.o) (fun F=>?_);generalize wr.drew=v0 at *;refine ar 0 (.slice (some ⟨G,0,none⟩) L L) ?_;refine ar 1 (.int .i64 (t:Nat)) ?_;refine ar 2 (.pointer (some ⟨G,t,none⟩)) ?_;refine ar 3 (.slice (some ⟨g,0,none⟩) n n) ?_;refine ar 4 (.slice (some ⟨H,0,none⟩) L L) ?_;refine ar 5 (.int .i64 (t:Nat)) ?_;refine ar 6 (.pointer (some ⟨H,t,none⟩)) ?_;refine ar 7 (.slice (some ⟨gb,0,none⟩) n eU) ?_;refine ar 10 (.int .i64 0) ?_;refine aG [8] (cA ?_ aF);intro R K;go_simp;refine(Vj.o _ tF.o).af ?_;rintro e v1 ⟨gm,rfl,rT,ay,z⟩;have J:=hid ay;have j8:=hid (v.o.step z);have eO:=hid (y.o.aa z y.o.lt);have wm:=hid (HELD.o _ (tF.o.trans (z.af tF.o.size)));(have bf:H<gm:=by have h8:=T.o.2;have h9:=tF.o.size;omega);clear ay z;refine K.o _ _ wm.o (fun A=>?_);clear K R F;have F:=A;clear A;refine ar 9 (.int .i64 (n:Nat)) ?_;(try simp only[gE,aP]);refine dS ao ?_ _;clear F;(have qi:Hid (lK u0 n L G H M (fun k j=>if k<t∨(k=t/\j<0) then Z k j else h.alp k j) h.behind v1):=j8.o.congr fun k j _ _=>aE);go_wp2_with fail
   go_loopw [43] (fun jv wr=>∃i:Nat,i<=n/\jv=.int .i64 i/\Hid (0< i ->sv≠0)/\Hid (lK u0 n L G H M (fun k j=>if k<t∨(k=t/\j<i) then Z k j else h.alp k j) h.behind wr)/\Hid (eN wr gm (lF n fun j=>h.alp t j*h.behind t j))/\Hid (aI wr gp (qF sv).1 (qF sv).2.1 (qF sv).2.2)) (fun jv _=>n - (intOf jv).toNat)
   case atStart=>exact⟨0,aV _,rfl,fun e=>absurd e (Nat.lt_irrefl _),qi,J,eO⟩
   case round=>
    obtain⟨i,hi,rfl,Hw,v,J,y⟩:=hrel;clear qi eO j8;by_cases ad:i<n
    ·obtain⟨r,sV⟩:∃q,h.alp t i*h.behind t i=q:=⟨_,rfl⟩;obtain⟨g,bm,bl,c0, -,ax,bc,O, -⟩:=v.o.at ht;have wV:=J.o.cells i (by rw[iU];exact ad);simp only[B8,sV] at wV;obtain⟨r0,r1,r2⟩:=wV
     have ai:Hid (∀u,lK u0 n L G H M (fun k j=>if k<t∨(k=t/\j<i) then Z k j else h.alp k j) h.behind u ->u.cell? ⟨G,t,none⟩=some (.slice (some ⟨g,0,none⟩) n n) ->(u.cell? ⟨g,i*3,none⟩=some (.bool (qF (h.alp t i)).1)/\u.cell? ⟨g,i*3+1,none⟩=some (.string (qF (h.alp t i)).2.1)/\u.cell? ⟨g,i*3+2,none⟩=some (.string (qF (h.alp t i)).2.2))/\u.frozen? ⟨g,i*3,none⟩=false/\u.frozen? ⟨g,i*3+1,none⟩=false/\u.frozen? ⟨g,i*3+2,none⟩=false):=fun u hu hc=>by
      obtain⟨g',_,_,d0,_,_,_,hr,_⟩:=hu.at ht;rw[hc] at d0;cases d0;have h9:=hr.cells i (by rw[iU];exact ad);simp only[B8] at h9;rw[aD al] at h9;exact⟨h9,hr.fz _,hr.fz _,hr.fz _⟩
     have a1:Hid (∀k j,k< L ->j< n ->(if k=t/\j=i then r/sv else if k<t∨(k=t/\j<i) then Z k j else h.alp k j)=if k<t∨(k=t/\j<i+1) then Z k j else h.alp k j):=fun k j _ _=>by
      by_cases e:k=t/\j=i
      ·rw[aA e,aA (.inr ⟨e.1,al⟩),EZ.o,e.1,e.2,sV]
      ·rw[aD e];by_cases e2:k<t∨(k=t/\j<i)
       ·rw[aA e2,aA al]
       ·rw[aD e2,aD al]
     (have bp:qw r<=30010:=by rw[<- sV];exact H7.o t i ht ad);have sT:=Dc.o;have bd:=bb;have zb:=(au wr.heap.size wr).alloc (aq _) (FC (qF r).1 (qF r).2.1 (qF r).2.2);have E:=hid (aI.new wr (qF r).1 (qF r).2.1 (qF r).2.2);have av:G<wr.heap.size:=Nat.lt_trans ax O.lt;have Qf:Hid (g<wr.heap.size):=O.lt;replace v:=hid (v.o.step zb);replace J:=hid (J.o.aa zb J.o.lt);replace y:=hid (y.o.aa zb y.o.lt);have I:=hid ((zb.cell (p:=⟨G,t,none⟩) av).trans c0);have T:Hid (G<(wr.alloc (FC (qF r).1 (qF r).2.1 (qF r).2.2)).heap.size):=aU av zb.size;clear c0 O zb sV;go_upto_region 11 with fail
     clear r0 r1 r2;obtain⟨gf,Cr⟩:∃x,wr.heap.size=x:=⟨_,rfl⟩;generalize (wr.alloc (FC (qF r).1 (qF r).2.1 (qF r).2.2))=Jd at *;rw[Cr] at E Qf;simp only[Cr];have bg:=Qf.o;clear Cr;have ab:ef Jd Jd.drew:=(au _ _).drew;replace v:=hid (v.o.step ab);replace J:=hid (J.o.aa ab J.o.lt);replace y:=hid (y.o.aa ab y.o.lt);replace E:=hid (E.o.aa ab E.o.lt);replace I:=hid ((ab.cell (p:=⟨G,t,none⟩) T.o).trans I.o);replace T:Hid (G<Jd.drew.heap.size):=aU T.o ab.size;clear ab;refine gI (S:=fun u=>u.cell? ⟨G,t,none⟩=some (.slice (some ⟨g,0,none⟩) n n)/\(u.cell? ⟨gf,0,none⟩=some (.bool (qF r).1)/\u.cell? ⟨gf,1,none⟩=some (.string (qF r).2.1)/\u.cell? ⟨gf,2,none⟩=some (.string (qF r).2.2))/\u.cell? ⟨gp,0,none⟩=some (.bool (qF sv).1)/\u.cell? ⟨gp,1,none⟩=some (.string (qF sv).2.1)/\u.cell? ⟨gp,2,none⟩=some (.string (qF sv).2.2)) ao ⟨I.o,E.o.tri,y.o.tri⟩ (fun F=>?_);generalize Jd.drew=v2 at *;refine ar 0 (.slice (some ⟨G,0,none⟩) L L) ?_;refine ar 1 (.int .i64 (t:Nat)) ?_;refine ar 2 (.pointer (some ⟨G,t,none⟩)) ?_;(try simp only[gE,aP]);refine ed 3 (.slice (some ⟨g,0,none⟩) n n) ?_ ?_
     ·intro u' aO;try simp only[gE];obtain⟨s0,⟨s1,s2,s3⟩,s4,s5,s6⟩:=aO;go_simp
     refine ar 4 (.int .i64 (i:Nat)) ?_;(try simp only[gE,aP]);refine ed 5 (.agg #[.bool (qF r).1,.string (qF r).2.1,.string (qF r).2.2]) ?_ ?_
     ·intro u' aO;try simp only[gE];obtain⟨s0,⟨s1,s2,s3⟩,s4,s5,s6⟩:=aO;go_simp
     (try simp only[gE,aP]);refine ed 6 (.agg #[.bool (qF sv).1,.string (qF sv).2.1,.string (qF sv).2.2]) ?_ ?_
     ·intro u' aO;try simp only[gE];obtain⟨s0,⟨s1,s2,s3⟩,s4,s5,s6⟩:=aO;go_simp
     (try simp only[gE,aP]);by_cases hz:sv=0
     ·have HZ:=hid hz;have Mj:Hid (∀U:World,du 25 #[.agg #[.bool (qF r).1,.string (qF r).2.1,.string (qF r).2.2],.agg #[.bool (qF sv).1,.string (qF sv).2.1,.string (qF sv).2.2]] U fun e w'=>e=.returned (.tuple #[.agg #[.bool false,.string ⟨#[]⟩,.string ⟨#[]⟩],.int .i64 3])/\ef U w'):=fun U=>ace (by rw[<- hz];exact ji sv);clear hz;refine aG [7] (cA ?_ aF);intro R K;go_simp;refine(Mj.o _).af ?_;rintro e v3 ⟨rfl,z⟩;replace v:=hid (v.o.step z);replace J:=hid (J.o.aa z J.o.lt);replace y:=hid (y.o.aa z y.o.lt);replace E:=hid (E.o.aa z E.o.lt);replace I:=hid ((z.cell (p:=⟨G,t,none⟩) T.o).trans I.o);replace T:Hid (G<v3.heap.size):=aU T.o z.size;clear z;refine K.o _ _ ⟨I.o,E.o.tri,y.o.tri⟩ (fun A=>?_);clear K R F;have F:=A;clear A;refine ar 8 (.tuple #[.agg #[.bool false,.string ⟨#[]⟩,.string ⟨#[]⟩],.int .i64 3]) ?_;refine ar 9 (.agg #[.bool false,.string ⟨#[]⟩,.string ⟨#[]⟩]) ?_;refine ar 10 (.int .i64 3) ?_;refine ar 11 (.pointer (some ⟨g,i*3,none⟩)) ?_;have O:=ai.o _ v.o I.o;obtain⟨k0,k1,k2⟩:=O.1;obtain⟨f0,f1,f2⟩:=O.2;clear O;refine aG [12] (cA ?_ aF);intro R K;go_simp;have E6:=hid (y.o.far9 (b:=g) (i:=i) al (.bool false) (.string ⟨#[]⟩) (.string ⟨#[]⟩));have Fo:=hid (E.o.far9 (b:=g) (i:=i) al (.bool false) (.string ⟨#[]⟩) (.string ⟨#[]⟩))
      have tL:Hid ((((v3.setCell ⟨g,i*3,none⟩ (.bool false)).setCell ⟨g,i*3+1,none⟩ (.string ⟨#[]⟩)).setCell ⟨g,i*3+2,none⟩ (.string ⟨#[]⟩)).cell? ⟨G,t,none⟩=some (.slice (some ⟨g,0,none⟩) n n)):=(acK v3 g i G t al _ _ _).trans I.o;have yf:=hid (((P.o.trans (v.o.bel.af P.o.size)).setCell (p:=⟨g,i*3,none⟩) (by show _<=g;have:=P.o.size;omega) (.bool false)).setCell (p:=⟨g,i*3+1,none⟩) (by show _<=g;have:=P.o.size;omega) (.string ⟨#[]⟩) |>.setCell (p:=⟨g,i*3+2,none⟩) (by show _<=g;have:=P.o.size;omega) (.string ⟨#[]⟩));refine K.o _ _ ⟨tL.o,Fo.o.tri,E6.o.tri⟩ (fun A=>?_);clear K R F k0 k1 k2 f0 f1 f2;refine ar 13 (.int .i64 3) ?_;(try simp only[gE,aP]);refine dS ao ?_ _;clear A v J y E I Fo tL;go_wp2;go_ret2;exact⟨.inl ⟨HZ.o,rfl⟩,yf.o⟩
     ·have HZ:=hid hz;have Mj:Hid (∀U:World,du 25 #[.agg #[.bool (qF r).1,.string (qF r).2.1,.string (qF r).2.2],.agg #[.bool (qF sv).1,.string (qF sv).2.1,.string (qF sv).2.2]] U fun e w'=>e=.returned (.tuple #[.agg #[.bool (qF (r/sv)).1,.string (qF (r/sv)).2.1,.string (qF (r/sv)).2.2],.int .i64 0])/\ef U w'):=fun U=>acf (r/sv) (ji r) (ji sv) hz rfl (by show (nu r).size+(de r).size<=_;rw[mM];omega) (by show (nu sv).size+(de sv).size<=_;rw[mM];omega);clear hz;refine aG [7] (cA ?_ aF);intro R K;go_simp;refine(Mj.o _).af ?_;rintro e v3 ⟨rfl,z⟩;replace v:=hid (v.o.step z);replace J:=hid (J.o.aa z J.o.lt);replace y:=hid (y.o.aa z y.o.lt);replace E:=hid (E.o.aa z E.o.lt);replace I:=hid ((z.cell (p:=⟨G,t,none⟩) T.o).trans I.o);replace T:Hid (G<v3.heap.size):=aU T.o z.size;clear z;refine K.o _ _ ⟨I.o,E.o.tri,y.o.tri⟩ (fun A=>?_);clear K R F;have F:=A;clear A;refine ar 8 (.tuple #[.agg #[.bool (qF (r/sv)).1,.string (qF (r/sv)).2.1,.string (qF (r/sv)).2.2],.int .i64 0]) ?_;refine ar 9 (.agg #[.bool (qF (r/sv)).1,.string (qF (r/sv)).2.1,.string (qF (r/sv)).2.2]) ?_;refine ar 10 (.int .i64 0) ?_;refine ar 11 (.pointer (some ⟨g,i*3,none⟩)) ?_;have O:=ai.o _ v.o I.o;obtain⟨k0,k1,k2⟩:=O.1;obtain⟨f0,f1,f2⟩:=O.2;clear O;refine aG [12] (cA ?_ aF);intro R K;go_simp;have AZ:=hid (v.o.put ht i g (r/sv) I.o)
      have Dd:=hid (J.o.far9 (b:=g) (i:=i) al (.bool (qF (r/sv)).1) (.string (qF (r/sv)).2.1) (.string (qF (r/sv)).2.2));have E6:=hid (y.o.far9 (b:=g) (i:=i) al (.bool (qF (r/sv)).1) (.string (qF (r/sv)).2.1) (.string (qF (r/sv)).2.2));have Fo:=hid (E.o.far9 (b:=g) (i:=i) al (.bool (qF (r/sv)).1) (.string (qF (r/sv)).2.1) (.string (qF (r/sv)).2.2));have tL:Hid ((((v3.setCell ⟨g,i*3,none⟩ (.bool (qF (r/sv)).1)).setCell ⟨g,i*3+1,none⟩ (.string (qF (r/sv)).2.1)).setCell ⟨g,i*3+2,none⟩ (.string (qF (r/sv)).2.2)).cell? ⟨G,t,none⟩=some (.slice (some ⟨g,0,none⟩) n n)):=(acK v3 g i G t al _ _ _).trans I.o;refine K.o _ _ ⟨tL.o,Fo.o.tri,E6.o.tri⟩ (fun A=>?_);clear K R F k0 k1 k2 f0 f1 f2;refine ar 13 (.int .i64 0) ?_;(try simp only[gE,aP]);refine dS ao ?_ _;clear A;have jc:=hid (AZ.o.congr fun k j hk hj=>a1.o k j hk hj);clear AZ v J y E I Fo tL;go_wp2;go_roundw
      case rel=>exact⟨i+1,al,b5,fun _=>HZ.o,jc,Dd,E6⟩
      case measure=>simp[intOf];omega
    ·obtain rfl:n=i:=al
     have A1:Hid (lK u0 n L G H M (fun k j=>if k<t+1 then Z k j else h.alp k j) h.behind wr):=v.o.congr fun k j _ hj=>by
      by_cases e:k<t+1
      ·rw[aA e,aA al]
      ·rw[aD e,aD al]
     have a6:Hid (0<t+1 ->sv≠0):=fun _=>Hw.o al;clear v J;go_wp2;go_roundw
     case rel=>exact⟨t+1,al,b5,a6,A1,y⟩
     case measure=>simp[intOf];omega
  ·obtain rfl:L=t:=al
   have HZ:Hid (sv≠0):=by
    show _≠_;rcases yq L with e |e
    ·exact tH.o e
    ·exact a7.o e
   have A1:=hid (v.o.congr (F':=Z) fun k j hk _=>aA hk);go_wp2;go_ret2;rw[E4.o];exact⟨.inr ⟨HZ.o,_,_,rfl,A1.o.rows⟩,P.o.trans (A1.o.bel.af P.o.size)⟩
variable {ca:Nat} {a:Option Addr}
theorem afP (h:EP l R1 R2):∀r∈[l]++R1++R2,dt r=true:=fun r c=>by
 rcases ck.1 c with a |a
 ·rcases ck.1 a with b |b
  ·rw[dT.1 b];exact h.1
  ·exact h.2.1 r b
 ·exact h.2.2 r a
theorem afO (h:∀r∈[l]++R1++R2,dt r=true):EP l R1 R2:=⟨h l aE,fun r a=>h r (by simp[a]),fun r a=>h r (by simp[a])⟩
def vo (R:List (List Fr)) (n m:Nat):Bool:=decide (R.length=n)&&R.all fun r=>decide (r.length=m)
theorem NM:vo R n m=true↔R.length=n/\∀r∈R,r.length=m:=by
 rw[vo,kj,iQ,IG];exact⟨fun h=>⟨h.1,fun r a=>tW (h.2 r a)⟩,fun h=>⟨h.1,fun r a=>eD (h.2 r a)⟩⟩
theorem ai2 (b:Option Addr) (n c m B:Nat) (w:World) (f:w.cell? ⟨B,0,none⟩=some (.int .i64 (m:Nat))) (_hn:n<=100000) (g:m<=100000):
  du 74 #[.slice b n c,.pointer (some ⟨B,0,none⟩)] w fun e w'=>e=.returned (.bool (decide (n≠m)))/\w'=w:=by
 by_cases h:n=m
 ·subst h;rw[eK aE];go_enter Tryz.func74,Tryz.ntmps74;go_wp2;go_ret;exact⟨aE,rfl⟩
 ·rw[eD h];have a:((n:Int) !=(m:Int))=true:=by simp;omega
  have d:¬(n:Int)=(m:Int):=al
  go_enter Tryz.func74,Tryz.ntmps74;go_wp2;go_ret;exact⟨aE,rfl⟩
theorem ai6 (a:Option Addr) (ca m B:Nat) (R:List (List Fr)) (w:World) (h:gD w a R) (K:B<w.heap.size) (s:w.cell? ⟨B,0,none⟩=some (.int .i64 (m:Nat))) (v:m<=100000) (l:∀r∈R,r.length<=1000) (j:R.length<=140737488355328):
  du 114 #[.slice a R.length ca,.func (.func 74) #[] #[.pointer (some ⟨B,0,none⟩)]] w fun e w'=>(∃k:Int,e=.returned (.int .i64 k)/\((k= -1/\∀r∈R,r.length=m)∨(0<=k/\k<=140737488355328/\∃r∈R,r.length≠m)))/\w'=w:=by
 have F:=hid h;have L:=hid l;have J:=enters_of Tryz.func74 (P:=Tryz.prog) ao rfl;have HC:=hid (fun (b:Option Addr) (n c:Nat) (j:n<=100000)=>ai2 b n c m B w s j v);clear h l;go_enter Tryz.func114,Tryz.ntmps114;go_wp2_with fail
 go_loopw [8] (fun iv wr=>∃i:Nat,i<=R.length/\iv=.int .i64 i/\w=wr/\Hid (∀k (h:k<R.length),k< i ->R[k].length=m)) (fun iv _=>R.length - (intOf iv).toNat)
 case atStart=>exact⟨0,aV _,rfl,rfl,fun k _ d=>absurd d (BA _)⟩
 case round=>
  obtain⟨i,O,rfl,rfl,H⟩:=hrel;by_cases t:i<R.length
  ·obtain⟨g,o,b,c,rfl,M,q,D,A⟩:=F.o i t;have I:Hid (R[i]∈R):=bF t;have u:=hid (HC.o b R[i].length c (by have:=L.o _ I.o;omega));clear D A;obtain⟨n,Z⟩:∃x,R[i].length=x:=⟨_,rfl⟩;have Q:=hid Z;rw[Z] at q u;clear Z;by_cases e:n=m
   ·rw[eK (by simp[e])] at u
    have p:Hid (∀k (h:k<R.length),k<i+1 ->R[k].length=m):=fun k h d=>by
     rcases cT k i with f |f
     ·exact H.o k h f
     ·obtain rfl:k=i:=al
      rw[Q.o,e]
    clear e;go_wp2_with fail
    refine u.o.af ?_;rintro e z ⟨rfl,rfl⟩;go_wp2;go_roundw
    case rel=>exact⟨i+1,al,b5,trivial,p⟩
    case measure=>simp[intOf];omega
   ·rw[eD e] at u;have E:=hid e;clear e;go_wp2_with fail
    refine u.o.af ?_;rintro e z ⟨rfl,rfl⟩;go_wp2;go_ret;exact⟨⟨(i:Int),rfl,.inr ⟨al,al,R[i],I.o,by rw[Q.o];exact E.o⟩⟩,rfl⟩
  ·obtain rfl:i=R.length:=al
   go_wp2;go_ret
   exact⟨⟨-1,rfl,.inl ⟨rfl,fun r y=>by
    obtain⟨k,d,rfl⟩:=jz y;exact H.o k d d⟩⟩,rfl⟩
theorem aap (a:Option Addr) (ca n m:Nat) (R:List (List Fr)) (w:World) (h:gD w a R) (M:n<=100000) (K:R.length<=140737488355328) (D:m<=100000) (s:∀r∈R,r.length<=1000):
  du 35 #[.slice a R.length ca,.int .i64 (n:Nat),.int .i64 (m:Nat)] w (eS w (.bool (vo R n m))):=by
 have d:=(au w.heap.size w).alloc (aq _) (.cells #[.int .i64 (m:Nat)] 3);have f:=a8 w 3 (.int .i64 (m:Nat));have H:=hid (ai6 a ca m w.heap.size R _ (h.aa d) f.lt f.cell D s K)
 have O:Hid (du 73 #[.slice a R.length ca,.func (.func 74) #[] #[.pointer (some ⟨w.heap.size,0,none⟩)]] (w.alloc (.cells #[.int .i64 (m:Nat)] 3)) fun e w'=>(∃z:Bool,e=.returned (.bool z)/\(z=false↔∀r∈R,r.length=m))/\w'=(w.alloc (.cells #[.int .i64 (m:Nat)] 3))):=by
  show Calls _ _ _ _ _;go_enter Tryz.func73,Tryz.ntmps73;go_wp2_with fail
  refine H.o.af ?_;rintro e E ⟨⟨k,rfl,y⟩,rfl⟩;rcases y with ⟨rfl,v⟩ |⟨P,L,r,b,u⟩
  ·have I:=hid v;clear v;go_wp2;go_ret;exact⟨⟨false,rfl,⟨fun _=>I.o,fun _=>rfl⟩⟩,rfl⟩
  ·have F:Hid (∃r∈R,r.length≠m):=⟨r,b,u⟩;clear b u;go_wp2;go_ret;exact⟨⟨true,aE,⟨fun e=>(by cases e),fun e=>(by obtain⟨r,l,p⟩:=F.o;exact absurd (e r l) p)⟩⟩,rfl⟩
 have A:=hid d;clear h d f s H;by_cases q:R.length=n
 ·have i:Hid (vo R n m=R.all fun r=>decide (r.length=m)):=by show _=_;rw[vo,eD q];rfl
  rw[i.o];obtain⟨c,g⟩:∃x,(R.all fun r=>decide (r.length=m))=x:=⟨_,rfl⟩;rw[g]
  have t:Hid (c=true↔∀r∈R,r.length=m):=by
   show _↔_;rw[<- g,iQ];exact⟨fun h r b=>tW (h r b),fun h r b=>eD (h r b)⟩
  subst q;clear g i;go_enter Tryz.func35,Tryz.ntmps35;go_wp2_with fail
  refine O.o.af ?_;rintro e E ⟨⟨z,rfl,j⟩,rfl⟩
  have J:z=!c:=by
   cases c with
   |true=>exact j.2 (t.o.1 rfl)
   |false=>
    cases z with
    |true=>rfl
    |false=>exact absurd (t.o.2 (j.1 rfl)) bd
  subst J;clear j;cases c with
  |true=>
   go_wp2;go_ret;exact⟨rfl,A.o⟩
  |false=>
   go_wp2;go_ret;exact⟨rfl,A.o⟩
 ·have i:Hid (vo R n m=false):=by show _=_;rw[vo,eK q];rfl
  rw[i.o];have l:((R.length:Int)==(n:Int))=false:=by simp;omega
  have p:¬(R.length:Int)=(n:Int):=al
  go_enter Tryz.func35,Tryz.ntmps35;go_wp2;go_ret;exact⟨rfl,A.o⟩
theorem aaq (n:Nat) (w:World) (c:n<=100000):
  du 34 #[.int .i64 (n:Nat)] w fun e w'=>e=.returned (.bool (decide (1<=n/\n<=4)))/\w'=w:=by
 by_cases a:1<=n
 ·by_cases b:n<=4
  ·rw[eD ⟨a,b⟩];exact NW n w a b
  ·rw[eK fun h=>b h.2];(have q:(1:Int)<=(n:Int):=al);(have d:¬(n:Int)<=4:=al);go_enter Tryz.func34,Tryz.ntmps34;go_wp2;go_ret;exact⟨by first |rfl |(simp;omega),rfl⟩
 ·rw[eK fun h=>a h.1];have q:¬(1:Int)<=(n:Int):=al
  go_enter Tryz.func34,Tryz.ntmps34;go_wp2;go_ret;exact⟨by first |rfl |(simp;omega),rfl⟩
theorem afq (a b c:Option Addr) (n d ca cb cc:Nat) (R:List (List Fr)) (w:World) (f:gD w c R) (h1:0<R.length) (_hn:R.length<=140737488355328) (l:∀r∈R,r.length<=1000):
  du 36 #[.agg #[.slice a n ca,.slice b d cb,.slice c R.length cc]] w (eS w (.int .i64 ((R.headD []).length:Nat))):=by
 have h:=(au w.heap.size w).alloc (aq _) (dX (.slice a n ca) (.slice b d cb) (.slice c R.length cc));obtain⟨g,o,t,u,rfl,v,e, -⟩:=(f.aa h).raw' h1;rw[<- Ex h1,gK] at e;have s:=l (R.headD []) (by rw[Ex h1];exact bF h1);obtain⟨j,p,q⟩:=(b6.new w (.slice a n ca) (.slice b d cb) (.slice (some ⟨g,o,none⟩) R.length cc)).cells;have A:=hid h;clear f h l;obtain⟨m,T⟩:∃x,(R.headD []).length=x:=⟨_,rfl⟩;rw[T] at e s⊢;clear T;obtain⟨k,i⟩:∃x,R.length=x:=⟨_,rfl⟩;rw[i] at h1 A e j p q⊢;clear i;go_enter Tryz.func36,Tryz.ntmps36;go_wp2;go_ret;exact⟨rfl,A.o⟩
theorem gD.valsI (h:gD w a R):∃X:List Value,X.length=R.length/\zo w a X/\∀k (d:k<X.length) (H:k<R.length),∃b c,X[k]=.slice b R[k].length c/\aW w b R[k]:=by
 let t:Nat ->Value:=fun k=>match a with
  |some p=>(w.cell? ⟨p.block,p.off+k,none⟩).getD (.slice none 0 0)
  |none=>.slice none 0 0
 have y:∀k (d:k<R.length),∃g o b c,a=some ⟨g,o,none⟩/\g<w.heap.size/\w.cell? ⟨g,o+k,none⟩=some (t k)/\t k=.slice b R[k].length c/\aW w b R[k]:=fun k d=>by
  obtain⟨g,o,b,c,rfl,n,f,i, -⟩:=h k d;have e:t k=.slice b R[k].length c:=by simp only[t,f,mE]
  exact⟨g,o,b,c,rfl,n,by rw[e];exact f,e,i⟩
 refine⟨(List.range R.length).map t,aE,fun k d=>?_,fun k d H=>?_⟩
 ·have H:k<R.length:=by simpa using d
  obtain⟨g,o,b,c,j,l,f,i, -⟩:=y k H;have e:((List.range R.length).map t)[k]=t k:=aE
  rw[e];exact⟨g,o,j,l,f,b,_,c,i⟩
 ·obtain⟨g,o,b,c,j,l,f,i,m⟩:=y k H;simp only[nO,DF];exact⟨b,c,i,m⟩
theorem aji {X d:List Value} (p:aW w a l) (h1:X.length=R1.length) (q:∀k (m:k<X.length) (H:k<R1.length),∃b c,X[k]=.slice b R1[k].length c/\aW w b R1[k]) (u:d.length=R2.length) (s:∀k (m:k<d.length) (H:k<R2.length),∃b c,d[k]=.slice b R2[k].length c/\aW w b R2[k]):∀k (h:k<([.slice a l.length ca]++X++d:List Value).length),∃(n:Option Addr) (r:List Fr) (o:Nat),([.slice a l.length ca]++X++d:List Value)[k]=.slice n r.length o/\aW w n r/\([l]++R1++R2)[k]? =some r/\r∈[l]++R1++R2:=fun k h=>by
 have x:k<1+X.length+d.length:=by simpa [yu,Nat.add_left_comm,zT] using h
 rcases cT k 1 with m |m
 ·obtain rfl:k=0:=al
  exact⟨a,l,ca,aE,p,aE,aE⟩
 ·rcases cT k (1+X.length) with t |t
  ·obtain⟨j,rfl⟩:∃j,k=j+1:=⟨k - 1,al⟩;(have v:j<X.length:=al);(have f:j<R1.length:=al);obtain⟨b,c,g,i⟩:=q j v f;refine⟨b,R1[j],c,?_,i,?_,aE⟩
   ·rw[<- g];simp[v]
   ·simp[List.getElem?_append,f]
  ·obtain⟨j,rfl⟩:∃j,k=j+1+X.length:=⟨k - 1 - X.length,al⟩;(have v:j<d.length:=al);(have f:j<R2.length:=al);obtain⟨b,c,g,i⟩:=s j v f;refine⟨b,R2[j],c,?_,i,?_,aE⟩
   ·rw[<- g];rw[tY (by simp;omega)];congr 1
    simp;omega
   ·rw[uQ (by simp;omega)];(have e:j+1+X.length - ([l]++R1).length=j:=by simp;omega);rw[e];exact bj f
theorem ajQ (a b c:Option Addr) (ca cb cc:Nat) (l:List Fr) (R1 R2:List (List Fr)) (w:World) (h:xR w a b c l R1 R2) (D:Pr l R1 R2) (az:b=none ->cb=0) (aC:c=none ->cc=0):
  du 14 #[.agg #[.slice a l.length ca,.slice b R1.length cb,.slice c R2.length cc]] w fun e w'=>(∃x,e=.returned (.int .i64 x)/\C2 l R1 R2 x)/\ef w w':=by
 obtain⟨F,Gx,aS,an⟩:=h.mv.valsI;obtain⟨I,Gv,aT,aj⟩:=h.sh.valsI;have jb:=hid aS;have iw:=hid aT;have C6:Hid (F.length=R1.length):=Gx;have C5:Hid (I.length=R2.length):=Gv;have Pt:Hid (∀k (h:k<([.slice a l.length ca]++F++I:List Value).length),∃(L:Option Addr) (r:List Fr) (Y:Nat),([.slice a l.length ca]++F++I:List Value)[k]=.slice L r.length Y/\aW w L r/\([l]++R1++R2)[k]? =some r/\r∈[l]++R1++R2):=aji h.st Gx an Gv aj
 have E2:Hid (∀r∈[l]++R1++R2,Go.Proofs.YtdmdhjmcoijpaaaGreatDoor.fw r<=10000/\r.length<=1000):=fun r R=>by
  rcases ck.1 R with t |t
  ·rcases ck.1 t with z |z
   ·rw[dT.1 z];exact⟨D.f1,D.l1⟩
   ·exact⟨D.f2 r z,D.r1 r z⟩
  ·exact⟨D.f3 r t,D.r2 r t⟩
 have bb:=hid az;have a7:=hid aC;have iW:=D.l1;have aO:=D.l2;have ad:=D.l3;have fD:Hid (¬zq l R1 R2 ->C2 l R1 R2 8):=fun hn=>.inr (.inr ⟨rfl,hn⟩);have Z:=hid (fun V:World=>aaq l.length V al);have Fj:=hid (fun (V:World) (Q:ef w V)=>aap b cb l.length l.length R1 V (h.mv.aa Q) al aO al D.r1);have LB:=hid (fun (M:0<R2.length) (V:World) (Q:ef w V)=>afq a b c l.length R1.length ca cb cc R2 V (h.sh.aa Q) M ad D.r2);have Bi:Hid (0<R2.length ->(R2.headD []).length<=1000):=fun M=>D.r2 (R2.headD []) (by rw[Ex M];exact bF M);have Mc:=hid (fun (M:0<R2.length) (V:World) (Q:ef w V)=>aap c cc l.length (R2.headD []).length R2 V (h.sh.aa Q) al ad (by have:=Bi.o M;omega) D.r2);clear h D az aC Gx Gv aS aT an aj;obtain⟨n,hn⟩:∃x,l.length=x:=⟨_,rfl⟩;obtain⟨q,gj⟩:∃x,R1.length=x:=⟨_,rfl⟩;obtain⟨f,jW⟩:∃x,R2.length=x:=⟨_,rfl⟩;have J:=hid hn;have jd:=hid gj;have xZ:=hid jW
 have av:Hid (∀k (h:k<([.slice a n ca]++F++I:List Value).length),∃(L:Option Addr) (r:List Fr) (Y:Nat),([.slice a n ca]++F++I:List Value)[k]=.slice L r.length Y/\aW w L r/\([l]++R1++R2)[k]? =some r/\r∈[l]++R1++R2):=by
  rw[<- hn];exact Pt.o
 clear Pt;have Pt:=av;clear av;simp only[hn,gj,jW] at iW aO ad C6 C5 Z Fj LB Bi Mc⊢;clear hn gj jW;have A:=(au w.heap.size w).alloc (aq _) (dX (.slice a n ca) (.slice b q cb) (.slice c f cc));have O:=b6.new w (.slice a n ca) (.slice b q cb) (.slice c f cc);obtain⟨e0,e1,e2⟩:=O.cells;by_cases q1:1<=n/\n<=4
 case neg=>
  rw[eK q1] at Z;go_enter Tryz.func14,Tryz.ntmps14;go_wp2_with fail
  generalize (w.alloc (dX (.slice a n ca) (.slice b q cb) (.slice c f cc)))=W at *;refine(Z.o _).af ?_;rintro e w1 ⟨rfl,rfl⟩;have zK:=hid A;go_wp2;go_ret;exact⟨⟨8,rfl,fD.o fun d=>q1 (by have t:=d.1;have z:=d.2.1;rw[J.o] at t z;exact⟨t,z⟩)⟩,zK.o⟩
 rw[eD q1] at Z;obtain⟨cK,mW⟩:=q1;cases iV:vo R1 n n with
 |false=>
  rw[iV] at Fj;go_enter Tryz.func14,Tryz.ntmps14;go_wp2_with fail
  generalize (w.alloc (dX (.slice a n ca) (.slice b q cb) (.slice c f cc)))=W at *;refine(Z.o _).af ?_;rintro e w1 ⟨rfl,rfl⟩;go_wp2_with fail
  refine(Fj.o _ A).af ?_;rintro e U ⟨rfl,ab⟩;have zK:=hid (A.trans (ab.af A.size));go_wp2;go_ret
  exact⟨⟨8,rfl,fD.o fun d=>by
   have E:vo R1 n n=true:=NM.2 ⟨by rw[<- J.o];exact d.2.2.1,by rw[<- J.o];exact d.2.2.2.2.2.2.1⟩;rw[iV] at E;cases E⟩,zK.o⟩
 |true=>
  rw[iV] at Fj;have oK:=hid (NM.1 iV);clear iV;have ay:Hid (q=n):=by show _=_;rw[<- jd.o];exact oK.o.1
  go_enter Tryz.func14,Tryz.ntmps14;go_wp2_with fail
  generalize (w.alloc (dX (.slice a n ca) (.slice b q cb) (.slice c f cc)))=W at *;refine(Z.o _).af ?_;rintro e w1 ⟨rfl,rfl⟩;go_wp2_with fail
  refine(Fj.o _ A).af ?_;rintro e U ⟨rfl,ab⟩;replace O:=O.aa ab O.lt;replace A:=A.trans (ab.af A.size);clear ab e0 e1 e2;go_upto_region 3 with fail
  have HELD:Hid (∀u,ef U u ->u.cell? ⟨w.heap.size,0,none⟩=some (.slice a n ca)/\u.cell? ⟨w.heap.size,1,none⟩=some (.slice b q cb)/\u.cell? ⟨w.heap.size,2,none⟩=some (.slice c f cc)):=fun u h=>(O.aa h O.lt).cells;have H:Hid (ef U U.drew):=(au _ U).drew;refine gI (S:=fun u=>u.cell? ⟨w.heap.size,0,none⟩=some (.slice a n ca)/\u.cell? ⟨w.heap.size,1,none⟩=some (.slice b q cb)/\u.cell? ⟨w.heap.size,2,none⟩=some (.slice c f cc)) ao (HELD.o _ H.o) (fun s=>?_);generalize U.drew=u0 at *;by_cases q3:f=n
  case neg=>
   have Mn:Hid (¬zq l R1 R2):=fun d=>q3 (by have t:=d.2.2.2.1;rw[J.o,xZ.o] at t;exact t);(have p3:((f:Int) !=(n:Int))=true:=by simp;omega);(have bh:¬(f:Int)=(n:Int):=al);refine ar 0 (.pointer (some ⟨w.heap.size,2,none⟩)) ?_;(try simp only[gE,aP]);refine ar 1 (.slice c f cc) ?_;(try simp only[gE,aP]);refine ar 2 (.int .i64 (f:Nat)) ?_;(try simp only[gE,aP]);refine ar 3 (.pointer (some ⟨w.heap.size,0,none⟩)) ?_;(try simp only[gE,aP]);refine ar 4 (.slice a n ca) ?_;(try simp only[gE,aP]);refine ar 5 (.int .i64 (n:Nat)) ?_;(try simp only[gE,aP]);refine ar 6 (.bool true) ?_;(try simp only[gE,aP]);refine ar 7 (.bool true) ?_;(try simp only[gE,aP]);refine fE (i:=8) (oi:=_) (v:=undef) rfl ao ao ao (fun _ _ _ h=>h) (Or.inr ⟨by rfl,rfl⟩) dj ?_;(try simp only[gE,aP]);refine fE (i:=9) (oi:=_) (v:=undef) rfl ao ao ao (fun _ _ _ h=>h) (Or.inr ⟨by rfl,rfl⟩) dj ?_;(try simp only[gE,aP]);refine fE (i:=10) (oi:=_) (v:=undef) rfl ao ao ao (fun _ _ _ h=>h) (Or.inr ⟨by rfl,rfl⟩) dj ?_;(try simp only[gE,aP]);refine fE (i:=11) (oi:=_) (v:=undef) rfl ao ao ao (fun _ _ _ h=>h) (Or.inr ⟨by rfl,rfl⟩) dj ?_;(try simp only[gE,aP]);refine ar 12 (.bool true) ?_;(try simp only[gE,aP]);refine ar 13 (.bool true) ?_;(try simp only[gE,aP])
   refine fE (i:=14) (oi:=_) (v:=undef) rfl ao ao ao (fun _ _ _ h=>h) (Or.inr ⟨by rfl,rfl⟩) dj ?_;(try simp only[gE,aP]);refine fE (i:=15) (oi:=_) (v:=undef) rfl ao ao ao (fun _ _ _ h=>h) (Or.inr ⟨by rfl,rfl⟩) dj ?_;(try simp only[gE,aP]);refine fE (i:=16) (oi:=_) (v:=undef) rfl ao ao ao (fun _ _ _ h=>h) (Or.inr ⟨by rfl,rfl⟩) dj ?_;(try simp only[gE,aP]);refine fE (i:=17) (oi:=_) (v:=undef) rfl ao ao ao (fun _ _ _ h=>h) (Or.inr ⟨by rfl,rfl⟩) dj ?_;(try simp only[gE,aP]);refine fE (i:=18) (oi:=_) (v:=undef) rfl ao ao ao (fun _ _ _ h=>h) (Or.inr ⟨by rfl,rfl⟩) dj ?_;(try simp only[gE,aP]);refine fE (i:=19) (oi:=_) (v:=undef) rfl ao ao ao (fun _ _ _ h=>h) (Or.inr ⟨by rfl,rfl⟩) dj ?_;(try simp only[gE,aP]);refine fE (i:=20) (oi:=_) (v:=undef) rfl ao ao ao (fun _ _ _ h=>h) (Or.inr ⟨by rfl,rfl⟩) dj ?_;(try simp only[gE,aP]);refine fE (i:=21) (oi:=_) (v:=undef) rfl ao ao ao (fun _ _ _ h=>h) (Or.inr ⟨by rfl,rfl⟩) dj ?_;(try simp only[gE,aP])
   refine fE (i:=22) (oi:=_) (v:=undef) rfl ao ao ao (fun _ _ _ h=>h) (Or.inr ⟨by rfl,rfl⟩) dj ?_;(try simp only[gE,aP]);refine ar 23 (.bool true) ?_;(try simp only[gE,aP]);refine dS ao ?_ _;clear s;have P:=hid (A.trans (H.o.af A.size));go_wp2;go_ret;exact⟨⟨8,rfl,fD.o Mn.o⟩,P.o⟩
  have M:0<f:=al
  have ax:=hid q3;have p3:((f:Int) !=(n:Int))=false:=by simp;omega
  clear q3;have r8:Hid (∀V:World,ef U V ->du 36 #[.agg #[.slice a n ca,.slice b q cb,.slice c f cc]] V fun e w'=>e=.returned (.int .i64 ((R2.headD []).length:Nat))/\ef V w'):=fun V Q=>LB.o M V (A.trans (Q.af A.size));have Fi:Hid (∀V:World,ef U V ->du 35 #[.slice c f cc,.int .i64 (n:Nat),.int .i64 ((R2.headD []).length:Nat)] V fun e w'=>e=.returned (.bool (vo R2 n (R2.headD []).length))/\ef V w'):=fun V Q=>Mc.o M V (A.trans (Q.af A.size));have a1:=Bi.o M;obtain⟨m,hm⟩:∃x,(R2.headD []).length=x:=⟨_,rfl⟩;have HM:=hid hm;rw[hm] at r8 Fi a1;clear hm LB Mc Bi;by_cases q4:1<=m/\m<=4
  case neg=>
   have Mn:Hid (¬zq l R1 R2):=fun d=>q4 (by have t:=d.2.2.2.2.1;have z:=d.2.2.2.2.2.1;rw[HM.o] at t z;exact⟨t,z⟩)
   have Il:Hid (∀V:World,du 34 #[.int .i64 (m:Nat)] V fun e w'=>e=.returned (.bool false)/\ef V w'):=fun V=>by
    have E:=aaq m V al;rw[eK q4] at E;exact E.af (fun e w' ⟨t,z⟩=>⟨t,by rw[z];exact au _ _⟩)
   refine ar 0 (.pointer (some ⟨w.heap.size,2,none⟩)) ?_;(try simp only[gE,aP]);refine ar 1 (.slice c f cc) ?_;(try simp only[gE,aP]);refine ar 2 (.int .i64 (f:Nat)) ?_;(try simp only[gE,aP]);refine ar 3 (.pointer (some ⟨w.heap.size,0,none⟩)) ?_;(try simp only[gE,aP]);refine ar 4 (.slice a n ca) ?_;(try simp only[gE,aP]);refine ar 5 (.int .i64 (n:Nat)) ?_;(try simp only[gE,aP]);refine ar 6 (.bool false) ?_;(try simp only[gE,aP]);refine ar 7 (.bool false) ?_;(try simp only[gE,aP]);refine ar 8 (.agg #[.slice a n ca,.slice b q cb,.slice c f cc]) ?_;(try simp only[gE,aP]);refine aG [9] (cA ?_ aF)
   ·intro y K;go_simp;refine(r8.o _ H.o).af ?_;rintro e u1 ⟨rfl,d⟩;replace H:=hid (H.o.trans (d.af H.o.size));refine K.o _ _ (HELD.o _ H.o) (fun j=>?_);clear K y s;have s:=j;clear j d;(try simp only[gE,aP]);refine aG [10] (cA ?_ aF)
    ·intro y K;go_simp;refine(Il.o _).af ?_;rintro e u2 ⟨rfl,d⟩;replace H:=hid (H.o.trans (d.af H.o.size));refine K.o _ _ (HELD.o _ H.o) (fun j=>?_);clear K y s;have s:=j;clear j d;(try simp only[gE,aP]);refine ar 11 (.bool true) ?_;(try simp only[gE,aP]);refine ar 12 (.bool true) ?_;(try simp only[gE,aP]);refine ar 13 (.bool true) ?_;(try simp only[gE,aP]);refine fE (i:=14) (oi:=_) (v:=undef) rfl ao ao ao (fun _ _ _ h=>h) (Or.inr ⟨by rfl,rfl⟩) dj ?_;(try simp only[gE,aP]);refine fE (i:=15) (oi:=_) (v:=undef) rfl ao ao ao (fun _ _ _ h=>h) (Or.inr ⟨by rfl,rfl⟩) dj ?_;(try simp only[gE,aP]);refine fE (i:=16) (oi:=_) (v:=undef) rfl ao ao ao (fun _ _ _ h=>h) (Or.inr ⟨by rfl,rfl⟩) dj ?_;(try simp only[gE,aP]);refine fE (i:=17) (oi:=_) (v:=undef) rfl ao ao ao (fun _ _ _ h=>h) (Or.inr ⟨by rfl,rfl⟩) dj ?_;(try simp only[gE,aP]);refine fE (i:=18) (oi:=_) (v:=undef) rfl ao ao ao (fun _ _ _ h=>h) (Or.inr ⟨by rfl,rfl⟩) dj ?_;(try simp only[gE,aP]);refine fE (i:=19) (oi:=_) (v:=undef) rfl ao ao ao (fun _ _ _ h=>h) (Or.inr ⟨by rfl,rfl⟩) dj ?_;(try simp only[gE,aP])
     refine fE (i:=20) (oi:=_) (v:=undef) rfl ao ao ao (fun _ _ _ h=>h) (Or.inr ⟨by rfl,rfl⟩) dj ?_;(try simp only[gE,aP]);refine fE (i:=21) (oi:=_) (v:=undef) rfl ao ao ao (fun _ _ _ h=>h) (Or.inr ⟨by rfl,rfl⟩) dj ?_;(try simp only[gE,aP]);refine fE (i:=22) (oi:=_) (v:=undef) rfl ao ao ao (fun _ _ _ h=>h) (Or.inr ⟨by rfl,rfl⟩) dj ?_;(try simp only[gE,aP]);refine ar 23 (.bool true) ?_;(try simp only[gE,aP]);refine dS ao ?_ _;clear s;have P:=hid (A.trans (H.o.af A.size));go_wp2;go_ret;exact⟨⟨8,rfl,fD.o Mn.o⟩,P.o⟩
  have Il:Hid (∀V:World,du 34 #[.int .i64 (m:Nat)] V fun e w'=>e=.returned (.bool true)/\ef V w'):=fun V=>(NW m V q4.1 q4.2).af (fun e w' ⟨t,z⟩=>⟨t,by rw[z];exact au _ _⟩);cases GS:vo R2 n m with
  |false=>
   rw[GS] at Fi
   have Mn:Hid (¬zq l R1 R2):=fun d=>by
    have E:vo R2 n m=true:=NM.2 ⟨by rw[<- J.o];exact d.2.2.2.1,by rw[<- HM.o];exact d.2.2.2.2.2.2.2⟩;rw[GS] at E;cases E
   clear GS;refine ar 0 (.pointer (some ⟨w.heap.size,2,none⟩)) ?_;(try simp only[gE,aP]);refine ar 1 (.slice c f cc) ?_;(try simp only[gE,aP]);refine ar 2 (.int .i64 (f:Nat)) ?_;(try simp only[gE,aP]);refine ar 3 (.pointer (some ⟨w.heap.size,0,none⟩)) ?_;(try simp only[gE,aP]);refine ar 4 (.slice a n ca) ?_;(try simp only[gE,aP]);refine ar 5 (.int .i64 (n:Nat)) ?_;(try simp only[gE,aP]);refine ar 6 (.bool false) ?_;(try simp only[gE,aP]);refine ar 7 (.bool false) ?_;(try simp only[gE,aP]);refine ar 8 (.agg #[.slice a n ca,.slice b q cb,.slice c f cc]) ?_;(try simp only[gE,aP]);refine aG [9] (cA ?_ aF)
   ·intro y K;go_simp;refine(r8.o _ H.o).af ?_;rintro e u1 ⟨rfl,d⟩;replace H:=hid (H.o.trans (d.af H.o.size));refine K.o _ _ (HELD.o _ H.o) (fun j=>?_);clear K y s;have s:=j;clear j d;(try simp only[gE,aP]);refine aG [10] (cA ?_ aF)
    ·intro y K;go_simp;refine(Il.o _).af ?_;rintro e u2 ⟨rfl,d⟩;replace H:=hid (H.o.trans (d.af H.o.size));refine K.o _ _ (HELD.o _ H.o) (fun j=>?_);clear K y s;have s:=j;clear j d;(try simp only[gE,aP]);refine ar 11 (.bool false) ?_;(try simp only[gE,aP]);refine ar 12 (.bool false) ?_;(try simp only[gE,aP]);refine ar 13 (.bool false) ?_;(try simp only[gE,aP]);refine ar 14 (.pointer (some ⟨w.heap.size,2,none⟩)) ?_;(try simp only[gE,aP]);refine ar 15 (.slice c f cc) ?_;(try simp only[gE,aP]);refine ar 16 (.pointer (some ⟨w.heap.size,0,none⟩)) ?_;(try simp only[gE,aP]);refine ar 17 (.slice a n ca) ?_;(try simp only[gE,aP]);refine ar 18 (.int .i64 (n:Nat)) ?_;(try simp only[gE,aP]);refine ar 19 (.agg #[.slice a n ca,.slice b q cb,.slice c f cc]) ?_;(try simp only[gE,aP]);refine aG [20] (cA ?_ aF)
     ·intro y K;go_simp;refine(r8.o _ H.o).af ?_;rintro e u3 ⟨rfl,d⟩;replace H:=hid (H.o.trans (d.af H.o.size));refine K.o _ _ (HELD.o _ H.o) (fun j=>?_);clear K y s;have s:=j;clear j d;(try simp only[gE,aP]);refine aG [21] (cA ?_ aF)
      ·intro y K;go_simp;refine(Fi.o _ H.o).af ?_;rintro e g ⟨rfl,d⟩;replace H:=hid (H.o.trans (d.af H.o.size));refine K.o _ _ (HELD.o _ H.o) (fun j=>?_);clear K y s;have s:=j;clear j d;(try simp only[gE,aP]);refine ar 22 (.bool true) ?_;(try simp only[gE,aP]);refine ar 23 (.bool true) ?_;(try simp only[gE,aP]);refine dS ao ?_ _;clear s;have P:=hid (A.trans (H.o.af A.size));go_wp2;go_ret;exact⟨⟨8,rfl,fD.o Mn.o⟩,P.o⟩
  |true=>
   rw[GS] at Fi;have tI:=hid (NM.1 GS);clear GS;have jK:Hid (zq l R1 R2):=⟨by rw[J.o];exact cK,by rw[J.o];exact mW,by rw[J.o];exact oK.o.1,by rw[J.o];exact tI.o.1,by rw[HM.o];exact q4.1,by rw[HM.o];exact q4.2,by rw[J.o];exact oK.o.2,by rw[HM.o];exact tI.o.2⟩;refine ar 0 (.pointer (some ⟨w.heap.size,2,none⟩)) ?_;(try simp only[gE,aP]);refine ar 1 (.slice c f cc) ?_;(try simp only[gE,aP]);refine ar 2 (.int .i64 (f:Nat)) ?_;(try simp only[gE,aP]);refine ar 3 (.pointer (some ⟨w.heap.size,0,none⟩)) ?_;(try simp only[gE,aP]);refine ar 4 (.slice a n ca) ?_;(try simp only[gE,aP]);refine ar 5 (.int .i64 (n:Nat)) ?_;(try simp only[gE,aP]);refine ar 6 (.bool false) ?_;(try simp only[gE,aP]);refine ar 7 (.bool false) ?_;(try simp only[gE,aP]);refine ar 8 (.agg #[.slice a n ca,.slice b q cb,.slice c f cc]) ?_;(try simp only[gE,aP]);refine aG [9] (cA ?_ aF)
   ·intro y K;go_simp;refine(r8.o _ H.o).af ?_;rintro e u1 ⟨rfl,d⟩;replace H:=hid (H.o.trans (d.af H.o.size));refine K.o _ _ (HELD.o _ H.o) (fun j=>?_);clear K y s;have s:=j;clear j d;(try simp only[gE,aP]);refine aG [10] (cA ?_ aF)
    ·intro y K;go_simp;refine(Il.o _).af ?_;rintro e u2 ⟨rfl,d⟩;replace H:=hid (H.o.trans (d.af H.o.size));refine K.o _ _ (HELD.o _ H.o) (fun j=>?_);clear K y s;have s:=j;clear j d;(try simp only[gE,aP]);refine ar 11 (.bool false) ?_;(try simp only[gE,aP]);refine ar 12 (.bool false) ?_;(try simp only[gE,aP]);refine ar 13 (.bool false) ?_;(try simp only[gE,aP]);refine ar 14 (.pointer (some ⟨w.heap.size,2,none⟩)) ?_;(try simp only[gE,aP]);refine ar 15 (.slice c f cc) ?_;(try simp only[gE,aP]);refine ar 16 (.pointer (some ⟨w.heap.size,0,none⟩)) ?_;(try simp only[gE,aP]);refine ar 17 (.slice a n ca) ?_;(try simp only[gE,aP]);refine ar 18 (.int .i64 (n:Nat)) ?_;(try simp only[gE,aP]);refine ar 19 (.agg #[.slice a n ca,.slice b q cb,.slice c f cc]) ?_;(try simp only[gE,aP]);refine aG [20] (cA ?_ aF)
     ·intro y K;go_simp;refine(r8.o _ H.o).af ?_;rintro e u3 ⟨rfl,d⟩;replace H:=hid (H.o.trans (d.af H.o.size));refine K.o _ _ (HELD.o _ H.o) (fun j=>?_);clear K y s;have s:=j;clear j d;(try simp only[gE,aP]);refine aG [21] (cA ?_ aF)
      ·intro y K;go_simp;refine(Fi.o _ H.o).af ?_;rintro e g ⟨rfl,d⟩;replace H:=hid (H.o.trans (d.af H.o.size));refine K.o _ _ (HELD.o _ H.o) (fun j=>?_);clear K y s;have s:=j;clear j d;(try simp only[gE,aP]);refine ar 22 (.bool false) ?_;(try simp only[gE,aP]);refine ar 23 (.bool false) ?_;(try simp only[gE,aP]);refine dS ao ?_ _;clear s;have yf:=hid (A.trans (H.o.af A.size));obtain⟨e0,e1,e2⟩:=(O.aa H.o O.lt).cells;have FA:=hid ((au g.heap.size g).alloc (aq _) (.cells #[.slice a n ca] 24));have Fz:=hid (FA.o.alloc FA.o.size (.cells #[.slice (some ⟨g.heap.size,0,none⟩) 1 1,.slice b q cb,.slice c f cc] 25))
       have tL:Hid (du 37 #[.slice (some ⟨g.heap.size+1,0,none⟩) 3 3] ((g.alloc (.cells #[.slice a n ca] 24)).alloc (.cells #[.slice (some ⟨g.heap.size,0,none⟩) 1 1,.slice b q cb,.slice c f cc] 25)) fun e w'=>∃v,e=.returned v/\uF w' ((g.alloc (.cells #[.slice a n ca] 24)).alloc (.cells #[.slice (some ⟨g.heap.size,0,none⟩) 1 1,.slice b q cb,.slice c f cc] 25)).heap.size v ([.slice a n ca]++F++I)/\Below ((g.alloc (.cells #[.slice a n ca] 24)).alloc (.cells #[.slice (some ⟨g.heap.size,0,none⟩) 1 1,.slice b q cb,.slice c f cc] 25)).heap.size ((g.alloc (.cells #[.slice a n ca] 24)).alloc (.cells #[.slice (some ⟨g.heap.size,0,none⟩) 1 1,.slice b q cb,.slice c f cc] 25)) w'):=by
        have ae:((g.alloc (.cells #[.slice a n ca] 24)).alloc (.cells #[.slice (some ⟨g.heap.size,0,none⟩) 1 1,.slice b q cb,.slice c f cc] 25)).heap[g.heap.size+1]? =some (.cells #[.slice (some ⟨g.heap.size,0,none⟩) 1 1,.slice b q cb,.slice c f cc] 25 (0,0)):=by
         have h:=dB (g.alloc (.cells #[.slice a n ca] 24)) (.cells #[.slice (some ⟨g.heap.size,0,none⟩) 1 1,.slice b q cb,.slice c f cc] 25);rwa [dE] at h
        have mU:(g.alloc (.cells #[.slice a n ca] 24)).heap[g.heap.size]? =some (.cells #[.slice a n ca] 24 (0,0)):=dB g _;(have JW:g.heap.size<(g.alloc (.cells #[.slice a n ca] 24)).heap.size:=aE);have S3:=((au (g.alloc (.cells #[.slice a n ca] 24)).heap.size _).alloc (aq _) (.cells #[.slice (some ⟨g.heap.size,0,none⟩) 1 1,.slice b q cb,.slice c f cc] 25)).block g.heap.size JW |>.trans mU;have ED:=(jb.o.aa yf.o).aa Fz.o;have xr:=(iw.o.aa yf.o).aa Fz.o;have h:=Yh (g.heap.size+1) (some ⟨g.heap.size,0,none⟩) b c 1 cb cc [.slice a n ca] F I _ aE (by rw[bG _ _ _ _ _ (0,0) ae];rfl) (by rw[bG _ _ _ _ _ (0,0) ae,C6.o];rfl) (by rw[bG _ _ _ _ _ (0,0) ae,C5.o];rfl) (fun k T=>?_) ED xr (fun e=>by cases e) bb.o a7.o aE (by rw[C6.o];have h8:=ay.o;omega) (by rw[C5.o];have E:=ax.o;omega)
        ·exact h
        ·obtain rfl:k=0:=by simp at T;omega
         refine⟨g.heap.size,0,rfl,by simp;omega,?_,a,n,ca,rfl⟩;rw[bG _ _ _ _ _ (0,0) S3];rfl
       have dR:=hid (yf.o.trans (Fz.o.af yf.o.size));obtain⟨x0,x1,x2⟩:=((O.aa H.o O.lt).aa FA.o (aU O.lt H.o.size)).cells;go_wp2_with fail
       generalize ((g.alloc (.cells #[.slice a n ca] 24)).alloc (.cells #[.slice (some ⟨g.heap.size,0,none⟩) 1 1,.slice b q cb,.slice c f cc] 25))=W5 at *;refine tL.o.af ?_;rintro e w6 ⟨v6,rfl,qP,eT⟩;have iD:=hid (dR.o.trans (eT.af dR.o.size));(have yV:([.slice a n ca]++F++I:List Value).length=1+q+f:=by rw[bK,bK,C6.o,C5.o];rfl);have sP:=qP;rw[uF,yV] at sP;obtain⟨a6,c6,rfl, -⟩:=jm sP;have HV:=hid sP;have Vg:Hid (∀k (h:k<([.slice a n ca]++F++I:List Value).length),∃(L:Option Addr) (r:List Fr) (Y:Nat),([.slice a n ca]++F++I:List Value)[k]=.slice L r.length Y/\aW w L r/\([l]++R1++R2)[k]? =some r/\r∈[l]++R1++R2):=Pt.o;have Ln:=hid yV;clear qP sP eT yV e0 e1 e2 x0 x1 x2;generalize ([.slice a n ca]++F++I:List Value)=X at *;obtain⟨N,hN⟩:∃N,N=1+q+f:=⟨_,rfl⟩;(have Dd:Hid (([l]++R1++R2).length=N):=by show _=_;rw[bK,bK,jd.o,xZ.o,hN];rfl);rw[<- hN] at HV Ln;rw[<- hN];(have bf:N<=9:=by have h8:=ay.o;have E:=ax.o;omega);clear hN;go_wp2_with fail
       go_loopw [56] (fun iv wr=>∃i:Nat,i<=N/\iv=.int .i64 i/\Hid (ef w6 wr)/\Hid (∀k r,k< i ->([l]++R1++R2)[k]? =some r ->dt r=true)) (fun iv _=>N - (intOf iv).toNat)
       case atStart=>exact⟨0,aV _,rfl,au _ _,fun k r T=>absurd T (BA _)⟩
       case round=>
        obtain⟨i,hi,rfl,mD,ai⟩:=hrel;by_cases bc:i<N
        ·have J8:i<X.length:=by rw[Ln.o];exact bc
         obtain⟨g6,rfl,Kc,Km⟩:=Gd HV.o J8;have Ty:=(mD.o.cell (p:=⟨g6,_,none⟩) Kc).trans Km;obtain⟨L,r,Y,t,z,h3,h4⟩:=Vg.o i J8;rw[t] at Ty;have xm:=iD.o.trans (mD.o.af iD.o.size);have GQ:=E2.o r h4;have zC:=hid (aa8 L Y r wr (z.aa xm) GQ.1 al);have bg:=GQ.2;have kC:=hid h3;have kd:=hid h4;clear t z h3 h4 Km xm GQ;obtain⟨rb,sS⟩:∃x,dt r=x:=⟨_,rfl⟩;rw[sS] at zC;have H6:=hid sS;clear sS;generalize r.length=rl at *;go_wp2_with fail
         refine zC.o.af ?_;rintro e w7 ⟨rfl,dw⟩;have tM:=hid (mD.o.trans (dw.af mD.o.size));clear dw;cases rb with
         |true=>
          have Bo:Hid (∀k r,k<i+1 ->([l]++R1++R2)[k]? =some r ->dt r=true):=fun k r' T R=>by
           rcases cT k i with t |t
           ·exact ai.o k r' t R
           ·obtain rfl:k=i:=al
            rw[kC.o] at R;cases R;exact H6.o
          go_wp2;go_roundw
          case rel=>exact⟨i+1,al,b5,tM,Bo⟩
          case measure=>simp[intOf];omega
         |false=>
          have P:=hid (iD.o.trans (tM.o.af iD.o.size));go_wp2;go_ret;exact⟨⟨9,rfl,.inr (.inl ⟨rfl,jK.o,fun R=>by have E:=afP R r kd.o;rw[H6.o] at E;exact absurd E bd⟩)⟩,P.o⟩
        ·obtain rfl:N=i:=al
         have P:=hid (iD.o.trans (mD.o.af iD.o.size))
         have jL:Hid (EP l R1 R2):=afO fun r R=>by
          obtain⟨k,T,rfl⟩:=jz R;exact ai.o k _ (by rw[Dd.o] at T;exact T) (bj T)
         go_wp2;go_ret;exact⟨⟨0,rfl,.inl ⟨rfl,jK.o,jL.o⟩⟩,P.o⟩
variable {r:List Fr}
def CV (f:Fr):Nat:=if N f.2.2=0 then 1 else N f.2.2
def zk:List Fr ->Nat
 |[]=>1
 |f::l=>CV f*zk l
theorem alE (f:Fr):0<CV f:=by
 unfold CV;split<;>omega
theorem acn:∀l,0<zk l
 |[]=>bd
 |f::l=>Nat.mul_pos (alE f) (acn l)
theorem aco:∀ {l:List Fr} {f:Fr},f∈l ->CV f∣zk l
 |g::l,f,h=>by
  rcases dU.1 h with rfl |h
  ·exact Nat.dvd_mul_right _ _
  ·exact Nat.dvd_trans (aco h) (Nat.dvd_mul_left _ _)
theorem alD:∀l,(B (zk l)).size<=sw l+1
 |[]=>by
  show (B 1).size<=1;rw[lg];exact o8 1 1 bd
 |f::l=>by
  have e:∀l,zk l<=256^sw l:=fun l=>by
   induction l with
   |nil=>decide
   |cons f l ih=>
    show CV f*zk l<=256^(f.2.1.size+f.2.2.size+sw l);rw[wC];refine iO ?_ ih;have h:256^f.2.2.size<=256^(f.2.1.size+f.2.2.size):=kE bd al;have a:0<256^f.2.2.size:=nI bd;have b:=AU f.2.2;unfold CV;split<;>omega
  rw[lg];refine o8 _ _ ?_;have h:=e (f::l);have a:0<256^sw (f::l):=nI bd;rw[gJ];omega
theorem ael {f:Fr} (d:CV f∣D) (h0:0<=aQ f):∃a:Nat,aQ f*((D^1:Nat):Rat)=(a:Rat):=by
 rw[Nat.pow_one];by_cases h:N f.2.2=0
 ·refine⟨0,?_⟩;rw[show aQ f=0 from FV h,II];rfl
 ·rw[CV,aD h] at d;obtain⟨c,rfl⟩:=d;have n:((N f.2.2:Nat):Rat)≠0:=fun e=>h (by exact_mod_cast e)
  have g:aQ f*((N f.2.2:Nat):Rat)=((sg f.1 (N f.2.1):Int):Rat):=by
   show mkRat _ _*_=_;rw[IL,rC,jx];show _*((((N f.2.2:Nat):Rat))⁻¹*_)=_;rw[Rat.inv_mul_cancel _ n,rB]
  have b:aQ f*((N f.2.2*c:Nat):Rat)=((sg f.1 (N f.2.1)*(c:Int):Int):Rat):=by
   rw[zP, <- jx,g,Rat.intCast_mul];rfl
  have j:(0:Rat)<=((sg f.1 (N f.2.1)*(c:Int):Int):Rat):=by
   rw[<- b];exact IK h0 Mw
  have k:0<=sg f.1 (N f.2.1)*(c:Int):=by exact_mod_cast j
  refine⟨(sg f.1 (N f.2.1)*(c:Int)).toNat,?_⟩;rw[b];have i:(((sg f.1 (N f.2.1)*(c:Int)).toNat:Int))=sg f.1 (N f.2.1)*(c:Int):=Int.toNat_of_nonneg k;rw[<- i];rfl
def Kl (n:Nat) (l:List Fr) (R1 R2:List (List Fr)) (Q:List Nat):HC where
 s:=n
 L:=Q.length
 st:=fun i=>aQ (bD l i)
 mv:=fun i j=>aQ (bD (R1[i]?.getD []) j)
 sh:=fun t i=>aQ (bD (R2[i]?.getD []) (Q[t]?.getD 0))
def zm (l:List Fr) (R1 R2:List (List Fr)):List Fr:=l++(R1.flatten++R2.flatten)
theorem Re (a b:List Fr):sw (a++b)=sw a+sw b:=by
 induction a with
 |nil=>simp[sw]
 |cons f a ih=>simp only[fG,sw,ih];omega
theorem XL:∀ {l:List Fr} {f:Fr},f∈l ->f.2.1.size+f.2.2.size<=sw l
 |g::l,f,h=>by
  rcases dU.1 h with rfl |h
  ·simp only[sw];omega
  ·have:=XL h;simp only[sw];omega
theorem afQ (h:dt r=true) (b:i<r.length):0<=aQ r[i]/\aQ r[i]<=1:=by
 unfold dt at h;simp only[kj,iQ,IG] at h;have c:∀j (a:j<r.length),0<=aQ r[j]:=fun j a=>Rat.not_lt.1 (h.1 _ (bF a));refine⟨c i b,?_⟩;have d:=abP (f:=fun j=>aQ (bD r j)) r r.length rfl fun j a=>by rw[kS a]
 rw[h.2] at d;have e:=XP (f:=fun j=>aQ (bD r j)) (n:=r.length) (fun j a=>by rw[kS a];exact c j a) i b;rw[<- d,kS b] at e;exact e
theorem Rt {A:List Fr} (h:dt r=true) (d:∀f∈r,f∈A) (b:i<r.length):Sm (zk A) 1 (aQ r[i]):=by
 obtain⟨a,c⟩:=afQ h b;exact⟨a,ym c bd,ael (aco (d _ (bF b))) a⟩
theorem ajL {Q:List Nat} (S:Pr l R1 R2) (o:l.length=n) (U:(R2.headD []).length=m) (T:C2 l R1 R2 0) (V:Q.length<=6) (v:∀x∈Q,x<m) (X:sw (zm l R1 R2)<=700):
  pj (zk (zm l R1 R2)) (Kl n l R1 R2 Q) m l R1 R2 Q:=by
 obtain⟨⟨p1,p2,p3,y,J,K,p,q⟩,M,O,P⟩:zq l R1 R2/\EP l R1 R2:=by
  rcases T with ⟨_,I,s⟩ |⟨u,_⟩ |⟨u,_⟩
  ·exact⟨I,s⟩
  ·exact absurd u bd
  ·exact absurd u bd
 rw[o] at p1 p2 p3 y p;rw[U] at J K q;have E:∀i (h:i<R1.length),R1[i]?.getD []=R1[i]:=fun i h=>by rw[bj h];rfl
 have F:∀i (h:i<R2.length),R2[i]?.getD []=R2[i]:=fun i h=>by rw[bj h];rfl
 have H:∀t (e:t<Q.length),Q[t]?.getD 0=Q[t]:=fun t e=>by rw[bj e];rfl
 have z:∀f∈l,f∈zm l R1 R2:=fun f d=>ck.2 (.inl d);have A:∀r∈R1,∀f∈r,f∈zm l R1 R2:=fun r w f d=>ck.2 (.inr (ck.2 (.inl (List.mem_flatten.2 ⟨r,w,d⟩))));have D:∀r∈R2,∀f∈r,f∈zm l R1 R2:=fun r w f d=>ck.2 (.inr (ck.2 (.inr (List.mem_flatten.2 ⟨r,w,d⟩))));have sz:∀f∈zm l R1 R2,f.2.1.size+f.2.2.size<=30010:=fun f d=>by have:=XL d;omega
 have g:∀i (h:i<R1.length),R1[i]∈R1:=fun i h=>bF h;have c:∀i (h:i<R2.length),R2[i]∈R2:=fun i h=>bF h;refine⟨⟨p1,p2,J,K,o,S.f1,M,⟨p3,fun i h=>p _ (g i h),fun i h=>S.f2 _ (g i h),fun i h=>O _ (g i h)⟩,⟨y,fun i h=>q _ (c i h),fun i h=>S.f3 _ (c i h),fun i h=>P _ (c i h)⟩⟩,rfl,v,⟨o,fun j b=>?_,fun j b=>sz _ (z _ (bF b))⟩,fun i h=>⟨p _ (g i h),fun j b=>?_,fun j b=>sz _ (A _ (g i h) _ (bF b))⟩,fun t e i h=>?_,⟨p2,aR V bd,acn _,?_,fun i h=>?_,fun i h j b=>?_,fun t e i h=>?_⟩⟩
 ·show _=aQ (bD l j);rw[kS b]
 ·show _=aQ (bD (R1[i]?.getD []) j);rw[E i h,kS b]
 ·have k:Q[t]<R2[i].length:=by rw[q _ (c i h)];exact v _ (bF e)
  refine⟨k,?_,sz _ (D _ (c i h) _ (bF k))⟩;show _=aQ (bD (R2[i]?.getD []) (Q[t]?.getD 0));rw[F i h,H t e,kS k]
 ·have I:=alD (zm l R1 R2);have s:((B (zk (zm l R1 R2))).size+1)*(3*Q.length+1)<=702*19:=iO al al;exact aR s bd
 ·have a:i<l.length:=by rw[o];exact h
  show Sm _ 1 (aQ (bD l i));rw[kS a];exact Rt M z a
 ·have a:i<R1.length:=by rw[p3];exact h
  have R:j<R1[i].length:=by rw[p _ (g i a)];exact b
  show Sm _ 1 (aQ (bD (R1[i]?.getD []) j));rw[E i a,kS R];exact Rt (O _ (g i a)) (A _ (g i a)) R
 ·have a:i<R2.length:=by rw[y];exact h
  have L:t<Q.length:=e;have k:Q[t]<R2[i].length:=by rw[q _ (c i a)];exact v _ (bF L)
  show Sm _ 1 (aQ (bD (R2[i]?.getD []) (Q[t]?.getD 0)));rw[F i a,H t L,kS k];exact Rt (P _ (c i a)) (D _ (c i a)) k
theorem al3 (h:∀r∈R,r.length=k):∀ {i j:Nat} (a:i<R.length) (b:j<R[i].length),(fC R)[i*k+j]? =some (qF (lD R[i][j])):=by
 induction R with
 |nil=>intro i j a;exact absurd a aE
 |cons r R ih=>
  intro i j a b;have c:=h r dp;have P:(iK r).length=k:=by rw[CX,c]
  show (iK r++fC R)[i*k+j]? =_;cases i with
  |zero=>
   have d:j<r.length:=b;rw[jO,bB,BG (by rw[CX];exact d),iK,lU,bj d];rfl
  |succ i=>
   (have f:i<R.length:=by simpa using a);(have e:(i+1)*k+j=k+(i*k+j):=by rw[fF,jP];omega);rw[e,uQ al,P,Nat.add_sub_cancel_left];exact ih (fun r c=>h r (dF _ c)) f b
theorem UJ (h:∀r∈R,r.length=k) (a:i<R.length) (c:j<k):aQ (bD (fC R) (i*k+j))=aQ (bD (R[i]?.getD []) j):=by
 have l:R[i].length=k:=h _ (bF a);have b:j<R[i].length:=al
 rw[bj a,mE,bD,al3 h a b,mE,mZ,kS b];rfl
theorem ajA {Q:List Nat} (h:ES n m l R1 R2) (e:∀x∈Q,x<m):
  jM n m Q.length l R1 R2 (Kl n l R1 R2 Q) (fun t=>Q[t]?.getD 0) (fun i x=>aQ (bD (R2[i]?.getD []) x)):=by
 have p:R1.length=n:=h.mv.len;have q:R2.length=n:=h.sh.len
 have o:∀r∈R1,r.length=n:=fun r b=>by
  obtain⟨i,a,rfl⟩:=jz b;exact h.mv.each i a
 have s:∀r∈R2,r.length=m:=fun r b=>by
  obtain⟨i,a,rfl⟩:=jz b;exact h.sh.each i a
 refine⟨rfl,rfl,fun i a=>?_,fun i a j f=>UJ o al f,fun i a x g=>UJ s al g,fun t c i a=>rfl,fun t c=>?_⟩
 ·have d:=UJ (R:=[l]) (k:=n) (fun r b=>by rw[dT.1 b];exact h.len) (i:=0) (j:=i) aE a;rw[jO,bB] at d;exact d
 ·show Q[t]?.getD 0<m;rw[bj c];exact e _ (bF c)
structure vO (w:World) (a b c:Option Addr) (V:List Vr) (L:List (List Int)) (R:List (List Fr)):Prop where
 net:lO w a b c V L R
 ls:xQ w b L
 sm:xP V L R
 wt:∀l∈R,fw l<=4200
 lt:tR V R
theorem vO.aa {b c:Option Addr} {V:List Vr} (h:vO w a b c V L R) (d:ef w w'):vO w' a b c V L R:=⟨h.net.aa d,h.ls.aa h.net.pars d,h.sm,h.wt,h.lt⟩
theorem aja (a b c f:Option Addr) (ca cb cc d:Nat) (V:List Vr) (L:List (List Int)) (R:List (List Fr)) (F:List (Int×Int)) (w:World) (h:vO w a b c V L R) (A:kD w f F) (hn:F.length<=1000) (E:F.length<=d):
  du 9 #[.agg #[.slice a V.length ca,.slice b L.length cb,.slice c R.length cc],.slice f F.length d] w (eS w (.tuple #[iB (yM V L R F),.int .i64 (i7 V L R F)])):=by
 have M:=hid (fun (U:World) (l:ef w U)=>aam a b c f ca cb cc d V L R F U (h.net.aa l) h.sm (A.aa l) hn E)
 have X:Hid (i7 V L R F=0 ->∀U:World,ef w U ->du 22 #[.agg #[.slice a V.length ca,.slice b L.length cb,.slice c R.length cc],.slice none 0 0,.slice f F.length d] U fun e w'=>∃(x:Value) (g o n:Nat),e=.returned (.agg #[x,.slice (some ⟨g,o,none⟩) 1 n])/\w'.cell? ⟨g,o,none⟩=some (.bool (yM V L R F).1)/\w'.cell? ⟨g,o+1,none⟩=some (.string (yM V L R F).2.1)/\w'.cell? ⟨g,o+2,none⟩=some (.string (yM V L R F).2.2)/\cV x/\ef U w'):=fun e U l=>by
  obtain⟨h0,S,hl⟩:=acb e;have O:=A.aa l;rw[S] at O;have I:=h.aa l;have:=aau a b c none f ca cb cc 0 d V L R [] (nF F) U I.net I.ls h.sm h.wt h0 h.lt (fun k hk=>absurd hk aE) ⟨fun i hi=>absurd hi aE,fun i j hj=>absurd hj aE⟩ O hl (fun v hv=>by cases hv) (fun U' He=>UM a b c ca cb cc V L R U' He h.sm);rw[<- yC, <- S,aeC] at this;refine this.af fun e' w' hh=>?_;obtain⟨x,y,h2,⟨b',c',eU,qX,h3,h4,_,h5,_⟩,h6⟩:=hh;obtain⟨g,o,h7,_,P,Q,ab⟩:=h5 0 aE;rw[yM,aA e];refine⟨x,g,o,qX,by rw[h2,h4,h7];rfl,?_,?_,?_,⟨_,_,_,h3⟩,h6⟩
  ·rw[jO,gK] at P;exact P
  ·rw[jO,gK] at Q;exact Q
  ·rw[jO,gK] at ab;exact ab
 have D:Hid (i7 V L R F≠0 ->yM V L R F=(false,⟨#[]⟩,⟨#[]⟩)):=fun e=>aD e;generalize yM V L R F=pf at *;generalize i7 V L R F=J at *;clear h A E;have p:=hid (LK.new w (.slice a V.length ca) (.slice b L.length cb) (.slice c R.length cc));obtain⟨s,t,u⟩:=p.o.1.1.cells;go_enter Tryz.func9,Tryz.ntmps9;go_wp2_with fail
 generalize ((w.alloc (NC (.slice a V.length ca) (.slice b L.length cb) (.slice c R.length cc))).alloc (FC false ⟨#[]⟩ ⟨#[]⟩))=w1 at *;refine(M.o _ p.o.1.2).af ?_;rintro e w2 ⟨rfl,m⟩;have K:=p.o.step m;clear m p s t u M;by_cases q:J=0
 ·subst q;have HP:=hid (X.o rfl);have H:=hid K;obtain⟨s,t,u⟩:=K.1.1.cells;clear D X K;obtain⟨Y,Z,py⟩:=pf;go_wp2_with fail
  refine(HP.o _ H.o.1.2).af ?_;rintro e w6 ⟨x,g,o,n,rfl,q0,q1,q2,⟨xa,xn,xc,rfl⟩,m⟩;have T:=H.o.step m;obtain⟨k0,k1,k2,f0,f1,f2⟩:=T.2.facts;have z:=T.2.put Y Z py;have r:=dV T.1.2 (show w.heap.size<=w.heap.size+1 by omega) (.bool Y) (.string Z) (.string py);have ad:∀U:World,(Instr.field 49 (.agg #[.slice xa xn xc,.slice (some ⟨g,o,none⟩) 1 n]) 1).run Tryz.prog U=.ok (.slice (some ⟨g,o,none⟩) 1 n) U:=fun _=>ao
  clear m s t u;go_wp2;refine cj (z.result2 rfl _ rfl) rfl ?_;exact⟨rfl,r⟩
 ·have HQ:=hid (D.o q);have uk:(J==0)=false:=by simpa using q
  obtain⟨k0,k1,k2,f0,f1,f2⟩:=K.2.facts;have z:=K.2.put false ⟨#[]⟩ ⟨#[]⟩;have r:=dV K.1.2 (show w.heap.size<=w.heap.size+1 by omega) (.bool false) (.string ⟨#[]⟩) (.string ⟨#[]⟩);clear q X D;go_wp2;refine cj (z.result2 rfl _ rfl) rfl ?_;exact⟨by rw[HQ.o];rfl,r⟩
theorem ajb (a b c q f:Option Addr) (ca cb cc u d:Nat) (V:List Vr) (L:List (List Int)) (R:List (List Fr)) (Q:List Int) (F:List (Int×Int)) (w:World) (h:vO w a b c V L R) (hq:aJ w q Q) (hQ:Q.length<=1000) (hF:kD w f F) (hn:F.length<=1000) (Ct:F.length<=d) (aT:cnt (aw V) (ag Q)<=800):
  du 11 #[.agg #[.slice a V.length ca,.slice b L.length cb,.slice c R.length cc],.slice q Q.length u,.slice f F.length d] w fun e w'=>rZ (rH V L R Q F).1 (rH V L R Q F).2 (sM V L R Q F) e w'/\ef w w':=by
 have Mg:=hid (fun (U:World) (j:ef w U)=>aam a b c f ca cb cc d V L R F U (h.net.aa j) h.sm (hF.aa j) hn Ct);have jc:=hid (fun (U:World) (j:ef w U)=>NB a b c ca cb cc L.length R.length V U (h.net.aa j).vars h.sm.vars.1)
 have ak:Hid (∀(G:Nat) (U:World),ef w U ->cM U G (aw V) ->du 27 #[.slice (some ⟨G,0,none⟩) V.length V.length,.slice q Q.length u] U fun e w'=>e=.returned (.tuple #[.int .i64 (lG (iL (aw V)) Q).1,.int .i64 (lG (iL (aw V)) Q).2])/\ef U w'):=fun G U j hi=>by
  have H:(iL (aw V)).length=V.length:=by rw[bI,oT]
  have a1:=h.sm.vars.1;have:=MZ (some ⟨G,0,none⟩) q V.length u (iL (aw V)) Q U hi.ints (hq.aa j) (by rw[H];omega) al;rwa [H] at this
 have Dr:Hid (∀(B:Nat) (U:World),ef w U ->B<U.heap.size ->U.cell? ⟨B,0,none⟩=some (.slice f F.length d) ->du 28 #[.slice q Q.length u,.func (.func 29) #[] #[.pointer (some ⟨B,0,none⟩)]] U fun e w'=>e=.returned (.bool (F.any fun p=>wP p.1 Q))/\ef U w'):=fun B U j hB hc=>by
  rw[amQ];exact acA q u 29 #[.pointer (some ⟨B,0,none⟩)] Q (fun v=>F.any fun p=>p.1==v) U (hq.aa j) hQ (enters_of Tryz.func29 ao rfl) (fun v _ U' He=>agB f d F v B U' ((hF.aa j).aa He) hn ((He.cell (p:=⟨B,0,none⟩) hB).trans hc))
 have Ug:i7 V L R F=0 ->(lG (iL (aw V)) Q).2=0 ->bH V L R=0/\F=zF (nF F)/\tO (aw V) V.length (nF F)/\Up Q V.length:=fun e i=>by
  obtain⟨l,n,e4⟩:=acb e;exact⟨l,n,e4,alV i⟩
 have EX:Hid (i7 V L R F=0 ->(lG (iL (aw V)) Q).2=0 ->(F.any fun p=>wP p.1 Q)=false ->∀U:World,ef w U ->du 22 #[.agg #[.slice a V.length ca,.slice b L.length cb,.slice c R.length cc],.slice q Q.length u,.slice f F.length d] U fun e w'=>∃x y,e=.returned (.agg #[x,y])/\ei w' x y (fk V L R Q (nF F))/\ef U w'):=fun e i n U j=>by
  obtain⟨m,hz,hl,D⟩:=Ug e i;have Y:=hF.aa j;rw[hz] at Y n;have Ks:=h.aa j;have:=aau a b c q f ca cb cc u d V L R Q (nF F) U Ks.net Ks.ls h.sm h.wt m h.lt (hq.aa j) D Y hl (amO D n) (fun U' He=>UM a b c ca cb cc V L R U' He h.sm);rw[<- yC, <- hz] at this;exact this
 have fD:Hid (i7 V L R F=0 ->(lG (iL (aw V)) Q).2=0 ->(F.any fun p=>wP p.1 Q)=false ->∀(G:Nat) (x y:Value) (U:World),cM U G (aw V) ->ei U x y (fk V L R Q (nF F)) ->du 31 #[.slice (some ⟨G,0,none⟩) V.length V.length,.agg #[x,y]] U fun e w'=>rZ (rH V L R Q F).1 (rH V L R Q F).2 (sM V L R Q F) e w'/\ef U w'):=fun e i n G x y U hi hv=>by
  obtain⟨m,hz,hl,D⟩:=Ug e i;have H:(iL (aw V)).length=V.length:=by rw[bI,oT]
  have h8:=(kN m).n8
  have h5:(fk V L R Q (nF F)).2.length<=800/\1<=(fk V L R Q (nF F)).2.length:=by
   (have e9:(fk V L R Q (nF F)).2.length=cnt (aw V) (ag Q):=by simp[fk]);have h9:=K4 (Gk m) (ag Q);omega
  have ax:=aeB m D (nF F);obtain⟨b',c',eU,qX,rfl,rfl,Y,h2,_⟩:=hv;have av:uB V L R Q F=0:=by rw[uB,aA e,aA i,aD (by rw[n];decide)]
  by_cases ai:fsum (fk V L R Q (nF F)).2=0
  ·have l:sM V L R Q F=3:=by rw[sM,aA av,aA ai]
   (have e5:rH V L R Q F=([],[]):=by rw[rH,l,aD bd]);rw[l,e5];have:=aeV (some ⟨G,0,none⟩) b' c' V.length eU qX (iL (aw V)) Q (fk V L R Q (nF F)).2 U hi.ints Y h2 (by rw[H];omega) al ax (Xy m h.lt Q (nF F)) (Xx m h.lt D (nF F)) al ai;rwa [H] at this
  ·have l:sM V L R Q F=0:=by rw[sM,aA av,aD ai]
   (have e5:rH V L R Q F=(Q,vk (fk V L R Q (nF F)).2):=by rw[rH,aA l]);rw[l,e5];have:=aeW (some ⟨G,0,none⟩) b' c' V.length eU qX (iL (aw V)) Q (fk V L R Q (nF F)).2 U hi.ints Y h2 (by rw[H];omega) al ax (Xy m h.lt Q (nF F)) (Xx m h.lt D (nF F)) al ai;rwa [H] at this
 have E:Hid (∀k,uB V L R Q F=k ->k≠0 ->sM V L R Q F=k/\rH V L R Q F=([],[])):=fun k e i=>by
  have l:sM V L R Q F=k:=by rw[sM,aD (by rw[e];exact i),e]
  exact⟨l,by rw[rH,l,aD i]⟩
 have ru:Hid (i7 V L R F≠0 ->uB V L R Q F=i7 V L R F):=fun e=>aD e;have rq:Hid (i7 V L R F=0 ->(lG (iL (aw V)) Q).2≠0 ->uB V L R Q F=(lG (iL (aw V)) Q).2):=fun e i=>by rw[uB,aA e,aD i]
 have Ix:Hid (i7 V L R F=0 ->(lG (iL (aw V)) Q).2=0 ->(F.any fun p=>wP p.1 Q)=true ->uB V L R Q F=7):=fun e i n=>by rw[uB,aA e,aA i,aA n]
 generalize sM V L R Q F=pe at *;generalize rH V L R Q F=t at *;generalize uB V L R Q F=ae at *;generalize fk V L R Q (nF F)=TT at *;generalize i7 V L R F=fe at *;generalize (F.any fun p=>wP p.1 Q)=fq at *;clear h hq hF Ug Ct;have qU:=(au w.heap.size w).alloc (aq _) (NC (.slice a V.length ca) (.slice b L.length cb) (.slice c R.length cc));have Uj:=qU.alloc qU.size (.cells #[.slice f F.length d] 37);have HA:=hid (Uj.alloc Uj.size (TC (.slice none 0 0) (.slice none 0 0)));have az:(w.alloc (NC (.slice a V.length ca) (.slice b L.length cb) (.slice c R.length cc))).heap.size=w.heap.size+1:=aE
 have aC:((w.alloc (NC (.slice a V.length ca) (.slice b L.length cb) (.slice c R.length cc))).alloc (.cells #[.slice f F.length d] 37)).heap.size=w.heap.size+1+1:=aE
 have x6:Hid (dQ (((w.alloc (NC (.slice a V.length ca) (.slice b L.length cb) (.slice c R.length cc))).alloc (.cells #[.slice f F.length d] 37)).alloc (TC (.slice none 0 0) (.slice none 0 0))) w.heap.size (.slice a V.length ca) (.slice b L.length cb) (.slice c R.length cc)):=by
  have hN:=dQ.at (w:=w) rfl (.slice a V.length ca) (.slice b L.length cb) (.slice c R.length cc);have zg:=hN.aa ((au _ _).alloc (aq _) (.cells #[.slice f F.length d] 37)) hN.lt;exact zg.aa ((au _ _).alloc (aq _) (TC (.slice none 0 0) (.slice none 0 0))) zg.lt
 have Hy:Hid (Boxed (((w.alloc (NC (.slice a V.length ca) (.slice b L.length cb) (.slice c R.length cc))).alloc (.cells #[.slice f F.length d] 37)).alloc (TC (.slice none 0 0) (.slice none 0 0))) (w.heap.size+1) 37 (.slice f F.length d)):=by
  have:=(a8 (w.alloc (NC (.slice a V.length ca) (.slice b L.length cb) (.slice c R.length cc))) 37 (.slice f F.length d)).alloc (TC (.slice none 0 0) (.slice none 0 0));rwa [az] at this
 have mr:Hid (bE (((w.alloc (NC (.slice a V.length ca) (.slice b L.length cb) (.slice c R.length cc))).alloc (.cells #[.slice f F.length d] 37)).alloc (TC (.slice none 0 0) (.slice none 0 0))) (w.heap.size+1+1) (.slice none 0 0) (.slice none 0 0)):=bE.at (w:=(w.alloc (NC (.slice a V.length ca) (.slice b L.length cb) (.slice c R.length cc))).alloc (.cells #[.slice f F.length d] 37)) aC _ _;obtain⟨n0,n1,n2⟩:=x6.o.cells;have x0:=Hy.o.cell;clear qU Uj az aC;go_enter Tryz.func11,Tryz.ntmps11;go_wp2_with fail
 generalize (((w.alloc (NC (.slice a V.length ca) (.slice b L.length cb) (.slice c R.length cc))).alloc (.cells #[.slice f F.length d] 37)).alloc (TC (.slice none 0 0) (.slice none 0 0)))=W0 at *;refine(Mg.o W0 HA.o).af ?_;rintro e w2 ⟨rfl,ab⟩;have P:=hid (HA.o.trans (ab.af HA.o.size));have jd:=hid (x6.o.aa ab x6.o.lt);have iw:=hid (aX Hy.o ab);have Z:=hid (mr.o.aa ab mr.o.lt);clear n0 n1 n2 x0 ab HA x6 Hy mr Mg;by_cases o0:fe=0
 ·subst o0;have zA:=hid (EX.o rfl);have Bc:=hid (fD.o rfl);have Wp:=hid (rq.o rfl);have Wo:=hid (Ix.o rfl);obtain⟨n0,n1,n2⟩:=jd.o.cells;clear ru rq Ix EX fD;go_wp2_with fail
  refine(jc.o w2 P.o).af ?_;rintro e w3 ⟨G,rfl,hG,aj,ad⟩;have iE:=hid (P.o.trans (ad.af P.o.size));have xZ:=hid (jd.o.aa ad jd.o.lt);have jt:=hid (aX iw.o ad);have kC:=hid (Z.o.aa ad Z.o.lt);have dX:=hid (ak.o G w3 iE.o aj);have wj:=hid aj;clear n0 n1 n2 ad aj hG P jd iw Z jc ak;generalize (lG (iL (aw V)) Q).1=c1 at *;generalize (lG (iL (aw V)) Q).2=c2 at *;go_wp2_with fail
  refine dX.o.af ?_;rintro e w4 ⟨rfl,I⟩;have X:=hid (iE.o.trans (I.af iE.o.size));have uK:=hid (xZ.o.aa I xZ.o.lt);have tE:=hid (aX jt.o I);have kd:=hid (kC.o.aa I kC.o.lt);have We:=hid (wj.o.aa I wj.o.lt);clear I iE xZ jt kC wj dX;by_cases ah:c2=0
  ·subst ah;have Vl:=hid (zA.o rfl);have LP:=hid (Bc.o rfl);have Wn:=hid (Wo.o rfl);have zH:=hid (Dr.o (w.heap.size+1) w4 X.o tE.o.lt tE.o.cell);clear Wp Wo zA Bc Dr;go_wp2_with fail
   refine zH.o.af ?_;rintro e w5 ⟨rfl,J⟩;have T:=hid (X.o.trans (J.af X.o.size));have Fc:=hid (uK.o.aa J uK.o.lt);have tD:=hid (aX tE.o J);have rh:=hid (kd.o.aa J kd.o.lt);have ye:=hid (We.o.aa J We.o.lt);clear J X uK tE kd We zH;cases fq with
   |true=>
    obtain⟨r,s⟩:=E.o 7 (Wn.o rfl) bd;have qj:=hid r;have oK:=hid s;obtain⟨t0,t1,f0,f1⟩:=rh.o.facts;have A:=hid (rh.o.put (.slice none 0 0) (.slice none 0 0));have z:=hid (o9 (g:=w.heap.size+1+1) T.o al (.slice none 0 0) (.slice none 0 0));clear r s E Wn Vl LP;go_wp2;refine cj (A.o.result2 rfl _ rfl) rfl ?_;exact⟨by rw[qj.o,oK.o];exact rZ.empty 7 _,z.o⟩
   |false=>
    have vR:=hid (Vl.o rfl w5 T.o);have E9:=hid (LP.o rfl);obtain⟨n0,n1,n2⟩:=Fc.o.cells;have x0:=tD.o.cell;clear E Wn Vl LP;go_wp2_with fail
    refine vR.o.af ?_;rintro e w6 ⟨x,y,rfl,qP,eT⟩;have iD:=hid (T.o.trans (eT.af T.o.size));have LH:=hid (rh.o.aa eT rh.o.lt);have an:=hid (E9.o G x y w6 (ye.o.aa eT ye.o.lt) qP);obtain⟨xs,xn,xc,rfl⟩:=qP.slices.1;obtain⟨ys,yn,yc,rfl⟩:=qP.slices.2;clear n0 n1 n2 x0 qP eT T Fc tD rh ye vR E9;go_wp2_with fail
    refine an.o.af ?_;rintro e w7 ⟨⟨O,S,M,K,rfl,Cm,ay⟩,dw⟩;have ur:=LH.o.aa dw LH.o.lt;have tr:=iD.o.trans (dw.af iD.o.size);obtain⟨t0,t1,f0,f1⟩:=ur.facts;have A:=hid (ur.put (.slice O t.1.length M) (.slice S t.2.length K));have aS:=hid (Cm.putT ur (slv _ _ _) (slv _ _ _) (slv O t.1.length M) (.slice S t.2.length K));have aO:=hid (ay.putT ur (slv _ _ _) (slv _ _ _) (slv O t.1.length M) (.slice S t.2.length K));have z:=hid (o9 (g:=w.heap.size+1+1) tr al (.slice O t.1.length M) (.slice S t.2.length K));clear Cm ay dw ur tr an LH iD;go_wp2;refine cj (A.o.result2 rfl _ rfl) rfl ?_;exact⟨⟨O,S,M,K,rfl,aS.o,aO.o⟩,z.o⟩
  ·obtain⟨r,s⟩:=E.o c2 (Wp.o ah) ah;have qj:=hid r;have oK:=hid s;(have uk:(c2==0)=false:=by simpa using ah);obtain⟨t0,t1,f0,f1⟩:=kd.o.facts;have A:=hid (kd.o.put (.slice none 0 0) (.slice none 0 0));have z:=hid (o9 (g:=w.heap.size+1+1) X.o al (.slice none 0 0) (.slice none 0 0));clear r s ah E Wp Wo zA Bc;go_wp2;refine cj (A.o.result2 rfl _ rfl) rfl ?_;exact⟨by rw[qj.o,oK.o];exact rZ.empty c2 _,z.o⟩
 ·obtain⟨r,s⟩:=E.o fe (ru.o o0) o0;have qj:=hid r;have oK:=hid s;have uk:(fe==0)=false:=by simpa using o0
  obtain⟨t0,t1,f0,f1⟩:=Z.o.facts;have A:=hid (Z.o.put (.slice none 0 0) (.slice none 0 0));have z:=hid (o9 (g:=w.heap.size+1+1) P.o al (.slice none 0 0) (.slice none 0 0));clear r s o0 E ru rq Ix EX fD;go_wp2;refine cj (A.o.result2 rfl _ rfl) rfl ?_;exact⟨by rw[qj.o,oK.o];exact rZ.empty fe _,z.o⟩
variable {fn:Func} {Ls:List Nat} {P1:List PR} {xs:List Value} {B' n':Nat} {x':Value}
theorem b6.set1 (h:b6 w g x y z) (v:Value):b6 (w.setCell ⟨g,1,none⟩ v) g x v z:=by
 have a:(w.setCell ⟨g,1,none⟩ v).heap[g]? =some (.cells (#[x,y,z].setIfInBounds 1 v) 27 (0,0)):=jf w g 1 _ _ _ h;exact a
theorem b6.set2 (h:b6 w g x y z) (v:Value):b6 (w.setCell ⟨g,2,none⟩ v) g x y v:=by
 have a:(w.setCell ⟨g,2,none⟩ v).heap[g]? =some (.cells (#[x,y,z].setIfInBounds 2 v) 27 (0,0)):=jf w g 2 _ _ _ h;exact a
theorem b6.set3 (h:b6 w g x y z) (a b c:Value):b6 (((w.setCell ⟨g,0,none⟩ a).setCell ⟨g,1,none⟩ b).setCell ⟨g,2,none⟩ c) g a b c:=by
 have d:(w.setCell ⟨g,0,none⟩ a).heap[g]? =some (.cells (#[x,y,z].setIfInBounds 0 a) 27 (0,0)):=jf w g 0 _ _ _ h;have e:b6 (w.setCell ⟨g,0,none⟩ a) g a y z:=d;exact(e.set1 b).set2 c
theorem b6.fz (h:b6 w g x y z) (j:Nat):w.frozen? ⟨g,j,none⟩=false:=jw w g j _ _ h
theorem b6.result (h:b6 w g x y z) {p:Tmp} (r:fn.results= #[.cell p 27]) (m:Array Value) (a:m.getD p undef=.pointer (some ⟨g,0,none⟩)):
  (results fn m).run Tryz.prog w=.ok (.agg #[x,y,z]) w:=
 FM r m w g _ _ _ _ a h Tryz.underlying27 rfl ao
theorem Y9 {B:Nat} {v:Value} {s:List Value} (h:w.ownsRow B 24 1 v n (x::xs)) (l:w.ownsRow B' 24 1 v' n' (x'::s)) (q:x≠x'):∀g,v'.ownBlock=some g ->v.ownBlock≠some g:=fun g b i=>by
 rcases h.2 with ⟨d,_⟩ |⟨r,cap,c,d,_,m,_,_,_,o⟩
 ·rw[d] at i;cases i
 ·rcases l.2 with ⟨k,_⟩ |⟨t,u,y,k,_,f,_,_,_,p⟩
  ·rw[k] at b;cases b
  ·rw[d] at i;rw[k] at b;cases b;cases i;rw[m] at f;cases f
   have j:c.toList[0]? =some x:=by
    (have:(c.toList.take (n*1))[0]? =some x:=by rw[o];rfl);rw[pI] at this;by_cases a:0<n*1
    ·rwa [aA a] at this
    ·rw[aD a] at this;cases this
   have e:c.toList[0]? =some x':=by
    (have:(c.toList.take (n'*1))[0]? =some x':=by rw[p];rfl);rw[pI] at this;by_cases a:0<n'*1
    ·rwa [aA a] at this
    ·rw[aD a] at this;cases this
   rw[j] at e;cases e;exact q rfl
structure uG (w:World) (gB:Nat) (x y z:Value) (l:List Fr) (P1 P2:List PR) (U:World):Prop where
 bx:b6 U gB x y z
 rb:b6 U w.heap.size (.slice none 0 0) (.slice none 0 0) (.slice none 0 0)
 st:cH U w.heap.size x l
 mv:kW U w.heap.size y P1
 sh:kW U w.heap.size z P2
 gb:w.heap.size<gB
 bel:ef w U
theorem uG.step {gB:Nat} {P:List PR} (h:uG w gB x y z l P1 P U) (b:ef U U'):uG w gB x y z l P1 P U':=
 ⟨h.bx.aa b h.bx.lt,h.rb.aa b h.rb.lt,h.st.aa b,h.mv.keep (aL.aa b) (aL.aa b),h.sh.keep (aL.aa b) (aL.aa b),h.gb,h.bel.trans (b.af h.bel.size)⟩
theorem kW.other {B:Nat} {P:List PR} (h:kW w B z P) (i:w.grownBy w' y.ownBlock) (k:aL 42 w w') (f:∀g,z.ownBlock=some g ->y.ownBlock≠some g):kW w' B z P:=by
 refine⟨⟨h.1.1,?_⟩,fun p j=>fJ (h.2 p j) k⟩;rcases h.1.2 with a |⟨g,cap,r,a,c,b,d⟩
 ·exact .inl a
 ·exact .inr ⟨g,cap,r,a,c,(i.block g (cJ.1 b).1 (fun e=>f g (by rw[a];rfl) e.symm)).trans b,d⟩
theorem uG.pushM {gB:Nat} {P:List PR} (h:uG w gB x y z l P1 P U) {q:Value} (i:U'.ownsRow w.heap.size 24 1 v' (P1.length+1) (P1.map (·.1)++[q])) (b:U.grownBy U' y.ownBlock) (f:cH U w.heap.size q r) (d:∀g,z.ownBlock=some g ->y.ownBlock≠some g):
  b6 U' gB x y z/\uG w gB x v' z l (P1++[(q,r)]) P (U'.setCell ⟨gB,1,none⟩ v'):=by
 have k:∀t:TypeId,t≠24 ->aL t U U':=fun t e=>aL.grown b (qI h.mv.1) e;have E:b6 U' gB x y z:=k 27 bd _ _ _ h.bx;have s:∀t:TypeId,t≠27 ->aL t U' (U'.setCell ⟨gB,1,none⟩ v'):=fun t e=>aL.set E e 1 v';have j:=h.gb;refine⟨E,E.set1 v',?_,?_,⟨?_,?_⟩,?_,h.gb,?_⟩
 ·exact(fQ U' ⟨gB,1,none⟩ v' w.heap.size (by show w.heap.size≠gB;omega)).trans (k 27 bd _ _ _ h.rb)
 ·exact fJ h.st ((k 42 bd).trans (s 42 bd))
 ·rw[eP,bK];exact fJ i (s 24 bd)
 ·intro p a;have c:=(k 42 bd).trans (s 42 bd);rcases ck.1 a with a |a
  ·exact fJ (h.mv.2 p a) c
  ·rw[dT.1 a];exact fJ f c
 ·exact(h.sh.other b (k 42 bd) d).keep (s 24 bd) (s 42 bd)
 ·exact(abG h.bel h.mv.1 b).setCell (p:=⟨gB,1,none⟩) (by show w.heap.size<=gB;omega) _
theorem uG.pushS {gB:Nat} {P:List PR} (h:uG w gB x y z l P1 P U) {q:Value} (i:U'.ownsRow w.heap.size 24 1 v' (P.length+1) (P.map (·.1)++[q])) (b:U.grownBy U' z.ownBlock) (f:cH U w.heap.size q r) (d:∀g,y.ownBlock=some g ->z.ownBlock≠some g):
  b6 U' gB x y z/\uG w gB x y v' l P1 (P++[(q,r)]) (U'.setCell ⟨gB,2,none⟩ v'):=by
 have k:∀t:TypeId,t≠24 ->aL t U U':=fun t e=>aL.grown b (qI h.sh.1) e;have E:b6 U' gB x y z:=k 27 bd _ _ _ h.bx;have s:∀t:TypeId,t≠27 ->aL t U' (U'.setCell ⟨gB,2,none⟩ v'):=fun t e=>aL.set E e 2 v';have j:=h.gb;refine⟨E,E.set2 v',?_,?_,?_,⟨?_,?_⟩,h.gb,?_⟩
 ·exact(fQ U' ⟨gB,2,none⟩ v' w.heap.size (by show w.heap.size≠gB;omega)).trans (k 27 bd _ _ _ h.rb)
 ·exact fJ h.st ((k 42 bd).trans (s 42 bd))
 ·exact(h.mv.other b (k 42 bd) d).keep (s 24 bd) (s 42 bd)
 ·rw[eP,bK];exact fJ i (s 24 bd)
 ·intro p a;have c:=(k 42 bd).trans (s 42 bd);rcases ck.1 a with a |a
  ·exact fJ (h.sh.2 p a) c
  ·rw[dT.1 a];exact fJ f c
 ·exact(abG h.bel h.sh.1 b).setCell (p:=⟨gB,2,none⟩) (by show w.heap.size<=gB;omega) _
def Hd (y z:Value) (P1 P2:List PR):Prop:=(P1=[]/\P2=[]/\y=.slice none 0 0/\z=.slice none 0 0)∨∃p Q1 q Q2,P1=p::Q1/\P2=q::Q2/\p.1≠q.1
theorem Hd.first {gB:Nat} {P:List PR} (h:uG w gB x y z l P1 P U) (d:Hd y z P1 P):∀g,z.ownBlock=some g ->y.ownBlock≠some g:=by
 rcases d with ⟨_,_,_,rfl⟩ |⟨p,Q,q,Q2,rfl,rfl,e⟩
 ·intro g a;cases a
 ·exact Y9 h.mv.1 h.sh.1 e
theorem Hd.second {gB:Nat} {c:Value} {P:List PR} {a b:PR} (h:uG w gB x c z l (P1++[a]) P U) (j:Hd y z P1 P):(∀g,c.ownBlock=some g ->z.ownBlock≠some g)/\(a.1≠b.1 ->∀d,Hd c d (P1++[a]) (P++[b])):=by
 rcases j with ⟨rfl,rfl,_,rfl⟩ |⟨p,Q,q,Q2,rfl,rfl,e⟩
 ·refine⟨fun g _ k=>(by cases k),fun m d=>.inr ⟨a,[],b,[],rfl,rfl,m⟩⟩
 ·refine⟨fun g f i=>Y9 h.mv.1 h.sh.1 e g i f,fun _ d=>.inr ⟨p,Q++[a],q,Q2++[b],rfl,rfl,e⟩⟩
def C0 (i k:Nat) (P:List PR):Prop:=P.length=i/\∀p∈P,∃Ls,p.2=jD Ls/\AR Ls k/\1<=Ls.sum
theorem C0.push {P:List PR} (h:C0 i k P) (q:Value) (h1:AR Ls k) (b:1<=Ls.sum):C0 (i+1) k (P++[(q,jD Ls)]):=by
 refine⟨by rw[bK,h.1];rfl,fun p a=>?_⟩;rcases ck.1 a with a |a
 ·exact h.2 p a
 ·rw[dT.1 a];exact⟨Ls,rfl,h1,b⟩
theorem cH.apart {B:Nat} {v:Value} {l':List Fr} (h:cH w B v l) (c:cH w B' v' l') (h1:1<=l.length) (i:1<=l'.length) (d:∀g,v.ownBlock=some g ->g<B'):v≠v':=fun e=>by
 subst e;rcases h.2 with ⟨_,k⟩ |⟨g,cap,r,a,_⟩
 ·omega
 ·have j:=d g (by rw[a];rfl)
  have m:B'<=g:=by
   rcases c.2 with ⟨_,k⟩ |⟨g',p,u,b,f,_⟩
   ·omega
   ·rw[a] at b;injection b with e3 _ _;injection e3 with e4;injection e4 with e5 _ _;rw[e5];exact f
  omega
theorem ajI (d:Option Addr) (cd n m:Nat) (W:List Int) (w:World) (hW:aJ w d W) (hr:∀x∈W, -9223372036854775808<=x/\x<=9223372036854775807) (aT:W.length<=140737488355328) (cK:1<=n) (hn:n<=4) (bc:1<=m) (hm:m<=4):
  du 5 #[.slice d W.length cd,.int .i64 (n:Nat),.int .i64 (m:Nat)] w fun e w'=>∃(x y z:Value) (Ls:List Nat) (P1 P:List PR),e=.returned (.agg #[x,y,z])/\AR Ls n/\1<=Ls.sum/\cH w' w.heap.size x (jD Ls)/\kW w' w.heap.size y P1/\kW w' w.heap.size z P/\C0 n n P1/\C0 n m P/\ef w w':=by
 have E3:=hid (fun (k:Nat) (hk:k<=100000) (j:Nat) (h1:1<=j) (h4:j<=4) (U:World) (hU:aJ U d W)=>afR d cd k j W U hU hr hk h1 al aT);have HW:=hid hW;clear hW hr;have sS:=b6.new w (.slice none 0 0) (.slice none 0 0) (.slice none 0 0);have S:=(au w.heap.size w).alloc (aq _) (dX (.slice none 0 0) (.slice none 0 0) (.slice none 0 0));go_enter Tryz.func5,Tryz.ntmps5;go_wp2_with fail
 generalize (w.alloc (dX (.slice none 0 0) (.slice none 0 0) (.slice none 0 0)))=w0 at *;refine(E3.o 0 al n cK hn _ (HW.o.aa S)).af ?_;rintro e D ⟨x,Ls,rfl,hx,aC,az,ae⟩;obtain⟨f,l,a,rfl⟩:=hx.slv;have xT:=hid aC;have j8:=hid az;have qU:=S.trans (ae.af S.size);have Z:=sS.aa ae sS.lt;have a1:w.heap.size<D.heap.size:=Z.lt
 have eo:Hid (uG w D.heap.size (.slice f l a) (.slice none 0 0) (.slice none 0 0) (jD Ls) [] [] (D.alloc (dX (.slice f l a) (.slice none 0 0) (.slice none 0 0)))):=by
  have ai:=(au D.heap.size D).alloc (aq _) (dX (.slice f l a) (.slice none 0 0) (.slice none 0 0));exact⟨b6.new D _ _ _,Z.aa ai Z.lt,(hx.lower S.size).aa ai,kW.nil _ _,kW.nil _ _,a1,qU.trans (ai.af qU.size)⟩
 clear hx aC az ae S sS qU Z;go_wp2_with fail
 generalize (D.alloc (dX (.slice f l a) (.slice none 0 0) (.slice none 0 0)))=w2 at *;generalize D.heap.size=gB at *;go_loopw [8] (fun iv wr=>∃i:Nat,i<=n/\iv=.int .i64 i/\∃(y z:Value) (P1 P:List PR),Hid (uG w gB (.slice f l a) y z (jD Ls) P1 P wr)/\Hid (Hd y z P1 P)/\Hid (C0 i n P1)/\Hid (C0 i m P)) (fun iv _=>n - (intOf iv).toNat)
 case atStart=>exact⟨0,aV _,rfl,.slice none 0 0,.slice none 0 0,[],[],eo,.inl ⟨rfl,rfl,rfl,rfl⟩,⟨rfl,fun p hp=>by cases hp⟩,⟨rfl,fun p hp=>by cases hp⟩⟩
 case round=>
  obtain⟨i,hi,rfl,y,z,P1,P,H,HD,eO,H9⟩:=hrel;clear eo;by_cases bk:i<n
  ·obtain⟨J,L,I,rfl⟩:cV y:=by
    obtain⟨E,F,K,_⟩:=jm H.o.mv.1;exact⟨E,_,F,K⟩
   obtain⟨O,R,M,rfl⟩:cV z:=by
    obtain⟨E,F,K,_⟩:=jm H.o.sh.1;exact⟨E,_,F,K⟩
   obtain⟨k1,G4⟩:∃k1,k1=3+i*n:=⟨_,rfl⟩;obtain⟨k2,bh⟩:∃k2,k2=7+i*m:=⟨_,rfl⟩;have bg:i*n<=16:=aR (iO (by omega:i<=4) hn) bd;have bf:i*m<=16:=aR (iO (by omega:i<=4) hm) bd;(have ao:(i:Int)*(n:Int)=((i*n:Nat):Int):=by push_cast;rfl);(have an:(i:Int)*(m:Int)=((i*m:Nat):Int):=by push_cast;rfl);(have bl:IntKind.i64.wrap ((i:Int)*(n:Int))=((i*n:Nat):Int):=by rw[ao,fj];omega);(have bm:IntKind.i64.wrap ((i:Int)*(m:Int))=((i*m:Nat):Int):=by rw[an,fj];omega);(have ru:Hid ((3:Int)+((i*n:Nat):Int)=(k1:Int)):=by show _=_;omega);(have rq:Hid ((7:Int)+((i*m:Nat):Int)=(k2:Int)):=by show _=_;omega);have Dk:=hid eO.o.1;have k6:=hid H9.o.1;generalize i*n=bp at *;generalize i*m=bo at *;clear ao an;go_wp2_with fail
   rw[ru.o];refine(E3.o k1 al n cK hn _ (HW.o.aa H.o.bel)).af ?_;rintro e w3 ⟨xa,La,rfl,ui,Gz,N8,av⟩;obtain⟨s,t,ca,rfl⟩:=ui.slv;have ak:w.heap.size<=wr.heap.size:=H.o.bel.size;replace H:=hid (H.o.step av);have v:=hid (ui.lower ak);have Px:=hid Gz;have oI:=hid N8;have Ox:w.heap.size<=w3.heap.size:=H.o.bel.size;clear av ui Gz N8 ak;go_wp2_with fail
   rw[rq.o];refine(E3.o k2 al m bc hm _ (HW.o.aa H.o.bel)).af ?_;rintro e q ⟨xb,Lb,rfl,ad,Gy,GL,ab⟩;obtain⟨r,nb,cb,rfl⟩:=ad.slv
   have yg:Hid ((Value.slice s t ca)≠.slice r nb cb):=(v.o.aa ab).apart ad (by rw[Jw,Px.o.len];omega) (by rw[Jw,Gy.len];omega) (fun g hg=>by
    obtain⟨c,fr,h⟩:=qI v.o g hg;exact(cJ.1 h).1)
   have Y:=hid (ad.lower Ox);have Lp:=hid Gy;have si:=hid GL;replace H:=hid (H.o.step ab);replace v:=hid (v.o.aa ab);clear ab ad Gy GL Ox;obtain⟨e0,e1,e2⟩:=H.o.bx.cells;have A:=(au q.heap.size q).alloc (aq _) (.cells #[.slice s t ca] 24);have T:(q.alloc (.cells #[.slice s t ca] 24)).heap[q.heap.size]? =some (.cells #[.slice s t ca] 24 (0,0)):=dB q _
   have wm:Hid ((q.alloc (.cells #[.slice s t ca] 24)).cell? ⟨q.heap.size,0,none⟩=some (.slice s t ca)):=by
    show _=_;rw[bG _ _ _ _ _ (0,0) T];rfl
   replace H:=hid (H.o.step A);replace v:=hid (v.o.aa A);replace Y:=hid (Y.o.aa A);have wu:Hid (w.heap.size<=(q.alloc (.cells #[.slice s t ca] 24)).heap.size):=H.o.bel.size;(have aS:Hid (q.heap.size<(q.alloc (.cells #[.slice s t ca] 24)).heap.size):=by show _<_;simp);clear A T;go_upto_region 8 with (at_builtin;refine W7 rfl _ _ rfl w.heap.size (.slice J L I) P1 (.slice s t ca) ⟨_,_,_,rfl⟩ rfl H.o.mv.1 q.heap.size rfl wm.o (by rw[Dk.o];omega) wu.o ?_;intro v5 w5 rO vA;obtain⟨a5,c5,rfl, -⟩:=jm rO;obtain⟨V,ax⟩:=H.o.pushM rO vA v.o (Hd.first H.o HD.o);obtain⟨q0,q1,q2⟩:=V.cells;have qf:=V.fz 1;have X:=hid ax;have dI:Hid (cH (w5.setCell ⟨gB,1,none⟩ (.slice a5 (P1.length+1) c5)) w.heap.size (.slice r nb cb) (jD Lb)):=fJ Y.o ((aL.grown vA (qI H.o.mv.1) bd).trans (aL.set V bd 1 _)))
   clear e0 e1 e2 q0 q1 q2 qf V ax rO vA wm wu aS v Y H;generalize (w5.setCell ⟨gB,1,none⟩ (.slice a5 (P1.length+1) c5))=u at *;obtain⟨G8,td⟩:=Hd.second (b:=(.slice r nb cb,jD Lb)) X.o HD.o;have Wu:=hid (td yg.o);have aE:=hid G8;obtain⟨e0,e1,e2⟩:=X.o.bx.cells;have A:=(au u.heap.size u).alloc (aq _) (.cells #[.slice r nb cb] 24);have T:(u.alloc (.cells #[.slice r nb cb] 24)).heap[u.heap.size]? =some (.cells #[.slice r nb cb] 24 (0,0)):=dB u _
   have wm:Hid ((u.alloc (.cells #[.slice r nb cb] 24)).cell? ⟨u.heap.size,0,none⟩=some (.slice r nb cb)):=by
    show _=_;rw[bG _ _ _ _ _ (0,0) T];rfl
   have VX:=hid (X.o.step A);replace dI:=hid (dI.o.aa A);have wu:Hid (w.heap.size<=(u.alloc (.cells #[.slice r nb cb] 24)).heap.size):=VX.o.bel.size;clear A T G8 td X HD;go_wp2_with (at_builtin;refine W7 rfl _ _ rfl w.heap.size (.slice O R M) P (.slice r nb cb) ⟨_,_,_,rfl⟩ rfl VX.o.sh.1 u.heap.size rfl wm.o (by rw[k6.o];omega) wu.o ?_;intro v7 w7 ay a6;obtain⟨a7,c7,rfl, -⟩:=jm ay;obtain⟨aj,bb⟩:=VX.o.pushS ay a6 dI.o aE.o;obtain⟨q0,q1,q2⟩:=aj.cells;have qf:=aj.fz 2;have aO:=hid bb)
   go_roundw
   case rel=>exact⟨i+1,al,b5,_,_,_,_,aO,Wu.o _,eO.o.push _ Px.o oI.o,H9.o.push _ Lp.o si.o⟩
   case measure=>simp[intOf];omega
  ·obtain rfl:i=n:=al
   obtain⟨J,L,I,rfl⟩:cV y:=by
    obtain⟨E,F,K,_⟩:=jm H.o.mv.1;exact⟨E,_,F,K⟩
   obtain⟨O,R,M,rfl⟩:cV z:=by
    obtain⟨E,F,K,_⟩:=jm H.o.sh.1;exact⟨E,_,F,K⟩
   obtain⟨e0,e1,e2⟩:=H.o.bx.cells;obtain⟨r0,r1,r2⟩:=H.o.rb.cells;have f0:=H.o.rb.fz 0;have f1:=H.o.rb.fz 1;have f2:=H.o.rb.fz 2;have E2:=hid (H.o.rb.set3 (.slice f l a) (.slice J L I) (.slice O R M))
   have Q:∀tt:TypeId,tt≠27 ->aL tt wr (((wr.setCell ⟨w.heap.size,0,none⟩ (.slice f l a)).setCell ⟨w.heap.size,1,none⟩ (.slice J L I)).setCell ⟨w.heap.size,2,none⟩ (.slice O R M)):=fun tt ah=>by
    have h1:b6 (wr.setCell ⟨w.heap.size,0,none⟩ (.slice f l a)) w.heap.size (.slice f l a) (.slice none 0 0) (.slice none 0 0):=jf wr w.heap.size 0 _ _ _ H.o.rb;exact((aL.set H.o.rb ah 0 _).trans (aL.set h1 ah 1 _)).trans (aL.set (h1.set1 (.slice J L I)) ah 2 _)
   have Dp:Hid (cH (((wr.setCell ⟨w.heap.size,0,none⟩ (.slice f l a)).setCell ⟨w.heap.size,1,none⟩ (.slice J L I)).setCell ⟨w.heap.size,2,none⟩ (.slice O R M)) w.heap.size (.slice f l a) (jD Ls)):=fJ H.o.st (Q _ bd);have Ql:=hid (H.o.mv.keep (Q 24 bd) (Q 42 bd));have Qk:=hid (H.o.sh.keep (Q 24 bd) (Q 42 bd));have Dn:=hid (((H.o.bel.setCell (p:=⟨w.heap.size,0,none⟩) (aq _) (.slice f l a)).setCell (p:=⟨w.heap.size,1,none⟩) (aq _) (.slice J L I)).setCell (p:=⟨w.heap.size,2,none⟩) (aq _) (.slice O R M));clear Q H;go_wp2;refine cj (E2.o.result rfl _ rfl) rfl ?_;exact⟨_,_,_,Ls,P1,P,rfl,xT.o,j8.o,Dp.o,Ql.o,Qk.o,eO.o,H9.o,Dn.o⟩
def C1 (k:Nat) (r:List Fr):Prop:=r.length=k/\dt r=true/\∀f∈r,f.2.1.size+f.2.2.size<=2
theorem YH {L:List Nat} (a:k<=3) (h:AR L k) (h1:1<=L.sum):C1 k (jD L):=⟨by rw[Jw];exact h.len,af6 h1,af5 h.six (by rw[h.len];exact a) h1⟩
theorem Ng {P:List PR} (b:k<=3) (h:C0 n k P):(jE P).length=n/\∀r∈jE P,C1 k r:=by
 refine⟨by rw[jE,dM];exact h.1,fun r d=>?_⟩;obtain⟨p,c,rfl⟩:=ba.1 d;obtain⟨L,e,a,x⟩:=h.2 p c;rw[e];exact YH b a x
structure r6 (n m:Nat) (l:List Fr) (R1 R2:List (List Fr)):Prop where
 n1:1<=n
 n3:n<=3
 m1:1<=m
 m3:m<=3
 row:C1 n l
 len1:R1.length=n
 len2:R2.length=n
 r1:∀r∈R1,C1 n r
 r2:∀r∈R2,C1 m r
section
variable {n m : Nat} {l : List Fr} {R1 R2 : List (List Fr)}
theorem C1.fw (h:C1 k r) (d:k<=3):Go.Proofs.YtdmdhjmcoijpaaaGreatDoor.fw r<=12:=by
 have a:=Uu h.2.2;have b:=h.1;have c:(2+2)*r.length<=(2+2)*3:=jg _ al;omega
theorem Rc:∀ {l:List Fr},(∀f∈l,f.2.1.size+f.2.2.size<=k) ->sw l<=k*l.length
 |[],_=>aq _
 |f::l,h=>by
  have b:=h f dp;have c:=Rc (l:=l) fun g a=>h g (dF _ a);rw[sw,ew,kH,kF];omega
theorem Uz:∀ {R:List (List Fr)},(∀r∈R,C1 k r) ->sw R.flatten<=2*k*R.length
 |[],_=>aq _
 |r::R,h=>by
  have a:=h r dp;have d:=Uz (R:=R) fun g c=>h g (dF _ c);have b:=Rc a.2.2;rw[a.1] at b;rw[List.flatten_cons,Re,ew,kH,kF];omega
theorem r6.head (h:r6 n m l R1 R2):(R2.headD []).length=m:=by
 have a:0<R2.length:=by rw[h.len2];exact h.n1
 rw[Ex a];exact(h.r2 _ (bF a)).1
theorem r6.err (h:r6 n m l R1 R2):C2 l R1 R2 0:=by
 have b:=h.row.1;have c:=h.head;have d:=h.n1;have e:=h.n3;have f:=h.m1;have g:=h.m3;refine .inl ⟨rfl,⟨al,al,by rw[b];exact h.len1,by rw[b];exact h.len2,al,al,fun r a=>by rw[b];exact(h.r1 r a).1,fun r a=>by rw[c];exact(h.r2 r a).1⟩,h.row.2.1,fun r a=>(h.r1 r a).2.1,fun r a=>(h.r2 r a).2.1⟩
theorem r6.sizes (h:r6 n m l R1 R2):Pr l R1 R2:=by
 have b:=h.len1;have c:=h.len2;have d:=h.n3;have e:=h.m3;have f:=h.row.1;refine⟨al,al,al,fun r a=>?_,fun r a=>?_,?_,fun r a=>?_,fun r a=>?_⟩
 ·have:=(h.r1 r a).1;omega
 ·have:=(h.r2 r a).1;omega
 ·have:=h.row.fw h.n3;omega
 ·have:=(h.r1 r a).fw h.n3;omega
 ·have:=(h.r2 r a).fw h.m3;omega
theorem r6.vals (h:r6 n m l R1 R2) {Q:List Nat} (i:Q.length<=4) (q:∀x∈Q,x<m):pj (zk (zm l R1 R2)) (Kl n l R1 R2 Q) m l R1 R2 Q:=by
 refine ajL h.sizes h.row.1 h.head h.err al q ?_;have b:=Rc h.row.2.2;have a:=Uz h.r1;have c:=Uz h.r2;have d:2*n*R1.length<=2*3*3:=iO (jg _ h.n3) (by rw[h.len1];exact h.n3);have e:2*m*R2.length<=2*3*3:=iO (jg _ h.m3) (by rw[h.len2];exact h.n3);have f:=h.row.1;have g:=h.n3;rw[zm,Re,Re];omega
theorem r6.hnk (h:r6 n m l R1 R2) {Q:List Nat} (a:Q.length<=4) (q:∀x∈Q,x<m):jM n m Q.length l R1 R2 (Kl n l R1 R2 Q) (fun t=>Q[t]?.getD 0) (fun i x=>aQ (bD (R2[i]?.getD []) x)):=ajA (h.vals a q).ok q
theorem r6.net (h:r6 n m l R1 R2) (h1:1<=T) (b:T<=4):bH (uV n m T) (uL T) (uR l R1 R2 T)=0:=
 ahR h1 b h.n1 h.n3 h.m1 h.m3 h.row.1 h.row.2.1 h.len1 (fun r a=>⟨(h.r1 r a).1,(h.r1 r a).2.1⟩) h.len2 fun r a=>⟨(h.r2 r a).1,(h.r2 r a).2.1⟩
theorem r6.ni3 (h:r6 n m l R1 R2) (h1:1<=T) (i:T<=4) {b c:Option Addr} (k:lO w a b c (uV n m T) (uL T) (uR l R1 R2 T)) (j:xQ w b (uL T)):vO w a b c (uV n m T) (uL T) (uR l R1 R2 T):=by
 obtain⟨g,e,f⟩:=aev h1 i h.n1 h.n3 h.m1 h.m3 ⟨h.row.1,h.row.2.2⟩ h.len1 (fun r d=>⟨(h.r1 r d).1,(h.r1 r d).2.2⟩) h.len2 fun r d=>⟨(h.r2 r d).1,(h.r2 r d).2.2⟩;exact⟨k,j,g,fun r d=>by have:=(e r d).1;omega,f⟩
end
theorem dQ.result2 (h:dQ w g x y z) {p u:Tmp} (r:fn.results= #[.cell p 33,.tmp u]) (m:Array Value) (a:m.getD p undef=.pointer (some ⟨g,0,none⟩)):
  (results fn m).run Tryz.prog w=.ok (.tuple #[.agg #[x,y,z],m.getD u undef]) w:=by
 rw[results_cell_tmp r,a];simp only[asAddr,Bz,wB];rw[run_loadVar_row w g _ 33 _ _ _ h Tryz.underlying33 rfl ao];simp only[wB]
theorem bP.one (w:World) (x:Int):bP (w.alloc (.cells #[.int .i64 x] 3)) w.heap.size (.slice (some ⟨w.heap.size,0,none⟩) 1 1) [x]:=⟨rfl,.inr ⟨w.heap.size,1,_,rfl,aq _,dB w _,aq _,by unfold maxLen;omega,rfl,rfl⟩⟩
theorem MV (A B:List PV):qE (A++B)=qE A++qE B:=eP
theorem NU (A B:List PL):rL (A++B)=rL A++rL B:=eP
theorem Ni (A B:List PR):jE (A++B)=jE A++jE B:=eP
def am8 (l:List Fr) (R1 R2:List (List Fr)) (T:Nat) (w:World) (e:Ending) (w':World):Prop:=∃(x y z:Value) (Vs:List PV) (Ls:List PL) (Rs:List PR),e=.returned (.tuple #[.agg #[x,y,z],.int .i64 0])/\qE Vs=uV l.length (R2.headD []).length T/\rL Ls=uL T/\jE Rs=uR l R1 R2 T/\vM w' w.heap.size x Vs/\vN w' w.heap.size y Ls/\kW w' w.heap.size z Rs/\ef w w'
variable {ops:Array Oper} {nm:ByteArray} {c:Nat} {md:Region.Mode} {sv:Value}
theorem adW {o:Oper} {a:Act} (s x:Operand)
  (k:o.op=.call {callee:=.builtin .append,args:= #[s,x],argTypes:= #[79,79]}) (base:Nat) (v:Value) (l:List ByteArray) (f:ByteArray) (m:a.eval s=v) (t:pg w base v l) (g:Nat) (n:a.eval x=.slice (some ⟨g,0,none⟩) 1 1) (i:w.cell? ⟨g,0,none⟩=some (.string f)) (A:l.length+1<=100000) (y:base<=w.heap.size)
  (h:∀v' w',pg w' base v' (l++[f]) ->w.grownBy w' v.ownBlock ->K (a.put o.dst v') w'):o.wp Tryz.prog a w K Q:=by
 obtain⟨p,M,z,q,r⟩:=dJ Tryz.infoStr;refine FE _ s x 79 k base 9 p (.string ⟨#[]⟩) 1 16 Tryz.underlying79 M z q r rfl bd v l.length _ m t ⟨g,0,none⟩ 1 1 [.string f] n rfl ?_ ?_ (by unfold maxLen;omega) al y ?_
 ·intro j u b;match j,b with
  |0,b=>cases b;exact i
  |j+1,b=>simp at b
 ·intro u c;simp only[dU,nL,tV] at c;subst c;rfl
 ·intro v' w' d e _;refine h v' w' ?_ e;rw[pg,bK,eP];exact d
theorem WW {o:Oper} {a:Act} (s x:Operand)
  (i:o.op=.call {callee:=.builtin .append,args:= #[s,x],argTypes:= #[31,31]}) (base:Nat) (v:Value) (P:List PL) (q:Value) (k:cV q) (l:a.eval s=v) (t:w.ownsRow base 22 1 v P.length (P.map (·.1))) (g:Nat) (m:a.eval x=.slice (some ⟨g,0,none⟩) 1 1) (f:w.cell? ⟨g,0,none⟩=some q) (A:P.length+1<=100000) (y:base<=w.heap.size)
  (h:∀v' w',w'.ownsRow base 22 1 v' (P.length+1) (P.map (·.1)++[q]) ->w.grownBy w' v.ownBlock ->K (a.put o.dst v') w'):o.wp Tryz.prog a w K Q:=by
 obtain⟨n,M,z,p,r⟩:=dJ Tryz.infoInts;refine FE _ s x 31 i base 22 n (.slice none 0 0) 1 24 Tryz.underlying31 M z p r rfl bd v P.length _ l t ⟨g,0,none⟩ 1 1 [q] m rfl ?_ ?_ (by unfold maxLen;omega) al y ?_
 ·intro j u b;match j,b with
  |0,b=>cases b;exact f
  |j+1,b=>simp at b
 ·intro u c;simp only[dU,nL,tV] at c;subst c;obtain⟨_,_,_,rfl⟩:=k;rfl
 ·intro v' w' d e _;exact h v' w' d e
theorem adY {o:Oper} {a:Act} (s x:Operand)
  (i:o.op=.call {callee:=.builtin .append,args:= #[s,x],argTypes:= #[25,25]}) (base:Nat) (v:Value) (P:List PR) (q:Value) (k:cV q) (l:a.eval s=v) (t:w.ownsRow base 24 1 v P.length (P.map (·.1))) (g:Nat) (m:a.eval x=.slice (some ⟨g,0,none⟩) 1 1) (f:w.cell? ⟨g,0,none⟩=some q) (A:P.length+1<=100000) (y:base<=w.heap.size)
  (h:∀v' w',w'.ownsRow base 24 1 v' (P.length+1) (P.map (·.1)++[q]) ->w.grownBy w' v.ownBlock ->K (a.put o.dst v') w'):o.wp Tryz.prog a w K Q:=by
 obtain⟨n,M,z,p,r⟩:=dJ Tryz.infoFracs;refine FE _ s x 25 i base 24 n (.slice none 0 0) 1 24 Tryz.underlying25 M z p r rfl bd v P.length _ l t ⟨g,0,none⟩ 1 1 [q] m rfl ?_ ?_ (by unfold maxLen;omega) al y ?_
 ·intro j u b;match j,b with
  |0,b=>cases b;exact f
  |j+1,b=>simp at b
 ·intro u c;simp only[dU,nL,tV] at c;subst c;obtain⟨_,_,_,rfl⟩:=k;rfl
 ·intro v' w' d e _;exact h v' w' d e
structure tB (w:World) (nm:ByteArray) (sv:Value) (i:Nat) (U:World):Prop where
 bx:U.heap[w.heap.size]? =some (.cells #[.string nm,sv] 81 (0,0))
 vs:pg U w.heap.size sv (fS i)
 bel:ef w U
theorem tB.step (h:tB w nm sv i U) (b:ef U U'):tB w nm sv i U':=⟨(b.block _ (cJ.1 h.bx).1).trans h.bx,h.vs.step b,h.bel.trans (b.af h.bel.size)⟩
theorem tB.cells (h:tB w nm sv i U):U.cell? ⟨w.heap.size,0,none⟩=some (.string nm)/\U.cell? ⟨w.heap.size,1,none⟩=some sv:=by
 constructor<;>(rw[bG U w.heap.size _ _ _ (0,0) h.bx];rfl)
theorem tB.push {M:Value} (h:tB w nm sv i U) (g:U.grownBy U' sv.ownBlock) (r:pg U' w.heap.size M (fS i++[kM 118 i])):U'.heap[w.heap.size]? =some (.cells #[.string nm,sv] 81 (0,0))/\tB w nm M (i+1) (U'.setCell ⟨w.heap.size,1,none⟩ M):=by
 have a:U'.heap[w.heap.size]? =some (.cells #[.string nm,sv] 81 (0,0)):=aL.grown g (qI h.vs) (show 81≠9 by decide) _ _ _ h.bx;refine⟨a,Cs _ _ 1 _ _ _ a,?_,?_⟩
 ·rw[aeo];exact fJ r (aL.set a (show 9≠81 by decide) 1 M)
 ·exact(h.bel.grown g h.bel.size (fun k e=>h.vs.own k e)).setCell (p:=⟨w.heap.size,1,none⟩) (aq _) _
theorem tB.put {B:Nat} (h:tB w nm sv i U) (r:cH U B (.slice (some ⟨g,0,none⟩) n c) l) (x:w.heap.size<=B) (k:Nat) (f:Fr):tB w nm sv i (((U.setCell ⟨g,k*3,none⟩ (.bool f.1)).setCell ⟨g,k*3+1,none⟩ (.string f.2.1)).setCell ⟨g,k*3+2,none⟩ (.string f.2.2)):=by
 obtain⟨v,d⟩:∃c,U.heap[g]? =some (.cells c 42 (0,0)):=by
  rcases r.2 with ⟨e,_⟩ |⟨g',z,u,e,_,m,_⟩
  ·cases e
  ·injection e with e1 _ _;injection e1 with e1;injection e1 with e1;exact⟨u,by rw[e1];exact m⟩
 have y:B<=g:=RM r g rfl;obtain⟨o,b⟩:∃c,(U.setCell ⟨g,k*3,none⟩ (.bool f.1)).heap[g]? =some (.cells c 42 (0,0)):=⟨_,Cs _ _ _ _ _ _ d⟩;obtain⟨q,j⟩:∃c,((U.setCell ⟨g,k*3,none⟩ (.bool f.1)).setCell ⟨g,k*3+1,none⟩ (.string f.2.1)).heap[g]? =some (.cells c 42 (0,0)):=⟨_,Cs _ _ _ _ _ _ b⟩;have s:∀t:TypeId,t≠42 ->aL t U (((U.setCell ⟨g,k*3,none⟩ (.bool f.1)).setCell ⟨g,k*3+1,none⟩ (.string f.2.1)).setCell ⟨g,k*3+2,none⟩ (.string f.2.2)):=fun t a=>((aL.set d a _ _).trans (aL.set b a _ _)).trans (aL.set j a _ _);refine⟨s _ bd _ _ _ h.bx,fJ h.vs (s _ bd),?_⟩;exact((h.bel.setCell (p:=⟨g,k*3,none⟩) (by show _<=g;omega) _).setCell (p:=⟨g,k*3+1,none⟩) (by show _<=g;omega) _).setCell (p:=⟨g,k*3+2,none⟩) (by show _<=g;omega) _
structure LZ (w W:World) (G:Nat) (s e t x y z:Value) (p1:PV) (p2:PL) (p3:PR) (xv:Value) (Vs:List PV) (yv:Value) (Ls:List PL) (zv:Value) (Rs:List PR):Prop where
 hb:b6 W w.heap.size s e t
 res:dQ W (w.heap.size+1) (.slice none 0 0) (.slice none 0 0) (.slice none 0 0)
 box:dQ W G x y z
 vs:vM W w.heap.size xv Vs
 ls:vN W w.heap.size yv Ls
 rs:kW W w.heap.size zv Rs
 q1:pg W w.heap.size p1.2.1 p1.2.2
 q2:bP W w.heap.size p2.1 p2.2
 q3:cH W w.heap.size p3.1 p3.2
 bel:ef w W
 hG:w.heap.size+2<=G
section
variable {w W W' : World} {G : Nat} {s e t x y z xv yv zv : Value} {p1 : PV} {p2 : PL} {p3 : PR} {Vs : List PV} {Ls : List PL} {Rs : List PR}
theorem LZ.of (h:US w W G s e t x y z Vs Ls Rs) (q:pg W w.heap.size p1.2.1 p1.2.2) (a:bP W w.heap.size p2.1 p2.2) (b:cH W w.heap.size p3.1 p3.2):LZ w W G s e t x y z p1 p2 p3 x Vs y Ls z Rs:=⟨h.hb,h.res,h.box,h.vs,h.ls,h.rs,q,a,b,h.bel,h.hG⟩
theorem LZ.keep (h:LZ w W G s e t x y z p1 p2 p3 xv Vs yv Ls zv Rs) (k:∀a:TypeId,aL a W W') (b:ef w W'):LZ w W' G s e t x y z p1 p2 p3 xv Vs yv Ls zv Rs:=
 ⟨k _ _ _ _ h.hb,k _ _ _ _ h.res,k _ _ _ _ h.box,h.vs.keep (k _) (k _),h.ls.keep (k _) (k _),h.rs.keep (k _) (k _),fJ h.q1 (k _),fJ h.q2 (k _),fJ h.q3 (k _),b,h.hG⟩
theorem LZ.step (h:LZ w W G s e t x y z p1 p2 p3 xv Vs yv Ls zv Rs) (b:ef W W'):LZ w W' G s e t x y z p1 p2 p3 xv Vs yv Ls zv Rs:=h.keep (fun _=>.aa b) (h.bel.trans (b.af h.bel.size))
theorem LZ.pushV (h:LZ w W G s e t x y z p1 p2 p3 xv Vs yv Ls zv Rs) (r:W'.ownsRow w.heap.size 81 2 v' (Vs.length+1) (vC Vs++[.string p1.1,p1.2.1])) (g:W.grownBy W' xv.ownBlock):LZ w W' G s e t x y z p1 p2 p3 v' (Vs++[p1]) yv Ls zv Rs:=by
 have k:∀b:TypeId,b≠81 ->aL b W W':=fun b n=>aL.grown g (qI h.vs.1) n;refine⟨k _ bd _ _ _ h.hb,k _ bd _ _ _ h.res,k _ bd _ _ _ h.box,⟨?_,?_⟩,h.ls.keep (k _ bd) (k _ bd),h.rs.keep (k _ bd) (k _ bd),fJ h.q1 (k _ bd),fJ h.q2 (k _ bd),fJ h.q3 (k _ bd),Sq h.bel h.vs.1 g,h.hG⟩
 ·rw[Xg,bK];exact r
 ·intro p a;rcases ck.1 a with a |a
  ·exact fJ (h.vs.2 p a) (k _ bd)
  ·rw[dT.1 a];exact fJ h.q1 (k _ bd)
theorem LZ.pushL (h:LZ w W G s e t x y z p1 p2 p3 xv Vs yv Ls zv Rs) (r:W'.ownsRow w.heap.size 22 1 v' (Ls.length+1) (Ls.map (·.1)++[p2.1])) (g:W.grownBy W' yv.ownBlock):LZ w W' G s e t x y z p1 p2 p3 xv Vs v' (Ls++[p2]) zv Rs:=by
 have k:∀b:TypeId,b≠22 ->aL b W W':=fun b n=>aL.grown g (qI h.ls.1) n;refine⟨k _ bd _ _ _ h.hb,k _ bd _ _ _ h.res,k _ bd _ _ _ h.box,h.vs.keep (k _ bd) (k _ bd),⟨?_,?_⟩,h.rs.keep (k _ bd) (k _ bd),fJ h.q1 (k _ bd),fJ h.q2 (k _ bd),fJ h.q3 (k _ bd),Sq h.bel h.ls.1 g,h.hG⟩
 ·rw[eP,bK];exact r
 ·intro p a;rcases ck.1 a with a |a
  ·exact fJ (h.ls.2 p a) (k _ bd)
  ·rw[dT.1 a];exact fJ h.q2 (k _ bd)
theorem LZ.pushR (h:LZ w W G s e t x y z p1 p2 p3 xv Vs yv Ls zv Rs) (r:W'.ownsRow w.heap.size 24 1 v' (Rs.length+1) (Rs.map (·.1)++[p3.1])) (g:W.grownBy W' zv.ownBlock):LZ w W' G s e t x y z p1 p2 p3 xv Vs yv Ls v' (Rs++[p3]):=by
 have k:∀b:TypeId,b≠24 ->aL b W W':=fun b n=>aL.grown g (qI h.rs.1) n;refine⟨k _ bd _ _ _ h.hb,k _ bd _ _ _ h.res,k _ bd _ _ _ h.box,h.vs.keep (k _ bd) (k _ bd),h.ls.keep (k _ bd) (k _ bd),⟨?_,?_⟩,fJ h.q1 (k _ bd),fJ h.q2 (k _ bd),fJ h.q3 (k _ bd),Sq h.bel h.rs.1 g,h.hG⟩
 ·rw[eP,bK];exact r
 ·intro p a;rcases ck.1 a with a |a
  ·exact fJ (h.rs.2 p a) (k _ bd)
  ·rw[dT.1 a];exact fJ h.q3 (k _ bd)
theorem LZ.o (h:LZ w W G s e t x y z p1 p2 p3 xv Vs yv Ls zv Rs):dQ (W.setCell ⟨G,0,none⟩ xv) G xv y z/\dQ ((W.setCell ⟨G,0,none⟩ xv).setCell ⟨G,1,none⟩ yv) G xv yv z/\US w (((W.setCell ⟨G,0,none⟩ xv).setCell ⟨G,1,none⟩ yv).setCell ⟨G,2,none⟩ zv) G s e t xv yv zv Vs Ls Rs:=by
 have a:=h.box.set0 xv;have b:=a.set1 yv;have d:=b.set2 zv;have k:∀c:TypeId,c≠33 ->aL c W (((W.setCell ⟨G,0,none⟩ xv).setCell ⟨G,1,none⟩ yv).setCell ⟨G,2,none⟩ zv):=fun c n=>((aL.set h.box n 0 xv).trans (aL.set a n 1 yv)).trans (aL.set b n 2 zv);have f:=h.hG;have n:w.heap.size+1≠G:=al
 refine⟨a,b,k _ bd _ _ _ h.hb,?_,d,h.vs.keep (k _ bd) (k _ bd),h.ls.keep (k _ bd) (k _ bd),h.rs.keep (k _ bd) (k _ bd),?_,h.hG⟩
 ·exact(fQ _ ⟨G,2,none⟩ zv (w.heap.size+1) n).trans ((fQ _ ⟨G,1,none⟩ yv (w.heap.size+1) n).trans ((fQ W ⟨G,0,none⟩ xv (w.heap.size+1) n).trans h.res))
 ·exact((h.bel.setCell (p:=⟨G,0,none⟩) (by show _<=G;omega) _).setCell (p:=⟨G,1,none⟩) (by show _<=G;omega) _).setCell (p:=⟨G,2,none⟩) (by show _<=G;omega) _
end
theorem rE {P:Program} {S:Bool ->World ->Prop} {l:Array Bool} {a:Act} (T:(Nat ->Array Bool ->Act ->World ->Prop) ->Act ->Prop) (h1:T (nS P md ops Q S k) a) (h:T (nS P md ops Q S k) a ->nS P md ops Q S k n l a w):nS P md ops Q S k n l a w:=h h1
theorem kq {P:Program} {S:Bool ->World ->Prop} {l l':Array Bool} {a b:Act} (d:l=l') (c:a=b) (h:nS P md ops Q S k n l' b w):nS P md ops Q S k n l a w:=by subst d c;exact h
def Pq (w0:World) (G:Nat) (s e0 t:Value) (nm:ByteArray) (m:Nat) (pv:Value) (ps:List Int) (X:List Fr) (Vs:List PV) (Ls:List PL) (Rs:List PR) (e:Ending) (w':World):Prop:=e=.returned (.tuple #[])/\∃(x y z:Value) (p1:PV) (p3:PR),(p1.1,p1.2.2)=(nm,fS m)/\p3.2=X/\US w0 w' G s e0 t x y z (Vs++[p1]) (Ls++[(pv,ps)]) (Rs++[p3])
theorem Sx (w0:World) (G:Nat) (s e0 t x y z:Value) (Vs:List PV) (Ls:List PL) (Rs:List PR) (nm:ByteArray) (Q:Option Addr) (S P:Nat) (ps:List Int) (a:Option Addr) (ca nr m:Nat) (R:List (List Fr)) (w:World) (F:US w0 w G s e0 t x y z Vs Ls Rs) (hp:bP w w0.heap.size (.slice Q S P) ps) (hR:gD w a R) (hk:adO R) (h1:∀r∈R,1<=r.length) (S5:R.length=nr) (cK:1<=nr) (hm:(R.headD []).length=m) (hV:Vs.length<=100) (hL:Ls.length<=100) (b0:Rs.length<=100):
  du 15 #[.pointer (some ⟨G,0,none⟩),.string nm,.slice Q S P,.slice a nr ca] w fun e w'=>Pq w0 G s e0 t nm m (.slice Q S P) ps (fC R) Vs Ls Rs e w':=by
 have C9:=hid F;have Ia:=hid hp;have zD:=hid (fun (i:Nat) (hi:i<10) (U:World)=>ZB 118 i hi U)
 have oO:Hid (∀U:World,ef w U ->du 39 #[.slice a nr ca] U fun e w'=>∃v,e=.returned v/\cH w' U.heap.size v (i6 R)/\ef U w'):=fun U F=>by
  have h9:=afp a ca R U (hR.aa F) hk h1;rw[S5] at h9;exact h9
 have PC:Hid (∀U:World,ef w U ->∃g ai b c,a=some ⟨g,ai,none⟩/\g<U.heap.size/\U.cell? ⟨g,ai,none⟩=some (.slice b m c)):=fun U F=>by
  obtain⟨g,ai,b,c,e1,e2,e3,_⟩:=(hR.aa F).raw' (i:=0) al;exact⟨g,ai,b,c,e1,e2,by rw[<- hm,Ex al];simpa using e3⟩
 have b8:m<=4:=by rw[<- hm,Ex al];exact hk.r _ (bF _)
 have ay:Hid (iK (i6 R)=fC R):=al5 R
 have jc:Hid (∀f∈i6 R,f.2.1.size+f.2.2.size<=100000):=fun f hf=>by
  obtain⟨r,hr,b1⟩:=List.mem_flatten.1 hf;have h8:=Hk b1;have h9:=hk.f r hr;omega
 have bo:(i6 R).length<=16:=by
  have h9:=abO hk.r;have:=hk.l;omega
 have aT:1<=(i6 R).length:=by
  cases R with
  |nil=>rw[<- S5] at cK;exact absurd cK bd
  |cons r R'=>have h9:=h1 r dp;simp[i6];omega
 have x7:Hid (Vs.length+1<=100000):=by show _<=_;omega
 have pE:Hid (Ls.length+1<=100000):=by show _<=_;omega
 have bu:Hid (Rs.length+1<=100000):=by show _<=_;omega
 obtain⟨XR,bm⟩:∃X,fC R=X:=⟨_,rfl⟩;obtain⟨FT,bh⟩:∃X,i6 R=X:=⟨_,rfl⟩;simp only[bm,bh] at ay jc oO bo aT⊢;obtain⟨dx,cx,N1, -⟩:=jm C9.o.vs.1;obtain⟨nx,bp⟩:∃k,Vs.length=k:=⟨_,rfl⟩;rw[bp] at N1;subst N1;obtain⟨dy,cy,NZ, -⟩:=jm C9.o.ls.1;obtain⟨ny,S4⟩:∃k,Ls.length=k:=⟨_,rfl⟩;rw[S4] at NZ;subst NZ;obtain⟨dz,cz,NX, -⟩:=jm C9.o.rs.1;obtain⟨nz,br⟩:∃k,Rs.length=k:=⟨_,rfl⟩;rw[br] at NX;subst NX;clear F hp hR hk h1 S5 hm bm bh bp S4 br hV hL b0;have tF:Hid (tB w nm (.slice none 0 0) 0 (w.alloc (.cells #[.string nm,.slice none 0 0] 81))):=⟨dB w _,pg.empty _ _,(au _ w).alloc (aq _) _⟩;obtain⟨g,ai,b,c,rfl,hg,ad⟩:=PC.o _ tF.o.bel;clear PC;go_enter Tryz.func15,Tryz.ntmps15;go_wp2_with fail
 clear ad hg;generalize (w.alloc (.cells #[.string nm,.slice none 0 0] 81))=w1 at *;go_loopw [19] (fun iv wr=>∃(i:Nat) (o:Option Addr) (n:Nat),i<=m/\iv=.int .i64 i/\Hid (tB w nm (.slice o i n) i wr)) (fun iv _=>m - (intOf iv).toNat)
 case atStart=>exact⟨0,none,0,aV _,rfl,tF⟩
 case round=>
  clear tF;obtain⟨i,o,n,hi,rfl,HV⟩:=hrel;by_cases b7:i<m
  ·go_upto_region 4 with fail
   replace HV:=hid (HV.o.step (au _ _).drew);refine QO 7 (fun (b':Bool) (u:World)=>b'=false ->u.cell? ⟨w.heap.size,1,none⟩=some (.slice o i n)) ao (fun _=>HV.o.cells.2) (fun ak=>?_);generalize wr.drew=u0 at *;refine gF (i:=0) (oi:=_) (v:=.pointer (some ⟨w.heap.size,1,none⟩)) (b:=false) rfl ao ao ao bd (fun _ _ _ h=>h) (Or.inl ⟨by rfl,?_⟩) ao dj ?_
   ·intro u' aO;go_simp
   (try simp only[gE,aP]);refine FU (i:=1) (oi:=_) (v:=.slice o i n) rfl ao ao ao bd rfl ao (fun _ _ _ h=>h) (Or.inl ⟨by rfl,?_⟩) ao dj ?_
   ·intro u' aO;(try simp only[gE]);have s5:=aO rfl;go_simp
   (try simp only[gE,aP]);refine gF (i:=2) (oi:=_) (v:=.int .i64 (i:Nat)) (b:=false) rfl ao ao ao bd (fun _ _ _ h=>h) (Or.inl ⟨by rfl,?_⟩) ao dj ?_
   ·intro u' aO;go_simp
   (try simp only[gE,aP]);refine fR (rs:=[3]) ao aE (bt.cons (b:=false) rfl ao ?_ (bt.nil));intro Z D;go_simp;refine(zD.o i al _).af ?_;rintro e u1 ⟨rfl,rfl⟩;refine D.o _ _ (fun _=>HV.o.cells.2) (fun ah=>?_);clear D Z ak;have ak:=ah;clear ah;(try simp only[gE,aP]);refine fR (rs:=[4]) ao aE (bt.cons (b:=false) rfl ao ?_ (bt.nil));intro Z D;go_simp;have d:=(au u1.heap.size u1).alloc (aq _) (.cells #[.string (kM 118 i)] 9);have hY:=ahA u1 (kM 118 i);replace HV:=hid (HV.o.step d);refine D.o _ _ (fun _=>HV.o.cells.2) (fun ah=>?_);clear D Z ak;have ak:=ah;clear ah;obtain⟨gy,bV⟩:∃x,u1.heap.size=x:=⟨_,rfl⟩;obtain⟨vy,eG⟩:∃x,u1.alloc (.cells #[.string (kM 118 i)] 9)=x:=⟨_,rfl⟩;rw[bV,eG] at hY;rw[eG] at HV ak;simp only[eG];simp only[bV];have HY:=hid hY;clear bV eG hY d;(try simp only[gE,aP]);refine fR (rs:=[5]) ao aE (bt.cons (b:=false) rfl ao ?_ (bt.nil));intro Z D;rw[aA (by rfl)];refine adW _ _ rfl w.heap.size (.slice o i n) (fS i) (kM 118 i) rfl HV.o.vs gy rfl HY.o (by rw[Ja];omega) HV.o.bel.size ?_;intro v9 w9 ia cU;obtain⟨bL,an⟩:=HV.o.push cU ia;obtain⟨d9,c9,rfl, -⟩:=jm ia;rw[bK,Ja] at an;have qu:=hid bL;have bz:=hid an;(have Ov:w9.cell? ⟨w.heap.size,1,none⟩=some (.slice o i n):=by rw[bG w9 w.heap.size _ _ _ (0,0) bL];rfl);refine D.o _ _ (fun _=>Ov) (fun ah=>?_);clear D Z ak ia cU bL an HV HY;rw[bK,Ja];have ak:=ah;clear ah
   (try simp only[gE,aP]);refine gF (i:=6) (oi:=_) (v:=.pointer (some ⟨w.heap.size,1,none⟩)) (b:=false) rfl ao ao ao bd (fun _ _ _ h=>h) (Or.inl ⟨by rfl,?_⟩) ao dj ?_
   ·intro u' aO;go_simp
   (try simp only[gE,aP]);have f9:w9.frozen? ⟨w.heap.size,1,none⟩=false:=jw _ _ 1 _ _ qu.o;refine fR (rs:=[7]) ao aE (bt.cons (b:=true) rfl ao ?_ (bt.nil));intro Z D;go_simp;refine D.o _ _ (fun e=>by cases e) (fun _=>I8 ao ?_ _);clear D Z ak Ov f9 qu;generalize (w9.setCell ⟨w.heap.size,1,none⟩ (.slice d9 (i+[kM 118 i].length) c9))=tZ at *;go_wp2;go_roundw
   case rel=>exact⟨i+1,_,_,al,b5,bz⟩
   case measure=>simp[intOf];omega
  ·obtain rfl:m=i:=al
   go_wp2_with fail
   refine(oO.o _ HV.o.bel).af ?_;rintro e w2 ⟨v,rfl,hv,hb⟩;have nC:=hid (HV.o.step hb);have bg:=HV.o.bel.size;have jL:=hid hv;have av:Hid (w.heap.size<=wr.heap.size):=bg
   obtain⟨M,O,b3⟩:∃M O,v=.slice (some ⟨M,0,none⟩) FT.length O:=by
    rcases hv.2 with ⟨_,h9⟩ |⟨g9,bO,_,h9,_⟩
    ·exact absurd h9 al
    ·exact⟨g9,bO,h9⟩
   subst b3;obtain⟨K,hK⟩:∃k,FT.length=k:=⟨_,rfl⟩;have HK:=hid hK;rw[hK] at bo jL aT;simp only[hK];have mr:Hid (cH w2 wr.heap.size (.slice (some ⟨M,0,none⟩) K O) (iK (FT.take 0)++FT.drop 0)):=jL.o;clear hK hv hb bg oO jL HV;go_wp2_with fail
   go_loopw [34] (fun jv wq=>∃j:Nat,j<=K/\jv=.int .i64 j/\Hid (cH wq wr.heap.size (.slice (some ⟨M,0,none⟩) K O) (iK (FT.take j)++FT.drop j))/\Hid (tB w nm (.slice o m n) m wq)) (fun jv _=>K - (intOf jv).toNat)
   case atStart=>exact⟨0,aV _,rfl,mr,nC⟩
   case round=>
    clear mr nC;obtain⟨j,hj,rfl,HR,HV⟩:=hrel;rename World=>wq
    by_cases b2:j<K
    ·have J7:j<FT.length:=by rw[HK.o];exact b2
     (have ky:j<(iK (FT.take j)++FT.drop j).length:=by rw[bK,CX,eE,nN];omega)
     have ax:Hid ((iK (FT.take j)++FT.drop j)[j]=FT[j]):=by
      show _=_;rw[tY (by rw[CX,eE];omega)];simp[CX,eE,tX (yo J7)]
     have oN:Hid ((iK (FT.take j)++FT.drop j).set j (qF (lD FT[j]))=iK (FT.take (j+1))++FT.drop (j+1)):=by
      show _=_;(have b4:(iK (FT.take j)).length=j:=by rw[CX,eE];omega);rw[BC _ _ al,b4,mF,al4 J7,lV,nP J7];rfl
     obtain⟨c0,c1,c2, -, -, -⟩:=Yx HR.o ky;rw[ax.o] at c0 c1 c2;have aS:=jc.o _ (bF J7);have qp:Hid (∀U:World,du 40 #[.agg #[.bool FT[j].1,.string FT[j].2.1,.string FT[j].2.2]] U fun e w'=>e=.returned (.agg #[.bool (qF (lD FT[j])).1,.string (qF (lD FT[j])).2.1,.string (qF (lD FT[j])).2.2])/\ef U w'):=fun U=>Qw (w:=U) (lD FT[j]) rfl aS;obtain⟨q,hq⟩:∃x,qF (lD FT[j])=x:=⟨_,rfl⟩;rw[hq] at oN;simp only[hq] at qp;obtain⟨Y,hY⟩:∃x,iK (FT.take j)++FT.drop j=x:=⟨_,rfl⟩;rw[hY] at oN HR ky;have az:=hid ky;clear hq hY ax aS ky;generalize FT[j].1=fn at *;generalize FT[j].2.1=fx at *;generalize FT[j].2.2=fy at *;clear J7;have d:=(au wq.heap.size wq).alloc (aq _) (FC fn fx fy);obtain⟨k0,k1,k2, -, -, -⟩:=(aI.new wq fn fx fy).facts;have ri:=hid (HR.o.aa d);have xV:=hid (HV.o.step d);clear d HR HV;go_wp2_with fail
     refine(qp.o _).af ?_;rintro e w4 ⟨rfl,aj⟩;have kd:=hid (ri.o.aa aj);have xU:=hid (xV.o.step aj);clear aj ri xV;obtain⟨r0,r1,r2,r3,r4,r5⟩:=Yx kd.o az.o;have H3:=hid (xU.o.put kd.o av.o j q);have rh:=kd.o.putU j q;rw[oN.o] at rh;have LH:=hid rh;clear rh;generalize Y[j].1=yn at *;generalize Y[j].2.1=yx at *;generalize Y[j].2.2=yy at *;clear oN qp az;go_wp2;go_roundw
     case rel=>exact⟨j+1,al,b5,LH,H3⟩
     case measure=>simp[intOf];omega
    ·obtain rfl:K=j:=al
     have Ij:Hid (cH wq wr.heap.size (.slice (some ⟨M,0,none⟩) K O) XR):=by
      have h9:=HR.o
      have e9:iK (FT.take K)++FT.drop K=XR:=by
       rw[<- HK.o,jR,List.drop_length,BP];exact ay.o
      rw[e9] at h9;exact h9
     clear HR;have H:Hid (LZ w0 wq G s e0 t (.slice dx nx cx) (.slice dy ny cy) (.slice dz nz cz) (nm,.slice o m n,fS m) (.slice Q S P,ps) (.slice (some ⟨M,0,none⟩) K O,XR) (.slice dx nx cx) Vs (.slice dy ny cy) Ls (.slice dz nz cz) Rs):=LZ.of (C9.o.step HV.o.bel) (yO HV.o.vs C9.o.bel.size) (Ia.o.aa HV.o.bel) (yO Ij.o (aR C9.o.bel.size av.o));have E:Hid (wq.heap[w.heap.size]? =some (.cells #[.string nm,.slice o m n] 81 (0,0))):=HV.o.bx
     have eV:Hid (∀u:World,u.heap[w.heap.size]? =some (.cells #[.string nm,.slice o m n] 81 (0,0)) ->u.cell? ⟨w.heap.size,0,none⟩=some (.string nm)/\u.cell? ⟨w.heap.size,1,none⟩=some (.slice o m n)):=fun u hu=>by
      constructor<;>(rw[bG u w.heap.size _ _ _ (0,0) hu];rfl)
     have rk:Hid (some w.heap.size≠(Value.slice dx nx cx).ownBlock):=fun e9=>by
      obtain⟨_,_,h9⟩:=qI C9.o.vs.1 _ e9.symm;exact absurd (cJ.1 h9).1 (Nat.lt_irrefl _)
     clear HV Ij C9 Ia;go_upto_region 12 with fail
     replace H:=hid (H.o.step (au _ _).drew);replace E:Hid (wq.drew.heap[w.heap.size]? =some (.cells #[.string nm,.slice o m n] 81 (0,0))):=E.o;refine QO 26 (fun (b':Bool) (u:World)=>(u.cell? ⟨w.heap.size,0,none⟩=some (.string nm)/\u.cell? ⟨w.heap.size,1,none⟩=some (.slice o m n))/\(b'=false ->u.cell? ⟨G,0,none⟩=some (.slice dx nx cx)/\u.cell? ⟨G,1,none⟩=some (.slice dy ny cy)/\u.cell? ⟨G,2,none⟩=some (.slice dz nz cz))) ao ⟨eV.o _ E.o,fun _=>H.o.box.cells⟩ (fun ak=>?_);generalize wq.drew=y0 at *;refine gF (i:=0) (oi:=_) (v:=.pointer (some ⟨G,0,none⟩)) (b:=false) rfl ao ao ao bd (fun _ _ _ h=>h) (Or.inl ⟨by rfl,?_⟩) ao dj ?_
     ·intro u' aO;go_simp
     (try simp only[gE,aP]);refine gF (i:=1) (oi:=_) (v:=.pointer (some ⟨G,0,none⟩)) (b:=false) rfl ao ao ao bd (fun _ _ _ h=>h) (Or.inl ⟨by rfl,?_⟩) ao dj ?_
     ·intro u' aO;go_simp
     (try simp only[gE,aP]);refine gF (i:=2) (oi:=_) (v:=.pointer (some ⟨G,0,none⟩)) (b:=false) rfl ao ao ao bd (fun _ _ _ h=>h) (Or.inl ⟨by rfl,?_⟩) ao dj ?_
     ·intro u' aO;go_simp
     (try simp only[gE,aP]);refine gF (i:=3) (oi:=_) (v:=.pointer (some ⟨G,0,none⟩)) (b:=false) rfl ao ao ao bd (fun _ _ _ h=>h) (Or.inl ⟨by rfl,?_⟩) ao dj ?_
     ·intro u' aO;go_simp
     (try simp only[gE,aP]);refine gF (i:=4) (oi:=_) (v:=.pointer (some ⟨G,0,none⟩)) (b:=false) rfl ao ao ao bd (fun _ _ _ h=>h) (Or.inl ⟨by rfl,?_⟩) ao dj ?_
     ·intro u' aO;go_simp
     (try simp only[gE,aP]);refine gF (i:=5) (oi:=_) (v:=.pointer (some ⟨G,0,none⟩)) (b:=false) rfl ao ao ao bd (fun _ _ _ h=>h) (Or.inl ⟨by rfl,?_⟩) ao dj ?_
     ·intro u' aO;go_simp
     (try simp only[gE,aP]);refine FU (i:=6) (oi:=_) (v:=.slice dx nx cx) rfl ao ao ao bd rfl ao (fun _ _ _ h=>h) (Or.inl ⟨by rfl,?_⟩) ao dj ?_
     ·intro u' aO;(try simp only[gE]);obtain⟨_,s5⟩:=aO;obtain⟨s6,s7,s8⟩:=s5 rfl;go_simp
     (try simp only[gE,aP]);refine gF (i:=7) (oi:=_) (v:=.agg #[.string nm,.slice o m n]) (b:=false) rfl ao ao ao bd (fun _ _ _ h=>h) (Or.inl ⟨by rfl,?_⟩) ao dj ?_
     ·intro u' aO;(try simp only[gE]);obtain⟨_,⟨s0,s1⟩,_⟩:=aO;go_simp
     (try simp only[gE,aP]);refine gF (i:=10) (oi:=_) (v:=.pointer (some ⟨G,0,none⟩)) (b:=false) rfl ao ao ao bd (fun _ _ _ h=>h) (Or.inl ⟨by rfl,?_⟩) ao dj ?_
     ·intro u' aO;go_simp
     (try simp only[gE,aP]);refine gF (i:=11) (oi:=_) (v:=.pointer (some ⟨G,0,none⟩)) (b:=false) rfl ao ao ao bd (fun _ _ _ h=>h) (Or.inl ⟨by rfl,?_⟩) ao dj ?_
     ·intro u' aO;go_simp
     (try simp only[gE,aP]);refine gF (i:=12) (oi:=_) (v:=.pointer (some ⟨G,1,none⟩)) (b:=false) rfl ao ao ao bd (fun _ _ _ h=>h) (Or.inl ⟨by rfl,?_⟩) ao dj ?_
     ·intro u' aO;go_simp
     (try simp only[gE,aP]);refine FU (i:=13) (oi:=_) (v:=.slice dy ny cy) rfl ao ao ao bd rfl ao (fun _ _ _ h=>h) (Or.inl ⟨by rfl,?_⟩) ao dj ?_
     ·intro u' aO;(try simp only[gE]);obtain⟨_,s5⟩:=aO;obtain⟨s6,s7,s8⟩:=s5 rfl;go_simp
     (try simp only[gE,aP]);refine gF (i:=14) (oi:=_) (v:=.slice Q S P) (b:=false) rfl ao ao ao bd (fun _ _ _ h=>h) (Or.inl ⟨by rfl,?_⟩) ao dj ?_
     ·intro u' aO;go_simp
     (try simp only[gE,aP]);refine gF (i:=17) (oi:=_) (v:=.pointer (some ⟨G,0,none⟩)) (b:=false) rfl ao ao ao bd (fun _ _ _ h=>h) (Or.inl ⟨by rfl,?_⟩) ao dj ?_
     ·intro u' aO;go_simp
     (try simp only[gE,aP]);refine gF (i:=18) (oi:=_) (v:=.pointer (some ⟨G,0,none⟩)) (b:=false) rfl ao ao ao bd (fun _ _ _ h=>h) (Or.inl ⟨by rfl,?_⟩) ao dj ?_
     ·intro u' aO;go_simp
     (try simp only[gE,aP]);refine gF (i:=19) (oi:=_) (v:=.pointer (some ⟨G,2,none⟩)) (b:=false) rfl ao ao ao bd (fun _ _ _ h=>h) (Or.inl ⟨by rfl,?_⟩) ao dj ?_
     ·intro u' aO;go_simp
     (try simp only[gE,aP]);refine FU (i:=20) (oi:=_) (v:=.slice dz nz cz) rfl ao ao ao bd rfl ao (fun _ _ _ h=>h) (Or.inl ⟨by rfl,?_⟩) ao dj ?_
     ·intro u' aO;(try simp only[gE]);obtain⟨_,s5⟩:=aO;obtain⟨s6,s7,s8⟩:=s5 rfl;go_simp
     (try simp only[gE,aP]);refine gF (i:=21) (oi:=_) (v:=.slice (some ⟨M,0,none⟩) K O) (b:=false) rfl ao ao ao bd (fun _ _ _ h=>h) (Or.inl ⟨by rfl,?_⟩) ao dj ?_
     ·intro u' aO;go_simp
     (try simp only[gE,aP]);refine rE (fun ab A=>∀(U:World) (p:Nat) (I:Nat) (V:Nat) (L:Option Addr) (J:Nat) (eY:Option Addr) (cY:Nat) (eZ:Option Addr) (cZ:Nat),LZ w0 U G s e0 t (.slice dx nx cx) (.slice dy ny cy) (.slice dz nz cz) (nm,.slice o m n,fS m) (.slice Q S P,ps) (.slice (some ⟨M,0,none⟩) K O,XR) (.slice L (Vs.length+1) J) (Vs++[(nm,.slice o m n,fS m)]) (.slice eY (Ls.length+1) cY) (Ls++[(.slice Q S P,ps)]) (.slice eZ (Rs.length+1) cZ) (Rs++[(.slice (some ⟨M,0,none⟩) K O,XR)]) ->U.heap[w.heap.size]? =some (.cells #[.string nm,.slice o m n] 81 (0,0)) ->ab 9 #[true,true,true,true,true,true,true,true,true,true,true,true,true,true,true,true,true,true,true,true,true,true,true,true,false,false,false,false,false,false,false,false,false] ((((((A.put (some 53) (.slice (some ⟨p,0,none⟩) 1 1)).put (some 60) (.slice (some ⟨I,0,none⟩) 1 1)).put (some 67) (.slice (some ⟨V,0,none⟩) 1 1)).put (some 54) (.slice L (Vs.length+1) J)).put (some 61) (.slice eY (Ls.length+1) cY)).put (some 68) (.slice eZ (Rs.length+1) cZ)) U) ?_ (fun bR=>?_)
     ·intro U p I V L J eY cY eZ cZ F T;have H:=hid F;have E:=hid T;clear F T;(try simp only[aP]);have ak:(fun (b':Bool) (u:World)=>(u.cell? ⟨w.heap.size,0,none⟩=some (.string nm)/\u.cell? ⟨w.heap.size,1,none⟩=some (.slice o m n))/\(b'=false ->u.cell? ⟨G,0,none⟩=some (.slice dx nx cx)/\u.cell? ⟨G,1,none⟩=some (.slice dy ny cy)/\u.cell? ⟨G,2,none⟩=some (.slice dz nz cz))) false U:=⟨eV.o _ E.o,fun _=>H.o.box.cells⟩;refine gF (i:=24) (oi:=_) (v:=.pointer (some ⟨G,0,none⟩)) (b:=false) rfl ao ao ao bd (fun _ _ _ h=>h) (Or.inl ⟨by rfl,?_⟩) ao dj ?_
      ·intro u' aO;go_simp
      (try simp only[gE,aP]);refine gF (i:=25) (oi:=_) (v:=.pointer (some ⟨G,0,none⟩)) (b:=false) rfl ao ao ao bd (fun _ _ _ h=>h) (Or.inl ⟨by rfl,?_⟩) ao dj ?_
      ·intro u' aO;go_simp
      (try simp only[gE,aP]);obtain⟨CH,zg,bl⟩:=H.o.o;have tJ:=hid CH;have jd:=hid zg;have oH:=hid bl;have OG:=hid (aL.set H.o.box (show 81≠33 by decide) 0 (.slice L (Vs.length+1) J) _ _ _ E.o);have bk:=hid (aL.set tJ.o (show 81≠33 by decide) 1 (.slice eY (Ls.length+1) cY) _ _ _ OG.o);have bW:=hid (aL.set jd.o (show 81≠33 by decide) 2 (.slice eZ (Rs.length+1) cZ) _ _ _ bk.o);have z0:=H.o.box.cells.1;have z1:U.frozen? ⟨G,0,none⟩=false:=jw _ _ 0 _ _ H.o.box;clear CH zg bl;refine fR (rs:=[26]) ao aE (bt.cons (b:=true) rfl ao ?_ (bt.nil));intro Z D;go_simp;refine D.o _ _ ⟨eV.o _ OG.o,fun e=>by cases e⟩ (fun ah=>?_);clear D Z ak z0 z1;have ak:=ah;clear ah;(try simp only[gE]);(try simp only[dL,cN,dC])
      refine gF (i:=27) (oi:=_) (v:=.pointer (some ⟨G,0,none⟩)) (b:=true) rfl ao ao ao bd (fun _ _ _ h=>h) (Or.inl ⟨by rfl,?_⟩) ao dj ?_
      ·intro u' aO;go_simp
      (try simp only[gE,aP]);refine gF (i:=28) (oi:=_) (v:=.pointer (some ⟨G,1,none⟩)) (b:=true) rfl ao ao ao bd (fun _ _ _ h=>h) (Or.inl ⟨by rfl,?_⟩) ao dj ?_
      ·intro u' aO;go_simp
      (try simp only[gE,aP]);have z0:=tJ.o.cells.2.1;have z1:(U.setCell ⟨G,0,none⟩ (.slice L (Vs.length+1) J)).frozen? ⟨G,1,none⟩=false:=jw _ _ 1 _ _ tJ.o;refine fR (rs:=[29]) ao aE (bt.cons (b:=true) rfl ao ?_ (bt.nil));intro Z D;go_simp;refine D.o _ _ ⟨eV.o _ bk.o,fun e=>by cases e⟩ (fun ah=>?_);clear D Z ak z0 z1;have ak:=ah;clear ah;(try simp only[gE]);(try simp only[dL,cN,dC])
      refine gF (i:=30) (oi:=_) (v:=.pointer (some ⟨G,0,none⟩)) (b:=true) rfl ao ao ao bd (fun _ _ _ h=>h) (Or.inl ⟨by rfl,?_⟩) ao dj ?_
      ·intro u' aO;go_simp
      (try simp only[gE,aP]);refine gF (i:=31) (oi:=_) (v:=.pointer (some ⟨G,2,none⟩)) (b:=true) rfl ao ao ao bd (fun _ _ _ h=>h) (Or.inl ⟨by rfl,?_⟩) ao dj ?_
      ·intro u' aO;go_simp
      (try simp only[gE,aP]);have z0:=jd.o.cells.2.2;have z1:((U.setCell ⟨G,0,none⟩ (.slice L (Vs.length+1) J)).setCell ⟨G,1,none⟩ (.slice eY (Ls.length+1) cY)).frozen? ⟨G,2,none⟩=false:=jw _ _ 2 _ _ jd.o;refine fR (rs:=[32]) ao aE (bt.cons (b:=true) rfl ao ?_ (bt.nil));intro Z D;go_simp;refine D.o _ _ ⟨eV.o _ bW.o,fun e=>by cases e⟩ (fun _=>I8 ao ?_ _);clear D Z ak z0 z1;go_wp2;go_end0
      exact⟨rfl,_,_,_,_,_,rfl,rfl,oH.o⟩
     refine rE (fun ab A=>∀(U:World) (p:Nat) (I:Nat) (V:Nat) (L:Option Addr) (J:Nat) (eY:Option Addr) (cY:Nat),LZ w0 U G s e0 t (.slice dx nx cx) (.slice dy ny cy) (.slice dz nz cz) (nm,.slice o m n,fS m) (.slice Q S P,ps) (.slice (some ⟨M,0,none⟩) K O,XR) (.slice L (Vs.length+1) J) (Vs++[(nm,.slice o m n,fS m)]) (.slice eY (Ls.length+1) cY) (Ls++[(.slice Q S P,ps)]) (.slice dz nz cz) Rs ->U.heap[w.heap.size]? =some (.cells #[.string nm,.slice o m n] 81 (0,0)) ->U.heap[V]? =some (.cells #[.slice (some ⟨M,0,none⟩) K O] 24 (0,0)) ->ab 10 #[true,true,true,true,true,true,true,true,true,true,true,true,true,true,true,true,true,true,true,true,true,true,true,false,false,false,false,false,false,false,false,false,false] (((((A.put (some 53) (.slice (some ⟨p,0,none⟩) 1 1)).put (some 60) (.slice (some ⟨I,0,none⟩) 1 1)).put (some 67) (.slice (some ⟨V,0,none⟩) 1 1)).put (some 54) (.slice L (Vs.length+1) J)).put (some 61) (.slice eY (Ls.length+1) cY)) U) ?_ (fun a1=>?_)
     ·intro U p I V L J eY cY F T h3;have H:=hid F;have E:=hid T;have jt:=hid h3;clear F T h3;(try simp only[aP]);refine fR (rs:=[23]) ao aE (bt.cons (b:=false) rfl ao ?_ (bt.nil));intro Z D;rw[aA (by rfl)];(have ad:U.cell? ⟨V,0,none⟩=some (.slice (some ⟨M,0,none⟩) K O):=by rw[bG U V _ _ _ (0,0) jt.o];rfl);refine adY _ _ rfl w0.heap.size (.slice dz nz cz) Rs (.slice (some ⟨M,0,none⟩) K O) ⟨_,_,_,rfl⟩ rfl H.o.rs.1 V rfl ad bu.o H.o.bel.size ?_;intro vZ U2 ia cU;have rN:=qI H.o.rs.1;have kA:=aL.grown cU rN (show 81≠24 by decide) _ _ _ E.o;have jG:=H.o.pushR ia cU;obtain⟨eZ,cZ,rfl, -⟩:=jm ia;refine D.o _ _ ⟨eV.o _ kA,fun _=>jG.box.cells⟩ (fun _=>?_);(try simp only[gE]);(try simp only[dL,cN,dC])
      refine kq ao (by simp only[Act.put,dL,cN,dC]) (bR U2 p I V L J eY cY eZ cZ jG kA)
     refine rE (fun ab A=>∀(U:World) (p:Nat) (I:Nat) (L:Option Addr) (J:Nat) (eY:Option Addr) (cY:Nat),LZ w0 U G s e0 t (.slice dx nx cx) (.slice dy ny cy) (.slice dz nz cz) (nm,.slice o m n,fS m) (.slice Q S P,ps) (.slice (some ⟨M,0,none⟩) K O,XR) (.slice L (Vs.length+1) J) (Vs++[(nm,.slice o m n,fS m)]) (.slice eY (Ls.length+1) cY) (Ls++[(.slice Q S P,ps)]) (.slice dz nz cz) Rs ->U.heap[w.heap.size]? =some (.cells #[.string nm,.slice o m n] 81 (0,0)) ->ab 11 #[true,true,true,true,true,true,true,true,true,true,true,true,true,true,true,true,true,true,true,true,true,true,false,false,false,false,false,false,false,false,false,false,false] ((((A.put (some 53) (.slice (some ⟨p,0,none⟩) 1 1)).put (some 60) (.slice (some ⟨I,0,none⟩) 1 1)).put (some 54) (.slice L (Vs.length+1) J)).put (some 61) (.slice eY (Ls.length+1) cY)) U) ?_ (fun bT=>?_)
     ·intro U p I L J eY cY F T;have H:=hid F;have E:=hid T;clear F T;(try simp only[aP]);refine fR (rs:=[22]) ao aE (bt.cons (b:=false) rfl ao ?_ (bt.nil));intro Z D;go_simp;have d:=(au U.heap.size U).alloc (aq _) (.cells #[.slice (some ⟨M,0,none⟩) K O] 24);refine D.o _ _ ⟨eV.o _ ((aL.aa d:aL 81 _ _) _ _ _ E.o),fun _=>(H.o.step d).box.cells⟩ (fun _=>?_);(try simp only[gE]);(try simp only[dL,cN,dC])
      refine kq ao (by simp only[Act.put,dL,cN,dC]) (a1 _ p I U.heap.size L J eY cY (H.o.step d) ((aL.aa d:aL 81 _ _) _ _ _ E.o) (dB U (.cells #[.slice (some ⟨M,0,none⟩) K O] 24)))
     refine rE (fun ab A=>∀(U:World) (p:Nat) (I:Nat) (V:Nat) (L:Option Addr) (J:Nat),LZ w0 U G s e0 t (.slice dx nx cx) (.slice dy ny cy) (.slice dz nz cz) (nm,.slice o m n,fS m) (.slice Q S P,ps) (.slice (some ⟨M,0,none⟩) K O,XR) (.slice L (Vs.length+1) J) (Vs++[(nm,.slice o m n,fS m)]) (.slice dy ny cy) Ls (.slice dz nz cz) Rs ->U.heap[w.heap.size]? =some (.cells #[.string nm,.slice o m n] 81 (0,0)) ->U.heap[I]? =some (.cells #[.slice Q S P] 22 (0,0)) ->U.heap[V]? =some (.cells #[.slice (some ⟨M,0,none⟩) K O] 24 (0,0)) ->ab 11 #[true,true,true,true,true,true,true,true,true,true,true,true,true,true,true,true,false,true,true,true,true,true,true,false,false,false,false,false,false,false,false,false,false] ((((A.put (some 53) (.slice (some ⟨p,0,none⟩) 1 1)).put (some 60) (.slice (some ⟨I,0,none⟩) 1 1)).put (some 67) (.slice (some ⟨V,0,none⟩) 1 1)).put (some 54) (.slice L (Vs.length+1) J)) U) ?_ (fun Ve=>?_)
     ·intro U p I V L J F T h2 h3;have H:=hid F;have E:=hid T;have iw:=hid h2;have jt:=hid h3;clear F T h2 h3;(try simp only[aP]);refine fR (rs:=[16]) ao aE (bt.cons (b:=false) rfl ao ?_ (bt.nil));intro Z D;rw[aA (by rfl)];(have ad:U.cell? ⟨I,0,none⟩=some (.slice Q S P):=by rw[bG U I _ _ _ (0,0) iw.o];rfl);refine WW _ _ rfl w0.heap.size (.slice dy ny cy) Ls (.slice Q S P) ⟨_,_,_,rfl⟩ rfl H.o.ls.1 I rfl ad pE.o H.o.bel.size ?_;intro vY U2 ia cU;have rN:=qI H.o.ls.1;have kA:=aL.grown cU rN (show 81≠22 by decide) _ _ _ E.o;have jG:=H.o.pushL ia cU;obtain⟨eY,cY,rfl, -⟩:=jm ia;refine D.o _ _ ⟨eV.o _ kA,fun _=>jG.box.cells⟩ (fun _=>?_);(try simp only[gE]);(try simp only[dL,cN,dC])
      refine kq ao (by simp only[Act.put,dL,cN,dC]) (a1 U2 p I V L J eY cY jG kA (aL.grown cU rN (show 24≠22 by decide) _ _ _ jt.o))
     refine rE (fun ab A=>∀(U:World) (p:Nat) (I:Nat) (L:Option Addr) (J:Nat),LZ w0 U G s e0 t (.slice dx nx cx) (.slice dy ny cy) (.slice dz nz cz) (nm,.slice o m n,fS m) (.slice Q S P,ps) (.slice (some ⟨M,0,none⟩) K O,XR) (.slice L (Vs.length+1) J) (Vs++[(nm,.slice o m n,fS m)]) (.slice dy ny cy) Ls (.slice dz nz cz) Rs ->U.heap[w.heap.size]? =some (.cells #[.string nm,.slice o m n] 81 (0,0)) ->U.heap[I]? =some (.cells #[.slice Q S P] 22 (0,0)) ->ab 12 #[true,true,true,true,true,true,true,true,true,true,true,true,true,true,true,true,false,true,true,true,true,true,false,false,false,false,false,false,false,false,false,false,false] (((A.put (some 53) (.slice (some ⟨p,0,none⟩) 1 1)).put (some 60) (.slice (some ⟨I,0,none⟩) 1 1)).put (some 54) (.slice L (Vs.length+1) J)) U) ?_ (fun a7=>?_)
     ·intro U p I L J F T h2;have H:=hid F;have E:=hid T;have iw:=hid h2;clear F T h2;(try simp only[aP]);refine fR (rs:=[16,22]) ao aE (bt.cons (b:=false) rfl ao ?_ (bt.cons (b:=false) rfl ao ?_ (bt.nil)))
      ·intro Z D;rw[aA (by rfl)];(have ad:U.cell? ⟨I,0,none⟩=some (.slice Q S P):=by rw[bG U I _ _ _ (0,0) iw.o];rfl);refine WW _ _ rfl w0.heap.size (.slice dy ny cy) Ls (.slice Q S P) ⟨_,_,_,rfl⟩ rfl H.o.ls.1 I rfl ad pE.o H.o.bel.size ?_;intro vY U2 ia cU;have rN:=qI H.o.ls.1;have kA:=aL.grown cU rN (show 81≠22 by decide) _ _ _ E.o;have jG:=H.o.pushL ia cU;obtain⟨eY,cY,rfl, -⟩:=jm ia;refine D.o _ _ ⟨eV.o _ kA,fun _=>jG.box.cells⟩ (fun _=>?_);(try simp only[gE]);(try simp only[dL,cN,dC])
       refine kq ao (by simp only[Act.put,dL,cN,dC]) (bT U2 p I L J eY cY jG kA)
      ·intro Z D;go_simp;have d:=(au U.heap.size U).alloc (aq _) (.cells #[.slice (some ⟨M,0,none⟩) K O] 24);refine D.o _ _ ⟨eV.o _ ((aL.aa d:aL 81 _ _) _ _ _ E.o),fun _=>(H.o.step d).box.cells⟩ (fun _=>?_);(try simp only[gE]);(try simp only[dL,cN,dC])
       refine kq ao (by simp only[Act.put,dL,cN,dC]) (Ve _ p I U.heap.size L J (H.o.step d) ((aL.aa d:aL 81 _ _) _ _ _ E.o) ((aL.aa d:aL 22 _ _) _ _ _ iw.o) (dB U (.cells #[.slice (some ⟨M,0,none⟩) K O] 24)))
     refine rE (fun ab A=>∀(U:World) (p:Nat) (V:Nat) (L:Option Addr) (J:Nat),LZ w0 U G s e0 t (.slice dx nx cx) (.slice dy ny cy) (.slice dz nz cz) (nm,.slice o m n,fS m) (.slice Q S P,ps) (.slice (some ⟨M,0,none⟩) K O,XR) (.slice L (Vs.length+1) J) (Vs++[(nm,.slice o m n,fS m)]) (.slice dy ny cy) Ls (.slice dz nz cz) Rs ->U.heap[w.heap.size]? =some (.cells #[.string nm,.slice o m n] 81 (0,0)) ->U.heap[V]? =some (.cells #[.slice (some ⟨M,0,none⟩) K O] 24 (0,0)) ->ab 12 #[true,true,true,true,true,true,true,true,true,true,true,true,true,true,true,false,false,true,true,true,true,true,true,false,false,false,false,false,false,false,false,false,false] (((A.put (some 53) (.slice (some ⟨p,0,none⟩) 1 1)).put (some 67) (.slice (some ⟨V,0,none⟩) 1 1)).put (some 54) (.slice L (Vs.length+1) J)) U) ?_ (fun a6=>?_)
     ·intro U p V L J F T h3;have H:=hid F;have E:=hid T;have jt:=hid h3;clear F T h3;(try simp only[aP]);refine fR (rs:=[15]) ao aE (bt.cons (b:=false) rfl ao ?_ (bt.nil));intro Z D;go_simp;have d:=(au U.heap.size U).alloc (aq _) (.cells #[.slice Q S P] 22);refine D.o _ _ ⟨eV.o _ ((aL.aa d:aL 81 _ _) _ _ _ E.o),fun _=>(H.o.step d).box.cells⟩ (fun _=>?_);(try simp only[gE]);(try simp only[dL,cN,dC])
      refine kq ao (by simp only[Act.put,dL,cN,dC]) (Ve _ p U.heap.size V L J (H.o.step d) ((aL.aa d:aL 81 _ _) _ _ _ E.o) (dB U (.cells #[.slice Q S P] 22)) ((aL.aa d:aL 24 _ _) _ _ _ jt.o))
     refine rE (fun ab A=>∀(U:World) (p:Nat) (L:Option Addr) (J:Nat),LZ w0 U G s e0 t (.slice dx nx cx) (.slice dy ny cy) (.slice dz nz cz) (nm,.slice o m n,fS m) (.slice Q S P,ps) (.slice (some ⟨M,0,none⟩) K O,XR) (.slice L (Vs.length+1) J) (Vs++[(nm,.slice o m n,fS m)]) (.slice dy ny cy) Ls (.slice dz nz cz) Rs ->U.heap[w.heap.size]? =some (.cells #[.string nm,.slice o m n] 81 (0,0)) ->ab 13 #[true,true,true,true,true,true,true,true,true,true,true,true,true,true,true,false,false,true,true,true,true,true,false,false,false,false,false,false,false,false,false,false,false] ((A.put (some 53) (.slice (some ⟨p,0,none⟩) 1 1)).put (some 54) (.slice L (Vs.length+1) J)) U) ?_ (fun bN=>?_)
     ·intro U p L J F T;have H:=hid F;have E:=hid T;clear F T;(try simp only[aP]);refine fR (rs:=[15,22]) ao aE (bt.cons (b:=false) rfl ao ?_ (bt.cons (b:=false) rfl ao ?_ (bt.nil)))
      ·intro Z D;go_simp;have d:=(au U.heap.size U).alloc (aq _) (.cells #[.slice Q S P] 22);refine D.o _ _ ⟨eV.o _ ((aL.aa d:aL 81 _ _) _ _ _ E.o),fun _=>(H.o.step d).box.cells⟩ (fun _=>?_);(try simp only[gE]);(try simp only[dL,cN,dC])
       refine kq ao (by simp only[Act.put,dL,cN,dC]) (a7 _ p U.heap.size L J (H.o.step d) ((aL.aa d:aL 81 _ _) _ _ _ E.o) (dB U (.cells #[.slice Q S P] 22)))
      ·intro Z D;go_simp;have d:=(au U.heap.size U).alloc (aq _) (.cells #[.slice (some ⟨M,0,none⟩) K O] 24);refine D.o _ _ ⟨eV.o _ ((aL.aa d:aL 81 _ _) _ _ _ E.o),fun _=>(H.o.step d).box.cells⟩ (fun _=>?_);(try simp only[gE]);(try simp only[dL,cN,dC])
       refine kq ao (by simp only[Act.put,dL,cN,dC]) (a6 _ p U.heap.size L J (H.o.step d) ((aL.aa d:aL 81 _ _) _ _ _ E.o) (dB U (.cells #[.slice (some ⟨M,0,none⟩) K O] 24)))
     refine rE (fun ab A=>∀(U:World) (p:Nat) (I:Nat) (V:Nat),LZ w0 U G s e0 t (.slice dx nx cx) (.slice dy ny cy) (.slice dz nz cz) (nm,.slice o m n,fS m) (.slice Q S P,ps) (.slice (some ⟨M,0,none⟩) K O,XR) (.slice dx nx cx) Vs (.slice dy ny cy) Ls (.slice dz nz cz) Rs ->U.heap[w.heap.size]? =some (.cells #[.string nm,.slice o m n] 81 (0,0)) ->U.heap[p]? =some (.cells #[.string nm,.slice o m n] 81 (0,0)) ->U.heap[I]? =some (.cells #[.slice Q S P] 22 (0,0)) ->U.heap[V]? =some (.cells #[.slice (some ⟨M,0,none⟩) K O] 24 (0,0)) ->ab 12 #[true,true,true,true,true,true,true,true,true,false,true,true,true,true,true,true,false,true,true,true,true,true,true,false,false,false,false,false,false,false,false,false,false] (((A.put (some 53) (.slice (some ⟨p,0,none⟩) 1 1)).put (some 60) (.slice (some ⟨I,0,none⟩) 1 1)).put (some 67) (.slice (some ⟨V,0,none⟩) 1 1)) U) ?_ (fun Vf=>?_)
     ·intro U p I V F T h1 h2 h3;have H:=hid F;have E:=hid T;have jb:=hid h1;have iw:=hid h2;have jt:=hid h3;clear F T h1 h2 h3;(try simp only[aP]);refine fR (rs:=[9]) ao aE (bt.cons (b:=false) rfl ao ?_ (bt.nil));intro Z D;rw[aA (by rfl)];(have ad:U.cell? ⟨p,0,none⟩=some (.string nm):=by rw[bG U p _ _ _ (0,0) jb.o];rfl);(have ae:U.cell? ⟨p,1,none⟩=some (.slice o m n):=by rw[bG U p _ _ _ (0,0) jb.o];rfl);refine MO _ _ rfl w0.heap.size (.slice dx nx cx) Vs nm (.slice o m n) ⟨_,_,_,rfl⟩ rfl H.o.vs.1 p rfl ad ae x7.o H.o.bel.size ?_;intro vX U2 ia cU;have rN:=qI H.o.vs.1;have kA:=(cU.block w.heap.size (cJ.1 E.o).1 rk.o).trans E.o;have jG:=H.o.pushV ia cU;obtain⟨L,J,rfl, -⟩:=jm ia;refine D.o _ _ ⟨eV.o _ kA,fun _=>jG.box.cells⟩ (fun _=>?_);(try simp only[gE]);(try simp only[dL,cN,dC])
      refine kq ao (by simp only[Act.put,dL,cN,dC]) (Ve U2 p I V L J jG kA (aL.grown cU rN (show 22≠81 by decide) _ _ _ iw.o) (aL.grown cU rN (show 24≠81 by decide) _ _ _ jt.o))
     refine rE (fun ab A=>∀(U:World) (p:Nat) (I:Nat),LZ w0 U G s e0 t (.slice dx nx cx) (.slice dy ny cy) (.slice dz nz cz) (nm,.slice o m n,fS m) (.slice Q S P,ps) (.slice (some ⟨M,0,none⟩) K O,XR) (.slice dx nx cx) Vs (.slice dy ny cy) Ls (.slice dz nz cz) Rs ->U.heap[w.heap.size]? =some (.cells #[.string nm,.slice o m n] 81 (0,0)) ->U.heap[p]? =some (.cells #[.string nm,.slice o m n] 81 (0,0)) ->U.heap[I]? =some (.cells #[.slice Q S P] 22 (0,0)) ->ab 13 #[true,true,true,true,true,true,true,true,true,false,true,true,true,true,true,true,false,true,true,true,true,true,false,false,false,false,false,false,false,false,false,false,false] ((A.put (some 53) (.slice (some ⟨p,0,none⟩) 1 1)).put (some 60) (.slice (some ⟨I,0,none⟩) 1 1)) U) ?_ (fun bf=>?_)
     ·intro U p I F T h1 h2;have H:=hid F;have E:=hid T;have jb:=hid h1;have iw:=hid h2;clear F T h1 h2;(try simp only[aP]);refine fR (rs:=[9,22]) ao aE (bt.cons (b:=false) rfl ao ?_ (bt.cons (b:=false) rfl ao ?_ (bt.nil)))
      ·intro Z D;rw[aA (by rfl)];(have ad:U.cell? ⟨p,0,none⟩=some (.string nm):=by rw[bG U p _ _ _ (0,0) jb.o];rfl);(have ae:U.cell? ⟨p,1,none⟩=some (.slice o m n):=by rw[bG U p _ _ _ (0,0) jb.o];rfl);refine MO _ _ rfl w0.heap.size (.slice dx nx cx) Vs nm (.slice o m n) ⟨_,_,_,rfl⟩ rfl H.o.vs.1 p rfl ad ae x7.o H.o.bel.size ?_;intro vX U2 ia cU;have rN:=qI H.o.vs.1;have kA:=(cU.block w.heap.size (cJ.1 E.o).1 rk.o).trans E.o;have jG:=H.o.pushV ia cU;obtain⟨L,J,rfl, -⟩:=jm ia;refine D.o _ _ ⟨eV.o _ kA,fun _=>jG.box.cells⟩ (fun _=>?_);(try simp only[gE]);(try simp only[dL,cN,dC])
       refine kq ao (by simp only[Act.put,dL,cN,dC]) (a7 U2 p I L J jG kA (aL.grown cU rN (show 22≠81 by decide) _ _ _ iw.o))
      ·intro Z D;go_simp;have d:=(au U.heap.size U).alloc (aq _) (.cells #[.slice (some ⟨M,0,none⟩) K O] 24);refine D.o _ _ ⟨eV.o _ ((aL.aa d:aL 81 _ _) _ _ _ E.o),fun _=>(H.o.step d).box.cells⟩ (fun _=>?_);(try simp only[gE]);(try simp only[dL,cN,dC])
       refine kq ao (by simp only[Act.put,dL,cN,dC]) (Vf _ p I U.heap.size (H.o.step d) ((aL.aa d:aL 81 _ _) _ _ _ E.o) ((aL.aa d:aL 81 _ _) _ _ _ jb.o) ((aL.aa d:aL 22 _ _) _ _ _ iw.o) (dB U (.cells #[.slice (some ⟨M,0,none⟩) K O] 24)))
     refine rE (fun ab A=>∀(U:World) (p:Nat) (V:Nat),LZ w0 U G s e0 t (.slice dx nx cx) (.slice dy ny cy) (.slice dz nz cz) (nm,.slice o m n,fS m) (.slice Q S P,ps) (.slice (some ⟨M,0,none⟩) K O,XR) (.slice dx nx cx) Vs (.slice dy ny cy) Ls (.slice dz nz cz) Rs ->U.heap[w.heap.size]? =some (.cells #[.string nm,.slice o m n] 81 (0,0)) ->U.heap[p]? =some (.cells #[.string nm,.slice o m n] 81 (0,0)) ->U.heap[V]? =some (.cells #[.slice (some ⟨M,0,none⟩) K O] 24 (0,0)) ->ab 13 #[true,true,true,true,true,true,true,true,true,false,true,true,true,true,true,false,false,true,true,true,true,true,true,false,false,false,false,false,false,false,false,false,false] ((A.put (some 53) (.slice (some ⟨p,0,none⟩) 1 1)).put (some 67) (.slice (some ⟨V,0,none⟩) 1 1)) U) ?_ (fun bc=>?_)
     ·intro U p V F T h1 h3;have H:=hid F;have E:=hid T;have jb:=hid h1;have jt:=hid h3;clear F T h1 h3;(try simp only[aP]);refine fR (rs:=[9,15]) ao aE (bt.cons (b:=false) rfl ao ?_ (bt.cons (b:=false) rfl ao ?_ (bt.nil)))
      ·intro Z D;rw[aA (by rfl)];(have ad:U.cell? ⟨p,0,none⟩=some (.string nm):=by rw[bG U p _ _ _ (0,0) jb.o];rfl);(have ae:U.cell? ⟨p,1,none⟩=some (.slice o m n):=by rw[bG U p _ _ _ (0,0) jb.o];rfl);refine MO _ _ rfl w0.heap.size (.slice dx nx cx) Vs nm (.slice o m n) ⟨_,_,_,rfl⟩ rfl H.o.vs.1 p rfl ad ae x7.o H.o.bel.size ?_;intro vX U2 ia cU;have rN:=qI H.o.vs.1;have kA:=(cU.block w.heap.size (cJ.1 E.o).1 rk.o).trans E.o;have jG:=H.o.pushV ia cU;obtain⟨L,J,rfl, -⟩:=jm ia;refine D.o _ _ ⟨eV.o _ kA,fun _=>jG.box.cells⟩ (fun _=>?_);(try simp only[gE]);(try simp only[dL,cN,dC])
       refine kq ao (by simp only[Act.put,dL,cN,dC]) (a6 U2 p V L J jG kA (aL.grown cU rN (show 24≠81 by decide) _ _ _ jt.o))
      ·intro Z D;go_simp;have d:=(au U.heap.size U).alloc (aq _) (.cells #[.slice Q S P] 22);refine D.o _ _ ⟨eV.o _ ((aL.aa d:aL 81 _ _) _ _ _ E.o),fun _=>(H.o.step d).box.cells⟩ (fun _=>?_);(try simp only[gE]);(try simp only[dL,cN,dC])
       refine kq ao (by simp only[Act.put,dL,cN,dC]) (Vf _ p U.heap.size V (H.o.step d) ((aL.aa d:aL 81 _ _) _ _ _ E.o) ((aL.aa d:aL 81 _ _) _ _ _ jb.o) (dB U (.cells #[.slice Q S P] 22)) ((aL.aa d:aL 24 _ _) _ _ _ jt.o))
     refine rE (fun ab A=>∀(U:World) (I:Nat) (V:Nat),LZ w0 U G s e0 t (.slice dx nx cx) (.slice dy ny cy) (.slice dz nz cz) (nm,.slice o m n,fS m) (.slice Q S P,ps) (.slice (some ⟨M,0,none⟩) K O,XR) (.slice dx nx cx) Vs (.slice dy ny cy) Ls (.slice dz nz cz) Rs ->U.heap[w.heap.size]? =some (.cells #[.string nm,.slice o m n] 81 (0,0)) ->U.heap[I]? =some (.cells #[.slice Q S P] 22 (0,0)) ->U.heap[V]? =some (.cells #[.slice (some ⟨M,0,none⟩) K O] 24 (0,0)) ->ab 13 #[true,true,true,true,true,true,true,true,false,false,true,true,true,true,true,true,false,true,true,true,true,true,true,false,false,false,false,false,false,false,false,false,false] ((A.put (some 60) (.slice (some ⟨I,0,none⟩) 1 1)).put (some 67) (.slice (some ⟨V,0,none⟩) 1 1)) U) ?_ (fun bb=>?_)
     ·intro U I V F T h2 h3;have H:=hid F;have E:=hid T;have iw:=hid h2;have jt:=hid h3;clear F T h2 h3;(try simp only[aP]);refine fR (rs:=[8]) ao aE (bt.cons (b:=false) rfl ao ?_ (bt.nil));intro Z D;go_simp;have d:=(au U.heap.size U).alloc (aq _) (.cells #[.string nm,.slice o m n] 81);refine D.o _ _ ⟨eV.o _ ((aL.aa d:aL 81 _ _) _ _ _ E.o),fun _=>(H.o.step d).box.cells⟩ (fun _=>?_);(try simp only[gE]);(try simp only[dL,cN,dC])
      refine kq ao (by simp only[Act.put,dL,cN,dC]) (Vf _ U.heap.size I V (H.o.step d) ((aL.aa d:aL 81 _ _) _ _ _ E.o) (dB U (.cells #[.string nm,.slice o m n] 81)) ((aL.aa d:aL 22 _ _) _ _ _ iw.o) ((aL.aa d:aL 24 _ _) _ _ _ jt.o))
     refine rE (fun ab A=>∀(U:World) (p:Nat),LZ w0 U G s e0 t (.slice dx nx cx) (.slice dy ny cy) (.slice dz nz cz) (nm,.slice o m n,fS m) (.slice Q S P,ps) (.slice (some ⟨M,0,none⟩) K O,XR) (.slice dx nx cx) Vs (.slice dy ny cy) Ls (.slice dz nz cz) Rs ->U.heap[w.heap.size]? =some (.cells #[.string nm,.slice o m n] 81 (0,0)) ->U.heap[p]? =some (.cells #[.string nm,.slice o m n] 81 (0,0)) ->ab 14 #[true,true,true,true,true,true,true,true,true,false,true,true,true,true,true,false,false,true,true,true,true,true,false,false,false,false,false,false,false,false,false,false,false] (A.put (some 53) (.slice (some ⟨p,0,none⟩) 1 1)) U) ?_ (fun bA=>?_)
     ·intro U p F T h1;have H:=hid F;have E:=hid T;have jb:=hid h1;clear F T h1;(try simp only[aP]);refine fR (rs:=[9,15,22]) ao aE (bt.cons (b:=false) rfl ao ?_ (bt.cons (b:=false) rfl ao ?_ (bt.cons (b:=false) rfl ao ?_ (bt.nil))))
      ·intro Z D;rw[aA (by rfl)];(have ad:U.cell? ⟨p,0,none⟩=some (.string nm):=by rw[bG U p _ _ _ (0,0) jb.o];rfl);(have ae:U.cell? ⟨p,1,none⟩=some (.slice o m n):=by rw[bG U p _ _ _ (0,0) jb.o];rfl);refine MO _ _ rfl w0.heap.size (.slice dx nx cx) Vs nm (.slice o m n) ⟨_,_,_,rfl⟩ rfl H.o.vs.1 p rfl ad ae x7.o H.o.bel.size ?_;intro vX U2 ia cU;have rN:=qI H.o.vs.1;have kA:=(cU.block w.heap.size (cJ.1 E.o).1 rk.o).trans E.o;have jG:=H.o.pushV ia cU;obtain⟨L,J,rfl, -⟩:=jm ia;refine D.o _ _ ⟨eV.o _ kA,fun _=>jG.box.cells⟩ (fun _=>?_);(try simp only[gE]);(try simp only[dL,cN,dC])
       refine kq ao (by simp only[Act.put,dL,cN,dC]) (bN U2 p L J jG kA)
      ·intro Z D;go_simp;have d:=(au U.heap.size U).alloc (aq _) (.cells #[.slice Q S P] 22);refine D.o _ _ ⟨eV.o _ ((aL.aa d:aL 81 _ _) _ _ _ E.o),fun _=>(H.o.step d).box.cells⟩ (fun _=>?_);(try simp only[gE]);(try simp only[dL,cN,dC])
       refine kq ao (by simp only[Act.put,dL,cN,dC]) (bf _ p U.heap.size (H.o.step d) ((aL.aa d:aL 81 _ _) _ _ _ E.o) ((aL.aa d:aL 81 _ _) _ _ _ jb.o) (dB U (.cells #[.slice Q S P] 22)))
      ·intro Z D;go_simp;have d:=(au U.heap.size U).alloc (aq _) (.cells #[.slice (some ⟨M,0,none⟩) K O] 24);refine D.o _ _ ⟨eV.o _ ((aL.aa d:aL 81 _ _) _ _ _ E.o),fun _=>(H.o.step d).box.cells⟩ (fun _=>?_);(try simp only[gE]);(try simp only[dL,cN,dC])
       refine kq ao (by simp only[Act.put,dL,cN,dC]) (bc _ p U.heap.size (H.o.step d) ((aL.aa d:aL 81 _ _) _ _ _ E.o) ((aL.aa d:aL 81 _ _) _ _ _ jb.o) (dB U (.cells #[.slice (some ⟨M,0,none⟩) K O] 24)))
     refine rE (fun ab A=>∀(U:World) (I:Nat),LZ w0 U G s e0 t (.slice dx nx cx) (.slice dy ny cy) (.slice dz nz cz) (nm,.slice o m n,fS m) (.slice Q S P,ps) (.slice (some ⟨M,0,none⟩) K O,XR) (.slice dx nx cx) Vs (.slice dy ny cy) Ls (.slice dz nz cz) Rs ->U.heap[w.heap.size]? =some (.cells #[.string nm,.slice o m n] 81 (0,0)) ->U.heap[I]? =some (.cells #[.slice Q S P] 22 (0,0)) ->ab 14 #[true,true,true,true,true,true,true,true,false,false,true,true,true,true,true,true,false,true,true,true,true,true,false,false,false,false,false,false,false,false,false,false,false] (A.put (some 60) (.slice (some ⟨I,0,none⟩) 1 1)) U) ?_ (fun bJ=>?_)
     ·intro U I F T h2;have H:=hid F;have E:=hid T;have iw:=hid h2;clear F T h2;(try simp only[aP]);refine fR (rs:=[8,22]) ao aE (bt.cons (b:=false) rfl ao ?_ (bt.cons (b:=false) rfl ao ?_ (bt.nil)))
      ·intro Z D;go_simp;have d:=(au U.heap.size U).alloc (aq _) (.cells #[.string nm,.slice o m n] 81);refine D.o _ _ ⟨eV.o _ ((aL.aa d:aL 81 _ _) _ _ _ E.o),fun _=>(H.o.step d).box.cells⟩ (fun _=>?_);(try simp only[gE]);(try simp only[dL,cN,dC])
       refine kq ao (by simp only[Act.put,dL,cN,dC]) (bf _ U.heap.size I (H.o.step d) ((aL.aa d:aL 81 _ _) _ _ _ E.o) (dB U (.cells #[.string nm,.slice o m n] 81)) ((aL.aa d:aL 22 _ _) _ _ _ iw.o))
      ·intro Z D;go_simp;have d:=(au U.heap.size U).alloc (aq _) (.cells #[.slice (some ⟨M,0,none⟩) K O] 24);refine D.o _ _ ⟨eV.o _ ((aL.aa d:aL 81 _ _) _ _ _ E.o),fun _=>(H.o.step d).box.cells⟩ (fun _=>?_);(try simp only[gE]);(try simp only[dL,cN,dC])
       refine kq ao (by simp only[Act.put,dL,cN,dC]) (bb _ I U.heap.size (H.o.step d) ((aL.aa d:aL 81 _ _) _ _ _ E.o) ((aL.aa d:aL 22 _ _) _ _ _ iw.o) (dB U (.cells #[.slice (some ⟨M,0,none⟩) K O] 24)))
     refine rE (fun ab A=>∀(U:World) (V:Nat),LZ w0 U G s e0 t (.slice dx nx cx) (.slice dy ny cy) (.slice dz nz cz) (nm,.slice o m n,fS m) (.slice Q S P,ps) (.slice (some ⟨M,0,none⟩) K O,XR) (.slice dx nx cx) Vs (.slice dy ny cy) Ls (.slice dz nz cz) Rs ->U.heap[w.heap.size]? =some (.cells #[.string nm,.slice o m n] 81 (0,0)) ->U.heap[V]? =some (.cells #[.slice (some ⟨M,0,none⟩) K O] 24 (0,0)) ->ab 14 #[true,true,true,true,true,true,true,true,false,false,true,true,true,true,true,false,false,true,true,true,true,true,true,false,false,false,false,false,false,false,false,false,false] (A.put (some 67) (.slice (some ⟨V,0,none⟩) 1 1)) U) ?_ (fun bM=>?_)
     ·intro U V F T h3;have H:=hid F;have E:=hid T;have jt:=hid h3;clear F T h3;(try simp only[aP]);refine fR (rs:=[8,15]) ao aE (bt.cons (b:=false) rfl ao ?_ (bt.cons (b:=false) rfl ao ?_ (bt.nil)))
      ·intro Z D;go_simp;have d:=(au U.heap.size U).alloc (aq _) (.cells #[.string nm,.slice o m n] 81);refine D.o _ _ ⟨eV.o _ ((aL.aa d:aL 81 _ _) _ _ _ E.o),fun _=>(H.o.step d).box.cells⟩ (fun _=>?_);(try simp only[gE]);(try simp only[dL,cN,dC])
       refine kq ao (by simp only[Act.put,dL,cN,dC]) (bc _ U.heap.size V (H.o.step d) ((aL.aa d:aL 81 _ _) _ _ _ E.o) (dB U (.cells #[.string nm,.slice o m n] 81)) ((aL.aa d:aL 24 _ _) _ _ _ jt.o))
      ·intro Z D;go_simp;have d:=(au U.heap.size U).alloc (aq _) (.cells #[.slice Q S P] 22);refine D.o _ _ ⟨eV.o _ ((aL.aa d:aL 81 _ _) _ _ _ E.o),fun _=>(H.o.step d).box.cells⟩ (fun _=>?_);(try simp only[gE]);(try simp only[dL,cN,dC])
       refine kq ao (by simp only[Act.put,dL,cN,dC]) (bb _ U.heap.size V (H.o.step d) ((aL.aa d:aL 81 _ _) _ _ _ E.o) (dB U (.cells #[.slice Q S P] 22)) ((aL.aa d:aL 24 _ _) _ _ _ jt.o))
     refine rE (fun ab A=>∀(U:World),LZ w0 U G s e0 t (.slice dx nx cx) (.slice dy ny cy) (.slice dz nz cz) (nm,.slice o m n,fS m) (.slice Q S P,ps) (.slice (some ⟨M,0,none⟩) K O,XR) (.slice dx nx cx) Vs (.slice dy ny cy) Ls (.slice dz nz cz) Rs ->U.heap[w.heap.size]? =some (.cells #[.string nm,.slice o m n] 81 (0,0)) ->ab 15 #[true,true,true,true,true,true,true,true,false,false,true,true,true,true,true,false,false,true,true,true,true,true,false,false,false,false,false,false,false,false,false,false,false] A U) ?_ (fun N0=>?_)
     ·intro U F T;have H:=hid F;have E:=hid T;clear F T;simp only[];refine fR (rs:=[8,15,22]) ao aE (bt.cons (b:=false) rfl ao ?_ (bt.cons (b:=false) rfl ao ?_ (bt.cons (b:=false) rfl ao ?_ (bt.nil))))
      ·intro Z D;go_simp;have d:=(au U.heap.size U).alloc (aq _) (.cells #[.string nm,.slice o m n] 81);refine D.o _ _ ⟨eV.o _ ((aL.aa d:aL 81 _ _) _ _ _ E.o),fun _=>(H.o.step d).box.cells⟩ (fun _=>?_);(try simp only[gE]);(try simp only[dL,cN,dC])
       refine kq ao (by simp only[Act.put,dL,cN,dC]) (bA _ U.heap.size (H.o.step d) ((aL.aa d:aL 81 _ _) _ _ _ E.o) (dB U (.cells #[.string nm,.slice o m n] 81)))
      ·intro Z D;go_simp;have d:=(au U.heap.size U).alloc (aq _) (.cells #[.slice Q S P] 22);refine D.o _ _ ⟨eV.o _ ((aL.aa d:aL 81 _ _) _ _ _ E.o),fun _=>(H.o.step d).box.cells⟩ (fun _=>?_);(try simp only[gE]);(try simp only[dL,cN,dC])
       refine kq ao (by simp only[Act.put,dL,cN,dC]) (bJ _ U.heap.size (H.o.step d) ((aL.aa d:aL 81 _ _) _ _ _ E.o) (dB U (.cells #[.slice Q S P] 22)))
      ·intro Z D;go_simp;have d:=(au U.heap.size U).alloc (aq _) (.cells #[.slice (some ⟨M,0,none⟩) K O] 24);refine D.o _ _ ⟨eV.o _ ((aL.aa d:aL 81 _ _) _ _ _ E.o),fun _=>(H.o.step d).box.cells⟩ (fun _=>?_);(try simp only[gE]);(try simp only[dL,cN,dC])
       refine kq ao (by simp only[Act.put,dL,cN,dC]) (bM _ U.heap.size (H.o.step d) ((aL.aa d:aL 81 _ _) _ _ _ E.o) (dB U (.cells #[.slice (some ⟨M,0,none⟩) K O] 24)))
     exact N0 _ H.o E.o
end Go.Proofs.YtdmdhjmcoijpaaaGreatDoor
