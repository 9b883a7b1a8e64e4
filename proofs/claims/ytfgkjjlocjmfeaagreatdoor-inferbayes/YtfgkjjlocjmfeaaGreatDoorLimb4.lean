/- Part4: part 4. -/
import Derived.Test.YtfgkjjlocjmfeaaGreatDoorLimb3
set_option maxRecDepth 100000
set_option maxHeartbeats 400000000
set_option linter.unusedSimpArgs false
set_option linter.unusedVariables false
namespace Go.Proofs.YtfgkjjlocjmfeaaGreatDoor
section
open Go.RowKit Go.Shelf
attribute [local go_sem] Oper.semAt_some
theorem akl (a b:Option Addr) (ca cb:Nat) (sizes vars:List Int) (K:Nat) (w:World) (hs:aC w a sizes) (hv:aC w b vars) (aJ:dZ sizes) (aT:Up vars sizes.length) (hK:K<cnt (ag sizes) (ag vars)):
  Calls Tryz.prog 102 #[.slice a sizes.length ca,.slice b vars.length cb,.int .i64 (K:Nat)] w fun e w'=>∃(g:Nat) (cc:Nat),e=.returned (.slice (some ⟨g,0,none⟩) (kR (ag sizes) (ag vars) K).length cc)/\w.heap.size<=g/\ck w' g (kR (ag sizes) (ag vars) K)/\Below w.heap.size w w':=by
 refine(fZ (n:=6)).1 ?_;have nE:=aJ.eight;have ie:=aT.length;have hsm:cnt (ag sizes) (ag vars)<=65536:=qM aJ.sz_le (by rw[cY];omega);have hmk:=fun V=>run_make_row' (P:=Tryz.prog) 27 3 (.int .i64 0) 8 Tryz.underlying27 Tryz.infoInt rfl .i64 .i64 vars.length (by omega) (by omega) V;have HS:=hid hs;have HV:=hid hv;have cC:=hid aJ;have iV:=hid aT;have Ca:(kR (ag sizes) (ag vars) K).length=vars.length:=by rw[aau,cY]
 have sD:=hid (akp hK);rw[cY] at sD;rw[Ca];clear hs hv aJ aT;refine sG Tryz.func102 rfl trivial ?_ rfl;simp only[Tryz.ntmps102,lR,dI,k8,Nat.reduceAdd,Nat.reduceSub,lX,lW,lS,k9,gY,eE];gi_wp2_with ((refine⟨trivial,?_⟩;gi_at_call 159;refine(Rq _ _ _ _ _).af ?_;rintro e w2 ⟨rfl,rfl⟩))
 obtain⟨W0,hW0⟩:∃W0,W0=(((((w.alloc (.cells #[.slice a sizes.length ca] 27)).alloc (.cells #[.int .i64 (K:Nat)] 3)).alloc (.cells (madeCells #[.int .i64 0] vars.length) 3)).alloc (.cells #[.slice (some ⟨w.heap.size+1+1,0,none⟩) vars.length vars.length] 27)).alloc (.cells #[.slice b vars.length cb] 27)):=⟨_,rfl⟩;have wA:W0.heap.size=w.heap.size+1+1+1+1+1:=by rw[hW0];simp
 have b0:Boxed W0 w.heap.size 27 (.slice a sizes.length ca):=by rw[hW0];exact((((aY w _ _).alloc _).alloc _).alloc _).alloc _
 have b1:Boxed W0 (w.heap.size+1) 3 (.int .i64 (K:Nat)):=by
  have h:=((((aY (w.alloc (.cells #[.slice a sizes.length ca] 27)) 3 (.int .i64 (K:Nat))).alloc (.cells (madeCells #[.int .i64 0] vars.length) 3)).alloc (.cells #[.slice (some ⟨w.heap.size+1+1,0,none⟩) vars.length vars.length] 27)).alloc (.cells #[.slice b vars.length cb] 27));rw[di] at h;rw[hW0];exact h
 have r2:ck W0 (w.heap.size+1+1) (List.replicate vars.length 0):=by
  have h:=((WI ((w.alloc (.cells #[.slice a sizes.length ca] 27)).alloc (.cells #[.int .i64 (K:Nat)] 3)) vars.length).alloc (.cells #[.slice (some ⟨w.heap.size+1+1,0,none⟩) vars.length vars.length] 27)).alloc (.cells #[.slice b vars.length cb] 27);rw[di,di] at h;rw[hW0];exact h
 have b3:Boxed W0 (w.heap.size+1+1+1) 27 (.slice (some ⟨w.heap.size+1+1,0,none⟩) vars.length vars.length):=by
  have h:=(aY (((w.alloc (.cells #[.slice a sizes.length ca] 27)).alloc (.cells #[.int .i64 (K:Nat)] 3)).alloc (.cells (madeCells #[.int .i64 0] vars.length) 3)) 27 (.slice (some ⟨w.heap.size+1+1,0,none⟩) vars.length vars.length)).alloc (.cells #[.slice b vars.length cb] 27);rw[di,di,di] at h;rw[hW0];exact h
 have b4:Boxed W0 (w.heap.size+1+1+1+1) 27 (.slice b vars.length cb):=by
  have h:=aY ((((w.alloc (.cells #[.slice a sizes.length ca] 27)).alloc (.cells #[.int .i64 (K:Nat)] 3)).alloc (.cells (madeCells #[.int .i64 0] vars.length) 3)).alloc (.cells #[.slice (some ⟨w.heap.size+1+1,0,none⟩) vars.length vars.length] 27)) 27 (.slice b vars.length cb);rw[di,di,di,di] at h;rw[hW0];exact h
 have hB0:Below w.heap.size w W0:=by
  rw[hW0];exact(((((au _ w).alloc (aq _) _).alloc (by simp) _).alloc (by simp;omega) _).alloc (by simp;omega) _).alloc (by simp;omega) _
 rw[<- hW0];clear hW0
 refine Jf (α:=At vars) rfl (by omega) (gf:=201) (lb:= #[.pointer (some ⟨w.heap.size+1+1+1+1,0,none⟩)]) rfl trivial (enters_of Tryz.func201 (by kernel_rfl) rfl)
  (Rp 5 (by omega) (w.heap.size+1+1+1+1) w.heap.size b cb vars (by omega) W0 (by omega) (by omega) b4.cell (HV.o.toB.aa hB0)) qU.t (qU.b (by omega) (by omega)) (au _ _) (fun _=>rfl)
  (fun (pre:List (At vars)) V=>Boxed V w.heap.size 27 (.slice a sizes.length ca)/\Boxed V (w.heap.size+1) 3 (.int .i64 ((nN (ag sizes) (ag vars) K vars.length (pre.map (·.1))).1:Nat))/\ck V (w.heap.size+1+1) (nN (ag sizes) (ag vars) K vars.length (pre.map (·.1))).2/\Boxed V (w.heap.size+1+1+1) 27 (.slice (some ⟨w.heap.size+1+1,0,none⟩) vars.length vars.length)/\Boxed V (w.heap.size+1+1+1+1) 27 (.slice b vars.length cb)/\Below w.heap.size w V)
  (fun _ _ _=>False)
  (eC (fD (iW _ _ (fun _=>_)) _) (eC (fD (iW _ _ (fun pre:List (At vars)=>.int .i64 ((nN (ag sizes) (ag vars) K vars.length (pre.map (·.1))).1:Nat))) _) (eC (fD (JW _ (fun pre:List (At vars)=>(nN (ag sizes) (ag vars) K vars.length (pre.map (·.1))).2)) _) (eC (fD (iW _ _ (fun _=>_)) _) (eC (fD (iW _ _ (fun _=>_)) _) (xC (aq _) (by omega)))))))
  (fun _ _ _ _ _ hs _ _=>hs)
  ⟨b0,b1,r2,b3,b4,hB0⟩
  (fun x=> {tmps:= #[.slice a sizes.length ca,.slice b vars.length cb,.int .i64 (K:Nat),.pointer (some ⟨w.heap.size,0,none⟩),undef,.pointer (some ⟨w.heap.size+1,0,none⟩),.slice none 0 0,.pointer (some ⟨w.heap.size+1+1+1,0,none⟩),.int .i64 (x.1:Nat),.int .i64 (vars[x.1]'x.2),.slice b vars.length cb,.int .i64 (vars.length:Nat),.slice (some ⟨w.heap.size+1+1,0,none⟩) vars.length vars.length,.slice b vars.length cb,.func (.func 201) #[] #[.pointer (some ⟨w.heap.size+1+1+1+1,0,none⟩)],.int .i64 (x.1:Nat),.int .i64 (vars[x.1]'x.2),undef,undef,undef,undef,undef,undef,undef,undef,undef,undef,undef,undef,undef,undef,undef,undef],defers:=[]}) ?assign ?body ?done ?stop
 case assign=>
  intro l x V K hK;gi_wp2
  exact hK
 case body=>
  rintro l pre ⟨i,hi⟩ V ⟨h0,h1,h2,h3,h4,hB⟩ hlt;obtain⟨iA,iN⟩:=iV.o.nat hi
  have HST:Hid (nN (ag sizes) (ag vars) K vars.length ((pre++[(⟨i,hi⟩:At vars)]).map (·.1))=((nN (ag sizes) (ag vars) K vars.length (pre.map (·.1))).1/sz (ag sizes) vars[i].toNat,(nN (ag sizes) (ag vars) K vars.length (pre.map (·.1))).2.set i ((nN (ag sizes) (ag vars) K vars.length (pre.map (·.1))).1 % sz (ag sizes) vars[i].toNat))):=by
   show _=_;rw[dL,fQ,k7,aaT,Cr,qL (show i<(ag vars).length by rw[cY];exact hi),mW hi]
  obtain⟨jd,hpl⟩:=ako (ag sizes) (ag vars) K vars.length (pre.map (·.1));have hz:=kF cC.o.pos vars[i].toNat;have DL:=cC.o.sz_le vars[i].toNat;generalize hV:vars[i].toNat=v at *;rw[<- iA];obtain⟨g',o',rfl,iO,c1⟩:=(HS.o.aa hB) v iN;rw[<- cC.o.sz_eq iN] at c1
  have hg2:g'<w.heap.size:=by
   obtain⟨g3,o3,e3,h3,_⟩:=HS.o v iN;cases e3;exact h3
  clear iA hV;generalize nN (ag sizes) (ag vars) K vars.length (pre.map (·.1))=st at *;obtain⟨p,Cs⟩:=st;simp only at h1 h2 jd hpl HST;generalize sz (ag sizes) v=s0 at *;have hrow:=h2.cell i (by omega);have hfz:=h2.fz i;have k0:=h0.cell;have k1:=h1.cell;have k3:=h3.cell;have f1:=h1.frozen;have wB:(p:Int) % (s0:Int)=((p % s0:Nat):Int):=(rA _ _).symm;have oB:(p:Int)/(s0:Int)=((p/s0:Nat):Int):=(vL _ _).symm;have hm1:p % s0<=65536:=aL (Nat.mod_le _ _) (by omega);have bq:p/s0<=65536:=aL (vI _ _) (by omega);generalize p % s0=mm at *;generalize p/s0=dd at *;have hz1:¬(s0:Int)=0:=by omega
  have aho:¬w.heap.size+1+1=w.heap.size+1:=by omega
  have alH:¬w.heap.size+1=w.heap.size+1+1:=by omega
  have gK:i<Cs.length:=by omega
  generalize Cs[i]=z at *;have hw1:IntKind.i64.wrap ((p:Int) % (s0:Int))=(p:Int) % (s0:Int):=by rw[wB,gI];omega
  have hw2:IntKind.i64.wrap ((p:Int)/(s0:Int))=(p:Int)/(s0:Int):=by rw[oB,gI];omega
  have tK:=hid wB;have r8:=hid oB;clear wB oB;clear hmk b0 b1 r2 b3 b4 hB0 wA Ca sD iV cC HV hsm hK hpl;gi_wp2_with fail
  refine vU (fun u=>u.cell? ⟨w.heap.size+1+1+1,0,none⟩=some (.slice (some ⟨w.heap.size+1+1,0,none⟩) vars.length vars.length)/\u.cell? ⟨w.heap.size+1,0,none⟩=some (.int .i64 (p:Nat))/\u.cell? ⟨w.heap.size,0,none⟩=some (.slice (some ⟨g',o',none⟩) sizes.length ca)/\u.cell? ⟨g',o'+v,none⟩=some (.int .i64 (s0:Nat))) (by kernel_rfl) (by kernel_rfl) (fun ⟨_,_,h⟩=>h) ⟨k3,k1,k0,c1⟩ ?_;intro ak;refine cN 0 (.slice (some ⟨w.heap.size+1+1,0,none⟩) vars.length vars.length) ?_ ?_
  ·intro u aN;obtain⟨s1,s2,s3,s4⟩:=aN;simp only[gE];go_simp
  simp only[gE,aP];refine cN 1 (.int .i64 (i:Nat)) ?_ ?_
  ·intro u aN;obtain⟨s1,s2,s3,s4⟩:=aN;simp only[gE];go_simp
  simp only[gE,aP];refine cN 2 (.int .i64 (p:Nat)) ?_ ?_
  ·intro u aN;obtain⟨s1,s2,s3,s4⟩:=aN;simp only[gE];go_simp
  simp only[gE,aP];refine cN 3 (.slice (some ⟨g',o',none⟩) sizes.length ca) ?_ ?_
  ·intro u aN;obtain⟨s1,s2,s3,s4⟩:=aN;simp only[gE];go_simp
  simp only[gE,aP];refine cN 4 (.int .i64 (v:Nat)) ?_ ?_
  ·intro u aN;obtain⟨s1,s2,s3,s4⟩:=aN;simp only[gE];go_simp
  simp only[gE,aP];refine cN 5 (.pointer (some ⟨g',o'+v,none⟩)) ?_ ?_
  ·intro u aN;obtain⟨s1,s2,s3,s4⟩:=aN;simp only[gE];go_simp
  simp only[gE,aP];refine cN 6 (.int .i64 (s0:Nat)) ?_ ?_
  ·intro u aN;obtain⟨s1,s2,s3,s4⟩:=aN;simp only[gE];go_simp
  simp only[gE,aP];refine cN 7 (.int .i64 ((p:Int) % (s0:Int))) ?_ ?_
  ·intro u aN;obtain⟨s1,s2,s3,s4⟩:=aN;simp only[gE];go_simp;rw[aD (show ¬s0=0 by omega),Int.tmod_eq_emod_of_nonneg (Jz _)]
  simp only[gE,aP];refine cN 8 (.pointer (some ⟨w.heap.size+1+1,i,none⟩)) ?_ ?_
  ·intro u aN;obtain⟨s1,s2,s3,s4⟩:=aN;simp only[gE];go_simp
  simp only[gE,aP];refine aH [9] (cA ?_ aG);intro K' hK';simp only[gE];go_simp;have far:∀(b j:Nat) (y:Value),¬w.heap.size+1+1=b ->(V.setCell ⟨w.heap.size+1+1,i,none⟩ y).drew.cell? ⟨b,j,none⟩=V.cell? ⟨b,j,none⟩:=fun b j y hb=>dO _ _ _ _ (fun e=>hb (by cases e;rfl));refine hK'.o _ _ ⟨(far _ _ _ (by omega)).trans k3,(far _ _ _ (by omega)).trans k1,(far _ _ _ (by omega)).trans k0,(far _ _ _ (by omega)).trans c1⟩ (fun _=>eK (by kernel_rfl) ?_ _);clear hK' K' ak;have m0:=(far w.heap.size 0 (.int .i64 ((p:Int) % (s0:Int))) (by omega)).trans k0;have m1:=(far (w.heap.size+1) 0 (.int .i64 ((p:Int) % (s0:Int))) (by omega)).trans k1;have m2:=(far g' (o'+v) (.int .i64 ((p:Int) % (s0:Int))) (by omega)).trans c1;have hr1:=h2.set i mm;rw[<- tK.o] at hr1;have q0:Boxed (V.setCell ⟨w.heap.size+1+1,i,none⟩ (.int .i64 ((p:Int) % (s0:Int)))).drew w.heap.size 27 (.slice (some ⟨g',o',none⟩) sizes.length ca):=fJ h0 _ i _ (by omega);have q1:Boxed (V.setCell ⟨w.heap.size+1+1,i,none⟩ (.int .i64 ((p:Int) % (s0:Int)))).drew (w.heap.size+1) 3 (.int .i64 (p:Nat)):=fJ h1 _ i _ (by omega);have q3:Boxed (V.setCell ⟨w.heap.size+1+1,i,none⟩ (.int .i64 ((p:Int) % (s0:Int)))).drew (w.heap.size+1+1+1) 27 (.slice (some ⟨w.heap.size+1+1,0,none⟩) vars.length vars.length):=fJ h3 _ i _ (by omega);have q4:Boxed (V.setCell ⟨w.heap.size+1+1,i,none⟩ (.int .i64 ((p:Int) % (s0:Int)))).drew (w.heap.size+1+1+1+1) 27 (.slice b vars.length cb):=fJ h4 _ i _ (by omega)
  have q2:ck (V.setCell ⟨w.heap.size+1+1,i,none⟩ (.int .i64 ((p:Int) % (s0:Int)))).drew (w.heap.size+1+1) (Cs.set i mm):=hr1;have qB:Below w.heap.size w (V.setCell ⟨w.heap.size+1+1,i,none⟩ (.int .i64 ((p:Int) % (s0:Int)))).drew:=(hB.setCell (p:=⟨w.heap.size+1+1,i,none⟩) (by simp;omega) _).drew;have qK:Below w.heap.size V (V.setCell ⟨w.heap.size+1+1,i,none⟩ (.int .i64 ((p:Int) % (s0:Int)))).drew:=((au w.heap.size V).setCell (p:=⟨w.heap.size+1+1,i,none⟩) (by simp;omega) _).drew;have qO:KeepsOthers V (V.setCell ⟨w.heap.size+1+1,i,none⟩ (.int .i64 ((p:Int) % (s0:Int)))).drew:=(jo V _ _).trans (xK _);have fU:=q1.frozen;have j4:mr (w.heap.size+1+1+1+1) V (V.setCell ⟨w.heap.size+1+1,i,none⟩ (.int .i64 ((p:Int) % (s0:Int)))).drew:=q4.cell.trans h4.cell.symm;clear far;generalize (V.setCell ⟨w.heap.size+1+1,i,none⟩ (.int .i64 ((p:Int) % (s0:Int)))).drew=U at *;gi_wp2_with fail
  refine vU (fun u=>u.cell? ⟨w.heap.size,0,none⟩=some (.slice (some ⟨g',o',none⟩) sizes.length ca)/\u.cell? ⟨g',o'+v,none⟩=some (.int .i64 (s0:Nat))) (by kernel_rfl) (by kernel_rfl) (fun ⟨_,_,h⟩=>h) ⟨m0,m2⟩ ?_;intro ak;refine cN 1 (.slice (some ⟨g',o',none⟩) sizes.length ca) ?_ ?_
  ·intro u aN;obtain⟨s3,s4⟩:=aN;simp only[gE];go_simp
  simp only[gE,aP];refine cN 2 (.int .i64 (v:Nat)) ?_ ?_
  ·intro u aN;obtain⟨s3,s4⟩:=aN;simp only[gE];go_simp
  simp only[gE,aP];refine cN 3 (.pointer (some ⟨g',o'+v,none⟩)) ?_ ?_
  ·intro u aN;obtain⟨s3,s4⟩:=aN;simp only[gE];go_simp
  simp only[gE,aP];refine cN 4 (.int .i64 (s0:Nat)) ?_ ?_
  ·intro u aN;obtain⟨s3,s4⟩:=aN;simp only[gE];go_simp
  simp only[gE,aP];refine aH [0] (cA ?_ aG);intro K' hK';simp only[gE];go_simp;refine hK'.o _ _ ak (fun _=>?_);clear hK' K';refine cN 5 (.int .i64 ((p:Int)/(s0:Int))) ?_ ?_
  ·intro u aN;obtain⟨s3,s4⟩:=aN;simp only[gE];go_simp;omega
  simp only[gE,aP];refine aH [6] (cA ?_ aG);intro K' hK';simp only[gE];go_simp;refine hK'.o _ _ ⟨(fJ q0 (w.heap.size+1) 0 _ (by omega)).cell,(dO _ _ _ _ (fun e=>(show ¬w.heap.size+1=g' by omega) (cU Addr.block e))).trans m2⟩ (fun _=>eK (by kernel_rfl) ?_ _);clear hK' K' ak;gi_wp2
  rw[r8.o];refine⟨(qO.trans ((jo U _ _).trans (xK _))).from _,⟨j4.t ((fJ q4 (w.heap.size+1) 0 (.int .i64 (dd:Nat)) (by omega)).cell.trans q4.cell.symm),(qK.setCell (p:=⟨w.heap.size+1,0,none⟩) (by simp) _).drew⟩,?_⟩;refine⟨fJ q0 _ 0 _ (by omega),?_,?_,fJ q3 _ 0 _ (by omega),fJ q4 _ 0 _ (by omega),(qB.setCell (p:=⟨w.heap.size+1,0,none⟩) (by simp) _).drew⟩
  ·rw[HST.o];exact q1.set _
  ·rw[HST.o];exact q2.off _ 0 _ (by omega)
 case done=>
  rintro D ys V hD zK ⟨h0,h1,h2,h3,h4,hB⟩ hK;rw[zK,sD.o] at h2;have hc:=h3.cell;gi_wp2
  refine⟨by simp,.inl ⟨_,_,rfl,ze hK,?_⟩⟩;refine⟨_,zg rfl _ _ _,?_⟩;refine⟨w.heap.size+1+1,⟨vars.length,rfl⟩,by omega,?_,hB.trans (sH (w:=w) (aq _) V D _ _ (by omega) hK rfl rfl)⟩;have h2':ck (V.putObj D (.deferred none)) (w.heap.size+1+1) (kR (ag sizes) (ag vars) K):=JW (w.heap.size+1+1) (fun (_:Unit)=>kR (ag sizes) (ag vars) K) () V _ (some D) h2 (grownBy_putObj' V D _) (fun r e=>by cases e;exact⟨_,hK,rfl⟩);exact h2'
 case stop=>
  rintro D c pre V _ _ h _;exact h.elim
theorem acx (a b:Option Addr) (ca cb K:Nat) (sizes vars:List Int) (w:World) (hs:aC w a sizes) (hv:aC w b vars) (aJ:dZ sizes) (aT:Up vars sizes.length) (hK:K<cnt (ag sizes) (ag vars)):
  Calls Tryz.prog 150 #[.slice a sizes.length ca,.slice b vars.length cb,.int .i64 (K:Nat)] w fun e w'=>∃(g:Nat) (cc:Nat),e=.returned (.tuple #[.slice (some ⟨g,0,none⟩) vars.length cc,.int .i64 0])/\w.heap.size<=g/\ck w' g (kR (ag sizes) (ag vars) K)/\Below w.heap.size w w':=by
 have nE:=aJ.eight;have ie:=aT.length;have HS:=hid hs;have HV:=hid hv;have hcb:countB sizes vars=true:=Co aJ aT;have HC:=hid (fun V h1 h2=>JP a b ca cb sizes vars V h1 h2 (by omega) (by omega));rw[Cp hcb] at HC;simp only at HC;have HA:=hid (fun V h1 h2=>akl a b ca cb sizes vars K V h1 h2 aJ aT hK);have Ca:(kR (ag sizes) (ag vars) K).length=vars.length:=by rw[aau,cY]
 rw[Ca] at HA;clear hs hv hcb aJ aT Ca;generalize kR (ag sizes) (ag vars) K=ds at *;generalize cnt (ag sizes) (ag vars)=N0 at *;have hk0:(0:Int)<=(K:Int):=by omega
 have GM:(K:Int)<(N0:Int):=by omega
 go_enter Tryz.func150,Tryz.ntmps150;go_wp2_with fail
 refine(HC.o _ HS.o HV.o).af ?_;rintro e w1 ⟨rfl,hb1⟩;go_wp2_with fail
 refine(HA.o _ (HS.o.aa hb1) (HV.o.aa hb1)).af ?_;rintro e w2 ⟨c,cc,rfl,hge,rN,hb2⟩;have hs1:=hb1.size;go_wp2;go_ret2;exact⟨c,cc,rfl,by omega,rN,hb1.trans (hb2.af hb1.size)⟩
end
open Go.RowKit Go.Shelf Go.Sort Go.Lib
variable {l la:List Int} {A S:List Nat} {Ab D g:Nat} {x y z:Value} {w wr wr':World}
theorem ac0 {ad:Addr} (hi:aC w (some ad) la):∀j u,(la.map (Value.int .i64))[j]? =some u ->w.cell? (ad.add j)=some u:=by
 intro j u hj;rw[kD] at hj;cases hq:la[j]? with
 |none=>rw[hq] at hj;cases hj
 |some z=>
  rw[hq] at hj;cases hj;obtain⟨GP,PA⟩:=nY.1 hq;obtain⟨g,o',e,_,hc⟩:=hi j GP;cases e;rw[<- PA];rw[Addr.add];by_cases h0:j=0
  ·subst h0;simpa using hc
  ·simpa [h0] using hc
theorem X4 {cs:Array Value} (h:w.heap[g]? =some (.cells cs 3 (0,0))) (hl:∀j (hj:j<l.length),cs[j]? =some (.int .i64 l[j])):Holds (Value.int .i64) w g 0 l.toArray:=fun j hj=>by
 have hj':j<l.length:=by simpa using hj
 refine⟨?_,kZ w g (0+j) _ _ h⟩;rw[bD,bX w g j _ _ (0,0) h,hl j hj',E8 l.toArray j hj];simp
theorem abG {o:Oper} {a:Act} {K:Act ->World ->Prop} {Q:Exit ->Act ->World ->Prop} (s x:Operand)
  (ho:o.op=.call {callee:=.builtin .append,args:= #[s,x],argTypes:= #[27,27]}) (gb:Nat) (z:Int) (la:List Int) (hs:a.eval s=.slice (some ⟨gb,0,none⟩) 1 1) (hown:w.heap[gb]? =some (.cells #[.int .i64 z] 3 (0,0))) (p:Option Addr) (ca:Nat) (hx:a.eval x=.slice p la.length ca) (hi:aC w p la) (hp:p=none ->ca=0) (hlen:la.length<=100000)
  (h:∀D cap w',(D=gb∨w.heap.size<=D) ->D<w'.heap.size ->Holds (Value.int .i64) w' D 0 ([z]++la).toArray ->w.grownBy w' (some gb) ->K (a.put o.dst (.slice (some ⟨D,0,none⟩) ([z]++la).length cap)) w'):o.wp Tryz.prog a w K Q:=by
 obtain⟨i0,bY,hz0,hz1,hz2⟩:=dH Tryz.infoInt;have hgb:gb<w.heap.size:=(dm.1 hown).1
 have wE:Holds (Value.int .i64) w gb 0 ([z]++[]).toArray:=X4 hown fun j hj=>by
  have:j=0:=by simp at hj;omega
  subst this;rfl
 have hnil:∀(kh:la=[]),K (a.put o.dst (.slice (some ⟨gb,0,none⟩) 1 1)) w:=fun kh=>by
  subst kh;exact h gb 1 w (.inl rfl) hgb wE ⟨rfl,rfl,rfl,aq _,fun _ _ _=>rfl⟩
 cases p with
 |none=>
  have hl:la=[]:=by
   cases la with
   |nil=>rfl
   |cons x l=>obtain⟨g,o,e,_⟩:=hi 0 (by simp);cases e
  have h0:=hp rfl;have hk:=hnil hl;subst hl h0;have hrow:w.ownsRow gb 3 1 (.slice (some ⟨gb,0,none⟩) 1 1) 1 [.int .i64 z]:=⟨rfl,.inr ⟨gb,1,_,rfl,aq _,hown,aq _,by unfold maxLen;omega,rfl,rfl⟩⟩;have hrun:=run_append_owned_none (P:=Tryz.prog) (w:=w) gb 27 o.type 3 i0 1 Tryz.underlying27 bY (.slice (some ⟨gb,0,none⟩) 1 1) 1 _ hrow;unfold Oper.wp;simp[execOp,ho,resolve,invoke,builtin,hs,hx,hrun,Result.andThen];exact hk
 |some ad=>
  have hnews:=ac0 hi;have hl:(la.map (Value.int .i64)).length=la.length*i0.size:=by rw[hz1];simp
  by_cases kh:la=[]
  ·have hk:=hnil kh;subst kh;have hrun:=run_append_room_cells (P:=Tryz.prog) (w:=w) 27 o.type 3 i0 Tryz.underlying27 bY gb 0 1 1 ad 0 ca [] (by simp) (by simp) (by simp) (aq _) (by simp) (by simp);unfold Oper.wp execOp;simp only[ho,resolve,invoke,builtin,Fc,AX,xD,Fq,fQ,k7,hs,hx,k8,hrun];exact hk
  ·have kf:0<la.length:=List.length_pos_iff.2 kh
   have hrun:=run_append_grow (P:=Tryz.prog) w 27 o.type 3 i0 (.int .i64 0) Tryz.underlying27 bY hz0 ⟨gb,0,none⟩ 1 1 [.int .i64 z] (by rw[hz1];rfl) (fun j u hj=>by
    match j,hj with
    |0,hj=>cases hj;rw[show (⟨gb,0,none⟩:Addr).add 0=⟨gb,0,none⟩ from rfl,bX w gb 0 _ _ (0,0) hown];rfl
    |j+1,hj=>simp at hj) ad la.length ca (la.map (Value.int .i64)) hl hnews (by omega) (by omega) (Jh (by omega) (by rw[hz2];omega))
   unfold Oper.wp execOp;simp only[ho,resolve,invoke,builtin,Fc,AX,xD,Fq,fQ,k7,hs,hx,hrun];have hh:=h w.heap.size (grownCap w (1+la.length) 1 3) (w.drew.alloc (.cells ([Value.int .i64 z].toArray++(la.map (Value.int .i64)).toArray++Builtin.zeroCells (Value.int .i64 0).cells (grownCap w (1+la.length) 1 3 - (1+la.length))) 3)) (.inr (aq _)) (by simp) ?_ ⟨rfl,rfl,rfl,by simp,fun _ hk _=>rB w.drew _ _ hk⟩
   ·have e:([z]++la).length=1+la.length:=by simp;omega
    rw[e] at hh;exact hh
   ·refine X4 (im w.drew _) fun j hj=>?_;rw[Array.getElem?_append_left (by simp at hj⊢;omega)];simp only[k9,List.getElem?_toArray];rw[show [Value.int .i64 z]++la.map (Value.int .i64)=([z]++la).map (Value.int .i64) by simp,kD,a8 hj];rfl
theorem adB (g cap:Nat) (l:List Int) (w:World) (hh:Holds (Value.int .i64) w g 0 l.toArray) (hg:g<w.heap.size) (hl:l.length<=100000):
  Calls Tryz.prog 149 #[.slice (some ⟨g,0,none⟩) l.length cap] w fun e w'=>e=.returned (.slice (some ⟨g,0,none⟩) l.length cap)/\aC w' (some ⟨g,0,none⟩) (l.mergeSort fun x y=>decide (x<=y))/\w.grownBy w' (some g):=by
 have R1:=hid (Tryz.slices_Sort_int g 0 cap l w hh hg (by omega));have hlen:(l.mergeSort fun x y=>decide (x<=y)).length=l.length:=Js _;generalize (l.mergeSort fun x y=>decide (x<=y))=zs at *;have HH:=hid hh;clear hh;go_enter Tryz.func149,Tryz.ntmps149;go_wp2_with fail
 refine R1.o.af ?_;rintro e w2 ⟨rfl,q,os,rfl⟩;have hsz:zs.toArray.size=l.toArray.size:=by simp;exact hlen
 have Ac:Holds (Value.int .i64) (grow (putRow (Value.int .i64) (Sort.ahead w q) g 0 zs.toArray) os) g 0 zs.toArray:=fun j hj=>by
  obtain⟨h1,h2⟩:=holds_putRow (Value.int .i64) (Sort.ahead w q) g 0 _ zs.toArray HH.o hsz j hj;have gA:g<(putRow (Value.int .i64) (Sort.ahead w q) g 0 zs.toArray).heap.size:=by rw[size_putRow];exact hg
  refine⟨(cell?_grow _ _ _ gA).trans h1,?_⟩;rw[frozen?_grow _ _ _ gA];exact h2
 have hgr:=Ji (w:=w) (g:=g) (n:=q) (os:=os) zs.toArray;have GR:g<(grow (putRow (Value.int .i64) (Sort.ahead w q) g 0 zs.toArray) os).heap.size:=aO hg hgr.size;generalize grow (putRow (Value.int .i64) (Sort.ahead w q) g 0 zs.toArray) os=w2 at *;have SD:=hid Ac;clear Ac;go_wp2;go_ret;exact⟨rfl,D7 SD.o GR (fun j hj=>⟨by simpa using hj,by simp⟩),hgr⟩
structure GV (w:World) (x y z:Value) (G D C Ab:Nat) (S:List Nat) (U:List Int) (wr:World) (F:List Fr) (A:List Nat):Prop where
 gk:GK w wr x y z
 szs:ck wr G S
 us:aC wr (some ⟨D,0,none⟩) U
 cs:ji wr C F
 vs:ck wr Ab A
 oG:w.heap.size+2<=G
 oD:w.heap.size+2<=D
 oGC:G<C
 oDC:D<C
 oCA:C<Ab
theorem GV.step {G C:Nat} {U:List Int} {F:List Fr} (h:GV w x y z G D C Ab S U wr F A) (hb:Below wr.heap.size wr wr'):GV w x y z G D C Ab S U wr' F A:=
 ⟨h.gk.step hb,h.szs.aa hb h.szs.lt,h.us.aa hb,h.cs.aa hb h.cs.lt,h.vs.aa hb h.vs.lt,h.oG,h.oD,h.oGC,h.oDC,h.oCA⟩
theorem aC.far {o:Nat} (h:aC w (some ⟨g,o,none⟩) l) (b j:Nat) (y:Value) (hne:g≠b):aC (w.setCell ⟨b,j,none⟩ y) (some ⟨g,o,none⟩) l:=fun k hk=>by
 obtain⟨g',o',e,h2,h3⟩:=h k hk;cases e;exact⟨g,o,rfl,by simpa using h2,(dO _ _ _ _ (fun e=>hne (by cases e;rfl))).trans h3⟩
theorem GK.far {V:World} (h:GK w V x y z) (b j:Nat) (u:Value) (hb:w.heap.size+2<=b):GK w (V.setCell ⟨b,j,none⟩ u) x y z:=
 ⟨⟨(jq V ⟨b,j,none⟩ u w.heap.size (by show w.heap.size≠b;omega)).trans h.1.1,h.1.2.setCell (p:=⟨b,j,none⟩) (by show w.heap.size<=b;omega) u⟩,h.2.off b j u (by omega)⟩
theorem GV.setA {G C:Nat} {U:List Int} {F:List Fr} (h:GV w x y z G D C Ab S U wr F A) (j k:Nat):GV w x y z G D C Ab S U (wr.setCell ⟨Ab,j,none⟩ (.int .i64 (k:Nat))) F (A.set j k):=by
 have:=h.oG;have:=h.oD;have:=h.oGC;have:=h.oDC;have:=h.oCA;exact⟨h.gk.far _ _ _ (by omega),h.szs.off _ _ _ (by omega),h.us.far _ _ _ (by omega),h.cs.off _ _ _ (by omega),h.vs.set _ _,h.oG,h.oD,h.oGC,h.oDC,h.oCA⟩
theorem GV.setC {G C:Nat} {U:List Int} {F:List Fr} (h:GV w x y z G D C Ab S U wr F A) (k:Nat) (f:Fr):GV w x y z G D C Ab S U (((wr.setCell ⟨C,k*3,none⟩ (.bool f.1)).setCell ⟨C,k*3+1,none⟩ (.string f.2.1)).setCell ⟨C,k*3+2,none⟩ (.string f.2.2)) (F.set k f) A:=by
 have:=h.oG;have:=h.oD;have:=h.oGC;have:=h.oDC;have:=h.oCA;exact⟨((h.gk.far _ _ _ (by omega)).far _ _ _ (by omega)).far _ _ _ (by omega),((h.szs.off _ _ _ (by omega)).off _ _ _ (by omega)).off _ _ _ (by omega),((h.us.far _ _ _ (by omega)).far _ _ _ (by omega)).far _ _ _ (by omega),h.cs.put k f,((h.vs.off _ _ _ (by omega)).off _ _ _ (by omega)).off _ _ _ (by omega),h.oG,h.oD,h.oGC,h.oDC,h.oCA⟩
variable {fn:Func} {x':Value} {w':World}
theorem df.check {t:Tb} (h:df S S.length t) (hf:dZ (iL S)):jh (iL S) t.1 t.2.length=0:=Rh (Co hf (by rw[bs];exact h.up)) (by rw[fF];exact h.len)
theorem df.small {t:Tb} (h:df S S.length t) (hf:dZ (iL S)):t.1.length<=8:=by
 have h1:=h.up.length;have h2:=hf.eight;rw[bs] at h2;omega
def Au (B:Nat) (t:Tb) (e:Ending) (w':World):Prop:=∃x y,e=.returned (.tuple #[.agg #[x,y],.int .i64 0])/\dw w' x y t/\∀R,R< B ->eR R t (x,y)
theorem rZ.tb {B:Nat} {t:Tb} {e:Ending} (h:rZ B t.1 t.2 0 e w'):Au B t e w':=by
 obtain⟨b,c,cb,cc,h1,h2,h3,h4,h5⟩:=h;exact⟨_,_,h1,⟨b,c,cb,cc,rfl,rfl,h2,h3,h4.1⟩,fun R hR=>eR.new h4 h5 hR⟩
theorem afV (a:Option Addr) (ca:Nat) (S:List Nat) (x y x' y':Value) (s t:Tb) (w:World) (aJ:dZ (iL S)) (hs:aC w a (iL S)) (h:dw w x y s) (h':dw w x' y' t) (ho:df S S.length s) (X5:df S S.length t) (hw:Cw 100000 s.2) (hw':Cw 100000 t.2):
  Calls Tryz.prog 161 #[.slice a S.length ca,.agg #[x,y],.agg #[x',y']] w fun e w'=>Au w.heap.size (wh S s t) e w'/\Below w.heap.size w w':=by
 obtain⟨b,c,cb,cc,rfl,rfl,h1,h2,h3⟩:=h;obtain⟨b',c',eX,oI,rfl,rfl,k1,k2,k3⟩:=h';have e1:=aJ.eight;rw[bs] at e1;have e2:=ho.small aJ;have e3:=X5.small aJ;have:=acB a b c b' c' ca cb cc eX oI (iL S) s.1 t.1 s.2 t.2 w hs h1 k1 h2 k2 (by rw[bs];omega) (by omega) (by omega) h3 k3 (ho.check aJ) (X5.check aJ) hw hw';rw[bs,fF] at this;exact this.af fun e w' hh=>⟨rZ.tb (t:=wh S s t) hh.1,hh.2⟩
theorem afh (w:World):dw (w.alloc (.cells #[.bool (aM 1),.string (nu 1),.string (de 1)] 32)) (.slice none 0 0) (.slice (some ⟨w.heap.size,0,none⟩) 1 1) zE:=by
 have hnew:=im w (.cells #[.bool (aM 1),.string (nu 1),.string (de 1)] 32);refine⟨none,_,0,1,rfl,rfl,(fun k hk=>absurd hk (by simp[zE])),fun k hk=>?_,fun _=>rfl⟩;obtain rfl:k=0:=by simp[zE] at hk;omega
 exact⟨_,0,rfl,(dm.1 hnew).1,(bX _ _ 0 _ _ (0,0) hnew).trans rfl,(bX _ _ 1 _ _ (0,0) hnew).trans rfl,(bX _ _ 2 _ _ (0,0) hnew).trans rfl⟩
theorem dw.putT {V:World} {u v:Value} {t:Tb} (h:dw V x y t) (hb:bw V g u v) (hu:dh u) (hv:dh v) (hx':dh x') (y':Value):dw ((V.setCell ⟨g,0,none⟩ x').setCell ⟨g,1,none⟩ y') x y t:=by
 obtain⟨b,c,cb,cc,h1,h2,h3,h4,h5⟩:=h;exact⟨b,c,cb,cc,h1,h2,h3.putT hb hu hv hx' y',h4.putT hb hu hv hx' y',h5⟩
theorem dw.slices {t:Tb} (h:dw w x y t):dh x/\dh y:=by
 obtain⟨b,c,cb,cc,rfl,rfl,_⟩:=h;exact⟨slv _ _ _,slv _ _ _⟩
theorem bw.result1 (h:bw w g x y) {p:Tmp} (hr:fn.results= #[.cell p 39]) (tmps:Array Value) (hp:tmps.getD p undef=.pointer (some ⟨g,0,none⟩)):
  (results fn tmps).run Tryz.prog w=.ok (.agg #[x,y]) w:=C3 hr tmps w g _ _ _ _ hp h Tryz.underlying39 rfl (by kernel_rfl)
theorem Vg (a b:Option Addr) (ca cb:Nat) (S:List Nat) (P:List Tb) (D c:Nat) (w:World) (aJ:dZ (iL S)) (hs:aC w a (iL S)) (hP:fY w b P) (aZ:eH S S.length P D c) (hpl:P.length<=1000) (hm:2*(B D).size+(B c).size+2<=8192):
  Calls Tryz.prog 105 #[.slice a S.length ca,.slice b P.length cb] w fun e w'=>∃x y,e=.returned (.agg #[x,y])/\dw w' x y (allT S P)/\Below w.heap.size w w':=by
 have dt:Pos S:=by have:=aJ.pos;rwa [fF] at this
 have mz:Hid (∀U:World,Calls Tryz.prog 53 #[.int .i64 1] U fun e w'=>e=.returned (.agg #[.bool (aM 1),.string (nu 1),.string (de 1)])/\Below U.heap.size U w'):=fun U=>H5 (k:=1) (w:=U) 1 1 rfl (by decide) rfl
 have HML:Hid (∀(k:Nat) (hk:k<P.length) (x y x' y':Value) (U:World),Below w.heap.size w U ->dw U x y (allT S (P.take k)) ->dw U x' y' P[k] ->Calls Tryz.prog 161 #[.slice a S.length ca,.agg #[x,y],.agg #[x',y']] U fun e w'=>Au U.heap.size (allT S (P.take (k+1))) e w'/\Below U.heap.size U w'):=fun k hk x y x' y' U hU h1 h2=>by
  have h3:=aZ.part dt hm k;have h4:=aZ.cw dt hm P[k] (bM hk);have e:allT S (P.take (k+1))=wh S (allT S (P.take k)) P[k]:=by rw[allT,fP hk,List.foldl_append];rfl
  rw[e];exact afV a ca S x y x' y' _ _ U aJ (hs.aa hU) h1 h2 h3.1 (aZ.ok _ (bM hk)) (h3.2.up (by decide)) (h4.up (by decide))
 have HP:=hid hP;have H0:Hid (allT S (P.take 0)=zE):=rfl;clear hs hP aZ aJ dt hm;obtain⟨T,hT⟩:∃T:Nat ->Tb,∀k,allT S (P.take k)=T k:=⟨fun k=>allT S (P.take k),fun _=>rfl⟩;have tG:Hid (T P.length=allT S P):=by show _=_;rw[<- hT,gX]
 simp only[hT] at HML H0;clear hT;go_enter Tryz.func105,Tryz.ntmps105;go_wp2_with fail
 have rU:=(au w.heap.size w).alloc (aq _) (TC (.slice none 0 0) (.slice none 0 0));have Eh:=bw.at (w:=w) rfl (.slice none 0 0) (.slice none 0 0);refine(mz.o _).af ?_;rintro e w2 ⟨rfl,hb2⟩;have hB2:=rU.trans (hb2.af rU.size);have Qs:=Eh.aa hb2 Eh.lt;have QL:=hB2.alloc hB2.size (.cells #[.bool (aM 1),.string (nu 1),.string (de 1)] 32);have wE:=afh w2;have hs3:(w2.alloc (.cells #[.bool (aM 1),.string (nu 1),.string (de 1)] 32)).heap.size=w2.heap.size+1:=by simp
 have He:=Qs.alloc (.cells #[.bool (aM 1),.string (nu 1),.string (de 1)] 32);have kO:=QL.alloc QL.size (TC (.slice none 0 0) (.slice (some ⟨w2.heap.size,0,none⟩) 1 1));have Qr:=He.alloc (TC (.slice none 0 0) (.slice (some ⟨w2.heap.size,0,none⟩) 1 1));have z7:=bw.at (w:=w2.alloc (.cells #[.bool (aM 1),.string (nu 1),.string (de 1)] 32)) hs3 (.slice none 0 0) (.slice (some ⟨w2.heap.size,0,none⟩) 1 1);have X3:=wE.aa ((au _ _).alloc (aq _) (TC (.slice none 0 0) (.slice (some ⟨w2.heap.size,0,none⟩) 1 1)));have hlt:=Qs.lt;have eY:=hid kO;have gR:=hid Qr;have yJ:=hid z7;have CL:=hid X3;clear rU Eh hb2 hB2 Qs QL wE hs3 He kO Qr z7 X3;go_wp2_with fail
 go_loopw [13] (fun iv wr=>∃(i:Nat) (x y:Value),i<=P.length/\iv=.int .i64 i/\Hid (bw wr (w2.heap.size+1) x y)/\Hid (dw wr x y (T i))/\Hid (bw wr w.heap.size (.slice none 0 0) (.slice none 0 0))/\Hid (Below w.heap.size w wr)) (fun iv _=>P.length - (intOf iv).toNat)
 case atStart=>exact⟨0,_,_,aU _,rfl,yJ,by rw[H0.o];exact CL,gR,eY⟩
 case round=>
  obtain⟨i,x,y,hi,rfl,HX,HV,HT,HB⟩:=hrel;clear yJ CL gR eY;obtain⟨XM,XL⟩:=HV.o.slices;obtain⟨x0,x1,xf0,xf1⟩:=HX.o.facts;by_cases hlt2:i<P.length
  ·obtain⟨g,o,p,q,rfl,hg,k0,k1,yg⟩:=(HP.o.aa HB.o) i hlt2;have hA:=(au wr.heap.size wr).alloc (aq _) (TC p q);have bW:=hid (HB.o.trans (hA.af HB.o.size));have jC:=hid (HX.o.alloc (TC p q));have oN:=hid (HT.o.alloc (TC p q));have bF:=bw.at (w:=wr) rfl p q;obtain⟨xa0,xa1,_,_⟩:=jC.o.facts;have b0:=bF.c0;have b1:=bF.c1;have HM:=hid (HML.o i hlt2 x y p q _ bW.o (HV.o.aa hA) (yg.aa hA));obtain⟨ps,pn,pc,rfl⟩:=yg.slices.1;obtain⟨qs,qn,qc,rfl⟩:=yg.slices.2;clear yg hA bF x0 x1 xf0 xf1;go_wp2_with fail
   refine HM.o.af ?_;rintro e w3 ⟨⟨x2,y2,rfl,hv2,_⟩,hb3⟩;have mI:=jC.o.aa hb3 jC.o.lt;have He:=oN.o.aa hb3 oN.o.lt;have bL:=bW.o.trans (hb3.af bW.o.size);obtain⟨c0,c1,f0,f1⟩:=mI.facts;obtain⟨xs,xn,xc,rfl⟩:=hv2.slices.1;obtain⟨ys,yn,yc,rfl⟩:=hv2.slices.2;have tD:=hid (mI.put (.slice xs xn xc) (.slice ys yn yc));have L0:=hid (hv2.putT mI XM XL (slv xs xn xc) (.slice ys yn yc));have EC:Hid (bw ((w3.setCell ⟨w2.heap.size+1,0,none⟩ (.slice xs xn xc)).setCell ⟨w2.heap.size+1,1,none⟩ (.slice ys yn yc)) w.heap.size (.slice none 0 0) (.slice none 0 0)):=(He.off _ _ _ (by omega)).off _ _ _ (by omega);have eT:=hid (mK (g:=w2.heap.size+1) bL (by omega) (.slice xs xn xc) (.slice ys yn yc));clear hv2 hb3 mI He bL HM xa0 xa1 b0 b1 k0 k1;go_wp2;go_roundw
   case rel=>exact⟨i+1,_,_,by omega,by go_num,tD,L0,EC,eT⟩
   case measure=>simp[intOf];omega
  ·obtain rfl:i=P.length:=by omega
   rw[tG.o] at HV;obtain⟨t0,t1,f0,f1⟩:=HT.o.facts;obtain⟨xs,xn,xc,rfl⟩:=XM;obtain⟨ys,yn,yc,rfl⟩:=XL;have yS:=hid (HT.o.put (.slice xs xn xc) (.slice ys yn yc));have yK:=hid (HV.o.putT HT.o (slv _ _ _) (slv _ _ _) (slv xs xn xc) (.slice ys yn yc));have eY:=hid (mK HB.o (aq _) (.slice xs xn xc) (.slice ys yn yc));go_wp2;refine bS (yS.o.result1 rfl _ rfl) rfl ?_;exact⟨_,_,rfl,yK.o,eY.o⟩
def PlC (x y z:Value):Obj:=.cells #[x,y,z] 87
def bC (w:World) (g:Nat) (x y z:Value):Prop:=w.heap[g]? =some (.cells #[x,y,z] 87 (0,0))
theorem bC.at (hg:w.heap.size=g) (x y z:Value):bC (w.alloc (PlC x y z)) g x y z:=by subst hg;exact im w _
theorem bC.lt (h:bC w g x y z):g<w.heap.size:=(dm.1 h).1
theorem bC.aa {b:Nat} (h:bC w g x y z) (hb:Below b w w') (hg:g<b):bC w' g x y z:=(hb.block g hg).trans h
theorem bC.alloc (h:bC w g x y z) (o:Obj):bC (w.alloc o) g x y z:=(rB w o g h.lt).trans h
theorem bC.cells (h:bC w g x y z):w.cell? ⟨g,0,none⟩=some x/\w.cell? ⟨g,1,none⟩=some y/\w.cell? ⟨g,2,none⟩=some z:=
 ⟨by rw[bX w g 0 _ _ (0,0) h];rfl,by rw[bX w g 1 _ _ (0,0) h];rfl,by rw[bX w g 2 _ _ (0,0) h];rfl⟩
theorem bC.fz (h:bC w g x y z) (j:Nat):w.frozen? ⟨g,j,none⟩=false:=kZ w g j _ _ h
theorem bC.set0 (h:bC w g x y z) (u:Value):bC (w.setCell ⟨g,0,none⟩ u) g u y z:=jY w g 0 _ _ u h
theorem bC.set1 (h:bC w g x y z) (u:Value):bC (w.setCell ⟨g,1,none⟩ u) g x u z:=jY w g 1 _ _ u h
theorem bC.set2 (h:bC w g x y z) (u:Value):bC (w.setCell ⟨g,2,none⟩ u) g x y u:=jY w g 2 _ _ u h
theorem bC.put (h:bC w g x y z) (u v s:Value):bC (((w.setCell ⟨g,0,none⟩ u).setCell ⟨g,1,none⟩ v).setCell ⟨g,2,none⟩ s) g u v s:=((h.set0 u).set1 v).set2 s
theorem bC.result1 (h:bC w g x y z) {p:Tmp} (hr:fn.results= #[.cell p 87]) (tmps:Array Value) (hp:tmps.getD p undef=.pointer (some ⟨g,0,none⟩)):
  (results fn tmps).run Tryz.prog w=.ok (.agg #[x,y,z]) w:=C3 hr tmps w g _ _ _ _ hp h Tryz.underlying87 rfl (by kernel_rfl)
theorem Vm (u v:Int) (B:Nat) (W:World) (hc:W.cell? ⟨B,0,none⟩=some (.int .i64 v)):
  FnGives Tryz.prog 153 #[.pointer (some ⟨B,0,none⟩)] #[.int .i64 u] (.bool (u==v)) W:=by
 show Calls Tryz.prog 153 #[.int .i64 u,.pointer (some ⟨B,0,none⟩)] W _;go_enter Tryz.func153,Tryz.ntmps153;go_wp2
 all_goals (go_ret;exact⟨by simp_all,0,rfl⟩)
theorem aer (v:Int) (B:Nat) (w:World) (hB:B<w.heap.size) (hc:w.cell? ⟨B,0,none⟩=some (.int .i64 v)):
  PredAt Tryz.prog 153 #[.pointer (some ⟨B,0,none⟩)] (Value.int .i64) (fun u=>u==v) w:=
 fun W x hb=>Vm x v B W ((hb.cell (p:=⟨B,0,none⟩) hB).trans hc)
theorem aeq (v:Int) (B blk off size:Nat) (w:World) (hB:B<w.heap.size) (hne:B≠blk) (hc:w.cell? ⟨B,0,none⟩=some (.int .i64 v)):
  PredOver Tryz.prog 153 #[.pointer (some ⟨B,0,none⟩)] (Value.int .i64) (fun u=>u==v) blk off size w:=
 fun n os dk x _=>Vm x v B _ (by
  unfold sortWorld;rw[cell?_grow _ _ _ (by show B<(putRow _ _ _ _ _).heap.size;rw[size_putRow];exact hB),cell?_putRow_other _ _ blk off _ _ (Or.inl hne)];exact hc)
theorem Vo (x z:Value) (b:Option Addr) (cb:Nat) (fr:List Int) (v:Int) (w:World) (hx:dh x) (hz:dh z) (h:aC w b fr) (hn:fr.length<=1000):
  Calls Tryz.prog 96 #[.agg #[x,.slice b fr.length cb,z],.int .i64 v] w fun e w'=>∃d cd,e=.returned (.agg #[x,.slice d (bJ fr v).length cd,.slice none 0 0])/\aC w' d (bJ fr v)/\fM w.heap.size d cd/\Below w.heap.size w w':=by
 obtain⟨xa,xn,xc,rfl⟩:=hx;obtain⟨za,zn,zc,rfl⟩:=hz;have HV:=hid h;obtain⟨L,hL⟩:∃L,bJ fr v=L:=⟨_,rfl⟩;rw[hL];have HL:=hid hL;clear h hL;go_enter Tryz.func96,Tryz.ntmps96;go_wp2_with fail
 have hb0:Below w.heap.size w (((w.alloc (.cells #[.slice xa xn xc,.slice b fr.length cb,.slice za zn zc] 87)).alloc (.cells #[.int .i64 v] 3)).alloc (.cells #[.slice none 0 0,.slice none 0 0,.slice none 0 0] 87)):=by
  have h1:=(au w.heap.size w).alloc (aq _) (.cells #[.slice xa xn xc,.slice b fr.length cb,.slice za zn zc] 87);have h2:=h1.alloc h1.size (.cells #[.int .i64 v] 3);exact h2.alloc h2.size _
 have uI:bC (((w.alloc (.cells #[.slice xa xn xc,.slice b fr.length cb,.slice za zn zc] 87)).alloc (.cells #[.int .i64 v] 3)).alloc (.cells #[.slice none 0 0,.slice none 0 0,.slice none 0 0] 87)) w.heap.size (.slice xa xn xc) (.slice b fr.length cb) (.slice za zn zc):=((bC.at (w:=w) rfl _ _ _).alloc _).alloc _
 have hx0:Boxed (((w.alloc (.cells #[.slice xa xn xc,.slice b fr.length cb,.slice za zn zc] 87)).alloc (.cells #[.int .i64 v] 3)).alloc (.cells #[.slice none 0 0,.slice none 0 0,.slice none 0 0] 87)) (w.heap.size+1) 3 (.int .i64 v):=by
  have:=(aY (w.alloc (.cells #[.slice xa xn xc,.slice b fr.length cb,.slice za zn zc] 87)) 3 (.int .i64 v)).alloc (.cells #[.slice none 0 0,.slice none 0 0,.slice none 0 0] 87);rwa [di] at this
 have jf:bC (((w.alloc (.cells #[.slice xa xn xc,.slice b fr.length cb,.slice za zn zc] 87)).alloc (.cells #[.int .i64 v] 3)).alloc (.cells #[.slice none 0 0,.slice none 0 0,.slice none 0 0] 87)) (w.heap.size+1+1) (.slice none 0 0) (.slice none 0 0) (.slice none 0 0):=bC.at (w:=(w.alloc (.cells #[.slice xa xn xc,.slice b fr.length cb,.slice za zn zc] 87)).alloc (.cells #[.int .i64 v] 3)) (by simp) _ _ _;generalize (((w.alloc (.cells #[.slice xa xn xc,.slice b fr.length cb,.slice za zn zc] 87)).alloc (.cells #[.int .i64 v] 3)).alloc (.cells #[.slice none 0 0,.slice none 0 0,.slice none 0 0] 87))=W at *;refine(JT b cb fr _ (HV.o.aa hb0) (by omega)).af ?_;rintro e w1 ⟨x,rfl,hr,hb1⟩;have hx1:=aS hx0 hb1;have Ci:=uI.aa hb1 uI.lt;have hR1:=jf.aa hb1 jf.lt;have hB1:=hb0.trans (hb1.af hb0.size);have hlt:=jf.lt;have hs1:=hb1.size;clear hx0 uI jf hb0 hb1;rcases hr.cases with ⟨rfl,rfl⟩ |⟨g,cap,rfl,hg0,hg,hc1,hc2,hh⟩
 ·go_wp2_with fail
  refine(Uv _ _).af ?_;rintro e w2 ⟨rfl,hb2⟩;have Hi:=Ci.aa hb2 Ci.lt;have hR2:=hR1.aa hb2 hR1.lt;have hB2:=hB1.trans (hb2.af hB1.size);have Hk:L=[]:=HL.o.symm;subst Hk;obtain⟨p0,p1,p2⟩:=Hi.cells;obtain⟨r0,r1,r2⟩:=hR2.cells;have rf:=hR2.fz;have J5:=rf 0;have J4:=rf 1;have JZ:=rf 2;have yQ:=hid (hR2.put (.slice xa xn xc) (.slice none 0 0) (.slice none 0 0));have rh:=hid (cQ hB2 (show w.heap.size<=w.heap.size+1+1 by omega) (.slice xa xn xc) (.slice none 0 0) (.slice none 0 0));clear rf Hi hR2 hB2;go_wp2;refine bS (yQ.o.result1 rfl _ rfl) rfl ?_;exact⟨none,0,rfl,fun k hk=>absurd hk (by simp),fM.nil _,rh.o⟩
 ·have hcon:=Tryz.slices_DeleteFunc (Value.int .i64) (fun _=>rfl) (fun u=>u==v) 153 #[.pointer (some ⟨w.heap.size+1,0,none⟩)] (enters_of Tryz.func153 (by kernel_rfl) rfl) 0 Tryz.zeroValue3 g 0 cap fr.toArray w1 (aer v _ _ hx1.lt hx1.cell) (aeq v _ g 0 _ _ hx1.lt (by omega) hx1.cell) hh (by simp;omega) (by simpa using hc1);have hsz:fr.toArray.size=fr.length:=by simp
  rw[hsz] at hcon;have jP:fr.toArray.toList.filter (fun x=>!(x==v))=bJ fr v:=by simp[bJ]
  rw[jP,HL.o] at hcon;have c4:L.length<=fr.length:=by rw[<- HL.o];exact lT _ _
  have I8:=hid hcon;have HH:=hid hh;have mP:=hid c4;clear hcon hh hr hsz jP hc1 hc2 c4;go_wp2_with fail
  refine I8.o.af ?_;rintro e w2 ⟨rfl,q,hw2⟩
  have rJ:(L++List.replicate (fr.length - L.length) 0).toArray.size=fr.toArray.size:=by
   have:=mP.o;simp;omega
  have Ld:aC w2 (some ⟨g,0,none⟩) L:=by
   rw[hw2];exact D7 (holds_putRow (Value.int .i64) (Sort.ahead w1 q) g 0 fr.toArray _ HH.o rJ) (by rw[size_putRow];exact hg) (fun j hj=>⟨by simp;omega,by simp[nX,hj]⟩)
  have hk2:∀k,k<w1.heap.size ->k≠g ->w2.heap[k]? =w1.heap[k]?:=fun k hk hne=>by
   rw[hw2];have h1:=Ji (w:=w1) (g:=g) (n:=q) (os:= #[]) ((L++List.replicate (fr.length - L.length) 0).toArray);rw[grow_empty] at h1;exact h1.block k hk (fun e=>hne (mS e))
  have Hi:bC w2 w.heap.size (.slice xa xn xc) (.slice b fr.length cb) (.slice za zn zc):=(hk2 _ Ci.lt (by omega)).trans Ci;have hR2:bC w2 (w.heap.size+1+1) (.slice none 0 0) (.slice none 0 0) (.slice none 0 0):=(hk2 _ hR1.lt (by omega)).trans hR1;have hB2:Below w.heap.size w w2:=by rw[hw2];exact Ro _ hB1 hB1.size (by omega)
  obtain⟨p0,p1,p2⟩:=Hi.cells;obtain⟨r0,r1,r2⟩:=hR2.cells;have rf:=hR2.fz;have J5:=rf 0;have J4:=rf 1;have JZ:=rf 2;have yQ:=hid (hR2.put (.slice xa xn xc) (.slice (some ⟨g,0,none⟩) L.length cap) (.slice none 0 0));have rh:=hid (cQ hB2 (show w.heap.size<=w.heap.size+1+1 by omega) (.slice xa xn xc) (.slice (some ⟨g,0,none⟩) L.length cap) (.slice none 0 0));have Mo:=hid (((Ld.off (g:=w.heap.size+1+1) (j:=0) (y:=.slice xa xn xc) (fun g' o' e _=>by cases e;omega)).off (g:=w.heap.size+1+1) (j:=1) (y:=.slice (some ⟨g,0,none⟩) L.length cap) (fun g' o' e _=>by cases e;omega)).off (g:=w.heap.size+1+1) (j:=2) (y:=.slice none 0 0) (fun g' o' e _=>by cases e;omega));clear rf Hi hR2 hB2 Ld hk2 rJ hw2;go_wp2;refine bS (yQ.o.result1 rfl _ rfl) rfl ?_;exact⟨some ⟨g,0,none⟩,cap,rfl,Mo.o,fM.at (by omega),rh.o⟩
variable {F:List (Int×Int)} {a:Option Addr}
def ky (w:World) (a:Option Addr) (F:List (Int×Int)):Prop:=∀k (h:k<F.length),∃g o,a=some ⟨g,o,none⟩/\g<w.heap.size/\w.cell? ⟨g,o+k*2,none⟩=some (.int .i64 F[k].1)/\w.cell? ⟨g,o+k*2+1,none⟩=some (.int .i64 F[k].2)
theorem ky.aa (h:ky w a F) (hb:Below w.heap.size w w'):ky w' a F:=fun k hk=>by
 obtain⟨g,o,h1,h2,h3,h4⟩:=h k hk;exact⟨g,o,h1,aO h2 hb.size,(hb.cell (p:=⟨g,_,none⟩) h2).trans h3,(hb.cell (p:=⟨g,_,none⟩) h2).trans h4⟩
theorem ky.take (h:ky w a F) (i:Nat):ky w a (F.take i):=fun k hk=>by
 have eV:k<F.length:=by rw[dP] at hk;omega
 obtain⟨g,o,h1,h2,h3,h4⟩:=h k eV;rw[zm];exact⟨g,o,h1,h2,h3,h4⟩
theorem agW (a:Option Addr) (ca f:Nat) (lb:Array Value) (F:List (Int×Int)) (p:Int×Int ->Bool) (w:World) (h:ky w a F) (hn:F.length<=1000) (eF:∀args w,(callFunc f args).run Tryz.prog w=.ok (.enter f args) w)
  (hp:∀q∈F,∀U:World,Below w.heap.size w U ->Calls Tryz.prog f (#[.agg #[.int .i64 q.1,.int .i64 q.2]]++lb) U fun e w'=>e=.returned (.bool (p q))/\Below U.heap.size U w'):
  Calls Tryz.prog 139 #[.slice a F.length ca,.func (.func f) #[] lb] w fun e w'=>∃j:Int,e=.returned (.int .i64 j)/\decide (0<=j)=F.any p/\Below w.heap.size w w':=by
 have HF:=hid h;have HP:=hid hp
 have gG:Hid ((∀i (hi:i<F.length),p F[i]=false) ->F.any p=false):=fun hh=>Jw.2 fun q hq=>by
  obtain⟨i,hi,rfl⟩:=iZ hq;rw[hh i hi];decide
 have RN:Hid (∀i (hi:i<F.length),p F[i]=true ->F.any p=true):=fun i hi hh=>sJ.2 ⟨_,bM hi,hh⟩;clear h hp;generalize F.any p=R at *;go_enter Tryz.func139,Tryz.ntmps139;go_wp2_with fail
 go_loopw [8] (fun iv wr=>∃i:Nat,i<=F.length/\iv=.int .i64 i/\Hid (∀j (hj:j<F.length),j< i ->p F[j]=false)/\Hid (Below w.heap.size w wr)) (fun iv _=>F.length - (intOf iv).toNat)
 case atStart=>exact⟨0,aU _,rfl,(fun j _ hj=>absurd hj (by omega)),au _ _⟩
 case round=>
  obtain⟨i,hi,rfl,HN,HB⟩:=hrel;by_cases hlt:i<F.length
  ·obtain⟨g,o,rfl,hg,h0,h1⟩:=HF.o i hlt;have k0:=(HB.o.cell (p:=⟨g,_,none⟩) hg).trans h0;have k1:=(HB.o.cell (p:=⟨g,_,none⟩) hg).trans h1;have HC:=hid (HP.o F[i] (bM hlt) wr HB.o);have RM:=hid (RN.o i hlt)
   have tO:Hid (p F[i]=false ->∀j (hj:j<F.length),j<i+1 ->p F[j]=false):=fun e j hj ux=>by
    rcases cT j i with h2 |h2
    ·exact HN.o j hj h2
    ·obtain rfl:j=i:=by omega
     exact e
   clear h0 h1;generalize p F[i]=q at *;generalize F[i].1=f1 at *;generalize F[i].2=f2 at *;go_wp2_with fail
   refine HC.o.af ?_;rintro e w2 ⟨rfl,hb2⟩;have bB:=hid (HB.o.trans (hb2.af HB.o.size));clear hb2 HC;cases q with
   |true=>
    have HE:=hid (RM.o rfl);go_wp2;go_ret;exact⟨(i:Nat),rfl,by rw[HE.o];simp,bB.o⟩
   |false=>
    have HE:=hid (tO.o rfl);go_wp2;go_roundw
    case rel=>exact⟨i+1,by omega,by go_num,HE,bB⟩
    case measure=>simp[intOf];omega
  ·obtain rfl:i=F.length:=by omega
   have HE:=hid (gG.o fun j hj=>HN.o j hj hj);go_wp2;go_ret;exact⟨-1,rfl,by rw[HE.o];rfl,HB.o⟩
theorem ajB (a:Option Addr) (ca f:Nat) (lb:Array Value) (F:List (Int×Int)) (p:Int×Int ->Bool) (w:World) (h:ky w a F) (hn:F.length<=1000) (eF:∀args w,(callFunc f args).run Tryz.prog w=.ok (.enter f args) w)
  (hp:∀q∈F,∀U:World,Below w.heap.size w U ->Calls Tryz.prog f (#[.agg #[.int .i64 q.1,.int .i64 q.2]]++lb) U fun e w'=>e=.returned (.bool (p q))/\Below U.heap.size U w'):
  Calls Tryz.prog 84 #[.slice a F.length ca,.func (.func f) #[] lb] w fun e w'=>e=.returned (.bool (F.any p))/\Below w.heap.size w w':=by
 have HI:=hid (agW a ca f lb F p w h hn eF hp);clear h hp;generalize F.any p=R at *;go_enter Tryz.func84,Tryz.ntmps84;go_wp2_with fail
 refine HI.o.af ?_;rintro e w2 ⟨j,rfl,hj,hb2⟩;have HB:=hid hb2;have HJ:=hid hj;clear hb2 hj;go_wp2;go_ret;exact⟨by rw[<- HJ.o];rfl,HB.o⟩
theorem agN (q:Int×Int) (v:Int) (B:Nat) (w:World) (hB:B<w.heap.size) (hc:w.cell? ⟨B,0,none⟩=some (.int .i64 v)):
  Calls Tryz.prog 85 #[.agg #[.int .i64 q.1,.int .i64 q.2],.pointer (some ⟨B,0,none⟩)] w fun e w'=>e=.returned (.bool (q.1==v))/\Below w.heap.size w w':=by
 obtain⟨q1,q2⟩:=q;have HA:=hid ((au w.heap.size w).alloc (aq _) (.cells #[.int .i64 q1,.int .i64 q2] 90));have hc':=(HA.o.cell (p:=⟨B,0,none⟩) hB).trans hc;show Calls Tryz.prog 85 #[.agg #[.int .i64 q1,.int .i64 q2],.pointer (some ⟨B,0,none⟩)] w fun e w'=>e=.returned (.bool (q1==v))/\Below w.heap.size w w';clear hc;go_enter Tryz.func85,Tryz.ntmps85;go_wp2
 all_goals (go_ret;exact⟨by simp_all,HA.o⟩)
theorem Xf (a:Option Addr) (ca:Nat) (F:List (Int×Int)) (v:Int) (w:World) (h:ky w a F) (hn:F.length<=1000):
  Calls Tryz.prog 40 #[.slice a F.length ca,.int .i64 v] w fun e w'=>e=.returned (.bool (F.any fun p=>p.1==v))/\Below w.heap.size w w':=by
 have hA:=(au w.heap.size w).alloc (aq _) (.cells #[.int .i64 v] 3);have hx:=aY w 3 (.int .i64 v);have HC:=hid (ajB a ca 85 #[.pointer (some ⟨w.heap.size,0,none⟩)] F (fun p=>p.1==v) _ (h.aa hA) hn (enters_of Tryz.func85 (by kernel_rfl) rfl) (fun q _ U hU=>agN q v w.heap.size U (aO hx.lt hU.size) ((hU.cell (p:=⟨w.heap.size,0,none⟩) hx.lt).trans hx.cell)));have HA:=hid hA;clear h hA hx;generalize (F.any fun p=>p.1==v)=R at *;go_enter Tryz.func40,Tryz.ntmps40;go_wp2_with fail
 refine HC.o.af ?_;rintro e w2 ⟨rfl,hb2⟩;have HB:=hid (HA.o.trans (hb2.af HA.o.size));clear hb2;go_wp2;go_ret;exact⟨rfl,HB.o⟩
variable {ops:Array Oper} {Q:List (Value×Value)} {rest:List Oper} {P:List Tb} {xs:List Value} {c j lo m n:Nat} {tv u1 u2:Value} {V':World}
theorem QT (W:World) (b:Option Nat):W.grownBy W b:=World.grownBy.refl _ _
theorem QU {W V:World} {b:Option Nat} (h:W.grownBy V b) (hb:Below V.heap.size V V'):W.grownBy V' b:=
 ⟨hb.os.trans h.os,hb.tape.trans h.tape,hb.output.trans h.output,aL h.size hb.size,fun k hk hne=>(hb.block k (aO hk h.size)).trans (h.block k hk hne)⟩
theorem Hu {W V:World} {b r:Option Nat} (h:W.grownBy V b) (hg:V.grownBy V' r) (hr:∀k,r=some k ->W.heap.size<=k):W.grownBy V' b:=
 ⟨hg.os.trans h.os,hg.tape.trans h.tape,hg.output.trans h.output,aL h.size hg.size,fun k hk hne=>(hg.block k (aO hk h.size) fun e=>by have:=hr k e.symm;omega).trans (h.block k hk hne)⟩
theorem Lm {W V:World} {b:Nat} (h:W.grownBy V (some b)) (j:Nat) (y:Value):W.grownBy (V.setCell ⟨b,j,none⟩ y) (some b):=by
 have hk:=(au 0 V).setCell (p:=⟨b,j,none⟩) (aU _) y;exact⟨hk.os.trans h.os,hk.tape.trans h.tape,hk.output.trans h.output,aL h.size hk.size,fun k eV hne=>(jq V ⟨b,j,none⟩ y k (fun e=>hne (by rw[e]))).trans (h.block k eV hne)⟩
theorem Ht {W V:World} {b B:Nat} (hw:Below B w W) (h:W.grownBy V (some b)) (hb:B<=b) (hB:B<=W.heap.size):Below B w V:=hw.grown h hB (fun k e=>by cases e;exact hb)
theorem dA.off {d:Option Addr} {l:List Fr} (h:dA w d l) (hne:∀g' o',d=some ⟨g',o',none⟩ ->l≠[] ->g'≠g):dA (w.setCell ⟨g,j,none⟩ y) d l:=fun k hk=>by
 obtain⟨g',o',e,hg,h0,h1,h2⟩:=h k hk;have hn:=hne g' o' e (fun e=>by rw[e] at hk;exact absurd hk (by simp));have hb:(w.setCell ⟨g,j,none⟩ y).heap[g']? =w.heap[g']?:=jq w ⟨g,j,none⟩ y g' hn;exact⟨g',o',e,aO hg (jo w _ _).size,(lQ (a:=⟨g',_,none⟩) hb).trans h0,(lQ (a:=⟨g',_,none⟩) hb).trans h1,(lQ (a:=⟨g',_,none⟩) hb).trans h2⟩
theorem dw.off {t:Tb} (h:dw w x y t) (u:Value) (hn:eR g t (x,y)):dw (w.setCell ⟨g,j,none⟩ u) x y t:=by
 obtain⟨b,c,cb,cc,rfl,rfl,h3,h4,h5⟩:=h;exact⟨b,c,cb,cc,rfl,rfl,h3.off (fun g' o' e hne=>hn.1 g' o' _ _ (by rw[e]) hne),h4.off (fun g' o' e hne=>hn.2 g' o' _ _ (by rw[e]) hne),h5⟩
theorem ku.off {B:Nat} {v:Value} (h:ku w B v Q P) (u:Value) (hf:∀k (h:k<P.length) (h':k<Q.length),eR g P[k] Q[k]) (hne:v.ownBlock≠some g):ku (w.setCell ⟨g,j,none⟩ u) B v Q P:=
 ⟨h.len,Jg h.own hne u,fun k h1 h2=>(h.val k h1 h2).off u (hf k h1 h2),h.far⟩
theorem N8 {B:Nat} {e:TypeId} {s:Nat} (h:w.ownsRow B e s (.slice a m c) n xs):fM B a c:=by
 rcases h.2 with ⟨h1,h2⟩ |⟨g,cap,cur,h1,h2,_⟩
 ·injection h1 with h3 h4 h5;subst h3 h5;exact fM.nil B
 ·injection h1 with h3 h4 h5;subst h3;exact fM.at h2
theorem JE {o:Oper} {a:Act} {Q:Exit ->Act ->World ->Prop} (hgd:o.guard=none) (s x:Operand)
  (ho:o.op=.call {callee:=.builtin .append,args:= #[s,x],argTypes:= #[85,85]}) (base:Nat) (v:Value) (n:Nat) (xs:List Value) (u1 u2:Value) (hs:a.eval s=v) (hown:w.ownsRow base 39 2 v n xs) (g:Nat) (hx:a.eval x=.slice (some ⟨g,0,none⟩) 1 1) (h0:w.cell? ⟨g,0,none⟩=some u1) (h1:w.cell? ⟨g,1,none⟩=some u2) (hu1:dh u1) (hu2:dh u2) (hlen:n+1<=100000) (hbase:base<=w.heap.size)
  (h:∀v' w',w'.ownsRow base 39 2 v' (n+1) (xs++[u1,u2]) ->w.grownBy w' v.ownBlock ->(v'.ownBlock=v.ownBlock∨∀k,v'.ownBlock=some k ->w.heap.size<=k) ->wpList Tryz.prog ops Q rest (a.put o.dst v') w'):wpList Tryz.prog ops Q (o::rest) a w:=by
 obtain⟨i0,bY,hz0,hz1,hz2⟩:=dH Tryz.infoTable
 obtain⟨v',w',hr,r1,r2,r3⟩:=UL (P:=Tryz.prog) w base 85 o.type 39 i0 (.agg #[.slice none 0 0,.slice none 0 0]) 2 48 Tryz.underlying85 bY hz0 hz1 hz2 rfl (by decide) v n xs hown ⟨g,0,none⟩ 1 1 [u1,u2] rfl (fun j u hj=>by
  match j,hj with
  |0,hj=>cases hj;exact h0
  |1,hj=>cases hj;exact h1
  |j+2,hj=>simp at hj) (fun u hu=>by
  simp only[dG,kC,sF] at hu;rcases hu with rfl |rfl
  ·obtain⟨_,_,_,rfl⟩:=hu1;rfl
  ·obtain⟨_,_,_,rfl⟩:=hu2;rfl) (by unfold maxLen;omega) (by omega) hbase (by decide)
 refine wpList_plain hgd fun _ hK=>?_;unfold Oper.wp execOp;simp only[ho,resolve,invoke,builtin,Fc,AX,xD,Fq,fQ,k7,hs,hx,hr];exact hK _ _ (h v' w' r1 r2 r3)
structure qR (lo:Nat) (W:World) (b:Nat) (x y:Value) (tv:Value) (Q:List (Value×Value)) (P:List Tb) (V:World):Prop where
 box:bC V b x y tv
 own:ku V W.heap.size tv Q P
 far:∀R,lo<=R ->R<=b ->∀k (h:k<P.length) (h':k<Q.length),eR R P[k] Q[k]
 fr:W.grownBy V (some b)
theorem qR.start {W:World} {b:Nat} (h:bC W b x y (.slice none 0 0)):qR lo W b x y (.slice none 0 0) [] [] W:=⟨h,ku.nil _ _,(fun R _ _ k h=>absurd h (by simp)),QT _ _⟩
theorem qR.under {W V:World} {b:Nat} (h:qR lo W b x y tv Q P V) (hb:Below V.heap.size V V'):qR lo W b x y tv Q P V':=⟨h.box.aa hb h.box.lt,h.own.under hb,h.far,QU h.fr hb⟩
theorem qR.push {W V:World} {b:Nat} {dr:Value} {t:Tb} (h:qR lo W b x y tv Q P V) (hlo:lo<=b) (hb:b<W.heap.size) (ht:dw V u1 u2 t) (hf:∀R,tv.ownBlock=some R ->eR R t (u1,u2)) (hfb:∀R,lo<=R ->R<=b ->eR R t (u1,u2)) (ho:V'.ownsRow W.heap.size 39 2 dr (P.length+1) (dM Q++[u1,u2])) (hg:V.grownBy V' tv.ownBlock) (hn:dr.ownBlock=tv.ownBlock∨∀k,dr.ownBlock=some k ->V.heap.size<=k):
  qR lo W b x y dr (Q++[(u1,u2)]) (P++[t]) (V'.setCell ⟨b,2,none⟩ dr):=by
 have hR:∀k,tv.ownBlock=some k ->W.heap.size<=k:=fun k e=>(h.own.lt k e).1;have hO:=h.own.push ht hf ho hg hn;have hB:bC V' b x y tv:=(hg.block b h.box.lt (fun e=>by have:=hR b e.symm;omega)).trans h.box
 have pJ:∀R,lo<=R ->R<=b ->∀k (h1:k<(P++[t]).length) (h2:k<(Q++[(u1,u2)]).length),eR R (P++[t])[k] (Q++[(u1,u2)])[k]:=fun R Zo Zp k h1 h2=>by
  by_cases dX:k<P.length
  ·have fk:k<Q.length:=by rw[h.own.len];exact dX
   rw[nX fk,nX dX];exact h.far R Zo Zp k dX fk
  ·have fk:¬k<Q.length:=by rw[h.own.len];exact dX
   rw[ru (by omega),ru (by omega)];simp only[Jt];exact hfb R Zo Zp
 refine⟨hB.set2 dr,hO.off _ (pJ b hlo (aq _)) (fun e=>?_),pJ,Lm (Hu h.fr hg hR) _ _⟩;have:=(hO.lt b e).1;omega
theorem aiO (a:Option Addr) (ca:Nat) (S:List Nat) (x y:Value) (t:Tb) (v z:Nat) (w:World) (aJ:dZ (iL S)) (hs:aC w a (iL S)) (h:dw w x y t) (ho:df S S.length t) (hw:Cw 100000 t.2) (hv:v<S.length) (hz:z<sz S v):
  Calls Tryz.prog 97 #[.slice a S.length ca,.agg #[x,y],.int .i64 (v:Nat),.int .i64 (z:Nat)] w fun e w'=>Au w.heap.size (jS S v z t) e w'/\Below w.heap.size w w':=by
 obtain⟨b,c,cb,cc,rfl,rfl,h1,h2,h3⟩:=h;have e1:=aJ.eight;rw[bs] at e1;have e2:=ho.small aJ;have:=acG a b c ca cb cc (iL S) t.1 t.2 v z w hs h1 h2 (by rw[bs];omega) (by omega) (ho.check aJ) hw (by rw[bs];exact hv) (by rw[fF];exact hz);rw[bs,fF] at this;exact this.af fun e w' hh=>⟨rZ.tb (t:=jS S v z t) hh.1,hh.2⟩
theorem aeC (a b t:Option Addr) (ca cb ct:Nat) (S:List Nat) (fr:List Int) (P:List Tb) (D c v z:Nat) (w:World) (aJ:dZ (iL S)) (hs:aC w a (iL S)) (hb:aC w b fr) (hP:fY w t P) (aZ:eH S S.length P D c) (hpl:P.length<=1000) (jP:fr.length<=1000) (hm:2*(B D).size+(B c).size+2<=8192) (hv:v<S.length) (hz:z<sz S v):
  Calls Tryz.prog 48 #[.agg #[.slice a S.length ca,.slice b fr.length cb,.slice t P.length ct],.agg #[.int .i64 (v:Nat),.int .i64 (z:Nat)]] w fun e w'=>∃d cd t' dY,e=.returned (.agg #[.slice a S.length ca,.slice d (bJ fr v).length cd,.slice t' P.length dY])/\aC w' d (bJ fr v)/\fY w' t' (P.map (jS S v z))/\fM w.heap.size t' dY/\Below w.heap.size w w':=by
 have dt:Pos S:=by have:=aJ.pos;rwa [fF] at this
 have kT:=hid (fun (U:World) (hU:Below w.heap.size w U)=>Vo (.slice a S.length ca) (.slice t P.length ct) b cb fr (v:Int) U (slv _ _ _) (slv _ _ _) (hb.aa hU) jP);have xp:Hid (∀(k:Nat) (hk:k<P.length) (x y:Value) (U:World),Below w.heap.size w U ->dw U x y P[k] ->Calls Tryz.prog 97 #[.slice a S.length ca,.agg #[x,y],.int .i64 (v:Nat),.int .i64 (z:Nat)] U fun e w'=>Au U.heap.size (jS S v z P[k]) e w'/\Below U.heap.size U w'):=fun k hk x y U hU h1=>aiO a ca S x y _ v z U aJ (hs.aa hU) h1 (aZ.ok _ (bM hk)) ((aZ.cw dt hm P[k] (bM hk)).up (by decide)) hv hz;have HP:=hid hP;clear hs hb hP aZ aJ dt hm hz;go_enter Tryz.func48,Tryz.ntmps48;go_wp2_with fail
 have hb0:Below w.heap.size w (((w.alloc (.cells #[.slice a S.length ca,.slice b fr.length cb,.slice t P.length ct] 87)).alloc (.cells #[.int .i64 (v:Nat),.int .i64 (z:Nat)] 90)).alloc (.cells #[.slice none 0 0,.slice none 0 0,.slice none 0 0] 87)):=by
  have h1:=(au w.heap.size w).alloc (aq _) (.cells #[.slice a S.length ca,.slice b fr.length cb,.slice t P.length ct] 87);have h2:=h1.alloc h1.size (.cells #[.int .i64 (v:Nat),.int .i64 (z:Nat)] 90);exact h2.alloc h2.size _
 have uI:bC (((w.alloc (.cells #[.slice a S.length ca,.slice b fr.length cb,.slice t P.length ct] 87)).alloc (.cells #[.int .i64 (v:Nat),.int .i64 (z:Nat)] 90)).alloc (.cells #[.slice none 0 0,.slice none 0 0,.slice none 0 0] 87)) w.heap.size (.slice a S.length ca) (.slice b fr.length cb) (.slice t P.length ct):=((bC.at (w:=w) rfl _ _ _).alloc _).alloc _
 have ZH:(((w.alloc (.cells #[.slice a S.length ca,.slice b fr.length cb,.slice t P.length ct] 87)).alloc (.cells #[.int .i64 (v:Nat),.int .i64 (z:Nat)] 90)).alloc (.cells #[.slice none 0 0,.slice none 0 0,.slice none 0 0] 87)).heap[w.heap.size+1]? =some (.cells #[.int .i64 (v:Nat),.int .i64 (z:Nat)] 90 (0,0)):=by
  rw[rB _ _ _ (by simp)];have:=im (w.alloc (.cells #[.slice a S.length ca,.slice b fr.length cb,.slice t P.length ct] 87)) (.cells #[.int .i64 (v:Nat),.int .i64 (z:Nat)] 90);rwa [di] at this
 have jf:bC (((w.alloc (.cells #[.slice a S.length ca,.slice b fr.length cb,.slice t P.length ct] 87)).alloc (.cells #[.int .i64 (v:Nat),.int .i64 (z:Nat)] 90)).alloc (.cells #[.slice none 0 0,.slice none 0 0,.slice none 0 0] 87)) (w.heap.size+1+1) (.slice none 0 0) (.slice none 0 0) (.slice none 0 0):=bC.at (w:=(w.alloc (.cells #[.slice a S.length ca,.slice b fr.length cb,.slice t P.length ct] 87)).alloc (.cells #[.int .i64 (v:Nat),.int .i64 (z:Nat)] 90)) (by simp) _ _ _;have Cz:=hid (kT.o _ hb0);clear kT;generalize (((w.alloc (.cells #[.slice a S.length ca,.slice b fr.length cb,.slice t P.length ct] 87)).alloc (.cells #[.int .i64 (v:Nat),.int .i64 (z:Nat)] 90)).alloc (.cells #[.slice none 0 0,.slice none 0 0,.slice none 0 0] 87))=W0 at *;refine Cz.o.af ?_;rintro e w3 ⟨d,cd,rfl,B4,Gx,hb3⟩;have hl0:=jf.lt;have kO:=(au w3.heap.size w3).alloc (aq _) (.cells #[.slice a S.length ca,.slice d (bJ fr v).length cd,.slice none 0 0] 87);have jN:(w3.alloc (.cells #[.slice a S.length ca,.slice d (bJ fr v).length cd,.slice none 0 0] 87)).heap.size=w3.heap.size+1:=by simp
 have dK:=(hb0.trans (hb3.af hb0.size)).trans (kO.af (aL hb0.size hb3.size));have Ch:=(uI.aa hb3 uI.lt).alloc (.cells #[.slice a S.length ca,.slice d (bJ fr v).length cd,.slice none 0 0] 87);have tq:=(jf.aa hb3 jf.lt).alloc (.cells #[.slice a S.length ca,.slice d (bJ fr v).length cd,.slice none 0 0] 87)
 have ZG:(w3.alloc (.cells #[.slice a S.length ca,.slice d (bJ fr v).length cd,.slice none 0 0] 87)).heap[w.heap.size+1]? =some (.cells #[.int .i64 (v:Nat),.int .i64 (z:Nat)] 90 (0,0)):=by
  rw[rB _ _ _ (by have:=hb3.size;omega),hb3.block _ (by omega)];exact ZH
 have mJ:qR w.heap.size (w3.alloc (.cells #[.slice a S.length ca,.slice d (bJ fr v).length cd,.slice none 0 0] 87)) w3.heap.size (.slice a S.length ca) (.slice d (bJ fr v).length cd) (.slice none 0 0) [] [] (w3.alloc (.cells #[.slice a S.length ca,.slice d (bJ fr v).length cd,.slice none 0 0] 87)):=qR.start (bC.at (w:=w3) rfl (.slice a S.length ca) (.slice d (bJ fr v).length cd) (.slice none 0 0));have Hn:=B4.aa kO;have hs3:=hb3.size
 have Sr:Hid (∀g o,d=some ⟨g,o,none⟩ ->bJ fr v≠[] ->some g≠some w3.heap.size):=fun g o e hne e2=>by
  obtain⟨g',o',e',iO,_⟩:=B4 0 (by cases hl:bJ fr v with |nil=>exact absurd hl hne |cons x l=>simp);rw[e] at e';cases e';cases e2;omega
 have pY:Hid (∀g o,d=some ⟨g,o,none⟩ ->bJ fr v≠[] ->g≠w.heap.size+1+1):=fun g o e _ e2=>by
  have:=Gx.2 g o e;omega
 clear B4 Gx hb3 hb0 uI ZH jf kO Cz;have eY:=hid dK;have yS:=hid Ch;have jD:=hid tq;have xr:=hid ZG;have yY:=hid mJ;have I4:=hid Hn;have yh:=Ch.cells.2.2;clear dK Ch tq ZG mJ Hn;generalize Ei:bJ fr v=LF at *;have HLF:=hid Ei;clear Ei;go_wp2_with fail
 generalize (w3.alloc (.cells #[.slice a S.length ca,.slice d LF.length cd,.slice none 0 0] 87))=W4 at *;clear yh;obtain⟨T,hT⟩:∃T:Nat ->List Tb,∀k,(P.take k).map (jS S v z)=T k:=⟨fun k=>(P.take k).map (jS S v z),fun _=>rfl⟩;have CB:Hid (T 0=[]):=by show _=_;rw[<- hT];rfl
 have AA:Hid (∀k (hk:k<P.length),T (k+1)=T k++[jS S v z P[k]]):=fun k hk=>by rw[<- hT, <- hT,fP hk,dL];rfl
 have tG:Hid (T P.length=P.map (jS S v z)):=by show _=_;rw[<- hT,gX]
 have ID:Hid (∀k,k<=P.length ->(T k).length=k):=fun k hk=>by rw[<- hT,cX,dP];omega
 clear hT;go_loopw [17] (fun iv wr=>∃(i:Nat) (tv:Value) (Q:List (Value×Value)),i<=P.length/\iv=.int .i64 i/\Hid (qR w.heap.size W4 w3.heap.size (.slice a S.length ca) (.slice d LF.length cd) tv Q (T i) wr)) (fun iv _=>P.length - (intOf iv).toNat)
 case atStart=>exact⟨0,_,_,aU _,rfl,by rw[CB.o];exact yY⟩
 case round=>
  obtain⟨i,tv,Q,hi,rfl,HM⟩:=hrel;have GX:=HM.o.fr.size;have HB:Hid (Below w.heap.size w wr):=Ht eY.o HM.o.fr (by omega) (by omega);have IP:Hid (bC wr w.heap.size (.slice a S.length ca) (.slice b fr.length cb) (.slice t P.length ct)):=(HM.o.fr.block _ yS.o.lt (fun e=>by have:=mS e;omega)).trans yS.o;have oP:Hid (bC wr (w.heap.size+1+1) (.slice none 0 0) (.slice none 0 0) (.slice none 0 0)):=(HM.o.fr.block _ jD.o.lt (fun e=>by have:=mS e;omega)).trans jD.o;have HFr:Hid (wr.heap[w.heap.size+1]? =some (.cells #[.int .i64 (v:Nat),.int .i64 (z:Nat)] 90 (0,0))):=(HM.o.fr.block _ (by omega) (fun e=>by have:=mS e;omega)).trans xr.o;by_cases hlt2:i<P.length
  ·obtain⟨g,o,p,q,rfl,hg,k0,k1,yg⟩:=(HP.o.aa HB.o) i hlt2;have hA:=(au wr.heap.size wr).alloc (aq _) (TC p q);have bW:=hid (HB.o.trans (hA.af HB.o.size));(have DV:(wr.alloc (TC p q)).heap.size=wr.heap.size+1:=by simp);have Hh:=IP.o.alloc (TC p q);have ahj:=Hh.cells.1;have QC:(wr.alloc (TC p q)).heap[w.heap.size+1]? =some (.cells #[.int .i64 (v:Nat),.int .i64 (z:Nat)] 90 (0,0)):=(rB _ _ _ (by omega)).trans HFr.o;(have LB:(wr.alloc (TC p q)).cell? ⟨w.heap.size+1,0,none⟩=some (.int .i64 (v:Nat)):=by rw[bX _ _ 0 _ _ (0,0) QC];rfl);(have Q6:(wr.alloc (TC p q)).cell? ⟨w.heap.size+1,1,none⟩=some (.int .i64 (z:Nat)):=by rw[bX _ _ 1 _ _ (0,0) QC];rfl);have bF:=bw.at (w:=wr) rfl p q;have b0:=bF.c0;have b1:=bF.c1;have nR:=hid (HM.o.under hA);have HX:=hid (xp.o i hlt2 p q _ bW.o (yg.aa hA));have akX:=hid (AA.o i hlt2);have pO:=ID.o i hi;obtain⟨ps,pn,pc,rfl⟩:=yg.slices.1;obtain⟨qs,qn,qc,rfl⟩:=yg.slices.2;have EN:Hid (∀R,tv.ownBlock=some R ->W4.heap.size<=R/\R<wr.heap.size):=HM.o.own.lt;clear yg hA bF Hh QC;generalize jS S v z P[i]=ft at *;go_wp2_with fail
   refine HX.o.af ?_;rintro e w7 ⟨⟨x2,y2,rfl,hv2,gM⟩,c5⟩;obtain⟨xs,xn,xc,rfl⟩:=hv2.slices.1;obtain⟨ys,yn,yc,rfl⟩:=hv2.slices.2;rw[DV] at gM;have hs7:=c5.size;rw[DV] at hs7;have Mi:=hid (nR.o.under c5);have wL:=(au w7.heap.size w7).alloc (aq _) (TC (.slice xs xn xc) (.slice ys yn yc));have AO:=hid (Mi.o.under wL);(have DW:(w7.alloc (TC (.slice xs xn xc) (.slice ys yn yc))).heap.size=w7.heap.size+1:=by simp);have Cc:=bw.at (w:=w7) rfl (.slice xs xn xc) (.slice ys yn yc);have c80:=Cc.c0;have c81:=Cc.c1;have t82:=AO.o.box.cells.2.2;have QK:=(au (w7.alloc (TC (.slice xs xn xc) (.slice ys yn yc))).heap.size (w7.alloc (TC (.slice xs xn xc) (.slice ys yn yc)))).alloc (aq _) (TC (.slice xs xn xc) (.slice ys yn yc));have IZ:=hid (AO.o.under QK);have RR:=hid ((hv2.aa wL).aa QK);have P9:=bw.at (w:=w7.alloc (TC (.slice xs xn xc) (.slice ys yn yc))) DW (.slice xs xn xc) (.slice ys yn yc);have alj:=hid P9.c0;have ali:=hid P9.c1;have yO:=hid hv2.slices;have nQ:=hid gM;have ED:Hid (W4.heap.size<=((w7.alloc (TC (.slice xs xn xc) (.slice ys yn yc))).alloc (TC (.slice xs xn xc) (.slice ys yn yc))).heap.size):=IZ.o.fr.size;have hb5:=yY.o.box.lt;clear hv2 c5 wL QK Cc P9 gM HX nR k0 k1 b0 b1 ahj LB Q6
   have KEY:∀(dr:Value) (bV:World),bV.ownsRow W4.heap.size 39 2 dr ((T i).length+1) (dM Q++[.slice xs xn xc,.slice ys yn yc]) ->((w7.alloc (TC (.slice xs xn xc) (.slice ys yn yc))).alloc (TC (.slice xs xn xc) (.slice ys yn yc))).grownBy bV tv.ownBlock ->(dr.ownBlock=tv.ownBlock∨∀k,dr.ownBlock=some k ->((w7.alloc (TC (.slice xs xn xc) (.slice ys yn yc))).alloc (TC (.slice xs xn xc) (.slice ys yn yc))).heap.size<=k) ->(∃a' n' c',dr=Value.slice a' n' c')/\(qR w.heap.size W4 w3.heap.size (.slice a S.length ca) (.slice d LF.length cd) dr (Q++[(.slice xs xn xc,.slice ys yn yc)]) (T (i+1)) (bV.setCell ⟨w3.heap.size,2,none⟩ dr))/\bV.cell? ⟨w3.heap.size,2,none⟩=some tv/\bV.frozen? ⟨w3.heap.size,2,none⟩=false:=fun dr bV eP ew fV=>by
    have hM:=IZ.o.push (by omega) hb5 RR.o (fun R hR=>nQ.o R (by have:=(EN.o R hR).2;omega)) (fun R _ hR=>nQ.o R (by omega)) eP ew fV;rw[<- akX.o] at hM;have Af:bC bV w3.heap.size (.slice a S.length ca) (.slice d LF.length cd) tv:=(ew.block _ IZ.o.box.lt (fun e=>by have:=(EN.o _ e.symm).1;omega)).trans IZ.o.box;refine⟨?_,hM,Af.cells.2.2,Af.fz 2⟩;rcases eP.2 with ⟨h1,_⟩ |⟨g',cap',cur',h1,_⟩
    ·exact⟨_,_,_,h1⟩
    ·exact⟨_,_,_,h1⟩
   have HKEY:=hid KEY;clear KEY;go_wp2_with (at_builtin;refine JE rfl _ _ rfl W4.heap.size tv (T i).length (dM Q) (.slice xs xn xc) (.slice ys yn yc) rfl IZ.o.own.own (w7.heap.size+1) rfl alj.o ali.o yO.o.1 yO.o.2 (by omega) ED.o ?_;intro dr bV eP ew fV;obtain⟨⟨vR,tn',vQ,rfl⟩,uJ,t102,f102⟩:=HKEY.o dr bV eP ew fV;have mO:=hid uJ;clear uJ eP ew fV)
   go_roundw
   case rel=>exact⟨i+1,_,_,by omega,by go_num,mO⟩
   case measure=>simp[intOf];omega
  ·obtain rfl:i=P.length:=by omega
   rw[tG.o] at HM;obtain⟨ta,tc,rfl,zP⟩:=HM.o.own.row;obtain⟨x0,x1,x2⟩:=HM.o.box.cells;obtain⟨r0,r1,r2⟩:=oP.o.cells;have J5:=oP.o.fz 0;have J4:=oP.o.fz 1;have JZ:=oP.o.fz 2;(have qo:(P.map (jS S v z)).length=P.length:=by simp);rw[qo] at HM x2;have Hm:aC wr d LF:=Gj I4.o Sr.o HM.o.fr;have yQ:=hid (oP.o.put (.slice a S.length ca) (.slice d LF.length cd) (.slice ta P.length tc));have rh:=hid (cQ HB.o (show w.heap.size<=w.heap.size+1+1 by omega) (.slice a S.length ca) (.slice d LF.length cd) (.slice ta P.length tc))
   have gG:Value.ownBlock (.slice ta P.length tc)≠some (w.heap.size+1+1):=fun e=>by
    have:=(HM.o.own.lt _ e).1;omega
   have Aa:=((HM.o.own.off (g:=w.heap.size+1+1) (j:=0) (.slice a S.length ca) (HM.o.far _ (by omega) (by omega)) gG).off (g:=w.heap.size+1+1) (j:=1) (.slice d LF.length cd) (HM.o.far _ (by omega) (by omega)) gG).off (g:=w.heap.size+1+1) (j:=2) (.slice ta P.length tc) (HM.o.far _ (by omega) (by omega)) gG;obtain⟨TZ,TV,e2,zO⟩:=Aa.row;rw[qo] at e2;injection e2 with e3 e4 e5;subst e3 e5;clear e4;have IB:=hid zO;have xm:=hid (((Hm.off (g:=w.heap.size+1+1) (j:=0) (y:=.slice a S.length ca) pY.o).off (g:=w.heap.size+1+1) (j:=1) (y:=.slice d LF.length cd) pY.o).off (g:=w.heap.size+1+1) (j:=2) (y:=.slice ta P.length tc) pY.o);have IX:=hid ((N8 HM.o.own.own).up (show w.heap.size<=W4.heap.size by omega));clear Aa zO Hm zP;go_wp2;refine bS (yQ.o.result1 rfl _ rfl) rfl ?_;have e6:=HLF.o;subst e6;exact⟨d,cd,ta,tc,rfl,xm.o,IB.o,IX.o,rh.o⟩
variable {Q2:List (Value×Value)} {P2:List Tb} {v:Nat} {wv:Value}
theorem Zb {t:Tb} (h:Up t.1 n):t.1.contains (v:Int)=decide (v∈ag t.1):=by
 have:(v:Int)∈t.1↔v∈ag t.1:=by
  rw[ag,aW];constructor
  ·intro hv;exact⟨_,hv,by simp⟩
  ·rintro⟨x,hx,e⟩;have:=((gj.1 h).1 x hx).1;rw[show (v:Int)=x by omega];exact hx
 by_cases hv:v∈ag t.1
 ·rw[cS hv,zt];exact this.2 hv
 ·rw[cD hv, <- Bool.not_eq_true,zt];exact fun e=>hv (this.1 e)
theorem aeX (a:Option Addr) (ca:Nat) (S:List Nat) (x y:Value) (t:Tb) (v:Nat) (most:Bool) (w:World) (aJ:dZ (iL S)) (hs:aC w a (iL S)) (h:dw w x y t) (ho:df S S.length t) (hw:Cw 8192 t.2) (hv:v<S.length) (BL:v∈ag t.1):
  Calls Tryz.prog 160 #[.slice a S.length ca,.agg #[x,y],.int .i64 (v:Nat),.bool most] w fun e w'=>Au w.heap.size (outT S v most t) e w'/\Below w.heap.size w w':=by
 obtain⟨b,c,cb,cc,rfl,rfl,h1,h2,h3⟩:=h;have e1:=aJ.eight;rw[bs] at e1;have e2:=ho.small aJ;have e3:t.1.contains (v:Int)=true:=by rw[Zb ho.up,cS BL]
 cases most with
 |false=>
  have:=acC a b c ca cb cc (iL S) t.1 t.2 v w hs h1 h2 (by rw[bs];omega) (by omega) (ho.check aJ) hw e3 (by rw[bs];exact hv);rw[bs,fF] at this;exact this.af fun e w' hh=>⟨rZ.tb (t:=outT S v false t) hh.1,hh.2⟩
 |true=>
  have:=acD a b c ca cb cc (iL S) t.1 t.2 v w hs h1 h2 (by rw[bs];omega) (by omega) (ho.check aJ) hw e3 (by rw[bs];exact hv);rw[bs,fF] at this;exact this.af fun e w' hh=>⟨rZ.tb (t:=outT S v true t) hh.1,hh.2⟩
theorem Km {B:Nat} {e:TypeId} {s:Nat} {v:Value} {r:Option Nat} (h:w.ownsRow B e s v n xs) (hg:w.grownBy w' r) (hne:∀R,v.ownBlock=some R ->r≠some R):w'.ownsRow B e s v n xs:=by
 refine⟨h.1,?_⟩;rcases h.2 with h1 |⟨g,cap,cur,h1,h2,h3,h4⟩
 ·exact .inl h1
 ·exact .inr ⟨g,cap,cur,h1,h2,(hg.block g (dm.1 h3).1 (fun e=>hne g (by rw[h1];rfl) e.symm)).trans h3,h4⟩
theorem pj {B:Nat} {e:TypeId} {s:Nat} {v:Value} (h:w.ownsRow B e s v n xs):∀R,v.ownBlock=some R ->B<=R/\R<w.heap.size:=fun R hR=>by
 rcases h.2 with ⟨h1,h2⟩ |⟨g,cap,cur,h1,h2,h3,_⟩
 ·rw[h1] at hR;cases hR
 ·rw[h1] at hR;cases hR;exact⟨h2,(dm.1 h3).1⟩
theorem sQ {B:Nat} {e:TypeId} {s:Nat} {v:Value} (h:w.ownsRow B e s v n xs):∃a c,v=.slice a n c:=by
 rcases h.2 with ⟨h1,h2⟩ |⟨g,cap,cur,h1,_⟩
 ·exact⟨none,0,by rw[h1,h2]⟩
 ·exact⟨_,_,h1⟩
structure uV (w:World) (Q:List (Value×Value)) (P:List Tb):Prop where
 len:Q.length=P.length
 val:∀k (h:k<P.length) (h':k<Q.length),dw w Q[k].1 Q[k].2 P[k]
theorem uV.nil (w:World):uV w [] []:=⟨rfl,fun k h=>absurd h (by simp)⟩
theorem uV.push {t:Tb} (h:uV w Q P) (ht:dw w x y t):uV w (Q++[(x,y)]) (P++[t]):=by
 refine⟨by simp[h.len],fun k hk eV=>?_⟩;by_cases dX:k<P.length
 ·have fk:k<Q.length:=by rw[h.len];exact dX
  rw[nX fk,nX dX];exact h.val k dX fk
 ·have fk:¬k<Q.length:=by rw[h.len];exact dX
  rw[ru (by omega),ru (by omega)];simp only[Jt];exact ht
theorem uV.owt {V:World} {B:Nat} {v:Value} (h:uV w Q P) (hb:Below w.heap.size w V) (hB:w.heap.size<=B) (ho:V.ownsRow B 39 2 v P.length (dM Q)):ku V B v Q P:=
 ⟨h.len,ho,fun k h1 h2=>(h.val k h1 h2).aa hb,fun R hR k h1 h2=>(h.val k h1 h2).lt (aL hB (pj ho R hR).1)⟩
structure lI (w W:World) (b:Nat) (x y tv wv:Value) (Q Q2:List (Value×Value)) (P P2:List Tb) (V:World):Prop where
 box:bC V b x y tv
 own:V.ownsRow W.heap.size 39 2 tv P.length (dM Q)
 own2:V.ownsRow W.heap.size 39 2 wv P2.length (dM Q2)
 q:uV w Q P
 q2:uV w Q2 P2
 ne:∀R,tv.ownBlock=some R ->wv.ownBlock≠some R
 fr:W.grownBy V (some b)
theorem lI.start {W:World} {b:Nat} (h:bC W b x y (.slice none 0 0)):lI w W b x y (.slice none 0 0) (.slice none 0 0) [] [] [] [] W:=
 ⟨h,(ku.nil _ _).own,(ku.nil _ _).own,uV.nil _,uV.nil _,(fun R e=>by cases e),QT _ _⟩
theorem lI.under {W V:World} {b:Nat} (h:lI w W b x y tv wv Q Q2 P P2 V) (hb:Below V.heap.size V V'):lI w W b x y tv wv Q Q2 P P2 V':=
 ⟨h.box.aa hb h.box.lt,Dw h.own (yH.aa hb),Dw h.own2 (yH.aa hb),h.q,h.q2,h.ne,QU h.fr hb⟩
theorem lI.push2 {W V:World} {b:Nat} {JD:Value} {t:Tb} (h:lI w W b x y tv wv Q Q2 P P2 V) (hb:b<W.heap.size) (ht:dw w u1 u2 t) (ho:V'.ownsRow W.heap.size 39 2 JD (P2.length+1) (dM Q2++[u1,u2])) (hg:V.grownBy V' wv.ownBlock) (hn:JD.ownBlock=wv.ownBlock∨∀k,JD.ownBlock=some k ->V.heap.size<=k):
  lI w W b x y tv JD Q (Q2++[(u1,u2)]) P (P2++[t]) V':=by
 have hR:∀k,wv.ownBlock=some k ->W.heap.size<=k:=fun k e=>(pj h.own2 k e).1;refine⟨(hg.block b h.box.lt (fun e=>by have:=hR b e.symm;omega)).trans h.box,Km h.own hg h.ne,by rw[FR,cK];exact ho,h.q,h.q2.push ht,fun R e e2=>?_,Hu h.fr hg hR⟩;rcases hn with hn |hn
 ·rw[hn] at e2;exact h.ne R e e2
 ·have h1:=hn R e2;have h2:=(pj h.own R e).2;omega
theorem lI.push1 {W V:World} {b:Nat} {dr:Value} {t:Tb} (h:lI w W b x y tv wv Q Q2 P P2 V) (hb:b<W.heap.size) (ht:dw w u1 u2 t) (ho:V'.ownsRow W.heap.size 39 2 dr (P.length+1) (dM Q++[u1,u2])) (hg:V.grownBy V' tv.ownBlock) (hn:dr.ownBlock=tv.ownBlock∨∀k,dr.ownBlock=some k ->V.heap.size<=k):
  lI w W b x y dr wv (Q++[(u1,u2)]) Q2 (P++[t]) P2 (V'.setCell ⟨b,2,none⟩ dr)/\bC V' b x y tv:=by
 have hR:∀k,tv.ownBlock=some k ->W.heap.size<=k:=fun k e=>(pj h.own k e).1;have hB:bC V' b x y tv:=(hg.block b h.box.lt (fun e=>by have:=hR b e.symm;omega)).trans h.box;have ho2:V'.ownsRow W.heap.size 39 2 wv P2.length (dM Q2):=Km h.own2 hg (fun R e e2=>h.ne R e2 e);have ho1:V'.ownsRow W.heap.size 39 2 dr (P++[t]).length (dM (Q++[(u1,u2)])):=by rw[FR,cK];exact ho
 refine⟨⟨hB.set2 dr,Jg ho1 (fun e=>?_) _,Jg ho2 (fun e=>?_) _,h.q.push ht,h.q2,fun R e e2=>?_,Lm (Hu h.fr hg hR) _ _⟩,hB⟩
 ·have:=(pj ho1 b e).1;omega
 ·have:=(pj ho2 b e).1;omega
 ·rcases hn with hn |hn
  ·rw[hn] at e;exact h.ne R e e2
  ·have h1:=hn R e;have h2:=(pj h.own2 R e2).2;omega
theorem lI.plm {W V:World} {b:Nat} (h:lI w W b x y tv wv Q Q2 P P2 V) (hb:Below w.heap.size w V) (hW:w.heap.size<=W.heap.size):qR w.heap.size W b x y tv Q P V:=
 ⟨h.box,h.q.owt hb hW h.own,fun _ hR _ k h1 h2=>(h.q.val k h1 h2).lt hR,h.fr⟩
theorem lI.row2 {W V:World} {b:Nat} (h:lI w W b x y tv wv Q Q2 P P2 V) (hb:Below w.heap.size w V) (hW:w.heap.size<=W.heap.size):∃a c,wv=.slice a P2.length c/\fY V a P2:=(h.q2.owt hb hW h.own2).row
theorem aez (a b t:Option Addr) (ca cb ct:Nat) (S:List Nat) (fr:List Int) (P:List Tb) (D c v:Nat) (most:Bool) (w:World) (aJ:dZ (iL S)) (hs:aC w a (iL S)) (hb:aC w b fr) (hP:fY w t P) (aZ:eH S S.length P D c) (hpl:P.length<=999) (jP:fr.length<=1000) (hm:2*(B D).size+(B c).size+2<=8192) (hv:v<S.length) (hex:∃t∈P,v∈ag t.1):
  Calls Tryz.prog 104 #[.agg #[.slice a S.length ca,.slice b fr.length cb,.slice t P.length ct],.int .i64 (v:Nat),.bool most] w fun e w'=>∃d cd t' dY,e=.returned (.agg #[.slice a S.length ca,.slice d (bJ fr v).length cd,.slice t' (j6 S v most P).length dY])/\aC w' d (bJ fr v)/\fY w' t' (j6 S v most P)/\fM w.heap.size t' dY/\Below w.heap.size w w':=by
 have dt:Pos S:=by have:=aJ.pos;rwa [fF] at this
 have kT:=hid (fun (U:World) (hU:Below w.heap.size w U)=>Vo (.slice a S.length ca) (.slice t P.length ct) b cb fr (v:Int) U (slv _ _ _) (slv _ _ _) (hb.aa hU) jP)
 have p5:Hid (∀(k:Nat) (hk:k<P.length) (x:Option Addr) (cx:Nat) (U:World),aC U x P[k].1 ->Calls Tryz.prog 49 #[.slice x P[k].1.length cx,.int .i64 (v:Nat)] U fun e w'=>e=.returned (.bool (decide (v∈ag P[k].1)))/\Below U.heap.size U w'):=fun k hk x cx U h=>by
  have ho:=aZ.ok _ (bM hk);have:=FX x cx P[k].1 (v:Int) U h (by have:=ho.small aJ;omega);rwa [Zb ho.up] at this
 obtain⟨E1,d1,k1,k2,k3⟩:=aZ.filter (fun t=>decide (v∈ag t.1))
 have hm1:2*(B E1).size+(B d1).size+2<=8192:=by
  have h1:=i6 k2;have h2:=i6 k3;omega
 have hpart:=k1.part dt hm1 (P.filter fun t=>decide (v∈ag t.1)).length;rw[gX] at hpart
 have hin:v∈ag (allT S (P.filter fun t=>decide (v∈ag t.1))).1:=((wQ dt k1.ok).2.1 v).2 (by
  obtain⟨t,ht,BL⟩:=hex;exact⟨t,dE.2 ⟨ht,cS BL⟩,BL⟩)
 have hlen:(P.filter fun t=>decide (v∈ag t.1)).length<=1000:=aL (lT ..) (by omega);have vr:Hid (∀(wa:Option Addr) (cw:Nat) (U:World),Below w.heap.size w U ->fY U wa (P.filter fun t=>decide (v∈ag t.1)) ->Calls Tryz.prog 105 #[.slice a S.length ca,.slice wa (P.filter fun t=>decide (v∈ag t.1)).length cw] U fun e w'=>∃x y,e=.returned (.agg #[x,y])/\dw w' x y (allT S (P.filter fun t=>decide (v∈ag t.1)))/\Below U.heap.size U w'):=fun wa cw U hU h=>Vg a wa ca cw S _ E1 d1 U aJ (hs.aa hU) h k1 hlen hm1;have AB:Hid (∀(x y:Value) (U:World),Below w.heap.size w U ->dw U x y (allT S (P.filter fun t=>decide (v∈ag t.1))) ->Calls Tryz.prog 160 #[.slice a S.length ca,.agg #[x,y],.int .i64 (v:Nat),.bool most] U fun e w'=>Au U.heap.size (outT S v most (allT S (P.filter fun t=>decide (v∈ag t.1)))) e w'/\Below U.heap.size U w'):=fun x y U hU h=>aeX a ca S x y _ v most U aJ (hs.aa hU) h hpart.1 hpart.2 hv hin;have HP:=hid hP;clear hs hb hP aZ aJ dt hm hex k1 k2 k3 hm1 hpart hin hlen;obtain⟨T,hT⟩:∃T:Nat ->List Tb,∀k,(P.take k).filter (fun t=>!decide (v∈ag t.1))=T k:=⟨fun k=>(P.take k).filter (fun t=>!decide (v∈ag t.1)),fun _=>rfl⟩;obtain⟨Z,hZ⟩:∃Z:Nat ->List Tb,∀k,(P.take k).filter (fun t=>decide (v∈ag t.1))=Z k:=⟨fun k=>(P.take k).filter (fun t=>decide (v∈ag t.1)),fun _=>rfl⟩;have CB:Hid (T 0=[]/\Z 0=[]):=by show _/\_;rw[<- hT, <- hZ];exact⟨rfl,rfl⟩
 have lK:Hid (∀k (hk:k<P.length),decide (v∈ag P[k].1)=true ->T (k+1)=T k/\Z (k+1)=Z k++[P[k]]):=fun k hk h=>by
  rw[<- hT, <- hT, <- hZ, <- hZ,fP hk,xI,xI,zr (by simp only[h];decide),zq (p:=fun t:Tb=>decide (v∈ag t.1)) h];simp
 have vo:Hid (∀k (hk:k<P.length),decide (v∈ag P[k].1)=false ->T (k+1)=T k++[P[k]]/\Z (k+1)=Z k):=fun k hk h=>by
  rw[<- hT, <- hT, <- hZ, <- hZ,fP hk,xI,xI,zq (by simp only[h];decide),zr (by simp only[h];decide)];simp
 have tG:Hid (T P.length=(P.filter fun t=>!decide (v∈ag t.1))/\Z P.length=P.filter fun t=>decide (v∈ag t.1)):=by show _/\_;rw[<- hT, <- hZ,gX];exact⟨rfl,rfl⟩
 have ID:Hid (∀k,(T k).length<=P.length/\(Z k).length<=P.length):=fun k=>by rw[<- hT, <- hZ];exact⟨aL (lT ..) (by rw[dP];omega),aL (lT ..) (by rw[dP];omega)⟩
 clear hT hZ;obtain⟨OP,Qv⟩:∃OP,j6 S v most P=OP:=⟨_,rfl⟩;have HOP:Hid (OP=T P.length++[outT S v most (allT S (Z P.length))]):=by show _=_;rw[<- Qv,tG.o.1,tG.o.2];rfl
 rw[<- tG.o.2] at vr AB;rw[Qv];generalize outT S v most (allT S (Z P.length))=OT at *;generalize allT S (Z P.length)=AT at *;clear Qv tG;obtain⟨LF,Ei⟩:∃LF,bJ fr v=LF:=⟨_,rfl⟩;rw[Ei] at kT;rw[Ei];clear Ei;go_enter Tryz.func104,Tryz.ntmps104;go_wp2_with fail
 have hb0:Below w.heap.size w ((w.alloc (.cells #[.slice a S.length ca,.slice b fr.length cb,.slice t P.length ct] 87)).alloc (.cells #[.slice none 0 0,.slice none 0 0,.slice none 0 0] 87)):=by
  have h1:=(au w.heap.size w).alloc (aq _) (.cells #[.slice a S.length ca,.slice b fr.length cb,.slice t P.length ct] 87);exact h1.alloc h1.size _
 have uI:bC ((w.alloc (.cells #[.slice a S.length ca,.slice b fr.length cb,.slice t P.length ct] 87)).alloc (.cells #[.slice none 0 0,.slice none 0 0,.slice none 0 0] 87)) w.heap.size (.slice a S.length ca) (.slice b fr.length cb) (.slice t P.length ct):=(bC.at (w:=w) rfl _ _ _).alloc _;have jf:bC ((w.alloc (.cells #[.slice a S.length ca,.slice b fr.length cb,.slice t P.length ct] 87)).alloc (.cells #[.slice none 0 0,.slice none 0 0,.slice none 0 0] 87)) (w.heap.size+1) (.slice none 0 0) (.slice none 0 0) (.slice none 0 0):=bC.at (w:=w.alloc (.cells #[.slice a S.length ca,.slice b fr.length cb,.slice t P.length ct] 87)) (by simp) _ _ _;have Cz:=hid (kT.o _ hb0);clear kT;generalize ((w.alloc (.cells #[.slice a S.length ca,.slice b fr.length cb,.slice t P.length ct] 87)).alloc (.cells #[.slice none 0 0,.slice none 0 0,.slice none 0 0] 87))=W0 at *;refine Cz.o.af ?_;rintro e w3 ⟨d,cd,rfl,B4,Gx,hb3⟩;have hl0:=jf.lt;have kO:=(au w3.heap.size w3).alloc (aq _) (.cells #[.slice a S.length ca,.slice d LF.length cd,.slice none 0 0] 87);have jN:(w3.alloc (.cells #[.slice a S.length ca,.slice d LF.length cd,.slice none 0 0] 87)).heap.size=w3.heap.size+1:=by simp
 have dK:=(hb0.trans (hb3.af hb0.size)).trans (kO.af (aL hb0.size hb3.size));have Ch:=(uI.aa hb3 uI.lt).alloc (.cells #[.slice a S.length ca,.slice d LF.length cd,.slice none 0 0] 87);have tq:=(jf.aa hb3 jf.lt).alloc (.cells #[.slice a S.length ca,.slice d LF.length cd,.slice none 0 0] 87);have mJ:lI w (w3.alloc (.cells #[.slice a S.length ca,.slice d LF.length cd,.slice none 0 0] 87)) w3.heap.size (.slice a S.length ca) (.slice d LF.length cd) (.slice none 0 0) (.slice none 0 0) [] [] [] [] (w3.alloc (.cells #[.slice a S.length ca,.slice d LF.length cd,.slice none 0 0] 87)):=lI.start (bC.at (w:=w3) rfl (.slice a S.length ca) (.slice d LF.length cd) (.slice none 0 0));have Hn:=B4.aa kO;have hs3:=hb3.size
 have Sr:Hid (∀g o,d=some ⟨g,o,none⟩ ->LF≠[] ->some g≠some w3.heap.size):=fun g o e hne e2=>by
  obtain⟨g',o',e',iO,_⟩:=B4 0 (by cases hl:LF with |nil=>exact absurd hl hne |cons x l=>simp);rw[e] at e';cases e';cases e2;omega
 have pY:Hid (∀g o,d=some ⟨g,o,none⟩ ->LF≠[] ->g≠w.heap.size+1):=fun g o e _ e2=>by
  have:=Gx.2 g o e;omega
 clear B4 Gx hb3 hb0 uI jf kO Cz;have eY:=hid dK;have yS:=hid Ch;have jD:=hid tq;have yY:=hid mJ;have I4:=hid Hn;have yh:=Ch.cells.2.2;clear dK Ch tq mJ Hn;go_wp2_with fail
 generalize (w3.alloc (.cells #[.slice a S.length ca,.slice d LF.length cd,.slice none 0 0] 87))=W4 at *;clear yh;go_loopw [8,19] (fun zv iv wr=>∃(i:Nat) (tv:Value) (Q Q2:List (Value×Value)),i<=P.length/\iv=.int .i64 i/\Hid (lI w W4 w3.heap.size (.slice a S.length ca) (.slice d LF.length cd) tv zv Q Q2 (T i) (Z i) wr)) (fun _ iv _=>P.length - (intOf iv).toNat)
 case atStart=>exact⟨0,_,_,_,aU _,rfl,by rw[CB.o.1,CB.o.2];exact yY⟩
 case round=>
  obtain⟨i,tv,Q,Q2,hi,rfl,HM⟩:=hrel;have GX:=HM.o.fr.size;have HB:Hid (Below w.heap.size w wr):=Ht eY.o HM.o.fr (by omega) (by omega);have IP:Hid (bC wr w.heap.size (.slice a S.length ca) (.slice b fr.length cb) (.slice t P.length ct)):=(HM.o.fr.block _ yS.o.lt (fun e=>by have:=mS e;omega)).trans yS.o;have oP:Hid (bC wr (w.heap.size+1) (.slice none 0 0) (.slice none 0 0) (.slice none 0 0)):=(HM.o.fr.block _ jD.o.lt (fun e=>by have:=mS e;omega)).trans jD.o;have hb5:w3.heap.size<W4.heap.size:=by omega
  obtain⟨za,zc,rfl⟩:=sQ HM.o.own2;by_cases hlt2:i<P.length
  ·obtain⟨g,o,p,q,rfl,hg,k0,k1,XW⟩:=HP.o i hlt2;replace k0:=(HB.o.cell (p:=⟨g,_,none⟩) hg).trans k0;replace k1:=(HB.o.cell (p:=⟨g,_,none⟩) hg).trans k1;have HPQ:=hid XW;have hA:=(au wr.heap.size wr).alloc (aq _) (TC p q);have bW:=hid (HB.o.trans (hA.af HB.o.size));(have DV:(wr.alloc (TC p q)).heap.size=wr.heap.size+1:=by simp);have bF:=bw.at (w:=wr) rfl p q;have b0:=bF.c0;have nR:=hid (HM.o.under hA);obtain⟨ps,qs,pc,qc,rfl,rfl,zW,_,_⟩:=XW;have HX:=hid (p5.o i hlt2 ps pc _ (zW.aa bW.o));have sA:=hid bF;have ak5:=hid (lK.o i hlt2);have ak6:=hid (vo.o i hlt2);have pO:=ID.o i;clear zW hA bF HM HB IP oP;have HAS:Hid (Below (wr.alloc (TC (.slice ps P[i].1.length pc) (.slice qs P[i].2.length qc))).heap.size (wr.alloc (TC (.slice ps P[i].1.length pc) (.slice qs P[i].2.length qc))) (wr.alloc (TC (.slice ps P[i].1.length pc) (.slice qs P[i].2.length qc)))):=au _ _;generalize P[i]=pt at *;generalize hdc:decide (v∈ag pt.1)=dc at *;clear hdc;go_wp2_with fail
   refine HX.o.af ?_;rintro e w7 ⟨rfl,c5⟩;have Mi:=hid (nR.o.under c5);have S3:=hid (sA.o.aa c5 sA.o.lt);have c70:=S3.o.c0;have c71:=S3.o.c1;have wL:=(au w7.heap.size w7).alloc (aq _) (TC (.slice ps pt.1.length pc) (.slice qs pt.2.length qc));have AO:=hid (Mi.o.under wL);have Cc:=bw.at (w:=w7) rfl (.slice ps pt.1.length pc) (.slice qs pt.2.length qc);have abo:=hid Cc.c0;have abn:=hid Cc.c1;have wX:Hid (W4.heap.size<=(w7.alloc (TC (.slice ps pt.1.length pc) (.slice qs pt.2.length qc))).heap.size):=AO.o.fr.size;have t72:=Mi.o.box.cells.2.2;clear c5 wL Cc HX nR k0 k1 b0 sA bW S3 HAS;cases dc with
   |true=>
    obtain⟨e1,e2⟩:=ak5.o rfl
    have KEY:∀(zw:Value) (bV:World),bV.ownsRow W4.heap.size 39 2 zw ((Z i).length+1) (dM Q2++[.slice ps pt.1.length pc,.slice qs pt.2.length qc]) ->(w7.alloc (TC (.slice ps pt.1.length pc) (.slice qs pt.2.length qc))).grownBy bV (Value.ownBlock (.slice za (Z i).length zc)) ->(zw.ownBlock=Value.ownBlock (.slice za (Z i).length zc)∨∀k,zw.ownBlock=some k ->(w7.alloc (TC (.slice ps pt.1.length pc) (.slice qs pt.2.length qc))).heap.size<=k) ->(∃a' c',zw=Value.slice a' ((Z i).length+1) c')/\lI w W4 w3.heap.size (.slice a S.length ca) (.slice d LF.length cd) tv zw Q (Q2++[(.slice ps pt.1.length pc,.slice qs pt.2.length qc)]) (T (i+1)) (Z (i+1)) bV:=fun zw bV eP ew fV=>by
     have hM:=AO.o.push2 hb5 HPQ.o eP ew fV;rw[<- e2, <- e1] at hM;exact⟨sQ eP,hM⟩
    have HKEY:=hid KEY;clear KEY e1 e2 t72;go_wp2_with (at_builtin;refine JE rfl _ _ rfl W4.heap.size (.slice za (Z i).length zc) (Z i).length (dM Q2) (.slice ps pt.1.length pc) (.slice qs pt.2.length qc) rfl AO.o.own2 w7.heap.size rfl abo.o abn.o (slv _ _ _) (slv _ _ _) (by omega) wX.o ?_;intro zw bV eP ew fV;obtain⟨⟨vR,vQ,rfl⟩,uJ⟩:=HKEY.o zw bV eP ew fV;have mO:=hid uJ;clear uJ eP ew fV)
    go_roundw
    case rel=>exact⟨i+1,_,_,_,by omega,by go_num,mO⟩
    case measure=>simp[intOf];omega
   |false=>
    obtain⟨e1,e2⟩:=ak6.o rfl
    have KEY:∀(dr:Value) (bV:World),bV.ownsRow W4.heap.size 39 2 dr ((T i).length+1) (dM Q++[.slice ps pt.1.length pc,.slice qs pt.2.length qc]) ->(w7.alloc (TC (.slice ps pt.1.length pc) (.slice qs pt.2.length qc))).grownBy bV tv.ownBlock ->(dr.ownBlock=tv.ownBlock∨∀k,dr.ownBlock=some k ->(w7.alloc (TC (.slice ps pt.1.length pc) (.slice qs pt.2.length qc))).heap.size<=k) ->(∃a' c',dr=Value.slice a' ((T i).length+1) c')/\lI w W4 w3.heap.size (.slice a S.length ca) (.slice d LF.length cd) dr (.slice za (Z i).length zc) (Q++[(.slice ps pt.1.length pc,.slice qs pt.2.length qc)]) Q2 (T (i+1)) (Z (i+1)) (bV.setCell ⟨w3.heap.size,2,none⟩ dr)/\bV.cell? ⟨w3.heap.size,2,none⟩=some tv/\bV.frozen? ⟨w3.heap.size,2,none⟩=false:=fun dr bV eP ew fV=>by
     obtain⟨hM,Af⟩:=AO.o.push1 hb5 HPQ.o eP ew fV;rw[<- e2, <- e1] at hM;rw[e2] at hM;exact⟨sQ eP,by rw[e2];exact hM,Af.cells.2.2,Af.fz 2⟩
    have HKEY:=hid KEY;clear KEY e1 e2;go_wp2_with (at_builtin;refine JE rfl _ _ rfl W4.heap.size tv (T i).length (dM Q) (.slice ps pt.1.length pc) (.slice qs pt.2.length qc) rfl AO.o.own w7.heap.size rfl abo.o abn.o (slv _ _ _) (slv _ _ _) (by omega) wX.o ?_;intro dr bV eP ew fV;obtain⟨⟨vR,vQ,rfl⟩,uJ,t102,f102⟩:=HKEY.o dr bV eP ew fV;have mO:=hid uJ;clear uJ eP ew fV)
    go_roundw
    case rel=>exact⟨i+1,_,_,_,by omega,by go_num,mO⟩
    case measure=>simp[intOf];omega
  ·obtain rfl:i=P.length:=by omega
   obtain⟨za',zc',ez,hzs⟩:=HM.o.row2 HB.o (by omega);injection ez with ez1 ez2 ez3;subst ez1 ez3;clear ez2;have gV:=hid (HM.o.plm HB.o (by omega));have HZS:=hid hzs;have pO:=(ID.o P.length).1;clear hzs HM yY lK vo ID p5;(have hOL:(T P.length).length+1=OP.length:=by rw[HOP.o,cK];rfl);go_upto_region 10 with (go_quiet (fail))
   have uL:Below wr.heap.size wr wr.drew:=(au wr.heap.size wr).drew;have dD:Hid (Below w.heap.size w wr.drew):=HB.o.drew;have EL:Hid (bC wr.drew w.heap.size (.slice a S.length ca) (.slice b fr.length cb) (.slice t P.length ct)):=IP.o;have Sc:=hid (gV.o.under uL);have HZD:=hid (HZS.o.aa uL);have BQ:W4.heap.size<=wr.drew.heap.size:=GX;clear gV HZS HB IP oP uL GX;obtain⟨D5,yz⟩:∃D5,wr.drew=D5:=⟨_,rfl⟩;rw[yz] at dD EL Sc HZD BQ;have gS:Hid (∀U:World,Below D5.heap.size D5 U ->U.cell? ⟨w.heap.size,0,none⟩=some (.slice a S.length ca)):=fun U hU=>(EL.o.aa hU EL.o.lt).cells.1;have bz:Hid (Below D5.heap.size D5 D5):=au _ _;refine jE (S:=fun U=>U.cell? ⟨w.heap.size,0,none⟩=some (.slice a S.length ca)) (by kernel_rfl) (by rw[yz];exact gS.o _ bz.o) (fun ak=>?_);rw[yz] at ak⊢;clear yz;refine aw 0 (.pointer (some ⟨w.heap.size,0,none⟩)) ?_;refine aw 1 (.slice a S.length ca) ?_;refine aw 2 (.pointer (some ⟨w.heap.size,0,none⟩)) ?_;refine aw 3 (.slice a S.length ca) ?_;refine aw 4 (.slice za (Z P.length).length zc) ?_;refine aw 6 (.int .i64 (v:Nat)) ?_;refine aw 7 (.bool most) ?_;refine aH [5,12] (cA ?_ (cA ?_ aG))
   focus
    intro K' hK';go_simp;refine(vr.o za zc D5 dD.o HZD.o).af ?_;rintro e u1 ⟨x1,y1,rfl,ny,hb1⟩;replace dD:=hid (dD.o.trans (hb1.af dD.o.size));replace bz:=hid (bz.o.trans (hb1.af bz.o.size));have Ax:=hid ny;refine hK'.o _ _ (gS.o u1 bz.o) (fun ah=>?_);clear hb1 ny;clear hK' K' ak;have ak:=ah;clear ah;refine aH [8,12] (cA ?_ (cA ?_ aG))
    focus
     intro K' hK';go_simp;refine(AB.o x1 y1 u1 dD.o Ax.o).af ?_;rintro e u2 ⟨⟨x2,y2,rfl,hv2,gM⟩,hb2⟩;have mN:Hid (∀R,R<D5.heap.size ->eR R OT (x2,y2)):=fun R hR=>gM R (aO hR bz.o.size);replace dD:=hid (dD.o.trans (hb2.af dD.o.size));replace bz:=hid (bz.o.trans (hb2.af bz.o.size));have tF:=hid hv2;obtain⟨xs,xn,xc,rfl⟩:=hv2.slices.1;obtain⟨ys,yn,yc,rfl⟩:=hv2.slices.2;refine hK'.o _ _ (gS.o u2 bz.o) (fun ah=>?_);clear hb2 hv2 gM;clear hK' K' ak;have ak:=ah;clear ah;refine aw 9 (.tuple #[.agg #[.slice xs xn xc,.slice ys yn yc],.int .i64 0]) ?_;refine aw 10 (.agg #[.slice xs xn xc,.slice ys yn yc]) ?_;refine aw 11 (.int .i64 0) ?_;refine aH [12] (cA ?_ aG);intro K' hK';go_simp;have kj:=(au _ u2).alloc (aq _) (TC (.slice none 0 0) (.slice none 0 0));replace dD:=hid (dD.o.trans (kj.af dD.o.size));have cE:D5.heap.size<=u2.heap.size:=bz.o.size;replace bz:=hid (bz.o.trans (kj.af bz.o.size));have dN:=hid (bw.at (w:=u2) rfl (.slice none 0 0) (.slice none 0 0));(have oF:u2.heap.size<(u2.alloc (TC (.slice none 0 0) (.slice none 0 0))).heap.size:=by simp);have tM:Hid (eR u2.heap.size OT (.slice xs xn xc,.slice ys yn yc)):=tF.o.lt (aq _);replace tF:=hid (tF.o.aa kj);refine hK'.o _ _ (gS.o _ bz.o) (fun ah=>?_);clear kj;clear hK' K' ak;have ak:=ah;clear ah;obtain⟨g1,hg1⟩:∃g1,u2.heap.size=g1:=⟨_,rfl⟩;obtain⟨u3,ke⟩:∃u3,u2.alloc (TC (.slice none 0 0) (.slice none 0 0))=u3:=⟨_,rfl⟩;have zN:u2.alloc (.cells #[.slice none 0 0,.slice none 0 0] 39)=u3:=ke;(have zY:D5.heap.size<=g1:=by omega)
     (have zX:g1<u3.heap.size:=by rw[<- hg1, <- ke];exact oF);rw[hg1,ke] at dN;clear cE oF;have cE:=zY;have oF:=zX;clear zY zX;rw[hg1] at tM;rw[ke] at tF;rw[ke] at bz dD;simp only[zN] at ak⊢;simp only[hg1];clear ke zN hg1;(try simp only[gE,aP]);obtain⟨b0,b1,Ik,Ij⟩:=dN.o.facts;refine aH [13] (cA ?_ aG);intro K' hK';go_simp;have gR:=hid (dN.o.put (.slice xs xn xc) (.slice ys yn yc));have MA:=hid (mK dD.o (aL (by omega) cE) (.slice xs xn xc) (.slice ys yn yc));have Az:=hid (mK bz.o cE (.slice xs xn xc) (.slice ys yn yc));have yK:=hid ((tF.o.off (g:=g1) (j:=0) (.slice xs xn xc) tM.o).off (g:=g1) (j:=1) (.slice ys yn yc) tM.o);refine hK'.o _ _ (gS.o _ Az.o) (fun ah=>?_);clear b0 b1 Ik Ij dN dD bz tF tM;clear hK' K' ak;have ak:=ah;clear ah;refine aw 14 (.int .i64 0) ?_;(try simp only[gE,aP]);refine eK (by kernel_rfl) ?_ _;clear ak;obtain⟨u4,sY⟩:∃u4,((u3.setCell ⟨g1,0,none⟩ (.slice xs xn xc)).setCell ⟨g1,1,none⟩ (.slice ys yn yc))=u4:=⟨_,rfl⟩
    rotate_left
    focus
     intro K' hK';go_simp;have kj:=(au _ u1).alloc (aq _) (TC (.slice none 0 0) (.slice none 0 0));replace dD:=hid (dD.o.trans (kj.af dD.o.size));have cE:D5.heap.size<=u1.heap.size:=bz.o.size;replace bz:=hid (bz.o.trans (kj.af bz.o.size));have dN:=hid (bw.at (w:=u1) rfl (.slice none 0 0) (.slice none 0 0));(have oF:u1.heap.size<(u1.alloc (TC (.slice none 0 0) (.slice none 0 0))).heap.size:=by simp);replace Ax:=hid (Ax.o.aa kj);refine hK'.o _ _ (gS.o _ bz.o) (fun ah=>?_);clear kj;clear hK' K' ak;have ak:=ah;clear ah;obtain⟨g1,hg1⟩:∃g1,u1.heap.size=g1:=⟨_,rfl⟩;obtain⟨u3,ke⟩:∃u3,u1.alloc (TC (.slice none 0 0) (.slice none 0 0))=u3:=⟨_,rfl⟩;have zN:u1.alloc (.cells #[.slice none 0 0,.slice none 0 0] 39)=u3:=ke;(have zY:D5.heap.size<=g1:=by omega);(have zX:g1<u3.heap.size:=by rw[<- hg1, <- ke];exact oF);rw[hg1,ke] at dN;clear cE oF;have cE:=zY;have oF:=zX;clear zY zX;rw[ke] at Ax;rw[ke] at bz dD;simp only[zN] at ak⊢;simp only[hg1];clear ke zN hg1;refine aH [8] (cA ?_ aG);intro K' hK';go_simp;refine(AB.o x1 y1 u3 dD.o Ax.o).af ?_;rintro e u2 ⟨⟨x2,y2,rfl,hv2,gM⟩,hb2⟩;have mN:Hid (∀R,R<D5.heap.size ->eR R OT (x2,y2)):=fun R hR=>gM R (aO hR bz.o.size);have tM:Hid (eR g1 OT (x2,y2)):=gM _ oF;replace dN:=hid (dN.o.aa hb2 dN.o.lt);replace dD:=hid (dD.o.trans (hb2.af dD.o.size));replace bz:=hid (bz.o.trans (hb2.af bz.o.size));have tF:=hid hv2;obtain⟨xs,xn,xc,rfl⟩:=hv2.slices.1;obtain⟨ys,yn,yc,rfl⟩:=hv2.slices.2;refine hK'.o _ _ (gS.o u2 bz.o) (fun ah=>?_);clear hb2 hv2 gM;clear hK' K' ak
     have ak:=ah;clear ah;refine aw 9 (.tuple #[.agg #[.slice xs xn xc,.slice ys yn yc],.int .i64 0]) ?_;refine aw 10 (.agg #[.slice xs xn xc,.slice ys yn yc]) ?_;refine aw 11 (.int .i64 0) ?_;(try simp only[gE,aP]);obtain⟨b0,b1,Ik,Ij⟩:=dN.o.facts;refine aH [13] (cA ?_ aG);intro K' hK';go_simp;have gR:=hid (dN.o.put (.slice xs xn xc) (.slice ys yn yc));have MA:=hid (mK dD.o (aL (by omega) cE) (.slice xs xn xc) (.slice ys yn yc));have Az:=hid (mK bz.o cE (.slice xs xn xc) (.slice ys yn yc));have yK:=hid ((tF.o.off (g:=g1) (j:=0) (.slice xs xn xc) tM.o).off (g:=g1) (j:=1) (.slice ys yn yc) tM.o);refine hK'.o _ _ (gS.o _ Az.o) (fun ah=>?_);clear b0 b1 Ik Ij dN dD bz tF tM;clear hK' K' ak;have ak:=ah;clear ah;refine aw 14 (.int .i64 0) ?_;(try simp only[gE,aP]);refine eK (by kernel_rfl) ?_ _;clear ak;obtain⟨u4,sY⟩:∃u4,((u2.setCell ⟨g1,0,none⟩ (.slice xs xn xc)).setCell ⟨g1,1,none⟩ (.slice ys yn yc))=u4:=⟨_,rfl⟩
   rotate_left 2
   focus
    intro K' hK';go_simp;have kj:=(au _ D5).alloc (aq _) (TC (.slice none 0 0) (.slice none 0 0));replace dD:=hid (dD.o.trans (kj.af dD.o.size));have cE:D5.heap.size<=D5.heap.size:=bz.o.size;replace bz:=hid (bz.o.trans (kj.af bz.o.size));have dN:=hid (bw.at (w:=D5) rfl (.slice none 0 0) (.slice none 0 0));(have oF:D5.heap.size<(D5.alloc (TC (.slice none 0 0) (.slice none 0 0))).heap.size:=by simp);replace HZD:=hid (HZD.o.aa kj);refine hK'.o _ _ (gS.o _ bz.o) (fun ah=>?_);clear kj;clear hK' K' ak;have ak:=ah;clear ah;obtain⟨g1,hg1⟩:∃g1,D5.heap.size=g1:=⟨_,rfl⟩;obtain⟨u3,ke⟩:∃u3,D5.alloc (TC (.slice none 0 0) (.slice none 0 0))=u3:=⟨_,rfl⟩;have zN:D5.alloc (.cells #[.slice none 0 0,.slice none 0 0] 39)=u3:=ke;(have zY:D5.heap.size<=g1:=by omega);(have zX:g1<u3.heap.size:=by rw[<- hg1, <- ke];exact oF);rw[hg1,ke] at dN;clear cE oF;have cE:=zY;have oF:=zX;clear zY zX;rw[ke] at HZD;rw[ke] at bz dD;simp only[zN] at ak⊢;simp only[hg1];clear ke zN hg1;refine aH [5] (cA ?_ aG);intro K' hK';go_simp;refine(vr.o za zc u3 dD.o HZD.o).af ?_;rintro e u1 ⟨x1,y1,rfl,ny,hb1⟩;replace dD:=hid (dD.o.trans (hb1.af dD.o.size));replace bz:=hid (bz.o.trans (hb1.af bz.o.size));replace dN:=hid (dN.o.aa hb1 dN.o.lt);have Ax:=hid ny;refine hK'.o _ _ (gS.o u1 bz.o) (fun ah=>?_);clear hb1 ny;clear hK' K' ak;have ak:=ah;clear ah;have ahB:g1<u1.heap.size:=dN.o.lt;refine aH [8] (cA ?_ aG);intro K' hK';go_simp;refine(AB.o x1 y1 u1 dD.o Ax.o).af ?_;rintro e u2 ⟨⟨x2,y2,rfl,hv2,gM⟩,hb2⟩
    have mN:Hid (∀R,R<D5.heap.size ->eR R OT (x2,y2)):=fun R hR=>gM R (aO hR bz.o.size);have tM:Hid (eR g1 OT (x2,y2)):=gM _ ahB;replace dN:=hid (dN.o.aa hb2 dN.o.lt);replace dD:=hid (dD.o.trans (hb2.af dD.o.size));replace bz:=hid (bz.o.trans (hb2.af bz.o.size));have tF:=hid hv2;obtain⟨xs,xn,xc,rfl⟩:=hv2.slices.1;obtain⟨ys,yn,yc,rfl⟩:=hv2.slices.2;refine hK'.o _ _ (gS.o u2 bz.o) (fun ah=>?_);clear hb2 hv2 gM;clear hK' K' ak;have ak:=ah;clear ah;refine aw 9 (.tuple #[.agg #[.slice xs xn xc,.slice ys yn yc],.int .i64 0]) ?_;refine aw 10 (.agg #[.slice xs xn xc,.slice ys yn yc]) ?_;refine aw 11 (.int .i64 0) ?_;(try simp only[gE,aP]);obtain⟨b0,b1,Ik,Ij⟩:=dN.o.facts;refine aH [13] (cA ?_ aG);intro K' hK';go_simp;have gR:=hid (dN.o.put (.slice xs xn xc) (.slice ys yn yc));have MA:=hid (mK dD.o (aL (by omega) cE) (.slice xs xn xc) (.slice ys yn yc));have Az:=hid (mK bz.o cE (.slice xs xn xc) (.slice ys yn yc));have yK:=hid ((tF.o.off (g:=g1) (j:=0) (.slice xs xn xc) tM.o).off (g:=g1) (j:=1) (.slice ys yn yc) tM.o);refine hK'.o _ _ (gS.o _ Az.o) (fun ah=>?_);clear b0 b1 Ik Ij dN dD bz tF tM;clear hK' K' ak;have ak:=ah;clear ah;refine aw 14 (.int .i64 0) ?_;(try simp only[gE,aP]);refine eK (by kernel_rfl) ?_ _;clear ak;obtain⟨u4,sY⟩:∃u4,((u2.setCell ⟨g1,0,none⟩ (.slice xs xn xc)).setCell ⟨g1,1,none⟩ (.slice ys yn yc))=u4:=⟨_,rfl⟩
   all_goals
    rw[sY] at gR MA Az yK⊢;clear sY;have Sd:=hid (Sc.o.under Az.o);have Ag:=(au u4.heap.size u4).alloc (aq _) (TC (.slice xs xn xc) (.slice ys yn yc));have vw:=hid (Sd.o.under Ag);have L0:=hid (yK.o.aa Ag);have Qa:=bw.at (w:=u4) rfl (.slice xs xn xc) (.slice ys yn yc);have abq:=hid Qa.c0;have abp:=hid Qa.c1;have EF:Hid (W4.heap.size<=(u4.alloc (TC (.slice xs xn xc) (.slice ys yn yc))).heap.size):=vw.o.fr.size;have t42:=Sd.o.box.cells.2.2;have g0:=gR.o.c0;have g1':=gR.o.c1;have HOW:Hid (∀R,tv.ownBlock=some R ->eR R OT ((.slice xs xn xc),(.slice ys yn yc))):=fun R hR=>mN.o R (Sc.o.own.lt R hR).2;clear Ag Qa gR Az yK
    have HKEY:Hid (∀(dr:Value) (bV:World),bV.ownsRow W4.heap.size 39 2 dr ((T P.length).length+1) (dM Q++[(.slice xs xn xc),(.slice ys yn yc)]) ->(u4.alloc (TC (.slice xs xn xc) (.slice ys yn yc))).grownBy bV tv.ownBlock ->(dr.ownBlock=tv.ownBlock∨∀k,dr.ownBlock=some k ->(u4.alloc (TC (.slice xs xn xc) (.slice ys yn yc))).heap.size<=k) ->(∃a' c',dr=Value.slice a' OP.length c')/\qR w.heap.size W4 w3.heap.size (.slice a S.length ca) (.slice d LF.length cd) dr (Q++[((.slice xs xn xc),(.slice ys yn yc))]) OP (bV.setCell ⟨w3.heap.size,2,none⟩ dr)/\bV.cell? ⟨w3.heap.size,2,none⟩=some tv/\bV.frozen? ⟨w3.heap.size,2,none⟩=false):=fun dr bV eP ew fV=>by
     have hM:=vw.o.push (by omega) hb5 L0.o HOW.o (fun R _ hR=>mN.o R (by omega)) eP ew fV;rw[<- HOP.o] at hM;have Af:bC bV w3.heap.size (.slice a S.length ca) (.slice d LF.length cd) tv:=(ew.block _ vw.o.box.lt (fun e=>by have:=(vw.o.own.lt _ e.symm).1;omega)).trans vw.o.box;exact⟨by rw[<- hOL];exact sQ eP,hM,Af.cells.2.2,Af.fz 2⟩
    go_upto_region 12 with (at_builtin;refine JE rfl _ _ rfl W4.heap.size tv (T P.length).length (dM Q) (.slice xs xn xc) (.slice ys yn yc) rfl vw.o.own.own u4.heap.size rfl abq.o abp.o (slv _ _ _) (slv _ _ _) (by omega) EF.o ?_;intro dr bV eP ew fV;obtain⟨⟨vR,vQ,rfl⟩,uJ,t102,f102⟩:=HKEY.o dr bV eP ew fV;have mO:=hid uJ;clear uJ eP ew fV)
    obtain⟨VV,Zf⟩:∃VV,bV.setCell ⟨w3.heap.size,2,none⟩ (.slice vR OP.length vQ)=VV:=⟨_,rfl⟩;rw[Zf] at mO⊢;clear Zf t102 f102 t42 g0 g1' HKEY HOW EF abq abp L0 vw Sd mN Ax MA;have GX:=mO.o.fr.size;have xz:Hid (Below w.heap.size w VV):=Ht eY.o mO.o.fr (by omega) (by omega);have tI:Hid (bC VV (w.heap.size+1) (.slice none 0 0) (.slice none 0 0) (.slice none 0 0)):=(mO.o.fr.block _ jD.o.lt (fun e=>by have:=mS e;omega)).trans jD.o;have Hm:aC VV d LF:=Gj I4.o Sr.o mO.o.fr;obtain⟨x0,xx1,xx2⟩:=mO.o.box.cells;obtain⟨r0,r1,r2⟩:=tI.o.cells;have J5:=tI.o.fz 0;have J4:=tI.o.fz 1;have JZ:=tI.o.fz 2;have yQ:=hid (tI.o.put (.slice a S.length ca) (.slice d LF.length cd) (.slice vR OP.length vQ));have rh:=hid (cQ xz.o (show w.heap.size<=w.heap.size+1 by omega) (.slice a S.length ca) (.slice d LF.length cd) (.slice vR OP.length vQ))
    have gG:Value.ownBlock (.slice vR OP.length vQ)≠some (w.heap.size+1):=fun e=>by
     have:=(mO.o.own.lt _ e).1;omega
    have Aa:=((mO.o.own.off (g:=w.heap.size+1) (j:=0) (.slice a S.length ca) (mO.o.far _ (by omega) (by omega)) gG).off (g:=w.heap.size+1) (j:=1) (.slice d LF.length cd) (mO.o.far _ (by omega) (by omega)) gG).off (g:=w.heap.size+1) (j:=2) (.slice vR OP.length vQ) (mO.o.far _ (by omega) (by omega)) gG;obtain⟨TZ,TV,e2,zO⟩:=Aa.row;injection e2 with e3 e4 e5;subst e3 e5;clear e4;have IB:=hid zO;have xm:=hid (((Hm.off (g:=w.heap.size+1) (j:=0) (y:=.slice a S.length ca) pY.o).off (g:=w.heap.size+1) (j:=1) (y:=.slice d LF.length cd) pY.o).off (g:=w.heap.size+1) (j:=2) (y:=.slice vR OP.length vQ) pY.o);have IX:=hid ((N8 mO.o.own.own).up (show w.heap.size<=W4.heap.size by omega));clear Aa zO Hm gG;go_wp2;refine bS (yQ.o.result1 rfl _ rfl) rfl ?_;exact⟨d,cd,vR,vQ,rfl,xm.o,IB.o,IX.o,rh.o⟩
theorem Vn {V:World} {o:Nat} {u:Value} (hb:bC V g x y z) (hx:dh x) (hy:dh y) (hz:dh z) (hc:V.cell? ⟨g,o,none⟩=some u):dh u:=by
 rw[bX V g o _ _ (0,0) hb] at hc;match o,hc with
 |0,hc=>cases hc;exact hx
 |1,hc=>cases hc;exact hy
 |2,hc=>cases hc;exact hz
 |o+3,hc=>simp at hc
theorem Xg {V:World} {b:Option Addr} (h:aC V b l) (hb:bC V g x y z) (hx:dh x) (hy:dh y) (hz:dh z):∀g' o',b=some ⟨g',o',none⟩ ->l≠[] ->g'≠g:=fun g' o' e hne e2=>by
 obtain⟨g2,o2,e3,_,hc⟩:=h 0 (by cases hl:l with |nil=>exact absurd hl hne |cons x l=>simp);rw[e] at e3;cases e3;subst e2;obtain⟨_,_,_,e4⟩:=Vn hb hx hy hz hc;cases e4
theorem aiD {V:World} {b:Option Addr} {l:List Fr} (h:dA V b l) (hb:bC V g x y z) (hx:dh x) (hy:dh y) (hz:dh z):∀g' o',b=some ⟨g',o',none⟩ ->l≠[] ->g'≠g:=fun g' o' e hne e2=>by
 obtain⟨g2,o2,e3,_,hc,_⟩:=h 0 (by cases hl:l with |nil=>exact absurd hl hne |cons x l=>simp);rw[e] at e3;cases e3;subst e2;obtain⟨_,_,_,e4⟩:=Vn hb hx hy hz hc;cases e4
theorem Ng {V:World} {t:Tb} {p q:Value} (h:dw V p q t) (hb:bC V g x y z) (hx:dh x) (hy:dh y) (hz:dh z):eR g t (p,q):=by
 obtain⟨b,c,cb,cc,rfl,rfl,h1,h2,h3⟩:=h;exact⟨fun g' o' n c' e hne=>by injection e with e1 _ _;exact Xg h1 hb hx hy hz g' o' e1 hne,fun g' o' n c' e hne=>by injection e with e1 _ _;exact aiD h2 hb hx hy hz g' o' e1 hne⟩
theorem fY.offP {V:World} (u:Value) (h:fY V a P) (hn:∀g' o',a=some ⟨g',o',none⟩ ->g'≠g) (ht:∀k (hk:k<P.length) p q,dw V p q P[k] ->eR g P[k] (p,q)):fY (V.setCell ⟨g,j,none⟩ u) a P:=fun k hk=>by
 obtain⟨g',o,p,q,e,hg,h0,h1,h2⟩:=h k hk;have hb:(V.setCell ⟨g,j,none⟩ u).heap[g']? =V.heap[g']?:=jq V ⟨g,j,none⟩ u g' (hn g' o e);exact⟨g',o,p,q,e,aO hg (jo V _ _).size,(lQ (a:=⟨g',_,none⟩) hb).trans h0,(lQ (a:=⟨g',_,none⟩) hb).trans h1,h2.off u (ht k hk p q h2)⟩
theorem fY.putP {V:World} (h:fY V a P) (hb:bC V g x y z) (hx:dh x) (hy:dh y) (hz:dh z) (hn:∀g' o',a=some ⟨g',o',none⟩ ->g'≠g) {u v:Value} (hu:dh u) (hv:dh v) (s:Value):fY (((V.setCell ⟨g,0,none⟩ u).setCell ⟨g,1,none⟩ v).setCell ⟨g,2,none⟩ s) a P:=
 ((h.offP u hn fun _ _ _ _ ht=>Ng ht hb hx hy hz).offP v hn fun _ _ _ _ ht=>Ng ht (hb.set0 u) hu hy hz).offP s hn fun _ _ _ _ ht=>Ng ht ((hb.set0 u).set1 v) hu hv hz
theorem aC.putP {V:World} (h:aC V a l) (hb:bC V g x y z) (hx:dh x) (hy:dh y) (hz:dh z) (u v s:Value):aC (((V.setCell ⟨g,0,none⟩ u).setCell ⟨g,1,none⟩ v).setCell ⟨g,2,none⟩ s) a l:=by
 have hn:=Xg h hb hx hy hz;exact((h.off hn).off hn).off hn
theorem aeB (a b t q:Option Addr) (ca cb ct cq:Nat) (S:List Nat) (fr vars:List Int) (P:List Tb) (D:Nat) (c:Nat ->Nat) (most:Bool) (PS:Nat ->List Tb) (FW:Nat ->List Int) (w:World) (aJ:dZ (iL S)) (hs:aC w a (iL S)) (hb:aC w b fr) (hP:fY w t P) (hq:aC w q vars) (dC:vars.length<=1000)
  (h0:PS 0=P/\FW 0=fr) (hk:∀i (h:i<fr.length),vars.contains fr[i]=true ->PS (i+1)=PS i/\FW (i+1)=FW i)
  (ho:∀i (h:i<fr.length),vars.contains fr[i]=false ->∃v:Nat,fr[i]=(v:Int)/\PS (i+1)=j6 S v most (PS i)/\FW (i+1)=bJ (FW i) v/\v<S.length/\∃t∈PS i,v∈ag t.1)
  (jd:∀i,i<=fr.length ->eH S S.length (PS i) D (c i)/\(PS i).length<=999/\(FW i).length<=1000/\2*(B D).size+(B (c i)).size+2<=8192):
  Calls Tryz.prog 51 #[.agg #[.slice a S.length ca,.slice b fr.length cb,.slice t P.length ct],.slice q vars.length cq,.bool most] w fun e w'=>∃x y,e=.returned (.agg #[x,y])/\dw w' x y (allT S (PS fr.length))/\Below w.heap.size w w':=by
 have vr:Hid (∀(t':Option Addr) (dY:Nat) (U:World),Below w.heap.size w U ->fY U t' (PS fr.length) ->Calls Tryz.prog 105 #[.slice a S.length ca,.slice t' (PS fr.length).length dY] U fun e w'=>∃x y,e=.returned (.agg #[x,y])/\dw w' x y (allT S (PS fr.length))/\Below U.heap.size U w'):=fun t' dY U hU h=>by
  obtain⟨h1,h2,_,h4⟩:=jd fr.length (aq _);exact Vg a t' ca dY S _ D _ U aJ (hs.aa hU) h h1 (by omega) h4
 have p5:Hid (∀(x:Int) (U:World),Below w.heap.size w U ->Calls Tryz.prog 49 #[.slice q vars.length cq,.int .i64 x] U fun e w'=>e=.returned (.bool (vars.contains x))/\Below U.heap.size U w'):=fun x U hU=>FX q cq vars x U (hq.aa hU) (by omega)
 have CJ:Hid (∀(i:Nat) (h:i<fr.length),vars.contains fr[i]=false ->∀(b' t':Option Addr) (eX dY:Nat) (U:World),Below w.heap.size w U ->aC U b' (FW i) ->fY U t' (PS i) ->Calls Tryz.prog 104 #[.agg #[.slice a S.length ca,.slice b' (FW i).length eX,.slice t' (PS i).length dY],.int .i64 fr[i],.bool most] U fun e w'=>∃d cd t' dY,e=.returned (.agg #[.slice a S.length ca,.slice d (FW (i+1)).length cd,.slice t' (PS (i+1)).length dY])/\aC w' d (FW (i+1))/\fY w' t' (PS (i+1))/\fM U.heap.size t' dY/\Below U.heap.size U w'):=fun i h hc b' t' eX dY U hU h1 h2=>by
  obtain⟨v,e1,e2,e3,e4,e5⟩:=ho i h hc;obtain⟨g1,g2,g3,g4⟩:=jd i (by omega);rw[e1,e2,e3];exact aez a b' t' ca eX dY S (FW i) (PS i) D (c i) v most U aJ (hs.aa hU) h1 h2 g1 g2 g3 g4 e4 e5
 have HK:=hid hk;have jP:fr.length<=1000:=by have:=(jd 0 (aU _)).2.2.1;rwa [h0.2] at this
 have HIB:=hid hb;obtain⟨e0,LD⟩:=h0;have H0:Hid (bC ((w.alloc (.cells #[.slice a S.length ca,.slice b fr.length cb,.slice t P.length ct] 87)).alloc (TC (.slice none 0 0) (.slice none 0 0))) w.heap.size (.slice a S.length ca) (.slice b (FW 0).length cb) (.slice t (PS 0).length ct)):=by rw[e0,LD];exact(bC.at (w:=w) rfl _ _ _).alloc _
 have hA:Below w.heap.size w ((w.alloc (.cells #[.slice a S.length ca,.slice b fr.length cb,.slice t P.length ct] 87)).alloc (TC (.slice none 0 0) (.slice none 0 0))):=by
  have h1:=(au w.heap.size w).alloc (aq _) (.cells #[.slice a S.length ca,.slice b fr.length cb,.slice t P.length ct] 87);exact h1.alloc h1.size _
 have Mp:Hid (aC ((w.alloc (.cells #[.slice a S.length ca,.slice b fr.length cb,.slice t P.length ct] 87)).alloc (TC (.slice none 0 0) (.slice none 0 0))) b (FW 0)):=by rw[LD];exact hb.aa hA
 have CB:Hid (fY ((w.alloc (.cells #[.slice a S.length ca,.slice b fr.length cb,.slice t P.length ct] 87)).alloc (TC (.slice none 0 0) (.slice none 0 0))) t (PS 0)):=by rw[e0];exact hP.aa hA
 have qY:Hid (bw ((w.alloc (.cells #[.slice a S.length ca,.slice b fr.length cb,.slice t P.length ct] 87)).alloc (TC (.slice none 0 0) (.slice none 0 0))) (w.heap.size+1) (.slice none 0 0) (.slice none 0 0)):=bw.at (w:=w.alloc (.cells #[.slice a S.length ca,.slice b fr.length cb,.slice t P.length ct] 87)) (by simp) _ _;have HA:=hid hA;have hc1:=H0.o.cells.2.1;rw[LD] at hc1;clear hs hb hP hq hk ho jd aJ hA e0 LD;go_enter Tryz.func51,Tryz.ntmps51;go_wp2_with fail
 generalize ((w.alloc (.cells #[.slice a S.length ca,.slice b fr.length cb,.slice t P.length ct] 87)).alloc (TC (.slice none 0 0) (.slice none 0 0)))=W0 at *;clear hc1;go_loopw [12] (fun iv wr=>∃(i:Nat) (b' t':Option Addr) (eX dY:Nat),i<=fr.length/\iv=.int .i64 i/\Hid (bC wr w.heap.size (.slice a S.length ca) (.slice b' (FW i).length eX) (.slice t' (PS i).length dY))/\Hid (aC wr b' (FW i))/\Hid (fY wr t' (PS i))/\Hid (bw wr (w.heap.size+1) (.slice none 0 0) (.slice none 0 0))/\Hid (Below w.heap.size w wr)) (fun iv _=>fr.length - (intOf iv).toNat)
 case atStart=>exact⟨0,_,_,_,_,aU _,rfl,H0,Mp,CB,qY,HA⟩
 case round=>
  obtain⟨i,b',t',eX,dY,hi,rfl,my,HI,HT,HR,HB⟩:=hrel;clear H0 Mp CB qY HA;obtain⟨p0,p1,p2⟩:=my.o.cells;have Kg:=my.o.fz 0;have Kf:=my.o.fz 1;have Ke:=my.o.fz 2;by_cases hlt:i<fr.length
  ·obtain⟨g,o,rfl,hg,k0⟩:=HIB.o i hlt;replace k0:=(HB.o.cell (p:=⟨g,_,none⟩) hg).trans k0;have HC:=hid (p5.o fr[i]);have HKi:=hid (HK.o i hlt);have Mg:=hid (CJ.o i hlt);generalize fr[i]=x at *;generalize qA:vars.contains x=cx at *;clear qA;go_wp2_with fail
   refine(HC.o wr HB.o).af ?_;rintro e w2 ⟨rfl,hb2⟩;have bB:=hid (HB.o.trans (hb2.af HB.o.size));have CH:=hid (my.o.aa hb2 my.o.lt);have y4:=hid (HI.o.aa hb2);have qW:=hid (HT.o.aa hb2);have eJ:=hid (HR.o.aa hb2 HR.o.lt);clear hb2 my HI HT HR HB p0 p1 p2 Kg Kf Ke;obtain⟨p0,p1,p2⟩:=CH.o.cells;have hlt2:=CH.o.lt;cases cx with
   |true=>
    obtain⟨e1,e2⟩:=HKi.o rfl;rw[<- e1] at qW CH;rw[<- e2] at y4 CH;clear e1 e2;have HX:=hid (And.intro CH.o (And.intro y4.o qW.o));go_wp2;go_roundw
    case rel=>exact⟨i+1,_,_,_,_,by omega,by go_num,HX.o.1,HX.o.2.1,HX.o.2.2,eJ,bB⟩
    case measure=>simp[intOf];omega
   |false=>
    have yU:=hid (Mg.o rfl b' t' eX dY w2 bB.o y4.o qW.o);clear Mg HKi;go_wp2_with fail
    refine yU.o.af ?_;rintro e w3 ⟨d,cd,t3,Ib,rfl,zV,sZ,uw,hb3⟩;have z8:=CH.o.aa hb3 CH.o.lt;have km:=eJ.o.aa hb3 eJ.o.lt;have bL:=bB.o.trans (hb3.af bB.o.size);clear p0 p1 p2;obtain⟨p0,p1,p2⟩:=z8.cells;have Kg:=z8.fz 0;have Kf:=z8.fz 1;have Ke:=z8.fz 2;have EM:=hid (z8.put (.slice a S.length ca) (.slice d (FW (i+1)).length cd) (.slice t3 (PS (i+1)).length Ib));have tP:=hid (zV.putP z8 (slv _ _ _) (slv _ _ _) (slv _ _ _) (.slice a S.length ca) (.slice d (FW (i+1)).length cd) (.slice t3 (PS (i+1)).length Ib));have EC:=hid (sZ.putP z8 (slv _ _ _) (slv _ _ _) (slv _ _ _) (fun g' o' e=>by have:=uw.2 g' o' e;omega) (slv a S.length ca) (slv d (FW (i+1)).length cd) (.slice t3 (PS (i+1)).length Ib));have tJ:=hid (((km.off w.heap.size 0 (.slice a S.length ca) (by omega)).off w.heap.size 1 (.slice d (FW (i+1)).length cd) (by omega)).off w.heap.size 2 (.slice t3 (PS (i+1)).length Ib) (by omega));have eT:=hid (cQ bL (aq _) (.slice a S.length ca) (.slice d (FW (i+1)).length cd) (.slice t3 (PS (i+1)).length Ib));clear zV sZ uw hb3 z8 km bL;go_wp2;go_roundw
    case rel=>exact⟨i+1,_,_,_,_,by omega,by go_num,EM,tP,EC,tJ,eT⟩
    case measure=>simp[intOf];omega
  ·obtain rfl:i=fr.length:=by omega
   have Si:=hid (vr.o t' dY wr HB.o HT.o);go_wp2_with fail
   refine Si.o.af ?_;rintro e w3 ⟨x,y,rfl,hv3,hb3⟩;obtain⟨xs,xn,xc,rfl⟩:=hv3.slices.1;obtain⟨ys,yn,yc,rfl⟩:=hv3.slices.2;have km:=HR.o.aa hb3 HR.o.lt;have bL:=HB.o.trans (hb3.af HB.o.size);obtain⟨t0,t1,f0,f1⟩:=km.facts;have yS:=hid (km.put (.slice xs xn xc) (.slice ys yn yc));have yK:=hid (hv3.putT km (slv _ _ _) (slv _ _ _) (slv xs xn xc) (.slice ys yn yc));have eY:=hid (mK (g:=w.heap.size+1) bL (by omega) (.slice xs xn xc) (.slice ys yn yc));clear hv3 hb3 km bL p0 p1 p2 Kg Kf Ke;go_wp2;refine bS (yS.o.result1 rfl _ rfl) rfl ?_;exact⟨_,_,rfl,yK.o,eY.o⟩
variable {free vs:List Nat}
def iu (S:List Nat):List Nat ->Nat
 |[]=>1
 |v::vs=>sz S v*iu S vs
theorem T6 (hp:Pos S):∀l,1<=iu S l
 |[]=>aq _
 |v::l=>Nat.mul_pos (kF hp v) (T6 hp l)
theorem T4 (hp:Pos S):∀(l:List Nat) (k:Nat),iu S (l.take k)<=iu S l
 |[],k=>by rw[List.take_nil];exact aq _
 |v::l,0=>T6 hp _
 |v::l,k+1=>j5 _ (T4 hp l k)
theorem eH.outs (hp:Pos S) (most:Bool) (keep:Nat ->Bool):∀(vs:List Nat) {P:List Tb} {D c:Nat},eH S n P D c ->∃d,eH S n (i7 S most keep vs P) D d/\d<=iu S vs*c
 |[],P,D,c,h=>⟨c,h,by rw[iu,jF];exact aq _⟩
 |v::vs,P,D,c,h=>by
  have h1:=kF hp v;have h2:iu S vs*c<=iu S (v::vs)*c:=jl _ (zi _ h1);rw[i7];cases hk:keep v with
  |true=>
   obtain⟨d,h3,h4⟩:=eH.outs hp most keep vs h;exact⟨d,by rw[aA rfl];exact h3,aL h4 h2⟩
  |false=>
   cases most with
   |true=>
    obtain⟨d,h3,h4⟩:=eH.outs hp true keep vs (h.most hp v);exact⟨d,by rw[aD (by decide)];exact h3,aL h4 h2⟩
   |false=>
    obtain⟨d,h3,h4⟩:=eH.outs hp false keep vs (h.o hp v);refine⟨d,by rw[aD (by decide)];exact h3,aL h4 (Nat.le_of_eq ?_)⟩;show iu S vs*(sz S v*c)=sz S v*iu S vs*c;rw[<- gg,cV (iu S vs)]
theorem N9 (S:List Nat) (most:Bool) (keep:Nat ->Bool) (v:Nat):∀(vs:List Nat) (P:List Tb),i7 S most keep (vs++[v]) P=if keep v then i7 S most keep vs P else j6 S v most (i7 S most keep vs P)
 |[],P=>rfl
 |u::vs,P=>by rw[eE,i7,i7,N9 S most keep v vs]
theorem VH (S:List Nat) (most:Bool) (keep:Nat ->Bool):∀(vs:List Nat) (P:List Tb),(i7 S most keep vs P).length<=P.length+vs.length
 |[],P=>aq _
 |v::vs,P=>by
  rw[i7];refine aL (VH S most keep vs _) ?_
  have:(j6 S v most P).length<=P.length+1:=by
   rw[j6,cK];exact Nat.add_le_add_right (lT ..) 1
  split
  ·simp only[dI];omega
  ·simp only[dI];omega
def uN (keep:Int ->Bool):List Int ->List Int ->List Int
 |[],f=>f
 |x::l,f=>uN keep l (if keep x then f else bJ f x)
theorem QQ (keep:Int ->Bool) (x:Int):∀(l f:List Int),uN keep (l++[x]) f=if keep x then uN keep l f else bJ (uN keep l f) x
 |[],f=>rfl
 |y::l,f=>by rw[eE,uN,uN,QQ keep x l]
theorem ZQ (keep:Int ->Bool):∀(l f:List Int),(uN keep l f).length<=f.length
 |[],f=>aq _
 |x::l,f=>by
  rw[uN];refine aL (ZQ keep l _) ?_;split
  ·exact aq _
  ·exact lT ..
theorem PI.gone (hp:Pos S) (most:Bool) (keep:Nat ->Bool) {F:(Nat ->Nat) ->Rat} (h:PI S n free P F) (hn:NN S P) (hv:v∈free) (dU:¬v∈vs):∃t∈i7 S most keep vs P,v∈ag t.1:=by
 cases most with
 |false=>
  obtain⟨free',h1,h2⟩:=PI.outs hp keep vs h;exact h2.sup v ((h1 v).2 ⟨hv,fun e=>absurd e dU⟩)
 |true=>
  obtain⟨free',h1,h2,_⟩:=PI.mosts hp keep vs h hn;exact h2.sup v ((h1 v).2 ⟨hv,fun e=>absurd e dU⟩)
theorem aeA (a b t q:Option Addr) (ca cb ct cq:Nat) (S:List Nat) (fr:List Nat) (vars:List Int) (P:List Tb) (F:(Nat ->Nat) ->Rat) (D c:Nat) (most:Bool) (w:World) (aJ:dZ (iL S)) (hs:aC w a (iL S)) (hb:aC w b (iL fr)) (hP:fY w t P) (hq:aC w q vars) (dC:vars.length<=1000)
  (jO:fr.Nodup) (hlt:∀v∈fr,v<S.length) (gK:PI S S.length fr P F) (uu:NN S P) (aZ:eH S S.length P D c) (hpl:P.length+fr.length<=999) (hm:2*(B D).size+(B (iu S fr*c)).size+2<=8192):
  Calls Tryz.prog 51 #[.agg #[.slice a S.length ca,.slice b fr.length cb,.slice t P.length ct],.slice q vars.length cq,.bool most] w fun e w'=>∃x y,e=.returned (.agg #[x,y])/\dw w' x y (allT S (i7 S most (fun v=>vars.contains (v:Int)) fr P))/\Below w.heap.size w w':=by
 have dt:Pos S:=by have:=aJ.pos;rwa [fF] at this
 have hPk:∀i,∃d,eH S S.length (i7 S most (fun v=>vars.contains (v:Int)) (fr.take i) P) D d/\d<=iu S fr*c:=fun i=>by
  obtain⟨d,h1,h2⟩:=eH.outs dt most (fun v=>vars.contains (v:Int)) (fr.take i) aZ;exact⟨d,h1,aL h2 (jl _ (T4 dt _ _))⟩
 obtain⟨cc,hcc⟩:=Classical.axiomOfChoice hPk;have hl:(iL fr).length=fr.length:=bs fr;have hg:∀i (h:i<(iL fr).length) (h':i<fr.length),(iL fr)[i]=(fr[i]:Int):=fun i h h'=>by simp[iL]
 have lu:∀i (h':i<fr.length),fr.take (i+1)=fr.take i++[fr[i]]:=fun i h'=>fP h'
 have:=aeB a b t q ca cb ct cq S (iL fr) vars P D cc most (fun i=>i7 S most (fun v=>vars.contains (v:Int)) (fr.take i) P) (fun i=>uN (fun x=>vars.contains x) (iL (fr.take i)) (iL fr)) w aJ hs hb hP hq dC ⟨rfl,rfl⟩
  (fun i h hk=>by
   (have h':i<fr.length:=by rw[<- hl];exact h);rw[hg i h h'] at hk;refine⟨?_,?_⟩
   ·show i7 _ _ _ (fr.take (i+1)) _=_;rw[lu i h',N9,aA hk]
   ·show uN _ (iL (fr.take (i+1))) _=_;rw[lu i h',iL,dL,fQ,k7,QQ,aA hk];rfl)
  (fun i h hk=>by
   (have h':i<fr.length:=by rw[<- hl];exact h);rw[hg i h h'] at hk⊢;refine⟨fr[i],rfl,?_,?_,hlt _ (bM h'),PI.gone dt most _ gK uu (bM h') ?_⟩
   ·show i7 _ _ _ (fr.take (i+1)) _=_;rw[lu i h',N9,aD (by rw[hk];decide)]
   ·show uN _ (iL (fr.take (i+1))) _=_;rw[lu i h',iL,dL,fQ,k7,QQ,aD (by rw[hk];decide)];rfl
   ·intro bq;have h3:(fr.take (i+1)).Nodup:=jO.sublist (List.take_sublist ..);rw[lu i h',A4] at h3;exact h3.2.2 _ bq _ (eD.2 rfl) rfl)
  (fun i _=>by
   obtain⟨h1,h2⟩:=hcc i;have h3:=VH S most (fun v=>vars.contains (v:Int)) (fr.take i) P;rw[dP] at h3;have h4:=ZQ (fun x=>vars.contains x) (iL (fr.take i)) (iL fr);rw[bs] at h4;have h5:=i6 h2;exact⟨h1,by show List.length _<=_;omega,by show List.length _<=_;omega,by omega⟩)
 rw[hl] at this;simp only[gX] at this;exact this
variable {R:List (List Fr)} {L:List (List Int)} {V:List Vr} {h:Nat ->Rat}
theorem Nq {g:Nat ->Rat}:∀ {n:Nat},(∀x,x< n ->g x<=h x) ->ba g n<=ba h n
 |0,_=>C7
 |n+1,e=>by
  rw[ba,ba];exact Fh (Rat.add_le_add_right.2 (Nq fun x hx=>e x (by omega))) (Rat.add_le_add_left.2 (e n (Nat.lt_succ_self n)))
theorem acN {g:Nat ->Rat} (h:∀x,x< n ->0<=g x):0<=ba g n:=by
 have:=Nq (g:=fun _=>0) (h:=g) h;rwa [JS] at this
theorem Rv (l:List (Nat×Nat)) (g:Nat ->Nat):0<=gQ l g/\gQ l g<=1:=by
 rw[K6];cases Ce l g
 ·exact⟨by decide,by decide⟩
 ·exact⟨by decide,by decide⟩
def aX (V:List Vr) (L:List (List Int)) (R:List (List Fr)) (l:List (Nat×Nat)):Rat:=ba (fun k=>gQ l (aV (ar V) (List.range V.length) k)*qh V L R (aV (ar V) (List.range V.length) k) V.length) (cnt (ar V) (List.range V.length))
theorem agy (V:List Vr) (L:List (List Int)) (R:List (List Fr)) (a b:List (Nat×Nat)):aX V L R (a++b)=aX V L R (b++a):=by
 rw[aX,aX];refine jx fun k _=>?_;rw[Il,Il,Fg (gQ a _)]
theorem agz (h0:bj V L R=0) (l:List (Nat×Nat)):0<=aX V L R l:=by
 have dt:Pos (ar V):=by have:=(iz h0).fine.pos;rwa [fF] at this
 exact acN fun k hk=>Ff (Rv _ _).1 (OM h0 (fun u=>qP dt _ _ u hk) (aq _))
theorem agA (h0:bj V L R=0) (a b:List (Nat×Nat)):aX V L R (a++b)<=aX V L R a:=by
 have dt:Pos (ar V):=by have:=(iz h0).fine.pos;rwa [fF] at this
 refine Nq fun k hk=>?_;refine Rat.mul_le_mul_of_nonneg_right ?_ (OM h0 (fun u=>qP dt _ _ u hk) (aq _));rw[Il];have:=S8 (Rv b (aV (ar V) (List.range V.length) k)).2 (Rv a (aV (ar V) (List.range V.length) k)).1;rwa [tV] at this
theorem WU (h0:bj V L R=0) {q:List Nat} (hq:q.Nodup) (l:List (Nat×Nat)):ba (fun K=>aX V L R (qV (ar V) q K++l)) (cnt (ar V) q)=aX V L R l:=by
 have dt:Pos (ar V):=by have:=(iz h0).fine.pos;rwa [fF] at this
 simp only[aX];rw[Nn];refine jx fun k hk=>?_;have hg:Fit (ar V) (aV (ar V) (List.range V.length) k):=fun u=>qP dt _ _ u hk;generalize aV (ar V) (List.range V.length) k=g at *;have kf:=o7 g hg q;rw[<- Np (g:=fun _=>gQ l g*qh V L R g V.length) kf];refine jx fun K hK=>?_;rw[Il,tW,K6,aea dt hq hK hg];congr 1
 by_cases h:pos (ar V) g q=K
 ·simp[h]
 ·simp[h];exact fun e=>h e.symm
theorem GK.grown {V:World} (h:GK w V x y z) (hg:V.grownBy V' (some g)) (hb:w.heap.size+2<=g):GK w V' x y z:=
 have hB:Below (w.heap.size+2) V V':=(au _ V).grown hg (by have:=h.2.lt;omega) (fun k e=>by cases e;exact hb);⟨h.1.grow (hB.af (by omega)),h.2.aa hB (by omega)⟩
theorem afQ (a b c:Option Addr) (ca cb cc v:Nat) (V:List Vr) (L:List (List Int)) (R:List (List Fr)) (w:World) (h:jA w a b c V L R) (hN:tC w b L) (hs:vh V L R) (hw:∀l∈R,fw l<=4200) (h0:bj V L R=0) (hv:v<V.length) (tr:∀U:World,jA U a b c V L R ->Calls Tryz.prog 75 #[.agg #[.slice a V.length ca,.slice b L.length cb,.slice c R.length cc]] U fun e w'=>e=.returned (.int .i64 (bj V L R))/\Below U.heap.size U w'):
  Calls Tryz.prog 95 #[.agg #[.slice a V.length ca,.slice b L.length cb,.slice c R.length cc],.int .i64 (v:Nat)] w fun e w'=>rZ w.heap.size (gU L v) (gL V L R v) 0 e w'/\Below w.heap.size w w':=by
 have aZ:=iz h0;have Hb:=hs.vars.1;have X8:=aZ.n8;have dV:v<L.length:=by rw[aZ.len];exact hv
 have oA:v<R.length:=by rw[aZ.lenR];exact hv
 have kK:=aZ.up v dV;have hno:=Wl h0 dV;have Su:=hid tr;rw[h0] at Su;have RZ:Hid ((([(v:Int)]++L[v]).mergeSort fun x y=>decide (x<=y))=gU L v):=Us dV kK hno;have SH:Hid (([(v:Int)]++L[v]).length=(gU L v).length):=by show _=_;rw[<- RZ.o,Js]
 have Zg:gU L v=jw L[v] [(v:Int)]:=by rw[gU,bU,a8 dV];rfl
 have pV:Hid (Up (gU L v) V.length):=by rw[Zg];exact Dj kK (M9 hv)
 have akW:Hid (0<(gU L v).length):=by show _<_;rw[<- SH.o];simp
 have aJ:=aZ.fine;have jN:∀u,sz (ar V) u<=4:=fun u=>by have:=aJ.sz_le u;rwa [fF] at this
 have dt:Pos (ar V):=by have:=aJ.pos;rwa [fF] at this
 have hsm:cnt (ar V) (ag (gU L v))<=65536:=qM jN (by rw[cY];have:=pV.o.length;omega);have ij:Hid ((gL V L R v).length=cnt (ar V) (ag (gU L v))):=by show _=_;simp[gL]
 have Zq:R[v].length=(gL V L R v).length:=by rw[ij.o,ajF _ dV kK hno];exact aZ.rows v dV oA
 have vD:Hid (∀k (h:k<(gL V L R v).length),(gL V L R v)[k]=qF (a7 (eO V L R (aV (ar V) (ag (gU L v)) k) v))):=fun k h=>by simp[gL]
 have CP:Hid (∀K,K<cnt (ar V) (ag (gU L v)) ->(eO V L R (aV (ar V) (ag (gU L v)) K) v).2.1.size+(eO V L R (aV (ar V) (ag (gU L v)) K) v).2.2.size<=4200):=fun K hK=>agD aZ (fun u=>qP dt _ K u hK) hw hv
 have mM:Hid (∀(K:Nat) (U:World) (G:Nat),K<cnt (ar V) (ag (gU L v)) ->jA U a b c V L R ->ck U G (ng V.length (aV (ar V) (ag (gU L v)) K)) ->Calls Tryz.prog 151 #[.agg #[.slice a V.length ca,.slice b L.length cb,.slice c R.length cc],.int .i64 (v:Nat),.slice (some ⟨G,0,none⟩) V.length V.length] U fun e w'=>e=.returned (gF (eO V L R (aV (ar V) (ag (gU L v)) K) v))/\Below U.heap.size U w'):=fun K U G hK h1 h2=>by
  rw[KC dV oA];have:=agw a b c (some ⟨G,0,none⟩) ca cb cc V.length v V L R (ng V.length (aV (ar V) (ag (gU L v)) K)) U h1 h2.ints (Bj _ _) X8 hv dV oA aJ kK (aZ.rows v dV oA) (aV (ar V) (ag (gU L v)) K) (fun u=>qP dt _ K u hK) (fun u hu=>Nw hu);rwa [Bj] at this
 have cZ:(iL (ar V)).length=V.length:=by rw[bs,kI]
 have HWH:Hid (∀(U:World) (G D cd K:Nat),K<cnt (ar V) (ag (gU L v)) ->ck U G (ar V) ->aC U (some ⟨D,0,none⟩) (gU L v) ->Calls Tryz.prog 150 #[.slice (some ⟨G,0,none⟩) V.length V.length,.slice (some ⟨D,0,none⟩) (gU L v).length cd,.int .i64 (K:Nat)] U fun e w'=>∃(g:Nat) (cc:Nat),e=.returned (.tuple #[.slice (some ⟨g,0,none⟩) (gU L v).length cc,.int .i64 0])/\U.heap.size<=g/\ck w' g (kR (ar V) (ag (gU L v)) K)/\Below U.heap.size U w'):=fun U G D cd K hK h1 h2=>by
  have:=acx (some ⟨G,0,none⟩) (some ⟨D,0,none⟩) V.length cd K (iL (ar V)) (gU L v) U h1.ints h2 aJ (by rw[cZ];exact pV.o) (by rw[fF];exact hK);rwa [cZ,fF] at this
 have HDG:Hid (∀K i (hi:i<(ag (gU L v)).length),(kR (ar V) (ag (gU L v)) K)[i]? =some (aV (ar V) (ag (gU L v)) K (ag (gU L v))[i])):=fun K i hi=>aaS pV.o.nodup hi;have HAO:Hid (∀K u,¬u∈ag (gU L v) ->aV (ar V) (ag (gU L v)) K u=0):=fun K u hu=>Ev hu;have fN:=hid (fun (U:World) (hU:rY U a V)=>Ge a b c ca cb cc L.length R.length V U hU Hb);have Mo:=hid (h.pars v dV);have hpl:=hs.pars.2 L[v] (bM dV);replace hpl:L[v].length<=50000:=by omega
 have yV:=hid (hN v dV);obtain⟨gr,gZ,br,cr,rfl,hgr,r1, -, -⟩:=h.rows v oA;rw[Zq] at r1;have qX:=hid r1;have HI:=hid h;generalize gL V L R v=FL at *;generalize gU L v=U at *;obtain⟨gp,eN,bl,cl,rfl,gA,p1,gK⟩:=Mo.o;have Mh:=hid (yV.o gp eN bl _ cl rfl p1);have qZ:=hid p1;have xe:=hid gK;generalize ahh:L[v]=pl at *;clear h hs hw h0 aZ kK Zg aJ jN dt cZ Mo p1 gK ahh hno hN yV Zq r1 tr;have jk:=hid (GK.new w (.slice a V.length ca) (.slice (some ⟨gp,eN,none⟩) L.length cb) (.slice (some ⟨gr,gZ,none⟩) R.length cc));obtain⟨c0,c1,c2⟩:=jk.o.1.1.cells;go_enter Tryz.func95,Tryz.ntmps95;go_wp2_with fail
 generalize ((w.alloc (NC (.slice a V.length ca) (.slice (some ⟨gp,eN,none⟩) L.length cb) (.slice (some ⟨gr,gZ,none⟩) R.length cc))).alloc (TC (.slice none 0 0) (.slice none 0 0)))=w1 at *;refine(Su.o _ (HI.o.aa jk.o.1.2)).af ?_;rintro e W ⟨rfl,hb⟩;have hG:=jk.o.step hb;clear hb jk c0 c1 c2 Su;obtain⟨c0,c1,c2⟩:=hG.1.1.cells;have hv0:(0:Int)<=(v:Int):=by omega
 have ny:(v:Int)<(V.length:Int):=by omega
 have SI:=hid hG;clear hG;go_upto_region 6 with fail
 clear c0 c1 c2;have qu:decide (V.length<=v)=false:=by simp;exact hv
 have pL:decide ((v:Int)<0)=false:=by simp
 simp only[qu,pL,Bool.or_false];go_cut [7,8] from 32 to 42 (fun s t wx=>∃G D cd,s=.slice (some ⟨G,0,none⟩) V.length V.length/\t=.slice (some ⟨D,0,none⟩) U.length cd/\w.heap.size+2<=G/\w.heap.size+2<=D/\ck wx G (ar V)/\aC wx (some ⟨D,0,none⟩) U/\GK w wx (.slice a V.length ca) (.slice (some ⟨gp,eN,none⟩) L.length cb) (.slice (some ⟨gr,gZ,none⟩) R.length cc))
 case first=>
  have hG:=SI.o;clear SI;replace hG:GK w W.drew (.slice a V.length ca) (.slice (some ⟨gp,eN,none⟩) L.length cb) (.slice (some ⟨gr,gZ,none⟩) R.length cc):=⟨⟨hG.1.1,hG.1.2.drew⟩,hG.2⟩;refine jE (S:=fun u=>u.cell? ⟨w.heap.size,0,none⟩=some (.slice a V.length ca)/\u.cell? ⟨w.heap.size,1,none⟩=some (.slice (some ⟨gp,eN,none⟩) L.length cb)/\u.cell? ⟨w.heap.size,2,none⟩=some (.slice (some ⟨gr,gZ,none⟩) R.length cc)/\u.cell? ⟨gp,eN+v,none⟩=some (.slice bl pl.length cl)) (by kernel_rfl) ⟨hG.1.1.cells.1,hG.1.1.cells.2.1,hG.1.1.cells.2.2,(hG.1.2.cell (p:=⟨gp,eN+v,none⟩) gA).trans qZ.o⟩ (fun ak=>?_);generalize W.drew=u0 at *;refine aw 0 (.agg #[.slice a V.length ca,.slice (some ⟨gp,eN,none⟩) L.length cb,.slice (some ⟨gr,gZ,none⟩) R.length cc]) ?_;refine aw 2 (.int .i64 (v:Nat)) ?_;refine aw 4 (.pointer (some ⟨w.heap.size,1,none⟩)) ?_;refine aw 5 (.slice (some ⟨gp,eN,none⟩) L.length cb) ?_;refine aw 6 (.int .i64 (v:Nat)) ?_;refine aw 7 (.pointer (some ⟨gp,eN+v,none⟩)) ?_;refine aw 8 (.slice bl pl.length cl) ?_;refine aH [1,3] (cA ?_ (cA ?_ aG))
  focus
   intro K' hK';go_simp;refine(fN.o _ (HI.o.aa hG.1.2).vars).af ?_;rintro e uS ⟨G,rfl,Hq,hrow,hb⟩;(have ZF:w.heap.size+2<=G:=by have:=hG.2.lt;omega);replace hG:=hG.step hb;refine hK'.o _ _ ⟨hG.1.1.cells.1,hG.1.1.cells.2.1,hG.1.1.cells.2.2,(hG.1.2.cell (p:=⟨gp,eN+v,none⟩) gA).trans qZ.o⟩ (fun ah=>?_);clear hb Hq;clear hK' K' ak;have ak:=ah;clear ah;refine aH [3] (cA ?_ aG);intro K' hK';go_simp;have hown:(uS.alloc (.cells #[.int .i64 (v:Int)] 3)).heap[uS.heap.size]? =some (.cells #[.int .i64 (v:Int)] 3 (0,0)):=im uS _;have ah2:G<uS.heap.size:=hrow.lt;replace hrow:=hrow.alloc (.cells #[.int .i64 (v:Int)] 3);(have ahH:w.heap.size+2<=uS.heap.size:=by have:=hG.2.lt;omega);replace hG:=hG.step ((au _ uS).alloc (aq _) (.cells #[.int .i64 (v:Int)] 3));refine hK'.o _ _ ⟨hG.1.1.cells.1,hG.1.1.cells.2.1,hG.1.1.cells.2.2,(hG.1.2.cell (p:=⟨gp,eN+v,none⟩) gA).trans qZ.o⟩ (fun ah=>?_);generalize (uS.alloc (.cells #[.int .i64 (v:Int)] 3))=u2 at *;generalize uS.heap.size=gb at *
  rotate_left
  focus
   intro K' hK';go_simp;have hown:(u0.alloc (.cells #[.int .i64 (v:Int)] 3)).heap[u0.heap.size]? =some (.cells #[.int .i64 (v:Int)] 3 (0,0)):=im u0 _;(have ahH:w.heap.size+2<=u0.heap.size:=by have:=hG.2.lt;omega);(have ahG:u0.heap.size<(u0.alloc (.cells #[.int .i64 (v:Int)] 3)).heap.size:=by simp);replace hG:=hG.step ((au _ u0).alloc (aq _) (.cells #[.int .i64 (v:Int)] 3));refine hK'.o _ _ ⟨hG.1.1.cells.1,hG.1.1.cells.2.1,hG.1.1.cells.2.2,(hG.1.2.cell (p:=⟨gp,eN+v,none⟩) gA).trans qZ.o⟩ (fun ah=>?_);generalize (u0.alloc (.cells #[.int .i64 (v:Int)] 3))=u2 at *;generalize u0.heap.size=gb at *;clear hK' K' ak;have ak:=ah;clear ah;refine aH [1] (cA ?_ aG);intro K' hK';go_simp;refine(fN.o _ (HI.o.aa hG.1.2).vars).af ?_;rintro e uS ⟨G,rfl,Hq,hrow,hb⟩;(have ZF:w.heap.size+2<=G:=by have:=hG.2.lt;omega);(have ah2:gb<G:=by omega);replace hG:=hG.step hb;replace hown:=(hb.block gb ahG).trans hown;refine hK'.o _ _ ⟨hG.1.1.cells.1,hG.1.1.cells.2.1,hG.1.1.cells.2.2,(hG.1.2.cell (p:=⟨gp,eN+v,none⟩) gA).trans qZ.o⟩ (fun ah=>?_);clear hb Hq
  all_goals
   clear hK' K' ak;have ak:=ah;clear ah;refine aH [9] (cA ?_ aG);intro K' hK';rw[aA (by rfl)];refine abG _ _ rfl gb (v:Int) pl rfl hown bl cl rfl (xe.o.aa hG.1.2) Mh.o (by omega) ?_;intro D cap u3 hD hDl Zz hgr;have Hr:GK w u3 (.slice a V.length ca) (.slice (some ⟨gp,eN,none⟩) L.length cb) (.slice (some ⟨gr,gZ,none⟩) R.length cc):=hG.grown hgr (by omega);have Pj:ck u3 G (ar V):=(hgr.block G hrow.lt (fun e=>by cases e;omega)).trans hrow;(have hD2:w.heap.size+2<=D:=by have:=hG.2.lt;omega);(have hDG:D≠G:=by have:=hrow.lt;omega);clear hG hrow hown hgr hD;have hG:=Hr;clear Hr;refine hK'.o _ _ ⟨hG.1.1.cells.1,hG.1.1.cells.2.1,hG.1.1.cells.2.2,(hG.1.2.cell (p:=⟨gp,eN+v,none⟩) gA).trans qZ.o⟩ (fun ah=>?_);clear hK' K' ak;have ak:=ah;clear ah;refine aH [10] (cA ?_ aG);intro K' hK';go_simp;refine(adB D cap ([(v:Int)]++pl) u3 Zz hDl (by simp;omega)).af ?_;rintro e u4 ⟨rfl,hint,hgr⟩;rw[RZ.o] at hint;have Hr:GK w u4 (.slice a V.length ca) (.slice (some ⟨gp,eN,none⟩) L.length cb) (.slice (some ⟨gr,gZ,none⟩) R.length cc):=hG.grown hgr (by omega);have ahe:ck u4 G (ar V):=(hgr.block G Pj.lt (fun e=>hDG (mS e).symm)).trans Pj;clear hG Pj hgr Zz;have hG:=Hr;clear Hr;refine hK'.o _ _ ⟨hG.1.1.cells.1,hG.1.1.cells.2.1,hG.1.1.cells.2.2,(hG.1.2.cell (p:=⟨gp,eN+v,none⟩) gA).trans qZ.o⟩ (fun ah=>?_);clear hK' K' ak;have ak:=ah;clear ah;refine aw 11 (.slice (some ⟨G,0,none⟩) V.length V.length) ?_;refine aw 12 (.slice (some ⟨D,0,none⟩) ([(v:Int)]++pl).length cap) ?_;(try simp only[gE,aP])
   refine eK (by kernel_rfl) ?_ _;clear ak;go_wp2_with fail
   go_meet
   rw[SH.o];exact⟨G,D,cap,rfl,rfl,ZF,hD2,ahe,hint,hG⟩
 case rest=>
 obtain⟨G,D,cd,rfl,rfl,oG,oD,KQ,BQ,hG⟩:=hcut;clear qu pL RZ SH xe qZ Mh fN SI;have hwc:=hG.2.lt;obtain⟨c0,c1,c2⟩:=hG.1.1.cells;have r2:=(hG.1.2.cell (p:=⟨gr,gZ+v,none⟩) hgr).trans qX.o;have alA:(v:Int)<(R.length:Int):=by omega
 obtain⟨i1,zW,sU,hy1,hy2⟩:=dH Tryz.infoFrac;obtain⟨i0,bY,hz0,hz1,hz2⟩:=dH Tryz.infoInt;have hFs:FL.length<=65536:=by rw[ij.o];exact hsm
 have HG:=hid hG;clear hG
 go_wp2_with (first
  |(at_make;refine mR _ rfl _ _ 37 rfl wc.heap.size 32 i1 (.agg #[.bool false,.string ⟨#[]⟩,.string ⟨#[]⟩]) 3 Tryz.underlying37 zW sU hy1 .i64 .i64 _ _ FL.length rfl rfl (by go_num) (by go_num) (by rw[hy2];omega) (by unfold maxLen;omega) (aq _) ?_;intro w3 X1 Yz;have bL:Below wc.heap.size wc w3:=(au _ wc).grown Yz (aq _) (fun k e=>by cases e);have Lf:=HG.o.step bL;clear c0 c1 c2 r2;obtain⟨c0,c1,c2⟩:=Lf.1.1.cells)
  |(at_make;refine mR _ rfl _ _ 27 rfl w3.heap.size 3 i0 (.int .i64 0) 1 Tryz.underlying27 bY hz0 hz1 .i64 .i64 _ _ V.length rfl rfl (by go_num) (by go_num) (by rw[hz2];omega) (by unfold maxLen;omega) (aq _) ?_;intro w4 nD B6))
 have hr3:=aaN X1;rw[WJ] at hr3;have hr4:=pS nD;rw[DJ] at hr4;have dK:Below w3.heap.size w3 w4:=(au _ w3).grown B6 (aq _) (fun k e=>by cases e);have km:ji w3 wc.heap.size (List.replicate FL.length wM):=hr3;have tq:ck w4 w3.heap.size (List.replicate V.length 0):=hr4;have hlt3:=km.lt;have QH:=bL.trans (dK.af bL.size)
 have e0:List.replicate V.length 0=ng V.length (fun _=>0):=by
  apply rz<;>simp[ng]
 rw[e0] at tq;have ZB:=KQ.lt
 have hDlt:D<wc.heap.size:=by
  obtain⟨g',o',e,h2,_⟩:=BQ 0 (by have:=akW.o;omega);cases e;exact h2
 have HV0:Hid (GV w (.slice a V.length ca) (.slice (some ⟨gp,eN,none⟩) L.length cb) (.slice (some ⟨gr,gZ,none⟩) R.length cc) G D wc.heap.size w3.heap.size (ar V) U w4 (List.replicate FL.length wM) (ng V.length (fun _=>0))):=⟨Lf.step dK,KQ.aa QH KQ.lt,BQ.aa QH,km.aa dK km.lt,tq,oG,oD,ZB,hDlt,hlt3⟩;clear X1 Yz nD B6 hr3 hr4 bL dK km tq hlt3 QH e0 ZB hDlt KQ BQ Lf HG c0 c1 c2 oG oD hwc;generalize wc.heap.size=C at *;generalize w3.heap.size=Ab at *;go_wp2_with fail
 go_loopw [56] (fun iv wr=>∃(i:Nat) (A:Nat ->Nat),i<=FL.length/\iv=.int .i64 i/\Hid (∀u,¬u∈ag U ->A u=0)/\Hid (GV w (.slice a V.length ca) (.slice (some ⟨gp,eN,none⟩) L.length cb) (.slice (some ⟨gr,gZ,none⟩) R.length cc) G D C Ab (ar V) U wr (o8 FL i) (ng V.length A))) (fun iv _=>FL.length - (intOf iv).toNat)
 case atStart=>exact⟨0,fun _=>0,aU _,rfl,fun _ _=>rfl,by rw[Vt];exact HV0⟩
 case round=>
  obtain⟨i,A,hi,rfl,MC,HX⟩:=hrel;clear HV0;by_cases hlt:i<FL.length
  ·have PE:i<cnt (ar V) (ag U):=by rw[<- ij.o];exact hlt
   go_wp2_with fail
   refine(HWH.o _ G D cd i PE HX.o.szs HX.o.us).af ?_;rintro e u1 ⟨g5,cd5,rfl,ahE,PG,hb5⟩;have ah5:=HX.o.vs.lt;(have h5A:g5≠Ab:=by omega);have r7:=hid (HX.o.step hb5);have tP:=hid PG;clear PG hb5 HX ahE ah5;go_wp2_with fail
   go_loopw [68] (fun jv wr=>∃j:Nat,j<=U.length/\jv=.int .i64 j/\Hid (GV w (.slice a V.length ca) (.slice (some ⟨gp,eN,none⟩) L.length cb) (.slice (some ⟨gr,gZ,none⟩) R.length cc) G D C Ab (ar V) U wr (o8 FL i) (ng V.length (wk A (aV (ar V) (ag U) i) (ag U) j)))/\Hid (ck wr g5 (kR (ar V) (ag U) i))) (fun jv _=>U.length - (intOf jv).toNat)
   case atStart=>exact⟨0,aU _,rfl,by rw[agh];exact r7,tP⟩
   case round=>
    obtain⟨j,hj,rfl,HX,Mu⟩:=hrel;clear r7 tP;have hUl:=pV.o.length;by_cases nG:j<U.length
    ·obtain⟨iA,iN⟩:=pV.o.nat nG;(have Yu:j<(ag U).length:=by rw[cY];exact nG);have iI:=hid (agi A (aV (ar V) (ag U) i) V.length Yu);have PZ:=HDG.o i j Yu;rw[mW nG] at iI PZ;obtain⟨g',o',e, -,cu⟩:=HX.o.us j nG;cases e;rw[bD] at cu;generalize U[j].toNat=u at *;rw[<- iA] at cu;clear iA;obtain⟨Ca,YJ⟩:=nY.1 PZ;have cv:=Mu.o.cell j Ca;rw[YJ] at cv;have ca_:=HX.o.vs.cell u (by rw[Bj];exact iN);have fa_:=HX.o.vs.fz u;generalize aV (ar V) (ag U) i u=z at *;have HXs:=hid (HX.o.setA u z);rw[iI.o] at HXs;have ale:=hid (Mu.o.off Ab u (.int .i64 (z:Nat)) h5A);clear PZ YJ HX Mu;go_wp2;go_roundw
     case rel=>exact⟨j+1,by omega,by go_num,HXs,ale⟩
     case measure=>simp[intOf];omega
    ·obtain rfl:j=U.length:=by omega
     have hX:=HX.o;rw[show wk A (aV (ar V) (ag U) i) (ag U) U.length=aV (ar V) (ag U) i by rw[<- cY U];exact agj MC.o (HAO.o i)] at hX;obtain⟨c0,c1,c2⟩:=hX.gk.1.1.cells;have LW:=hid hX;clear hX HX Mu;go_wp2_with fail
     refine(mM.o i _ Ab PE (HI.o.aa LW.o.gk.1.2) LW.o.vs).af ?_;rintro e u3 ⟨rfl,c5⟩;have pU:=hid (LW.o.step c5);clear c0 c1 c2 c5 LW;have GY:=vD.o i hlt;have hcs:=CP.o i PE;generalize eO V L R (aV (ar V) (ag U) i) v=fr at *;obtain⟨fn,fx,fy⟩:=fr;replace hcs:fx.size+fy.size<=4200:=hcs;have hq:FL[i]=qF (val fn fx fy):=GY;have HQ:=hid hq;clear GY hq;go_wp2_with fail
     refine(S7 (n:=fn) (x:=fx) (y:=fy) (w:=u3) (val fn fx fy) rfl (by omega)).af ?_;rintro e u5 ⟨rfl,fp⟩;have tD:=hid (pU.o.step fp);clear fp pU;have HST:=hid (Vu FL hlt);rw[HQ.o] at HST;obtain⟨k0,k1,k2⟩:=tD.o.cs.cells i (by rw[N2 _ hi];exact hlt);have f0:=tD.o.cs.fz (i*3);have f1:=tD.o.cs.fz (i*3+1);have f2:=tD.o.cs.fz (i*3+2);generalize (o8 FL i)[i]'(by rw[N2 _ hi];exact hlt)=zf at *;obtain⟨zn,zx,zy⟩:=zf;simp only at k0 k1 k2;have HP:=hid (tD.o.setC i (qF (val fn fx fy)));rw[HST.o] at HP;generalize val fn fx fy=qq at *;go_wp2;go_roundw
     case rel=>exact⟨i+1,_,by omega,by go_num,HAO.o i,HP⟩
     case measure=>simp[intOf];omega
  ·obtain rfl:i=FL.length:=by omega
   have hX:=HX.o;rw[Vv] at hX;obtain⟨k0,k1,f0,f1⟩:=hX.gk.2.facts;have h1:=hX.oD;have h2:=hX.oDC;clear HX;go_wp2;refine bS ((hX.gk.2.put _ _).result2 rfl _ rfl) rfl ?_;exact⟨⟨some ⟨D,0,none⟩,some ⟨C,0,none⟩,cd,FL.length,rfl,(hX.us.far _ _ _ (by omega)).far _ _ _ (by omega),((hX.cs.off _ _ _ (by omega)).off _ _ _ (by omega)).fr,fM.at (by omega),fM.at (by omega)⟩,mK hX.gk.1.2 (by omega) _ _⟩
theorem afS (a b c:Option Addr) (ca cb cc:Nat) (V:List Vr) (L:List (List Int)) (R:List (List Fr)) (w:World) (h:jA w a b c V L R) (hs:vh V L R)
  (ZJ:L.length=V.length ->R.length=V.length ->bQ L=0 ->lY V=0 ->∀U:World,jA U a b c V L R ->Calls Tryz.prog 132 #[.agg #[.slice a V.length ca,.slice b L.length cb,.slice c R.length cc]] U fun e w'=>e=.returned (.int .i64 (iD (kJ (ar V) L R) V.length))/\Below U.heap.size U w'):
  Calls Tryz.prog 75 #[.agg #[.slice a V.length ca,.slice b L.length cb,.slice c R.length cc]] w fun e w'=>e=.returned (.int .i64 (bj V L R))/\Below w.heap.size w w':=by
 have HI:=hid h;have Hb:=hs.vars.1;have Zx:=hs.pars.1;have hR5:=hs.rows.1;have AH:Hid (¬(L.length=V.length/\R.length=V.length) ->bj V L R=8):=fun h=>aD h;have yX:Hid (L.length=V.length ->R.length=V.length ->bQ L≠0 ->bj V L R=bQ L):=fun h1 h2 h3=>by rw[bj,aA ⟨h1,h2⟩,aD h3]
 have yV:Hid (L.length=V.length ->R.length=V.length ->bQ L=0 ->lY V≠0 ->bj V L R=lY V):=fun h1 h2 h3 h4=>by rw[bj,aA ⟨h1,h2⟩,aA h3,aD h4]
 have HNR:Hid (L.length=V.length ->R.length=V.length ->bQ L=0 ->lY V=0 ->bj V L R=iD (kJ (ar V) L R) V.length):=fun h1 h2 h3 h4=>by rw[bj,aA ⟨h1,h2⟩,aA h3,aA h4]
 have HGC:=hid (fun (U:World) (hU:fC U b L)=>aio b cb L U hU (fun l hl=>by have:=hs.pars.2 l hl;omega));have HVC:=hid (fun (U:World) (hU:rY U a V)=>ajR a ca V U hU hs.vars);have Mx:=hid ZJ;generalize bj V L R=ne at *;clear h hs ZJ;have jk:=hid (NK.new w (.slice a V.length ca) (.slice b L.length cb) (.slice c R.length cc));obtain⟨c0,c1,c2⟩:=jk.o.1.cells;by_cases qH:L.length=V.length
 ·by_cases uH:R.length=V.length
  ·have hlv:((L.length:Int) !=(V.length:Int))=false:=by rw[qH];simp
   (have XQ:((R.length:Int) !=(V.length:Int))=false:=by rw[uH];simp);have Ss:=hid (yX.o qH uH);have Sn:=hid (yV.o qH uH);have Sq:=hid (HNR.o qH uH);have S1:=hid (Mx.o qH uH);clear qH uH AH yX yV HNR Mx;generalize iD (kJ (ar V) L R) V.length=fe at *;generalize bQ L=ge at *;generalize lY V=ve at *;go_enter Tryz.func75,Tryz.ntmps75;go_wp2_with fail
   generalize (w.alloc (NC (.slice a V.length ca) (.slice b L.length cb) (.slice c R.length cc)))=w1 at *;refine(HGC.o _ (HI.o.aa jk.o.2).pars).af ?_;rintro e w2 ⟨rfl,hb⟩;have hK:=jk.o.step hb;clear hb jk c0 c1 c2 hlv XQ HGC;obtain⟨c0,c1,c2⟩:=hK.1.cells;by_cases hg:ge=0
   ·subst hg;have Sm:=hid (Sn.o rfl);have Sp:=hid (Sq.o rfl);have S0:=hid (S1.o rfl);have HK:=hid hK;clear Ss Sn Sq S1 hK;go_wp2_with fail
    refine(HVC.o _ (HI.o.aa HK.o.2).vars).af ?_;rintro e w3 ⟨rfl,hb⟩;have hK:=HK.o.step hb;clear hb HK c0 c1 c2 HVC;obtain⟨c0,c1,c2⟩:=hK.1.cells;by_cases hv:ve=0
    ·subst hv;have HQ:=hid (Sp.o rfl);have alg:=hid (S0.o rfl);have HK:=hid hK;clear Sm Sp S0 hK;go_wp2_with fail
     refine(alg.o _ (HI.o.aa HK.o.2)).af ?_;rintro e w4 ⟨rfl,hb⟩;have hK:=HK.o.step hb;clear c0 c1 c2 hb;go_wp2;go_ret;exact⟨by rw[HQ.o];rfl,hK.2⟩
    ·have HQ:=hid (Sm.o hv);(have oz:(ve==0)=false:=by simpa using hv);clear hv Sm Sp S0 c0 c1 c2;go_wp2;go_ret;exact⟨by rw[HQ.o];rfl,hK.2⟩
   ·have HQ:=hid (Ss.o hg);(have hgb:(ge==0)=false:=by simpa using hg);clear hg Ss Sn Sq S1 c0 c1 c2;go_wp2;go_ret;exact⟨by rw[HQ.o];rfl,hK.2⟩
  ·have HQ:=hid (AH.o fun h=>uH h.2);(have hlv:((L.length:Int) !=(V.length:Int))=false:=by rw[qH];simp)
   have XQ:((R.length:Int) !=(V.length:Int))=true:=by
    (have:¬(R.length:Int)=(V.length:Int):=by omega);simpa using this
   clear qH uH AH Mx;go_enter Tryz.func75,Tryz.ntmps75;go_wp2;go_ret;exact⟨by rw[HQ.o];rfl,jk.o.2⟩
 ·have HQ:=hid (AH.o fun h=>qH h.1)
  have hlv:((L.length:Int) !=(V.length:Int))=true:=by
   (have:¬(L.length:Int)=(V.length:Int):=by omega);simpa using this
  clear qH AH Mx;go_enter Tryz.func75,Tryz.ntmps75;go_wp2;go_ret;exact⟨by rw[HQ.o];rfl,jk.o.2⟩
section
attribute [local go_sem] Oper.semAt_some
def wU (Bs Bk B:Nat) (V V':World):Prop:=mr Bs V V'/\mr Bk V V'/\Below B V V'
theorem wU.t {Bs Bk B:Nat} {X Y Z:World} (h:wU Bs Bk B X Y) (k:wU Bs Bk B Y Z):wU Bs Bk B X Z:=⟨h.1.t k.1,h.2.1.t k.2.1,h.2.2.trans k.2.2⟩
theorem wU.b {Bs Bk B:Nat} (hs:Bs<w.heap.size) (hk:Bk<w.heap.size) (hB:B<=w.heap.size) (V:World) (l:Nat) (o o':Obj) (hl:w.heap.size<=l) (h1:V.heap[l]? =some o) (h2:o.isCells=false) (h3:o.isWalk=false):wU Bs Bk B V (V.putObj l o'):=
 ⟨mr.b hs V l o o' hl h1 h2 h3,mr.b hk V l o o' hl h1 h2 h3,sH hB V l o o' hl h1 h2 h3⟩
theorem grown_drew (w:World):w.grownBy w.drew none:=⟨rfl,rfl,rfl,aq _,fun _ _ _=>rfl⟩
abbrev xA (N:Nat):Type:= {i:Nat//i<N}
abbrev Ri (gf ek k N:Nat) (x:xA N):Array Value:= #[.slice (some ⟨gf,ek+x.1*k*3,none⟩) k k]
theorem ajP (n:Nat) (hn:1<=n) (l Bs Bk B gf ek cap k N T:Nat) (hT:T=N*k) (hk:1<=k) (hk4:k<=4) (hN:N<=65536) (qC:T<=cap) (J Jx:List (xA N) ->World ->Prop) (hD:∀pre V,J pre V ->J pre V.drew)
  (hY:∀pre x V,J pre V ->pre.length< N ->YieldAt Fence.wide (n - 1) Tryz.prog l (Ri gf ek k N x) V fun e V'=>
   (e=.returned (.bool true)/\J (pre++[x]) V'/\wU Bs Bk B V V')∨(e=.returned (.bool false)/\Jx (pre++[x]) V'))
  (V:World) (uK:V.cell? ⟨Bs,0,none⟩=some (.slice (some ⟨gf,ek,none⟩) T cap)) (Ek:V.cell? ⟨Bk,0,none⟩=some (.int .i64 (k:Nat))) (h0:J [] V):
  CallsIn Fence.wide n Tryz.prog 223 #[.func (.yield l) #[] #[],.pointer (some ⟨Bs,0,none⟩),.pointer (some ⟨Bk,0,none⟩)] V fun e V'=>(∃v,e=.returned v)/\
   ((∃ys:List (xA N),ys.map (·.1)=List.range N/\J ys V')∨(∃pre:List (xA N),(∃j,j<=N/\pre.map (·.1)=List.range j)/\Jx pre V')):=by
 refine C5 Tryz.func223 rfl trivial ?_ rfl;simp only[Tryz.ntmps223,lR,dI,k8,Nat.reduceAdd,Nat.reduceSub,lX,lW,lS,k9,gY,eE];have vk:=hid hT;have Qr:T<=262144:=by rw[hT];exact aL (jm hN hk4) (by decide)
 clear hT;gi_wp2
 gi_loopw [4] (fun i wr=>∃(j:Nat) (pre:List (xA N)),j<=N/\i=.int .i64 (j*k:Nat)/\Hid (pre.map (·.1)=List.range j)/\J pre wr/\wr.cell? ⟨Bs,0,none⟩=some (.slice (some ⟨gf,ek,none⟩) T cap)/\wr.cell? ⟨Bk,0,none⟩=some (.int .i64 (k:Nat)))
  (fun i _=>T - (intOf i).toNat)
 case atStart=>exact⟨0,[],aU _,by rw[mC];rfl,rfl,h0,uK,Ek⟩
 case round=>
  obtain⟨j,pre,hj,rfl,HP,hJs,fX,YT⟩:=hrel;by_cases hlt:j<N
  ·have hpl:pre.length=j:=by have:=cU List.length HP.o;rwa [cX,A6] at this
   (have HS:Hid ((pre++[(⟨j,hlt⟩:xA N)]).map (·.1)=List.range (j+1)):=by show _=_;rw[dL,HP.o,oY];rfl);(have GP:(j+1)*k<=T:=by rw[vk.o];exact jl k hlt);(have e2:(j+1)*k=j*k+k:=by rw[eL,jF]);have CU:Hid ((j+1)*k=j*k+k):=e2;(have hlo:j*k+k<=T:=by omega);have nS:Hid (j*k=j*k):=rfl;clear e2 GP;have Ql:=fun W hW=>hY pre ⟨j,hlt⟩ W hW (by omega);simp only[Ri] at Ql;generalize QD:j*k=lo at *;have HYJ:=hid Ql;clear Ql nS;have HEM:=hid QD;clear QD;(have hc1:¬cap=lo:=by omega);(have kL:lo<=T:=by omega);(have ahr:min (k:Int) ((T - lo:Nat):Int)=(k:Int):=by omega);gi_wp2
   gi_region
   have hJd:=hD pre wr hJs;have YQ:wr.drew.cell? ⟨Bs,0,none⟩=some (.slice (some ⟨gf,ek,none⟩) T cap):=fX;have YS:wr.drew.cell? ⟨Bk,0,none⟩=some (.int .i64 (k:Nat)):=YT;clear fX YT hJs ahr;generalize wr.drew=w2 at *;obtain⟨fn,tmps,assign,body,hy,hR⟩:=HYJ.o w2 hJd;have HR:=hid hR;clear hR;(have hw1:IntKind.i64.wrap ((lo:Int)+(k:Int))=((lo+k:Nat):Int):=by rw[gI];omega);(have qu:(lo+k:Nat) - lo=k:=by omega);(have hx1:((lo+k:Nat):Int)<=(cap:Int):=by omega);generalize Yx:lo+k=K3 at *;(have hx2:lo<=K3:=by omega);have HHI:=hid Yx;clear Yx;gi_wp2
   refine HR.o.af ?_;rintro e W3 (⟨rfl,hJ3,hk3⟩ |⟨rfl,hJx3⟩)
   ·have ahV:=Eq.trans hk3.1 YQ;have ahY:=Eq.trans hk3.2.1 YS;have HE:Hid ((j+1)*k=K3):=CU.o;(have hlt3:lo<K3:=by have:=HHI.o;omega);(have alL:K3<=T:=by have:=HHI.o;omega);clear YQ YS hk3;gi_wp2
    go_roundw
    case rel=>exact⟨j+1,_,by omega,by rw[HE.o],HS,hJ3,ahV,ahY⟩
    case measure=>simp[intOf];omega
   ·gi_wp2
    refine bS (results_none rfl _ _ _) rfl ?_;exact⟨⟨_,rfl⟩,.inr ⟨_,⟨j+1,by omega,HS.o⟩,hJx3⟩⟩
  ·obtain rfl:j=N:=by omega
   rw[<- vk.o];gi_wp2
   go_end0
   exact⟨⟨_,rfl⟩,.inl ⟨_,HP.o,hJs⟩⟩
theorem ajO (n:Nat) (a:Option Addr) (T cap k:Nat) (hk:1<=k) (w:World):
  CallsIn Fence.wide n Tryz.prog 176 #[.slice a T cap,.int .i64 (k:Nat)] w fun e w'=>e=.returned (.func (.func 223) #[] #[.pointer (some ⟨w.heap.size,0,none⟩),.pointer (some ⟨w.heap.size+1,0,none⟩)])/\w'=(w.alloc (.cells #[.slice a T cap] 37)).alloc (.cells #[.int .i64 (k:Nat)] 3):=by
 refine C5 Tryz.func176 rfl trivial ?_ rfl;simp only[Tryz.ntmps176,lR,dI,k8,Nat.reduceAdd,Nat.reduceSub,lX,lW,lS,k9,gY,eE];have e1:(1:Int)<=(k:Int):=by omega
 gi_wp2
 go_ret;exact⟨rfl,rfl⟩
theorem ajN (n:Nat) (hn:1<=n) (Bs Bk B gf ek cap k N T:Nat) (hT:T=N*k) (hk:1<=k) (hk4:k<=4) (hN:N<=65536) (qC:T<=cap) (w:World) (uK:Bs<w.heap.size) (Ek:Bk<w.heap.size) (h1:w.cell? ⟨Bs,0,none⟩=some (.slice (some ⟨gf,ek,none⟩) T cap)) (h2:w.cell? ⟨Bk,0,none⟩=some (.int .i64 (k:Nat))):
  SeqStopsK Fence.wide n Tryz.prog 223 #[.pointer (some ⟨Bs,0,none⟩),.pointer (some ⟨Bk,0,none⟩)] (Ri gf ek k N) (wU Bs Bk B) (fun ys=>ys.map (·.1)=List.range N) (fun pre=>∃j,j<=N/\pre.map (·.1)=List.range j) N w:=fun l J Jx V hV hJ _ hY h0=>
 ajP n hn l Bs Bk B gf ek cap k N T hT hk hk4 hN qC J Jx (fun pre U hU=>hJ pre U U.drew none hU (grown_drew U) (fun r e=>by cases e)) hY V ((hV.cell (p:=⟨Bs,0,none⟩) uK).trans h1) ((hV.cell (p:=⟨Bk,0,none⟩) Ek).trans h2) h0
end
section
attribute [local go_sem] Oper.semAt_some
variable {ds:List Deferred}
theorem NF {k:Int} (h:Boxed w g 33 (.int .i64 k)) {p:Tmp} (hr:fn.results= #[.cell p 33]) (tmps:Array Value) (hp:tmps.getD p undef=.pointer (some ⟨g,0,none⟩)):(results fn tmps).run Tryz.prog w=.ok (.int .i64 k) w:=by
 have hp':tmps[p]?.getD undef=.pointer (some ⟨g,0,none⟩):=by simpa using hp
 have hc:=h.cell;simp only[results,hr];simp[hp',asAddr];go_simp
theorem aaP {V:World} (h:Below V.heap.size V V'):KeepsOthers V V':=⟨h.size,fun k _ hk _=>(h.block k (dm.1 hk).1).trans hk⟩
theorem aeU {β:Type} {n0 B:Nat} {Q:β ->World ->Prop} (hB:n0<=B):OwnFrom B (fun (s:β) W=>∃V,Q s V/\n0<=V.heap.size/\Below n0 V W):=fun s W W' row hs hg hr=>by
 obtain⟨V,h1,h2,h3⟩:=hs;exact⟨V,h1,h2,h3.grown hg (aL h2 h3.size) (fun k e=>aL hB (hr k e).1)⟩
def lO (w:World) (k:Int) (W:World):Prop:=Boxed W (w.heap.size+1) 33 (.int .i64 k)/\Below w.heap.size w W
theorem lO.shut {k:Int} (hlo:w.heap.size+1<lo) (W:World) (r:Nat) (h:lO w k W) (hr:lo<=r) (hd:W.heap[r]? =some (.deferred (some []))):lO w k (W.putObj r (.deferred none)):=
 ⟨(vG (by omega)).trans h.1,h.2.trans (sH (w:=w) (aq _) W r _ _ (by omega) hd rfl rfl)⟩
theorem lO.put {W:World} {k:Int} (h:lO w k W) (j:Int):lO w j (W.setCell ⟨w.heap.size+1,0,none⟩ (.int .i64 j)):=⟨h.1.set _,h.2.setCell (p:=⟨w.heap.size+1,0,none⟩) (by simp) _⟩
theorem Shut.put {B:Nat} {W:World} (h:Shut lo B ds W) (hg:g<lo) (v:Value):Shut lo B ds (W.setCell ⟨g,0,none⟩ v):=by
 induction ds generalizing B with
 |nil=>trivial
 |cons d ds ih=>
  obtain⟨r,h1,h2,h3,h4,h5⟩:=h;exact⟨r,h1,h2,h3,(jq W ⟨g,0,none⟩ v r (by show r≠g;omega)).trans h4,ih h5⟩
theorem ajS (a b c:Option Addr) (ca cb cc:Nat) (V:List Vr) (L:List (List Int)) (R:List (List Fr)) (w:World) (h:jA w a b c V L R) (hs:vh V L R) (qH:L.length=V.length) (uH:R.length=V.length) (hg:bQ L=0) (hv:lY V=0):
  Calls Tryz.prog 132 #[.agg #[.slice a V.length ca,.slice b L.length cb,.slice c R.length cc]] w fun e w'=>e=.returned (.int .i64 (iD (kJ (ar V) L R) V.length))/\Below w.heap.size w w':=by
 refine(fZ (n:=6)).1 ?_;obtain⟨aJ,X8,aT⟩:=Z8 qH hg hv;have HI:=hid h;have Hb:=hs.vars.1;have R9:=hid hs.rows.2;have cC:=hid aJ;have iV:=hid aT;have fN:=hid (fun (U:World) (hU:rY U a V)=>Ge a b c ca cb cc L.length R.length V U hU Hb);have HA:Hid (∀i,i<V.length ->(∀j,j< i ->kJ (ar V) L R j=0) ->∀k,kJ (ar V) L R i=k ->k≠0 ->iD (kJ (ar V) L R) V.length=k):=fun i hi hz k hk hk0=>by rw[Hy hz (by rw[hk];exact hk0) hi,hk]
 have HZ:Hid ((∀j,j<V.length ->kJ (ar V) L R j=0) ->iD (kJ (ar V) L R) V.length=0):=fun h=>yC h;have EU:=hid qH;have tI:=hid uH;generalize iD (kJ (ar V) L R) V.length=fe at *;clear h hs aJ aT qH uH hg hv;have Hl:NK w ((w.alloc (NC (.slice a V.length ca) (.slice b L.length cb) (.slice c R.length cc))).alloc (.cells #[.int .i64 0] 33)) (.slice a V.length ca) (.slice b L.length cb) (.slice c R.length cc):=(NK.new w (.slice a V.length ca) (.slice b L.length cb) (.slice c R.length cc)).step ((au _ _).alloc (aq _) _)
 have ZI:Boxed ((w.alloc (NC (.slice a V.length ca) (.slice b L.length cb) (.slice c R.length cc))).alloc (.cells #[.int .i64 0] 33)) (w.heap.size+1) 33 (.int .i64 0):=by
  have h:=aY (w.alloc (NC (.slice a V.length ca) (.slice b L.length cb) (.slice c R.length cc))) 33 (.int .i64 0);rwa [di] at h
 have jk:=hid Hl;have SU:=hid ZI;obtain⟨c0,c1,c2⟩:=Hl.1.cells;clear Hl ZI;refine sG Tryz.func132 rfl trivial ?_ rfl;simp only[Tryz.ntmps132,lR,dI,k8,Nat.reduceAdd,Nat.reduceSub,lX,lW,lS,k9,gY,eE];gi_wp2_with (refine⟨trivial,?_⟩;gi_at_call 25;refine(fZ.2 (fN.o _ (HI.o.aa jk.o.2).vars)).af ?_;rintro e W2 ⟨G,rfl,Hq,hrow,hb⟩;have hK2:=jk.o.step hb;have QF:=(hb.block (w.heap.size+1) (dm.1 SU.o).1).trans SU.o;clear c0 c1 c2;obtain⟨c0,c1,c2⟩:=hK2.1.cells)
 clear hb;have EY:=hid hK2;have oT:Hid (Boxed W2 (w.heap.size+1) 33 (.int .i64 0)):=QF;have II:=hid hrow;have Lg:w.heap.size+1<W2.heap.size:=(dm.1 QF).1;clear hK2 QF hrow c0 c1 c2 jk SU fN Hq;refine wpIn_loop (fun a' w'=>∃(v:Nat) (ds:List Deferred) (u4 u5 u6 u7 u15 u16 FO FN Di TJ TI TH u23 u24 FM u26 FK u28 xP FH FE u32 u33 TG TF u36 TE u38 TD TB TA Tz Dh Nc:Value),a'= {tmps:= #[.agg #[.slice a V.length ca,.slice b L.length cb,.slice c R.length cc],.pointer (some ⟨w.heap.size,0,none⟩),.pointer (some ⟨w.heap.size+1,0,none⟩),.slice (some ⟨G,0,none⟩) V.length V.length,u4,u5,u6,u7,undef,.agg #[.slice a V.length ca,.slice b L.length cb,.slice c R.length cc],.slice (some ⟨G,0,none⟩) V.length V.length,.pointer (some ⟨w.heap.size,2,none⟩),.slice c R.length cc,.int .i64 (R.length:Nat),.int .i64 (v:Nat),u15,u16,FO,FN,Di,TJ,TI,TH,u23,u24,FM,u26,FK,u28,xP,FH,FE,u32,u33,TG,TF,u36,TE,u38,TD,TB,TA,Tz,Dh,undef,undef,undef,undef,Nc],defers:=ds}/\v<=R.length/\Hid (∀j,j< v ->kJ (ar V) L R j=0)/\Hid (Below W2.heap.size W2 w')/\Hid (Shut W2.heap.size w'.heap.size ds w')) (fun a' _=>R.length - (intOf (a'.tmps.getD 14 undef)).toNat) ?_ ?_
 ·exact⟨0,[],_,_,_,_,_,_,_,_,_,_,_,_,_,_,_,_,_,_,_,_,_,_,_,_,_,_,_,_,_,_,_,_,_,_,rfl,aU _,(fun j hj=>absurd hj (by omega)),au _ _,trivial⟩
 intro a' wr hinv;obtain⟨v,ds,u4,u5,u6,u7,u15,u16,FO,FN,Di,TJ,TI,TH,u23,u24,FM,u26,FK,u28,xP,FH,FE,u32,u33,TG,TF,u36,TE,u38,TD,TB,TA,Tz,Dh,Nc,rfl,hv,RL,HB,oO⟩:=hinv;have hlo:W2.heap.size<=wr.heap.size:=HB.o.size;by_cases hlt:v<R.length
 ·have rS:=EY.o.step HB.o;have BU:=II.o.aa HB.o II.o.lt;have dV:v<L.length:=by rw[EU.o, <- tI.o];exact hlt
  have zL:v<V.length:=by rw[<- tI.o];exact hlt
  obtain⟨gr,gZ,bf,cf,rfl,hgr,r1,Gn,KS⟩:=HI.o.rows v hlt;obtain⟨gp,eN,bp,cp,rfl,gA,p1,gK⟩:=HI.o.pars v dV;obtain⟨c0,c1,c2⟩:=rS.1.cells;have r2:=(rS.2.cell (p:=⟨gr,gZ+v,none⟩) hgr).trans r1;have p2:=(rS.2.cell (p:=⟨gp,eN+v,none⟩) gA).trans p1;have cZ:(ar V).length=V.length:=kI V;have aT:Up L[v] V.length:=by rw[<- EU.o];exact iV.o v dV
  have jN:∀u,sz (ar V) u<=4:=fun u=>by have:=cC.o.sz_le u;rwa [fF] at this
  have dt:Pos (ar V):=by have:=cC.o.pos;rwa [fF] at this
  have hN:cnt (ar V) (ag L[v])<=65536:=qM jN (by rw[cY];have:=aT.length;have:=EU.o;omega);have wK:1<=cnt (ar V) (ag L[v]):=Ic dt _;have hk4:=jN v;have GM:=kF dt v;have um:=BU.cell v (by rw[cZ];exact zL);have XO:(ar V)[v]'(by rw[cZ];exact zL)=sz (ar V) v:=by rw[sz,a8 (by rw[cZ];exact zL)];rfl
  rw[XO] at um;have hpl:=aT.length
  have p5:Hid (CallsIn Fence.wide 5 Tryz.prog 37 #[.slice (some ⟨G,0,none⟩) V.length V.length,.slice bp L[v].length cp] wr fun e w'=>e=.returned (.tuple #[.int .i64 (cnt (ar V) (ag L[v]):Nat),.int .i64 0])/\Below wr.heap.size wr w'):=by
   have hcb:countB (iL (ar V)) L[v]=true:=Co cC.o (by rw[bs,cZ];exact aT);have hc:=JP (some ⟨G,0,none⟩) bp V.length cp (iL (ar V)) L[v] wr BU.ints (gK.aa rS.2) (by rw[bs,cZ];have:=EU.o;omega) (by have:=EU.o;omega);rw[Cp hcb,fF,bs,cZ] at hc;exact fZ.2 hc
  have IK:Hid (kJ (ar V) L R v=if R[v].length=cnt (ar V) (ag L[v])*sz (ar V) v then(if ((List.range (cnt (ar V) (ag L[v]))).all fun i=>jH (eQ R[v] (sz (ar V) v) i))=true then 0 else 9) else 8):=by
   show _=_;rw[kJ,bU,a8 hlt,bU,a8 dV];rfl
  have IJ:=hid (Gn.aa rS.2);have KR:=R9.o R[v] (bM hlt);have HAV:=hid (HA.o v zL RL.o);generalize L[v]=pl at *;generalize R[v]=rv at *;have B0:pl.length<=8:=by have:=EU.o;omega
  clear Gn r1 p1 gK aT jN dt XO cZ;generalize hkk:sz (ar V) v=k at *;generalize cnt (ar V) (ag pl)=N at *;clear hkk;have hNk:N*k<=262144:=aL (jm hN hk4) (by decide);have hcm:(N:Int)*(k:Int)=((N*k:Nat):Int):=(jG _ _).symm;have hw1:IntKind.i64.wrap ((N:Int)*(k:Int))=((N*k:Nat):Int):=by rw[hcm,gI];omega
  have Mz:=hid hcm;clear hcm;by_cases hT:rv.length=N*k
  ·rw[aA hT] at IK;rw[<- hT] at hw1;have Yq:k<=N*k:=zi k wK;(have kf:0<rv.length:=by omega);obtain⟨gf,ek,rfl,K4, -⟩:=IJ.o 0 kf;have vk:=hid hT;clear hT hNk Yq;have hT5:rv.length<=5000:=KR.1;(have hne:((rv.length:Int) !=(rv.length:Int))=false:=by simp)
   gi_wp2_with (first
    |(refine⟨trivial,?_⟩;gi_at_call 37;refine p5.o.af ?_;rintro e W4 ⟨rfl,hb⟩;have hK4:=rS.step hb;have hr4:=BU.aa hb BU.lt;have XD:=(hb.cell (p:=⟨G,v,none⟩) BU.lt).trans um;clear c0 c1 c2 r2 p2 um)
    |(refine⟨trivial,?_⟩;gi_at_call 176;refine(ajO _ _ _ _ k GM _).af ?_;rintro e W5 ⟨rfl,rfl⟩))
   (have alB:((W4.alloc (.cells #[.slice (some ⟨gf,ek,none⟩) rv.length cf] 37)).alloc (.cells #[.int .i64 (k:Nat)] 3)).heap.size=W4.heap.size+1+1:=by simp);have hc1:((W4.alloc (.cells #[.slice (some ⟨gf,ek,none⟩) rv.length cf] 37)).alloc (.cells #[.int .i64 (k:Nat)] 3)).cell? ⟨W4.heap.size,0,none⟩=some (.slice (some ⟨gf,ek,none⟩) rv.length cf):=((aY W4 37 (.slice (some ⟨gf,ek,none⟩) rv.length cf)).alloc _).cell
   have hc2:((W4.alloc (.cells #[.slice (some ⟨gf,ek,none⟩) rv.length cf] 37)).alloc (.cells #[.int .i64 (k:Nat)] 3)).cell? ⟨W4.heap.size+1,0,none⟩=some (.int .i64 (k:Nat)):=by
    have h:=(aY (W4.alloc (.cells #[.slice (some ⟨gf,ek,none⟩) rv.length cf] 37)) 3 (.int .i64 (k:Nat))).cell;rwa [di] at h
   have Qe:Below W4.heap.size W4 ((W4.alloc (.cells #[.slice (some ⟨gf,ek,none⟩) rv.length cf] 37)).alloc (.cells #[.int .i64 (k:Nat)] 3)):=((au _ W4).alloc (aq _) _).alloc (by simp) _;generalize ((W4.alloc (.cells #[.slice (some ⟨gf,ek,none⟩) rv.length cf] 37)).alloc (.cells #[.int .i64 (k:Nat)] 3))=W5 at *;have jN:=hb.size;have QA:=hK4.step Qe;have ur:Below wr.heap.size wr W5:=hb.trans (Qe.af jN);have HF5:=hid (IJ.o.aa ur);have abd:=hid ((oO.o.aa ur).af (show wr.heap.size<=W5.heap.size by omega));have xu:Hid (lO w 0 W5):=⟨(ur.block (w.heap.size+1) (by omega)).trans ((HB.o.block (w.heap.size+1) Lg).trans oT.o),QA.2⟩;have HK5:=hid QA;have eT:=hid (HB.o.trans (ur.af hlo));clear hb hK4 hr4 XD Qe rS BU QA p5 II HB oO IJ ur
   refine Jf (α:=xA N) rfl (by omega) (gf:=223) (lb:= #[.pointer (some ⟨W4.heap.size,0,none⟩),.pointer (some ⟨W4.heap.size+1,0,none⟩)]) rfl trivial (enters_of Tryz.func223 (by kernel_rfl) rfl)
    (ajN 5 (by omega) W4.heap.size (W4.heap.size+1) W5.heap.size gf ek cf k N rv.length vk.o GM hk4 hN KS W5 (by omega) (by omega) hc1 hc2) wU.t (wU.b (by omega) (by omega) (aq _)) (au _ _) (fun _=>rfl)
    (fun (pre:List (xA N)) X=>Below W5.heap.size W5 X/\∀x∈pre,jH (eQ rv k x.1)=true)
    (fun cd (pre:List (xA N)) X=>∃Y,(cd=Code.ret/\(∃x∈pre,jH (eQ rv k x.1)=false)/\lO w 9 Y/\Shut W2.heap.size W5.heap.size ds Y)/\W5.heap.size<=Y.heap.size/\Below W5.heap.size Y X)
    (eC (xC (aq _) (aq _)) (fun _ _ _ _ hs _ _=>hs))
    (fun cd=>aeU (Q:=fun (pre:List (xA N)) Y=>cd=Code.ret/\(∃x∈pre,jH (eQ rv k x.1)=false)/\lO w 9 Y/\Shut W2.heap.size W5.heap.size ds Y) (aq _))
    ⟨au _ _,fun x hx=>absurd hx (by simp)⟩
    (fun x=> {tmps:= #[.agg #[.slice a V.length ca,.slice (some ⟨gp,eN,none⟩) L.length cb,.slice (some ⟨gr,gZ,none⟩) R.length cc],.pointer (some ⟨w.heap.size,0,none⟩),.pointer (some ⟨w.heap.size+1,0,none⟩),.slice (some ⟨G,0,none⟩) V.length V.length,.int .i64 (v:Nat),.slice (some ⟨gf,ek,none⟩) rv.length cf,.int .i64 (N:Nat),.int .i64 0,.slice (some ⟨gf,ek+x.1*k*3,none⟩) k k,.agg #[.slice a V.length ca,.slice (some ⟨gp,eN,none⟩) L.length cb,.slice (some ⟨gr,gZ,none⟩) R.length cc],.slice (some ⟨G,0,none⟩) V.length V.length,.pointer (some ⟨w.heap.size,2,none⟩),.slice (some ⟨gr,gZ,none⟩) R.length cc,.int .i64 (R.length:Nat),.int .i64 (v:Nat),.bool true,.int .i64 (v:Nat),.pointer (some ⟨gr,gZ+v,none⟩),.slice (some ⟨gf,ek,none⟩) rv.length cf,.tuple #[.int .i64 (N:Nat),.int .i64 0],.slice (some ⟨G,0,none⟩) V.length V.length,.pointer (some ⟨w.heap.size,1,none⟩),.slice (some ⟨gp,eN,none⟩) L.length cb,.int .i64 (v:Nat),.pointer (some ⟨gp,eN+v,none⟩),.slice bp pl.length cp,.tuple #[.int .i64 (N:Nat),.int .i64 0],.int .i64 (N:Nat),.int .i64 0,.slice (some ⟨gf,ek,none⟩) rv.length cf,.int .i64 (rv.length:Nat),.int .i64 (N:Nat),.slice (some ⟨G,0,none⟩) V.length V.length,.int .i64 (v:Nat),.pointer (some ⟨G,v,none⟩),.int .i64 (k:Nat),.int .i64 (rv.length:Nat),.bool false,.slice (some ⟨gf,ek,none⟩) rv.length cf,.slice (some ⟨G,0,none⟩) V.length V.length,.int .i64 (v:Nat),.pointer (some ⟨G,v,none⟩),.int .i64 (k:Nat),.func (.func 223) #[] #[.pointer (some ⟨W4.heap.size,0,none⟩),.pointer (some ⟨W4.heap.size+1,0,none⟩)],.slice (some ⟨gf,ek+x.1*k*3,none⟩) k k,undef,undef,undef,Nc],defers:=[]}) ?assign ?body ?done ?stop
   case assign=>
    intro l x X K hK;gi_wp2
    exact hK
   case body=>
    rintro l pre ⟨i,hi⟩ X ⟨tu,hall⟩ hpre;(have hmul:(i+1)*k<=rv.length:=by rw[vk.o];exact jl k hi);obtain⟨YE,hlc⟩:=dA.chunk (m:=k) (HF5.o.aa tu) hmul rfl;have PB:=agM (some ⟨gf,ek+i*k*3,none⟩) k (eQ rv k i) X YE (aL (aix rv k i) KR.2) (by omega);rw[hlc] at PB;have Qm:=tu.size;have xm:=hid PB;have sA:=hid tu;have sD:=hid hall;clear PB YE hlc hmul tu hall hc1 hc2 hpre;cases td:jH (eQ rv k i)
    case true=>
     rw[td] at xm;have IL:=hid td;clear td;gi_wp2_with (refine⟨trivial,?_⟩;gi_at_call 177;refine(JA l (fZ.2 xm.o)).af ?_;rintro e X2 ⟨rfl,yo⟩)
     refine⟨(aaP yo).from _,⟨yo.cell (p:=⟨W4.heap.size,0,none⟩) (by show W4.heap.size<X.heap.size;omega),yo.cell (p:=⟨W4.heap.size+1,0,none⟩) (by show W4.heap.size+1<X.heap.size;omega),yo.af Qm⟩,sA.o.trans (yo.af Qm),fun x hx=>?_⟩;rcases cI.1 hx with hx |hx
     ·exact sD.o x hx
     ·rw[eD.1 hx];exact IL.o
    case false=>
     rw[td] at xm;have IL:=hid td;clear td;gi_wp2_with (refine⟨trivial,?_⟩;gi_at_call 177;refine(JA l (fZ.2 xm.o)).af ?_;rintro e X2 ⟨rfl,yo⟩;have hB2:=sA.o.trans (yo.af Qm);have bF:=(hB2.block (w.heap.size+1) (by omega)).trans xu.o.1;have qA:=Boxed.cell bF;have GW:=Boxed.frozen bF)
     have hL9:lO w 9 (X2.setCell ⟨w.heap.size+1,0,none⟩ (.int .i64 9)):=lO.put (k:=0) ⟨bF,xu.o.2.trans (hB2.af (by omega))⟩ 9;refine⟨((aaP yo).trans (jo X2 _ _)).from _,_,⟨rfl,⟨⟨i,hi⟩,by simp,IL.o⟩,hL9,(abd.o.aa hB2).put (by omega) _⟩,?_,au _ _⟩;have al7:=yo.size;simp;omega
   case done=>
    rintro D ys X hD zK ⟨tu,hall⟩ hK
    have HRZ:Hid (kJ (ar V) L R v=0):=by
     show _=_;rw[IK.o,aA];rw[fE];intro i hi;rw[<- zK] at hi;obtain⟨x,hx,rfl⟩:=aW.1 hi;exact hall x hx
    have yw:D<X.heap.size:=(dm.1 hK).1;have hB2:=eT.o.trans (tu.af (by omega));have Zj:Shut W2.heap.size X.heap.size ({target:=.collected D,args:= #[]}::ds) X:=⟨D,by omega,yw,rfl,hK,(abd.o.aa tu).af hD⟩;have sA:=hid hB2;have CC:=hid Zj;clear hK hall zK hB2 Zj hc1 hc2 tu;gi_wp2
    refine⟨⟨v+1,_,_,_,_,_,_,_,_,_,_,_,_,_,_,_,_,_,_,_,_,_,_,_,_,_,_,_,_,_,_,_,_,_,_,_,rfl,by omega,(fun j hj=>?_),sA,CC⟩,?_⟩
    ·rcases cT j v with h |h
     ·exact RL.o j h
     ·rw[show j=v by omega];exact HRZ.o
    ·simp[intOf];omega
   case stop=>
    rintro D cd pre X hD hSp ⟨Y,⟨rfl,⟨x,hx,hxb⟩,hcr,uo⟩,hYs,tu⟩ hK
    have kM:fe=9:=HAV.o 9 (by
     rw[IK.o,aD];intro h;rw[fE] at h;have:=h x.1 (cH.2 x.2);rw[hxb] at this;cases this) (by decide)
    have yw:D<X.heap.size:=(dm.1 hK).1;have hCX:lO w 9 X:=⟨(tu.block (w.heap.size+1) (by omega)).trans hcr.1,hcr.2.trans (tu.af (by omega))⟩;gi_wp2
    refine BF (lo:=W2.heap.size) (K:=lO w 9) (lO.shut (by omega)) (fun Z hZ=>⟨_,NF hZ.1 rfl _ rfl,?_,hZ.2⟩) _ X.heap.size X ⟨D,by omega,yw,rfl,hK,(uo.aa tu).af hD⟩ hCX;rw[kM]
  ·rw[aD hT] at IK;have kM:fe=8:=HAV.o 8 IK.o (by decide)
   have hne:((rv.length:Int) !=((N*k:Nat):Int))=true:=by
    (have:¬(rv.length:Int)=((N*k:Nat):Int):=by omega);simpa using this
   clear hT;have tT:=HB.o;gi_wp2_with (refine⟨trivial,?_⟩;gi_at_call 37;refine p5.o.af ?_;rintro e W4 ⟨rfl,hb⟩;have hK4:=rS.step hb;have XD:=(hb.cell (p:=⟨G,v,none⟩) BU.lt).trans um;have bF:Boxed W4 (w.heap.size+1) 33 (.int .i64 0):=(hb.block (w.heap.size+1) (by omega)).trans ((HB.o.block (w.heap.size+1) Lg).trans oT.o);have qA:=Boxed.cell bF;have GW:=Boxed.frozen bF;clear c0 c1 c2 r2 p2 um)
   refine BF (lo:=W2.heap.size) (K:=lO w 8) (lO.shut (by omega)) (fun Z hZ=>⟨_,NF hZ.1 rfl _ rfl,?_,hZ.2⟩) _ wr.heap.size _ ((oO.o.aa hb).put (by omega) _) (lO.put (k:=0) ⟨bF,hK4.2⟩ 8);rw[kM]
 ·obtain rfl:v=R.length:=by omega
  have kM:fe=0:=HZ.o (fun j hj=>RL.o j (by rw[tI.o];exact hj));have bF:Boxed wr (w.heap.size+1) 33 (.int .i64 0):=(HB.o.block (w.heap.size+1) Lg).trans oT.o;have qA:=Boxed.cell bF;have GW:=Boxed.frozen bF;have rS:=EY.o.step HB.o;gi_wp2
  refine BF (lo:=W2.heap.size) (K:=lO w 0) (lO.shut (by omega)) (fun Z hZ=>⟨_,NF hZ.1 rfl _ rfl,?_,hZ.2⟩) _ wr.heap.size _ (oO.o.put (by omega) _) (lO.put (k:=0) ⟨bF,rS.2⟩ 0);rw[kM]
end
theorem Rg (a b c:Option Addr) (ca cb cc:Nat) (V:List Vr) (L:List (List Int)) (R:List (List Fr)) (w:World) (h:jA w a b c V L R) (hs:vh V L R):
  Calls Tryz.prog 75 #[.agg #[.slice a V.length ca,.slice b L.length cb,.slice c R.length cc]] w fun e w'=>e=.returned (.int .i64 (bj V L R))/\Below w.heap.size w w':=
 afS a b c ca cb cc V L R w h hs fun h1 h2 h3 h4 U hU=>ajS a b c ca cb cc V L R U hU hs h1 h2 h3 h4
variable {i:Nat}
def lD (S:List Nat) (n:Nat) (F:List (Int×Int)) (i:Nat):Int:=
 if ¬(0<=(F.getD i (0,0)).1/\(F.getD i (0,0)).1<(n:Int)) then 11 else if ¬(0<=(F.getD i (0,0)).2/\(F.getD i (0,0)).2<(sz S (F.getD i (0,0)).1.toNat:Int)) then 12 else if ((F.take i).any fun p=>p.1==(F.getD i (0,0)).1)=true then 7 else 0
def iE (V:List Vr) (L:List (List Int)) (R:List (List Fr)) (F:List (Int×Int)):Int:=if bj V L R=0 then iD (lD (ar V) V.length F) F.length else bj V L R
theorem Lk (h:i<F.length):F.getD i (0,0)=F[i]:=by rw[bU,a8 h];rfl
theorem aab (hi:i<F.length) (h:¬(0<=F[i].1/\F[i].1<(n:Int))):lD S n F i=11:=by rw[lD,Lk hi,aA h]
theorem aac (hi:i<F.length) (h:0<=F[i].1/\F[i].1<(n:Int)) (h2:¬(0<=F[i].2/\F[i].2<(sz S F[i].1.toNat:Int))):lD S n F i=12:=by rw[lD,Lk hi,aD (fun e=>e h),aA h2]
theorem aad (hi:i<F.length) (h:0<=F[i].1/\F[i].1<(n:Int)) (h2:0<=F[i].2/\F[i].2<(sz S F[i].1.toNat:Int)) (h3:((F.take i).any fun p=>p.1==F[i].1)=true):lD S n F i=7:=by rw[lD,Lk hi,aD (fun e=>e h),aD (fun e=>e h2),aA h3]
theorem aae (hi:i<F.length) (h:0<=F[i].1/\F[i].1<(n:Int)) (h2:0<=F[i].2/\F[i].2<(sz S F[i].1.toNat:Int)) (h3:((F.take i).any fun p=>p.1==F[i].1)=false):lD S n F i=0:=by rw[lD,Lk hi,aD (fun e=>e h),aD (fun e=>e h2),aD (by rw[h3];decide)]
theorem Nj (h:v<V.length):sz (ar V) v=V[v].2.length:=by rw[sz,FY h];rfl
theorem Xc (a b c d:Option Addr) (ca cb cc cd:Nat) (V:List Vr) (L:List (List Int)) (R:List (List Fr)) (F:List (Int×Int)) (w:World) (h:jA w a b c V L R) (hs:vh V L R) (hF:ky w d F) (hn:F.length<=1000) (hcd:F.length<=cd):
  Calls Tryz.prog 32 #[.agg #[.slice a V.length ca,.slice b L.length cb,.slice c R.length cc],.slice d F.length cd] w fun e w'=>e=.returned (.int .i64 (iE V L R F))/\Below w.heap.size w w':=by
 have hA:=(au w.heap.size w).alloc (aq _) (NC (.slice a V.length ca) (.slice b L.length cb) (.slice c R.length cc));have pZ:=hid (cR.at (w:=w) rfl (.slice a V.length ca) (.slice b L.length cb) (.slice c R.length cc));have ik:=hid (Rg a b c ca cb cc V L R _ (h.aa hA) hs);have HA:=hid hA;have tE:=hid h.vars;have HF:=hid hF;have Hb:V.length<=5000:=hs.vars.1;have HVL:Hid (∀v (hv:v<V.length),V[v].2.length<=5000):=fun v hv=>hs.vars.2 _ (bM hv) |>.2.1;obtain⟨re,Gq⟩:∃re,iE V L R F=re:=⟨_,rfl⟩;have q9:Hid (bj V L R≠0 ->bj V L R=re):=fun e=>by rw[<- Gq,iE,aD e]
 have oT:Hid (bj V L R=0 ->∀i,i<F.length ->(∀j,j< i ->lD (ar V) V.length F j=0) ->∀k,lD (ar V) V.length F i=k ->k≠0 ->k=re):=fun e i hi hz k hk hk0=>by rw[<- Gq,iE,aA e,Hy hz (by rw[hk];exact hk0) hi,hk]
 have E3:Hid (bj V L R=0 ->(∀j,j<F.length ->lD (ar V) V.length F j=0) ->0=re):=fun e hz=>by rw[<- Gq,iE,aA e,yC hz]
 have HIO:=hid (fun (i:Nat) (v:Int) (U:World) (hU:Below w.heap.size w U)=>Xf d cd (F.take i) v U ((hF.aa hU).take i) (by rw[dP];omega));rw[Gq];clear h hs hF hA Gq;go_enter Tryz.func32,Tryz.ntmps32;go_wp2_with fail
 refine ik.o.af ?_;rintro e w1 ⟨rfl,hb1⟩;have eU:=hid (HA.o.trans (hb1.af HA.o.size));have AL:=hid (pZ.o.aa hb1 pZ.o.lt);clear hb1 ik pZ HA;by_cases hne:bj V L R=0
 ·rw[hne];have vv:=hid hne;clear hne;go_wp2_with fail
  go_loopw [15] (fun iv wr=>∃i:Nat,i<=F.length/\iv=.int .i64 i/\Hid (∀j,j< i ->lD (ar V) V.length F j=0)/\Hid (cR wr w.heap.size (.slice a V.length ca) (.slice b L.length cb) (.slice c R.length cc))/\Hid (Below w.heap.size w wr)) (fun iv _=>F.length - (intOf iv).toNat)
  case atStart=>exact⟨0,aU _,rfl,(fun j hj=>absurd hj (by omega)),AL,eU⟩
  case round=>
   obtain⟨i,hi,rfl,HZ,HN,HB⟩:=hrel;clear AL eU;by_cases hlt:i<F.length
   ·obtain⟨g,o,rfl,hg,h0,h1⟩:=HF.o i hlt;have k0:=(HB.o.cell (p:=⟨g,_,none⟩) hg).trans h0;have k1:=(HB.o.cell (p:=⟨g,_,none⟩) hg).trans h1;have HR:=hid (oT.o vv.o i hlt HZ.o);have Mt:Hid (¬(0<=F[i].1/\F[i].1<(V.length:Int)) ->lD (ar V) V.length F i=11):=aab hlt;have HF2:Hid (0<=F[i].1/\F[i].1<(V.length:Int) ->¬(0<=F[i].2/\F[i].2<(sz (ar V) F[i].1.toNat:Int)) ->lD (ar V) V.length F i=12):=aac hlt;have HF3:Hid (0<=F[i].1/\F[i].1<(V.length:Int) ->(0<=F[i].2/\F[i].2<(sz (ar V) F[i].1.toNat:Int)) ->((F.take i).any fun p=>p.1==F[i].1)=true ->lD (ar V) V.length F i=7):=aad hlt;have xr:Hid (0<=F[i].1/\F[i].1<(V.length:Int) ->(0<=F[i].2/\F[i].2<(sz (ar V) F[i].1.toNat:Int)) ->((F.take i).any fun p=>p.1==F[i].1)=false ->lD (ar V) V.length F i=0):=aae hlt;have tO:Hid (lD (ar V) V.length F i=0 ->∀j,j<i+1 ->lD (ar V) V.length F j=0):=fun e=>MU HZ.o e;have abm:=hid (HIO.o i F[i].1);(have nB:(F.take i).length=i:=by rw[dP];omega);rw[nB] at abm;generalize lD (ar V) V.length F i=fe at *;generalize ((F.take i).any fun p=>p.1==F[i].1)=fq at *;generalize F[i].1=f1 at *;generalize F[i].2=f2 at *;have hA:=(au wr.heap.size wr).alloc (aq _) (.cells #[.int .i64 f1,.int .i64 f2] 90);(have DV:(wr.alloc (.cells #[.int .i64 f1,.int .i64 f2] 90)).heap.size=wr.heap.size+1:=by simp);have GW:(wr.alloc (.cells #[.int .i64 f1,.int .i64 f2] 90)).heap[wr.heap.size]? =some (.cells #[.int .i64 f1,.int .i64 f2] 90 (0,0)):=im wr _;have xp:=hid GW;have Sv:=hid (HN.o.aa hA HN.o.lt)
    have bW:=hid (HB.o.trans (hA.af HB.o.size));have nc:=Sv.o.cells.1;clear h0 h1 nB hA GW;by_cases hv:0<=f1/\f1<(V.length:Int)
    ·obtain⟨v,rfl⟩:∃v:Nat,f1=v:=⟨f1.toNat,by omega⟩;(have zL:v<V.length:=by omega);obtain⟨gv,ov,bv,cv,rfl,Ec,hv0,ny,_,_⟩:=tE.o v zL;have um:sz (ar V) v=V[v].2.length:=Nj zL;have alz:=HVL.o v zL;rw[mE,um] at HF2 HF3 xr;have kv:=(bW.o.cell (p:=⟨gv,_,none⟩) Ec).trans ny;generalize V[v].2.length=sv at *;have RQ:=hid hv;clear hv0 ny hv um;obtain⟨f0c,f1c⟩:(wr.alloc (.cells #[.int .i64 (v:Nat),.int .i64 f2] 90)).cell? ⟨wr.heap.size,0,none⟩=some (.int .i64 (v:Nat))/\(wr.alloc (.cells #[.int .i64 (v:Nat),.int .i64 f2] 90)).cell? ⟨wr.heap.size,1,none⟩=some (.int .i64 f2):=⟨by rw[bX _ _ 0 _ _ (0,0) xp.o];rfl,by rw[bX _ _ 1 _ _ (0,0) xp.o];rfl⟩;by_cases hval:0<=f2/\f2<(sv:Int)
     ·obtain⟨z,rfl⟩:∃z:Nat,f2=z:=⟨f2.toNat,by omega⟩;(have hzs:z<sv:=by omega);have aba:=hid hval;clear hval;go_upto_region 11 with (go_quiet (fail))
      have HFD:Hid (((wr.alloc (.cells #[.int .i64 (v:Nat),.int .i64 (z:Nat)] 90)).drewN nq).heap[wr.heap.size]? =some (.cells #[.int .i64 (v:Nat),.int .i64 (z:Nat)] 90 (0,0))):=xp.o;have pY:Hid (cR ((wr.alloc (.cells #[.int .i64 (v:Nat),.int .i64 (z:Nat)] 90)).drewN nq) w.heap.size (.slice (some ⟨gv,ov,none⟩) V.length ca) (.slice b L.length cb) (.slice c R.length cc)):=Sv.o;have dD:=hid (below_drewN bW.o nq);(have BQ:wr.heap.size<((wr.alloc (.cells #[.int .i64 (v:Nat),.int .i64 (z:Nat)] 90)).drewN nq).heap.size:=by show wr.heap.size<(wr.alloc _).heap.size;rw[DV];omega);clear f0c f1c kv nc xp Sv bW DV;generalize (wr.alloc (.cells #[.int .i64 (v:Nat),.int .i64 (z:Nat)] 90)).drewN nq=W3 at *
      have CE:Hid (∀U:World,Below W3.drew.heap.size W3.drew U ->U.cell? ⟨wr.heap.size,0,none⟩=some (.int .i64 (v:Nat))):=fun U hU=>(hU.cell (p:=⟨wr.heap.size,0,none⟩) BQ).trans (by
       have:W3.drew.heap[wr.heap.size]? =some (.cells #[.int .i64 (v:Nat),.int .i64 (z:Nat)] 90 (0,0)):=HFD.o;rw[bX _ _ 0 _ _ (0,0) this];rfl)
      have abl:=hid (abm.o W3.drew dD.o.drew);(have hic:(i:Int)<=(cd:Int):=by omega);refine jE (S:=fun U=>U.cell? ⟨wr.heap.size,0,none⟩=some (.int .i64 (v:Nat))) (by kernel_rfl) (CE.o _ (au _ _)) (fun ak=>?_);refine aw 0 (.slice (some ⟨g,o,none⟩) F.length cd) ?_;refine aw 1 (.int .i64 (i:Nat)) ?_;refine aw 2 (.slice (some ⟨g,o,none⟩) i cd) ?_;refine aw 3 (.pointer (some ⟨wr.heap.size,0,none⟩)) ?_;refine aw 4 (.int .i64 (v:Nat)) ?_;refine aH [5] (cA ?_ aG);intro K' hK';go_simp;refine abl.o.af ?_;rintro r w5 ⟨rfl,hb5⟩;refine hK'.o _ _ (CE.o w5 hb5) (fun ah=>?_);clear hK' K' ak;(try simp only[gE,aP]);refine eK (by kernel_rfl) ?_ _;clear ah;have eT:Hid (Below w.heap.size w w5):=dD.o.drew.trans (hb5.af dD.o.drew.size);have CM:Hid (cR w5 w.heap.size (.slice (some ⟨gv,ov,none⟩) V.length ca) (.slice b L.length cb) (.slice c R.length cc)):=cR.aa (w:=W3.drew) pY.o hb5 pY.o.lt;clear hb5 abl CE;cases fq with
      |true=>
       have pW:=hid (HR.o 7 (HF3.o RQ.o aba.o rfl) (by decide));go_wp2;go_ret;exact⟨by rw[<- pW.o];rfl,eT.o⟩
      |false=>
       have HZ5:=hid (tO.o (xr.o RQ.o aba.o rfl));go_wp2;go_roundw
       case rel=>exact⟨i+1,by omega,by go_num,HZ5,CM,eT⟩
       case measure=>simp[intOf];omega
     ·have pW:=hid (HR.o 12 (HF2.o RQ.o hval) (by decide));rcases Int.lt_or_le f2 0 with h2 |h2
      ·have qu:decide (f2<0)=true:=cS h2;clear hval;go_wp2_with (go_quiet (fail))
       go_ret;exact⟨by rw[<- pW.o];rfl,below_drewN bW.o _⟩
      ·have qu:decide (f2<0)=false:=cD (by omega);have pL:decide ((sv:Int)<=f2)=true:=cS (by omega);clear hval;go_wp2_with (go_quiet (fail))
       go_ret;exact⟨by rw[<- pW.o];rfl,below_drewN bW.o _⟩
    ·have pW:=hid (HR.o 11 (Mt.o hv) (by decide));obtain⟨f0c,f1c⟩:(wr.alloc (.cells #[.int .i64 f1,.int .i64 f2] 90)).cell? ⟨wr.heap.size,0,none⟩=some (.int .i64 f1)/\(wr.alloc (.cells #[.int .i64 f1,.int .i64 f2] 90)).cell? ⟨wr.heap.size,1,none⟩=some (.int .i64 f2):=⟨by rw[bX _ _ 0 _ _ (0,0) xp.o];rfl,by rw[bX _ _ 1 _ _ (0,0) xp.o];rfl⟩;rcases Int.lt_or_le f1 0 with h2 |h2
     ·clear hv;go_wp2_with fail
      go_ret;exact⟨by rw[<- pW.o];rfl,bW.o⟩
     ·have h3:(V.length:Int)<=f1:=by omega
      (have h4:¬f1<0:=by omega);clear hv;go_wp2_with fail
      go_ret;exact⟨by rw[<- pW.o];rfl,bW.o⟩
   ·obtain rfl:i=F.length:=by omega
    have pW:=hid (E3.o vv.o HZ.o);go_wp2;go_ret;exact⟨by rw[<- pW.o];rfl,HB.o⟩
 ·have pW:=hid (q9.o hne);have hgb:(bj V L R==0)=false:=by simpa using hne
  clear hne q9 oT E3;generalize bj V L R=ne at *;go_wp2;go_ret;exact⟨by rw[<- pW.o];rfl,eU.o⟩
def LR (n:Nat) (Ls:List (List Int)):Bool:=nO Ls n&&decide Ls.flatten.Nodup
theorem Na (h:Up l n):l.Nodup:=vK.2 fun i j hi hj uy=>by
 have:=h.lt i j hj uy;omega
theorem Nb (h:Up l n) {x:Int} (hx:x∈l):0<=x/\x<n:=by
 obtain⟨j,hj,rfl⟩:=iZ hx;exact h.each j hj
theorem TU (a b:List Int):ag (a++b)=ag a++ag b:=dL
variable {s:List Nat} {u:Nat}
theorem WE (hu:u<8):(fj s).contains (u:Int)=decide (u∈s):=by
 refine tZ.2 ?_;rw[zt,eh,fj,iL,aW];constructor
 ·rintro⟨v,hv,e⟩;obtain rfl:v=u:=by omega
  exact(DG.1 hv).2
 ·exact fun h=>⟨u,DG.2 ⟨hu,h⟩,rfl⟩
variable {ws:List Nat} {Pa:Nat ->Nat ->Prop}
def zF (l:List (Nat×Nat)):List (Int×Int):=l.map fun p=>((p.1:Int),(p.2:Int))
theorem od (l:List (Nat×Nat)):(zF l).length=l.length:=by simp[zF]
structure gW (S:List Nat) (n:Nat) (l:List (Nat×Nat)):Prop where
 nd:(l.map (·.1)).Nodup
 lt:∀p∈l,p.1<n
 val:∀p∈l,p.2<sz S p.1
theorem ai1 (h:iE V L R F=0):bj V L R=0/\∃l,F=zF l/\gW (ar V) V.length l:=by
 have h0:bj V L R=0:=by
  by_cases e:bj V L R=0
  ·exact e
  ·rw[iE,aD e] at h;exact h
 rw[iE,aA h0] at h;have hz:=Hx h
 have hb:∀i (hi:i<F.length),(0<=F[i].1/\F[i].1<(V.length:Int))/\(0<=F[i].2/\F[i].2<(sz (ar V) F[i].1.toNat:Int))/\((F.take i).any fun p=>p.1==F[i].1)=false:=fun i hi=>by
  have h1:=hz i hi;by_cases a:0<=F[i].1/\F[i].1<(V.length:Int)
  ·by_cases b:0<=F[i].2/\F[i].2<(sz (ar V) F[i].1.toNat:Int)
   ·refine⟨a,b,?_⟩;cases c:(F.take i).any fun p=>p.1==F[i].1 with
    |false=>rfl
    |true=>rw[aad hi a b c] at h1;exact absurd h1 (by decide)
   ·rw[aac hi a b] at h1;exact absurd h1 (by decide)
  ·rw[aab hi a] at h1;exact absurd h1 (by decide)
 refine⟨h0,F.map fun p=>(p.1.toNat,p.2.toNat),?_,?_,?_,?_⟩
 ·rw[zF,tX];refine rz (by simp) fun i hi _=>?_;rw[lV];obtain⟨⟨a,_⟩,⟨b,_⟩,_⟩:=hb i hi;show F[i]=(((F[i].1.toNat:Nat):Int),((F[i].2.toNat:Nat):Int));rw[Int.toNat_of_nonneg a,Int.toNat_of_nonneg b]
 ·rw[tX,List.Nodup,C9];refine vK.2 fun i j hi hj uy e=>?_;obtain⟨⟨ai,_⟩,_,_⟩:=hb i hi;obtain⟨⟨aj,_⟩,_,hc⟩:=hb j hj
  have:=Jw.1 hc F[i] (by
   (have hk:i<(F.take j).length:=by rw[dP];omega);have:=bM hk;rwa [zm] at this)
  refine this (p8.2 ?_);have e':F[i].1.toNat=F[j].1.toNat:=e;omega
 ·intro p hp;obtain⟨x,hx,rfl⟩:=aW.1 hp;obtain⟨i,hi,rfl⟩:=iZ hx;obtain⟨⟨a,b⟩,_,_⟩:=hb i hi;show F[i].1.toNat<_;omega
 ·intro p hp;obtain⟨x,hx,rfl⟩:=aW.1 hp;obtain⟨i,hi,rfl⟩:=iZ hx;obtain⟨_,⟨a,b⟩,_⟩:=hb i hi;show F[i].2.toNat<sz _ F[i].1.toNat;omega
def vM (L:List (List Int)) (A:List Nat):List Nat:=(gJ L).filter fun v:Nat=>(fj (fK (aI L) A L.length)).contains (v:Int)
theorem Bd (h:Up l n):∀x∈l,0<=x/\x<n:=(gj.1 h).1
theorem Tx (h:Up l n):(ag l).Pairwise (·<·):=by
 rw[ag,C9];refine List.Pairwise.imp_of_mem (fun {a b} ha hb hab=>?_) (gj.1 h).2;have h1:=Bd h a ha;have h2:=Bd h b hb;omega
theorem Vz (L:List (List Int)) (i:Nat):(aI L).getD i []=ag (L.getD i []):=by
 rw[aI,bU,kD,bU];cases L[i]? with
 |none=>rfl
 |some x=>rfl
theorem Oi (hg:gB L=true) (h1:1<=L.length) (h8:L.length<=8) (h:v∈gJ L):v<L.length:=by
 have hp:((gJ L).filter fun v=>decide (v<L.length)).Perm (List.range L.length):=
  (Jo ((VU hg h1 h8).sublist Fv) Da).2 fun u=>by
   rw[dE,cH,eh];exact⟨fun h=>h.2,fun h=>⟨VW hg h1 h8 h,h⟩⟩
 have hl:=hp.length_eq;have hn:(gJ L).length=L.length:=by rw[Kr];simp
 rw[A6] at hl;replace hl:=hl.trans hn.symm;exact rk (List.length_filter_eq_length_iff.1 hl v h)
theorem akC (hg:gB L=true) (hA:∀v∈A,v<L.length) (h:v∈fK (aI L) A L.length):v<L.length:=
 Io (fun x u hu=>(OA hg x u hu).1) hA L.length v h
theorem Th (hg:gB L=true) (h1:1<=L.length) (h8:L.length<=8) (hA:∀v∈A,v<L.length):v∈vM L A↔v∈fK (aI L) A L.length:=by
 rw[vM,dE];constructor
 ·rintro⟨a,b⟩;have hv:=Oi hg h1 h8 a;rw[WE (by omega)] at b;exact rk b
 ·intro h;have hv:=akC hg hA h;exact⟨VW hg h1 h8 hv,by rw[WE (by omega)];exact cS h⟩
theorem abA (hg:gB L=true) (h1:1<=L.length) (h8:L.length<=8) (A:List Nat):(vM L A).Nodup:=(VU hg h1 h8).sublist Fv
theorem abB (hg:gB L=true) (h1:1<=L.length) (h8:L.length<=8) (h:v∈vM L A):v<L.length:=Oi hg h1 h8 (dE.1 h).1
theorem aky {w:Nat} (h:Pa u v) (h2:jX Pa v w):jX Pa u w:=by
 induction h2 using jX.ind with
 |one h3=>exact .more (.one h) h3
 |more _ h3 ih=>exact .more ih h3
theorem abC (je:bQ L=0) (h1:1<=L.length) (h8:L.length<=8) (hA:∀v∈A,v<L.length):rj L (·∈vM L A):=fun v hv u hu=>by
 have hg:=tz je;show u∈vM L A;have hv:v∈vM L A:=hv;rw[Th hg h1 h8 hA,aa2 je h8 hA] at hv⊢;obtain⟨b,hb,e⟩:=hv;rw[<- Vz] at hu;refine⟨b,hb,.inr ?_⟩;rcases e with rfl |e
 ·exact .one hu
 ·exact aky (Pa:=fun u v=>u∈(aI L).getD v []) hu e
theorem Ti (je:bQ L=0) (h1:1<=L.length) (h8:L.length<=8) (hA:∀v∈A,v<L.length) (hv:v∈A):v∈vM L A:=by
 rw[Th (tz je) h1 h8 hA,aa2 je h8 hA];exact⟨v,hv,.inl rfl⟩
def gT (V:List Vr) (L:List (List Int)) (R:List (List Fr)) (ws:List Nat):List Tb:=ws.map fun v=>(gU L v,gL V L R v)
theorem aik (h0:bj V L R=0) (hlt:∀v∈ws,v<V.length) (hc:rj L (·∈ws)):eH (ar V) V.length (gT V L R ws) (fA R ws) 1:=
 ⟨(PI.net h0 hlt hc).ok,PD.net h0 hlt,fun t ht=>by
  obtain⟨v,_,rfl⟩:=aW.1 ht;exact aim V L R v⟩
theorem eH.fixes (hp:Pos S):∀ {l:List (Nat×Nat)} {P:List Tb} {D c:Nat},eH S n P D c ->(∀p∈l,p.2<sz S p.1) ->eH S n (mj S l P) D c
 |[],_,_,_,h,_=>h
 |p::l,_,_,_,h,hx=>eH.fixes hp (l:=l) (h.fix hp (hx p dB)) fun q hq=>hx q (dF _ hq)
theorem Q3 (S:List Nat):∀(l:List (Nat×Nat)) (P:List Tb),(mj S l P).length=P.length
 |[],_=>rfl
 |p::l,P=>by rw[mj,Q3 S l,cX]
theorem acI (hp:Pos S) {a b:List Nat} (h:a.Sublist b):iu S a<=iu S b:=by
 induction h with
 |slnil=>exact aq _
 |cons x _ ih=>rw[iu];exact aL ih (zi _ (kF hp x))
 |cons_cons x _ ih=>rw[iu,iu];exact j5 _ ih
theorem WY:∀(l:List (Nat×Nat)) (fr:List Nat),(jM fr l).Sublist fr
 |[],_=>List.Sublist.refl _
 |_::l,_=>(WY l _).trans Fv
def cM (V:List Vr) (L:List (List Int)) (R:List (List Fr)) (q:List Int) (l:List (Nat×Nat)):Tb:=
 (q,(List.range (cnt (ar V) (ag q))).map fun K=>qF (aX V L R (qV (ar V) (ag q) K++l)))
theorem ace {a b:List Int} (ha:Up a n) (hb:Up b m) (h:∀u,u∈ag a↔u∈ag b):a=b:=by
 have e:ag a=ag b:=by
  refine List.Perm.eq_of_pairwise (le:=(·<·)) (fun x y _ _ h1 h2=>by omega) (Tx ha) (Tx hb) ?_;exact(Jo ha.nodup hb.nodup).2 h
 have h1:iL (ag a)=a:=by
  rw[iL,ag,tX];refine(qd fun x hx=>?_).trans (List.map_id _);have:=(Bd ha x hx).1;show ((x.toNat:Nat):Int)=x;omega
 have h2:iL (ag b)=b:=by
  rw[iL,ag,tX];refine(qd fun x hx=>?_).trans (List.map_id _);have:=(Bd hb x hx).1;show ((x.toNat:Nat):Int)=x;omega
 rw[<- h1, <- h2,e]
theorem ad8 {q:List Int} (h:Up q n) (v:Nat):q.contains (v:Int)=(ag q).contains v:=by
 rw[tZ,zt,zt];constructor
 ·intro hv;exact aW.2 ⟨_,hv,by simp⟩
 ·intro hv;obtain⟨x,hx,e⟩:=aW.1 hv;have:=(Bd h x hx).1;have e2:x.toNat=v:=e;have:x=(v:Int):=by omega
  rwa [<- this]
theorem acg (h0:bj V L R=0) (hp:Pos (ar V)) {l:List (Nat×Nat)} {q:List Int} (hn:ws.Nodup) (hlt:∀v∈ws,v<V.length) (hc:rj L (·∈ws)) (hl:gW (ar V) V.length l) (Gy:∀p∈l,p.1∈ws) (hq:Up q V.length) (BV:∀v∈ag q,v∈ws/\¬v∈l.map (·.1)):
  allT (ar V) (i7 (ar V) false (fun v=>q.contains (v:Int)) (jM ws l) (mj (ar V) l (gT V L R ws)))=cM V L R q l:=by
 have e1:(fun v:Nat=>q.contains (v:Int))=fun v=>(ag q).contains v:=funext (ad8 hq);rw[e1];have gK:PI (ar V) V.length (jM ws l) (mj (ar V) l (gT V L R ws)) (fun g=>dJ V L R (eG l g) ws):=(PI.net h0 hlt hc).fixes hp hl.nd hl.val;obtain⟨free',hf,qm⟩:=PI.outs hp (fun v=>(ag q).contains v) (jM ws l) gK;have ha:=wQ hp qm.ok
 have hfr:∀u,u∈free'↔u∈ag q:=fun u=>by
  rw[hf u,KF];constructor
  ·rintro⟨⟨a,b⟩,c⟩;exact zt.1 (c ⟨a,b⟩)
  ·intro h;exact⟨BV u h,fun _=>zt.2 h⟩
 have hv:(allT (ar V) (i7 (ar V) false (fun v=>(ag q).contains v) (jM ws l) (mj (ar V) l (gT V L R ws)))).1=q:=by
  refine ace ha.1.up hq fun u=>?_;rw[ha.2.1 u, <- hfr u];exact⟨fun ⟨t,ht,hu⟩=>qm.sub t ht u hu,fun h=>qm.sup u h⟩
 refine Prod.ext hv ?_;rw[TX hp ha.1 (aa1 _ _),hv];refine qd fun K hK=>?_;have hK':=cH.1 hK;rw[ha.2.2 _ (fun u=>qP hp _ _ u hK'),qm.val _ (fun u=>qP hp _ _ u hK')];exact cU qF (agx h0 hn hlt hc hl.nd Gy hl.val hq.nodup BV hK')
variable {B' k:Nat}
def pR (F:List (Int×Int)):List (Value×Value):=F.map fun p=>(.int .i64 p.1,.int .i64 p.2)
theorem Eo (F:List (Int×Int)):(pR F).length=F.length:=cX _
theorem aaa (h:k<F.length):(pR F)[k]'(by rw[Eo];exact h)=(.int .i64 F[k].1,.int .i64 F[k].2):=lV _
def iU (w:World) (B:Nat) (v:Value) (F:List (Int×Int)):Prop:=w.ownsRow B 90 2 v F.length (dM (pR F))
theorem iU.nil (w:World) (B:Nat):iU w B (.slice none 0 0) []:=⟨rfl,.inl ⟨rfl,rfl⟩⟩
theorem iU.aa {B:Nat} {v:Value} (h:iU w B v F) (hb:Below w.heap.size w w'):iU w' B v F:=Dw h (yH.aa hb)
theorem iU.facts {B:Nat} {v:Value} (h:iU w B v F):∃d cd,v=.slice d F.length cd/\ky w d F/\F.length<=cd/\(d=none ->cd=0):=by
 rcases h.2 with ⟨h1,h2⟩ |⟨g,cap,cur,h1,h2,h3,h4,h5,h6,h7⟩
 ·exact⟨none,0,by rw[h1,h2],(fun k hk=>absurd hk (by omega)),by omega,fun _=>rfl⟩
 ·refine⟨_,cap,h1,fun k hk=>?_,h4,fun e=>by cases e⟩;have fk:k<(pR F).length:=by rw[Eo];exact hk
  obtain⟨q0,q1⟩:=JO (pR F) k fk;have hcl:=FQ (pR F)
  have hc:∀j u,(dM (pR F))[j]? =some u ->w.cell? ⟨g,j,none⟩=some u:=fun j u hj=>by
   rw[bX w g j _ _ (0,0) h3];have nG:=(nY.1 hj).1;rw[<- h7,sI,aA (by rw[Eo] at hcl;omega),xL] at hj;exact hj
  rw[aaa hk] at q0 q1;exact⟨g,0,rfl,(dm.1 h3).1,by rw[bD];exact hc _ _ q0,by rw[bD];exact hc _ _ q1⟩
theorem iU.own {B:Nat} {v:Value} (h:iU w B v F):∀k,v.ownBlock=some k ->B<=k:=fun k hk=>by
 rcases h.2 with ⟨h1,h2⟩ |⟨g,cap,cur,h1,h2,_⟩
 ·rw[h1] at hk;cases hk
 ·rw[h1] at hk;cases hk;exact h2
theorem iU.alloc {B:Nat} {v:Value} (h:iU w B v F) (o:Obj):iU (w.alloc o) B v F:=h.aa ((au w.heap.size w).alloc (aq _) o)
theorem Tryz.infoFact:(Tryz.prog.info? 90).map (fun i=>(i.zero,i.size,i.bytes))=some (some (.agg #[.int .i64 0,.int .i64 0]),2,16):=by kernel_rfl
theorem ai0 {o:Nat} (h:ky w (some ⟨g,o,none⟩) F):∀j u,(dM (pR F))[j]? =some u ->w.cell? ((⟨g,o,none⟩:Addr).add j)=some u:=fun j u hj=>by
 have nG:=(nY.1 hj).1;rw[FQ,Eo] at nG;have hk:j/2<F.length:=by omega
 obtain⟨g',o',e,_,c0,c1⟩:=h (j/2) hk;cases e;obtain⟨q0,q1⟩:=JO (pR F) (j/2) (by rw[Eo];exact hk);rw[aaa hk] at q0 q1
 have hadd:((⟨g,o,none⟩:Addr).add j)=⟨g,o+j,none⟩:=by
  rw[Addr.add];by_cases h0:j=0
  ·subst h0;simp
  ·simp[h0]
 rw[hadd];rcases Nat.mod_two_eq_zero_or_one j with hm |hm
 ·have e:j/2*2=j:=by omega
  rw[e] at q0 c0;rw[q0] at hj;rw[c0,hj]
 ·have e:j/2*2+1=j:=by omega
  rw[e] at q1;rw[q1] at hj;rw[show o+j/2*2+1=o+j by omega] at c1;rw[c1,hj]
theorem aiZ (F:List (Int×Int)):∀u∈dM (pR F),u.oneCell'=true:=by
 induction F with
 |nil=>intro u hu;cases hu
 |cons p F ih=>
  intro u hu;have BO:u=.int .i64 p.1∨u=.int .i64 p.2∨u∈dM (pR F):=by simpa [pR,dM] using hu
  rcases BO with rfl |rfl |h
  ·rfl
  ·rfl
  ·exact ih u h
theorem JG {o:Oper} {a:Act} {Q:Exit ->Act ->World ->Prop} (hgd:o.guard=none) (s x:Operand)
  (ho:o.op=.call {callee:=.builtin .append,args:= #[s,x],argTypes:= #[28,28]}) (base:Nat) (v:Value) (xs la:List (Int×Int)) (hs:a.eval s=v) (hown:iU w base v xs) (p:Option Addr) (ca:Nat) (hx:a.eval x=.slice p la.length ca) (hi:ky w p la) (hp:p=none ->ca=0) (hlen:xs.length+la.length<=100000) (hbase:base<=w.heap.size)
  (h:∀v' w',iU w' base v' (xs++la) ->w.grownBy w' v.ownBlock ->wpList Tryz.prog ops Q rest (a.put o.dst v') w'):wpList Tryz.prog ops Q (o::rest) a w:=by
 obtain⟨i0,bY,hz0,hz1,hz2⟩:=dH Tryz.infoFact;cases p with
 |none=>
  have hl:la=[]:=by
   cases la with
   |nil=>rfl
   |cons x l=>obtain⟨g,o,e,_⟩:=hi 0 (by simp);cases e
  subst hl;have h0:=hp rfl;subst h0;have h1:=h v w (by rw[xJ];exact hown) ⟨rfl,rfl,rfl,aq _,fun _ _ _=>rfl⟩;exact wpList_append_own_none hgd s x 28 ho base 90 i0 2 Tryz.underlying28 bY v xs.length _ hs hown hx h1
 |some ad=>
  have hc:∀j u,(dM (pR la))[j]? =some u ->w.cell? (ad.add j)=some u:=by
   cases la with
   |nil=>intro j u hj;cases hj
   |cons q l=>
    obtain⟨g,o',e,_⟩:=hi 0 (by simp);cases e;exact ai0 hi
  refine AV _ hgd s x 28 ho base 90 i0 (.agg #[.int .i64 0,.int .i64 0]) 2 16 Tryz.underlying28 bY hz0 hz1 hz2 rfl (by decide) v xs.length _ hs hown ad la.length ca (dM (pR la)) hx (by rw[FQ,Eo]) hc (aiZ la) (by unfold maxLen;omega) (by omega) hbase ?_;intro v' w' h1 h2 _;refine h v' w' ?_ h2;rw[iU,cK,pR,dL,FR];exact h1
theorem iU.start (W:World):iU (W.alloc (.cells #[] 90)) W.heap.size (.slice (some ⟨W.heap.size,0,none⟩) 0 0) []:=
 ⟨rfl,.inr ⟨W.heap.size,0, #[],rfl,aq _,im W _,aq _,by unfold maxLen;omega,rfl,rfl⟩⟩
theorem iU.lower {B:Nat} {v:Value} (h:iU w B v F) (hb:B'<=B):iU w B' v F:=by
 refine⟨h.1,?_⟩;rcases h.2 with h1 |⟨g,cap,cur,h1,h2,h3⟩
 ·exact .inl h1
 ·exact .inr ⟨g,cap,cur,h1,aL hb h2,h3⟩
structure FF (S:List Nat) (U:List Int) (i:Nat) (l:List (Nat×Nat)):Prop where
 vars:l.map (·.1)=ag (U.take i)
 val:∀p∈l,p.2<sz S p.1
theorem FF.start (S:List Nat) (U:List Int):FF S U 0 []:=⟨rfl,fun p hp=>by cases hp⟩
theorem FF.len {U:List Int} {l:List (Nat×Nat)} (h:FF S U i l) (hi:i<=U.length):l.length=i:=by
 have:=cU List.length h.vars;rw[cX,cY,dP] at this;omega
theorem FF.snoc {U:List Int} {l:List (Nat×Nat)} (h:FF S U i l) (hi:i<U.length) {x:Nat} (hx:x<sz S U[i].toNat):FF S U (i+1) (l++[(U[i].toNat,x)]):=by
 refine⟨?_,fun p hp=>?_⟩
 ·rw[dL,h.vars,fP hi,ag,ag,dL];rfl
 ·rcases cI.1 hp with hp |hp
  ·exact h.val p hp
  ·rw[eD.1 hp];exact hx
theorem Tf (l:List (Nat×Nat)) (p:Nat×Nat):zF (l++[p])=zF l++[((p.1:Int),(p.2:Int))]:=by rw[zF,zF,dL];rfl
theorem Wo (w:World) (u v:Int):ky (w.alloc (.cells #[.int .i64 u,.int .i64 v] 90)) (some ⟨w.heap.size,0,none⟩) [(u,v)]:=fun k hk=>by
 obtain rfl:k=0:=by simp at hk;omega
 have h:=im w (.cells #[.int .i64 u,.int .i64 v] 90);exact⟨w.heap.size,0,rfl,by simp,(bX _ w.heap.size _ _ _ (0,0) h).trans rfl,(bX _ w.heap.size _ _ _ (0,0) h).trans rfl⟩
theorem ad1 (a b c d r:Option Addr) (ca cb cc cd cr:Nat) (V:List Vr) (L:List (List Int)) (R:List (List Fr)) (U K:List Int) (w:World) (h:jA w a b c V L R) (hd:aC w d U) (hr:aC w r K) (hU:Up U V.length) (hUn:U.length<=1000) (hK:∀x∈K, -9223372036854775808<=x/\x<=9223372036854775807) (hKn:K.length<=140737488355328) (hV:∀v (h:v<V.length),1<=V[v].2.length/\V[v].2.length<=1000):
  Calls Tryz.prog 19 #[.agg #[.slice a V.length ca,.slice b L.length cb,.slice c R.length cc],.slice d U.length cd,.slice r K.length cr] w fun e w'=>∃x l,e=.returned x/\iU w' w.heap.size x (zF l)/\l.map (·.1)=ag U/\(∀p∈l,p.2<sz (ar V) p.1)/\Below w.heap.size w w':=by
 have bF:=cR.at (w:=w) rfl (.slice a V.length ca) (.slice b L.length cb) (.slice c R.length cc);have hb0:Below w.heap.size w (w.alloc (NC (.slice a V.length ca) (.slice b L.length cb) (.slice c R.length cc))):=(au _ w).alloc (aq _) _;have HN:=hid h;have HD:=hid hd;have HR:=hid hr;have HU:=hid hU;have HK:=hid hK;have HV:=hid hV;have HE:Hid (∀l,FF (ar V) U U.length l ->l.map (·.1)=ag U):=fun l hl=>by have:=hl.vars;rwa [gX] at this
 obtain⟨nK,KV⟩:∃n,K.length=n:=⟨_,rfl⟩;rw[KV];have HNK:=hid KV;rw[KV] at hKn;clear h hd hr hU hK hV KV;go_enter Tryz.func19,Tryz.ntmps19;go_wp2_with fail
 have sA:=hid bF;have CZ:=hid hb0;clear bF hb0;generalize w.alloc (NC (.slice a V.length ca) (.slice b L.length cb) (.slice c R.length cc))=W0 at *;go_loopw [7,8] (fun xv iv wr=>∃(i:Nat) (l:List (Nat×Nat)),i<=U.length/\iv=.int .i64 i/\Hid (FF (ar V) U i l)/\Hid (iU wr (w.heap.size+1) xv (zF l))/\Hid (cR wr w.heap.size (.slice a V.length ca) (.slice b L.length cb) (.slice c R.length cc))/\Hid (Below w.heap.size w wr)) (fun _ iv _=>U.length - (intOf iv).toNat)
 case atStart=>exact⟨0,[],aU _,rfl,FF.start _ _,iU.nil _ _,sA,CZ⟩
 case round=>
  obtain⟨i,l,hi,rfl,HF,HO,HX,HB⟩:=hrel;clear sA CZ;by_cases hlt:i<U.length
  ·obtain⟨g,o,rfl,hg,c0⟩:=(HD.o.aa HB.o) i hlt;have aT:=HU.o.each i hlt;obtain⟨v,hv⟩:∃v:Nat,U[i]=(v:Int):=⟨U[i].toNat,by omega⟩;(have ie:v<V.length:=by omega);obtain⟨ga,oa,bb,cbb,rfl,wI,n0,n1,n2,n3⟩:=(HN.o.vars.aa HB.o) v ie;have hsz:=HV.o v ie;have XA:=Nj ie
   have yN:Hid (∀x,x<V[v].2.length ->FF (ar V) U (i+1) (l++[(v,x)])):=fun x hx=>by
    have:=HF.o.snoc hlt (x:=x) (by rw[hv,mE,XA];exact hx);rwa [hv,mE] at this
   rw[hv] at c0;have c4:=HF.o.len hi;clear XA aT n2 n3 n0;generalize V[v].2.length=m at *;by_cases Hl:nK=0
   ·subst Hl;have nP:=hid HO.o.own;have Sk:=hid (HO.o.alloc (.cells #[.int .i64 (v:Nat),.int .i64 (0:Nat)] 90));have bW:=hid (HB.o.alloc HB.o.size (.cells #[.int .i64 (v:Nat),.int .i64 (0:Nat)] 90));have kY:=hid (Wo wr (v:Nat) (0:Nat));have jC:=hid (HX.o.aa ((au wr.heap.size wr).alloc (aq _) (.cells #[.int .i64 (v:Nat),.int .i64 (0:Nat)] 90)) HX.o.lt);have fN:Hid (w.heap.size+1<=(wr.alloc (.cells #[.int .i64 (v:Nat),.int .i64 (0:Nat)] 90)).heap.size):=hid (jC.o.lt);go_wp2_with (at_builtin;refine JG rfl _ _ rfl (w.heap.size+1) _ (zF l) [((v:Int),(0:Nat))] rfl Sk.o (some ⟨wr.heap.size,0,none⟩) 1 rfl kY.o (fun e=>by cases e) (by simp[od];omega) fN.o ?_;intro v' w2 hr2 hg2)
    have bB:=hid (bW.o.grown hg2 bW.o.size fun k hk=>Nat.le_of_succ_le (nP.o k hk));have bR:Hid (cR w2 w.heap.size (.slice (some ⟨ga,oa,none⟩) V.length ca) (.slice b L.length cb) (.slice c R.length cc)):=(hg2.block w.heap.size fN.o (fun e=>by have:=nP.o _ e.symm;omega)).trans jC.o;have eJ:=hid hr2;clear hr2 hg2;go_roundw
    case rel=>exact⟨i+1,_,by omega,by go_num,yN.o 0 (by omega),by rw[Tf];exact eJ,bR,bB⟩
    case measure=>simp[intOf];omega
   ·have hj:i % nK<K.length:=by rw[HNK.o];exact gh _ (by omega)
    obtain⟨gk,ok,rfl,hgk,k0⟩:=(HR.o.aa HB.o) (i % nK) hj;have Yo:=HK.o _ (bM hj);have hmod:((i:Nat):Int) % (nK:Int)=((i % nK:Nat):Int):=(rA _ _).symm;have hjn:i % nK<nK:=gh _ (by omega);obtain⟨x0,x1,x2⟩:=HX.o.cells;have vt:=hid (fun W=>UY K[i % nK] m W Yo.1 Yo.2 hsz.1 hsz.2);have hP:=Kc K[i % nK] hsz.1;generalize sO K[i % nK] m=P at *;generalize K[i % nK]=kk at *;generalize i % nK=j at *;go_wp2_with fail
    go_quiet ((go_at_call 60;refine Calls.quiet_of_same (vt.o _)))
    have HO':Hid (iU (wr.drewN nq) (w.heap.size+1) u7 (zF l)):=HO;have HX':Hid (cR (wr.drewN nq) w.heap.size (.slice (some ⟨ga,oa,none⟩) V.length ca) (.slice b L.length cb) (.slice c R.length cc)):=HX;have tT:=hid (below_drewN HB.o nq);have LO:(wr.drewN nq).cell? ⟨g,o+i,none⟩=some (.int .i64 (v:Nat)):=c0;clear HO HX HB c0 k0 x0 x1 x2 n1;generalize wr.drewN nq=wz at *;have HO:=HO';have HX:=HX';have HB:=tT;have c0:=LO;clear HO' HX' tT LO;have nP:=hid HO.o.own;have Sk:=hid (HO.o.alloc (.cells #[.int .i64 (v:Nat),.int .i64 (P:Nat)] 90));have bW:=hid (HB.o.alloc HB.o.size (.cells #[.int .i64 (v:Nat),.int .i64 (P:Nat)] 90));have kY:=hid (Wo wz (v:Nat) (P:Nat));have jC:=hid (HX.o.aa ((au wz.heap.size wz).alloc (aq _) (.cells #[.int .i64 (v:Nat),.int .i64 (P:Nat)] 90)) HX.o.lt);have fN:Hid (w.heap.size+1<=(wz.alloc (.cells #[.int .i64 (v:Nat),.int .i64 (P:Nat)] 90)).heap.size):=hid (jC.o.lt);go_wp2_with (at_builtin;refine JG rfl _ _ rfl (w.heap.size+1) _ (zF l) [((v:Int),(P:Nat))] rfl Sk.o (some ⟨wz.heap.size,0,none⟩) 1 rfl kY.o (fun e=>by cases e) (by simp[od];omega) fN.o ?_;intro v' w2 hr2 hg2)
    have bB:=hid (bW.o.grown hg2 bW.o.size fun k hk=>Nat.le_of_succ_le (nP.o k hk));have bR:Hid (cR w2 w.heap.size (.slice (some ⟨ga,oa,none⟩) V.length ca) (.slice b L.length cb) (.slice c R.length cc)):=(hg2.block w.heap.size fN.o (fun e=>by have:=nP.o _ e.symm;omega)).trans jC.o;have eJ:=hid hr2;clear hr2 hg2;go_roundw
    case rel=>exact⟨i+1,_,by omega,by go_num,yN.o P hP,by rw[Tf];exact eJ,bR,bB⟩
    case measure=>simp[intOf];omega
  ·obtain rfl:i=U.length:=by omega
   go_wp2;go_ret;exact⟨_,l,rfl,HO.o.lower (Nat.le_succ _),HE.o l HF.o,HF.o.val,HB.o⟩
theorem agf (k:Int):mkRat k 1=(k:Rat):=by
 rw[Rat.mkRat_one]
open Go
theorem H9 (h:u<10):Lib.decDigits u=[UInt8.ofNat (48+u)]:=by rw[Lib.decDigits,dif_pos h]
theorem aav (h:¬u<10):Lib.decDigits u=Lib.decDigits (u/10)++[UInt8.ofNat (48+u % 10)]:=by rw[Lib.decDigits,dif_neg h]
theorem aju (k:Nat):∀n,n<10^(k+1) ->(decDigits n).length<=k+1:=by
 induction k with
 |zero=>intro n h;rw[H9 (by simpa using h)];simp
 |succ k ih=>
  intro n h;by_cases h9:n<10
  ·rw[H9 h9];simp
  ·rw[aav h9,cK];have:=ih (n/10) (by rw[gH] at h;omega);simp;omega
theorem ajv (h:n<256^k):(decDigits n).length<=3*k+1:=by
 apply aju;have h1:(256:Nat)^k<=(10^3)^k:=Nat.pow_le_pow_left (by decide) k;rw[<- Nat.pow_mul] at h1;have h2:10^(3*k)<=10^(3*k+1):=iX (by decide) (by omega);omega
def uP (n:Nat):List UInt8:=if n=0 then[] else decDigits n
theorem ajr (h:n≠0):uP n=uP (n/10)++[UInt8.ofNat (48+n % 10)]:=by
 rw[uP,aD h];by_cases h9:n<10
 ·rw[H9 h9,uP,aA (by omega),gY,iY h9]
 ·rw[aav h9,uP,aD (by omega)]
theorem adM (a:ByteArray) (w:World) (ha:a.size<=500000):
  Calls Tryz.prog 61 #[.string a] w fun e w'=>e=.returned (.string ⟨(decDigits (N a)).toArray⟩)/\Below w.heap.size w w':=by
 have HT:=aB (ll a w (by omega));have sa:=aL (il a) ha;have pI:=ajv (AU (N a));generalize hA':N a=A at *;clear hA' ha;by_cases rU:A=0
 ·subst rU;rw[xB] at HT;have HZ:Hid (decDigits 0=[48]):=H9 (by decide);rw[HZ.o];clear pI;go_enter Tryz.func61,Tryz.ntmps61;go_wp2_with fail
  refine(HT.o).af ?_;rintro e w1 ⟨rfl,hw⟩;subst hw;go_wp2;go_ret;exact⟨rfl,au _ _⟩
 ·have hne:=zb rU;have y6:Hid (uP A=decDigits A):=aD rU;have Zv:N ⟨#[10]⟩=10:=rfl;go_enter Tryz.func61,Tryz.ntmps61;go_wp2_with fail
  refine(HT.o).af ?_;rintro e w1 ⟨rfl,hw⟩;subst hw;clear HT;go_wp2;go_loopg [0,3] A (fun n va vs wr=>∃s:ByteArray,va=.string (B n)/\vs=.string s/\(B n).size<=500000/\Hid (uP n++s.data.toList=uP A)/\Below w1.heap.size w1 wr)
  case atStart=>exact⟨⟨#[]⟩,rfl,rfl,sa,(show _=_ by simp),au _ _⟩
  case round=>
   obtain⟨s,rfl,rfl,hn,HS,bI⟩:=hrel;clear hne;by_cases h0:gk=0
   ·subst h0;rw[xB]
    have HE:Hid (s=⟨(decDigits A).toArray⟩):=by
     show _=_;have:=HS.o;rw[uP,aA rfl,gY,y6.o] at this;apply JB;apply JC.1;rw[this]
    go_wp2;go_ret;exact⟨by rw[<- HE.o];rfl,bI⟩
   ·have hne:=zb h0;have PW:=fun V=>U5 (B gk) ⟨#[10]⟩ V hn (by show 1<=_;omega) (by rw[Zv];decide);rw[bG,Zv] at PW;have HD:=aB PW;have alK:gk % 10<10:=gh _ (by decide);have hsm:(B (gk % 10)).size<=500000:=aL (i6 (Nat.mod_le _ _)) hn;have P5:=fun V=>Cn (B (gk % 10)) 0 V (by omega) (by omega);rw[bG,Fj,A0,iY (show gk % 10<256 by omega)] at P5;have HG:=aB P5;have hq:=aL (i6 (vI gk 10)) hn
    have XF:s.size<=1500001:=by
     have e:=cU List.length HS.o;rw[cK,wP,y6.o] at e;omega
    have hlt:gk/10<gk:=Nat.div_lt_self (jZ h0) (by decide);have hst:=ajr h0
    have mL:Hid (uP (gk/10)++(strOfNums [48+((gk % 10:Nat):Int)]++s).data.toList=uP A):=by
     show _=_;rw[<- HS.o,hst,ByteArray.data_append,Array.toList_append,C1,nZ];(have this:(48+((gk % 10:Nat):Int)).toNat=48+gk % 10:=by omega);rw[fQ,k7,this]
    clear hst PW P5 hn hsm;generalize hd':gk % 10=d at *;clear hd'
    have wJ:=fun V:World=>C2 (P:=Tryz.prog) (V.alloc (.cells #[.int .u8 (48+(d:Int))] 5)) 152 5 Tryz.underlying152 Tryz.underlying5 V.heap.size 0 1 1 [48+(d:Int)] rfl (fun i hi=>by
     (obtain rfl:i=0:=by omega);rw[bX _ V.heap.size (0+0) _ _ (0,0) (im _ _)];rfl) 9 Tryz.underlying9
    have hs1:(strOfNums [48+(d:Int)]).size=1:=strOfNums_size _;go_wp2_with fail
    refine(HD.o _).af ?_;rintro e w2 ⟨rfl,hb2⟩;go_wp2_with fail
    refine(HG.o _).af ?_;rintro e w3 ⟨rfl,hw3⟩;subst hw3;have alY:=wJ w3;clear wJ;go_wp2;go_roundg (gk/10)
    case measure=>exact hlt
    case rel=>exact⟨strOfNums [48+(d:Int)]++s,rfl,rfl,hq,mL.o,(bI.trans (hb2.af bI.size)).alloc (bI.trans (hb2.af bI.size)).size _⟩
def Er (i:Nat):ByteArray:=⟨(decDigits i).toArray⟩
theorem Ra (h:i<10):(Er i).size=1:=by
 rw[Er,H9 h];rfl
abbrev iy (c:UInt8) (i:Nat):ByteArray:=⟨#[c]⟩++Er i
def qf (k:Nat):List ByteArray:=(List.range k).map (iy 118)
theorem ab9 (k:Nat):qf (k+1)=qf k++[iy 118 k]:=by simp[qf,oY]
theorem JL (k:Nat):(qf k).length=k:=by simp[qf]
theorem U3 (i:Nat) (w:World) (hi:i<=1000):Calls Tryz.prog 62 #[.int .i64 (i:Nat)] w fun e w'=>e=.returned (.string (B i))/\Below w.heap.size w w':=by
 have:=Ds (i:Int) w (by omega) (by omega);rwa [mE] at this
theorem UW (i:Nat) (w:World) (hi:i<=1000):Calls Tryz.prog 61 #[.string (B i)] w fun e w'=>e=.returned (.string (Er i))/\Below w.heap.size w w':=by
 have:=adM (B i) w (by
  have h1:(B i).size<=1000:=by rw[kA];exact aL (nM 2 i (by omega)) (by omega)
  omega)
 rwa [bG] at this
theorem kq.empty (w:World) (B:Nat):kq w B (.slice none 0 0) []:=⟨rfl,.inl ⟨rfl,rfl⟩⟩
theorem kq.step {B:Nat} {v:Value} {l:List ByteArray} (h:kq w B v l) (hb:Below w.heap.size w w'):kq w' B v l:=by
 refine⟨h.1,?_⟩;rcases h.2 with h1 |⟨g,cap,cur,h1,h2,h3,h4⟩
 ·exact .inl h1
 ·exact .inr ⟨g,cap,cur,h1,h2,(hb.block g (dm.1 h3).1).trans h3,h4⟩
theorem aj9 (k:Nat) (w:World) (hk:k<=3):
  Calls Tryz.prog 63 #[.int .i64 (k:Nat)] w fun e w'=>∃x,e=.returned x/\kq w' w.heap.size x (qf k)/\Below w.heap.size w w':=by
 have RV:=hid (fun (i:Nat) (hi:i<=1000) (U:World)=>U3 i U hi);have qW:=hid (fun (i:Nat) (hi:i<=1000) (U:World)=>UW i U hi);go_enter Tryz.func63,Tryz.ntmps63;go_wp2_with fail
 go_loopw [3,4] (fun x iv wr=>∃i:Nat,i<=k/\iv=.int .i64 i/\Hid (kq wr w.heap.size x (qf i))/\Hid (Below w.heap.size w wr)) (fun _ iv _=>k - (intOf iv).toNat)
 case atStart=>exact⟨0,aU _,rfl,kq.empty _ _,au _ _⟩
 case round=>
  obtain⟨i,hi,rfl,HR,HB⟩:=hrel;by_cases hlt:i<k
  ·go_wp2_with fail
   refine(RV.o i (by omega) _).af ?_;rintro e w1 ⟨rfl,hb1⟩;go_wp2_with fail
   refine(qW.o i (by omega) _).af ?_;rintro e w2 ⟨rfl,hb2⟩;have Qg:=hb1.trans (hb2.af hb1.size);have eJ:=hid (HR.o.step Qg);have bB:=hid (HB.o.trans (Qg.af HB.o.size));clear hb1 hb2 Qg HR HB;have mM:=hid (eJ.o.step ((au _ w2).alloc (aq _) (.cells #[.string (iy 118 i)] 9)));have bW:=hid (bB.o.alloc bB.o.size (.cells #[.string (iy 118 i)] 9));have lL:=hid (afi w2 (iy 118 i));have fX:w.heap.size<=(w2.alloc (.cells #[.string (iy 118 i)] 9)).heap.size:=bW.o.size;have ie:=JL i;have iH:=hid (ab9 i);have hdz:=Ra (i:=i) (by omega);go_wp2_with (at_builtin;refine abI rfl _ _ rfl w.heap.size _ (qf i) (iy 118 i) rfl mM.o w2.heap.size rfl lL.o (by omega) fX ?_;intro v' w3 hr3 hg3;have eZ:=hid (bW.o.grown hg3 fX (fun k e=>mM.o.own k e)))
   go_roundw
   case rel=>exact⟨i+1,by omega,by go_num,by rw[iH.o];exact hr3,eZ⟩
   case measure=>simp[intOf];omega
  ·obtain rfl:i=k:=by omega
   go_wp2;go_ret;exact⟨_,rfl,HR.o,HB.o⟩
def nh (Ls:List Nat):List Fr:=Ls.map fun a:Nat=>qF ((a:Rat)/(Ls.sum:Rat))
theorem NG (Ls:List Nat):(nh Ls).length=Ls.length:=by simp[nh]
theorem Vc (h:n<256):qw (n:Rat)<=2:=by
 have h1:(n:Rat).num.natAbs=n:=by simp
 have h2:(n:Rat).den=1:=rfl;rw[qw,h1,h2,kA,kA];have h3:=nM 1 n (by omega);have h4:=nM 1 1 (by omega);omega
theorem JR:∀ {Ls:List Nat},(∀a∈Ls,a<=6) ->Ls.sum<=6*Ls.length
 |[],_=>aq _
 |a::l,h=>by
  have h1:=h a dB;have h2:=JR fun b hb=>h b (dF _ hb);simp only[List.sum_cons,dI];omega
theorem adI {Ls:List Nat} (h:∀a∈Ls,a<=6) (hl:Ls.length<=3) (hs:1<=Ls.sum):∀f∈nh Ls,f.2.1.size+f.2.2.size<=2:=by
 intro f hf;obtain⟨a,ha,rfl⟩:=aW.1 hf;have h6:=JR h;have h1:=h a ha;show (nu ((a:Rat)/(Ls.sum:Rat))).size+(de ((a:Rat)/(Ls.sum:Rat))).size<=2;rw[nj];have pI:Fits 1 ((a:Rat)/(Ls.sum:Rat)):=⟨(a:Int),Ls.sum,by omega,by rw[Rat.mkRat_eq_div];rfl,by omega,by simp;omega⟩;exact Lz pI
theorem adJ {Ls:List Nat} (hs:1<=Ls.sum):jH (nh Ls)=true:=by
 have hne:(Ls.sum:Rat)≠0:=fun e=>by
  have e':Ls.sum=0:=by exact_mod_cast e
  omega
 have kf:(0:Rat)<(Ls.sum:Rat):=Rat.lt_of_le_of_ne Rat.natCast_nonneg (Ne.symm hne);rw[jH,iK];constructor
 ·rw[fE];intro f hf;obtain⟨a,ha,rfl⟩:=aW.1 hf;refine cS ?_;rw[mi,Rat.not_lt];have ha0:(0:Rat)<=(a:Rat):=Rat.natCast_nonneg;rw[rp];exact Ff ha0 (Rat.le_of_lt (Rat.inv_pos.2 kf))
 ·refine cS ?_
  have key:∀(l:List Nat) (s c:Rat),(l.map fun a:Nat=>qF ((a:Rat)/c)).foldl (fun s f=>s+Cm f) s=s+(l.sum:Rat)/c:=by
   intro l;induction l with
   |nil=>intro s c;show s=s+((0:Nat):Rat)/c;rw[rp];grind
   |cons a l ih=>
    intro s c;rw[fQ,zo,ih,show Cm (qF ((a:Rat)/c))=(a:Rat)/c from mi _,List.sum_cons,rp,rp,rp,Rat.natCast_add,Rat.add_mul,Fi]
  rw[bH,nh,key,Rat.zero_add,rp,Rat.mul_inv_cancel _ hne]
variable {cap:Nat}
theorem Xn (Ls:List Nat) (a:Nat):iL (Ls++[a])=iL Ls++[(a:Int)]:=by simp[iL]
theorem bA.put {B:Nat} (h:bA w B (.slice (some ⟨g,0,none⟩) n cap) l) (j:Nat) (y:Int):bA (w.setCell ⟨g,j,none⟩ (.int .i64 y)) B (.slice (some ⟨g,0,none⟩) n cap) (l.set j y):=by
 rcases h.2 with ⟨h1,_⟩ |⟨g',cap',cur,h1,h2,h3,h4,h5,h6,h7⟩
 ·cases h1
 ·cases h1;refine⟨by simp,.inr ⟨g,cap,_,by simp,h2,jY w g j _ _ _ h3,by simpa using h4,h5,by simpa using h6,?_⟩⟩;rw[Array.toList_setIfInBounds,tY,A5, <- h7,List.take_set]
theorem iT.lower {B:Nat} {v:Value} {l:List Fr} (h:iT w B v l) (hb:B'<=B):iT w B' v l:=by
 refine⟨h.1,?_⟩;rcases h.2 with h1 |⟨g,cap,cur,h1,h2,h3,h4⟩
 ·exact .inl h1
 ·exact .inr ⟨g,cap,cur,h1,aL hb h2,h3,h4⟩
theorem bA.emptyB (w:World) (B:Nat):bA w B (.slice none 0 0) []:=⟨rfl,.inl ⟨rfl,rfl⟩⟩
structure Ip (Ls:List Nat) (i:Nat):Prop where
 len:Ls.length=i
 six:∀a∈Ls,a<=6
theorem adv (d:Option Addr) (cd k n:Nat) (W:List Int) (w:World) (hW:aC w d W) (hr:∀x∈W, -9223372036854775808<=x/\x<=9223372036854775807) (hk:k<=100000) (dW:1<=n) (uw:n<=5) (hWl:W.length<=140737488355328):
  Calls Tryz.prog 64 #[.slice d W.length cd,.int .i64 (k:Nat),.int .i64 (n:Nat)] w fun e w'=>∃(x:Value) (Ls:List Nat),e=.returned x/\iT w' w.heap.size x (nh Ls)/\Ip Ls n/\1<=Ls.sum/\Below w.heap.size w w':=by
 have HW:=hid hW;have HR:=hid hr;have vt:=hid (fun (c:Int) (h: -9223372036854775808<=c/\c<=9223372036854775807) (U:World)=>J6 c 7 U h.1 h.2 (by omega) (by omega));have gV:=hid (fun (c:Int)=>Kc c (n:=7) (by omega));have mz:=hid (fun (a:Nat) (h:a<=100) (U:World)=>J7 (a:Int) U (by omega) (by omega))
 have abk:Hid (∀(a:Nat),a<=100 ->∀U:World,Calls Tryz.prog 22 #[.int .i64 (a:Nat)] U fun e w'=>e=.returned (gF (qF (a:Rat)))/\Below U.heap.size U w'):=fun a ha U=>by
  have h:=mz.o a ha U;rw[agf] at h;exact h
 have HDV:Hid (∀(a s:Nat),a<=100 ->1<=s ->s<=100 ->∀U:World,Calls Tryz.prog 92 #[gF (qF (a:Rat)),gF (qF (s:Rat))] U fun e w'=>e=.returned (.tuple #[gF (qF ((a:Rat)/(s:Rat))),.int .i64 0])/\Below U.heap.size U w'):=fun a s ha hs1 hs2 U=>by
  have hne:(s:Rat)≠0:=fun e=>by
   (have e':s=0:=by exact_mod_cast e);omega
  have h:=ad4 (aM (a:Rat)) (aM (s:Rat)) (nu (a:Rat)) (de (a:Rat)) (nu (s:Rat)) (de (s:Rat)) U (by rw[gi];exact hne) (by rw[nj];have:=Vc (n:=a) (by omega);omega) (by rw[nj];have:=Vc (n:=s) (by omega);omega);rw[gi,gi] at h;exact h
 clear mz;have mz:=abk;clear abk hW hr;go_enter Tryz.func64,Tryz.ntmps64;go_wp2_with fail
 go_loopw [7,8,9] (fun x sv iv wr=>∃(i:Nat) (Ls:List Nat),i<=n/\iv=.int .i64 i/\sv=.int .i64 (Ls.sum:Nat)/\Hid (Ip Ls i)/\Hid (bA wr w.heap.size x (iL Ls))/\Hid (Below w.heap.size w wr)) (fun _ _ iv _=>n - (intOf iv).toNat)
 case atStart=>exact⟨0,[],aU _,rfl,rfl,⟨rfl,fun a ha=>by cases ha⟩,bA.emptyB _ _,au _ _⟩
 case round=>
  obtain⟨i,Ls,hi,rfl,rfl,HL,HX,HB⟩:=hrel;by_cases hlt:i<n
  ·have Pe:Ls.sum<=100:=by have:=JR HL.o.six;have:=HL.o.len;omega
   have c4:=HL.o.len;by_cases hw0:0<W.length
   ·obtain⟨ki,hki⟩:∃ki,ki=k+i:=⟨_,rfl⟩;(have hwr:IntKind.i64.wrap ((k:Int)+(i:Int))=(ki:Int):=by rw[gI];omega);obtain⟨t,ht⟩:∃t,t=ki % W.length:=⟨_,rfl⟩;(have nB:t<W.length:=by rw[ht];exact gh _ hw0);(have Gp:(ki:Int) % (W.length:Int)=(t:Int):=by rw[ht,rA]);obtain⟨g',o',rfl,iO,cW⟩:=(HW.o.aa HB.o) t nB;have hxr:=HR.o W[t] (bM nB);have hpl:=gV.o W[t];have IQ:=hid (fun U=>vt.o W[t] hxr U);(have alx:(0:Int)<(W.length:Int):=by omega);(have aly:¬(W.length:Int)=0:=by omega);(have O0:IntKind.i64.wrap ((ki:Int) % (W.length:Int))=(t:Int):=by rw[Gp,gI];omega);clear ht hki hw0;generalize W[t]=wt at *;generalize sO wt 7=p at *;go_wp2_with fail
    refine(IQ.o _).af ?_;rintro e w1 ⟨rfl,hb1⟩;have r7:=hid (HX.o.aa hb1);have eU:=hid (HB.o.trans (hb1.af HB.o.size));have jC:=hid (r7.o.aa ((au _ w1).alloc (aq _) (.cells #[.int .i64 (p:Int)] 3)));have bW:=hid (eU.o.alloc eU.o.size (.cells #[.int .i64 (p:Int)] 3));have kY:=hid (Dy w1 (p:Int));have fX:w.heap.size<=(w1.alloc (.cells #[.int .i64 (p:Int)] 3)).heap.size:=bW.o.size;(have wH:(iL Ls).length=i:=by rw[bs];exact c4);have iH:=hid (Xn Ls p);(have hsm:IntKind.i64.wrap ((Ls.sum:Int)+(p:Int))=(((Ls++[p]).sum:Nat):Int):=by rw[gI];simp;omega);have Cy:Hid (Ip (Ls++[p]) (i+1)):=⟨by simp[c4],fun a ha=>by rcases cI.1 ha with ha |ha;exact HL.o.six a ha;rw[eD.1 ha];omega⟩;generalize hs2:(Ls++[p]).sum=s2 at *;have mL:=hid hs2;clear hs2;clear cW hb1 HX HB r7 eU;go_wp2_with (at_builtin;refine vO rfl _ _ rfl w.heap.size _ (iL Ls) [(p:Int)] rfl jC.o (some ⟨w1.heap.size,0,none⟩) 1 rfl kY.o (fun e=>by cases e) (by simp;omega) fX ?_;intro v' w3 hr3 hg3;have eZ:=hid (bW.o.grown hg3 fX (fun k e=>jC.o.own k e)))
    go_roundw
    case rel=>exact⟨i+1,Ls++[p],by omega,by go_num,by rw[mL.o],Cy,by rw[iH.o];exact hr3,eZ⟩
    case measure=>simp[intOf];omega
   ·have tj:¬(0:Int)<(W.length:Int):=by omega
    have ahA:decide (0<W.length)=false:=cD (by omega);have jC:=hid (HX.o.aa ((au _ wr).alloc (aq _) (.cells #[.int .i64 1] 3)));have bW:=hid (HB.o.alloc HB.o.size (.cells #[.int .i64 1] 3));have kY:=hid (Dy wr 1);have fX:w.heap.size<=(wr.alloc (.cells #[.int .i64 1] 3)).heap.size:=bW.o.size;(have wH:(iL Ls).length=i:=by rw[bs];exact c4);have iH:=hid (Xn Ls 1);(have hsm:IntKind.i64.wrap ((Ls.sum:Int)+1)=(((Ls++[1]).sum:Nat):Int):=by rw[gI];simp;omega);have Cy:Hid (Ip (Ls++[1]) (i+1)):=⟨by simp[c4],fun a ha=>by rcases cI.1 ha with ha |ha;exact HL.o.six a ha;rw[eD.1 ha];omega⟩;have mL:=hid (Eq.refl (Ls++[1]).sum);generalize hs2:(Ls++[1]).sum=s2 at *;have CE:=hid hs2;clear hs2 mL HX HB hw0;go_wp2_with (at_builtin;refine vO rfl _ _ rfl w.heap.size _ (iL Ls) [(1:Int)] rfl jC.o (some ⟨wr.heap.size,0,none⟩) 1 rfl kY.o (fun e=>by cases e) (by simp;omega) fX ?_;intro v' w3 hr3 hg3;have eZ:=hid (bW.o.grown hg3 fX (fun k e=>jC.o.own k e)))
    go_roundw
    case rel=>exact⟨i+1,Ls++[1],by omega,by go_num,by rw[CE.o],Cy,by rw[iH.o];exact hr3,eZ⟩
    case measure=>simp[intOf];omega
  ·obtain rfl:n=i:=by omega
   (have Pe:Ls.sum<=100:=by have:=JR HL.o.six;have:=HL.o.len;omega);have c4:=HL.o.len;by_cases hs0:Ls.sum=0
   focus
    (have B0:0<(iL Ls).length:=by rw[bs];omega);rcases HX.o.cases with ⟨_,hnil⟩ |⟨g,cap,rfl,hg0,hg,hc1,hc2,hh⟩
    ·rw[hnil] at B0;exact absurd B0 (by simp)
    focus
     have hput:=HX.o.put 0 1;obtain⟨hc0,hf0⟩:=hh 0 (by simpa using B0);rw[bD] at hc0 hf0;have rh:=hid (HB.o.setCell (p:=⟨g,0,none⟩) hg0 (.int .i64 1));(have PC:(iL Ls).length=n:=by rw[bs];exact c4);rw[PC]
     obtain⟨a0,l0,rfl⟩:∃a0 l0,Ls=a0::l0:=by
      cases Ls with
      |nil=>rw[<- c4] at dW;exact absurd dW (by simp)
      |cons a0 l0=>exact⟨a0,l0,rfl⟩
     (have ha0:a0=0/\l0.sum=0:=by simp at hs0;exact hs0)
     have LX:Hid (bA (wr.setCell ⟨g,0,none⟩ (.int .i64 1)) w.heap.size (.slice (some ⟨g,0,none⟩) n cap) (iL (1::l0))):=by
      rw[PC] at hput;exact hput
     have Aw:Hid (Ip (1::l0) n):=⟨by simpa using c4,fun a ha=>by rcases dG.1 ha with rfl |ha;omega;exact HL.o.six a (dF _ ha)⟩;have wV:Hid ((1::l0).sum=1/\1<=1/\1<=100):=⟨by simp[ha0.2],by omega,by omega⟩;(have bY:(0:Int)<(n:Int):=by omega);rw[hs0,show ((0:Nat):Int)=0 from rfl];clear hs0 hput hh HX HB PC Pe c4 HL;go_upto_region 14 with fail
     clear hc0 hf0 ha0;generalize (wr.setCell ⟨g,0,none⟩ (.int .i64 1))=wb at *;have bR:=LX;have bB:=rh;obtain⟨S,hS⟩:∃S:Nat,S=1:=⟨1,rfl⟩;obtain⟨jB,hL2⟩:∃jB,jB=1::l0:=⟨_,rfl⟩;rw[<- hL2] at Aw wV bR;(have abc:Hid (jB.sum=S/\1<=S/\S<=100):=by rw[hS];exact wV);(have e1:(1:Int)=((S:Nat):Int):=by rw[hS];rfl);rw[e1];clear wV LX rh hL2 hS e1;have wV:=abc;clear abc
   rotate_left
   focus
    (have Pg:¬(Ls.sum:Int)=0:=by omega);obtain⟨S,hS⟩:∃S,Ls.sum=S:=⟨_,rfl⟩;have wV:Hid (Ls.sum=S/\1<=S/\S<=100):=⟨hS,by omega,by omega⟩;rw[hS] at Pg⊢;obtain⟨jB,hL2⟩:∃jB,jB=Ls:=⟨_,rfl⟩;rw[<- hL2] at HL HX wV;have Aw:=HL;have bR:=HX;have bB:=HB;(have Pc:((S:Int)==0)=false:=by simpa using Pg);clear hs0 hS hL2 HL HX HB Pe c4;go_upto_region 14 with fail
    clear Pg Pc;generalize wr=wb at *
   all_goals
    obtain⟨d7,yF,e7,zU⟩:=bR.o.ints;have HI7:=hid zU;(have Yv:(iL jB).length=n:=by rw[bs];exact Aw.o.len);rw[Yv] at e7;cases e7;have hS1:=wV.o.2.1;have K9:=wV.o.2.2;have CD:=hid wV.o.1;(have ij:Hid ((nh jB).length=n):=by show _=_;rw[NG];exact Aw.o.len);(have vD:Hid (∀j (h:j<jB.length),(nh jB)[j]'(by rw[NG];exact h)=qF ((jB[j]:Rat)/(S:Rat))):=fun j h=>by simp[nh,CD.o]);clear zU wV;go_wp2_with fail
    go_loopw [11,12] (fun x iv wr2=>∃i:Nat,i<=n/\iv=.int .i64 i/\Hid (iT wr2 wb.heap.size x ((nh jB).take i))/\Hid (Below wb.heap.size wb wr2)) (fun _ iv _=>n - (intOf iv).toNat)
    case atStart=>exact⟨0,aU _,rfl,iT.empty _ _,au _ _⟩
    case round=>
     obtain⟨i,hi,rfl,HY,lM⟩:=hrel;by_cases hlt:i<n
     ·have GQ:i<(iL jB).length:=by rw[Yv];exact hlt
      (have Eb:i<jB.length:=by rw[<- bs];exact GQ);obtain⟨g',o',e8,iO,cL⟩:=(HI7.o.aa lM.o) i GQ;cases e8;(try rw[bD] at cL)
      (have e1:(iL jB)[i]'GQ=((jB[i]'Eb:Nat):Int):=by simp[iL]);rw[e1] at cL;have ha6:=Aw.o.six (jB[i]'Eb) (bM Eb);have GY:=vD.o i Eb;(have HST:Hid ((nh jB).take i++[qF (((jB[i]'Eb:Nat):Rat)/(S:Rat))]=(nh jB).take (i+1)):=by show _=_;rw[fP (by rw[ij.o];exact hlt),GY]);clear e1 GY;generalize (jB[i]'Eb)=av at *;have q7:=hid (fun U=>mz.o av (by omega) U);have yU:=hid (fun U=>mz.o S (by omega) U);have ald:=hid (fun U=>HDV.o av S (by omega) (by omega) (by omega) U);generalize qF ((av:Nat):Rat)=fa at *;generalize qF ((S:Nat):Rat)=fs at *;generalize qF (((av:Nat):Rat)/((S:Nat):Rat))=fq at *;obtain⟨an,ax,ay⟩:=fa;obtain⟨sn,sx,sy⟩:=fs;obtain⟨qn,qx,qy⟩:=fq;go_wp2_with fail
      refine(q7.o _).af ?_;rintro e v1 ⟨rfl,hb1⟩;go_wp2_with fail
      refine(yU.o _).af ?_;rintro e v2 ⟨rfl,hb2⟩;go_wp2_with fail
      refine(ald.o _).af ?_;rintro e v3 ⟨rfl,hb3⟩;have Za:=hb2.trans (hb3.af hb2.size);have Qf:=hb1.trans (Za.af hb1.size);clear hb1 hb2 hb3 Za;have bF:=aF.new v3 qn qx qy;have hb4:=Qf.alloc Qf.size (FC qn qx qy);obtain⟨k0,k1,k2, -⟩:=bF.facts
      have YP:aF ((v3.alloc (FC qn qx qy)).alloc (FC qn qx qy)) (v3.heap.size+1) qn qx qy:=by
       have h:=aF.new (v3.alloc (FC qn qx qy)) qn qx qy;rwa [di] at h
      have hb5:=hb4.alloc hb4.size (FC qn qx qy);have Ex:=hid (HY.o.aa hb5);have eT:=hid (lM.o.trans (hb5.af lM.o.size));have sA:=hid YP;have fX:wb.heap.size<=((v3.alloc (FC qn qx qy)).alloc (FC qn qx qy)).heap.size:=eT.o.size;(have nB:((nh jB).take i).length<=5:=by rw[dP,ij.o];omega);clear Qf hb4 hb5 bF YP HY lM cL;go_wp2_with (at_builtin;refine abO rfl _ _ rfl wb.heap.size _ ((nh jB).take i) (qn,qx,qy) rfl Ex.o (v3.heap.size+1) rfl sA.o (by omega) fX ?_;intro v' v6 hr6 hg6;have AQ:=hid (eT.o.grown hg6 fX (fun k e=>Ex.o.own k e)))
      go_roundw
      case rel=>exact⟨i+1,by omega,by go_num,by rw[<- HST.o];exact hr6,AQ⟩
      case measure=>simp[intOf];omega
     ·obtain rfl:i=n:=by omega
      go_wp2;go_ret;have hr:=HY.o;rw[jn (by rw[ij.o];exact aq _)] at hr;exact⟨_,jB,rfl,hr.lower bB.o.size,Aw.o,by rw[CD.o];exact hS1,bB.o.trans (lM.o.af bB.o.size)⟩
def eI (t:TypeId) (w w':World):Prop:=∀(k:Nat) (c:Array Value) (fr:Nat×Nat),w.heap[k]? =some (Obj.cells c t fr) ->w'.heap[k]? =some (Obj.cells c t fr)
theorem eI.aa {t:TypeId} (hb:Below w.heap.size w w'):eI t w w':=fun k _ _ h=>(hb.block k (dm.1 h).1).trans h
theorem eI.grown {t t':TypeId} {row:Option Nat} (hg:w.grownBy w' row) (hr:∀g,row=some g ->∃c fr,w.heap[g]? =some (.cells c t' fr)) (hne:t≠t'):eI t w w':=fun k c fr h=>by
 refine(hg.block k (dm.1 h).1 fun e=>?_).trans h;obtain⟨c',Z1,h'⟩:=hr k e.symm;rw[h] at h';cases h';exact hne rfl
theorem eI.set {t t':TypeId} {b:Nat} {c':Array Value} {Z1:Nat×Nat} (hb:w.heap[b]? =some (.cells c' t' Z1)) (hne:t≠t') (j:Nat) (y:Value):eI t w (w.setCell ⟨b,j,none⟩ y):=fun k c fr h=>by
 refine(jq w ⟨b,j,none⟩ y k fun e=>?_).trans h;have e':k=b:=e;subst e';rw[h] at hb;cases hb;exact hne rfl
theorem eI.trans {t:TypeId} {a b c:World} (h:eI t a b) (k:eI t b c):eI t a c:=fun i cs fr hi=>k i cs fr (h i cs fr hi)
theorem mH {B:Nat} {e:TypeId} {s:Nat} {v:Value} (h:w.ownsRow B e s v n xs) (hk:eI e w w'):w'.ownsRow B e s v n xs:=by
 refine⟨h.1,?_⟩;rcases h.2 with h1 |⟨g,cap,cur,h1,h2,h3,h4⟩
 ·exact .inl h1
 ·exact .inr ⟨g,cap,cur,h1,h2,hk _ _ _ h3,h4⟩
theorem Kj {B:Nat} {e:TypeId} {s:Nat} {v:Value} (h:w.ownsRow B e s v n xs):∀g,v.ownBlock=some g ->∃c fr,w.heap[g]? =some (.cells c e fr):=fun g hg=>by
 rcases h.2 with ⟨rfl,_⟩ |⟨g',cap,cur,rfl,h2,h3,h4⟩
 ·cases hg
 ·cases hg;exact⟨_,_,h3⟩
theorem Kk {B:Nat} {e:TypeId} {s:Nat} {v:Value} (h:w.ownsRow B e s v n xs):∀g,v.ownBlock=some g ->B<=g:=fun g hg=>by
 rcases h.2 with ⟨rfl,_⟩ |⟨g',cap,cur,rfl,h2,h3,h4⟩
 ·cases hg
 ·cases hg;exact h2
theorem mG {B:Nat} {e:TypeId} {s:Nat} {v:Value} (h:w.ownsRow B e s v n xs):∃a c,v=.slice a n c/\(a=none ->c=0):=by
 rcases h.2 with ⟨rfl,rfl⟩ |⟨g',cap,cur,rfl,h2,h3,h4⟩
 ·exact⟨none,0,rfl,fun _=>rfl⟩
 ·exact⟨_,_,rfl,fun e=>by cases e⟩
theorem F7 {B:Nat} {e:TypeId} {s:Nat} {v:Value} (h:w.ownsRow B e s v n xs) (hb:B'<=B):w.ownsRow B' e s v n xs:=by
 refine⟨h.1,?_⟩;rcases h.2 with h1 |⟨g,cap,cur,h1,h2,h3,h4⟩
 ·exact .inl h1
 ·exact .inr ⟨g,cap,cur,h1,aL hb h2,h3,h4⟩
theorem Kl {B:Nat} {e:TypeId} {s:Nat} (h:w.ownsRow B e s (.slice a n c) n xs) (hj:j<xs.length):∃g,a=some ⟨g,0,none⟩/\g<w.heap.size/\w.cell? ⟨g,j,none⟩=some xs[j]:=by
 rcases h.2 with ⟨h1,h2⟩ |⟨g',cap,cur,h1,h2,h3,h4,h5,h6,h7⟩
 ·have:=h.1;subst h2;rw[mC] at this;omega
 ·cases h1;refine⟨g',rfl,(dm.1 h3).1,?_⟩;have hl:j<n*s:=by have:=h.1;omega
  rw[bX w g' j _ _ (0,0) h3]
  have e':cur[j]? =(cur.toList.take (n*s))[j]?:=by
   rw[sI,aA hl,xL]
  rw[e',h7,a8 hj]
abbrev PV:Type:=ByteArray×Value×List ByteArray
def vC:List PV ->List Value
 |[]=>[]
 |p::l=>.string p.1::p.2.1::vC l
theorem FB:∀l,(vC l).length=l.length*2
 |[]=>rfl
 |p::l=>by
  show (vC l).length+1+1=(l.length+1)*2;rw[FB l];omega
theorem Tv (p:PV):∀l,vC (l++[p])=vC l++[.string p.1,p.2.1]
 |[]=>rfl
 |q::l=>by
  show Value.string q.1::q.2.1::vC (l++[p])=_;rw[Tv p l];rfl
theorem Tu:∀(l:List PV) (k:Nat) (h:k<l.length),(vC l)[k*2]'(by rw[FB];omega)=.string l[k].1/\(vC l)[k*2+1]'(by rw[FB];omega)=l[k].2.1
 |p::l,0,_=>⟨rfl,rfl⟩
 |p::l,k+1,h=>by
  obtain⟨h1,h2⟩:=Tu l k (by simpa using h);refine⟨?_,?_⟩
  ·simp only[show (k+1)*2=k*2+1+1 by omega];exact h1
  ·simp only[show (k+1)*2+1=k*2+1+1+1 by omega];exact h2
def uY (w:World) (B:Nat) (x:Value) (P:List PV):Prop:=w.ownsRow B 69 2 x P.length (vC P)/\∀p∈P,kq w B p.2.1 p.2.2
abbrev PL:Type:=Value×List Int
def vd (w:World) (B:Nat) (y:Value) (P:List PL):Prop:=w.ownsRow B 27 1 y P.length (P.map (·.1))/\∀p∈P,bA w B p.1 p.2
abbrev PR:Type:=Value×List Fr
def uZ (w:World) (B:Nat) (z:Value) (P:List PR):Prop:=w.ownsRow B 37 1 z P.length (P.map (·.1))/\∀p∈P,iT w B p.1 p.2
theorem uY.keep {B:Nat} {P:List PV} (h:uY w B x P) (h1:eI 69 w w') (h2:eI 9 w w'):uY w' B x P:=⟨mH h.1 h1,fun p hp=>mH (h.2 p hp) h2⟩
theorem vd.keep {B:Nat} {P:List PL} (h:vd w B x P) (h1:eI 27 w w') (h2:eI 3 w w'):vd w' B x P:=⟨mH h.1 h1,fun p hp=>mH (h.2 p hp) h2⟩
theorem uZ.keep {B:Nat} {P:List PR} (h:uZ w B x P) (h1:eI 37 w w') (h2:eI 32 w w'):uZ w' B x P:=⟨mH h.1 h1,fun p hp=>mH (h.2 p hp) h2⟩
theorem uY.nil (w:World) (B:Nat):uY w B (.slice none 0 0) []:=⟨⟨rfl,.inl ⟨rfl,rfl⟩⟩,fun p hp=>by cases hp⟩
theorem vd.nil (w:World) (B:Nat):vd w B (.slice none 0 0) []:=⟨⟨rfl,.inl ⟨rfl,rfl⟩⟩,fun p hp=>by cases hp⟩
theorem uZ.nil (w:World) (B:Nat):uZ w B (.slice none 0 0) []:=⟨⟨rfl,.inl ⟨rfl,rfl⟩⟩,fun p hp=>by cases hp⟩
theorem Tryz.infoInts:(Tryz.prog.info? 27).map (fun i=>(i.zero,i.size,i.bytes))=some (some (.slice none 0 0),1,24):=by kernel_rfl
theorem Tryz.infoFracs:(Tryz.prog.info? 37).map (fun i=>(i.zero,i.size,i.bytes))=some (some (.slice none 0 0),1,24):=by kernel_rfl
theorem Tryz.infoVar:(Tryz.prog.info? 69).map (fun i=>(i.zero,i.size,i.bytes))=some (some (.agg #[.string ⟨#[]⟩,.slice none 0 0]),2,40):=by kernel_rfl
theorem abL {o:Oper} {a:Act} {Q:Exit ->Act ->World ->Prop} (hgd:o.guard=none) (s x:Operand)
  (ho:o.op=.call {callee:=.builtin .append,args:= #[s,x],argTypes:= #[23,23]}) (base:Nat) (v:Value) (P:List PL) (q:Value) (hq:dh q) (hs:a.eval s=v) (hown:w.ownsRow base 27 1 v P.length (P.map (·.1))) (g:Nat) (hx:a.eval x=.slice (some ⟨g,0,none⟩) 1 1) (hg:w.cell? ⟨g,0,none⟩=some q) (hlen:P.length+1<=100000) (hbase:base<=w.heap.size)
  (h:∀v' w',w'.ownsRow base 27 1 v' (P.length+1) (P.map (·.1)++[q]) ->w.grownBy w' v.ownBlock ->wpList Tryz.prog ops Q rest (a.put o.dst v') w'):wpList Tryz.prog ops Q (o::rest) a w:=by
 obtain⟨i0,bY,hz0,hz1,hz2⟩:=dH Tryz.infoInts;refine AV _ hgd s x 23 ho base 27 i0 (.slice none 0 0) 1 24 Tryz.underlying23 bY hz0 hz1 hz2 rfl (by decide) v P.length _ hs hown ⟨g,0,none⟩ 1 1 [q] hx rfl ?_ ?_ (by unfold maxLen;omega) (by omega) hbase ?_
 ·intro j u hj;match j,hj with
  |0,hj=>cases hj;exact hg
  |j+1,hj=>simp at hj
 ·intro u hu;simp only[dG,kC,sF] at hu;subst hu;obtain⟨_,_,_,rfl⟩:=hq;rfl
 ·intro v' w' h1 h2 _;exact h v' w' h1 h2
theorem abJ {o:Oper} {a:Act} {Q:Exit ->Act ->World ->Prop} (hgd:o.guard=none) (s x:Operand)
  (ho:o.op=.call {callee:=.builtin .append,args:= #[s,x],argTypes:= #[24,24]}) (base:Nat) (v:Value) (P:List PR) (q:Value) (hq:dh q) (hs:a.eval s=v) (hown:w.ownsRow base 37 1 v P.length (P.map (·.1))) (g:Nat) (hx:a.eval x=.slice (some ⟨g,0,none⟩) 1 1) (hg:w.cell? ⟨g,0,none⟩=some q) (hlen:P.length+1<=100000) (hbase:base<=w.heap.size)
  (h:∀v' w',w'.ownsRow base 37 1 v' (P.length+1) (P.map (·.1)++[q]) ->w.grownBy w' v.ownBlock ->wpList Tryz.prog ops Q rest (a.put o.dst v') w'):wpList Tryz.prog ops Q (o::rest) a w:=by
 obtain⟨i0,bY,hz0,hz1,hz2⟩:=dH Tryz.infoFracs;refine AV _ hgd s x 24 ho base 37 i0 (.slice none 0 0) 1 24 Tryz.underlying24 bY hz0 hz1 hz2 rfl (by decide) v P.length _ hs hown ⟨g,0,none⟩ 1 1 [q] hx rfl ?_ ?_ (by unfold maxLen;omega) (by omega) hbase ?_
 ·intro j u hj;match j,hj with
  |0,hj=>cases hj;exact hg
  |j+1,hj=>simp at hj
 ·intro u hu;simp only[dG,kC,sF] at hu;subst hu;obtain⟨_,_,_,rfl⟩:=hq;rfl
 ·intro v' w' h1 h2 _;exact h v' w' h1 h2
theorem abE {o:Oper} {a:Act} {K:Act ->World ->Prop} {Q:Exit ->Act ->World ->Prop} (s x:Operand)
  (ho:o.op=.call {callee:=.builtin .append,args:= #[s,x],argTypes:= #[22,22]}) (base:Nat) (v:Value) (P:List PV) (nm:ByteArray) (q:Value) (hq:dh q) (hs:a.eval s=v) (hown:w.ownsRow base 69 2 v P.length (vC P)) (g:Nat) (hx:a.eval x=.slice (some ⟨g,0,none⟩) 1 1) (hg0:w.cell? ⟨g,0,none⟩=some (.string nm)) (hg1:w.cell? ⟨g,1,none⟩=some q) (hlen:P.length+1<=100000) (hbase:base<=w.heap.size)
  (h:∀v' w',w'.ownsRow base 69 2 v' (P.length+1) (vC P++[.string nm,q]) ->w.grownBy w' v.ownBlock ->K (a.put o.dst v') w'):o.wp Tryz.prog a w K Q:=by
 obtain⟨i0,bY,hz0,hz1,hz2⟩:=dH Tryz.infoVar;refine wp_append_own _ s x 22 ho base 69 i0 (.agg #[.string ⟨#[]⟩,.slice none 0 0]) 2 40 Tryz.underlying22 bY hz0 hz1 hz2 rfl (by decide) v P.length _ hs hown ⟨g,0,none⟩ 1 1 [.string nm,q] hx rfl ?_ ?_ (by unfold maxLen;omega) (by omega) hbase ?_
 ·intro j u hj;match j,hj with
  |0,hj=>cases hj;exact hg0
  |1,hj=>cases hj;exact hg1
  |j+2,hj=>simp at hj
 ·intro u hu;simp only[dG,kC,sF] at hu;rcases hu with rfl |rfl
  ·rfl
  ·obtain⟨_,_,_,rfl⟩:=hq;rfl
 ·intro v' w' h1 h2 _;exact h v' w' h1 h2
theorem Z0 (a:List Fr):∀l,iQ (l++a)=iQ l++iQ a
 |[]=>rfl
 |f::l=>by
  show Value.bool f.1::Value.string f.2.1::Value.string f.2.2::iQ (l++a)=_;rw[Z0 a l];rfl
theorem ZZ {o:Nat}:∀ {l:List Fr},dA w (some ⟨g,o,none⟩) l ->∀j u,(iQ l)[j]? =some u ->w.cell? ((⟨g,o,none⟩:Addr).add j)=some u/\u.oneCell'=true:=by
 intro l h j u hj;have nG:j<(iQ l).length:=(nY.1 hj).1;rw[Lt] at nG;have hk:j/3<l.length:=by omega
 obtain⟨g',o',e,_,h0,h1,h2⟩:=h (j/3) hk;cases e
 have hadd:(⟨g,o,none⟩:Addr).add j=⟨g,o+j,none⟩:=by
  rw[Addr.add];by_cases h0:j=0
  ·subst h0;simp
  ·simp[h0]
 have PM:=Lu l (j/3) hk;rw[hadd];have hm:j % 3=0∨j % 3=1∨j % 3=2:=by omega
 rcases hm with hm |hm |hm
 ·have e:j=j/3*3:=by omega
  rw[e] at hj⊢;rw[PM.1] at hj;cases hj;exact⟨h0,rfl⟩
 ·have e:j=j/3*3+1:=by omega
  rw[e] at hj⊢;rw[PM.2.1] at hj;cases hj;exact⟨by rw[<- zk];exact h1,rfl⟩
 ·have e:j=j/3*3+2:=by omega
  rw[e] at hj⊢;rw[PM.2.2] at hj;cases hj;exact⟨by rw[<- zk];exact h2,rfl⟩
theorem abN {o:Oper} {a:Act} {Q:Exit ->Act ->World ->Prop} (hgd:o.guard=none) (s x:Operand)
  (ho:o.op=.call {callee:=.builtin .append,args:= #[s,x],argTypes:= #[37,37]}) (base:Nat) (v:Value) (l la:List Fr) (hs:a.eval s=v) (hown:iT w base v l) (g og ca:Nat) (hx:a.eval x=.slice (some ⟨g,og,none⟩) la.length ca) (hf:dA w (some ⟨g,og,none⟩) la) (hlen:l.length+la.length<=100000) (hbase:base<=w.heap.size)
  (h:∀v' w',iT w' base v' (l++la) ->w.grownBy w' v.ownBlock ->wpList Tryz.prog ops Q rest (a.put o.dst v') w'):wpList Tryz.prog ops Q (o::rest) a w:=by
 obtain⟨i0,bY,hz0,hz1,hz2⟩:=dH Tryz.infoFrac;refine AV _ hgd s x 37 ho base 32 i0 (.agg #[.bool false,.string ⟨#[]⟩,.string ⟨#[]⟩]) 3 40 Tryz.underlying37 bY hz0 hz1 hz2 rfl (by decide) v l.length _ hs hown ⟨g,og,none⟩ la.length ca (iQ la) hx (by rw[Lt];omega) (fun j u hj=>(ZZ hf j u hj).1) (fun u hu=>?_) (by unfold maxLen;omega) (by omega) hbase ?_
 ·obtain⟨j,hj,rfl⟩:=iZ hu;exact(ZZ hf j _ (a8 hj)).2
 ·intro v' w' h1 h2 _;refine h v' w' ?_ h2;rw[iT,cK,Z0];exact h1
variable {bk:Bool} {Ls:List PL} {Rs:List PR} {Vs:List PV} {e v':Value} {W':World}
structure MS (w W:World) (s e t:Value) (bk:Bool) (x y z:Value) (Vs:List PV) (Ls:List PL) (Rs:List PR):Prop where
 rb:W.heap[w.heap.size]? =some (.cells #[s,e,t,.bool bk] 48 (0,0))
 res:cR W (w.heap.size+1) (.slice none 0 0) (.slice none 0 0) (.slice none 0 0)
 box:cR W (w.heap.size+2) x y z
 vs:uY W w.heap.size x Vs
 ls:vd W w.heap.size y Ls
 rs:uZ W w.heap.size z Rs
 bel:Below w.heap.size w W
theorem MS.step {W:World} {s t:Value} (h:MS w W s e t bk x y z Vs Ls Rs) (hb:Below W.heap.size W W'):MS w W' s e t bk x y z Vs Ls Rs:=
 ⟨(hb.block _ (dm.1 h.rb).1).trans h.rb,h.res.aa hb h.res.lt,h.box.aa hb h.box.lt,h.vs.keep (.aa hb) (.aa hb),h.ls.keep (.aa hb) (.aa hb),h.rs.keep (.aa hb) (.aa hb),h.bel.trans (hb.af h.bel.size)⟩
theorem MS.cells {W:World} {s t:Value} (h:MS w W s e t bk x y z Vs Ls Rs):W.cell? ⟨w.heap.size,0,none⟩=some s/\W.cell? ⟨w.heap.size,1,none⟩=some e/\W.cell? ⟨w.heap.size,2,none⟩=some t/\W.cell? ⟨w.heap.size,3,none⟩=some (.bool bk):=by
 refine⟨?_,?_,?_,?_⟩<;>(rw[bX W w.heap.size _ _ _ (0,0) h.rb];rfl)
theorem MS.lt {W:World} {s t:Value} (h:MS w W s e t bk x y z Vs Ls Rs):w.heap.size+2<W.heap.size:=h.box.lt
theorem QP {W:World} {v:Value} {tt:TypeId} {Nk:Nat} (hb:Below w.heap.size w W) (ho:W.ownsRow w.heap.size tt Nk v n xs) (hg:W.grownBy W' v.ownBlock):Below w.heap.size w W':=hb.grown hg hb.size (fun k e=>Kk ho k e)
theorem cR.set0 {W:World} (h:cR W g x y z) (v:Value):cR (W.setCell ⟨g,0,none⟩ v) g v y z:=jY W g 0 _ _ v h
theorem cR.set1 {W:World} (h:cR W g x y z) (v:Value):cR (W.setCell ⟨g,1,none⟩ v) g x v z:=jY W g 1 _ _ v h
theorem cR.set2 {W:World} (h:cR W g x y z) (v:Value):cR (W.setCell ⟨g,2,none⟩ v) g x y v:=jY W g 2 _ _ v h
theorem MS.pushV {W:World} {s t:Value} (h:MS w W s e t bk x y z Vs Ls Rs) {nm:ByteArray} {q:Value} {l:List ByteArray} (hr:W'.ownsRow w.heap.size 69 2 v' (Vs.length+1) (vC Vs++[.string nm,q])) (hg:W.grownBy W' x.ownBlock) (hq:kq W w.heap.size q l):
  cR W' (w.heap.size+2) x y z/\MS w (W'.setCell ⟨w.heap.size+2,0,none⟩ v') s e t bk v' y z (Vs++[(nm,q,l)]) Ls Rs:=by
 have kk:∀tt:TypeId,tt≠69 ->eI tt W W':=fun tt hne=>eI.grown hg (Kj h.vs.1) hne;have uC:cR W' (w.heap.size+2) x y z:=kk 26 (by decide) _ _ _ h.box;have ks:∀tt:TypeId,tt≠26 ->eI tt W' (W'.setCell ⟨w.heap.size+2,0,none⟩ v'):=fun tt hne=>eI.set uC hne 0 v';refine⟨uC,?_,?_,uC.set0 v',⟨?_,?_⟩,?_,?_,?_⟩
 ·exact ks 48 (by decide) _ _ _ (kk 48 (by decide) _ _ _ h.rb)
 ·exact(jq W' ⟨w.heap.size+2,0,none⟩ v' (w.heap.size+1) (by show w.heap.size+1≠w.heap.size+2;omega)).trans (kk 26 (by decide) _ _ _ h.res)
 ·rw[Tv,cK];exact mH hr (ks 69 (by decide))
 ·intro p hp;have hk:=(kk 9 (by decide)).trans (ks 9 (by decide));rcases cI.1 hp with hp |hp
  ·exact mH (h.vs.2 p hp) hk
  ·rw[eD.1 hp];exact mH hq hk
 ·exact h.ls.keep ((kk _ (by decide)).trans (ks _ (by decide))) ((kk _ (by decide)).trans (ks _ (by decide)))
 ·exact h.rs.keep ((kk _ (by decide)).trans (ks _ (by decide))) ((kk _ (by decide)).trans (ks _ (by decide)))
 ·exact(QP h.bel h.vs.1 hg).setCell (p:=⟨w.heap.size+2,0,none⟩) (by show w.heap.size<=w.heap.size+2;omega) _
theorem MS.pushL {W:World} {s t:Value} (h:MS w W s e t bk x y z Vs Ls Rs) {q:Value} (hr:W'.ownsRow w.heap.size 27 1 v' (Ls.length+1) (Ls.map (·.1)++[q])) (hg:W.grownBy W' y.ownBlock) (hq:bA W w.heap.size q l):
  cR W' (w.heap.size+2) x y z/\MS w (W'.setCell ⟨w.heap.size+2,1,none⟩ v') s e t bk x v' z Vs (Ls++[(q,l)]) Rs:=by
 have kk:∀tt:TypeId,tt≠27 ->eI tt W W':=fun tt hne=>eI.grown hg (Kj h.ls.1) hne;have uC:cR W' (w.heap.size+2) x y z:=kk 26 (by decide) _ _ _ h.box;have ks:∀tt:TypeId,tt≠26 ->eI tt W' (W'.setCell ⟨w.heap.size+2,1,none⟩ v'):=fun tt hne=>eI.set uC hne 1 v';refine⟨uC,?_,?_,uC.set1 v',?_,⟨?_,?_⟩,?_,?_⟩
 ·exact ks 48 (by decide) _ _ _ (kk 48 (by decide) _ _ _ h.rb)
 ·exact(jq W' ⟨w.heap.size+2,1,none⟩ v' (w.heap.size+1) (by show w.heap.size+1≠w.heap.size+2;omega)).trans (kk 26 (by decide) _ _ _ h.res)
 ·exact h.vs.keep ((kk _ (by decide)).trans (ks _ (by decide))) ((kk _ (by decide)).trans (ks _ (by decide)))
 ·rw[dL,cK];exact mH hr (ks 27 (by decide))
 ·intro p hp;have hk:=(kk 3 (by decide)).trans (ks 3 (by decide));rcases cI.1 hp with hp |hp
  ·exact mH (h.ls.2 p hp) hk
  ·rw[eD.1 hp];exact mH hq hk
 ·exact h.rs.keep ((kk _ (by decide)).trans (ks _ (by decide))) ((kk _ (by decide)).trans (ks _ (by decide)))
 ·exact(QP h.bel h.ls.1 hg).setCell (p:=⟨w.heap.size+2,1,none⟩) (by show w.heap.size<=w.heap.size+2;omega) _
theorem MS.pushR {W:World} {s t:Value} (h:MS w W s e t bk x y z Vs Ls Rs) {q:Value} {l:List Fr} (hr:W'.ownsRow w.heap.size 37 1 v' (Rs.length+1) (Rs.map (·.1)++[q])) (hg:W.grownBy W' z.ownBlock) (hq:iT W w.heap.size q l):
  cR W' (w.heap.size+2) x y z/\MS w (W'.setCell ⟨w.heap.size+2,2,none⟩ v') s e t bk x y v' Vs Ls (Rs++[(q,l)]):=by
 have kk:∀tt:TypeId,tt≠37 ->eI tt W W':=fun tt hne=>eI.grown hg (Kj h.rs.1) hne;have uC:cR W' (w.heap.size+2) x y z:=kk 26 (by decide) _ _ _ h.box;have ks:∀tt:TypeId,tt≠26 ->eI tt W' (W'.setCell ⟨w.heap.size+2,2,none⟩ v'):=fun tt hne=>eI.set uC hne 2 v';refine⟨uC,?_,?_,uC.set2 v',?_,?_,⟨?_,?_⟩,?_⟩
 ·exact ks 48 (by decide) _ _ _ (kk 48 (by decide) _ _ _ h.rb)
 ·exact(jq W' ⟨w.heap.size+2,2,none⟩ v' (w.heap.size+1) (by show w.heap.size+1≠w.heap.size+2;omega)).trans (kk 26 (by decide) _ _ _ h.res)
 ·exact h.vs.keep ((kk _ (by decide)).trans (ks _ (by decide))) ((kk _ (by decide)).trans (ks _ (by decide)))
 ·exact h.ls.keep ((kk _ (by decide)).trans (ks _ (by decide))) ((kk _ (by decide)).trans (ks _ (by decide)))
 ·rw[dL,cK];exact mH hr (ks 37 (by decide))
 ·intro p hp;have hk:=(kk 32 (by decide)).trans (ks 32 (by decide));rcases cI.1 hp with hp |hp
  ·exact mH (h.rs.2 p hp) hk
  ·rw[eD.1 hp];exact mH hq hk
 ·exact(QP h.bel h.rs.1 hg).setCell (p:=⟨w.heap.size+2,2,none⟩) (by show w.heap.size<=w.heap.size+2;omega) _
structure VK (v:Nat) (Vs:List PV):Prop where
 len:Vs.length=v
 each:∀j (h:j<Vs.length),Vs[j].1=iy 110 j/\∃k,1<=k/\k<=3/\Vs[j].2.2=qf k
theorem VK.snoc (h:VK v Vs) (q:Value) (h1:1<=k) (h3:k<=3):VK (v+1) (Vs++[(iy 110 v,q,qf k)]):=by
 refine⟨by simp[h.len],fun j hj=>?_⟩;rcases cT j Vs.length with hlt |hge
 ·rw[nX hlt];exact h.each j hlt
 ·rw[ru hge];have e:j=v:=by simp at hj;have:=h.len;omega
  subst e;simp[h.len];exact⟨k,h1,h3,rfl⟩
def fh (Vs:List PV):List Vr:=Vs.map fun p=>(p.1,p.2.2)
def fS (Ls:List PL):List (List Int):=Ls.map (·.2)
def l5 (Rs:List PR):List (List Fr):=Rs.map (·.2)
structure LS (bk:Bool) (n j:Nat) (l:List Int):Prop where
 up:Up l n
 few:l.length<=3
 rank:∀x∈l,if bk=true then(j:Int)<x else x<(j:Int)
structure RG (S:List Nat) (j:Nat) (l:List Int) (r:List Fr):Prop where
 len:r.length=cnt S (ag l)*sz S j
 rows:∀i,i<cnt S (ag l) ->jH (eQ r (sz S j) i)=true
 small:∀f∈r,f.2.1.size+f.2.2.size<=2
structure yG (bk:Bool) (n v:Nat) (S:List Nat) (Ls:List PL) (Rs:List PR):Prop where
 len:Ls.length=v
 lenR:Rs.length=v
 pars:∀j (h:j<Ls.length),LS bk n j Ls[j].2
 rows:∀j (h:j<Ls.length) (h':j<Rs.length),RG S j Ls[j].2 Rs[j].2
theorem yG.snoc (h:yG bk n v S Ls Rs) {q q':Value} {r:List Fr} (h1:LS bk n v l) (h2:RG S v l r):yG bk n (v+1) S (Ls++[(q,l)]) (Rs++[(q',r)]):=by
 refine⟨by simp[h.len],by simp[h.lenR],fun j hj=>?_,fun j hj hj'=>?_⟩
 ·rcases cT j Ls.length with hlt |hge
  ·rw[nX hlt];exact h.pars j hlt
  ·rw[ru hge];(have e:j=v:=by simp at hj;have:=h.len;omega);subst e;simpa [h.len] using h1
 ·rcases cT j Ls.length with hlt |hge
  ·have ux:j<Rs.length:=by have:=h.len;have:=h.lenR;omega
   rw[nX hlt,nX ux];exact h.rows j hlt ux
  ·have ahF:Rs.length<=j:=by have:=h.len;have:=h.lenR;omega
   rw[ru hge,ru ahF];(have e:j=v:=by simp at hj;have:=h.len;omega);subst e;simpa [h.len,h.lenR] using h2
structure PP (bk:Bool) (n v u:Nat) (l:List Int):Prop where
 ok:LS bk n v l
 lt:∀x∈l,x<(u:Int)
theorem PP.nil (bk:Bool) (n v:Nat):PP bk n v 0 []:=⟨⟨gj.2 ⟨fun x hx=>(kC hx).elim,List.Pairwise.nil⟩,by simp,fun x hx=>(kC hx).elim⟩,fun x hx=>(kC hx).elim⟩
theorem PP.skip (h:PP bk n v u l):PP bk n v (u+1) l:=⟨h.ok,fun x hx=>by have:=h.lt x hx;omega⟩
theorem PP.snoc (h:PP bk n v u l) (hu:u<n) (h3:l.length≠3) (hr:if bk=true then v<u else u<v):PP bk n v (u+1) (l++[(u:Int)]):=by
 refine⟨⟨gj.2 ⟨fun x hx=>?_,?_⟩,?_,fun x hx=>?_⟩,fun x hx=>?_⟩
 ·rcases cI.1 hx with hx |hx
  ·exact(gj.1 h.ok.up).1 x hx
  ·rw[eD.1 hx];omega
 ·rw[List.pairwise_append];refine⟨(gj.1 h.ok.up).2,List.pairwise_singleton _ _,fun x hx y hy=>?_⟩;rw[eD.1 hy];exact h.lt x hx
 ·have:=h.ok.few;simp;omega
 ·rcases cI.1 hx with hx |hx
  ·exact h.ok.rank x hx
  ·rw[eD.1 hx];cases bk
   ·simp at hr⊢;exact hr
   ·simp at hr⊢;exact hr
 ·rcases cI.1 hx with hx |hx
  ·have:=h.lt x hx;omega
  ·rw[eD.1 hx];omega
structure RP (s k:Nat) (r:List Fr):Prop where
 len:r.length=k*s
 rows:∀i,i< k ->jH (eQ r s i)=true
 small:∀f∈r,f.2.1.size+f.2.2.size<=2
theorem RP.nil (s:Nat):RP s 0 []:=⟨by simp,fun i hi=>by omega,fun f hf=>by cases hf⟩
theorem RP.snoc {s:Nat} {r l:List Fr} (h:RP s k r) (hl:l.length=s) (hrow:jH l=true) (hsm:∀f∈l,f.2.1.size+f.2.2.size<=2):RP s (k+1) (r++l):=by
 refine⟨by rw[cK,h.len,hl,eL,jF],fun i hi=>?_,fun f hf=>?_⟩
 ·have hm:i*s+s<=k*s∨i=k:=by
   rcases cT i k with h1 |h1
   ·left
    have:=jl s h1;rw[Nat.succ_mul] at this;exact this
   ·right;omega
  rcases hm with hm |rfl
  ·have hik:i<k:=by
    rcases cT i k with h1 |h1
    ·exact h1
    ·have h2:=jl s h1;by_cases hs0:s=0
     ·subst hs0;have:l=[]:=Db.1 hl;subst this;exact absurd hrow (by decide)
     ·omega
   have e:eQ (r++l) s i=eQ r s i:=by
    rw[eQ,eQ,List.drop_append_of_le_length (by rw[h.len];omega),Ta (by rw[lU,h.len];omega)]
   rw[e];exact h.rows i hik
  ·have e:eQ (r++l) s i=l:=by
    rw[eQ, <- h.len,List.drop_left, <- hl,gX]
   rw[e];exact hrow
 ·rcases cI.1 hf with hf |hf
  ·exact h.small f hf
  ·exact hsm f hf
theorem uY.vars {W:World} {B:Nat} (h:uY W B x Vs):∃a c,x=.slice a (fh Vs).length c/\rY W a (fh Vs):=by
 have hl:(fh Vs).length=Vs.length:=by simp[fh]
 obtain⟨a,c,rfl,_⟩:=mG h.1;refine⟨a,c,by rw[hl],fun k hk=>?_⟩;rw[hl] at hk;obtain⟨e1,e2⟩:=Tu Vs k hk;obtain⟨g,rfl,hg,c1⟩:=Kl h.1 (j:=k*2) (by rw[FB];omega);obtain⟨g',e,_,c2⟩:=Kl h.1 (j:=k*2+1) (by rw[FB];omega);cases e;rw[e1] at c1;rw[e2] at c2;have hin:=h.2 Vs[k] (bM hk);obtain⟨b,cb,eb,hst⟩:=hin.st
 have qC:Vs[k].2.2.length<=cb:=by
  rcases hin.2 with ⟨h1,h2⟩ |⟨g2,cap,cur,h1,_,_,h4,_⟩
  ·omega
  ·rw[eb] at h1;injection h1 with _ _ h6;omega
 refine⟨g,0,b,cb,rfl,hg,?_,?_,?_,?_⟩
 ·rw[bD,c1];simp[fh]
 ·rw[bD,c2,eb];simp[fh]
 ·simpa [fh] using hst
 ·simpa [fh] using qC
theorem vd.pars {W:World} {B:Nat} (h:vd W B y Ls):∃a c,y=.slice a (fS Ls).length c/\fC W a (fS Ls)/\tC W a (fS Ls):=by
 have hl:(fS Ls).length=Ls.length:=by simp[fS]
 obtain⟨a,c,rfl,_⟩:=mG h.1
 have key:∀k (hk:k<Ls.length),∃g,a=some ⟨g,0,none⟩/\g<W.heap.size/\∃b cb,W.cell? ⟨g,k,none⟩=some (.slice b Ls[k].2.length cb)/\aC W b Ls[k].2/\(b=none ->cb=0):=fun k hk=>by
  obtain⟨g,rfl,hg,c1⟩:=Kl h.1 (j:=k) (by simpa using hk);have hin:=h.2 Ls[k] (bM hk);obtain⟨b,cb,eb,hn⟩:=mG hin;obtain⟨b',eX,eb',hst⟩:=hin.ints;rw[eb] at eb';cases eb';refine⟨g,rfl,hg,b,cb,?_,hst,hn⟩;rw[c1];simp[eb]
 refine⟨a,c,by rw[hl],fun k hk=>?_,fun k hk g o b n' c' ea hc hn=>?_⟩
 ·rw[hl] at hk;obtain⟨g,rfl,hg,b,cb,c1,hst,_⟩:=key k hk;exact⟨g,0,b,cb,rfl,hg,by rw[bD,c1];simp[fS],by simpa [fS] using hst⟩
 ·rw[hl] at hk;obtain⟨g',e',_,b',eX,c1,_,h0⟩:=key k hk;rw[ea] at e';cases e';rw[bD,c1] at hc;cases hc;exact h0 hn
theorem uZ.rows {W:World} {B:Nat} (h:uZ W B z Rs):∃a c,z=.slice a (l5 Rs).length c/\Jd W a (l5 Rs):=by
 have hl:(l5 Rs).length=Rs.length:=by simp[l5]
 obtain⟨a,c,rfl,_⟩:=mG h.1;refine⟨a,c,by rw[hl],fun k hk=>?_⟩;rw[hl] at hk;obtain⟨g,rfl,hg,c1⟩:=Kl h.1 (j:=k) (by simpa using hk);have hin:=h.2 Rs[k] (bM hk);obtain⟨b,cb,eb,hst⟩:=hin.fr
 have qC:Rs[k].2.length<=cb:=by
  rcases hin.2 with ⟨h1,h2⟩ |⟨g2,cap,cur,h1,_,_,h4,_⟩
  ·omega
  ·rw[eb] at h1;injection h1 with _ _ h6;omega
 exact⟨g,0,b,cb,rfl,hg,by rw[bD,c1];simp[l5,eb],by simpa [l5] using hst,by simpa [l5] using qC⟩
theorem Vf {W:World} {u:Value} {tt:TypeId} {Nk n0:Nat} (ho:W.ownsRow w.heap.size tt Nk u n0 xs) (hg:W.grownBy W' u.ownBlock) (hb:cR W' (w.heap.size+2) x y z) (t0:TypeId) (h1:t0≠tt) (h2:t0≠26):eI t0 W (W'.setCell ⟨w.heap.size+2,j,none⟩ v'):=
 (eI.grown hg (Kj ho) h1).trans (eI.set hb h2 j v')
structure SK (n:Nat) (S:List Nat):Prop where
 len:S.length=n
 each:∀x∈S,1<=x/\x<=3
theorem VK.sizes (h:VK n Vs):SK n (ar (fh Vs)):=by
 refine⟨by simp[ar,fh,h.len],fun x hx=>?_⟩;obtain⟨p,hp,rfl⟩:=aW.1 hx;obtain⟨q,hq,rfl⟩:=aW.1 hp;obtain⟨j,hj,rfl⟩:=iZ hq;obtain⟨_,k,h1,h3,e⟩:=h.each j hj;show 1<=Vs[j].2.2.length/\Vs[j].2.2.length<=3;rw[e,JL];exact⟨h1,h3⟩
theorem SK.fine (h:SK n S) (h1:1<=n) (h8:n<=8):dZ (iL S):=by
 have hl:=h.len;refine⟨by rw[bs];omega,by rw[bs];omega,fun v hv=>?_⟩;have hv':v<S.length:=by rw[bs] at hv;exact hv
 have e:(iL S)[v]=((S[v]'hv':Nat):Int):=by simp[iL]
 have:=h.each _ (bM hv');rw[e];omega
theorem SK.sz (h:SK n S) (u:Nat):1<=sz S u/\sz S u<=3:=by
 rw[Go.Proofs.YtfgkjjlocjmfeaaGreatDoor.sz];cases e:S[u]? with
 |none=>exact⟨by decide,by decide⟩
 |some x=>exact h.each x (MP e)
theorem aaB (h:SK n S) {l:List Nat} (hl:l.length<=3):1<=cnt S l/\cnt S l<=27:=by
 have h1:=LL (S:=S) (fun v=>(h.sz v).2) l;have h2:3^l.length<=3^3:=iX (by omega) hl
 have h3:∀l:List Nat,1<=cnt S l:=fun l=>by
  induction l with
  |nil=>exact aq _
  |cons v l ih=>exact Nat.mul_pos (h.sz v).1 ih
 exact⟨h3 l,by omega⟩
theorem MS.out3 {W:World} {s t:Value} (h:MS w W s e t bk x y z Vs Ls Rs):
  cR (((W.setCell ⟨w.heap.size+1,0,none⟩ x).setCell ⟨w.heap.size+1,1,none⟩ y).setCell ⟨w.heap.size+1,2,none⟩ z) (w.heap.size+1) x y z/\uY (((W.setCell ⟨w.heap.size+1,0,none⟩ x).setCell ⟨w.heap.size+1,1,none⟩ y).setCell ⟨w.heap.size+1,2,none⟩ z) w.heap.size x Vs/\vd (((W.setCell ⟨w.heap.size+1,0,none⟩ x).setCell ⟨w.heap.size+1,1,none⟩ y).setCell ⟨w.heap.size+1,2,none⟩ z) w.heap.size y Ls/\uZ (((W.setCell ⟨w.heap.size+1,0,none⟩ x).setCell ⟨w.heap.size+1,1,none⟩ y).setCell ⟨w.heap.size+1,2,none⟩ z) w.heap.size z Rs/\Below w.heap.size w (((W.setCell ⟨w.heap.size+1,0,none⟩ x).setCell ⟨w.heap.size+1,1,none⟩ y).setCell ⟨w.heap.size+1,2,none⟩ z):=by
 have n0:=h.res.set0 x;have n1:=n0.set1 y;have n2:=n1.set2 z;have ks:∀tt:TypeId,tt≠26 ->eI tt W (((W.setCell ⟨w.heap.size+1,0,none⟩ x).setCell ⟨w.heap.size+1,1,none⟩ y).setCell ⟨w.heap.size+1,2,none⟩ z):=fun tt hne=>((eI.set h.res hne 0 x).trans (eI.set n0 hne 1 y)).trans (eI.set n1 hne 2 z);refine⟨n2,h.vs.keep (ks _ (by decide)) (ks _ (by decide)),h.ls.keep (ks _ (by decide)) (ks _ (by decide)),h.rs.keep (ks _ (by decide)) (ks _ (by decide)),?_⟩;exact((h.bel.setCell (p:=⟨w.heap.size+1,0,none⟩) (by show w.heap.size<=w.heap.size+1;omega) _).setCell (p:=⟨w.heap.size+1,1,none⟩) (by show w.heap.size<=w.heap.size+1;omega) _).setCell (p:=⟨w.heap.size+1,2,none⟩) (by show w.heap.size<=w.heap.size+1;omega) _
def KG (p:Nat):Nat:=[2,2,3,2,1].getD p 2
theorem agJ (p:Nat):1<=KG p/\KG p<=3:=by
 match p with
 |0=>decide
 |1=>decide
 |2=>decide
 |3=>decide
 |4=>decide
 |p+5=>exact⟨by show 1<=2;omega,by show 2<=3;omega⟩
theorem aiT (W:World) {p:Nat} (hp:p<5):(W.alloc (.cells #[.int .i64 2,.int .i64 2,.int .i64 3,.int .i64 2,.int .i64 1] 3)).cell? ⟨W.heap.size,p,none⟩=some (.int .i64 (KG p:Nat)):=by
 rw[bX _ _ _ _ _ (0,0) (im W _)];match p,hp with
 |0,_=>rfl
 |1,_=>rfl
 |2,_=>rfl
 |3,_=>rfl
 |4,_=>rfl
def akS (w:World) (e:Ending) (w':World):Prop:=∃(bk:Bool) (n:Nat) (x y z:Value) (Vs:List PV) (Ls:List PL) (Rs:List PR),e=.returned (.agg #[x,y,z])/\(1<=n/\n<=6)/\VK n Vs/\yG bk n n (ar (fh Vs)) Ls Rs/\uY w' w.heap.size x Vs/\vd w' w.heap.size y Ls/\uZ w' w.heap.size z Rs/\Below w.heap.size w w'
def tB (l:List Int):Prop:=l.length<=140737488355328/\∀x∈l, -9223372036854775808<=x/\x<=9223372036854775807
theorem agu (a1 a2 a3:Option Addr) (c1 c2 c3:Nat) (L1 L2 L3:List Int) (bk:Bool) (w:World) (h1:aC w a1 L1) (h2:aC w a2 L2) (h3:aC w a3 L3) (r1:tB L1) (r2:tB L2) (r3:tB L3):
  Calls Tryz.prog 17 #[.agg #[.slice a1 L1.length c1,.slice a2 L2.length c2,.slice a3 L3.length c3,.bool bk]] w fun e w'=>akS w e w':=by
 have mA:=hid h1;have y4:=hid h2;have nT:=hid h3;have qX:=hid r1.2;have eJ:=hid r2.2;have kV:=hid r3.2;have kL:=r1.1;have hl2:=r2.1;have hl3:=r3.1;have RV:=hid (fun (i:Nat) (hi:i<=1000) (U:World)=>U3 i U hi);have qW:=hid (fun (i:Nat) (hi:i<=1000) (U:World)=>UW i U hi);have xu:=hid (fun (k:Nat) (hk:k<=3) (U:World)=>aj9 k U hk);have EM:=hid (fun (c:Int) (h: -9223372036854775808<=c/\c<=9223372036854775807) (U:World)=>J6 c 5 U h.1 h.2 (by omega) (by omega));have II:=hid (fun (k:Nat) (hk:k<=100000) (n:Nat) (h1:1<=n) (h3':n<=3) (U:World) (hU:aC U a3 L3)=>adv a3 c3 k n L3 U hU r3.2 hk h1 (by omega) r3.1);have HP2:=hid (fun (c:Int) (h: -9223372036854775808<=c/\c<=9223372036854775807) (U:World)=>J6 c 2 U h.1 h.2 (by omega) (by omega));clear h1 h2 h3 r1 r2 r3;have Pm:((w.alloc (.cells #[.slice a1 L1.length c1,.slice a2 L2.length c2,.slice a3 L3.length c3,.bool bk] 48)).alloc (NC (.slice none 0 0) (.slice none 0 0) (.slice none 0 0))).heap[w.heap.size]? =some (.cells #[.slice a1 L1.length c1,.slice a2 L2.length c2,.slice a3 L3.length c3,.bool bk] 48 (0,0)):=(rB _ _ _ (by simp)).trans (im w _);have hc0:((w.alloc (.cells #[.slice a1 L1.length c1,.slice a2 L2.length c2,.slice a3 L3.length c3,.bool bk] 48)).alloc (NC (.slice none 0 0) (.slice none 0 0) (.slice none 0 0))).cell? ⟨w.heap.size,0,none⟩=some (.slice a1 L1.length c1):=by rw[bX _ _ _ _ _ (0,0) Pm];rfl
 have HM0:Hid (MS w (((w.alloc (.cells #[.slice a1 L1.length c1,.slice a2 L2.length c2,.slice a3 L3.length c3,.bool bk] 48)).alloc (NC (.slice none 0 0) (.slice none 0 0) (.slice none 0 0))).alloc (NC (.slice none 0 0) (.slice none 0 0) (.slice none 0 0))) (.slice a1 L1.length c1) (.slice a2 L2.length c2) (.slice a3 L3.length c3) bk (.slice none 0 0) (.slice none 0 0) (.slice none 0 0) [] [] []):=⟨(rB _ _ _ (by simp;omega)).trans Pm,(cR.at (by simp) _ _ _).aa ((au _ _).alloc (aq _) _) (by simp),cR.at (by simp) _ _ _,uY.nil _ _,vd.nil _ _,uZ.nil _ _,(((au _ w).alloc (aq _) _).alloc (by simp) _).alloc (by simp;omega) _⟩;clear Pm;go_enter Tryz.func17,Tryz.ntmps17;go_upto_if 23 with fail
 clear hc0;generalize hW0:((w.alloc (.cells #[.slice a1 L1.length c1,.slice a2 L2.length c2,.slice a3 L3.length c3,.bool bk] 48)).alloc (NC (.slice none 0 0) (.slice none 0 0) (.slice none 0 0)))=W0 at *;go_cut [3] from 19 to 25 (fun s wx=>∃n:Nat,s=.int .i64 (n:Nat)/\1<=n/\n<=140737488355328/\wx=W0)
 case first=>
  by_cases hl:L1.length<1
  ·have hl':(L1.length:Int)<1:=by omega
   go_wp2_with fail
   go_meet
   exact⟨1,rfl,by omega,by omega,rfl⟩
  ·have hl':(1:Int)<=(L1.length:Int):=by omega
   go_wp2_with fail
   go_meet
   exact⟨L1.length,rfl,by omega,by omega,rfl⟩
 case rest=>
 obtain⟨n0,rfl,ahq,ahp,hcw⟩:=hcut;rw[hcw];clear hcw;go_upto_if 25 with fail
 go_cut [3] from 19 to 25 (fun s wx=>∃n:Nat,s=.int .i64 (n:Nat)/\1<=n/\n<=6/\wx=W0)
 case first=>
  by_cases hl:6<n0
  ·have hl':(6:Int)<(n0:Int):=by omega
   go_wp2_with fail
   go_meet
   exact⟨6,rfl,by omega,by omega,rfl⟩
  ·have hl':(n0:Int)<=6:=by omega
   go_wp2_with fail
   go_meet
   exact⟨n0,rfl,by omega,by omega,rfl⟩
 case rest=>
 obtain⟨n,rfl,dW,wG,hcw⟩:=hcut;rw[hcw];clear hcw ahq ahp;have ah1:W0.heap.size=w.heap.size+2:=by rw[<- hW0];simp
 clear hW0;go_upto_region 7 with fail
 generalize (W0.alloc (NC (.slice none 0 0) (.slice none 0 0) (.slice none 0 0)))=W1 at *;clear ah1;go_wp2_with fail
 go_loopw [5] (fun iv wr=>∃(v:Nat) (x:Value) (Vs:List PV),v<=n/\iv=.int .i64 v/\Hid (VK v Vs)/\Hid (MS w wr (.slice a1 L1.length c1) (.slice a2 L2.length c2) (.slice a3 L3.length c3) bk x (.slice none 0 0) (.slice none 0 0) Vs [] [])) (fun iv _=>n - (intOf iv).toNat)
 case atStart=>exact⟨0,_,[],aU _,rfl,⟨rfl,fun j hj=>absurd hj (by simp)⟩,HM0⟩
 case round=>
  obtain⟨v,x,Vs,hv,rfl,Iz,iI⟩:=hrel;clear HM0;by_cases hlt:v<n
  ·obtain⟨d0, -, -, -⟩:=iI.o.cells;go_upto_if 36 with fail
   clear d0;go_cut [6] from 27 to 58 (fun s wx=>∃k:Nat,s=.int .i64 (k:Nat)/\1<=k/\k<=3/\Hid (MS w wx (.slice a1 L1.length c1) (.slice a2 L2.length c2) (.slice a3 L3.length c3) bk x (.slice none 0 0) (.slice none 0 0) Vs [] []))
   case first=>
    by_cases ie:v<L1.length
    ·have ag7:(v:Int)<(L1.length:Int):=by omega
     have bc:Below wr.heap.size wr (wr.alloc (.cells #[.int .i64 2,.int .i64 2,.int .i64 3,.int .i64 2,.int .i64 1] 3)):=(au _ wr).alloc (aq _) _;have yu:=iI.o.step bc;obtain⟨d0, -, -, -⟩:=yu.cells;obtain⟨g',o',rfl,iO,cs⟩:=(mA.o.aa yu.bel) v ie;have vt:=hid (fun U=>EM.o L1[v] (qX.o _ (bM ie)) U);have hp5:=Kc L1[v] (n:=5) (by omega);have h5:=aiT wr hp5;have Yp:=agJ (sO L1[v] 5);generalize L1[v]=lv at *;generalize sO lv 5=pk at *;generalize KG pk=kk at *;have nR:=hid yu;clear yu bc;go_wp2_with (go_at_call 60;refine(vt.o _).af ?_;rintro e w2 ⟨rfl,hb⟩;have h52:=(hb.cell (p:=⟨wr.heap.size,pk,none⟩) (by simp)).trans h5;have CO:=hid (nR.o.step hb))
     go_meet
     exact⟨kk,rfl,Yp.1,Yp.2,CO⟩
    ·have ag7:(L1.length:Int)<=(v:Int):=by omega
     go_wp2_with fail
     go_meet
     exact⟨2,rfl,by omega,by omega,iI⟩
   case rest=>
   obtain⟨k,rfl,GM,hk3,HMC⟩:=hcut;clear iI;go_wp2_with fail
   refine(RV.o v (by omega) _).af ?_;rintro e w1 ⟨rfl,hb1⟩;go_wp2_with fail
   refine(qW.o v (by omega) _).af ?_;rintro e W14 ⟨rfl,hb2⟩;have hM:=(HMC.o.step hb1).step hb2;have hdz:=Ra (i:=v) (by omega);clear hb1 hb2 HMC;go_upto_region 14 with fail
   replace hM:=hM.step (au _ _).drew;refine jE (S:=fun _=>True) (by kernel_rfl) trivial (fun ak=>?_);generalize W14.drew=u0 at *;have hx0:=hM.box.cells.1;refine aw 0 (.pointer (some ⟨w.heap.size+2,0,none⟩)) ?_;(try simp only[gE,aP]);refine aw 2 (.string (Er v)) ?_;(try simp only[gE,aP]);refine aw 3 (.string (iy 110 v)) ?_;(try simp only[gE,aP]);refine aw 4 (.int .i64 (k:Nat)) ?_;(try simp only[gE,aP]);refine aH [1,5] (cA ?_ (cA ?_ aG))
   focus
    intro K' hK';go_simp;refine hK'.o _ _ trivial (fun _=>?_);clear hK' K';(try simp only[gE,aP]);refine aH [5] (cA ?_ aG);intro K' hK';go_simp;refine(xu.o k hk3 _).af ?_;rintro e u1 ⟨q,rfl,Gs,hb⟩;have hq:kq u1 w.heap.size q (qf k):=F7 Gs hM.bel.size;replace hM:=hM.step hb;(obtain⟨dq,nq,cq,rfl⟩:∃a n c,q=.slice a n c:=by obtain⟨a,c,e,_⟩:=mG hq;exact⟨_,_,_,e⟩);refine hK'.o _ _ trivial (fun _=>?_);clear hb Gs hx0;have hx0:=hM.box.cells.1;clear hK' K';(try simp only[gE,aP]);refine aw 6 (.agg #[.string (iy 110 v),.slice dq nq cq]) ?_;(try simp only[gE,aP]);refine aH [7] (cA ?_ aG);intro K' hK';go_simp;obtain⟨hb0,hb1⟩:=Dg u1 (.string (iy 110 v)) (.slice dq nq cq);have bc:=(au _ u1).alloc (aq _) (VC (.string (iy 110 v)) (.slice dq nq cq));replace hM:=hM.step bc;replace hq:=kq.step hq bc;refine hK'.o _ _ trivial (fun _=>?_);generalize (u1.alloc (VC (.string (iy 110 v)) (.slice dq nq cq)))=u2 at *;generalize u1.heap.size=gq at *;clear bc hx0;have hx0:=hM.box.cells.1
   rotate_left
   focus
    intro K' hK';go_simp;refine(xu.o k hk3 _).af ?_;rintro e u1 ⟨q,rfl,Gs,hb⟩;have hq:kq u1 w.heap.size q (qf k):=F7 Gs hM.bel.size;replace hM:=hM.step hb;(obtain⟨dq,nq,cq,rfl⟩:∃a n c,q=.slice a n c:=by obtain⟨a,c,e,_⟩:=mG hq;exact⟨_,_,_,e⟩);refine hK'.o _ _ trivial (fun _=>?_);clear hb Gs hx0;have hx0:=hM.box.cells.1;clear hK' K';(try simp only[gE,aP]);refine aw 6 (.agg #[.string (iy 110 v),.slice dq nq cq]) ?_;(try simp only[gE,aP]);refine aH [1,7] (cA ?_ (cA ?_ aG))
    focus
     intro K' hK';go_simp;refine hK'.o _ _ trivial (fun _=>?_);clear hK' K';(try simp only[gE,aP]);refine aH [7] (cA ?_ aG);intro K' hK';go_simp;obtain⟨hb0,hb1⟩:=Dg u1 (.string (iy 110 v)) (.slice dq nq cq);have bc:=(au _ u1).alloc (aq _) (VC (.string (iy 110 v)) (.slice dq nq cq));replace hM:=hM.step bc;replace hq:=kq.step hq bc;refine hK'.o _ _ trivial (fun _=>?_);generalize (u1.alloc (VC (.string (iy 110 v)) (.slice dq nq cq)))=u2 at *;generalize u1.heap.size=gq at *;clear bc hx0;have hx0:=hM.box.cells.1
    rotate_left
    focus
     intro K' hK';go_simp;obtain⟨hb0,hb1⟩:=Dg u1 (.string (iy 110 v)) (.slice dq nq cq);have bc:=(au _ u1).alloc (aq _) (VC (.string (iy 110 v)) (.slice dq nq cq));replace hM:=hM.step bc;replace hq:=kq.step hq bc;refine hK'.o _ _ trivial (fun _=>?_);generalize (u1.alloc (VC (.string (iy 110 v)) (.slice dq nq cq)))=u2 at *;generalize u1.heap.size=gq at *;clear bc hx0;have hx0:=hM.box.cells.1;clear hK' K';(try simp only[gE,aP]);refine aH [1] (cA ?_ aG);intro K' hK';go_simp;refine hK'.o _ _ trivial (fun _=>?_)
   all_goals
    clear hK' K';(try simp only[gE,aP]);refine aH [8] (cA ?_ aG);intro K' hK';rw[aA (by rfl)];refine abE _ _ rfl w.heap.size x Vs (iy 110 v) (.slice dq nq cq) ⟨_,_,_,rfl⟩ rfl hM.vs.1 gq rfl hb0 hb1 (by have:=Iz.o.len;omega) (by have:=hM.lt;omega) ?_;intro v' u4 hr4 hg4;obtain⟨d4,uQ,rfl, -⟩:=mG hr4;have oC:=hM.pushV hr4 hg4 hq;refine hK'.o _ _ trivial (fun _=>?_);clear hM hr4 hg4 hq hb0 hb1 hx0;clear hK' K';(try simp only[gE,aP]);have hm0:=oC.1.cells.1;have Pu:u4.frozen? ⟨w.heap.size+2,0,none⟩=false:=kZ _ _ 0 _ _ oC.1;refine aw 9 (.pointer (some ⟨w.heap.size+2,0,none⟩)) ?_;(try simp only[gE,aP]);refine aH [10] (cA ?_ aG);intro K' hK';go_simp;refine hK'.o _ _ trivial (fun _=>eK (by kernel_rfl) ?_ _);clear hK' K' hm0 Pu;have Me:=hid oC.2;clear oC;go_wp2;go_roundw
    case rel=>exact⟨v+1,_,_,by omega,by go_num,Iz.o.snoc (.slice dq nq cq) GM hk3,Me⟩
    case measure=>simp[intOf];omega
  ·obtain rfl:n=v:=by omega
   obtain⟨ax,cx,rfl,dU⟩:=iI.o.vs.vars;(have Ze:(fh Vs).length=n:=by simp[fh,Iz.o.len]);have fN:=hid (fun U hU=>adQ ax none none cx 0 0 0 0 (fh Vs) U hU (by omega));have Zk:=Iz.o.sizes;have tE:=hid dU;have Ma:Hid (ar (fh Vs)=ar (fh Vs)):=rfl;rw[Ze] at fN iI;generalize ah:ar (fh Vs)=S at *;have CD:=hid ah;have tH:=hid Zk;clear ah Zk dU Ma;obtain⟨e0,e1,e2⟩:=iI.o.box.cells;go_wp2_with fail
   refine(fN.o _ tE.o).af ?_;rintro e W2 ⟨xv,rfl,DX,hb⟩;(have hSn:(iL S).length=n:=by rw[bs];exact tH.o.len);obtain⟨d10,Et,yD, -⟩:=mG DX;rw[hSn] at yD;subst yD;have vo:Hid (bA W2 w.heap.size (.slice d10 n Et) (iL S)):=F7 DX iI.o.bel.size;have CO:=hid (iI.o.step hb);clear DX hb e0 e1 e2 iI fN tE Ze hlt hv;generalize hxg:Value.slice ax n cx=x at *;clear hxg;go_wp2_with fail
   go_loopw [8,9,11] (fun ev av iv wr=>∃(v e at_:Nat) (y z:Value) (Ls:List PL) (Rs:List PR),v<=n/\iv=.int .i64 v/\ev=.int .i64 (e:Nat)/\av=.int .i64 (at_:Nat)/\e<=6*v/\at_<=81*v/\Hid (yG bk n v S Ls Rs)/\Hid (MS w wr (.slice a1 L1.length c1) (.slice a2 L2.length c2) (.slice a3 L3.length c3) bk x y z Vs Ls Rs)/\Hid (bA wr w.heap.size (.slice d10 n Et) (iL S))) (fun _ _ iv _=>n - (intOf iv).toNat)
   case atStart=>exact⟨0,0,0,_,_,[],[],aU _,rfl,rfl,rfl,aq _,aq _,⟨rfl,rfl,fun j hj=>absurd hj (by simp),fun j hj=>absurd hj (by simp)⟩,CO,vo⟩
   case round=>
    obtain⟨v,e,at_,y,z,Ls,Rs,hv,rfl,rfl,rfl,he6,al6,EW,iI,HS⟩:=hrel;clear CO vo;by_cases hlt:v<n
    ·go_wp2_with fail
     generalize wr=wb at *;go_loopw [8,12,13] (fun ev pv uv mV=>∃(u e':Nat) (pl:List Int),u<=n/\uv=.int .i64 u/\ev=.int .i64 (e':Nat)/\e'<=e+u/\Hid (PP bk n v u pl)/\Hid (bA mV wb.heap.size pv pl)/\Hid (Below wb.heap.size wb mV)) (fun _ _ uv _=>n - (intOf uv).toNat)
     case atStart=>exact⟨0,e,[],aU _,rfl,rfl,aq _,PP.nil bk n v,bA.emptyB _ _,au _ _⟩
     case round=>
      obtain⟨u,e',pl,hu,rfl,rfl,hee,tL,gV,lM⟩:=hrel;by_cases wu:u<n
      ·generalize wr=mV at *;obtain⟨dp,cp,Gu, -⟩:=mG gV.o;subst Gu;have gD:=iI.o.step lM.o;obtain⟨-, -, -,d3⟩:=gD.cells;have PQ:=tL.o.ok.few;have he1:e'<=1000:=by omega
       cases bk
       case true=>
        by_cases hs:(u:Int)<=(v:Int)
        ·go_wp2;go_roundw
         case rel=>exact⟨u+1,e',pl,by omega,by go_num,rfl,by omega,tL.o.skip,gV,lM⟩
         case measure=>simp[intOf];omega
        ·have hk:(v:Int)<(u:Int):=by omega
         clear hs;by_cases hl3:pl.length=3
         ·have iC:((pl.length:Int)==3)=true:=by rw[hl3];rfl
          clear hl3;go_wp2;go_roundw
          case rel=>exact⟨u+1,e',pl,by omega,by go_num,rfl,by omega,tL.o.skip,gV,lM⟩
          case measure=>simp[intOf];omega
         ·have iC:((pl.length:Int)==3)=false:=by
           (have:¬(pl.length:Int)=3:=by omega);simpa using this
          (have DY:if true=true then v<u else u<v:=by simp;omega);go_upto_region 26 with fail
          clear d3 iC;have bI:Below mV.heap.size mV mV.drew:=(au _ _).drew;go_cut [109] from 66 to 115 (fun s wx=>∃b:Bool,s=.bool b/\Hid (Below mV.heap.size mV wx))
          case first=>
           by_cases pE:0<L2.length
           ·obtain⟨t,ht⟩:∃t,t=e' % L2.length:=⟨_,rfl⟩;(have nB:t<L2.length:=by rw[ht];exact gh _ pE);(have Gp:(e':Int) % (L2.length:Int)=(t:Int):=by rw[ht,rA]);(have hwt:IntKind.i64.wrap (t:Int)=(t:Int):=by rw[gI];omega);(have O0:IntKind.i64.wrap ((e':Int) % (L2.length:Int))=(t:Int):=by rw[Gp];exact hwt);(have GI:(0:Int)<(L2.length:Int):=by omega);(have ahx:¬(L2.length:Int)=0:=by omega);have IQ:=hid (fun U=>HP2.o L2[t] (eJ.o _ (bM nB)) U);obtain⟨g2,o2,rfl,hg2,cs⟩:=y4.o t nB;have vF:=hid cs;generalize L2[t]=lt at *;generalize sO lt 2=pk at *;obtain⟨b,pA⟩:∃b:Bool,((pk:Int)==0)=b:=⟨_,rfl⟩;(have ahi:(pk==0)=b:=by rw[<- pA];cases pk<;>rfl);have Sy:=hid pE;(have ER:Hid (¬L2=[]):=fun h=>by rw[h] at pE;exact absurd pE (by simp));(have IC:Hid ((e':Int).tmod (L2.length:Int)=(t:Int)):=by rw[ht];rfl);clear cs ht pE;replace gD:=gD.step (au _ _).drew;refine jE (S:=fun u=>u.cell? ⟨w.heap.size,1,none⟩=some (.slice (some ⟨g2,o2,none⟩) L2.length c2)/\u.cell? ⟨g2,o2+t,none⟩=some (.int .i64 lt)) (by kernel_rfl) ⟨gD.cells.2.1,(gD.bel.cell (p:=⟨g2,o2+t,none⟩) hg2).trans vF.o⟩ (fun ak=>?_);generalize mV.drew=u0 at *;refine aw 0 (.pointer (some ⟨w.heap.size,1,none⟩)) ?_;(try simp only[gE,aP]);refine aw 1 (.slice (some ⟨g2,o2,none⟩) L2.length c2) ?_;(try simp only[gE,aP]);refine aw 2 (.int .i64 (L2.length:Nat)) ?_;(try simp only[gE,aP]);refine cN 3 (.bool true) ?_ ?_
            ·intro u' aN;go_simp;exact Sy.o
            (try simp only[gE,aP]);refine aw 4 (.bool true) ?_;(try simp only[gE,aP]);refine aw 5 (.pointer (some ⟨w.heap.size,1,none⟩)) ?_;(try simp only[gE,aP]);refine aw 6 (.slice (some ⟨g2,o2,none⟩) L2.length c2) ?_;(try simp only[gE,aP]);refine aw 7 (.int .i64 (e':Nat)) ?_;(try simp only[gE,aP]);refine aw 8 (.pointer (some ⟨w.heap.size,1,none⟩)) ?_;(try simp only[gE,aP]);refine aw 9 (.slice (some ⟨g2,o2,none⟩) L2.length c2) ?_;(try simp only[gE,aP]);refine aw 10 (.int .i64 (L2.length:Nat)) ?_;(try simp only[gE,aP]);refine cN 11 (.int .i64 (t:Nat)) ?_ ?_
            ·intro u' aN;go_simp;rw[aD ER.o,IC.o]
            (try simp only[gE,aP]);refine aw 12 (.pointer (some ⟨g2,o2+t,none⟩)) ?_;(try simp only[gE,aP]);refine aw 13 (.int .i64 lt) ?_;(try simp only[gE,aP]);refine aH [14] (cA ?_ aG);intro K' hK';go_simp;refine(IQ.o _).af ?_;rintro _ u1 ⟨rfl,hb⟩;replace gD:=gD.step hb;replace bI:=bI.trans (hb.af bI.size);refine hK'.o _ _ ⟨gD.cells.2.1,(gD.bel.cell (p:=⟨g2,o2+t,none⟩) hg2).trans vF.o⟩ (fun ah=>?_);clear hb;clear hK' K' ak;have ak:=ah;clear ah;(try simp only[gE,aP]);refine aw 15 (.bool b) ?_;(try simp only[gE,aP]);refine aw 16 (.bool b) ?_;(try simp only[gE,aP]);refine eK (by kernel_rfl) ?_ _;clear ak;go_wp2_with fail
            go_meet
            exact⟨b,rfl,bI⟩
           ·have GI:¬(0:Int)<(L2.length:Int):=by omega
            have ahw:decide ((0:Int)<(L2.length:Int))=false:=cD GI;have ahv:¬0<L2.length:=pE;clear pE;replace gD:=gD.step (au _ _).drew;refine jE (S:=fun u=>u.cell? ⟨w.heap.size,1,none⟩=some (.slice a2 L2.length c2)) (by kernel_rfl) gD.cells.2.1 (fun ak=>?_);generalize mV.drew=u0 at *;refine aw 0 (.pointer (some ⟨w.heap.size,1,none⟩)) ?_;(try simp only[gE,aP]);refine aw 1 (.slice a2 L2.length c2) ?_;(try simp only[gE,aP]);refine aw 2 (.int .i64 (L2.length:Nat)) ?_;(try simp only[gE,aP]);refine aw 3 (.bool false) ?_;(try simp only[gE,aP]);refine aw 4 (.bool false) ?_;(try simp only[gE,aP]);refine kB (i:=5) (oi:=_) (v:=undef) rfl (by kernel_rfl) (by kernel_rfl) (by kernel_rfl) (fun _ _ _ h=>h) (Or.inr ⟨by rfl,rfl⟩) (by assumption) ?_;(try simp only[gE,aP]);refine kB (i:=6) (oi:=_) (v:=undef) rfl (by kernel_rfl) (by kernel_rfl) (by kernel_rfl) (fun _ _ _ h=>h) (Or.inr ⟨by rfl,rfl⟩) (by assumption) ?_;(try simp only[gE,aP]);refine kB (i:=7) (oi:=_) (v:=undef) rfl (by kernel_rfl) (by kernel_rfl) (by kernel_rfl) (fun _ _ _ h=>h) (Or.inr ⟨by rfl,rfl⟩) (by assumption) ?_;(try simp only[gE,aP]);refine kB (i:=8) (oi:=_) (v:=undef) rfl (by kernel_rfl) (by kernel_rfl) (by kernel_rfl) (fun _ _ _ h=>h) (Or.inr ⟨by rfl,rfl⟩) (by assumption) ?_;(try simp only[gE,aP]);refine kB (i:=9) (oi:=_) (v:=undef) rfl (by kernel_rfl) (by kernel_rfl) (by kernel_rfl) (fun _ _ _ h=>h) (Or.inr ⟨by rfl,rfl⟩) (by assumption) ?_;(try simp only[gE,aP])
            refine kB (i:=10) (oi:=_) (v:=undef) rfl (by kernel_rfl) (by kernel_rfl) (by kernel_rfl) (fun _ _ _ h=>h) (Or.inr ⟨by rfl,rfl⟩) (by assumption) ?_;(try simp only[gE,aP]);refine kB (i:=11) (oi:=_) (v:=undef) rfl (by kernel_rfl) (by kernel_rfl) (by kernel_rfl) (fun _ _ _ h=>h) (Or.inr ⟨by rfl,rfl⟩) (by assumption) ?_;(try simp only[gE,aP]);refine kB (i:=12) (oi:=_) (v:=undef) rfl (by kernel_rfl) (by kernel_rfl) (by kernel_rfl) (fun _ _ _ h=>h) (Or.inr ⟨by rfl,rfl⟩) (by assumption) ?_;(try simp only[gE,aP]);refine kB (i:=13) (oi:=_) (v:=undef) rfl (by kernel_rfl) (by kernel_rfl) (by kernel_rfl) (fun _ _ _ h=>h) (Or.inr ⟨by rfl,rfl⟩) (by assumption) ?_;(try simp only[gE,aP]);refine aH [14] (cA ?_ aG);intro K' hK';go_simp;refine hK'.o _ _ ak (fun ah=>?_);clear hK' K' ak;have ak:=ah;clear ah;(try simp only[gE,aP]);refine kB (i:=15) (oi:=_) (v:=undef) rfl (by kernel_rfl) (by kernel_rfl) (by kernel_rfl) (fun _ _ _ h=>h) (Or.inr ⟨by rfl,rfl⟩) (by assumption) ?_;(try simp only[gE,aP]);refine aw 16 (.bool false) ?_;(try simp only[gE,aP]);refine eK (by kernel_rfl) ?_ _;clear ak;go_wp2_with fail
            go_meet
            exact⟨false,rfl,bI⟩
          case rest=>
          obtain⟨b,rfl,nU⟩:=hcut;have CG:=hid (gV.o.aa nU.o);have y8:=hid (lM.o.trans (nU.o.af lM.o.size));clear gV lM gD bI;cases b
          case false=>
           clear nU;go_wp2;go_roundw
           case rel=>exact⟨u+1,e'+1,pl,by omega,by go_num,by go_num,by omega,tL.o.skip,CG,y8⟩
           case measure=>simp[intOf];omega
          case true=>
           clear nU;have jC:=hid (CG.o.aa ((au _ wc).alloc (aq _) (.cells #[.int .i64 (u:Int)] 3)));have bW:=hid (y8.o.alloc y8.o.size (.cells #[.int .i64 (u:Int)] 3));have kY:=hid (Dy wc (u:Int));have fX:wb.heap.size<=(wc.alloc (.cells #[.int .i64 (u:Int)] 3)).heap.size:=bW.o.size;have pX:=hid (tL.o.snoc wu hl3 DY);clear CG y8;go_wp2_with (at_builtin;refine vO rfl _ _ rfl wb.heap.size _ pl [(u:Int)] rfl jC.o (some ⟨wc.heap.size,0,none⟩) 1 rfl kY.o (fun e=>by cases e) (by simp;omega) fX ?_;intro v' w3 hr3 hg3;have eZ:=hid (bW.o.grown hg3 fX (fun k e=>Kk jC.o k e)))
           go_roundw
           case rel=>exact⟨u+1,e'+1,pl++[(u:Int)],by omega,by go_num,by go_num,by omega,pX,hr3,eZ⟩
           case measure=>simp[intOf];omega
       case false=>
        by_cases hs:(v:Int)<=(u:Int)
        ·go_wp2;go_roundw
         case rel=>exact⟨u+1,e',pl,by omega,by go_num,rfl,by omega,tL.o.skip,gV,lM⟩
         case measure=>simp[intOf];omega
        ·have hk:(u:Int)<(v:Int):=by omega
         clear hs;by_cases hl3:pl.length=3
         ·have iC:((pl.length:Int)==3)=true:=by rw[hl3];rfl
          clear hl3;go_wp2;go_roundw
          case rel=>exact⟨u+1,e',pl,by omega,by go_num,rfl,by omega,tL.o.skip,gV,lM⟩
          case measure=>simp[intOf];omega
         ·have iC:((pl.length:Int)==3)=false:=by
           (have:¬(pl.length:Int)=3:=by omega);simpa using this
          (have DY:if false=true then v<u else u<v:=by simp;omega);go_upto_region 26 with fail
          clear d3 iC;have bI:Below mV.heap.size mV mV.drew:=(au _ _).drew;go_cut [109] from 66 to 115 (fun s wx=>∃b:Bool,s=.bool b/\Hid (Below mV.heap.size mV wx))
          case first=>
           by_cases pE:0<L2.length
           ·obtain⟨t,ht⟩:∃t,t=e' % L2.length:=⟨_,rfl⟩;(have nB:t<L2.length:=by rw[ht];exact gh _ pE);(have Gp:(e':Int) % (L2.length:Int)=(t:Int):=by rw[ht,rA]);(have hwt:IntKind.i64.wrap (t:Int)=(t:Int):=by rw[gI];omega);(have O0:IntKind.i64.wrap ((e':Int) % (L2.length:Int))=(t:Int):=by rw[Gp];exact hwt);(have GI:(0:Int)<(L2.length:Int):=by omega);(have ahx:¬(L2.length:Int)=0:=by omega);have IQ:=hid (fun U=>HP2.o L2[t] (eJ.o _ (bM nB)) U);obtain⟨g2,o2,rfl,hg2,cs⟩:=y4.o t nB;have vF:=hid cs;generalize L2[t]=lt at *;generalize sO lt 2=pk at *;obtain⟨b,pA⟩:∃b:Bool,((pk:Int)==0)=b:=⟨_,rfl⟩;(have ahi:(pk==0)=b:=by rw[<- pA];cases pk<;>rfl);have Sy:=hid pE;(have ER:Hid (¬L2=[]):=fun h=>by rw[h] at pE;exact absurd pE (by simp));(have IC:Hid ((e':Int).tmod (L2.length:Int)=(t:Int)):=by rw[ht];rfl);clear cs ht pE;replace gD:=gD.step (au _ _).drew;refine jE (S:=fun u=>u.cell? ⟨w.heap.size,1,none⟩=some (.slice (some ⟨g2,o2,none⟩) L2.length c2)/\u.cell? ⟨g2,o2+t,none⟩=some (.int .i64 lt)) (by kernel_rfl) ⟨gD.cells.2.1,(gD.bel.cell (p:=⟨g2,o2+t,none⟩) hg2).trans vF.o⟩ (fun ak=>?_);generalize mV.drew=u0 at *;refine aw 0 (.pointer (some ⟨w.heap.size,1,none⟩)) ?_;(try simp only[gE,aP]);refine aw 1 (.slice (some ⟨g2,o2,none⟩) L2.length c2) ?_;(try simp only[gE,aP]);refine aw 2 (.int .i64 (L2.length:Nat)) ?_;(try simp only[gE,aP]);refine cN 3 (.bool true) ?_ ?_
            ·intro u' aN;go_simp;exact Sy.o
            (try simp only[gE,aP]);refine aw 4 (.bool true) ?_;(try simp only[gE,aP]);refine aw 5 (.pointer (some ⟨w.heap.size,1,none⟩)) ?_;(try simp only[gE,aP]);refine aw 6 (.slice (some ⟨g2,o2,none⟩) L2.length c2) ?_;(try simp only[gE,aP]);refine aw 7 (.int .i64 (e':Nat)) ?_;(try simp only[gE,aP]);refine aw 8 (.pointer (some ⟨w.heap.size,1,none⟩)) ?_;(try simp only[gE,aP]);refine aw 9 (.slice (some ⟨g2,o2,none⟩) L2.length c2) ?_;(try simp only[gE,aP]);refine aw 10 (.int .i64 (L2.length:Nat)) ?_;(try simp only[gE,aP]);refine cN 11 (.int .i64 (t:Nat)) ?_ ?_
            ·intro u' aN;go_simp;rw[aD ER.o,IC.o]
            (try simp only[gE,aP]);refine aw 12 (.pointer (some ⟨g2,o2+t,none⟩)) ?_;(try simp only[gE,aP]);refine aw 13 (.int .i64 lt) ?_;(try simp only[gE,aP]);refine aH [14] (cA ?_ aG);intro K' hK';go_simp;refine(IQ.o _).af ?_;rintro _ u1 ⟨rfl,hb⟩;replace gD:=gD.step hb;replace bI:=bI.trans (hb.af bI.size);refine hK'.o _ _ ⟨gD.cells.2.1,(gD.bel.cell (p:=⟨g2,o2+t,none⟩) hg2).trans vF.o⟩ (fun ah=>?_);clear hb;clear hK' K' ak;have ak:=ah;clear ah;(try simp only[gE,aP]);refine aw 15 (.bool b) ?_;(try simp only[gE,aP]);refine aw 16 (.bool b) ?_;(try simp only[gE,aP]);refine eK (by kernel_rfl) ?_ _;clear ak;go_wp2_with fail
            go_meet
            exact⟨b,rfl,bI⟩
           ·have GI:¬(0:Int)<(L2.length:Int):=by omega
            have ahw:decide ((0:Int)<(L2.length:Int))=false:=cD GI;have ahv:¬0<L2.length:=pE;clear pE;replace gD:=gD.step (au _ _).drew;refine jE (S:=fun u=>u.cell? ⟨w.heap.size,1,none⟩=some (.slice a2 L2.length c2)) (by kernel_rfl) gD.cells.2.1 (fun ak=>?_);generalize mV.drew=u0 at *;refine aw 0 (.pointer (some ⟨w.heap.size,1,none⟩)) ?_;(try simp only[gE,aP]);refine aw 1 (.slice a2 L2.length c2) ?_;(try simp only[gE,aP]);refine aw 2 (.int .i64 (L2.length:Nat)) ?_;(try simp only[gE,aP]);refine aw 3 (.bool false) ?_;(try simp only[gE,aP]);refine aw 4 (.bool false) ?_;(try simp only[gE,aP]);refine kB (i:=5) (oi:=_) (v:=undef) rfl (by kernel_rfl) (by kernel_rfl) (by kernel_rfl) (fun _ _ _ h=>h) (Or.inr ⟨by rfl,rfl⟩) (by assumption) ?_;(try simp only[gE,aP]);refine kB (i:=6) (oi:=_) (v:=undef) rfl (by kernel_rfl) (by kernel_rfl) (by kernel_rfl) (fun _ _ _ h=>h) (Or.inr ⟨by rfl,rfl⟩) (by assumption) ?_;(try simp only[gE,aP]);refine kB (i:=7) (oi:=_) (v:=undef) rfl (by kernel_rfl) (by kernel_rfl) (by kernel_rfl) (fun _ _ _ h=>h) (Or.inr ⟨by rfl,rfl⟩) (by assumption) ?_;(try simp only[gE,aP]);refine kB (i:=8) (oi:=_) (v:=undef) rfl (by kernel_rfl) (by kernel_rfl) (by kernel_rfl) (fun _ _ _ h=>h) (Or.inr ⟨by rfl,rfl⟩) (by assumption) ?_;(try simp only[gE,aP]);refine kB (i:=9) (oi:=_) (v:=undef) rfl (by kernel_rfl) (by kernel_rfl) (by kernel_rfl) (fun _ _ _ h=>h) (Or.inr ⟨by rfl,rfl⟩) (by assumption) ?_;(try simp only[gE,aP])
            refine kB (i:=10) (oi:=_) (v:=undef) rfl (by kernel_rfl) (by kernel_rfl) (by kernel_rfl) (fun _ _ _ h=>h) (Or.inr ⟨by rfl,rfl⟩) (by assumption) ?_;(try simp only[gE,aP]);refine kB (i:=11) (oi:=_) (v:=undef) rfl (by kernel_rfl) (by kernel_rfl) (by kernel_rfl) (fun _ _ _ h=>h) (Or.inr ⟨by rfl,rfl⟩) (by assumption) ?_;(try simp only[gE,aP]);refine kB (i:=12) (oi:=_) (v:=undef) rfl (by kernel_rfl) (by kernel_rfl) (by kernel_rfl) (fun _ _ _ h=>h) (Or.inr ⟨by rfl,rfl⟩) (by assumption) ?_;(try simp only[gE,aP]);refine kB (i:=13) (oi:=_) (v:=undef) rfl (by kernel_rfl) (by kernel_rfl) (by kernel_rfl) (fun _ _ _ h=>h) (Or.inr ⟨by rfl,rfl⟩) (by assumption) ?_;(try simp only[gE,aP]);refine aH [14] (cA ?_ aG);intro K' hK';go_simp;refine hK'.o _ _ ak (fun ah=>?_);clear hK' K' ak;have ak:=ah;clear ah;(try simp only[gE,aP]);refine kB (i:=15) (oi:=_) (v:=undef) rfl (by kernel_rfl) (by kernel_rfl) (by kernel_rfl) (fun _ _ _ h=>h) (Or.inr ⟨by rfl,rfl⟩) (by assumption) ?_;(try simp only[gE,aP]);refine aw 16 (.bool false) ?_;(try simp only[gE,aP]);refine eK (by kernel_rfl) ?_ _;clear ak;go_wp2_with fail
            go_meet
            exact⟨false,rfl,bI⟩
          case rest=>
          obtain⟨b,rfl,nU⟩:=hcut;have CG:=hid (gV.o.aa nU.o);have y8:=hid (lM.o.trans (nU.o.af lM.o.size));clear gV lM gD bI;cases b
          case false=>
           clear nU;go_wp2;go_roundw
           case rel=>exact⟨u+1,e'+1,pl,by omega,by go_num,by go_num,by omega,tL.o.skip,CG,y8⟩
           case measure=>simp[intOf];omega
          case true=>
           clear nU;have jC:=hid (CG.o.aa ((au _ wc).alloc (aq _) (.cells #[.int .i64 (u:Int)] 3)));have bW:=hid (y8.o.alloc y8.o.size (.cells #[.int .i64 (u:Int)] 3));have kY:=hid (Dy wc (u:Int));have fX:wb.heap.size<=(wc.alloc (.cells #[.int .i64 (u:Int)] 3)).heap.size:=bW.o.size;have pX:=hid (tL.o.snoc wu hl3 DY);clear CG y8;go_wp2_with (at_builtin;refine vO rfl _ _ rfl wb.heap.size _ pl [(u:Int)] rfl jC.o (some ⟨wc.heap.size,0,none⟩) 1 rfl kY.o (fun e=>by cases e) (by simp;omega) fX ?_;intro v' w3 hr3 hg3;have eZ:=hid (bW.o.grown hg3 fX (fun k e=>Kk jC.o k e)))
           go_roundw
           case rel=>exact⟨u+1,e'+1,pl++[(u:Int)],by omega,by go_num,by go_num,by omega,pX,hr3,eZ⟩
           case measure=>simp[intOf];omega
      ·obtain rfl:n=u:=by omega
       obtain⟨dp,cp,Gu, -⟩:=mG gV.o;subst Gu;have gD:=iI.o.step lM.o;have K8:=HS.o.aa lM.o;have Zs:bA wr w.heap.size (.slice dp pl.length cp) pl:=F7 gV.o iI.o.bel.size;obtain⟨dy,cy,OX, -⟩:=mG gD.ls.1;subst OX;have bc:Below wr.heap.size wr (wr.alloc (.cells #[.slice dp pl.length cp] 27)):=(au _ wr).alloc (aq _) _;have yu:=gD.step bc;have Zm:=K8.aa bc;have Hh:=Zs.aa bc;have hyc:=yu.box.cells.2.1;have ag1:=gD.box.cells.2.1;have lL:=hid ((aY wr 27 (.slice dp pl.length cp)).cell);have fX:w.heap.size<=(wr.alloc (.cells #[.slice dp pl.length cp] 27)).heap.size:=yu.bel.size;have nR:=hid yu;have kx:=hid Zm;have vu:=hid Hh;clear gD K8 Zs yu Zm Hh iI HS gV lM hyc bc;go_wp2_with (at_builtin;refine abL rfl _ _ rfl w.heap.size _ Ls (.slice dp pl.length cp) ⟨_,_,_,rfl⟩ rfl nR.o.ls.1 wr.heap.size rfl lL.o (by have:=EW.o.len;omega) fX ?_;intro v4 W4 hr4 hg4;obtain⟨d4,uQ,rfl, -⟩:=mG hr4;have oC:=nR.o.pushL hr4 hg4 vu.o;have hm1:=oC.1.cells.2.1;have Pu:W4.frozen? ⟨w.heap.size+2,1,none⟩=false:=kZ _ _ 1 _ _ oC.1;have Me:=hid oC.2;have SA:=hid (Vf (j:=1) (v':=.slice d4 (Ls.length+1) uQ) nR.o.ls.1 hg4 oC.1 3 (by decide) (by decide));clear oC hr4 hg4)
       clear hm1 Pu ag1;have EF:Hid (bA (W4.setCell ⟨w.heap.size+2,1,none⟩ (.slice d4 (Ls.length+1) uQ)) w.heap.size (.slice d10 n Et) (iL S)):=mH kx.o SA.o;have abj:Hid (bA (W4.setCell ⟨w.heap.size+2,1,none⟩ (.slice d4 (Ls.length+1) uQ)) w.heap.size (.slice dp pl.length cp) pl):=mH vu.o SA.o;generalize (W4.setCell ⟨w.heap.size+2,1,none⟩ (.slice d4 (Ls.length+1) uQ))=W5 at *;clear nR kx vu SA lL fX;(have Cg:(iL S).length=n:=by rw[bs];exact tH.o.len)
       have p5:Hid (Calls Tryz.prog 55 #[.slice d10 n Et,.slice dp pl.length cp] W5 fun e w'=>e=.returned (.tuple #[.int .i64 (cnt S (ag pl):Nat),.int .i64 0])/\Below W5.heap.size W5 w'):=by
        have h5:=EF.o;rw[<- Cg] at h5;have h:=ad5 d10 dp Et cp (iL S) pl W5 (bA.intS h5) (bA.intS abj.o) (tH.o.fine dW (by omega)) (by rw[Cg];exact tL.o.ok.up);rwa [Cg,fF] at h
       obtain⟨al1,alZ⟩:=aaB tH.o (l:=ag pl) (by rw[cY];exact tL.o.ok.few);obtain⟨aha,O7⟩:=tH.o.sz v;(have O6:v<S.length:=by rw[tH.o.len];exact hlt);(have XC:S[v]'O6=sz S v:=by rw[Go.Proofs.YtfgkjjlocjmfeaaGreatDoor.sz,a8 O6];rfl);have sf:=hid tL.o.ok;generalize YM:cnt S (ag pl)=LI at *;have I7:=hid YM;clear YM;refine p5.o.af ?_;rintro e8 Fy ⟨rfl,fp⟩;have CN:=hid (Me.o.step fp);have Hg:=EF.o.aa fp;rw[<- Cg] at Hg;obtain⟨g10,xX,yD,ew,Rb⟩:=(bA.intS Hg) v (by rw[Cg];exact hlt);subst yD;(have ee:(iL S)[v]'(by rw[Cg];exact hlt)=((S[v]'O6:Nat):Int):=by simp[iL]);rw[ee,XC] at Rb;rw[Cg] at Hg;have abt:=hid Rb;have EE:=hid Hg;clear fp Me EF abj p5 Rb Hg ee XC;generalize XB:sz S v=sv at *;have abb:=hid XB;clear XB;go_wp2_with fail
       go_loopw [9,16,17] (fun av rv kv oh=>∃(k Ap:Nat) (r:List Fr),k<=LI/\kv=.int .i64 k/\av=.int .i64 (Ap:Nat)/\Ap<=at_+3*k/\Hid (RP sv k r)/\Hid (iT oh Fy.heap.size rv r)/\Hid (Below Fy.heap.size Fy oh)) (fun _ _ kv _=>LI - (intOf kv).toNat)
       case atStart=>exact⟨0,at_,[],aU _,rfl,rfl,aq _,RP.nil sv,iT.empty _ _,au _ _⟩
       case round=>
        obtain⟨k,Ap,r,hk,rfl,rfl,al4,IH,jD,eY⟩:=hrel;obtain⟨d16,Ig,ah7, -⟩:=mG jD.o;subst ah7;generalize wr=oh at *;by_cases hkc:k<LI
        ·have ahy:k<27:=by omega
         have mJ:=CN.o.step eY.o;have YL:=(eY.o.cell (p:=⟨g10,xX+v,none⟩) ew).trans abt.o;have ahT:=YL;have ahJ:g10<oh.heap.size:=aO ew eY.o.size;(have al3:Ap<=100000:=by omega);go_upto_region 35 with fail
         replace mJ:=mJ.step (au _ _).drew;have ZK:Below oh.heap.size oh oh.drew:=(au _ _).drew;refine jE (S:=fun u=>u.cell? ⟨w.heap.size,2,none⟩=some (.slice a3 L3.length c3)/\u.cell? ⟨g10,xX+v,none⟩=some (.int .i64 (sv:Nat))) (by kernel_rfl) ⟨mJ.cells.2.2.1,YL⟩ (fun ak=>?_);generalize oh.drew=u0 at *;refine aw 0 (.pointer (some ⟨w.heap.size,2,none⟩)) ?_;(try simp only[gE,aP]);refine aw 1 (.slice a3 L3.length c3) ?_;(try simp only[gE,aP]);refine aw 2 (.int .i64 (Ap:Nat)) ?_;(try simp only[gE,aP]);refine aw 3 (.slice (some ⟨g10,xX,none⟩) n Et) ?_;(try simp only[gE,aP]);refine aw 4 (.int .i64 (v:Nat)) ?_;(try simp only[gE,aP]);refine aw 5 (.pointer (some ⟨g10,xX+v,none⟩)) ?_;(try simp only[gE,aP]);refine aw 6 (.int .i64 (sv:Nat)) ?_;(try simp only[gE,aP]);refine aH [7] (cA ?_ aG);intro K' hK';go_simp;refine(II.o Ap (by omega) sv aha O7 _ (nT.o.aa mJ.bel)).af ?_;rintro e9 u1 ⟨x18,RJ,rfl,DX,hwt,rJ,hb⟩;have Qh:=ZK.trans (hb.af ZK.size);obtain⟨d18,aaJ,rfl,PU⟩:=DX.fr;(have Ym:(nh RJ).length=sv:=by rw[NG];exact hwt.len);rw[Ym];obtain⟨g18,V4,e18, -, -⟩:=PU 0 (by omega);subst e18;have alc:=hid PU;have IL:=hid (adJ rJ);have ak1:=hid (adI hwt.six (by rw[hwt.len];exact O7) rJ);have Sz:=hid Ym;replace mJ:=mJ.step hb;refine hK'.o _ _ ⟨mJ.cells.2.2.1,(Qh.cell (p:=⟨g10,xX+v,none⟩) ahJ).trans ahT⟩ (fun ah=>?_);clear hb DX hwt rJ PU;clear hK' K' ak;have ak:=ah;clear ah;(try simp only[gE,aP]);refine aw 8 (.slice (some ⟨g18,V4,none⟩) sv aaJ) ?_;(try simp only[gE,aP])
         refine eK (by kernel_rfl) ?_ _;clear ak;have HY1:=hid (jD.o.aa Qh);have eU:=hid (eY.o.trans (Qh.af eY.o.size));have fX:Fy.heap.size<=u1.heap.size:=eU.o.size;have hrl:=IH.o.len;have hks:k*sv<=81:=aL (jm (xG ahy) O7) (by omega);(have alE:r.length<=81:=by omega);clear hrl;go_wp2_with (at_builtin;refine abN rfl _ _ rfl Fy.heap.size _ r (nh RJ) rfl HY1.o g18 V4 aaJ (by rw[Sz.o];rfl) alc.o (by rw[Sz.o];omega) fX ?_;intro v9 u2 yf gN;have QG:=eU.o.grown gN fX (fun k e=>Kk HY1.o k e);have alX:=(QG.cell (p:=⟨g10,xX+v,none⟩) ew).trans abt.o;have sB:=hid QG;clear QG)
         go_roundw
         case rel=>exact⟨k+1,Ap+sv,r++nh RJ,by omega,by go_num,by go_num,by omega,IH.o.snoc Sz.o IL.o ak1.o,yf,sB⟩
         case measure=>simp[intOf];omega
        ·obtain rfl:LI=k:=by omega
         have mJ:=CN.o.step eY.o;have K7:=EE.o.aa eY.o;have tq:iT oh w.heap.size (.slice d16 r.length Ig) r:=F7 jD.o CN.o.bel.size;obtain⟨dz,cz,OW, -⟩:=mG mJ.rs.1;subst OW;have bc:Below oh.heap.size oh (oh.alloc (.cells #[.slice d16 r.length Ig] 37)):=(au _ oh).alloc (aq _) _;have nR:=hid (mJ.step bc);have kx:=hid (K7.aa bc);have mM:=hid (tq.aa bc);have alv:=mJ.box.cells.2.2;have lL:=hid ((aY oh 37 (.slice d16 r.length Ig)).cell);have fX:w.heap.size<=(oh.alloc (.cells #[.slice d16 r.length Ig] 37)).heap.size:=nR.o.bel.size;have EI:Hid (RG S v pl r):=⟨by rw[I7.o,abb.o];exact IH.o.len,fun i hi=>by rw[abb.o];exact IH.o.rows i (by rw[<- I7.o];exact hi),IH.o.small⟩;clear mJ K7 tq bc jD eY;go_wp2_with (at_builtin;refine abJ rfl _ _ rfl w.heap.size _ Rs (.slice d16 r.length Ig) ⟨_,_,_,rfl⟩ rfl nR.o.rs.1 oh.heap.size rfl lL.o (by have:=EW.o.lenR;omega) fX ?_;intro v5 W7 Pn PN;obtain⟨d7,yF,rfl, -⟩:=mG Pn;have oC:=nR.o.pushR Pn PN mM.o;have bq:=oC.1.cells.2.2;have alJ:W7.frozen? ⟨w.heap.size+2,2,none⟩=false:=kZ _ _ 2 _ _ oC.1;have ak9:=hid oC.2;have alb:=hid (Vf (j:=2) (v':=.slice d7 (Rs.length+1) yF) nR.o.rs.1 PN oC.1 3 (by decide) (by decide));clear oC Pn PN)
         go_roundw
         case rel=>exact⟨v+1,e',Ap,_,_,_,_,by omega,by go_num,rfl,rfl,by omega,by omega,EW.o.snoc sf.o EI.o,ak9,mH kx.o alb.o⟩
         case measure=>simp[intOf];omega
    ·obtain rfl:n=v:=by omega
     obtain⟨dx,cx',hxe, -⟩:=mG iI.o.vs.1;subst hxe;obtain⟨dy,cy,OX, -⟩:=mG iI.o.ls.1;subst OX;obtain⟨dz,cz,OW, -⟩:=mG iI.o.rs.1;subst OW;obtain⟨e0,e1,e2⟩:=iI.o.box.cells;obtain⟨q0,q1,q2⟩:=iI.o.res.cells;have f0:wr.frozen? ⟨w.heap.size+1,0,none⟩=false:=kZ _ _ 0 _ _ iI.o.res;have f1:wr.frozen? ⟨w.heap.size+1,1,none⟩=false:=kZ _ _ 1 _ _ iI.o.res;have f2:wr.frozen? ⟨w.heap.size+1,2,none⟩=false:=kZ _ _ 2 _ _ iI.o.res;obtain⟨o1,o2,o3,o4,o5⟩:=iI.o.out3;have q7:=hid o1;have yU:=hid o2;have IW:=hid o3;have CL:=hid o4;have yT:=hid o5;clear o1 o2 o3 o4 o5;go_wp2;refine bS (C3 rfl _ _ (w.heap.size+1) _ _ _ _ rfl q7.o Tryz.underlying26 rfl (by kernel_rfl)) rfl ?_;exact⟨bk,n,_,_,_,Vs,Ls,Rs,rfl,⟨dW,wG⟩,Iz.o,by rw[CD.o];exact EW.o,yU.o,IW.o,CL.o,yT.o⟩
theorem FD (h2:Up l n):dR l n=true:=by
 rw[dR,fE];intro i hi;have hi':=cH.1 hi;rw[j8,eh,getD_eq hi'];refine⟨(h2.each i hi').1,(h2.each i hi').2,fun h0=>?_⟩;rw[getD_eq (show i - 1<l.length by omega)];exact h2.lt (i - 1) i hi' (by omega)
theorem N3 (h:yG bk n n S Ls Rs) (hv:v<(fS Ls).length):LS bk n v (fS Ls)[v]:=by
 have hv':v<Ls.length:=by simpa [fS] using hv
 simpa [fS] using h.pars v hv'
theorem UU:∀(n:Nat) (l:List Nat),(∀v,v< n ->v∈l) ->n<=l.length
 |0,_,_=>aU _
 |n+1,l,h=>by
  have hm:=h n (by omega);have h1:=UU n (l.erase n) fun v hv=>(List.mem_erase_of_ne (by omega)).2 (h v (by omega));have h2:=MQ hm;have h3:=List.length_pos_of_mem hm;omega
theorem VR {P:List (List Nat)} (r:Nat ->Nat) (h:∀v,v<P.length ->∀u∈P.getD v [],u<P.length/\r u<r v):∀k,k<=P.length ->(aR P k).length=k
 |0,_=>rfl
 |k+1,hk=>by
  have ih:=VR r h k (by omega);cases e:po P (aR P k) with
  |some v=>rw[Kp e,cK,ih];rfl
  |none=>
   exfalso
   have hno:∀v,v<P.length ->gO P (aR P k) v=false:=fun v hv=>by
    have:=List.find?_eq_none.1 e v (cH.2 hv);simpa using this
   have hall:∀m v,v<P.length ->r v<=m ->v∈aR P k:=by
    intro m;induction m with
    |zero=>
     intro v hv hr;refine A8 fun hm=>?_;have hf:=hno v hv;rw[gO,Bool.and_eq_false_iff] at hf;rcases hf with hf |hf
     ·exact absurd hm (by simpa using hf)
     ·have hf':=of_decide_eq_false hf;refine hf' fun u hu=>?_;have:=(h v hv u hu).2;omega
    |succ m OQ=>
     intro v hv hr;refine A8 fun hm=>?_;have hf:=hno v hv;rw[gO,Bool.and_eq_false_iff] at hf;rcases hf with hf |hf
     ·exact absurd hm (by simpa using hf)
     ·have hf':=of_decide_eq_false hf;refine hf' fun u hu=>?_;obtain⟨h1,h2⟩:=h v hv u hu;exact OQ u h1 (by omega)
   have hle:=UU P.length (aR P k) fun v hv=>hall (r v) v hv (aq _);omega
theorem agt (h:yG bk n n S Ls Rs) (h1:1<=n) (h6:n<=6):bQ (fS Ls)=0:=by
 have hl:(fS Ls).length=n:=by simp[fS,h.len]
 have DY:∀v (hv:v<(fS Ls).length),∀x∈(fS Ls)[v],(0<=x/\x<n)/\(if bk=true then(v:Int)<x else x<(v:Int)):=fun v hv x hx=>
  ⟨(gj.1 (N3 h hv).up).1 x hx,(N3 h hv).rank x hx⟩
 have hgb:gB (fS Ls)=true:=by
  rw[gB,iK,iK];refine⟨⟨cS ⟨by omega,by omega⟩,?_⟩,?_⟩
  ·rw[nO,fE];intro l kg;obtain⟨v,hv,rfl⟩:=iZ kg;rw[hl];exact FD (N3 h hv).up
  ·rw[vW,fE];intro v hv;have hv':v<(fS Ls).length:=cH.1 hv;rw[bU,a8 hv'];simp only[xE,Bool.not_eq_true',Jj];intro hm;obtain⟨x,hx,e⟩:=aW.1 hm;obtain⟨⟨h0,_⟩,hr⟩:=DY v hv' x hx;cases bk<;>simp at hr<;>omega
 rw[bQ,aA hgb,aD];have hp:(aI (fS Ls)).length=n:=by rw[jI,hl]
 have ahl:=VR (P:=aI (fS Ls)) (fun v=>if bk=true then n - v else v) (fun v hv u hu=>by
  have hv':v<(fS Ls).length:=by rw[jI] at hv;exact hv
  rw[Ki hv'] at hu;obtain⟨x,hx,rfl⟩:=aW.1 hu;obtain⟨⟨h0,hn⟩,hr⟩:=DY v hv' x hx;refine⟨by rw[hp];omega,?_⟩;rw[hl] at hv';cases bk
  ·simp at hr⊢;omega
  ·simp at hr⊢;omega) n (by omega)
 rw[hl,ahl];omega
theorem afI (h:VK n Vs):j9 (fh Vs)=(List.range n).map (iy 110):=by
 apply rz
 ·simp[j9,fh,h.len]
 ·intro i h1 h2;have hi:i<Vs.length:=by simpa [j9,fh] using h1
  simp[j9,fh,(h.each i hi).1]
theorem afH:∀n,n<=6 ->l6 ((List.range n).map (iy 110))=0:=by
 intro n hn;have h:n=0∨n=1∨n=2∨n=3∨n=4∨n=5∨n=6:=by omega
 rcases h with rfl |rfl |rfl |rfl |rfl |rfl |rfl<;>decide+kernel
theorem ab8:∀k,k<=3 ->l6 (qf k)=0:=by
 intro n hn;have h:n=0∨n=1∨n=2∨n=3:=by omega
 rcases h with rfl |rfl |rfl |rfl<;>decide+kernel
theorem agn (h:VK n Vs) (h6:n<=6):lY (fh Vs)=0:=by
 rw[lY,afI h,afH n h6,aA rfl];refine yC fun j hj=>?_;have hj':j<Vs.length:=by simpa [fh] using hj
 obtain⟨_,k,h1,h3,e⟩:=h.each j hj'
 have e2:((fh Vs).getD j (⟨#[]⟩,[])).2=qf k:=by
  rw[bU,a8 hj];simp[fh,e]
 rw[om,e2,JL,aA ⟨h1,by omega⟩,ab8 k h3]
theorem agr (hV:VK n Vs) (h:yG bk n n (ar (fh Vs)) Ls Rs) (h1:1<=n) (h6:n<=6):bj (fh Vs) (fS Ls) (l5 Rs)=0:=by
 have hv:(fh Vs).length=n:=by simp[fh,hV.len]
 have hl:(fS Ls).length=n:=by simp[fS,h.len]
 have hr:(l5 Rs).length=n:=by simp[l5,h.lenR]
 rw[bj,aA ⟨by omega,by omega⟩,aA (agt h h1 h6),aA (agn hV h6)];refine yC fun j hj=>?_;have GN:j<Ls.length:=by have:=h.len;omega
 have Yt:j<Rs.length:=by have:=h.lenR;omega
 have hro:=h.rows j GN Yt;have e1:(fS Ls).getD j []=Ls[j].2:=by rw[bU,a8 (by simpa [fS] using GN)];simp[fS]
 have e2:(l5 Rs).getD j []=Rs[j].2:=by rw[bU,a8 (by simpa [l5] using Yt)];simp[l5]
 rw[kJ,e1,e2,aA hro.len,aA];rw[fE];intro i hi;exact hro.rows i (cH.1 hi)
structure NM (V:List Vr) (L:List (List Int)) (R:List (List Fr)):Prop where
 ok:bj V L R=0
 one:1<=V.length
 six:V.length<=6
 szs:∀u,sz (ar V) u<=3
 few:∀l∈L,l.length<=3
 alu:∀l∈R,∀f∈l,f.2.1.size+f.2.2.size<=2
 small:vh V L R
 light:∀l∈R,fw l<=400
theorem ZT:∀ {l:List Fr},(∀f∈l,f.2.1.size+f.2.2.size<=2) ->fw l<=4*l.length
 |[],_=>aq _
 |f::l,h=>by
  have h1:=h f dB;have h2:=ZT fun g hg=>h g (dF _ hg);simp only[fw,dI];omega
theorem agq (hV:VK n Vs) (h:yG bk n n (ar (fh Vs)) Ls Rs) (h1:1<=n) (h6:n<=6):NM (fh Vs) (fS Ls) (l5 Rs):=by
 have hv:(fh Vs).length=n:=by simp[fh,hV.len]
 have hl:(fS Ls).length=n:=by simp[fS,h.len]
 have hr:(l5 Rs).length=n:=by simp[l5,h.lenR]
 have hsk:=hV.sizes
 have Xy:∀l∈l5 Rs,∀f∈l,f.2.1.size+f.2.2.size<=2:=fun l kg=>by
  obtain⟨p,hp,rfl⟩:=aW.1 kg;obtain⟨j,hj,rfl⟩:=iZ hp;exact(h.rows j (by have:=h.len;have:=h.lenR;omega) hj).small
 have Yl:∀l∈l5 Rs,l.length<=81:=fun l kg=>by
  obtain⟨p,hp,rfl⟩:=aW.1 kg;obtain⟨j,hj,rfl⟩:=iZ hp;have GN:j<Ls.length:=by have:=h.len;have:=h.lenR;omega
  rw[(h.rows j GN hj).len];have h2:=(aaB hsk (l:=ag Ls[j].2) (by rw[cY];exact(h.pars j GN).few)).2;have h3:=(hsk.sz j).2;exact aL (jm h2 h3) (by decide)
 have PQ:∀l∈fS Ls,l.length<=3:=fun l kg=>by
  obtain⟨p,hp,rfl⟩:=aW.1 kg;obtain⟨j,hj,rfl⟩:=iZ hp;exact(h.pars j hj).few
 have Yi:∀l∈l5 Rs,fw l<=400:=fun l kg=>by
  have:=ZT (Xy l kg);have:=Yl l kg;omega
 have X7:∀c i,i<10 ->(iy c i).size<=5000:=fun c i hi=>by
  have h1:(iy c i).size=1+(Er i).size:=by rw[iy,ByteArray.size_append];rfl
  rw[h1,Ra hi];omega
 refine⟨agr hV h h1 h6,by omega,by omega,fun u=>(hsk.sz u).2,PQ,Xy,⟨⟨by omega,fun x hx=>?_⟩,⟨by omega,fun l kg=>by have:=PQ l kg;omega⟩,⟨by omega,fun l kg=>⟨by have:=Yl l kg;omega,by have:=Yi l kg;omega⟩⟩⟩,Yi⟩;obtain⟨p,hp,rfl⟩:=aW.1 hx;obtain⟨j,hj,rfl⟩:=iZ hp;obtain⟨e1,k,_,h3,e2⟩:=hV.each j hj;have hj6:j<10:=by have:=hV.len;omega
 refine⟨by rw[show (Vs[j].1,Vs[j].2.2).1=Vs[j].1 from rfl,e1];exact X7 110 j hj6,?_,?_⟩
 ·rw[show (Vs[j].1,Vs[j].2.2).2=Vs[j].2.2 from rfl,e2,JL];omega
 ·rw[show (Vs[j].1,Vs[j].2.2).2=Vs[j].2.2 from rfl,e2];intro s hs;obtain⟨i,hi,rfl⟩:=aW.1 hs;have:=cH.1 hi;exact X7 118 i (by omega)
theorem ags (a1 a2 a3:Option Addr) (c1 c2 c3:Nat) (L1 L2 L3:List Int) (bk:Bool) (w:World) (h1:aC w a1 L1) (h2:aC w a2 L2) (h3:aC w a3 L3) (r1:tB L1) (r2:tB L2) (r3:tB L3):
  Calls Tryz.prog 17 #[.agg #[.slice a1 L1.length c1,.slice a2 L2.length c2,.slice a3 L3.length c3,.bool bk]] w fun e w'=>∃(a b c:Option Addr) (ca cb cc:Nat) (V:List Vr) (L:List (List Int)) (R:List (List Fr)),e=.returned (.agg #[.slice a V.length ca,.slice b L.length cb,.slice c R.length cc])/\jA w' a b c V L R/\tC w' b L/\NM V L R/\Below w.heap.size w w':=by
 refine(agu a1 a2 a3 c1 c2 c3 L1 L2 L3 bk w h1 h2 h3 r1 r2 r3).af ?_;rintro e w' ⟨bk',n,x,y,z,Vs,Ls,Rs,rfl,⟨dW,wG⟩,hV,hL,oV,oL,oR,hb⟩;obtain⟨a,ca,rfl,dU⟩:=oV.vars;obtain⟨b,cb,rfl,BZ,Gz⟩:=oL.pars;obtain⟨c,cc,rfl,KR⟩:=oR.rows;exact⟨a,b,c,ca,cb,cc,_,_,_,rfl,⟨dU,BZ,KR⟩,Gz,agq hV hL dW wG,hb⟩
def pK (V:List Vr) (L:List (List Int)) (R:List (List Fr)) (k:Nat):Rat:=qh V L R (aV (ar V) (List.range V.length) k) V.length
theorem ajH (h:NM V L R):cnt (ar V) (List.range V.length)<=729:=by
 have h1:=LL (S:=ar V) h.szs (List.range V.length);rw[A6] at h1;have h2:3^V.length<=3^6:=iX (by decide) h.six;omega
variable {us:List Nat}
theorem Gd (hn:us.Nodup) (hlt:∀v∈us,v<n):us.Perm ((List.range n).filter fun v=>us.contains v):=
 (Jo hn (Da.sublist Fv)).2 fun v=>by
  rw[dE,cH,zt];exact⟨fun h=>⟨hlt v h,h⟩,fun h=>h.2⟩
theorem ajg {a b:List Nat} (h:a.Perm b):fA R a=fA R b:=by
 induction h with
 |nil=>rfl
 |cons x _ ih=>rw[fA,fA,ih]
 |swap x y l=>simp only[fA];rw[<- gg, <- gg,cV (tA _) (tA _)]
 |trans _ _ h1 h2=>rw[h1,h2]
theorem ajf {a b:List Nat} (h:a.Sublist b):fA R a<=fA R b:=by
 induction h with
 |slnil=>exact aq _
 |cons x _ ih=>rw[fA];exact aL ih (zi _ (jZ (H7 _)))
 |cons_cons x _ ih=>rw[fA,fA];exact j5 _ ih
theorem ajh (hn:us.Nodup) (hlt:∀v∈us,v<n):fA R us<=fA R (List.range n):=by
 rw[ajg (Gd hn hlt)];exact ajf Fv
theorem JQ (S:List Nat):∀l,iu S l=cnt S l
 |[]=>rfl
 |v::l=>by rw[iu,cnt,JQ S l]
theorem aaA (h:∀v,sz S v<=4):∀l:List Nat,cnt S l<=4^l.length
 |[]=>aq _
 |v::l=>by
  rw[cnt,dI,gH,cV];exact jm (aaA h l) (h v)
theorem acH (hf:dZ (iL S)) (v:Nat):sz S v<=4:=by
 by_cases hv:v<S.length
 ·have h1:=(hf.each v (by rw[bs];exact hv)).2;have h2:(iL S)[v]'(by rw[bs];exact hv)=(S[v]:Int):=by simp[iL]
  rw[h2] at h1;rw[sz,a8 hv];show S[v]<=4;omega
 ·rw[sz,iJ (by omega)];decide
theorem Re (hf:dZ (iL S)) (hn:us.Nodup) (hlt:∀v∈us,v<S.length):cnt S us<=65536:=by
 have h1:=(Gd hn hlt).length_eq;have h2:((List.range S.length).filter fun v=>us.contains v).length<=S.length:=aL (lT ..) (by simp);have h3:=hf.eight;rw[bs] at h3;have h4:=aaA (acH hf) us;have h5:4^us.length<=4^8:=iX (by decide) (by omega);exact aL h4 h5
theorem abx (h:n<=65536):(B n).size<=3:=by
 have h1:=i6 h;have h2:(B 65536).size<=3:=by rw[kA];exact nM 3 65536 (by decide)
 omega
def p6 (V:List Vr) (R:List (List Fr)):Prop:=(B (fA R (List.range V.length))).size<=4000
theorem p6.at (h:p6 V R) (hn:us.Nodup) (hlt:∀v∈us,v<V.length):(B (fA R us)).size<=4000:=aL (i6 (ajh hn hlt)) h
theorem p6.pool (h:p6 V R) (h0:bj V L R=0) (hn:us.Nodup) (hlt:∀v∈us,v<V.length) (hv:vs.Nodup) (ie:∀v∈vs,v<V.length):2*(B (fA R us)).size+(B (iu (ar V) vs*1)).size+2<=8192:=by
 have h1:=h.at hn hlt
 have h2:iu (ar V) vs*1<=65536:=by
  rw[nW,JQ];exact Re (iz h0).fine hv (by rw[kI];exact ie)
 have h3:=abx h2;omega
theorem Wp (h0:bj V L R=0):bQ L=0:=by
 rw[bj] at h0;by_cases h1:L.length=V.length/\R.length=V.length
 ·rw[aA h1] at h0;by_cases h2:bQ L=0
  ·exact h2
  ·rw[aD h2] at h0;exact absurd h0 h2
 ·rw[aD h1] at h0;exact absurd h0 (by decide)
theorem adK (h0:bj V L R=0):rj L (·∈List.range V.length):=fun v _ u hu=>by
 have aZ:=iz h0;rw[<- Vz] at hu;have:=(OA (tz (Wp h0)) v u hu).1;rw[aZ.len] at this;exact cH.2 this
theorem aeD (h0:bj V L R=0) (hp:Pos (ar V)) (hk:k<cnt (ar V) (List.range V.length)):dS (fA R (List.range V.length)) (pK V L R k)/\jW 1 (pK V L R k):=by
 have hf:Fit (ar V) (aV (ar V) (List.range V.length) k):=fun u=>qP hp _ _ u hk;have h1:=(PD.net (R:=R) (L:=L) (ws:=List.range V.length) h0 (fun v hv=>cH.1 hv)).prod hf;have h2:=(PI.net h0 (fun v hv=>cH.1 hv) (adK h0)).val _ hf;rw[h2, <- NY] at h1;exact h1
def aK (V:List Vr) (L:List (List Int)) (R:List (List Fr)) (l:List (Nat×Nat)) (k:Nat):Rat:=gQ l (aV (ar V) (List.range V.length) k)*pK V L R k
theorem DK (V:List Vr) (L:List (List Int)) (R:List (List Fr)) (l:List (Nat×Nat)):aX V L R l=ba (aK V L R l) (cnt (ar V) (List.range V.length)):=rfl
theorem RF (h0:bj V L R=0) (hp:Pos (ar V)) (l:List (Nat×Nat)) (hk:k<cnt (ar V) (List.range V.length)):dS (fA R (List.range V.length)) (aK V L R l k)/\jW 1 (aK V L R l k):=by
 obtain⟨h1,h2⟩:=aeD h0 hp hk;rw[aK,K6];by_cases h:Ce l (aV (ar V) (List.range V.length) k)=true
 ·rw[aA h,vH];exact⟨h1,h2⟩
 ·rw[aD h,Rat.zero_mul];exact⟨dS.zero _,by constructor<;>decide⟩
theorem acL (h0:bj V L R=0) (hD:p6 V R) {g:Nat ->Rat} (hn:n<=65536) (hg:∀k,k< n ->dS (fA R (List.range V.length)) (g k)/\jW 1 (g k)):qw (ba g n)<=8003:=by
 have hz:fA R (List.range V.length)≠0:=(PD.net (V:=V) (L:=L) h0 (fun v hv=>cH.1 hv)).nz.1;have h1:=dS.sum (k:=n) fun x hx=>(hg x hx).1;have h2:=jW.sum (k:=n) fun x hx=>(hg x hx).2;have h3:=h1.size hz h2;have h4:=abx (n:=n*1) (by omega);have h5:(B (fA R (List.range V.length))).size<=4000:=hD;omega
theorem aaZ (h0:bj V L R=0):cnt (ar V) (List.range V.length)<=65536:=Re (iz h0).fine Da fun v hv=>by rw[kI];exact cH.1 hv
theorem KA (h0:bj V L R=0) (hp:Pos (ar V)) (hD:p6 V R) (l:List (Nat×Nat)) (hn:n<=cnt (ar V) (List.range V.length)):qw (ba (aK V L R l) n)<=8003:=
 acL h0 hD (aL hn (aaZ h0)) fun k hk=>RF h0 hp l (by omega)
theorem uf (h0:bj V L R=0):Pos (ar V):=by have:=(iz h0).fine.pos;rwa [fF] at this
theorem ajs (f:Fr):(B (a7 f).den).size<=f.2.2.size+1:=by
 have e:a7 f=mkRat (sg f.1 (N f.2.1)) (N f.2.2):=rfl;by_cases h:N f.2.2=0
 ·rw[e,h,Rat.mkRat_zero];have:(B ((0:Rat).den)).size<=1:=by rw[kA];exact nM 1 1 (by decide)
  omega
 ·have h1:dS (N f.2.2) (a7 f):=⟨_,e⟩;have h2:=Nat.le_of_dvd (jZ h) (h1.dvd h);have h3:=i6 h2;have h4:=il f.2.2;omega
theorem aao (y:Nat):∀l:List Fr,(B (tA l*y)).size<=l.length+sw l+(B y).size
 |[]=>by rw[tA,jF];omega
 |f::l=>by
  rw[tA,gg];have h1:=o6 (a7 f).den (tA l*y);have h2:=ajs f;have h3:=aao y l;rw[dI,sw];omega
def wR (R:List (List Fr)):List Nat ->Nat
 |[]=>0
 |v::vs=>(R.getD v []).length+sw (R.getD v [])+wR R vs
theorem aan (R:List (List Fr)):∀us:List Nat,(B (fA R us)).size<=wR R us+1
 |[]=>by
  show (B 1).size<=0+1;rw[kA];exact nM 1 1 (by decide)
 |v::vs=>by
  rw[fA,wR];have h1:=aao (fA R vs) (R.getD v []);have h2:=aan R vs;omega
end Go.Proofs.YtfgkjjlocjmfeaaGreatDoor
