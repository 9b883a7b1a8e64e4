/- Part3: part 3. -/
import Derived.Test.YtfgkjjlocjmfeaaGreatDoorSide2
set_option maxRecDepth 100000
set_option maxHeartbeats 400000000
set_option linter.unusedSimpArgs false
set_option linter.unusedVariables false
namespace Go.Proofs.YtfgkjjlocjmfeaaGreatDoor
open Go.RowKit Go.Shelf
theorem akt (Bt Bf Bv:Nat) (c:Option Addr) (cc:Nat) (lb:Array Value) (l:List Fr) (k val P:Nat) (hP:P<l.length) (w:World) (uP:Bt<w.heap.size) (xc:w.cell? ⟨Bt,1,none⟩=some (.slice c l.length cc)) (zh:Bf<w.heap.size) (xf:w.cell? ⟨Bf,0,none⟩=some (.func (.func 200) #[] lb)) (F3:Bv<w.heap.size) (xv:w.cell? ⟨Bv,0,none⟩=some (.int .i64 (val:Nat))) (hf:ew w c l) (h1:Cw 100000 l)
  (hc:∀V,Below w.heap.size w V ->Calls Tryz.prog 200 (#[.int .i64 (k:Nat),.int .i64 (val:Nat)]++lb) V fun e w'=>e=.returned (.int .i64 (P:Nat))/\Below V.heap.size V w'):
  Calls Tryz.prog 157 #[.int .i64 (k:Nat),.pointer (some ⟨Bt,0,none⟩),.pointer (some ⟨Bf,0,none⟩),.pointer (some ⟨Bv,0,none⟩)] w fun e w'=>e=.returned (fh (qF (bt (bZ l P))))/\Below w.heap.size w w':=by
 obtain⟨g,o,rfl,hg,a0,a1,a2⟩:=hf P hP;have hsz:=h1 P hP;rw[<- rZ hP] at a0 a1 a2;have HW:=hid hc;have HC:=hid (fun V:World=>Va (w:=V) (bt (bZ l P)) rfl (show (bZ l P).2.1.size+(bZ l P).2.2.size<=100000 by omega));rw[S5];generalize bt (bZ l P)=r at *;clear hf hc h1 hsz;generalize bZ l P=f at *;obtain⟨fn,fx,fy⟩:=f;simp only at a0 a1 a2 HC;have hb0:aL (w.alloc (FC false ⟨#[]⟩ ⟨#[]⟩)) w.heap.size false ⟨#[]⟩ ⟨#[]⟩:=aL.new w _ _ _;have hB:Below w.heap.size w (w.alloc (FC false ⟨#[]⟩ ⟨#[]⟩)):=(aw _ w).alloc (ak _) _;go_enter Tryz.func157,Tryz.ntmps157;go_upto_region 1 with fail
 generalize (w.alloc (FC false ⟨#[]⟩ ⟨#[]⟩))=W at *;replace hb0:=hb0.drew;replace hB:=hB.drew;have held:∀u,Below w.heap.size w u ->u.cell? ⟨Bt,1,none⟩=some (.slice (some ⟨g,o,none⟩) l.length cc)/\u.cell? ⟨Bf,0,none⟩=some (.func (.func 200) #[] lb)/\u.cell? ⟨Bv,0,none⟩=some (.int .i64 (val:Nat))/\u.cell? ⟨g,o+P*3,none⟩=some (.bool fn)/\u.cell? ⟨g,o+P*3+1,none⟩=some (.string fx)/\u.cell? ⟨g,o+P*3+2,none⟩=some (.string fy):=fun u h=>⟨(h.cell (p:=⟨Bt,1,none⟩) uP).trans xc,(h.cell (p:=⟨Bf,0,none⟩) zh).trans xf,(h.cell (p:=⟨Bv,0,none⟩) F3).trans xv,(h.cell (p:=⟨g,_,none⟩) hg).trans a0,(h.cell (p:=⟨g,_,none⟩) hg).trans a1,(h.cell (p:=⟨g,_,none⟩) hg).trans a2⟩;have HELD:=hid held;clear held a0 a1 a2 xc xf xv;refine kC (S:=fun u=>u.cell? ⟨Bt,1,none⟩=some (.slice (some ⟨g,o,none⟩) l.length cc)/\u.cell? ⟨Bf,0,none⟩=some (.func (.func 200) #[] lb)/\u.cell? ⟨Bv,0,none⟩=some (.int .i64 (val:Nat))/\u.cell? ⟨g,o+P*3,none⟩=some (.bool fn)/\u.cell? ⟨g,o+P*3+1,none⟩=some (.string fx)/\u.cell? ⟨g,o+P*3+2,none⟩=some (.string fy)) (by kernel_rfl) (HELD.o _ hB) (fun ah=>?_);generalize W.drew=u0 at *;refine ar 0 (.pointer (some ⟨Bt,1,none⟩)) ?_;refine ar 1 (.slice (some ⟨g,o,none⟩) l.length cc) ?_;refine ar 2 (.func (.func 200) #[] lb) ?_;refine ar 3 (.int .i64 (k:Nat)) ?_;refine ar 4 (.int .i64 (val:Nat)) ?_;refine aI [5] (cA ?_ aH);intro K' hK';go_simp;refine(HW.o _ hB).ae ?_;rintro e u1 ⟨rfl,hb⟩;replace hb0:=hb0.aa hb hb0.lt;replace hB:=hB.trans (hb.ae hB.size)
 refine hK'.o _ _ (HELD.o _ hB) (fun ag=>?_);clear hK' K' ah;have ah:=ag;clear ag hb;refine ar 6 (.pointer (some ⟨g,o+P*3,none⟩)) ?_;refine ar 7 (.agg #[.bool fn,.string fx,.string fy]) ?_;refine aI [8] (cA ?_ aH);intro K' hK';go_simp;refine(HC.o _).ae ?_;rintro e u2 ⟨rfl,hb⟩;replace hb0:=hb0.aa hb hb0.lt;replace hB:=hB.trans (hb.ae hB.size);refine hK'.o _ _ (HELD.o _ hB) (fun ag=>?_);clear hK' K' ah;have ah:=ag;clear ag hb;try simp only[gE,aP]
 obtain⟨k0,k1,k2,f0,f1,f2⟩:=hb0.facts;refine aI [9] (cA ?_ aH);intro K' hK';go_simp;have hput:=hb0.put (cI r) (nu r) (de r);have uR:=df hB (g:=w.heap.size) (ak _) (.bool (cI r)) (.string (nu r)) (.string (de r));generalize (((u2.setCell ⟨w.heap.size,0,none⟩ (.bool (cI r))).setCell ⟨w.heap.size,1,none⟩ (.string (nu r))).setCell ⟨w.heap.size,2,none⟩ (.string (de r)))=v9 at *;refine hK'.o _ _ (HELD.o _ uR) (fun _=>dW (by kernel_rfl) ?_ _);clear hK' K' ah;go_wp2;refine dh (hput.result rfl _ rfl) rfl ?_;exact⟨rfl,uR⟩
theorem agA (Bt Bf Bv:Nat) (c:Option Addr) (cc:Nat) (lb:Array Value) (l:List Fr) (k val P:Nat) (hP:P<l.length) (w:World) (uP:Bt<w.heap.size) (xc:w.cell? ⟨Bt,1,none⟩=some (.slice c l.length cc)) (zh:Bf<w.heap.size) (xf:w.cell? ⟨Bf,0,none⟩=some (.func (.func 200) #[] lb)) (F3:Bv<w.heap.size) (xv:w.cell? ⟨Bv,0,none⟩=some (.int .i64 (k:Nat))) (hf:ew w c l)
  (hc:∀V,Below w.heap.size w V ->Calls Tryz.prog 200 (#[.int .i64 (k:Nat),.int .i64 (val:Nat)]++lb) V fun e w'=>e=.returned (.int .i64 (P:Nat))/\Below V.heap.size V w'):
  Calls Tryz.prog 206 #[.int .i64 (val:Nat),.pointer (some ⟨Bt,0,none⟩),.pointer (some ⟨Bf,0,none⟩),.pointer (some ⟨Bv,0,none⟩)] w fun e w'=>e=.returned (fh (bZ l P))/\Below w.heap.size w w':=by
 obtain⟨g,o,rfl,hg,a0,a1,a2⟩:=hf P hP;rw[<- rZ hP] at a0 a1 a2;have HW:=hid hc;clear hf hc;generalize bZ l P=f at *;obtain⟨fn,fx,fy⟩:=f;simp only at a0 a1 a2;have hb0:aL (w.alloc (FC false ⟨#[]⟩ ⟨#[]⟩)) w.heap.size false ⟨#[]⟩ ⟨#[]⟩:=aL.new w _ _ _;have hB:Below w.heap.size w (w.alloc (FC false ⟨#[]⟩ ⟨#[]⟩)):=(aw _ w).alloc (ak _) _;go_enter Tryz.func206,Tryz.ntmps206;go_upto_region 1 with fail
 generalize (w.alloc (FC false ⟨#[]⟩ ⟨#[]⟩))=W at *;replace hb0:=hb0.drew;replace hB:=hB.drew;have held:∀u,Below w.heap.size w u ->u.cell? ⟨Bt,1,none⟩=some (.slice (some ⟨g,o,none⟩) l.length cc)/\u.cell? ⟨Bf,0,none⟩=some (.func (.func 200) #[] lb)/\u.cell? ⟨Bv,0,none⟩=some (.int .i64 (k:Nat))/\u.cell? ⟨g,o+P*3,none⟩=some (.bool fn)/\u.cell? ⟨g,o+P*3+1,none⟩=some (.string fx)/\u.cell? ⟨g,o+P*3+2,none⟩=some (.string fy):=fun u h=>⟨(h.cell (p:=⟨Bt,1,none⟩) uP).trans xc,(h.cell (p:=⟨Bf,0,none⟩) zh).trans xf,(h.cell (p:=⟨Bv,0,none⟩) F3).trans xv,(h.cell (p:=⟨g,_,none⟩) hg).trans a0,(h.cell (p:=⟨g,_,none⟩) hg).trans a1,(h.cell (p:=⟨g,_,none⟩) hg).trans a2⟩;have HELD:=hid held;clear held a0 a1 a2 xc xf xv;refine kC (S:=fun u=>u.cell? ⟨Bt,1,none⟩=some (.slice (some ⟨g,o,none⟩) l.length cc)/\u.cell? ⟨Bf,0,none⟩=some (.func (.func 200) #[] lb)/\u.cell? ⟨Bv,0,none⟩=some (.int .i64 (k:Nat))/\u.cell? ⟨g,o+P*3,none⟩=some (.bool fn)/\u.cell? ⟨g,o+P*3+1,none⟩=some (.string fx)/\u.cell? ⟨g,o+P*3+2,none⟩=some (.string fy)) (by kernel_rfl) (HELD.o _ hB) (fun ah=>?_);generalize W.drew=u0 at *;refine ar 0 (.pointer (some ⟨Bt,1,none⟩)) ?_;refine ar 1 (.slice (some ⟨g,o,none⟩) l.length cc) ?_;refine ar 2 (.func (.func 200) #[] lb) ?_;refine ar 3 (.int .i64 (k:Nat)) ?_;refine ar 4 (.int .i64 (val:Nat)) ?_;refine aI [5] (cA ?_ aH);intro K' hK';go_simp;refine(HW.o _ hB).ae ?_;rintro e u1 ⟨rfl,hb⟩;replace hb0:=hb0.aa hb hb0.lt;replace hB:=hB.trans (hb.ae hB.size)
 refine hK'.o _ _ (HELD.o _ hB) (fun ag=>?_);clear hK' K' ah;have ah:=ag;clear ag hb;refine ar 6 (.pointer (some ⟨g,o+P*3,none⟩)) ?_;refine ar 7 (.agg #[.bool fn,.string fx,.string fy]) ?_;try simp only[gE,aP]
 obtain⟨k0,k1,k2,f0,f1,f2⟩:=hb0.facts;refine aI [8] (cA ?_ aH);intro K' hK';go_simp;have hput:=hb0.put (fn) (fx) (fy);have uR:=df hB (g:=w.heap.size) (ak _) (.bool (fn)) (.string (fx)) (.string (fy));generalize (((u1.setCell ⟨w.heap.size,0,none⟩ (.bool (fn))).setCell ⟨w.heap.size,1,none⟩ (.string (fx))).setCell ⟨w.heap.size,2,none⟩ (.string (fy)))=v9 at *;refine hK'.o _ _ (HELD.o _ uR) (fun _=>dW (by kernel_rfl) ?_ _);clear hK' K' ah;go_wp2;refine dh (hput.result rfl _ rfl) rfl ?_;exact⟨rfl,uR⟩
variable {l other:List Int} {ca cb cc k m n v:Nat} {a:Option Addr} {V V' w:World}
def NR (w V:World) (T R:Nat) (u v:Value):Prop:=bG V T u v/\bG V R (.slice none 0 0) (.slice none 0 0)/\Below w.heap.size w V
theorem NR.step {T R:Nat} {u v:Value} (h:NR w V T R u v) (hb:Below V.heap.size V V'):NR w V' T R u v:=⟨h.1.aa hb h.1.lt,h.2.1.aa hb h.2.1.lt,h.2.2.trans (hb.ae h.2.2.size)⟩
theorem NR.off {T R:Nat} {u v:Value} (h:NR w V T R u v) (B j:Nat) (y:Value) (hT:T≠B) (hR:R≠B) (hB:w.heap.size<=B):NR w (V.setCell ⟨B,j,none⟩ y) T R u v:=⟨h.1.off B j y hT,h.2.1.off B j y hR,h.2.2.setCell (p:=⟨B,j,none⟩) hB y⟩
theorem NR.fin {T R:Nat} {u v:Value} (h:NR w V T R u v) (hR:w.heap.size<=R) {vars:List Int} {b:Option Addr} {l:List Fr} {G:Nat} (qG:fV w.heap.size b cb) (hgn:w.heap.size<=G) (hi:aC V b vars) (hr:jw V G l) (hG:G≠R) (x y:Value) (hx:x=.slice b vars.length cb) (hy:y=.slice (some ⟨G,0,none⟩) l.length cc):
  bG ((V.setCell ⟨R,0,none⟩ x).setCell ⟨R,1,none⟩ y) R x y/\r8 w.heap.size vars l 0 (.returned (.tuple #[.agg #[x,y],.int .i64 0])) ((V.setCell ⟨R,0,none⟩ x).setCell ⟨R,1,none⟩ y)/\Below w.heap.size w ((V.setCell ⟨R,0,none⟩ x).setCell ⟨R,1,none⟩ y):=by
 subst hx hy;exact⟨h.2.1.put _ _,⟨b,some ⟨G,0,none⟩,cb,cc,rfl,hi.putT h.2.1 (slv _ _ _) (slv _ _ _) (slv _ _ _) _,((hr.off _ 0 _ hG).off _ 1 _ hG).fr,qG,fV.at hgn⟩,tI h.2.2 hR _ _⟩
theorem fK:Up l n↔(∀x∈l,0<=x/\x<n)/\l.Pairwise (·<·):=by
 constructor
 ·intro h;refine⟨fun x hx=>?_,vS.2 fun i j hi hj oT=>h.lt i j hj oT⟩;obtain⟨i,hi,rfl⟩:=jg hx;exact h.each i hi
 ·rintro⟨h1,h2⟩;exact⟨fun i hi=>h1 _ (bY hi),fun i j hj hi=>vS.1 h2 i j (by omega) hj hi⟩
theorem rM {vars:List Int} (h:Up vars n) (v:Int):Up (bP vars v) n:=by
 rw[fK] at h⊢;exact⟨fun x hx=>h.1 x (cJ.1 hx).1,h.2.filter _⟩
theorem L8 {vars:List Int} (h:Up vars n):¬v∈af (bP vars (v:Int)):=fun hm=>by
 obtain⟨x,hx,e⟩:=aU.1 hm;have h1:=(fK.1 (rM h v)).1 x hx;have h2:=(cJ.1 hx).2;simp at h2;omega
theorem abg (S vars rest:List Nat) (v x:Nat) (l:List Fr):(uV S vars rest v x l).length=cnt S rest:=by simp[uV]
theorem aks (S vars rest:List Nat) (v x:Nat) (l:List Fr) (h:k<(uV S vars rest v x l).length):(uV S vars rest v x l)[k]=qF (bt (bZ l (pos S (aQ (a8 S rest k) v x) vars))):=by simp[uV]
theorem sf.shape {W:World} {f:Value} {b:Option Addr} {sizes vars:List Int} (h:sf W n m f a b ca cb sizes vars other v):∃lb,f=.func (.func 200) #[] lb:=by
 obtain⟨_,_,_,he,_⟩:=h;exact⟨_,he⟩
theorem sf.top {W:World} {f:Value} {b:Option Addr} {sizes vars:List Int} (h:sf W n m f a b ca cb sizes vars other v):m<=W.heap.size:=by
 obtain⟨_,_,_,_,_,_,_,_,hm,_⟩:=h;exact hm
theorem sf.aa {W:World} {f:Value} {b:Option Addr} {sizes vars:List Int} (h:sf W n m f a b ca cb sizes vars other v) (hb:Below W.heap.size W V):sf V n m f a b ca cb sizes vars other v:=h.kept (xz.of_below hb h.top)
theorem Pc {sizes vars rest:List Int} {x K:Nat} (hk:kp sizes vars m=0) (hK:K<cnt (af sizes) (af rest)) (hx:x<sz (af sizes) v):pos (af sizes) (aQ (a8 (af sizes) (af rest) K) v x) (af vars)<m:=by
 obtain⟨h1,h2,h3⟩:=D8 hk;rw[h3];exact rI _ (adA (fun u=>vd h1.pos _ _ u hK) hx) _
theorem aeb (a b c:Option Addr) (ca cb cc:Nat) (sizes vars:List Int) (l:List Fr) (v x:Nat) (w:World) (hs:aC w a sizes) (hv:aC w b vars) (hf:ew w c l) (hn:sizes.length<=140737488355328) (hm:vars.length<=140737488355328) (hk:kp sizes vars l.length=0) (hw:Cw 100000 l) (hv':v<sizes.length) (hx':x<sz (af sizes) v):
  Calls Tryz.prog 97 #[.slice a sizes.length ca,.agg #[.slice b vars.length cb,.slice c l.length cc],.int .i64 (v:Nat),.int .i64 (x:Nat)] w fun e w'=>r8 w.heap.size (bP vars (v:Int)) (uV (af sizes) (af vars) (af (bP vars (v:Int))) v x l) 0 e w'/\Below w.heap.size w w':=by
 obtain⟨aN,aT,hlc⟩:=D8 hk;have UJ:=hid (fun V h=>aik a ca sizes v x V h aN hv');rw[bT (show 0<=(x:Int)/\(x:Int)<(sz (af sizes) v:Int) by omega)] at UJ;have hx4:x<=4:=by have:=aN.sz_le v;omega
 have po:=fun V h1 h2=>Hw a b c ca cb cc l.length sizes vars V h1 h2 hn hm;rw[hk] at po;have HC:=hid po;clear po;have h0:(0:Int)<=(v:Int):=by omega
 have h1:(v:Int)<(sizes.length:Int):=by omega
 have hrl:(bP vars (v:Int)).length<=vars.length:=l6 _ _;have ZJ:=aT.length;have pI:=aN.eight;have cU:=hid aN;have kz:=hid aT;have BV:=hid (rM aT (v:Int));have En:=hid (L8 (v:=v) aT);have fX:=hid (fun K (hK:K<cnt (af sizes) (af (bP vars (v:Int))))=>Pc hk hK hx');have jP:=abg (af sizes) (af vars) (af (bP vars (v:Int))) v x l;have vJ:=hid (fun (k:Nat) (h:k<(uV (af sizes) (af vars) (af (bP vars (v:Int))) v x l).length)=>aks (af sizes) (af vars) (af (bP vars (v:Int))) v x l h);have kT:=hid (fun V h=>Pb b cb vars (v:Int) V h (by omega));generalize uV (af sizes) (af vars) (af (bP vars (v:Int))) v x l=FL at *;generalize bP vars (v:Int)=rest at *;have HST:=hid (fun V d cd h1 h2=>Pz a d b ca cd cb sizes rest vars v V h1 h2 aN aT hv');have HF:=hid hf;have HW:=hid hw;have iq:=hid jP;clear hx' hk aN aT hlc hf hw jP;have HS:=hid hs;have HV:=hid hv;have hH:NR w (((w.alloc (TC (.slice b vars.length cb) (.slice c l.length cc))).alloc (.cells #[.int .i64 (x:Nat)] 3)).alloc (TC (.slice none 0 0) (.slice none 0 0))) w.heap.size (w.heap.size+1+1) (.slice b vars.length cb) (.slice c l.length cc):=⟨((bG.at (w:=w) rfl _ _).alloc _).alloc _,bG.at (by simp) _ _,(((aw _ w).alloc (ak _) _).alloc (by simp) _).alloc (by simp;omega) _⟩
 have hX:Boxed (((w.alloc (TC (.slice b vars.length cb) (.slice c l.length cc))).alloc (.cells #[.int .i64 (x:Nat)] 3)).alloc (TC (.slice none 0 0) (.slice none 0 0))) (w.heap.size+1) 3 (.int .i64 (x:Nat)):=by
  have h:=(aZ (w.alloc (TC (.slice b vars.length cb) (.slice c l.length cc))) 3 (.int .i64 (x:Nat))).alloc (TC (.slice none 0 0) (.slice none 0 0));rwa [dE] at h
 have c0:=hH.1.c0;have c1:=hH.1.c1;go_enter Tryz.func97,Tryz.ntmps97;go_wp2_with fail
 generalize (((w.alloc (TC (.slice b vars.length cb) (.slice c l.length cc))).alloc (.cells #[.int .i64 (x:Nat)] 3)).alloc (TC (.slice none 0 0) (.slice none 0 0)))=W at *;refine(HC.o _ (HS.o.aa hH.2.2) (HV.o.aa hH.2.2)).ae ?_;rintro e w1 ⟨rfl,hb1⟩;replace hH:=hH.step hb1;replace hX:=aY hX hb1;clear c0 c1 hb1;have cx:=hX.cell;go_wp2_with fail
 refine(UJ.o _ (HS.o.aa hH.2.2)).ae ?_;rintro e w2 ⟨rfl,hb2⟩;replace hH:=hH.step hb2;replace hX:=aY hX hb2;clear cx hb2 UJ HC;have c0:=hH.1.c0;go_wp2_with fail
 refine(kT.o _ (HV.o.aa hH.2.2)).ae ?_;rintro e w3 ⟨d,cd,rfl,hi,qG,hb3⟩;have EB:=hid (qG.up hH.2.2.size);clear qG;replace hH:=hH.step hb3;replace hX:=aY hX hb3;clear c0 hb3 kT;have c0:=hH.1.c0;go_wp2_with fail
 refine(HST.o _ d cd (HS.o.aa hH.2.2) (HV.o.aa hH.2.2)).ae ?_;rintro e w4 ⟨f,rfl,qJ,hb4⟩;have hl3:=hH.2.1.lt;replace hH:=hH.step hb4;replace hX:=aY hX hb4;replace hi:=hi.aa hb4;obtain⟨lb,rfl⟩:=qJ.shape;have jO:=hb4.size;clear c0 hb4 HST;generalize w3.heap.size=n3 at *;have iK:Below w4.heap.size w4 (w4.alloc (.cells #[.func (.func 200) #[] lb] 100)):=(aw _ w4).alloc (ak _) _;have hY:Boxed (w4.alloc (.cells #[.func (.func 200) #[] lb] 100)) w4.heap.size 100 (.func (.func 200) #[] lb):=aZ w4 _ _;replace hH:=hH.step iK;replace hX:=aY hX iK;replace qJ:=qJ.aa iK;replace hi:=hi.aa iK;go_wp2_with fail
 clear iK;generalize (w4.alloc (.cells #[.func (.func 200) #[] lb] 100))=w5 at *;generalize w4.heap.size=B12 at *
 have uE:=Nb a d ca cd sizes rest 157 #[.pointer (some ⟨w.heap.size,0,none⟩),.pointer (some ⟨B12,0,none⟩),.pointer (some ⟨w.heap.size+1,0,none⟩)] (enters_of Tryz.func157 (by kernel_rfl) rfl) FL w5 (HS.o.aa hH.2.2) hi cU.o BV.o iq.o (fun k hk V hb=>by
  rw[vJ.o k hk];have fN:k<cnt (af sizes) (af rest):=by rw[<- iq.o];exact hk
  have hB:=hH.2.2.trans (hb.ae hH.2.2.size);refine akt w.heap.size B12 (w.heap.size+1) c cc lb l k x _ (fX.o k fN) V (aR hH.1.lt hb.size) ((hb.cell (p:=⟨w.heap.size,1,none⟩) hH.1.lt).trans hH.1.c1) (aR hY.lt hb.size) (aY hY hb).cell (aR hX.lt hb.size) (aY hX hb).cell (HF.o.aa hB) HW.o ?_;intro V' hb';have hb2:=hb.trans (hb'.ae hb.size);exact((qJ.aa hb2).calls (HS.o.aa (hB.trans (hb'.ae hB.size))) (hi.aa hb2) cU.o BV.o kz.o En.o fN hx4))
 have Ex:=hid uE;clear uE;refine Ex.o.ae ?_;rintro e w6 ⟨G,rfl,hG,hrow,iK⟩;have hl6:=hH.2.1.lt;replace hH:=hH.step iK;replace hi:=hi.aa iK;obtain⟨k0,k1,f0,f1⟩:=hH.2.1.facts;obtain⟨e1,e2,e3⟩:=hH.fin (by omega) (cb:=cd) (cc:=FL.length) EB.o (by omega) hi hrow (by omega) (.slice d rest.length cd) (.slice (some ⟨G,0,none⟩) FL.length FL.length) rfl rfl;go_wp2;refine dh (e1.result2 rfl _ rfl) rfl ?_;exact⟨e2,e3⟩
variable {ops:Array Oper} {Q:Exit ->Act ->World ->Prop} {rest:List Oper} {w':World}
def iO (w:World) (B:Nat) (v:Value) (l:List Fr):Prop:=w.ownsRow B 32 3 v l.length (iN l)
theorem iO.empty (w:World) (B:Nat):iO w B (.slice none 0 0) []:=⟨rfl,.inl ⟨rfl,rfl⟩⟩
theorem iO.aa {B:Nat} {v:Value} {l:List Fr} (h:iO w B v l) (hb:Below w.heap.size w w'):iO w' B v l:=by
 refine⟨h.1,h.2.imp id ?_⟩;rintro⟨g,cap,cur,h1,h2,h3,h4⟩;exact⟨g,cap,cur,h1,h2,(hb.block g (cV.1 h3).1).trans h3,h4⟩
theorem iO.own {B:Nat} {v:Value} {l:List Fr} (h:iO w B v l):∀k,v.ownBlock=some k ->B<=k:=by
 intro k hk;rcases h.2 with ⟨rfl,_⟩ |⟨g,cap,cur,rfl,h2,_⟩
 ·cases hk
 ·cases hk;exact h2
theorem iO.fr {B:Nat} {v:Value} {l:List Fr} (h:iO w B v l):∃d cd,v=.slice d l.length cd/\ew w d l:=by
 rcases h.2 with ⟨h1,h2⟩ |⟨g,cap,cur,h1,h2,h3,h4,h5,h6,h7⟩
 ·have:l=[]:=EP.1 h2;subst this;exact⟨none,0,h1,fun k hk=>absurd hk (by simp)⟩
 ·refine⟨_,_,h1,fun k hk=>?_⟩;obtain⟨e1,e2,e3⟩:=M7 l k hk
  have at_:∀j,j<l.length*3 ->cur[j]? =(iN l)[j]?:=fun j hj=>by
   rw[<- h7,rB,aB hj,vY]
  refine⟨g,0,rfl,(cV.1 h3).1,?_,?_,?_⟩
  ·rw[bE w g _ _ _ (0,0) h3,bI,at_ _ (by omega)];exact e1
  ·rw[bE w g _ _ _ (0,0) h3,bI,at_ _ (by omega)];exact e2
  ·rw[bE w g _ _ _ (0,0) h3,bI,at_ _ (by omega)];exact e3
theorem akl (l:List Fr) (f:Fr):iN (l++[f])=iN l++[.bool f.1,.string f.2.1,.string f.2.2]:=by
 induction l with
 |nil=>rfl
 |cons x l ih=>simp only[eC,iN,ih]
theorem adm {o:Oper} {a:Act} (hgd:o.guard=none) (s x:Operand)
  (ho:o.op=.call {callee:=.builtin .append,args:= #[s,x],argTypes:= #[37,37]}) (base:Nat) (v:Value) (l:List Fr) (f:Fr) (hs:a.eval s=v) (hown:iO w base v l) (g:Nat) (hx:a.eval x=.slice (some ⟨g,0,none⟩) 1 1) (hg:aL w g f.1 f.2.1 f.2.2) (hlen:l.length+1<=100000) (hbase:base<=w.heap.size)
  (h:∀v' w',iO w' base v' (l++[f]) ->w.grownBy w' v.ownBlock ->wpList Tryz.prog ops Q rest (a.put o.dst v') w'):wpList Tryz.prog ops Q (o::rest) a w:=by
 obtain⟨i0,bS,hz0,hz1,hz2⟩:=dK Tryz.infoFrac;refine Cn _ hgd s x 37 ho base 32 i0 (.agg #[.bool false,.string ⟨#[]⟩,.string ⟨#[]⟩]) 3 40 Tryz.underlying37 bS hz0 hz1 hz2 rfl (by decide) v l.length _ hs hown ⟨g,0,none⟩ 1 1 [.bool f.1,.string f.2.1,.string f.2.2] hx rfl ?_ ?_ (by unfold maxLen;omega) (by omega) hbase ?_
 ·intro j u hj;match j,hj with
  |0,hj=>cases hj;exact hg.c0
  |1,hj=>cases hj;exact hg.c1
  |2,hj=>cases hj;exact hg.c2
  |j+3,hj=>simp at hj
 ·intro u hu;simp only[cT,iT,oC] at hu;rcases hu with rfl |rfl |rfl<;>rfl
 ·intro v' w' h1 h2 _;refine h v' w' ?_ h2;rw[iO,bM,akl];exact h1
theorem Nl {sizes vars:List Int} (h1:eK sizes) (h2:Up vars sizes.length):countB sizes vars=true:=by
 rw[countB,fD];constructor
 ·rw[lK,fD,dQ];refine⟨⟨h1.one,h1.eight⟩,dN.2 fun x hx=>?_⟩;obtain⟨i,hi,rfl⟩:=jg hx;rw[yH,dQ];exact h1.each i hi
 ·rw[dZ,dN];intro i hi;have hi':=ck.1 hi;rw[kd,dQ,getD_eq hi'];refine⟨(h2.each i hi').1,(h2.each i hi').2,fun h0=>?_⟩;rw[getD_eq (show i - 1<vars.length by omega)];exact h2.lt (i - 1) i hi' (by omega)
theorem afu (a b:Option Addr) (ca cb:Nat) (sizes vars:List Int) (w:World) (hs:aC w a sizes) (hv:aC w b vars) (aN:eK sizes) (aT:Up vars sizes.length):
  Calls Tryz.prog 55 #[.slice a sizes.length ca,.slice b vars.length cb] w fun e w'=>e=.returned (.tuple #[.int .i64 (cnt (af sizes) (af vars):Nat),.int .i64 0])/\Below w.heap.size w w':=by
 have h8:=aN.eight;have h9:=aT.length;have h:=afv a b ca cb sizes vars w hs hv (by omega) (by omega);rw[Gc (Nl aN aT)] at h;exact h
variable {R:List (List Fr)} {g i:Nat}
def KE (w:World) (a:Option Addr) (R:List (List Fr)):Prop:=∀k (h:k<R.length),∃g o b c,a=some ⟨g,o,none⟩/\g<w.heap.size/\w.cell? ⟨g,o+k,none⟩=some (.slice b R[k].length c)/\ew w b R[k]/\R[k].length<=c
theorem KE.aa (h:KE w a R) (hb:Below w.heap.size w w'):KE w' a R:=fun k hk=>by
 obtain⟨g,o,b,c,h1,h2,h3,h4,h5⟩:=h k hk;exact⟨g,o,b,c,h1,aR h2 hb.size,(hb.cell (p:=⟨g,o+k,none⟩) h2).trans h3,h4.aa hb,h5⟩
def fj (l:List Fr) (k i:Nat):List Fr:=(l.drop (i*k)).take k
def kJ (S:List Nat) (L:List (List Int)) (R:List (List Fr)) (v:Nat):Int:=
 if (R.getD v []).length=cnt S (af (L.getD v []))*sz S v then(if ((List.range (cnt S (af (L.getD v [])))).all fun i=>jH (fj (R.getD v []) (sz S v) i))=true then 0 else 9) else 8
def bA (V:List Vr) (L:List (List Int)) (R:List (List Fr)):Int:=
 if L.length=V.length/\R.length=V.length then(if bh L=0 then(if mg V=0 then iE (kJ (aq V) L R) V.length else mg V) else bh L) else 8
theorem ew.chunk {o:Nat} {l:List Fr} (h:ew w (some ⟨g,o,none⟩) l) (hm:(i+1)*k<=l.length) (hk:m=k):ew w (some ⟨g,o+i*k*3,none⟩) (fj l k i)/\(fj l k i).length=m:=by
 have hlen:(fj l k i).length=k:=by
  rw[fj,eB,l7];have:(i+1)*k=i*k+k:=by rw[fC,jZ]
  omega
 refine⟨fun j hj=>?_,by rw[hlen,hk]⟩;have e:(i+1)*k=i*k+k:=by rw[fC,jZ]
 rw[hlen] at hj;obtain⟨g',o',h1,h2,h3,h4,h5⟩:=h (i*k+j) (by omega);cases h1
 have ej:(fj l k i)[j]'(by rw[hlen];exact hj)=l[i*k+j]'(by omega):=by
  simp only[fj,Af,List.getElem_drop]
 refine⟨g,o+i*k*3,rfl,h2,?_,?_,?_⟩
 ·rw[ej,show o+i*k*3+j*3=o+(i*k+j)*3 by rw[fC];omega];exact h3
 ·rw[ej,show o+i*k*3+j*3=o+(i*k+j)*3 by rw[fC];omega];exact h4
 ·rw[ej,show o+i*k*3+j*3=o+(i*k+j)*3 by rw[fC];omega];exact h5
theorem aj7 (l:List Fr) (k i:Nat):fw (fj l k i)<=fw l:=by
 have h1:=aa6 (l.drop (i*k)) k;have h2:=S2 (l.take (i*k)) (l.drop (i*k));rw[Ac] at h2;rw[fj];omega
def ku (w:World) (B:Nat) (v:Value) (l:List ByteArray):Prop:=w.ownsRow B 9 1 v l.length (l.map Value.string)
theorem ku.own {B:Nat} {v:Value} {l:List ByteArray} (h:ku w B v l):∀k,v.ownBlock=some k ->B<=k:=by
 intro k hk;rcases h.2 with ⟨rfl,_⟩ |⟨g,cap,cur,rfl,h2,_⟩
 ·cases hk
 ·cases hk;exact h2
theorem ku.st {B:Nat} {v:Value} {l:List ByteArray} (h:ku w B v l):∃d cd,v=.slice d l.length cd/\qQ w d l:=by
 rcases h.2 with ⟨h1,h2⟩ |⟨g,cap,cur,h1,h2,h3,h4,h5,h6,h7⟩
 ·have:l=[]:=EP.1 h2;subst this;exact⟨none,0,h1,fun k hk=>absurd hk (by simp)⟩
 ·refine⟨_,_,h1,fun j hj=>⟨g,0,rfl,(cV.1 h3).1,?_⟩⟩;rw[bI,bE w g j _ _ (0,0) h3]
  have e:cur[j]? =(cur.toList.take (l.length*1))[j]?:=by
   rw[rB,aB (by omega),vY]
  rw[e,h7,mS,ba hj];rfl
theorem adg {o:Oper} {a:Act} (hgd:o.guard=none) (s x:Operand)
  (ho:o.op=.call {callee:=.builtin .append,args:= #[s,x],argTypes:= #[67,67]}) (base:Nat) (v:Value) (l:List ByteArray) (f:ByteArray) (hs:a.eval s=v) (hown:ku w base v l) (g:Nat) (hx:a.eval x=.slice (some ⟨g,0,none⟩) 1 1) (hg:w.cell? ⟨g,0,none⟩=some (.string f)) (hlen:l.length+1<=100000) (hbase:base<=w.heap.size)
  (h:∀v' w',ku w' base v' (l++[f]) ->w.grownBy w' v.ownBlock ->wpList Tryz.prog ops Q rest (a.put o.dst v') w'):wpList Tryz.prog ops Q (o::rest) a w:=by
 obtain⟨i0,bS,hz0,hz1,hz2⟩:=dK Tryz.infoStr;refine Cn _ hgd s x 67 ho base 9 i0 (.string ⟨#[]⟩) 1 16 Tryz.underlying67 bS hz0 hz1 hz2 rfl (by decide) v l.length _ hs hown ⟨g,0,none⟩ 1 1 [.string f] hx rfl ?_ ?_ (by unfold maxLen;omega) (by omega) hbase ?_
 ·intro j u hj;match j,hj with
  |0,hj=>cases hj;exact hg
  |j+1,hj=>simp at hj
 ·intro u hu;simp only[cT,iT,oC] at hu;subst hu;rfl
 ·intro v' w' h1 h2 _;refine h v' w' ?_ h2;rw[ku,bM,dY];exact h1
theorem agM (w:World) (u:ByteArray):(w.alloc (.cells #[.string u] 9)).cell? ⟨w.heap.size,0,none⟩=some (.string u):=(aZ w _ _).cell
variable {L:List (List Int)} {x y z:Value} {wr wr':World}
structure jx (w:World) (a b c:Option Addr) (V:List Vr) (L:List (List Int)) (R:List (List Fr)):Prop where
 vars:r7 w a V
 pars:dT w b L
 rows:KE w c R
theorem jx.aa {b c:Option Addr} {V:List Vr} (h:jx w a b c V L R) (hb:Below w.heap.size w w'):jx w' a b c V L R:=⟨h.vars.aa hb,h.pars.aa hb,h.rows.aa hb⟩
structure vr (V:List Vr) (L:List (List Int)) (R:List (List Fr)):Prop where
 vars:VSm V
 pars:L.length<=5000/\∀l∈L,l.length<=5000
 rows:R.length<=5000/\∀l∈R,l.length<=5000/\fw l<=10000
def NK (w wr:World) (x y z:Value):Prop:=dr wr w.heap.size x y z/\Below w.heap.size w wr
theorem NK.step (h:NK w wr x y z) (hb:Below wr.heap.size wr wr'):NK w wr' x y z:=⟨h.1.aa hb h.1.lt,h.2.trans (hb.ae h.2.size)⟩
theorem NK.grow (h:NK w wr x y z) (hb:Below (w.heap.size+1) wr wr'):NK w wr' x y z:=⟨h.1.aa hb (by omega),h.2.trans (hb.ae (by omega))⟩
theorem NK.new (w:World) (x y z:Value):NK w (w.alloc (NC x y z)) x y z:=⟨dr.at rfl x y z,(aw _ w).alloc (ak _) _⟩
theorem abj {V:List Vr} (hl:L.length=V.length) (hg:bh L=0) (hv:mg V=0):eK (iL (aq V))/\L.length<=8/\∀v (h:v<L.length),Up L[v] L.length:=by
 have hgb:gB L=true:=by
  rw[bh] at hg;by_cases h:gB L=true
  ·exact h
  ·rw[aD h] at hg;exact absurd hg (by decide)
 obtain⟨h1,h8,h3,_⟩:=ng hgb
 have hf:∀i,i<V.length ->oJ V i=0:=by
  rw[mg] at hv;by_cases h:ml (ke V)=0
  ·rw[aB h] at hv;intro i hi
   have key:∀ {n:Nat},iE (oJ V) n=0 ->∀j,j< n ->oJ V j=0:=by
    intro n;induction n with
    |zero=>intro _ j hj;omega
    |succ n ih=>
     intro hz j hj;rw[iE] at hz;by_cases e:iE (oJ V) n=0
     ·rw[aB e] at hz;rcases cM j n with h2 |h2
      ·exact ih e j h2
      ·obtain rfl:j=n:=by omega
       exact hz
     ·rw[aD e] at hz;exact absurd hz e
   exact key hv i hi
  ·rw[aD h] at hv;exact absurd hv h
 refine⟨⟨by rw[bF,rH];omega,by rw[bF,rH];omega,fun i hi=>?_⟩,h8,fun v hv=>kK (TD h3 hv)⟩;rw[bF,rH] at hi;have h4:=hf i hi;rw[oJ,SS hi] at h4
 have h5:1<=V[i].2.length/\V[i].2.length<=4:=by
  by_cases e:1<=V[i].2.length/\V[i].2.length<=4
  ·exact e
  ·rw[aD e] at h4;exact absurd h4 (by decide)
 have e:(iL (aq V))[i]'(by rw[bF,rH];exact hi)=(V[i].2.length:Int):=by simp[iL,aq]
 rw[e];omega
variable {S:List Nat} {f:Nat ->Nat}
def LK (w wr:World) (x y z:Value):Prop:=NK w wr x y z/\aL wr (w.heap.size+1) false ⟨#[]⟩ ⟨#[]⟩
theorem LK.new (w:World) (x y z:Value):LK w ((w.alloc (NC x y z)).alloc (FC false ⟨#[]⟩ ⟨#[]⟩)) x y z:=⟨(NK.new w x y z).step ((aw _ _).alloc (ak _) _),aL.at (by simp) _ _ _⟩
theorem LK.drewN (h:LK w wr x y z) (k:Nat):LK w (wr.drewN k) x y z:=⟨⟨h.1.1,below_drewN h.1.2 k⟩,h.2⟩
theorem afH (hp:∀v,sz S v<=4) (f:Nat ->Nat) (hf:∀u,f u<sz S u) {P:List Nat} (hl:P.length<=8) (i:Nat):pos S f (P.take i)<=65536:=by
 have h1:=rI f hf (P.take i);have h2:=rY hp (vs:=P.take i) (by rw[eB];omega);omega
def qA (S:List Nat) (P:List Nat) (f:Nat ->Nat) (v:Nat):Nat:=pos S f P*sz S v+f v
theorem Zh {P:List Nat} (hf:∀u,f u<sz S u) (v:Nat):qA S P f v<cnt S P*sz S v:=by
 have h1:=rI f hf P;have h2:=hf v;rw[qA]
 calc pos S f P*sz S v+f v<pos S f P*sz S v+sz S v:=by omega
  _=(pos S f P+1)*sz S v:=by rw[fC,jZ]
  _<=cnt S P*sz S v:=jD _ h1
theorem ah1 (a b c d:Option Addr) (ca cb cc cd v:Nat) (V:List Vr) (L:List (List Int)) (R:List (List Fr)) (A:List Nat) (w:World) (h:jx w a b c V L R) (hA:aC w d (iL A)) (MW:A.length=V.length) (hV8:V.length<=8) (hv:v<V.length) (eH:v<L.length) (oP:v<R.length) (hS:eK (iL (aq V))) (hU:Up L[v] V.length) (hlen:R[v].length=cnt (aq V) (af L[v])*sz (aq V) v) (f:Nat ->Nat) (hf:∀u,f u<sz (aq V) u) (RI:∀u,u<V.length ->A[u]? =some (f u)):
  Calls Tryz.prog 151 #[.agg #[.slice a V.length ca,.slice b L.length cb,.slice c R.length cc],.int .i64 (v:Nat),.slice d A.length cd] w fun e w'=>e=.returned (fh (bZ R[v] (qA (aq V) (af L[v]) f v)))/\Below w.heap.size w w':=by
 have hT:=Zh (S:=aq V) (P:=af L[v]) hf v;rw[<- hlen] at hT;rw[rZ hT];have jO:∀u,sz (aq V) u<=4:=fun u=>by have:=hS.sz_le u;rwa [iV] at this
 have hpl:(af L[v]).length<=8:=by rw[dR];have:=hU.length;omega
 have anb:L[v].length<=8:=by have:=hU.length;omega
 have fX:=hid (fun i=>afH jO f hf hpl i);have pZ:=hid (fun i (hi:i<(af L[v]).length)=>afI (aq V) f hi)
 have Em:Hid (pos (aq V) f ((af L[v]).take L[v].length)=pos (aq V) f (af L[v])):=by
  show _=_;rw[jF (by rw[dR];omega)]
 have Ez:Hid (∀u,f u<4):=fun u=>aR (hf u) (jO u);have HZ4:=hid jO;have kz:=hid hU;have HSG:=hid (fun u (hu:u<V.length)=>H3 hu);have iP:Hid (∀u (hu:u<V.length),sz (aq V) u=V[u].2.length):=fun u hu=>by rw[sz,H3 hu];rfl
 have UT:=hid RI;have HI:=hid h;have HA:=hid hA;have hTe:qA (aq V) (af L[v]) f v=pos (aq V) f (af L[v])*sz (aq V) v+f v:=rfl;obtain⟨gp,eX,bp,cp,rfl,fQ,p1,jr⟩:=h.pars v eH;obtain⟨gr,ij,br,cr,rfl,hgr,r1,Iu,Mo⟩:=h.rows v oP;obtain⟨gf,eN,rfl,Mx,m0,m1,m2⟩:=Iu _ hT;obtain⟨gv,ov,bv,cv,rfl,FX, -,n1, -, -⟩:=h.vars v hv;obtain⟨ga,oa,rfl,wW,a1⟩:=hA v (by rw[bF];omega)
 have ea:(iL A)[v]'(by rw[bF];omega)=((f v:Nat):Int):=by
  obtain⟨h1,h2⟩:=nG.1 (RI v hv);simp only[iL,nE,h2]
 rw[ea] at a1;rw[<- iP.o v hv] at n1;have xK:=hid jr;have HM:=hid (show _/\_/\_/\_/\_/\_/\_ from ⟨p1,r1,n1,a1,m0,m1,m2⟩);have hf4:=Ez.o v;have Fz:=HZ4.o v;have IG:=fX.o (af L[v]).length;rw[iR] at IG
 have hrl:R[v].length<=262144:=by
  rw[hlen];have h1:=rY jO hpl;exact aM (jE h1 Fz) (by decide)
 have HRC:=hid Mo;generalize hTT:qA (aq V) (af L[v]) f v=T at *;generalize hfr:R[v][T]=fr at *;obtain⟨fn,fx,fy⟩:=fr;simp only at HM;clear h hA RI jr Iu p1 r1 n1 a1 m0 m1 m2 hlen hf jO hS hU ea hTT hfr Mo;generalize R[v]=rl at *;generalize L[v]=pl at *;have je:=hid (LK.new w (.slice (some ⟨gv,ov,none⟩) V.length ca) (.slice (some ⟨gp,eX,none⟩) L.length cb) (.slice (some ⟨gr,ij,none⟩) R.length cc));obtain⟨c0,c1,c2⟩:=je.o.1.1.cells;have p1:=(je.o.1.2.cell (p:=⟨gp,eX+v,none⟩) fQ).trans HM.o.1;go_enter Tryz.func151,Tryz.ntmps151;go_wp2_with fail
 generalize ((w.alloc (NC (.slice (some ⟨gv,ov,none⟩) V.length ca) (.slice (some ⟨gp,eX,none⟩) L.length cb) (.slice (some ⟨gr,ij,none⟩) R.length cc))).alloc (FC false ⟨#[]⟩ ⟨#[]⟩))=w1 at *;clear c0 c1 c2 p1;go_loopw [7,16] (fun kv iv wr=>∃i:Nat,i<=pl.length/\iv=.int .i64 i/\kv=.int .i64 (pos (aq V) f ((af pl).take i):Nat)/\Hid (LK w wr (.slice (some ⟨gv,ov,none⟩) V.length ca) (.slice (some ⟨gp,eX,none⟩) L.length cb) (.slice (some ⟨gr,ij,none⟩) R.length cc))) (fun _ iv _=>pl.length - (intOf iv).toNat)
 case atStart=>exact⟨0,aX _,rfl,rfl,je⟩
 case round=>
  obtain⟨i,hi,rfl,rfl,HK⟩:=hrel;clear je;obtain⟨c0,c1,c2⟩:=HK.o.1.1.cells;have p1:=(HK.o.1.2.cell (p:=⟨gp,eX+v,none⟩) fQ).trans HM.o.1;by_cases hlt:i<pl.length
  ·obtain⟨gl,ol,rfl,cK,l1⟩:=(xK.o.aa HK.o.1.2) i hlt;obtain⟨jq,jN⟩:=kz.o.nat hlt;(have qD:i<(af pl).length:=by rw[dR];exact hlt);have eo:=pZ.o i qD;rw[rG hlt] at eo;have AW:=fX.o i;rw[<- jq] at l1;generalize pl[i].toNat=u at *;obtain⟨gv',ov',bu,cu,ev,ano, -,n2, -, -⟩:=(HI.o.aa HK.o.1.2).vars u jN;cases ev;rw[<- iP.o u jN] at n2;obtain⟨ga',oa',ea',anq,a2⟩:=(HA.o.aa HK.o.1.2) u (by rw[bF];omega);cases ea'
   have eu:(iL A)[u]'(by rw[bF];omega)=((f u:Nat):Int):=by
    obtain⟨h1,h2⟩:=nG.1 (UT.o u jN);simp only[iL,nE,h2]
   rw[eu] at a2;have hfu:=Ez.o u;have hzu:=HZ4.o u;have B4:Hid (pos (aq V) f ((af pl).take (i+1))=pos (aq V) f ((af pl).take i)*sz (aq V) u+f u):=eo;clear eo eu qD jq;generalize DT:pos (aq V) f ((af pl).take (i+1))=P1 at *;generalize pos (aq V) f ((af pl).take i)=P0 at *;generalize sz (aq V) u=su at *;generalize f u=fu at *;have h1:P0*su<=65536*4:=jE AW hzu
   have hm1:IntKind.i64.wrap ((P0:Int)*(su:Int))=((P0*su:Nat):Int):=by
    rw[gV, <- j6];omega
   have a7:IntKind.i64.wrap (((P0*su:Nat):Int)+(fu:Int))=(P1:Int):=by
    rw[gV];have:=B4.o;omega
   generalize P0*su=Q0 at *;have q7:=hid DT;clear DT h1 B4;go_upto_region 5 with fail
   go_quiet (fail)
   have HKn:=hid (HK.o.drewN nq);generalize wr.drewN nq=w2 at *;go_wp2;go_roundw
   case rel=>exact⟨i+1,by omega,by go_num,by rw[q7.o],HKn⟩
   case measure=>simp[intOf];omega
  ·obtain rfl:i=pl.length:=by omega
   rw[Em.o];have r1:=(HK.o.1.2.cell (p:=⟨gr,ij+v,none⟩) hgr).trans HM.o.2.1;have n1:=(HK.o.1.2.cell (p:=⟨gv,ov+v*2+1,none⟩) FX).trans HM.o.2.2.1;have a1:=(HK.o.1.2.cell (p:=⟨ga,oa+v,none⟩) wW).trans HM.o.2.2.2.1;have m0:=(HK.o.1.2.cell (p:=⟨gf,eN+T*3,none⟩) Mx).trans HM.o.2.2.2.2.1;have m1:=(HK.o.1.2.cell (p:=⟨gf,eN+T*3+1,none⟩) Mx).trans HM.o.2.2.2.2.2.1;have m2:=(HK.o.1.2.cell (p:=⟨gf,eN+T*3+2,none⟩) Mx).trans HM.o.2.2.2.2.2.2;have h1:pos (aq V) f (af pl)*sz (aq V) v<=65536*4:=jE IG Fz;generalize pos (aq V) f (af pl)=p at *;generalize sz (aq V) v=k at *;generalize f v=x at *
   have hm1:IntKind.i64.wrap ((p:Int)*(k:Int))=((p*k:Nat):Int):=by
    rw[gV, <- j6];omega
   have a7:IntKind.i64.wrap (((p*k:Nat):Int)+(x:Int))=(T:Int):=by
    rw[gV];omega
   generalize p*k=pk at *;clear hTe h1;go_upto_region 7 with fail
   have MN:=HK.o;refine kC (S:=fun u=>u.cell? ⟨w.heap.size,2,none⟩=some (.slice (some ⟨gr,ij,none⟩) R.length cc)/\u.cell? ⟨gr,ij+v,none⟩=some (.slice (some ⟨gf,eN,none⟩) rl.length cr)/\u.cell? ⟨w.heap.size,0,none⟩=some (.slice (some ⟨gv,ov,none⟩) V.length ca)/\u.cell? ⟨gv,ov+v*2+1,none⟩=some (.slice bv k cv)/\u.cell? ⟨ga,oa+v,none⟩=some (.int .i64 (x:Nat))/\u.cell? ⟨gf,eN+T*3,none⟩=some (.bool fn)/\u.cell? ⟨gf,eN+T*3+1,none⟩=some (.string fx)/\u.cell? ⟨gf,eN+T*3+2,none⟩=some (.string fy)) (by kernel_rfl) ⟨c2,r1,c0,n1,a1,m0,m1,m2⟩ (fun ah=>?_);have MN:LK w wr.drew (.slice (some ⟨gv,ov,none⟩) V.length ca) (.slice (some ⟨gp,eX,none⟩) L.length cb) (.slice (some ⟨gr,ij,none⟩) R.length cc):=⟨⟨HK.o.1.1,HK.o.1.2.drew⟩,HK.o.2⟩;clear c0 c1 c2 p1 r1 n1 a1 m0 m1 m2;generalize wr.drew=u0 at *;refine ar 0 (.pointer (some ⟨w.heap.size,2,none⟩)) ?_;refine ar 1 (.slice (some ⟨gr,ij,none⟩) R.length cc) ?_;refine ar 2 (.int .i64 (v:Nat)) ?_;refine ar 3 (.pointer (some ⟨gr,ij+v,none⟩)) ?_;refine ar 4 (.slice (some ⟨gf,eN,none⟩) rl.length cr) ?_;refine ar 5 (.int .i64 (p:Nat)) ?_;refine ar 6 (.pointer (some ⟨w.heap.size,0,none⟩)) ?_;refine ar 7 (.slice (some ⟨gv,ov,none⟩) V.length ca) ?_;refine ar 8 (.int .i64 (v:Nat)) ?_;refine ar 9 (.pointer (some ⟨gv,ov+v*2,none⟩)) ?_;refine ar 10 (.pointer (some ⟨gv,ov+v*2+1,none⟩)) ?_;refine ar 11 (.slice bv k cv) ?_;refine ar 12 (.int .i64 (k:Nat)) ?_;refine ar 13 (.int .i64 (pk:Nat)) ?_;refine ar 14 (.slice (some ⟨ga,oa,none⟩) A.length cd) ?_
   refine ar 15 (.int .i64 (v:Nat)) ?_;refine ar 16 (.pointer (some ⟨ga,oa+v,none⟩)) ?_;refine ar 17 (.int .i64 (x:Nat)) ?_;refine ar 18 (.int .i64 (T:Nat)) ?_;refine ar 19 (.pointer (some ⟨gf,eN+T*3,none⟩)) ?_;refine ar 20 (.agg #[.bool fn,.string fx,.string fy]) ?_;(try simp only[gE,aP]);obtain⟨k0,k1,k2,f0,f1,f2⟩:=MN.2.facts;(have FU:w.heap.size≠w.heap.size+1:=by omega);(have Rk:gr≠w.heap.size+1:=by omega);(have Rj:gv≠w.heap.size+1:=by omega);(have Rl:ga≠w.heap.size+1:=by omega);(have yU:gf≠w.heap.size+1:=by omega);refine aI [21] (cA ?_ aH);intro K' hK';go_simp;have jt:=MN.2.put fn fx fy;have Ja:=df MN.1.2 (show w.heap.size<=w.heap.size+1 by omega) (.bool fn) (.string fx) (.string fy)
   refine hK'.o _ _ ⟨((dX _ _ _ _ (fun e=>FU (dt Addr.block e).symm)).trans ((dX _ _ _ _ (fun e=>FU (dt Addr.block e).symm)).trans ((dX _ _ _ _ (fun e=>FU (dt Addr.block e).symm)).trans ah.1))),((dX _ _ _ _ (fun e=>Rk (dt Addr.block e).symm)).trans ((dX _ _ _ _ (fun e=>Rk (dt Addr.block e).symm)).trans ((dX _ _ _ _ (fun e=>Rk (dt Addr.block e).symm)).trans ah.2.1))),((dX _ _ _ _ (fun e=>FU (dt Addr.block e).symm)).trans ((dX _ _ _ _ (fun e=>FU (dt Addr.block e).symm)).trans ((dX _ _ _ _ (fun e=>FU (dt Addr.block e).symm)).trans ah.2.2.1))),((dX _ _ _ _ (fun e=>Rj (dt Addr.block e).symm)).trans ((dX _ _ _ _ (fun e=>Rj (dt Addr.block e).symm)).trans ((dX _ _ _ _ (fun e=>Rj (dt Addr.block e).symm)).trans ah.2.2.2.1))),((dX _ _ _ _ (fun e=>Rl (dt Addr.block e).symm)).trans ((dX _ _ _ _ (fun e=>Rl (dt Addr.block e).symm)).trans ((dX _ _ _ _ (fun e=>Rl (dt Addr.block e).symm)).trans ah.2.2.2.2.1))),((dX _ _ _ _ (fun e=>yU (dt Addr.block e).symm)).trans ((dX _ _ _ _ (fun e=>yU (dt Addr.block e).symm)).trans ((dX _ _ _ _ (fun e=>yU (dt Addr.block e).symm)).trans ah.2.2.2.2.2.1))),((dX _ _ _ _ (fun e=>yU (dt Addr.block e).symm)).trans ((dX _ _ _ _ (fun e=>yU (dt Addr.block e).symm)).trans ((dX _ _ _ _ (fun e=>yU (dt Addr.block e).symm)).trans ah.2.2.2.2.2.2.1))),((dX _ _ _ _ (fun e=>yU (dt Addr.block e).symm)).trans ((dX _ _ _ _ (fun e=>yU (dt Addr.block e).symm)).trans ((dX _ _ _ _ (fun e=>yU (dt Addr.block e).symm)).trans ah.2.2.2.2.2.2.2)))⟩ (fun ag=>?_)
   clear hK' K' ah ag k0 k1 k2 f0 f1 f2;generalize (((u0.setCell ⟨w.heap.size+1,0,none⟩ (.bool fn)).setCell ⟨w.heap.size+1,1,none⟩ (.string fx)).setCell ⟨w.heap.size+1,2,none⟩ (.string fy))=u9 at *;(try simp only[gE,aP]);refine dW (by kernel_rfl) ?_ _;go_wp2;refine dh (jt.result rfl _ rfl) rfl ?_;exact⟨rfl,Ja⟩
structure NOK (V:List Vr) (L:List (List Int)) (R:List (List Fr)):Prop where
 len:L.length=V.length
 lenR:R.length=V.length
 n8:V.length<=8
 fine:eK (iL (aq V))
 up:∀v (h:v<L.length),Up L[v] V.length
 rows:∀v (h:v<L.length) (h':v<R.length),R[v].length=cnt (aq V) (af L[v])*sz (aq V) v
theorem Jy {f:Nat ->Int}:∀ {n:Nat},iE f n=0 ->∀j,j< n ->f j=0
 |0,_,j,hj=>by omega
 |n+1,hz,j,hj=>by
  rw[iE] at hz;by_cases e:iE f n=0
  ·rw[aB e] at hz;rcases cM j n with h2 |h2
   ·exact Jy e j h2
   ·obtain rfl:j=n:=by omega
    exact hz
  ·rw[aD e] at hz;exact absurd hz e
theorem kL {V:List Vr} (h:bA V L R=0):NOK V L R:=by
 rw[bA] at h;by_cases h1:L.length=V.length/\R.length=V.length
 ·rw[aB h1] at h;by_cases h2:bh L=0
  ·rw[aB h2] at h;by_cases h3:mg V=0
   ·rw[aB h3] at h;obtain⟨hf,h8,hu⟩:=abj h1.1 h2 h3;refine⟨h1.1,h1.2,by omega,hf,fun v hv=>by rw[<- h1.1];exact hu v hv,fun v hv hr=>?_⟩;have h4:=Jy h v (by omega);rw[kJ,b6,ba hr,b6,ba hv] at h4;by_cases h5:R[v].length=cnt (aq V) (af L[v])*sz (aq V) v
    ·exact h5
    ·simp only[yf] at h4;rw[aD h5] at h4;exact absurd h4 (by decide)
   ·rw[aD h3] at h;exact absurd h h3
  ·rw[aD h2] at h;exact absurd h h2
 ·rw[aD h1] at h;exact absurd h (by decide)
def eY (V:List Vr) (L:List (List Int)) (R:List (List Fr)) (f:Nat ->Nat) (v:Nat):Fr:=bZ (R.getD v []) (qA (aq V) (af (L.getD v [])) f v)
def uk (V:List Vr) (L:List (List Int)) (R:List (List Fr)) (f:Nat ->Nat):Nat ->Rat
 |0=>1
 |k+1=>uk V L R f k*bt (eY V L R f k)
theorem L0 {V:List Vr} (hL:v<L.length) (hR:v<R.length):eY V L R f v=bZ R[v] (qA (aq V) (af L[v]) f v):=by
 rw[eY,b6,ba hR,b6,ba hL];rfl
theorem ah6 {V:List Vr} (aV:NOK V L R) (hf:∀u,f u<sz (aq V) u) (hw:∀l∈R,fw l<=4200) (hv:v<V.length):(eY V L R f v).2.1.size+(eY V L R f v).2.2.size<=4200:=by
 have hL:v<L.length:=by rw[aV.len];exact hv
 have hR:v<R.length:=by rw[aV.lenR];exact hv
 rw[L0 hL hR];have h1:=Zh (S:=aq V) (P:=af L[v]) hf v;rw[<- aV.rows v hL hR] at h1;have h2:=alC h1;have h3:=hw R[v] (bY hR);omega
theorem LK.step (h:LK w V x y z) (hb:Below V.heap.size V V'):LK w V' x y z:=⟨h.1.step hb,h.2.aa hb h.2.lt⟩
variable {A:Nat} {q:Rat}
theorem Jw (h:Fits m q) (hm:m<=n):Fits n q:=by
 obtain⟨A,D,h1,h2,h3,h4⟩:=h;exact⟨A,D,h1,h2,aR h3 (Fj hm),aR h4 (Fj hm)⟩
theorem aa2 (f g:Fr):great f g=f∨great f g=g:=by
 rw[great];by_cases h:jd (bt f) (bt g)<0
 ·rw[aB h];exact .inr rfl
 ·rw[aD h];exact .inl rfl
theorem afA (q:Rat):(qF q).2.1.size+(qF q).2.2.size=qw q:=rfl
theorem X5 (most:Bool) (T:Nat ->Fr):∀k,(∀x,x<=k ->(T x).2.1.size+(T x).2.2.size+2<=8192) ->Fits ((k+1)*8192) (bt (j9 most T k))
 |0,h=>Jw (S7 _ _ _) (by have:=h 0 (ak _);show (T 0).2.1.size+(T 0).2.2.size+1<=_;omega)
 |k+1,h=>by
  have h1:=X5 most T k fun x hx=>h x (by omega);have h2:Fits 8191 (bt (T (k+1))):=Jw (S7 _ _ _) (by have:=h (k+1) (ak _);omega);rw[j9];cases most with
  |true=>
   rw[aB rfl];rcases aa2 (j9 true T k) (T (k+1)) with e |e
   ·rw[e];exact Jw h1 (by omega)
   ·rw[e];exact Jw h2 (by omega)
  |false=>
   rw[aD (by decide),pT];exact Jw (abi h1 h2) (by omega)
theorem agt (k:Nat):2*((k+1)*8192)<=2*((k+1+1)*8192):=by omega
theorem ags (k:Nat):8192<=2*((k+1+1)*8192):=by omega
theorem ajL {f g:Fr} (h1:f.2.1.size+f.2.2.size<=A) (h2:g.2.1.size+g.2.2.size<=A):(great f g).2.1.size+(great f g).2.2.size<=A:=by
 rcases aa2 f g with e |e
 ·rw[e];exact h1
 ·rw[e];exact h2
theorem Qd (most:Bool) (T:Nat ->Fr):∀k,(∀x,x<=k ->(T x).2.1.size+(T x).2.2.size+2<=8192) ->(j9 most T k).2.1.size+(j9 most T k).2.2.size<=2*((k+1)*8192)
 |0,h=>by have:=h 0 (ak _);rw[j9];omega
 |k+1,h=>by
  have h1:=Qd most T k fun x hx=>h x (by omega);have h2:=h (k+1) (ak _);have h3:=X5 most T (k+1) h;rw[j9] at h3⊢;cases most with
  |true=>
   rw[aB rfl];exact ajL (aM h1 (agt k)) (aM (aM (KQ _ 2) h2) (ags k))
  |false=>
   rw[aD (by decide)] at h3⊢;rw[pT] at h3;have h4:=Na h3;rw[afA];exact h4
def TW (most:Bool) (pf:Nat):Prop:=(∀args w,(callFunc pf args).run Tryz.prog w=.ok (.enter pf args) w)/\∀(f g:Fr) (V:World),f.2.1.size+f.2.2.size<=100000 ->g.2.1.size+g.2.2.size<=100000 ->Calls Tryz.prog pf #[fh f,fh g] V fun e w'=>e=.returned (fh (if most then great f g else qF (bt f+bt g)))/\Below V.heap.size V w'
theorem agc:TW false 141:=⟨enters_of Tryz.func141 (by kernel_rfl) rfl,fun f g V h1 h2=>akI (n:=f.1) (m:=g.1) (x:=f.2.1) (y:=f.2.2) (u:=g.2.1) (v:=g.2.2) (w:=V) (bt f+bt g) rfl rfl rfl h1 h2⟩
theorem agd:TW true 235:=⟨enters_of Tryz.func235 (by kernel_rfl) rfl,fun f g V h1 h2=>ajK f g V h1 h2⟩
theorem X7 (most:Bool) (pf:Nat) (Rg:TW most pf) (Bh Bs Bv Bt Bf:Nat) (a c:Option Addr) (ca cc:Nat) (sizes:List Int) (lb:Array Value) (l:List Fr) (k v n:Nat) (P:Nat ->Nat) (hP:∀x,x< n ->P x<l.length) (eO:1<=n) (AZ:n<=4) (ek:v<sizes.length) (wU:sizes[v]=(n:Int)) (w:World)
  (hBh:Bh<w.heap.size) (xh:w.cell? ⟨Bh,0,none⟩=some (.func (.func pf) #[] #[])) (DV:Bs<w.heap.size) (xs:w.cell? ⟨Bs,0,none⟩=some (.slice a sizes.length ca)) (F3:Bv<w.heap.size) (xv:w.cell? ⟨Bv,0,none⟩=some (.int .i64 (v:Nat))) (uP:Bt<w.heap.size) (xc:w.cell? ⟨Bt,1,none⟩=some (.slice c l.length cc)) (zh:Bf<w.heap.size) (xf:w.cell? ⟨Bf,0,none⟩=some (.func (.func 200) #[] lb)) (hs:aC w a sizes) (hf:ew w c l) (h1:Cw 8192 l)
  (hc:∀x,x< n ->∀V,Below w.heap.size w V ->Calls Tryz.prog 200 (#[.int .i64 (k:Nat),.int .i64 (x:Nat)]++lb) V fun e w'=>e=.returned (.int .i64 (P x:Nat))/\Below V.heap.size V w'):
  Calls Tryz.prog 204 #[.int .i64 (k:Nat),.pointer (some ⟨Bh,0,none⟩),.pointer (some ⟨Bs,0,none⟩),.pointer (some ⟨Bv,0,none⟩),.pointer (some ⟨Bt,0,none⟩),.pointer (some ⟨Bf,0,none⟩)] w fun e w'=>e=.returned (fh (qF (bt (j9 most (fun x=>bZ l (P x)) (n - 1)))))/\Below w.heap.size w w':=by
 obtain⟨g,o,rfl,hg,cs⟩:=hs v ek;rw[wU] at cs;have AU:∀x,x< n ->(bZ l (P x)).2.1.size+(bZ l (P x)).2.2.size+2<=8192:=fun x hx=>h1 _ (hP x hx);have AV:=Qd most (fun x=>bZ l (P x)) (n - 1) fun x hx=>AU x (by omega)
 have hJ:∀W,Below w.heap.size w W ->∀Bk,Bk<W.heap.size ->W.cell? ⟨Bk,0,none⟩=some (.int .i64 (k:Nat)) ->Calls Tryz.prog 205 #[.agg #[.func (.func pf) #[] #[]],.int .i64 (n:Nat),.func (.func 206) #[] #[.pointer (some ⟨Bt,0,none⟩),.pointer (some ⟨Bf,0,none⟩),.pointer (some ⟨Bk,0,none⟩)]] W fun e w'=>e=.returned (fh (j9 most (fun x=>bZ l (P x)) (n - 1)))/\Below W.heap.size W w':=by
  intro W hW Bk F4 xk;refine aij pf 206 #[] _ Rg.1 (enters_of Tryz.func206 (by kernel_rfl) rfl) n (fun x=>bZ l (P x)) (j9 most (fun x=>bZ l (P x))) W eO (by omega) ?_ ?_ rfl
  ·intro x hx V hb;have hB:=hW.trans (hb.ae hW.size);exact agA Bt Bf Bk c cc lb l k x (P x) (hP x hx) V (aR uP hB.size) ((hB.cell (p:=⟨Bt,1,none⟩) uP).trans xc) (aR zh hB.size) ((hB.cell (p:=⟨Bf,0,none⟩) zh).trans xf) (aR F4 hb.size) ((hb.cell (p:=⟨Bk,0,none⟩) F4).trans xk) (hf.aa hB) fun V' hb'=>hc x hx V' (hB.trans (hb'.ae hB.size))
  ·intro x hx V hb;have e1:=Qd most (fun x=>bZ l (P x)) x fun y hy=>AU y (by omega);have e2:=AU (x+1) hx;exact Rg.2 _ _ V (by omega) (by show (bZ l (P (x+1))).2.1.size+(bZ l (P (x+1))).2.2.size<=_;omega)
 have HJ:=hid hJ;have HC:=hid (fun V:World=>Va (w:=V) (bt (j9 most (fun x=>bZ l (P x)) (n - 1))) rfl (show (j9 most (fun x=>bZ l (P x)) (n - 1)).2.1.size+(j9 most (fun x=>bZ l (P x)) (n - 1)).2.2.size<=100000 by omega));rw[S5];generalize bt (j9 most (fun x=>bZ l (P x)) (n - 1))=r at *;generalize j9 most (fun x=>bZ l (P x)) (n - 1)=f at *;clear hJ AV AU hc hf hs hP Rg xc xf;obtain⟨fn,fx,fy⟩:=f;simp only at HC HJ;have hv0:(0:Int)<=(v:Int):=by omega
 have lD:(v:Int)<(sizes.length:Int):=by omega
 have hb0:aL ((w.alloc (.cells #[.int .i64 (k:Nat)] 3)).alloc (FC false ⟨#[]⟩ ⟨#[]⟩)) (w.heap.size+1) false ⟨#[]⟩ ⟨#[]⟩:=aL.at (by simp) _ _ _;have hk0:Boxed ((w.alloc (.cells #[.int .i64 (k:Nat)] 3)).alloc (FC false ⟨#[]⟩ ⟨#[]⟩)) w.heap.size 3 (.int .i64 (k:Nat)):=(aZ w _ _).alloc _;have hB:Below w.heap.size w ((w.alloc (.cells #[.int .i64 (k:Nat)] 3)).alloc (FC false ⟨#[]⟩ ⟨#[]⟩)):=((aw _ w).alloc (ak _) _).alloc (by simp) _;go_enter Tryz.func204,Tryz.ntmps204;go_upto_region 1 with fail
 generalize ((w.alloc (.cells #[.int .i64 (k:Nat)] 3)).alloc (FC false ⟨#[]⟩ ⟨#[]⟩))=W at *;replace hb0:=hb0.drew;replace hB:=hB.drew;replace hk0:Boxed W.drew w.heap.size 3 (.int .i64 (k:Nat)):=hk0;have held:∀u,Below w.heap.size w u ->u.cell? ⟨Bh,0,none⟩=some (.func (.func pf) #[] #[])/\u.cell? ⟨Bs,0,none⟩=some (.slice (some ⟨g,o,none⟩) sizes.length ca)/\u.cell? ⟨Bv,0,none⟩=some (.int .i64 (v:Nat))/\u.cell? ⟨g,o+v,none⟩=some (.int .i64 (n:Nat)):=fun u h=>⟨(h.cell (p:=⟨Bh,0,none⟩) hBh).trans xh,(h.cell (p:=⟨Bs,0,none⟩) DV).trans xs,(h.cell (p:=⟨Bv,0,none⟩) F3).trans xv,(h.cell (p:=⟨g,_,none⟩) hg).trans cs⟩;have HELD:=hid held;clear held xh xs xv cs;refine kC (S:=fun u=>u.cell? ⟨Bh,0,none⟩=some (.func (.func pf) #[] #[])/\u.cell? ⟨Bs,0,none⟩=some (.slice (some ⟨g,o,none⟩) sizes.length ca)/\u.cell? ⟨Bv,0,none⟩=some (.int .i64 (v:Nat))/\u.cell? ⟨g,o+v,none⟩=some (.int .i64 (n:Nat))) (by kernel_rfl) (HELD.o _ hB) (fun ah=>?_);generalize W.drew=u0 at *;refine ar 0 (.agg #[.func (.func pf) #[] #[]]) ?_;refine ar 1 (.slice (some ⟨g,o,none⟩) sizes.length ca) ?_;refine ar 2 (.int .i64 (v:Nat)) ?_;refine ar 3 (.pointer (some ⟨g,o+v,none⟩)) ?_;refine ar 4 (.int .i64 (n:Nat)) ?_;refine ar 5 (.func (.func 206) #[] #[.pointer (some ⟨Bt,0,none⟩),.pointer (some ⟨Bf,0,none⟩),.pointer (some ⟨w.heap.size,0,none⟩)]) ?_;refine aI [6] (cA ?_ aH);intro K' hK';go_simp;refine(HJ.o _ hB _ hk0.lt hk0.cell).ae ?_;rintro e u1 ⟨rfl,hb⟩;replace hb0:=hb0.aa hb hb0.lt;clear hk0
 replace hB:=hB.trans (hb.ae hB.size);refine hK'.o _ _ (HELD.o _ hB) (fun ag=>?_);clear hK' K' ah;have ah:=ag;clear ag hb;refine aI [7] (cA ?_ aH);intro K' hK';go_simp;refine(HC.o _).ae ?_;rintro e u2 ⟨rfl,hb⟩;replace hb0:=hb0.aa hb hb0.lt;replace hB:=hB.trans (hb.ae hB.size);refine hK'.o _ _ (HELD.o _ hB) (fun ag=>?_);clear hK' K' ah;have ah:=ag;clear ag hb;try simp only[gE,aP]
 obtain⟨k0,k1,k2,f0,f1,f2⟩:=hb0.facts;refine aI [8] (cA ?_ aH);intro K' hK';go_simp;have hput:=hb0.put (cI r) (nu r) (de r);have uR:=df hB (g:=w.heap.size+1) (by omega) (.bool (cI r)) (.string (nu r)) (.string (de r));generalize (((u2.setCell ⟨w.heap.size+1,0,none⟩ (.bool (cI r))).setCell ⟨w.heap.size+1,1,none⟩ (.string (nu r))).setCell ⟨w.heap.size+1,2,none⟩ (.string (de r)))=v9 at *;refine hK'.o _ _ (HELD.o _ uR) (fun _=>dW (by kernel_rfl) ?_ _);clear hK' K' ah;go_wp2;refine dh (hput.result rfl _ rfl) rfl ?_;exact⟨rfl,uR⟩
def OH (w V:World) (s u v x:Value):Prop:=Boxed V w.heap.size 27 s/\NR w V (w.heap.size+1) (w.heap.size+1+1+1) u v/\Boxed V (w.heap.size+1+1) 3 x
theorem OH.step {s u v:Value} (h:OH w V s u v x) (hb:Below V.heap.size V V'):OH w V' s u v x:=⟨aY h.1 hb,h.2.1.step hb,aY h.2.2 hb⟩
theorem OH.new (w:World) (s u v x:Value):OH w ((((w.alloc (.cells #[s] 27)).alloc (TC u v)).alloc (.cells #[x] 3)).alloc (TC (.slice none 0 0) (.slice none 0 0))) s u v x:=by
 have h2:Boxed (((w.alloc (.cells #[s] 27)).alloc (TC u v)).alloc (.cells #[x] 3)) (w.heap.size+1+1) 3 x:=by
  have h:=aZ ((w.alloc (.cells #[s] 27)).alloc (TC u v)) 3 x;rwa [dE,dE] at h
 exact⟨(((aZ w _ _).alloc _).alloc _).alloc _,⟨((bG.at (by simp) _ _).alloc _).alloc _,bG.at (by simp) _ _,((((aw _ w).alloc (ak _) _).alloc (by simp) _).alloc (by simp;omega) _).alloc (by simp;omega) _⟩,h2.alloc _⟩
theorem OH.off {s u v:Value} (h:OH w V s u v x) (B j:Nat) (y:Value) (hB:w.heap.size+1+1+1<B):OH w (V.setCell ⟨B,j,none⟩ y) s u v x:=⟨fS h.1 B j y (by omega),h.2.1.off B j y (by omega) (by omega) (by omega),fS h.2.2 B j y (by omega)⟩
theorem OH.top {s u v:Value} (h:OH w V s u v x):w.heap.size+1+1+1<V.heap.size:=h.2.1.2.1.lt
theorem Qe (S vars rest:List Nat) (v:Nat) (most:Bool) (l:List Fr):(oN S vars rest v most l).length=cnt S rest:=by simp[oN]
theorem X6 (S vars rest:List Nat) (v:Nat) (most:Bool) (l:List Fr) (h:k<(oN S vars rest v most l).length):(oN S vars rest v most l)[k]=qF (bt (j9 most (fun x=>bZ l (pos S (aQ (a8 S rest k) v x) vars)) (sz S v - 1))):=by simp[oN]
theorem ad8 (a b c:Option Addr) (ca cb cc:Nat) (sizes vars:List Int) (l:List Fr) (v:Nat) (w:World) (hs:aC w a sizes) (hv:aC w b vars) (hf:ew w c l) (hn:sizes.length<=140737488355328) (hm:vars.length<=140737488355328) (hk:kp sizes vars l.length=0) (hw:Cw 8192 l) (hv':vars.contains (v:Int)=true) (ek:v<sizes.length):
  Calls Tryz.prog 160 #[.slice a sizes.length ca,.agg #[.slice b vars.length cb,.slice c l.length cc],.int .i64 (v:Nat),.bool false] w fun e w'=>r8 w.heap.size (bP vars (v:Int)) (oN (af sizes) (af vars) (af (bP vars (v:Int))) v false l) 0 e w'/\Below w.heap.size w w':=by
 obtain⟨aN,aT,hlc⟩:=D8 hk;have vK:=hid (fun V h=>Hz b cb vars (v:Int) V h hm);rw[hv'] at vK;have po:=fun V h1 h2=>Hw a b c ca cb cc l.length sizes vars V h1 h2 hn hm;rw[hk] at po;have HC:=hid po;clear po;have hrl:(bP vars (v:Int)).length<=vars.length:=l6 _ _;have ZJ:=aT.length;have pI:=aN.eight;have cU:=hid aN;have kz:=hid aT;have BV:=hid (rM aT (v:Int));have En:=hid (L8 (v:=v) aT);have fX:=hid (fun K (hK:K<cnt (af sizes) (af (bP vars (v:Int)))) x (hx:x<sz (af sizes) v)=>Pc hk hK hx);have jP:=Qe (af sizes) (af vars) (af (bP vars (v:Int))) v false l;have vJ:=hid (fun (k:Nat) (h:k<(oN (af sizes) (af vars) (af (bP vars (v:Int))) v false l).length)=>X6 (af sizes) (af vars) (af (bP vars (v:Int))) v false l h);have kT:=hid (fun V h=>Pb b cb vars (v:Int) V h (by omega));generalize oN (af sizes) (af vars) (af (bP vars (v:Int))) v false l=FL at *;generalize bP vars (v:Int)=rest at *;have HST:=hid (fun V d cd h1 h2=>Pz a d b ca cd cb sizes rest vars v V h1 h2 aN aT ek);have HF:=hid hf;have HW:=hid hw;have iq:=hid jP;have HN:=hid (aN.sz_eq ek);have zL:=hid (aN.sz_le v);have Cb:=hid (mh aN.pos v);have xC:=hid ek;clear hv' hk aN aT hlc hf hw jP;have HS:=hid hs;have HV:=hid hv;have hH:=OH.new w (.slice a sizes.length ca) (.slice b vars.length cb) (.slice c l.length cc) (.int .i64 (v:Nat));have c0:=hH.2.1.1.c0;have c1:=hH.2.1.1.c1;have cs:=hH.1.cell;go_enter Tryz.func160,Tryz.ntmps160;go_wp2_with fail
 generalize ((((w.alloc (.cells #[.slice a sizes.length ca] 27)).alloc (TC (.slice b vars.length cb) (.slice c l.length cc))).alloc (.cells #[.int .i64 (v:Nat)] 3)).alloc (TC (.slice none 0 0) (.slice none 0 0)))=W at *;refine(HC.o _ (HS.o.aa hH.2.1.2.2) (HV.o.aa hH.2.1.2.2)).ae ?_;rintro e w1 ⟨rfl,hb1⟩;replace hH:=hH.step hb1;clear c0 c1 cs hb1;have c0:=hH.2.1.1.c0;have cx:=hH.2.2.cell;go_wp2_with fail
 refine(vK.o _ (HV.o.aa hH.2.1.2.2)).ae ?_;rintro e w2 ⟨rfl,hb2⟩;replace hH:=hH.step hb2;clear c0 cx hb2 vK;go_wp2_with fail
 refine(Wa _).ae ?_;rintro e w3 ⟨rfl,hb3⟩;replace hH:=hH.step hb3;clear hb3;have hb4:Below w3.heap.size w3 (w3.alloc (.cells #[.func (.func 141) #[] #[]] 224)):=(aw _ w3).alloc (ak _) _;have hJ:Boxed (w3.alloc (.cells #[.func (.func 141) #[] #[]] 224)) w3.heap.size 224 (.func (.func 141) #[] #[]):=aZ w3 _ _;have bV:=hH.top;replace hH:=hH.step hb4;clear hb4;have c0:=hH.2.1.1.c0;have cx:=hH.2.2.cell;go_wp2_with fail
 clear c0 cx;generalize (w3.alloc (.cells #[.func (.func 141) #[] #[]] 224))=w5 at *;generalize w3.heap.size=BJ at *;refine(kT.o _ (HV.o.aa hH.2.1.2.2)).ae ?_;rintro e w6 ⟨d,cd,rfl,hi,qG,iK⟩;have EB:=hid (qG.up hH.2.1.2.2.size);clear qG;replace hH:=hH.step iK;replace hJ:=aY hJ iK;clear iK kT;have c0:=hH.2.1.1.c0;have cx:=hH.2.2.cell;have cs:=hH.1.cell;go_wp2_with fail
 refine(HST.o _ d cd (HS.o.aa hH.2.1.2.2) (HV.o.aa hH.2.1.2.2)).ae ?_;rintro e w7 ⟨f,rfl,qJ,ed⟩;replace hH:=hH.step ed;replace hJ:=aY hJ ed;replace hi:=hi.aa ed;obtain⟨lb,rfl⟩:=qJ.shape;clear c0 cx cs ed HST;generalize w6.heap.size=n3 at *;have gF:Below w7.heap.size w7 (w7.alloc (.cells #[.func (.func 200) #[] lb] 100)):=(aw _ w7).alloc (ak _) _;have hY:Boxed (w7.alloc (.cells #[.func (.func 200) #[] lb] 100)) w7.heap.size 100 (.func (.func 200) #[] lb):=aZ w7 _ _;replace hH:=hH.step gF;replace hJ:=aY hJ gF;replace qJ:=qJ.aa gF;replace hi:=hi.aa gF;have cs:=hH.1.cell;go_wp2_with fail
 clear gF cs;generalize (w7.alloc (.cells #[.func (.func 200) #[] lb] 100))=w8 at *;generalize w7.heap.size=EG at *
 have uE:=Nb a d ca cd sizes rest 204 #[.pointer (some ⟨BJ,0,none⟩),.pointer (some ⟨w.heap.size,0,none⟩),.pointer (some ⟨w.heap.size+1+1,0,none⟩),.pointer (some ⟨w.heap.size+1,0,none⟩),.pointer (some ⟨EG,0,none⟩)] (enters_of Tryz.func204 (by kernel_rfl) rfl) FL w8 (HS.o.aa hH.2.1.2.2) hi cU.o BV.o iq.o (fun k hk V hb=>by
  rw[vJ.o k hk];have fN:k<cnt (af sizes) (af rest):=by rw[<- iq.o];exact hk
  have hB:=hH.2.1.2.2.trans (hb.ae hH.2.1.2.2.size);refine X7 false 141 agc BJ w.heap.size (w.heap.size+1+1) (w.heap.size+1) EG a c ca cc sizes lb l k v (sz (af sizes) v) (fun x=>pos (af sizes) (aQ (a8 (af sizes) (af rest) k) v x) (af vars)) (fun x hx=>fX.o k fN x hx) Cb.o zL.o xC.o HN.o.symm V (aR hJ.lt hb.size) (aY hJ hb).cell (aR hH.1.lt hb.size) (aY hH.1 hb).cell (aR hH.2.2.lt hb.size) (aY hH.2.2 hb).cell (aR hH.2.1.1.lt hb.size) ((hb.cell (p:=⟨w.heap.size+1,1,none⟩) hH.2.1.1.lt).trans hH.2.1.1.c1) (aR hY.lt hb.size) (aY hY hb).cell (HS.o.aa hB) (HF.o.aa hB) HW.o ?_;intro x hx V' hb';have hb2:=hb.trans (hb'.ae hb.size);have h4:=zL.o;exact((qJ.aa hb2).calls (HS.o.aa (hB.trans (hb'.ae hB.size))) (hi.aa hb2) cU.o BV.o kz.o En.o fN (by omega)))
 have Ex:=hid uE;clear uE;refine Ex.o.ae ?_;rintro e w9 ⟨G,rfl,hG,hrow,rS⟩;have hl9:=hH.top;replace hH:=hH.step rS;replace hi:=hi.aa rS;obtain⟨k0,k1,f0,f1⟩:=hH.2.1.2.1.facts;obtain⟨e1,e2,e3⟩:=hH.2.1.fin (by omega) (cb:=cd) (cc:=FL.length) EB.o (by omega) hi hrow (by omega) (.slice d rest.length cd) (.slice (some ⟨G,0,none⟩) FL.length FL.length) rfl rfl;go_wp2;refine dh (e1.result2 rfl _ rfl) rfl ?_;exact⟨e2,e3⟩
theorem ad9 (a b c:Option Addr) (ca cb cc:Nat) (sizes vars:List Int) (l:List Fr) (v:Nat) (w:World) (hs:aC w a sizes) (hv:aC w b vars) (hf:ew w c l) (hn:sizes.length<=140737488355328) (hm:vars.length<=140737488355328) (hk:kp sizes vars l.length=0) (hw:Cw 8192 l) (hv':vars.contains (v:Int)=true) (ek:v<sizes.length):
  Calls Tryz.prog 160 #[.slice a sizes.length ca,.agg #[.slice b vars.length cb,.slice c l.length cc],.int .i64 (v:Nat),.bool true] w fun e w'=>r8 w.heap.size (bP vars (v:Int)) (oN (af sizes) (af vars) (af (bP vars (v:Int))) v true l) 0 e w'/\Below w.heap.size w w':=by
 obtain⟨aN,aT,hlc⟩:=D8 hk;have vK:=hid (fun V h=>Hz b cb vars (v:Int) V h hm);rw[hv'] at vK;have po:=fun V h1 h2=>Hw a b c ca cb cc l.length sizes vars V h1 h2 hn hm;rw[hk] at po;have HC:=hid po;clear po;have hrl:(bP vars (v:Int)).length<=vars.length:=l6 _ _;have ZJ:=aT.length;have pI:=aN.eight;have cU:=hid aN;have kz:=hid aT;have BV:=hid (rM aT (v:Int));have En:=hid (L8 (v:=v) aT);have fX:=hid (fun K (hK:K<cnt (af sizes) (af (bP vars (v:Int)))) x (hx:x<sz (af sizes) v)=>Pc hk hK hx);have jP:=Qe (af sizes) (af vars) (af (bP vars (v:Int))) v true l;have vJ:=hid (fun (k:Nat) (h:k<(oN (af sizes) (af vars) (af (bP vars (v:Int))) v true l).length)=>X6 (af sizes) (af vars) (af (bP vars (v:Int))) v true l h);have kT:=hid (fun V h=>Pb b cb vars (v:Int) V h (by omega));generalize oN (af sizes) (af vars) (af (bP vars (v:Int))) v true l=FL at *;generalize bP vars (v:Int)=rest at *;have HST:=hid (fun V d cd h1 h2=>Pz a d b ca cd cb sizes rest vars v V h1 h2 aN aT ek);have HF:=hid hf;have HW:=hid hw;have iq:=hid jP;have HN:=hid (aN.sz_eq ek);have zL:=hid (aN.sz_le v);have Cb:=hid (mh aN.pos v);have xC:=hid ek;clear hv' hk aN aT hlc hf hw jP;have HS:=hid hs;have HV:=hid hv;have hH:=OH.new w (.slice a sizes.length ca) (.slice b vars.length cb) (.slice c l.length cc) (.int .i64 (v:Nat));have c0:=hH.2.1.1.c0;have c1:=hH.2.1.1.c1;have cs:=hH.1.cell;go_enter Tryz.func160,Tryz.ntmps160;go_wp2_with fail
 generalize ((((w.alloc (.cells #[.slice a sizes.length ca] 27)).alloc (TC (.slice b vars.length cb) (.slice c l.length cc))).alloc (.cells #[.int .i64 (v:Nat)] 3)).alloc (TC (.slice none 0 0) (.slice none 0 0)))=W at *;refine(HC.o _ (HS.o.aa hH.2.1.2.2) (HV.o.aa hH.2.1.2.2)).ae ?_;rintro e w1 ⟨rfl,hb1⟩;replace hH:=hH.step hb1;clear c0 c1 cs hb1;have c0:=hH.2.1.1.c0;have cx:=hH.2.2.cell;go_wp2_with fail
 refine(vK.o _ (HV.o.aa hH.2.1.2.2)).ae ?_;rintro e w2 ⟨rfl,hb2⟩;replace hH:=hH.step hb2;clear c0 cx hb2 vK;go_wp2_with fail
 refine(Wa _).ae ?_;rintro e w3 ⟨rfl,hb3⟩;replace hH:=hH.step hb3;clear hb3;have hb4:Below w3.heap.size w3 (w3.alloc (.cells #[.func (.func 141) #[] #[]] 224)):=(aw _ w3).alloc (ak _) _;have hJ:Boxed (w3.alloc (.cells #[.func (.func 141) #[] #[]] 224)) w3.heap.size 224 (.func (.func 141) #[] #[]):=aZ w3 _ _;have bV:=hH.top;replace hH:=hH.step hb4;clear hb4;go_wp2_with fail
 generalize (w3.alloc (.cells #[.func (.func 141) #[] #[]] 224))=w3' at *;generalize w3.heap.size=BJ at *;refine(ajJ _).ae ?_;rintro e w4 ⟨rfl,hb4⟩;replace hH:=hH.step hb4;replace hJ:=aY hJ hb4;clear hb4;have j0:=hJ.cell;have j1:=hJ.frozen;replace hH:=hH.off BJ 0 (.func (.func 235) #[] #[]) bV;have c0:=hH.2.1.1.c0;have cx:=hH.2.2.cell;replace hJ:=hJ.set (.func (.func 235) #[] #[]);go_wp2_with fail
 clear j0 j1 c0 cx;generalize (w4.setCell ⟨BJ,0,none⟩ (.func (.func 235) #[] #[]))=w5 at *;refine(kT.o _ (HV.o.aa hH.2.1.2.2)).ae ?_;rintro e w6 ⟨d,cd,rfl,hi,qG,iK⟩;have EB:=hid (qG.up hH.2.1.2.2.size);clear qG;replace hH:=hH.step iK;replace hJ:=aY hJ iK;clear iK kT;have c0:=hH.2.1.1.c0;have cx:=hH.2.2.cell;have cs:=hH.1.cell;go_wp2_with fail
 refine(HST.o _ d cd (HS.o.aa hH.2.1.2.2) (HV.o.aa hH.2.1.2.2)).ae ?_;rintro e w7 ⟨f,rfl,qJ,ed⟩;replace hH:=hH.step ed;replace hJ:=aY hJ ed;replace hi:=hi.aa ed;obtain⟨lb,rfl⟩:=qJ.shape;clear c0 cx cs ed HST;generalize w6.heap.size=n3 at *;have gF:Below w7.heap.size w7 (w7.alloc (.cells #[.func (.func 200) #[] lb] 100)):=(aw _ w7).alloc (ak _) _;have hY:Boxed (w7.alloc (.cells #[.func (.func 200) #[] lb] 100)) w7.heap.size 100 (.func (.func 200) #[] lb):=aZ w7 _ _;replace hH:=hH.step gF;replace hJ:=aY hJ gF;replace qJ:=qJ.aa gF;replace hi:=hi.aa gF;have cs:=hH.1.cell;go_wp2_with fail
 clear gF cs;generalize (w7.alloc (.cells #[.func (.func 200) #[] lb] 100))=w8 at *;generalize w7.heap.size=EG at *
 have uE:=Nb a d ca cd sizes rest 204 #[.pointer (some ⟨BJ,0,none⟩),.pointer (some ⟨w.heap.size,0,none⟩),.pointer (some ⟨w.heap.size+1+1,0,none⟩),.pointer (some ⟨w.heap.size+1,0,none⟩),.pointer (some ⟨EG,0,none⟩)] (enters_of Tryz.func204 (by kernel_rfl) rfl) FL w8 (HS.o.aa hH.2.1.2.2) hi cU.o BV.o iq.o (fun k hk V hb=>by
  rw[vJ.o k hk];have fN:k<cnt (af sizes) (af rest):=by rw[<- iq.o];exact hk
  have hB:=hH.2.1.2.2.trans (hb.ae hH.2.1.2.2.size);refine X7 true 235 agd BJ w.heap.size (w.heap.size+1+1) (w.heap.size+1) EG a c ca cc sizes lb l k v (sz (af sizes) v) (fun x=>pos (af sizes) (aQ (a8 (af sizes) (af rest) k) v x) (af vars)) (fun x hx=>fX.o k fN x hx) Cb.o zL.o xC.o HN.o.symm V (aR hJ.lt hb.size) (aY hJ hb).cell (aR hH.1.lt hb.size) (aY hH.1 hb).cell (aR hH.2.2.lt hb.size) (aY hH.2.2 hb).cell (aR hH.2.1.1.lt hb.size) ((hb.cell (p:=⟨w.heap.size+1,1,none⟩) hH.2.1.1.lt).trans hH.2.1.1.c1) (aR hY.lt hb.size) (aY hY hb).cell (HS.o.aa hB) (HF.o.aa hB) HW.o ?_;intro x hx V' hb';have hb2:=hb.trans (hb'.ae hb.size);have h4:=zL.o;exact((qJ.aa hb2).calls (HS.o.aa (hB.trans (hb'.ae hB.size))) (hi.aa hb2) cU.o BV.o kz.o En.o fN (by omega)))
 have Ex:=hid uE;clear uE;refine Ex.o.ae ?_;rintro e w9 ⟨G,rfl,hG,hrow,rS⟩;have hl9:=hH.top;replace hH:=hH.step rS;replace hi:=hi.aa rS;obtain⟨k0,k1,f0,f1⟩:=hH.2.1.2.1.facts;obtain⟨e1,e2,e3⟩:=hH.2.1.fin (by omega) (cb:=cd) (cc:=FL.length) EB.o (by omega) hi hrow (by omega) (.slice d rest.length cd) (.slice (some ⟨G,0,none⟩) FL.length FL.length) rfl rfl;go_wp2;refine dh (e1.result2 rfl _ rfl) rfl ?_;exact⟨e2,e3⟩
open Go.Sort Go.Lib
variable {la:List Int}
theorem WW:∀ {a b:List Int},a.Pairwise (·<·) ->b.Pairwise (·<·) ->(∀x,x∈a↔x∈b) ->a=b
 |[],[],_,_,_=>rfl
 |[],y::b,_,_,h=>absurd ((h y).2 c5) (by simp)
 |x::a,[],_,_,h=>absurd ((h x).1 c5) (by simp)
 |x::a,y::b,ha,hb,h=>by
  rw[List.pairwise_cons] at ha hb
  have e:x=y:=by
   have h1:=(h x).1 c5;have h2:=(h y).2 c5;rw[cT] at h1 h2;rcases h1 with h1 |h1
   ·exact h1
   ·rcases h2 with h2 |h2
    ·exact h2.symm
    ·have:=hb.1 x h1;have:=ha.1 y h2;omega
  subst e;rw[WW ha.2 hb.2 fun z=>?_];constructor
  ·intro hz;have h1:=(h z).1 (dD _ hz);have:=ha.1 z hz;rw[cT] at h1;rcases h1 with h1 |h1
   ·omega
   ·exact h1
  ·intro hz;have h1:=(h z).2 (dD _ hz);have:=hb.1 z hz;rw[cT] at h1;rcases h1 with h1 |h1
   ·omega
   ·exact h1
theorem abL {d:Array Int} (hs:∀i j,i<=j ->j<d.size ->d[i]!<=d[j]!):∀m,m<=d.size ->(compactUpTo d m).Pairwise (·<·)/\∀x,x∈compactUpTo d m↔∃j,j<m/\d[j]! =x
 |0,_=>⟨by simp[compactUpTo],fun x=>by simp[compactUpTo]⟩
 |m+1,hm=>by
  obtain⟨h1,h2⟩:=abL hs m (by omega);rw[compactUpTo_succ];by_cases hk:keeps d m=true
  ·rw[aB hk];constructor
   ·rw[List.pairwise_append];refine⟨h1,by simp,fun x hx y hy=>?_⟩;obtain⟨j,hj,rfl⟩:=(h2 x).1 hx;rw[eA] at hy;subst hy;rw[keeps,dQ] at hk;rcases hk with hk |hk
    ·omega
    ·have e1:=hs j (m - 1) (by omega) (by omega);have e2:=hs (m - 1) m (by omega) (by omega);omega
   ·intro x;rw[bL,h2,eA];constructor
    ·rintro(⟨j,hj,rfl⟩ |rfl)
     ·exact⟨j,by omega,rfl⟩
     ·exact⟨m,by omega,rfl⟩
    ·rintro⟨j,hj,rfl⟩;by_cases e:j=m
     ·exact .inr (by rw[e])
     ·exact .inl ⟨j,by omega,rfl⟩
  ·rw[aD hk,l8];refine⟨h1,fun x=>?_⟩;rw[h2];have fN:¬(m=0∨d[m]!≠d[m - 1]!):=fun h=>hk (by rw[keeps,dQ];exact h);have hm0:m≠0:=fun h=>fN (.inl h);have hmm:d[m]! =d[m - 1]!:=CB fun h=>fN (.inr h);constructor
   ·rintro⟨j,hj,rfl⟩;exact⟨j,by omega,rfl⟩
   ·rintro⟨j,hj,rfl⟩;by_cases e:j=m
    ·exact⟨m - 1,by omega,by rw[e,hmm]⟩
    ·exact⟨j,by omega,rfl⟩
def jo (la lb:List Int):List Int:=Lib.compact ((la++lb).mergeSort fun x y=>decide (x<=y))
theorem Hu (la lb:List Int):(jo la lb).Pairwise (·<·)/\∀x,x∈jo la lb↔x∈la∨x∈lb:=by
 have hp:((la++lb).mergeSort fun x y=>decide (x<=y)).Pairwise (fun x y=>decide (x<=y)=true):=List.pairwise_mergeSort (fun a b c h1 h2=>by simp at h1 h2⊢;omega) (fun a b=>by simp;omega) _;have hm:∀x,x∈((la++lb).mergeSort fun x y=>decide (x<=y))↔x∈la∨x∈lb:=fun x=>by rw[List.mem_mergeSort,bL]
 rw[jo];generalize ((la++lb).mergeSort fun x y=>decide (x<=y))=zs at hp hm
 have hs:∀i j,i<=j ->j<zs.toArray.size ->zs.toArray[i]!<=zs.toArray[j]!:=fun i j oT hj=>by
  have hj':j<zs.length:=by simpa using hj
  rw[GZ zs.toArray i (by omega),GZ zs.toArray j hj];by_cases e:i=j
  ·subst e;exact Int.le_refl _
  ·have:=vS.1 hp i j (by omega) hj' (by omega);simpa using this
 obtain⟨h1,h2⟩:=abL hs zs.toArray.size (ak _);have e:Lib.compact zs=compactUpTo zs.toArray zs.toArray.size:=by rw[Lib.compact];simp
 rw[e];refine⟨h1,fun x=>?_⟩;rw[h2, <- hm];constructor
 ·rintro⟨j,hj,rfl⟩;rw[GZ zs.toArray j hj];simp
 ·intro hx;obtain⟨j,hj,rfl⟩:=jg hx;exact⟨j,by simpa using hj,by rw[GZ zs.toArray j (by simpa using hj)];simp⟩
theorem adS:jo [] []=[]:=List.eq_nil_iff_forall_not_mem.2 fun x hx=>by have:=((Hu [] []).2 x).1 hx;simp at this
theorem air {k:Int}:oO k l=true↔k∈l:=by simp[oO]
theorem E0 {lb:List Int} (ha:Up la n) (hb:Up lb n):Up (jo la lb) n:=by
 obtain⟨h1,h2⟩:=Hu la lb;exact fK.2 ⟨fun x hx=>((h2 x).1 hx).elim ((fK.1 ha).1 x) ((fK.1 hb).1 x),h1⟩
theorem ad4 (a b:Option Addr) (ca cb:Nat) (la lb:List Int) (w:World) (ha:aC w a la) (hb:aC w b lb) (ha0:a=none ->ca=0) (hb0:b=none ->cb=0) (km:la.length<=1000) (js:lb.length<=1000):
  Calls Tryz.prog 207 #[.slice a la.length ca,.slice b lb.length cb] w fun e w'=>∃(d:Option Addr) (cd:Nat),e=.returned (.slice d (jo la lb).length cd)/\aC w' d (jo la lb)/\fV w.heap.size d cd/\Below w.heap.size w w':=by
 obtain⟨L,hL⟩:∃L,L=jo la lb:=⟨_,rfl⟩;rw[<- hL];have HL:=hid hL;have Be:Below w.heap.size w (w.alloc (.cells #[.slice a la.length ca,.slice b lb.length cb] 27)):=(aw _ w).alloc (ak _) _;have hrow:(w.alloc (.cells #[.slice a la.length ca,.slice b lb.length cb] 27)).heap[w.heap.size]? =some (.cells #[.slice a la.length ca,.slice b lb.length cb] 27 (0,0)):=fP _ _;have Ky:=hid (aez w.heap.size a b ca cb la lb (w.alloc (.cells #[.slice a la.length ca,.slice b lb.length cb] 27)) (by simp) (by rw[bE _ _ _ _ _ (0,0) hrow];rfl) (by rw[bE _ _ _ _ _ (0,0) hrow];rfl) (ha.aa Be) (hb.aa Be) ha0 hb0 km js);clear hL ha hb ha0 hb0 hrow;go_enter Tryz.func207,Tryz.ntmps207;go_wp2_with fail
 generalize (w.alloc (.cells #[.slice a la.length ca,.slice b lb.length cb] 27))=W at *;refine Ky.o.ae ?_;rintro e w1 ⟨v,rfl,hr,hb1⟩;have hB1:=Be.trans (hb1.ae Be.size);have hs0:=Be.size;rcases hr.cases with ⟨rfl,hnil⟩ |⟨g,cap,rfl,hg0,hg,hc1,hc2,hh⟩
 ·have Jl:L=[]:=by
   have h1:la=[]:=(List.append_eq_nil_iff.1 hnil).1;have h2:lb=[]:=(List.append_eq_nil_iff.1 hnil).2;rw[HL.o,h1,h2,adS]
  subst Jl;go_wp2_with fail
  refine(Tryz.slices_Sort_int_none none 0 _).ae ?_;rintro e w2 ⟨rfl,rfl⟩;go_wp2_with fail
  refine(Tryz.slices_Compact_int_empty none 0 _).ae ?_;rintro e w3 ⟨rfl,rfl⟩;go_wp2;go_ret;exact⟨none,0,rfl,fun k hk=>absurd hk (by simp),fV.nil _,hB1⟩
 ·have dJ:(la++lb).length<=2000:=by rw[bM];omega
  have ZW:=Tryz.slices_Sort_int g 0 cap (la++lb) w1 hh hg (by omega);have hlen:((la++lb).mergeSort fun x y=>decide (x<=y)).length=(la++lb).length:=KU _;have hcl:=Lib.compact_length_le ((la++lb).mergeSort fun x y=>decide (x<=y));rw[<- show jo la lb=Lib.compact ((la++lb).mergeSort fun x y=>decide (x<=y)) from rfl, <- HL.o] at hcl;have Uc:=hid ZW;have amw:Hid (Lib.compact ((la++lb).mergeSort fun x y=>decide (x<=y))=L):=HL.o.symm;generalize ((la++lb).mergeSort fun x y=>decide (x<=y))=zs at *;have HH:=hid hh;clear ZW hh hr hc2 hb1;generalize Ss:(la++lb).length=n at *;go_wp2_with fail
  refine Uc.o.ae ?_;rintro e w2 ⟨rfl,q,os,rfl⟩;have hsz:zs.toArray.size=(la++lb).toArray.size:=by simp;rw[hlen, <- Ss];simp
  have Bl:Holds (Value.int .i64) (grow (putRow (Value.int .i64) (Sort.ahead w1 q) g 0 zs.toArray) os) g 0 zs.toArray:=fun j hj=>by
   obtain⟨h1,h2⟩:=holds_putRow (Value.int .i64) (Sort.ahead w1 q) g 0 _ zs.toArray HH.o hsz j hj;(have fQ:g<(putRow (Value.int .i64) (Sort.ahead w1 q) g 0 zs.toArray).heap.size:=by rw[size_putRow];exact hg);refine⟨(cell?_grow _ _ _ fQ).trans h1,?_⟩;rw[frozen?_grow _ _ _ fQ];exact h2
  have I2:g<(grow (putRow (Value.int .i64) (Sort.ahead w1 q) g 0 zs.toArray) os).heap.size:=aR hg (KJ (w:=w1) (g:=g) (n:=q) (os:=os) zs.toArray).size;have hB2:=Ts (n:=q) (os:=os) zs.toArray hB1 hB1.size (show w.heap.size<=g by omega);generalize grow (putRow (Value.int .i64) (Sort.ahead w1 q) g 0 zs.toArray) os=w2 at *;have RT:=Tryz.slices_Compact_int g 0 cap zs w2 Bl (by omega) (by omega);rw[hlen,amw.o] at RT;have amO:=hid RT;have UL:=hid Bl;clear RT Bl hsz;go_wp2_with fail
  refine amO.o.ae ?_;rintro e w3 ⟨rfl,q2,rfl⟩;go_wp2;go_ret
  have wS:(L++List.replicate (n - L.length) 0).toArray.size=zs.toArray.size:=by
   simp;omega
  exact⟨some ⟨g,0,none⟩,cap,rfl,FQ (holds_putRow (Value.int .i64) (Sort.ahead w2 q2) g 0 zs.toArray _ UL.o wS) (by rw[size_putRow];exact I2) (fun j hj=>⟨by simp;omega,by simp[oH,hj]⟩),fV.at (by omega),Tt _ hB2 hB2.size (by omega)⟩
theorem afE (Ba Fa Bb Fb:Nat) (c d:Option Addr) (ca cb:Nat) (fa fb:Array Value) (la lb:List Fr) (k P Q:Nat) (hP:P<la.length) (hQ:Q<lb.length) (w:World)
  (hBa:Ba<w.heap.size) (xa:w.cell? ⟨Ba,1,none⟩=some (.slice c la.length ca)) (bJ:Fa<w.heap.size) (ya:w.cell? ⟨Fa,0,none⟩=some (.func (.func 234) #[] fa)) (hBb:Bb<w.heap.size) (xb:w.cell? ⟨Bb,1,none⟩=some (.slice d lb.length cb)) (bX:Fb<w.heap.size) (yb:w.cell? ⟨Fb,0,none⟩=some (.func (.func 234) #[] fb)) (ha:ew w c la) (hb:ew w d lb) (wa:Cw 100000 la) (wb:Cw 100000 lb)
  (h1:∀V,Below w.heap.size w V ->Calls Tryz.prog 234 (#[.int .i64 (k:Nat)]++fa) V fun e w'=>e=.returned (.int .i64 (P:Nat))/\Below V.heap.size V w')
  (h2:∀V,Below w.heap.size w V ->Calls Tryz.prog 234 (#[.int .i64 (k:Nat)]++fb) V fun e w'=>e=.returned (.int .i64 (Q:Nat))/\Below V.heap.size V w'):
  Calls Tryz.prog 208 #[.int .i64 (k:Nat),.pointer (some ⟨Ba,0,none⟩),.pointer (some ⟨Fa,0,none⟩),.pointer (some ⟨Bb,0,none⟩),.pointer (some ⟨Fb,0,none⟩)] w fun e w'=>e=.returned (fh (qF (bt (bZ la P)*bt (bZ lb Q))))/\Below w.heap.size w w':=by
 obtain⟨g,o,rfl,hg,a0,a1,a2⟩:=ha P hP;obtain⟨h,p,rfl,hh,b0,b1,b2⟩:=hb Q hQ;have hsa:=wa P hP;have Q6:=wb Q hQ;rw[<- rZ hP] at a0 a1 a2;rw[<- rZ hQ] at b0 b1 b2;have HC:=hid (fun V:World=>akF (w:=V) (bt (bZ la P)*bt (bZ lb Q)) rfl rfl rfl (show (bZ la P).2.1.size+(bZ la P).2.2.size<=100000 by omega) (show (bZ lb Q).2.1.size+(bZ lb Q).2.2.size<=100000 by omega));rw[S5];have H1:=hid h1;have H2:=hid h2;generalize bt (bZ la P)*bt (bZ lb Q)=r at *;clear ha hb h1 h2 hsa Q6 wa wb;generalize bZ la P=f at *;generalize bZ lb Q=f' at *;obtain⟨xn,xx,xy⟩:=f;obtain⟨yn,yx,yy⟩:=f';simp only at a0 a1 a2 b0 b1 b2 HC;have hb0:aL (w.alloc (FC false ⟨#[]⟩ ⟨#[]⟩)) w.heap.size false ⟨#[]⟩ ⟨#[]⟩:=aL.new w _ _ _;have hB:Below w.heap.size w (w.alloc (FC false ⟨#[]⟩ ⟨#[]⟩)):=(aw _ w).alloc (ak _) _;go_enter Tryz.func208,Tryz.ntmps208;go_upto_region 1 with fail
 generalize (w.alloc (FC false ⟨#[]⟩ ⟨#[]⟩))=W at *;replace hb0:=hb0.drew;replace hB:=hB.drew;have held:∀u,Below w.heap.size w u ->u.cell? ⟨Ba,1,none⟩=some (.slice (some ⟨g,o,none⟩) la.length ca)/\u.cell? ⟨Fa,0,none⟩=some (.func (.func 234) #[] fa)/\u.cell? ⟨Bb,1,none⟩=some (.slice (some ⟨h,p,none⟩) lb.length cb)/\u.cell? ⟨Fb,0,none⟩=some (.func (.func 234) #[] fb)/\u.cell? ⟨g,o+P*3,none⟩=some (.bool xn)/\u.cell? ⟨g,o+P*3+1,none⟩=some (.string xx)/\u.cell? ⟨g,o+P*3+2,none⟩=some (.string xy)/\u.cell? ⟨h,p+Q*3,none⟩=some (.bool yn)/\u.cell? ⟨h,p+Q*3+1,none⟩=some (.string yx)/\u.cell? ⟨h,p+Q*3+2,none⟩=some (.string yy):=fun u e=>⟨(e.cell (p:=⟨Ba,1,none⟩) hBa).trans xa,(e.cell (p:=⟨Fa,0,none⟩) bJ).trans ya,(e.cell (p:=⟨Bb,1,none⟩) hBb).trans xb,(e.cell (p:=⟨Fb,0,none⟩) bX).trans yb,(e.cell (p:=⟨g,_,none⟩) hg).trans a0,(e.cell (p:=⟨g,_,none⟩) hg).trans a1,(e.cell (p:=⟨g,_,none⟩) hg).trans a2,(e.cell (p:=⟨h,_,none⟩) hh).trans b0,(e.cell (p:=⟨h,_,none⟩) hh).trans b1,(e.cell (p:=⟨h,_,none⟩) hh).trans b2⟩;have HELD:=hid held;clear held a0 a1 a2 b0 b1 b2 xa ya xb yb
 refine kC (S:=fun u=>u.cell? ⟨Ba,1,none⟩=some (.slice (some ⟨g,o,none⟩) la.length ca)/\u.cell? ⟨Fa,0,none⟩=some (.func (.func 234) #[] fa)/\u.cell? ⟨Bb,1,none⟩=some (.slice (some ⟨h,p,none⟩) lb.length cb)/\u.cell? ⟨Fb,0,none⟩=some (.func (.func 234) #[] fb)/\u.cell? ⟨g,o+P*3,none⟩=some (.bool xn)/\u.cell? ⟨g,o+P*3+1,none⟩=some (.string xx)/\u.cell? ⟨g,o+P*3+2,none⟩=some (.string xy)/\u.cell? ⟨h,p+Q*3,none⟩=some (.bool yn)/\u.cell? ⟨h,p+Q*3+1,none⟩=some (.string yx)/\u.cell? ⟨h,p+Q*3+2,none⟩=some (.string yy)) (by kernel_rfl) (HELD.o _ hB) (fun ah=>?_);generalize W.drew=u0 at *;refine ar 0 (.pointer (some ⟨Ba,1,none⟩)) ?_;try simp only[gE,aP]
 refine dm 1 (.slice (some ⟨g,o,none⟩) la.length ca) ?_ ?_
 ·intro u' aS;obtain⟨s1,s2,s3,s4,s5,s6,s7,s8,s9,yA⟩:=aS;go_simp
 try simp only[gE,aP]
 refine dm 2 (.func (.func 234) #[] fa) ?_ ?_
 ·intro u' aS;obtain⟨s1,s2,s3,s4,s5,s6,s7,s8,s9,yA⟩:=aS;go_simp
 refine ar 3 (.int .i64 (k:Nat)) ?_;refine ar 7 (.pointer (some ⟨Bb,1,none⟩)) ?_;try simp only[gE,aP]
 refine dm 8 (.slice (some ⟨h,p,none⟩) lb.length cb) ?_ ?_
 ·intro u' aS;obtain⟨s1,s2,s3,s4,s5,s6,s7,s8,s9,yA⟩:=aS;go_simp
 try simp only[gE,aP]
 refine dm 9 (.func (.func 234) #[] fb) ?_ ?_
 ·intro u' aS;obtain⟨s1,s2,s3,s4,s5,s6,s7,s8,s9,yA⟩:=aS;go_simp
 refine ar 10 (.int .i64 (k:Nat)) ?_;refine aI [4] (cA ?_ aH);intro K' hK';go_simp;refine(H1.o _ hB).ae ?_;rintro e u1 ⟨rfl,hb⟩;replace hb0:=hb0.aa hb hb0.lt;replace hB:=hB.trans (hb.ae hB.size);refine hK'.o _ _ (HELD.o _ hB) (fun ag=>?_);clear hK' K' ah;have ah:=ag;clear ag hb;refine ar 5 (.pointer (some ⟨g,o+P*3,none⟩)) ?_;try simp only[gE,aP]
 refine dm 6 (.agg #[.bool xn,.string xx,.string xy]) ?_ ?_
 ·intro u' aS;obtain⟨s1,s2,s3,s4,s5,s6,s7,s8,s9,yA⟩:=aS;go_simp
 refine aI [11] (cA ?_ aH);intro K' hK';go_simp;refine(H2.o _ hB).ae ?_;rintro e u2 ⟨rfl,hb⟩;replace hb0:=hb0.aa hb hb0.lt;replace hB:=hB.trans (hb.ae hB.size);refine hK'.o _ _ (HELD.o _ hB) (fun ag=>?_);clear hK' K' ah;have ah:=ag;clear ag hb;refine ar 12 (.pointer (some ⟨h,p+Q*3,none⟩)) ?_;try simp only[gE,aP]
 refine dm 13 (.agg #[.bool yn,.string yx,.string yy]) ?_ ?_
 ·intro u' aS;obtain⟨s1,s2,s3,s4,s5,s6,s7,s8,s9,yA⟩:=aS;go_simp
 refine aI [14] (cA ?_ aH);intro K' hK';go_simp;refine(HC.o _).ae ?_;rintro e u3 ⟨rfl,hb⟩;replace hb0:=hb0.aa hb hb0.lt;replace hB:=hB.trans (hb.ae hB.size);refine hK'.o _ _ (HELD.o _ hB) (fun ag=>?_);clear hK' K' ah;have ah:=ag;clear ag hb;try simp only[gE,aP]
 obtain⟨k0,k1,k2,f0,f1,f2⟩:=hb0.facts;refine aI [15] (cA ?_ aH);intro K' hK';go_simp;have hput:=hb0.put (cI r) (nu r) (de r);have uR:=df hB (g:=w.heap.size) (ak _) (.bool (cI r)) (.string (nu r)) (.string (de r));generalize (((u3.setCell ⟨w.heap.size,0,none⟩ (.bool (cI r))).setCell ⟨w.heap.size,1,none⟩ (.string (nu r))).setCell ⟨w.heap.size,2,none⟩ (.string (de r)))=v9 at *;refine hK'.o _ _ (HELD.o _ uR) (fun _=>dW (by kernel_rfl) ?_ _);clear hK' K' ah;go_wp2;refine dh (hput.result rfl _ rfl) rfl ?_;exact⟨rfl,uR⟩
variable {j:Nat}
def TV (w:World) (g:Nat) (x y z t:Value):Prop:=w.heap[g]? =some (.cells #[x,y,z,t] 39 (0,0))
theorem TV.lt {t:Value} (h:TV w g x y z t):g<w.heap.size:=(cV.1 h).1
def PH (w V:World) (x y z t:Value):Prop:=bG V w.heap.size x y/\bG V (w.heap.size+1) z t/\bG V (w.heap.size+1+1) (.slice none 0 0) (.slice none 0 0)/\TV V (w.heap.size+1+1+1) x y z t/\Below w.heap.size w V
theorem PH.step {t:Value} (h:PH w V x y z t) (hb:Below V.heap.size V V'):PH w V' x y z t:=⟨h.1.aa hb h.1.lt,h.2.1.aa hb h.2.1.lt,h.2.2.1.aa hb h.2.2.1.lt,(hb.block _ h.2.2.2.1.lt).trans h.2.2.2.1,h.2.2.2.2.trans (hb.ae h.2.2.2.2.size)⟩
theorem PH.drew {t:Value} (h:PH w V x y z t):PH w V.drew x y z t:=⟨h.1,h.2.1,h.2.2.1,h.2.2.2.1,h.2.2.2.2.drew⟩
theorem PH.new (w:World) (x y z t:Value):PH w ((((w.alloc (TC x y)).alloc (TC z t)).alloc (TC (.slice none 0 0) (.slice none 0 0))).alloc (.cells #[x,y,z,t] 39)) x y z t:=by
 refine⟨((bG.at rfl _ _).alloc _ |>.alloc _).alloc _,((bG.at (by simp) _ _).alloc _).alloc _,(bG.at (by simp) _ _).alloc _,?_,((((aw _ w).alloc (ak _) _).alloc (by simp) _).alloc (by simp;omega) _).alloc (by simp;omega) _⟩;have h:=fP (((w.alloc (TC x y)).alloc (TC z t)).alloc (TC (.slice none 0 0) (.slice none 0 0))) (.cells #[x,y,z,t] 39);rw[dE,dE,dE] at h;exact h
theorem PH.row {t:Value} (h:PH w V x y z t):(V.cell? ⟨w.heap.size+1+1+1,0,none⟩=some x/\V.cell? ⟨w.heap.size+1+1+1,1,none⟩=some y)/\V.cell? ⟨w.heap.size+1+1+1,2,none⟩=some z/\V.cell? ⟨w.heap.size+1+1+1,3,none⟩=some t:=by
 refine⟨⟨?_,?_⟩,?_,?_⟩<;>(rw[bE _ _ _ _ _ (0,0) h.2.2.2.1];rfl)
theorem Fu {B b:Nat} {t:TypeId} (h:Boxed V B t .nilFunc) (hx:V.cell? ⟨b,j,none⟩=some x) (hn:x≠.nilFunc):b≠B:=fun e=>by
 subst e;rw[bE V b j _ _ (0,0) h] at hx;match j with
 |0=>simp at hx;exact hn hx.symm
 |j+1=>simp at hx
theorem QH {B:Nat} {t:TypeId} {c:Option Addr} (h:Boxed V B t .nilFunc) (hi:aC V c l) (y:Value):aC (V.setCell ⟨B,0,none⟩ y) c l:=fun k hk=>by
 obtain⟨g,o,rfl,hlt,hc⟩:=hi k hk;have hne:=Fu h hc (by simp);exact⟨g,o,rfl,aR hlt (ji V _ _).size,(dX _ _ _ _ (fun e=>hne (dt Addr.block e).symm)).trans hc⟩
theorem lN.nil {B:Nat} {t:TypeId} {f:Value} {b:Option Addr} {sizes vars:List Int} (h:lN V n m f a b ca cb sizes vars other) (hb:Boxed V B t .nilFunc) (y:Value):lN (V.setCell ⟨B,0,none⟩ y) n m f a b ca cb sizes vars other:=by
 obtain⟨Bv,Bs,Bt,g,ct,h0,hn,hm,hM,h4,h5,h6,h7⟩:=h;have far:∀(b j:Nat) (x:Value),V.cell? ⟨b,j,none⟩=some x ->x≠.nilFunc ->(V.setCell ⟨B,0,none⟩ y).cell? ⟨b,j,none⟩=some x:=fun b j x hx hn=>(dX _ _ _ _ (fun e=>Fu hb hx hn (dt Addr.block e).symm)).trans hx;exact⟨Bv,Bs,Bt,g,ct,h0,hn,hm,aM hM (ji V _ _).size,far _ _ _ h4 (by simp),far _ _ _ h5 (by simp),far _ _ _ h6 (by simp),QH hb h7 y⟩
theorem PH.nil {t:Value} {B:Nat} {ty:TypeId} (h:PH w V x y z t) (hx:dA x) (hz:dA z) (hb:Boxed V B ty .nilFunc) (hB:w.heap.size<=B) (u:Value):PH w (V.setCell ⟨B,0,none⟩ u) x y z t:=by
 obtain⟨a1,n1,c1,rfl⟩:=hx;obtain⟨a2,n2,c2,rfl⟩:=hz;have h4:=h.row.1.1;exact⟨h.1.off B 0 u (Fu hb h.1.c0 (by simp)),h.2.1.off B 0 u (Fu hb h.2.1.c0 (by simp)),h.2.2.1.off B 0 u (Fu hb h.2.2.1.c0 (by simp)),(iU V ⟨B,0,none⟩ u _ (Fu hb h4 (by simp))).trans h.2.2.2.1,h.2.2.2.2.setCell (p:=⟨B,0,none⟩) hB u⟩
theorem Xz (S va vb U:List Nat) (la lb:List Fr):(sQ S va vb U la lb).length=cnt S U:=by simp[sQ]
theorem afD (S va vb U:List Nat) (la lb:List Fr) (h:k<(sQ S va vb U la lb).length):(sQ S va vb U la lb)[k]=qF (bt (bZ la (pos S (a8 S U k) va))*bt (bZ lb (pos S (a8 S U k) vb))):=by simp[sQ]
theorem Ww {sizes vars U:List Int} {K:Nat} (hk:kp sizes vars m=0) (hK:K<cnt (af sizes) (af U)):pos (af sizes) (a8 (af sizes) (af U) K) (af vars)<m:=by
 obtain⟨h1,h2,h3⟩:=D8 hk;rw[h3];exact rI _ (fun u=>vd h1.pos _ _ u hK) _
theorem ad7 (a b c b' c':Option Addr) (ca cb cc gG r5:Nat) (sizes va vb:List Int) (la lb:List Fr) (w:World) (hs:aC w a sizes) (sZ:aC w b va) (mr:aC w b' vb) (hfa:ew w c la) (hfb:ew w c' lb) (hn:sizes.length<=140737488355328) (hma:va.length<=140737488355328) (Dd:vb.length<=140737488355328) (hb0:b=none ->cb=0) (Be:b'=none ->gG=0) (hka:kp sizes va la.length=0) (hkb:kp sizes vb lb.length=0) (QU:Cw 100000 la) (ZH:Cw 100000 lb):
  Calls Tryz.prog 161 #[.slice a sizes.length ca,.agg #[.slice b va.length cb,.slice c la.length cc],.agg #[.slice b' vb.length gG,.slice c' lb.length r5]] w fun e w'=>r8 w.heap.size (jo va vb) (sQ (af sizes) (af va) (af vb) (af (jo va vb)) la lb) 0 e w'/\Below w.heap.size w w':=by
 obtain⟨aN,kM, -⟩:=D8 hka;obtain⟨-,wO, -⟩:=D8 hkb;obtain⟨R,jb,hR1⟩:∃R:Nat ->Int,R 0=kp sizes va la.length/\R 1=kp sizes vb lb.length:=⟨fun i=>if i=0 then kp sizes va la.length else kp sizes vb lb.length,rfl,rfl⟩
 have HKZ:Hid (∀i,i< 2 ->R i=0):=by
  intro i hi;by_cases h:i=0
  ·subst h;rw[jb];exact hka
  ·obtain rfl:i=1:=by omega
   rw[hR1];exact hkb
 have pI:=aN.eight;have km:=kM.length;have js:=wO.length;have T6:=hid (fun V h1 h2=>ad4 b b' cb gG va vb V h1 h2 hb0 Be (by omega) (by omega));have Em:=hid (fun K (hK:K<cnt (af sizes) (af (jo va vb)))=>Ww hka hK);have lS:=hid (fun K (hK:K<cnt (af sizes) (af (jo va vb)))=>Ww hkb hK);have iq:=hid (Xz (af sizes) (af va) (af vb) (af (jo va vb)) la lb);have vJ:=hid (fun (k:Nat) (h:k<(sQ (af sizes) (af va) (af vb) (af (jo va vb)) la lb).length)=>afD (af sizes) (af va) (af vb) (af (jo va vb)) la lb h);have pX:=hid (E0 kM wO);generalize sQ (af sizes) (af va) (af vb) (af (jo va vb)) la lb=FL at *;generalize jo va vb=U at *;have Ka:=hid (fun V d cd h1 h2=>Py a d b ca cd cb sizes U va V h1 h2 aN kM);have vw:=hid (fun V d cd h1 h2=>Py a d b' ca cd gG sizes U vb V h1 h2 aN wO);have cU:=hid aN;have HUA:=hid kM;have HUB:=hid wO;have UT:=hid hfa;have HFB:=hid hfb;have HWA:=hid QU;have T1:=hid ZH;clear hka hkb aN kM wO hfa hfb QU ZH hb0 Be
 have one:∀i,i< 2 ->∃(p q:Option Addr) (n m cp cq:Nat) (r:Int),(∀V,PH w V (.slice b va.length cb) (.slice c la.length cc) (.slice b' vb.length gG) (.slice c' lb.length r5) ->V.cell? ⟨w.heap.size+1+1+1,i*2,none⟩=some (.slice p n cp)/\V.cell? ⟨w.heap.size+1+1+1,i*2+1,none⟩=some (.slice q m cq))/\(∀V,Below w.heap.size w V ->Calls Tryz.prog 86 #[.slice a sizes.length ca,.agg #[.slice p n cp,.slice q m cq]] V fun e w'=>e=.returned (.int .i64 r)/\Below V.heap.size V w')/\R i=r:=by
  intro i hi;by_cases h:i=0
  ·subst h;exact⟨b,c,va.length,la.length,cb,cc,_,fun V h=>h.row.1,fun V h=>Hw a b c ca cb cc la.length sizes va V (hs.aa h) (sZ.aa h) hn hma,jb⟩
  ·obtain rfl:i=1:=by omega
   exact⟨b',c',vb.length,lb.length,gG,r5,_,fun V h=>h.row.2,fun V h=>Hw a b' c' ca gG r5 lb.length sizes vb V (hs.aa h) (mr.aa h) hn Dd,hR1⟩
 have Kn:=hid one;have HS:=hid hs;have Gq:=hid sZ;have tK:=hid mr;clear one jb hR1 hs sZ mr;have hH:=PH.new w (.slice b va.length cb) (.slice c la.length cc) (.slice b' vb.length gG) (.slice c' lb.length r5);have c0:=hH.1.c0;have c1:=hH.1.c1;have c2:=hH.2.1.c0;have c3:=hH.2.1.c1;go_enter Tryz.func161,Tryz.ntmps161;go_wp2_with fail
 generalize ((((w.alloc (TC (.slice b va.length cb) (.slice c la.length cc))).alloc (TC (.slice b' vb.length gG) (.slice c' lb.length r5))).alloc (TC (.slice none 0 0) (.slice none 0 0))).alloc (.cells #[.slice b va.length cb,.slice c la.length cc,.slice b' vb.length gG,.slice c' lb.length r5] 39))=W at *;have HPH:=hid hH;clear c0 c1 c2 c3 hH;go_loopw [18] (fun iv wr=>∃i:Nat,i<=2/\iv=.int .i64 i/\Hid (∀j,j< i ->R j=0)/\Hid (PH w wr (.slice b va.length cb) (.slice c la.length cc) (.slice b' vb.length gG) (.slice c' lb.length r5))) (fun iv _=>2 - (intOf iv).toNat)
 case atStart=>exact⟨0,by omega,rfl,fun j hj=>absurd hj (by omega),HPH⟩
 case round=>
  obtain⟨i,hi,rfl,HZ,HP⟩:=hrel;clear HPH;by_cases hlt:i<2
  ·obtain⟨p,q,n,m,cp,cq,r,hcl,hck,hr⟩:=Kn.o i hlt;obtain⟨d0,d1⟩:=hcl _ HP.o;have po:=hid hck;have HR:=hid hr;clear hcl hck hr;have hb1:Below wr.heap.size wr (wr.alloc (TC (.slice p n cp) (.slice q m cq))):=(aw _ wr).alloc (ak _) _;have hx:=bG.at (w:=wr) rfl (.slice p n cp) (.slice q m cq);have e0:=hx.c0;have e1:=hx.c1;go_wp2_with fail
   replace HP:=hid (HP.o.step hb1);clear d0 d1 e0 e1 hb1;generalize (wr.alloc (TC (.slice p n cp) (.slice q m cq)))=w2 at *;refine(po.o _ HP.o.2.2.2.2).ae ?_;rintro e w3 ⟨rfl,hb3⟩;replace HP:=hid (HP.o.step hb3);clear hb3 hx;by_cases Iy:r=0
   ·subst Iy;go_wp2;go_roundw
    case rel=>exact⟨i+1,by omega,by go_num,fun j hj=>by
      by_cases e:j=i
      ·rw[e];exact HR.o
      ·exact HZ.o j (by omega),HP⟩
    case measure=>simp[intOf];omega
   ·have rV:=HKZ.o i hlt;rw[HR.o] at rV;exact absurd rV Iy
  ·obtain rfl:i=2:=by omega
   have hH:=HP.o;have c0:=hH.1.c0;have c2:=hH.2.1.c0;clear HP HZ Kn;go_wp2_with fail
   refine(T6.o _ (Gq.o.aa hH.2.2.2.2) (tK.o.aa hH.2.2.2.2)).ae ?_;rintro e w1 ⟨d,cd,rfl,hi,qG,hb1⟩;have EB:=hid (qG.up hH.2.2.2.2.size);clear qG;replace hH:=hH.step hb1;clear c0 c2 hb1;go_upto_region 9 with fail
   replace hH:=hH.drew;replace hi:aC w1.drew d U:=hi;refine kC (S:=fun u=>u.cell? ⟨w.heap.size,0,none⟩=some (.slice b va.length cb)/\u.cell? ⟨w.heap.size+1,0,none⟩=some (.slice b' vb.length gG)) (by kernel_rfl) ⟨hH.1.c0,hH.2.1.c0⟩ (fun ah=>?_);generalize w1.drew=u0 at *;refine ar 0 (.slice a sizes.length ca) ?_;refine ar 1 (.slice d U.length cd) ?_;refine ar 2 (.pointer (some ⟨w.heap.size,0,none⟩)) ?_;refine ar 3 (.slice b va.length cb) ?_;refine ar 5 (.slice a sizes.length ca) ?_;refine ar 6 (.slice d U.length cd) ?_;refine ar 7 (.pointer (some ⟨w.heap.size+1,0,none⟩)) ?_;refine ar 8 (.slice b' vb.length gG) ?_;refine aI [4,10,11] (cA ?_ (cA ?_ (cA ?_ aH)))
   focus
    intro K' hK';go_simp;refine(Ka.o _ d cd (HS.o.aa hH.2.2.2.2) (Gq.o.aa hH.2.2.2.2)).ae ?_;rintro e u1 ⟨f,rfl,bJ,hb⟩;obtain⟨fa,rfl⟩:=bJ.shape;replace hH:=hH.step hb;replace hi:=hi.aa hb;refine hK'.o _ _ ⟨hH.1.c0,hH.2.1.c0⟩ (fun ag=>?_);clear hK' K' ah;have ah:=ag;clear ag hb;generalize u0.heap.size=na at bJ;generalize u1.heap.size=ma at bJ;refine aI [9,10,11] (cA ?_ (cA ?_ (cA ?_ aH)))
    focus
     intro K' hK';go_simp;refine(vw.o _ d cd (HS.o.aa hH.2.2.2.2) (tK.o.aa hH.2.2.2.2)).ae ?_;rintro e u2 ⟨f,rfl,bX,hb⟩;obtain⟨fb,rfl⟩:=bX.shape;replace hH:=hH.step hb;replace hi:=hi.aa hb;replace bJ:=bJ.aa hb;refine hK'.o _ _ ⟨hH.1.c0,hH.2.1.c0⟩ (fun ag=>?_);clear hK' K' ah;have ah:=ag;clear ag hb;generalize u1.heap.size=nb at bX;generalize u2.heap.size=mb at bX;refine aI [10,11] (cA ?_ (cA ?_ aH))
     focus
      intro K' hK';go_simp;have hb:Below u2.heap.size u2 (u2.alloc (.cells #[.nilFunc] 140)):=(aw _ u2).alloc (ak _) _;have h10:Boxed (u2.alloc (.cells #[.nilFunc] 140)) u2.heap.size 140 .nilFunc:=aZ u2 _ _;have b7:=hH.2.2.2.2.size;replace hH:=hH.step hb;replace hi:=hi.aa hb;replace bJ:=bJ.aa hb;replace bX:=bX.aa hb;refine hK'.o _ _ ⟨hH.1.c0,hH.2.1.c0⟩ (fun ag=>?_);clear hK' K' ah;have ah:=ag;clear ag hb;generalize (u2.alloc (.cells #[.nilFunc] 140))=u3 at *;generalize u2.heap.size=cS at *;refine aI [11] (cA ?_ aH);intro K' hK';go_simp;have hb:Below u3.heap.size u3 (u3.alloc (.cells #[.nilFunc] 140)):=(aw _ u3).alloc (ak _) _;have h11:Boxed (u3.alloc (.cells #[.nilFunc] 140)) u3.heap.size 140 .nilFunc:=aZ u3 _ _;have sO:=hH.2.2.2.2.size;(have ne:cS≠u3.heap.size:=by have:=h10.lt;omega);replace hH:=hH.step hb;replace hi:=hi.aa hb;replace bJ:=bJ.aa hb;replace bX:=bX.aa hb;replace h10:=aY h10 hb;refine hK'.o _ _ ⟨hH.1.c0,hH.2.1.c0⟩ (fun ag=>?_);clear hK' K' ah;have ah:=ag;clear ag hb;generalize (u3.alloc (.cells #[.nilFunc] 140))=u4 at *;generalize u3.heap.size=nB at *
     rotate_left
     focus
      intro K' hK';go_simp;have hb:Below u2.heap.size u2 (u2.alloc (.cells #[.nilFunc] 140)):=(aw _ u2).alloc (ak _) _;have h11:Boxed (u2.alloc (.cells #[.nilFunc] 140)) u2.heap.size 140 .nilFunc:=aZ u2 _ _;have sO:=hH.2.2.2.2.size;replace hH:=hH.step hb;replace hi:=hi.aa hb;replace bJ:=bJ.aa hb;replace bX:=bX.aa hb;refine hK'.o _ _ ⟨hH.1.c0,hH.2.1.c0⟩ (fun ag=>?_);clear hK' K' ah;have ah:=ag;clear ag hb;generalize (u2.alloc (.cells #[.nilFunc] 140))=u3 at *;generalize u2.heap.size=nB at *;refine aI [10] (cA ?_ aH);intro K' hK';go_simp;have hb:Below u3.heap.size u3 (u3.alloc (.cells #[.nilFunc] 140)):=(aw _ u3).alloc (ak _) _;have h10:Boxed (u3.alloc (.cells #[.nilFunc] 140)) u3.heap.size 140 .nilFunc:=aZ u3 _ _;have b7:=hH.2.2.2.2.size;(have ne:nB≠u3.heap.size:=by have:=h11.lt;omega);replace hH:=hH.step hb;replace hi:=hi.aa hb;replace bJ:=bJ.aa hb;replace bX:=bX.aa hb;replace h11:=aY h11 hb;refine hK'.o _ _ ⟨hH.1.c0,hH.2.1.c0⟩ (fun ag=>?_);clear hK' K' ah;have ah:=ag;clear ag hb;generalize (u3.alloc (.cells #[.nilFunc] 140))=u4 at *;generalize u3.heap.size=cS at *
    rotate_left 2
    focus
     intro K' hK';go_simp;have hb:Below u1.heap.size u1 (u1.alloc (.cells #[.nilFunc] 140)):=(aw _ u1).alloc (ak _) _;have h10:Boxed (u1.alloc (.cells #[.nilFunc] 140)) u1.heap.size 140 .nilFunc:=aZ u1 _ _;have b7:=hH.2.2.2.2.size;replace hH:=hH.step hb;replace hi:=hi.aa hb;replace bJ:=bJ.aa hb;refine hK'.o _ _ ⟨hH.1.c0,hH.2.1.c0⟩ (fun ag=>?_);clear hK' K' ah;have ah:=ag;clear ag hb;generalize (u1.alloc (.cells #[.nilFunc] 140))=u2 at *;generalize u1.heap.size=cS at *;refine aI [9,11] (cA ?_ (cA ?_ aH))
     focus
      intro K' hK';go_simp;refine(vw.o _ d cd (HS.o.aa hH.2.2.2.2) (tK.o.aa hH.2.2.2.2)).ae ?_;rintro e u3 ⟨f,rfl,bX,hb⟩;obtain⟨fb,rfl⟩:=bX.shape;replace hH:=hH.step hb;replace hi:=hi.aa hb;replace bJ:=bJ.aa hb;replace h10:=aY h10 hb;refine hK'.o _ _ ⟨hH.1.c0,hH.2.1.c0⟩ (fun ag=>?_);clear hK' K' ah;have ah:=ag;clear ag hb;generalize u2.heap.size=nb at bX;generalize u3.heap.size=mb at bX;refine aI [11] (cA ?_ aH);intro K' hK';go_simp;have hb:Below u3.heap.size u3 (u3.alloc (.cells #[.nilFunc] 140)):=(aw _ u3).alloc (ak _) _;have h11:Boxed (u3.alloc (.cells #[.nilFunc] 140)) u3.heap.size 140 .nilFunc:=aZ u3 _ _;have sO:=hH.2.2.2.2.size;(have ne:cS≠u3.heap.size:=by have:=h10.lt;omega);replace hH:=hH.step hb;replace hi:=hi.aa hb;replace bJ:=bJ.aa hb;replace bX:=bX.aa hb;replace h10:=aY h10 hb;refine hK'.o _ _ ⟨hH.1.c0,hH.2.1.c0⟩ (fun ag=>?_);clear hK' K' ah;have ah:=ag;clear ag hb;generalize (u3.alloc (.cells #[.nilFunc] 140))=u4 at *;generalize u3.heap.size=nB at *
     rotate_left
     focus
      intro K' hK';go_simp;have hb:Below u2.heap.size u2 (u2.alloc (.cells #[.nilFunc] 140)):=(aw _ u2).alloc (ak _) _;have h11:Boxed (u2.alloc (.cells #[.nilFunc] 140)) u2.heap.size 140 .nilFunc:=aZ u2 _ _;have sO:=hH.2.2.2.2.size;(have ne:cS≠u2.heap.size:=by have:=h10.lt;omega);replace hH:=hH.step hb;replace hi:=hi.aa hb;replace bJ:=bJ.aa hb;replace h10:=aY h10 hb;refine hK'.o _ _ ⟨hH.1.c0,hH.2.1.c0⟩ (fun ag=>?_);clear hK' K' ah;have ah:=ag;clear ag hb;generalize (u2.alloc (.cells #[.nilFunc] 140))=u3 at *;generalize u2.heap.size=nB at *;refine aI [9] (cA ?_ aH);intro K' hK';go_simp;refine(vw.o _ d cd (HS.o.aa hH.2.2.2.2) (tK.o.aa hH.2.2.2.2)).ae ?_;rintro e u4 ⟨f,rfl,bX,hb⟩;obtain⟨fb,rfl⟩:=bX.shape;replace hH:=hH.step hb;replace hi:=hi.aa hb;replace bJ:=bJ.aa hb;replace h10:=aY h10 hb;replace h11:=aY h11 hb;refine hK'.o _ _ ⟨hH.1.c0,hH.2.1.c0⟩ (fun ag=>?_);clear hK' K' ah;have ah:=ag;clear ag hb;generalize u3.heap.size=nb at bX;generalize u4.heap.size=mb at bX
    rotate_left 2
    focus
     intro K' hK';go_simp;have hb:Below u1.heap.size u1 (u1.alloc (.cells #[.nilFunc] 140)):=(aw _ u1).alloc (ak _) _;have h11:Boxed (u1.alloc (.cells #[.nilFunc] 140)) u1.heap.size 140 .nilFunc:=aZ u1 _ _;have sO:=hH.2.2.2.2.size;replace hH:=hH.step hb;replace hi:=hi.aa hb;replace bJ:=bJ.aa hb;refine hK'.o _ _ ⟨hH.1.c0,hH.2.1.c0⟩ (fun ag=>?_);clear hK' K' ah;have ah:=ag;clear ag hb;generalize (u1.alloc (.cells #[.nilFunc] 140))=u2 at *;generalize u1.heap.size=nB at *;refine aI [9,10] (cA ?_ (cA ?_ aH))
     focus
      intro K' hK';go_simp;refine(vw.o _ d cd (HS.o.aa hH.2.2.2.2) (tK.o.aa hH.2.2.2.2)).ae ?_;rintro e u3 ⟨f,rfl,bX,hb⟩;obtain⟨fb,rfl⟩:=bX.shape;replace hH:=hH.step hb;replace hi:=hi.aa hb;replace bJ:=bJ.aa hb;replace h11:=aY h11 hb;refine hK'.o _ _ ⟨hH.1.c0,hH.2.1.c0⟩ (fun ag=>?_);clear hK' K' ah;have ah:=ag;clear ag hb;generalize u2.heap.size=nb at bX;generalize u3.heap.size=mb at bX;refine aI [10] (cA ?_ aH);intro K' hK';go_simp;have hb:Below u3.heap.size u3 (u3.alloc (.cells #[.nilFunc] 140)):=(aw _ u3).alloc (ak _) _;have h10:Boxed (u3.alloc (.cells #[.nilFunc] 140)) u3.heap.size 140 .nilFunc:=aZ u3 _ _;have b7:=hH.2.2.2.2.size;(have ne:nB≠u3.heap.size:=by have:=h11.lt;omega);replace hH:=hH.step hb;replace hi:=hi.aa hb;replace bJ:=bJ.aa hb;replace bX:=bX.aa hb;replace h11:=aY h11 hb;refine hK'.o _ _ ⟨hH.1.c0,hH.2.1.c0⟩ (fun ag=>?_);clear hK' K' ah;have ah:=ag;clear ag hb;generalize (u3.alloc (.cells #[.nilFunc] 140))=u4 at *;generalize u3.heap.size=cS at *
     rotate_left
     focus
      intro K' hK';go_simp;have hb:Below u2.heap.size u2 (u2.alloc (.cells #[.nilFunc] 140)):=(aw _ u2).alloc (ak _) _;have h10:Boxed (u2.alloc (.cells #[.nilFunc] 140)) u2.heap.size 140 .nilFunc:=aZ u2 _ _;have b7:=hH.2.2.2.2.size;(have ne:nB≠u2.heap.size:=by have:=h11.lt;omega);replace hH:=hH.step hb;replace hi:=hi.aa hb;replace bJ:=bJ.aa hb;replace h11:=aY h11 hb;refine hK'.o _ _ ⟨hH.1.c0,hH.2.1.c0⟩ (fun ag=>?_);clear hK' K' ah;have ah:=ag;clear ag hb;generalize (u2.alloc (.cells #[.nilFunc] 140))=u3 at *;generalize u2.heap.size=cS at *;refine aI [9] (cA ?_ aH);intro K' hK';go_simp;refine(vw.o _ d cd (HS.o.aa hH.2.2.2.2) (tK.o.aa hH.2.2.2.2)).ae ?_;rintro e u4 ⟨f,rfl,bX,hb⟩;obtain⟨fb,rfl⟩:=bX.shape;replace hH:=hH.step hb;replace hi:=hi.aa hb;replace bJ:=bJ.aa hb;replace h10:=aY h10 hb;replace h11:=aY h11 hb;refine hK'.o _ _ ⟨hH.1.c0,hH.2.1.c0⟩ (fun ag=>?_);clear hK' K' ah;have ah:=ag;clear ag hb;generalize u3.heap.size=nb at bX;generalize u4.heap.size=mb at bX
   rotate_left 6
   focus
    intro K' hK';go_simp;have hb:Below u0.heap.size u0 (u0.alloc (.cells #[.nilFunc] 140)):=(aw _ u0).alloc (ak _) _;have h10:Boxed (u0.alloc (.cells #[.nilFunc] 140)) u0.heap.size 140 .nilFunc:=aZ u0 _ _;have b7:=hH.2.2.2.2.size;replace hH:=hH.step hb;replace hi:=hi.aa hb;refine hK'.o _ _ ⟨hH.1.c0,hH.2.1.c0⟩ (fun ag=>?_);clear hK' K' ah;have ah:=ag;clear ag hb;generalize (u0.alloc (.cells #[.nilFunc] 140))=u1 at *;generalize u0.heap.size=cS at *;refine aI [4,11] (cA ?_ (cA ?_ aH))
    focus
     intro K' hK';go_simp;refine(Ka.o _ d cd (HS.o.aa hH.2.2.2.2) (Gq.o.aa hH.2.2.2.2)).ae ?_;rintro e u2 ⟨f,rfl,bJ,hb⟩;obtain⟨fa,rfl⟩:=bJ.shape;replace hH:=hH.step hb;replace hi:=hi.aa hb;replace h10:=aY h10 hb;refine hK'.o _ _ ⟨hH.1.c0,hH.2.1.c0⟩ (fun ag=>?_);clear hK' K' ah;have ah:=ag;clear ag hb;generalize u1.heap.size=na at bJ;generalize u2.heap.size=ma at bJ;refine aI [9,11] (cA ?_ (cA ?_ aH))
     focus
      intro K' hK';go_simp;refine(vw.o _ d cd (HS.o.aa hH.2.2.2.2) (tK.o.aa hH.2.2.2.2)).ae ?_;rintro e u3 ⟨f,rfl,bX,hb⟩;obtain⟨fb,rfl⟩:=bX.shape;replace hH:=hH.step hb;replace hi:=hi.aa hb;replace bJ:=bJ.aa hb;replace h10:=aY h10 hb;refine hK'.o _ _ ⟨hH.1.c0,hH.2.1.c0⟩ (fun ag=>?_);clear hK' K' ah;have ah:=ag;clear ag hb;generalize u2.heap.size=nb at bX;generalize u3.heap.size=mb at bX;refine aI [11] (cA ?_ aH);intro K' hK';go_simp;have hb:Below u3.heap.size u3 (u3.alloc (.cells #[.nilFunc] 140)):=(aw _ u3).alloc (ak _) _;have h11:Boxed (u3.alloc (.cells #[.nilFunc] 140)) u3.heap.size 140 .nilFunc:=aZ u3 _ _;have sO:=hH.2.2.2.2.size;(have ne:cS≠u3.heap.size:=by have:=h10.lt;omega);replace hH:=hH.step hb;replace hi:=hi.aa hb;replace bJ:=bJ.aa hb;replace bX:=bX.aa hb;replace h10:=aY h10 hb;refine hK'.o _ _ ⟨hH.1.c0,hH.2.1.c0⟩ (fun ag=>?_);clear hK' K' ah;have ah:=ag;clear ag hb;generalize (u3.alloc (.cells #[.nilFunc] 140))=u4 at *;generalize u3.heap.size=nB at *
     rotate_left
     focus
      intro K' hK';go_simp;have hb:Below u2.heap.size u2 (u2.alloc (.cells #[.nilFunc] 140)):=(aw _ u2).alloc (ak _) _;have h11:Boxed (u2.alloc (.cells #[.nilFunc] 140)) u2.heap.size 140 .nilFunc:=aZ u2 _ _;have sO:=hH.2.2.2.2.size;(have ne:cS≠u2.heap.size:=by have:=h10.lt;omega);replace hH:=hH.step hb;replace hi:=hi.aa hb;replace bJ:=bJ.aa hb;replace h10:=aY h10 hb;refine hK'.o _ _ ⟨hH.1.c0,hH.2.1.c0⟩ (fun ag=>?_);clear hK' K' ah;have ah:=ag;clear ag hb;generalize (u2.alloc (.cells #[.nilFunc] 140))=u3 at *;generalize u2.heap.size=nB at *;refine aI [9] (cA ?_ aH);intro K' hK';go_simp;refine(vw.o _ d cd (HS.o.aa hH.2.2.2.2) (tK.o.aa hH.2.2.2.2)).ae ?_;rintro e u4 ⟨f,rfl,bX,hb⟩;obtain⟨fb,rfl⟩:=bX.shape;replace hH:=hH.step hb;replace hi:=hi.aa hb;replace bJ:=bJ.aa hb;replace h10:=aY h10 hb;replace h11:=aY h11 hb;refine hK'.o _ _ ⟨hH.1.c0,hH.2.1.c0⟩ (fun ag=>?_);clear hK' K' ah;have ah:=ag;clear ag hb;generalize u3.heap.size=nb at bX;generalize u4.heap.size=mb at bX
    rotate_left 2
    focus
     intro K' hK';go_simp;have hb:Below u1.heap.size u1 (u1.alloc (.cells #[.nilFunc] 140)):=(aw _ u1).alloc (ak _) _;have h11:Boxed (u1.alloc (.cells #[.nilFunc] 140)) u1.heap.size 140 .nilFunc:=aZ u1 _ _;have sO:=hH.2.2.2.2.size;(have ne:cS≠u1.heap.size:=by have:=h10.lt;omega);replace hH:=hH.step hb;replace hi:=hi.aa hb;replace h10:=aY h10 hb;refine hK'.o _ _ ⟨hH.1.c0,hH.2.1.c0⟩ (fun ag=>?_);clear hK' K' ah;have ah:=ag;clear ag hb;generalize (u1.alloc (.cells #[.nilFunc] 140))=u2 at *;generalize u1.heap.size=nB at *;refine aI [4] (cA ?_ aH);intro K' hK';go_simp;refine(Ka.o _ d cd (HS.o.aa hH.2.2.2.2) (Gq.o.aa hH.2.2.2.2)).ae ?_;rintro e u3 ⟨f,rfl,bJ,hb⟩;obtain⟨fa,rfl⟩:=bJ.shape;replace hH:=hH.step hb;replace hi:=hi.aa hb;replace h10:=aY h10 hb;replace h11:=aY h11 hb;refine hK'.o _ _ ⟨hH.1.c0,hH.2.1.c0⟩ (fun ag=>?_);clear hK' K' ah;have ah:=ag;clear ag hb;generalize u2.heap.size=na at bJ;generalize u3.heap.size=ma at bJ;refine aI [9] (cA ?_ aH);intro K' hK';go_simp;refine(vw.o _ d cd (HS.o.aa hH.2.2.2.2) (tK.o.aa hH.2.2.2.2)).ae ?_;rintro e u4 ⟨f,rfl,bX,hb⟩;obtain⟨fb,rfl⟩:=bX.shape;replace hH:=hH.step hb;replace hi:=hi.aa hb;replace bJ:=bJ.aa hb;replace h10:=aY h10 hb;replace h11:=aY h11 hb;refine hK'.o _ _ ⟨hH.1.c0,hH.2.1.c0⟩ (fun ag=>?_);clear hK' K' ah;have ah:=ag;clear ag hb;generalize u3.heap.size=nb at bX;generalize u4.heap.size=mb at bX
   rotate_left 3
   focus
    intro K' hK';go_simp;have hb:Below u0.heap.size u0 (u0.alloc (.cells #[.nilFunc] 140)):=(aw _ u0).alloc (ak _) _;have h11:Boxed (u0.alloc (.cells #[.nilFunc] 140)) u0.heap.size 140 .nilFunc:=aZ u0 _ _;have sO:=hH.2.2.2.2.size;replace hH:=hH.step hb;replace hi:=hi.aa hb;refine hK'.o _ _ ⟨hH.1.c0,hH.2.1.c0⟩ (fun ag=>?_);clear hK' K' ah;have ah:=ag;clear ag hb;generalize (u0.alloc (.cells #[.nilFunc] 140))=u1 at *;generalize u0.heap.size=nB at *;refine aI [4,10] (cA ?_ (cA ?_ aH))
    focus
     intro K' hK';go_simp;refine(Ka.o _ d cd (HS.o.aa hH.2.2.2.2) (Gq.o.aa hH.2.2.2.2)).ae ?_;rintro e u2 ⟨f,rfl,bJ,hb⟩;obtain⟨fa,rfl⟩:=bJ.shape;replace hH:=hH.step hb;replace hi:=hi.aa hb;replace h11:=aY h11 hb;refine hK'.o _ _ ⟨hH.1.c0,hH.2.1.c0⟩ (fun ag=>?_);clear hK' K' ah;have ah:=ag;clear ag hb;generalize u1.heap.size=na at bJ;generalize u2.heap.size=ma at bJ;refine aI [9,10] (cA ?_ (cA ?_ aH))
     focus
      intro K' hK';go_simp;refine(vw.o _ d cd (HS.o.aa hH.2.2.2.2) (tK.o.aa hH.2.2.2.2)).ae ?_;rintro e u3 ⟨f,rfl,bX,hb⟩;obtain⟨fb,rfl⟩:=bX.shape;replace hH:=hH.step hb;replace hi:=hi.aa hb;replace bJ:=bJ.aa hb;replace h11:=aY h11 hb;refine hK'.o _ _ ⟨hH.1.c0,hH.2.1.c0⟩ (fun ag=>?_);clear hK' K' ah;have ah:=ag;clear ag hb;generalize u2.heap.size=nb at bX;generalize u3.heap.size=mb at bX;refine aI [10] (cA ?_ aH);intro K' hK';go_simp;have hb:Below u3.heap.size u3 (u3.alloc (.cells #[.nilFunc] 140)):=(aw _ u3).alloc (ak _) _;have h10:Boxed (u3.alloc (.cells #[.nilFunc] 140)) u3.heap.size 140 .nilFunc:=aZ u3 _ _;have b7:=hH.2.2.2.2.size;(have ne:nB≠u3.heap.size:=by have:=h11.lt;omega);replace hH:=hH.step hb;replace hi:=hi.aa hb;replace bJ:=bJ.aa hb;replace bX:=bX.aa hb;replace h11:=aY h11 hb;refine hK'.o _ _ ⟨hH.1.c0,hH.2.1.c0⟩ (fun ag=>?_);clear hK' K' ah;have ah:=ag;clear ag hb;generalize (u3.alloc (.cells #[.nilFunc] 140))=u4 at *;generalize u3.heap.size=cS at *
     rotate_left
     focus
      intro K' hK';go_simp;have hb:Below u2.heap.size u2 (u2.alloc (.cells #[.nilFunc] 140)):=(aw _ u2).alloc (ak _) _;have h10:Boxed (u2.alloc (.cells #[.nilFunc] 140)) u2.heap.size 140 .nilFunc:=aZ u2 _ _;have b7:=hH.2.2.2.2.size;(have ne:nB≠u2.heap.size:=by have:=h11.lt;omega);replace hH:=hH.step hb;replace hi:=hi.aa hb;replace bJ:=bJ.aa hb;replace h11:=aY h11 hb;refine hK'.o _ _ ⟨hH.1.c0,hH.2.1.c0⟩ (fun ag=>?_);clear hK' K' ah;have ah:=ag;clear ag hb;generalize (u2.alloc (.cells #[.nilFunc] 140))=u3 at *;generalize u2.heap.size=cS at *;refine aI [9] (cA ?_ aH);intro K' hK';go_simp;refine(vw.o _ d cd (HS.o.aa hH.2.2.2.2) (tK.o.aa hH.2.2.2.2)).ae ?_;rintro e u4 ⟨f,rfl,bX,hb⟩;obtain⟨fb,rfl⟩:=bX.shape;replace hH:=hH.step hb;replace hi:=hi.aa hb;replace bJ:=bJ.aa hb;replace h10:=aY h10 hb;replace h11:=aY h11 hb;refine hK'.o _ _ ⟨hH.1.c0,hH.2.1.c0⟩ (fun ag=>?_);clear hK' K' ah;have ah:=ag;clear ag hb;generalize u3.heap.size=nb at bX;generalize u4.heap.size=mb at bX
    rotate_left 2
    focus
     intro K' hK';go_simp;have hb:Below u1.heap.size u1 (u1.alloc (.cells #[.nilFunc] 140)):=(aw _ u1).alloc (ak _) _;have h10:Boxed (u1.alloc (.cells #[.nilFunc] 140)) u1.heap.size 140 .nilFunc:=aZ u1 _ _;have b7:=hH.2.2.2.2.size;(have ne:nB≠u1.heap.size:=by have:=h11.lt;omega);replace hH:=hH.step hb;replace hi:=hi.aa hb;replace h11:=aY h11 hb;refine hK'.o _ _ ⟨hH.1.c0,hH.2.1.c0⟩ (fun ag=>?_);clear hK' K' ah;have ah:=ag;clear ag hb;generalize (u1.alloc (.cells #[.nilFunc] 140))=u2 at *;generalize u1.heap.size=cS at *;refine aI [4] (cA ?_ aH);intro K' hK';go_simp;refine(Ka.o _ d cd (HS.o.aa hH.2.2.2.2) (Gq.o.aa hH.2.2.2.2)).ae ?_;rintro e u3 ⟨f,rfl,bJ,hb⟩;obtain⟨fa,rfl⟩:=bJ.shape;replace hH:=hH.step hb;replace hi:=hi.aa hb;replace h10:=aY h10 hb;replace h11:=aY h11 hb;refine hK'.o _ _ ⟨hH.1.c0,hH.2.1.c0⟩ (fun ag=>?_);clear hK' K' ah;have ah:=ag;clear ag hb;generalize u2.heap.size=na at bJ;generalize u3.heap.size=ma at bJ;refine aI [9] (cA ?_ aH);intro K' hK';go_simp;refine(vw.o _ d cd (HS.o.aa hH.2.2.2.2) (tK.o.aa hH.2.2.2.2)).ae ?_;rintro e u4 ⟨f,rfl,bX,hb⟩;obtain⟨fb,rfl⟩:=bX.shape;replace hH:=hH.step hb;replace hi:=hi.aa hb;replace bJ:=bJ.aa hb;replace h10:=aY h10 hb;replace h11:=aY h11 hb;refine hK'.o _ _ ⟨hH.1.c0,hH.2.1.c0⟩ (fun ag=>?_);clear hK' K' ah;have ah:=ag;clear ag hb;generalize u3.heap.size=nb at bX;generalize u4.heap.size=mb at bX
   all_goals
    have c10:=h10.cell;have f10:=h10.frozen;refine aI [12] (cA ?_ aH);intro K' hK';go_simp;replace hH:=hH.nil (slv _ _ _) (slv _ _ _) h10 b7 (.func (.func 234) #[] fa);replace hi:=QH h10 hi (.func (.func 234) #[] fa);replace bJ:=bJ.nil h10 (.func (.func 234) #[] fa);replace bX:=bX.nil h10 (.func (.func 234) #[] fa);replace h11:=fS h11 cS 0 (.func (.func 234) #[] fa) (by omega);replace h10:=h10.set (.func (.func 234) #[] fa);clear c10 f10;generalize (u4.setCell ⟨cS,0,none⟩ (.func (.func 234) #[] fa))=v1 at *;refine hK'.o _ _ ⟨hH.1.c0,hH.2.1.c0⟩ (fun ag=>?_);clear hK' K' ah;have ah:=ag;clear ag;have c11:=h11.cell;have f11:=h11.frozen;refine aI [13] (cA ?_ aH);intro K' hK';go_simp;replace hH:=hH.nil (slv _ _ _) (slv _ _ _) h11 sO (.func (.func 234) #[] fb);replace hi:=QH h11 hi (.func (.func 234) #[] fb);replace bJ:=bJ.nil h11 (.func (.func 234) #[] fb);replace bX:=bX.nil h11 (.func (.func 234) #[] fb);replace h10:=fS h10 nB 0 (.func (.func 234) #[] fb) (by omega);replace h11:=h11.set (.func (.func 234) #[] fb);clear c11 f11;generalize (v1.setCell ⟨nB,0,none⟩ (.func (.func 234) #[] fb))=v2 at *;refine hK'.o _ _ ⟨hH.1.c0,hH.2.1.c0⟩ (fun _=>dW (by kernel_rfl) ?_ _);clear hK' K' ah;go_wp2_with fail
    have uE:=Nb a d ca cd sizes U 208 #[.pointer (some ⟨w.heap.size,0,none⟩),.pointer (some ⟨cS,0,none⟩),.pointer (some ⟨w.heap.size+1,0,none⟩),.pointer (some ⟨nB,0,none⟩)] (enters_of Tryz.func208 (by kernel_rfl) rfl) FL v2 (HS.o.aa hH.2.2.2.2) hi cU.o pX.o iq.o (fun k hk V hb=>by
     rw[vJ.o k hk];(have fN:k<cnt (af sizes) (af U):=by rw[<- iq.o];exact hk);have hB:=hH.2.2.2.2.trans (hb.ae hH.2.2.2.2.size);refine afE w.heap.size cS (w.heap.size+1) nB c c' cc r5 fa fb la lb k _ _ (Em.o k fN) (lS.o k fN) V (aR hH.1.lt hb.size) ((hb.cell (p:=⟨w.heap.size,1,none⟩) hH.1.lt).trans hH.1.c1) (aR h10.lt hb.size) (aY h10 hb).cell (aR hH.2.1.lt hb.size) ((hb.cell (p:=⟨w.heap.size+1,1,none⟩) hH.2.1.lt).trans hH.2.1.c1) (aR h11.lt hb.size) (aY h11 hb).cell (UT.o.aa hB) (HFB.o.aa hB) HWA.o T1.o ?_ ?_
     ·intro V' hb';have hb2:=hb.trans (hb'.ae hb.size);exact(bJ.aa hb2).calls (HS.o.aa (hB.trans (hb'.ae hB.size))) (hi.aa hb2) cU.o pX.o HUA.o fN
     ·intro V' hb';have hb2:=hb.trans (hb'.ae hb.size);exact(bX.aa hb2).calls (HS.o.aa (hB.trans (hb'.ae hB.size))) (hi.aa hb2) cU.o pX.o HUB.o fN)
    have Ex:=hid uE;clear uE;refine Ex.o.ae ?_;rintro e w9 ⟨G,rfl,hG,hrow,rS⟩;have hl9:=hH.2.2.1.lt;replace hH:=hH.step rS;replace hi:=hi.aa rS;have hNR:NR w w9 w.heap.size (w.heap.size+1+1) (.slice b va.length cb) (.slice c la.length cc):=⟨hH.1,hH.2.2.1,hH.2.2.2.2⟩;obtain⟨k0,k1,f0,f1⟩:=hH.2.2.1.facts;obtain⟨e1,e2,e3⟩:=hNR.fin (by omega) (cb:=cd) (cc:=FL.length) EB.o (by omega) hi hrow (by omega) (.slice d U.length cd) (.slice (some ⟨G,0,none⟩) FL.length FL.length) rfl rfl;go_wp2;refine dh (e1.result2 rfl _ rfl) rfl ?_;exact⟨e2,e3⟩
variable {u:Nat} {p:Rat}
theorem yD (S:List Nat) {g:Nat ->Nat}:∀ {vs:List Nat},(∀u∈vs,f u=g u) ->pos S f vs=pos S g vs:=by
 intro vs h
 have key:∀(vs:List Nat) (k:Nat),(∀u∈vs,f u=g u) ->vs.foldl (fun k v=>k*sz S v+f v) k=vs.foldl (fun k v=>k*sz S v+g v) k:=by
  intro vs;induction vs with
  |nil=>intro k _;rfl
  |cons v vs ih=>
   intro k h;rw[Ag,Ag,h v c5,ih _ fun u hu=>h u (dD _ hu)]
 exact key vs 0 h
theorem XB (S:List Nat) (f:Nat ->Nat) (v:Nat) (vs:List Nat):pos S f (v::vs)=f v*cnt S vs+pos S f vs:=by
 show vs.foldl (fun k v=>k*sz S v+f v) (0*sz S v+f v)=_;rw[M8 S f vs,mQ,bI]
theorem Ge (hp:Pos S) (hf:∀u,f u<sz S u):∀ {vs:List Nat},vs.Nodup ->∀u∈vs,a8 S vs (pos S f vs) u=f u
 |[],_,u,hu=>by cases hu
 |v::vs,hn,u,hu=>by
  rw[mR] at hn;have hlt:=rI f hf vs;have hc:=Nn hp vs;rw[XB,a8];by_cases e:u=v
  ·rw[aB e,e,dC,Nat.mul_add_div hc,vR hlt,gg]
  ·rw[aD e,dC,Nat.mul_add_mod,iQ hlt];exact Ge hp hf hn.2 u ((cT.1 hu).resolve_left e)
theorem Np (g:Nat ->Fr) (h:k<n):bZ ((List.range n).map g) k=g k:=by
 rw[rZ (by simpa using h)];simp
def CJ (most:Bool) (p q:Rat):Rat:=if most then(if p<q then q else p) else p+q
def iZ (most:Bool) (g:Nat ->Rat):Nat ->Rat
 |0=>g 0
 |k+1=>CJ most (iZ most g k) (g (k+1))
theorem abU:jd p q<0↔p<q:=by
 rw[jd];by_cases h:p<q
 ·rw[aB h];exact⟨fun _=>h,fun _=>by decide⟩
 ·rw[aD h];by_cases e:p=q
  ·rw[aB e];exact⟨fun h=>absurd h (by decide),fun h'=>absurd h' h⟩
  ·rw[aD e];exact⟨fun h=>absurd h (by decide),fun h'=>absurd h' h⟩
theorem aa8 (most:Bool) (T:Nat ->Fr):∀k,bt (j9 most T k)=iZ most (fun x=>bt (T x)) k
 |0=>rfl
 |k+1=>by
  rw[j9,iZ, <- aa8 most T k];cases most with
  |false=>simp only[CJ,Bool.false_eq_true,if_false];exact pT _
  |true=>
   simp only[CJ,if_true,great];by_cases h:jd (bt (j9 true T k)) (bt (T (k+1)))<0
   ·rw[aB h,aB (abU.1 h)]
   ·rw[aD h,aD fun e=>h (abU.2 e)]
theorem LJ (most:Bool) {g h:Nat ->Rat}:∀ {k:Nat},(∀x,x<=k ->g x=h x) ->iZ most g k=iZ most h k
 |0,e=>e 0 (ak _)
 |k+1,e=>by rw[iZ,iZ,LJ most fun x hx=>e x (by omega),e (k+1) (ak _)]
theorem Hi (f:Nat ->Nat) (x y:Nat) (h:u≠v):aQ (aQ f v x) u y=aQ (aQ f u y) v x:=by
 funext z
 simp only[aQ];by_cases e:z=u
 ·rw[aB e,aD (by omega),aB e]
 ·rw[aD e,aD e]
theorem XY {vars rest:List Nat} (hp:Pos S) (hr:rest.Nodup) (hv:∀u∈vars,u=v∨u∈rest) (most:Bool) (l:List Fr) (hf:∀u,f u<sz S u):
  bt (bZ (oN S vars rest v most l) (pos S f rest))=iZ most (fun x=>bt (bZ l (pos S (aQ f v x) vars))) (sz S v - 1):=by
 rw[oN,Np _ (rI f hf rest),pT,aa8];refine LJ most fun x _=>?_;rw[yD S (f:=aQ (a8 S rest (pos S f rest)) v x) (g:=aQ f v x)];intro u hu;simp only[aQ];by_cases e:u=v
 ·rw[aB e,aB e]
 ·rw[aD e,aD e];exact Ge hp hf hr u ((hv u hu).resolve_left e)
theorem afC {va vb U:List Nat} (hp:Pos S) (hr:U.Nodup) (sZ:∀u∈va,u∈U) (mr:∀u∈vb,u∈U) (la lb:List Fr) (hf:∀u,f u<sz S u):
  bt (bZ (sQ S va vb U la lb) (pos S f U))=bt (bZ la (pos S f va))*bt (bZ lb (pos S f vb)):=by
 rw[sQ,Np _ (rI f hf U),pT,yD S (f:=a8 S U (pos S f U)) (g:=f) fun u hu=>Ge hp hf hr u (sZ u hu),yD S (f:=a8 S U (pos S f U)) (g:=f) fun u hu=>Ge hp hf hr u (mr u hu)]
def Sml (s:Nat) (l:List Fr):Prop:=∀f∈l,∃q,f=qF q/\qw q<=s
theorem Tj (h:∀v,sz S v<=3):∀vs:List Nat,cnt S vs<=3^vs.length
 |[]=>ak _
 |v::vs=>by rw[cnt,di,gS,dC];exact jE (Tj h vs) (h v)
structure TL (sizes vars:List Int) (l:List Fr) (s:Nat):Prop where
 up:Up vars sizes.length
 len:l.length=cnt (af sizes) (af vars)
 sml:Sml s l
theorem ahQ {x v:Int}:x∈bP l v↔x∈l/\x≠v:=by simp[bP]
theorem AE {vars:List Int} (h:Up vars n) (u:Nat):∀x∈af vars,x=u∨x∈af (bP vars (u:Int)):=by
 intro x hx;obtain⟨y,hy,rfl⟩:=aU.1 hx;have h1:=(fK.1 h).1 y hy;by_cases e:y=(u:Int)
 ·left;omega
 ·exact .inr (aU.2 ⟨y,ahQ.2 ⟨hy,e⟩,rfl⟩)
theorem bD.aa {B:Nat} {v:Value} (h:bD w B v l) (hb:Below w.heap.size w w'):bD w' B v l:=by
 refine⟨h.1,h.2.imp id ?_⟩;rintro⟨g,cap,cur,h1,h2,h3,h4⟩;exact⟨g,cap,cur,h1,h2,(hb.block g (cV.1 h3).1).trans h3,h4⟩
theorem bD.intS {B:Nat} {d:Option Addr} {cd:Nat} {U:List Int} (h:bD w B (.slice d U.length cd) U):aC w d U:=by
 obtain⟨d',xo,e,hi⟩:=h.ints;cases e;exact hi
def sR (c:Int) (n:Nat):Nat:=(if c<0 then(-(c+1)).toNat else c.toNat) % n
theorem Lu (c:Int) (h:1<=n):sR c n<n:=gJ _ h
theorem Xf (c:Int) (n:Nat) (w:World) (h1: -9223372036854775808<=c) (h2:c<=9223372036854775807) (hn:1<=n) (hn':n<=1000):
  Calls Tryz.prog 60 #[.int .i64 c,.int .i64 (n:Nat)] w fun e w'=>e=.returned (.int .i64 (sR c n:Nat))/\w'=w:=by
 have HP:Hid (sR c n=(if c<0 then(-(c+1)).toNat else c.toNat) % n):=rfl;have hlt:=Lu c hn;generalize sR c n=P at *;by_cases hc:c<0
 ·rw[aB hc] at HP;obtain⟨d,hd⟩:∃d:Nat,c= -((d:Int)+1):=⟨(-(c+1)).toNat,by omega⟩;subst hd
  have HE:Hid ((d:Int) % (n:Int)=(P:Int)):=by
   show _=_;rw[HP.o,show (-(-((d:Int)+1)+1)).toNat=d by omega,rD]
  have hw:IntKind.i64.wrap (-((d:Int)+1)+1)= -(d:Int):=by rw[gV];omega
  have hw2:IntKind.i64.wrap (- -(d:Int))=(d:Int):=by rw[gV];omega
  go_enter Tryz.func60,Tryz.ntmps60;go_wp2;go_ret;exact⟨by rw[HE.o];rfl,rfl⟩
 ·rw[aD hc] at HP;obtain⟨d,rfl⟩:∃d:Nat,c=d:=⟨c.toNat,by omega⟩
  have HE:Hid ((d:Int) % (n:Int)=(P:Int)):=by
   show _=_;rw[HP.o,nH,rD]
  go_enter Tryz.func60,Tryz.ntmps60;go_wp2;go_ret;exact⟨by rw[HE.o];rfl,rfl⟩
theorem Ln (c:Int) (n:Nat) (w:World) (h1: -9223372036854775808<=c) (h2:c<=9223372036854775807) (hn:1<=n) (hn':n<=1000):
  Calls Tryz.prog 60 #[.int .i64 c,.int .i64 (n:Nat)] w fun e w'=>e=.returned (.int .i64 (sR c n:Nat))/\Below w.heap.size w w':=by
 refine(Xf c n w h1 h2 hn hn').ae ?_;rintro e w' ⟨h,rfl⟩;exact⟨h,aw _ _⟩
theorem YG (w:World) (u:Int):aC (w.alloc (.cells #[.int .i64 u] 3)) (some ⟨w.heap.size,0,none⟩) [u]:=fun k hk=>by
 obtain rfl:k=0:=by simp at hk;omega
 exact⟨w.heap.size,0,rfl,by simp,(aZ w _ _).cell⟩
def gU (L:List (List Int)) (v:Nat):List Int:=jo (L.getD v []) [(v:Int)]
def gL (V:List Vr) (L:List (List Int)) (R:List (List Fr)) (v:Nat):List Fr:=(List.range (cnt (aq V) (af (gU L v)))).map fun K=>qF (bt (eY V L R (a8 (aq V) (af (gU L v)) K) v))
theorem Pe (h:v<n):Up [(v:Int)] n:=fK.2 ⟨fun x hx=>by have:=eA.1 hx;omega,List.pairwise_singleton _ _⟩
def GK (w V:World) (x y z:Value):Prop:=NK w V x y z/\bG V (w.heap.size+1) (.slice none 0 0) (.slice none 0 0)
theorem GK.new (w:World) (x y z:Value):GK w ((w.alloc (NC x y z)).alloc (TC (.slice none 0 0) (.slice none 0 0))) x y z:=⟨(NK.new w x y z).step ((aw _ _).alloc (ak _) _),bG.at (by simp) _ _⟩
theorem GK.step (h:GK w V x y z) (hb:Below V.heap.size V V'):GK w V' x y z:=⟨h.1.step hb,h.2.aa hb h.2.lt⟩
variable {vs:List Nat}
theorem ala {a b:List Nat} (h:a.Perm b):cnt S a=cnt S b:=by
 induction h with
 |nil=>rfl
 |cons x _ ih=>simp only[cnt,ih]
 |swap x y l=>simp only[cnt];rw[yg]
 |trans _ _ h1 h2=>exact h1.trans h2
theorem YD {V:List Vr} (h:bA V L R=0) (hv:v<L.length):¬v∈af L[v]:=by
 rw[bA] at h;by_cases h1:L.length=V.length/\R.length=V.length
 ·rw[aB h1] at h;by_cases h2:bh L=0
  ·rw[bh] at h2;by_cases h3:gB L=true
   ·rw[gB,fD,fD,wF,dN] at h3;have:=h3.2 v (ck.2 hv);rw[b6,ba hv] at this;simpa using this
   ·rw[aD h3] at h2;cases h2
  ·rw[aD h2] at h;exact absurd h h2
 ·rw[aD h1] at h;cases h
theorem WA (eH:v<L.length) (aT:Up L[v] n) (hno:¬v∈af L[v]):(([(v:Int)]++L[v]).mergeSort fun x y=>decide (x<=y))=gU L v:=by
 have JC:L.getD v []=L[v]:=by rw[b6,ba eH];rfl
 obtain⟨h1,h2⟩:=Hu L[v] [(v:Int)];rw[gU,JC];have wU:¬(v:Int)∈L[v]:=fun h=>hno (by rw[af];exact aU.2 ⟨_,h,nH v⟩);have hp:(([(v:Int)]++L[v]).mergeSort fun x y=>decide (x<=y)).Pairwise (fun x y=>decide (x<=y)=true):=List.pairwise_mergeSort (fun a b c h1 h2=>by simp at h1 h2⊢;omega) (fun a b=>by simp;omega) _
 have lH:([(v:Int)]++L[v]).Nodup:=by
  rw[List.singleton_append,mR];exact⟨wU,(fK.1 aT).2.imp fun h=>by omega⟩
 have hn:(([(v:Int)]++L[v]).mergeSort fun x y=>decide (x<=y)).Nodup:=(OW _ _).nodup_iff.2 lH;refine WW ?_ h1 fun x=>?_
 ·rw[vS];intro i j hi hj oT;have q1:=vS.1 hp i j hi hj oT;have q2:=vS.1 hn i j hi hj oT;have q1':=kY q1;omega
 ·rw[List.mem_mergeSort,h2,bL];exact Or.comm
theorem alb (S:List Nat) (eH:v<L.length) (aT:Up L[v] n) (hno:¬v∈af L[v]):cnt S (af (gU L v))=cnt S (af L[v])*sz S v:=by
 rw[<- WA eH aT hno];have h:(([(v:Int)]++L[v]).mergeSort fun x y=>decide (x<=y)).Perm ([(v:Int)]++L[v]):=OW _ _;have h2:=ala (S:=S) (h.map Int.toNat);rw[af,h2,dY,fH,j5,List.singleton_append,cnt,nH,dC];rfl
def wL (A f:Nat ->Nat) (vs:List Nat) (i:Nat):Nat ->Nat:=fun u=>if u∈vs.take i then f u else A u
theorem ahM (A f:Nat ->Nat) (vs:List Nat):wL A f vs 0=A:=by funext u;simp[wL]
theorem ahN (A f:Nat ->Nat) (n:Nat) (h:i<vs.length):(nO n (wL A f vs i)).set vs[i] (f vs[i])=nO n (wL A f vs (i+1)):=by
 rw[aes];refine aet fun u _=>?_;rw[aQ,wL,wL,gh h];by_cases e:u=vs[i]
 ·rw[aB e,aB (bL.2 (.inr (eA.2 e))),e]
 ·rw[aD e];by_cases e2:u∈vs.take i
  ·rw[aB e2,aB (bL.2 (.inl e2))]
  ·rw[aD e2,aD (fun hh=>by rcases bL.1 hh with hh |hh;exact e2 hh;exact e (eA.1 hh))]
theorem ahO {A:Nat ->Nat} (hA:∀u,¬u∈vs ->A u=0) (hf:∀u,¬u∈vs ->f u=0):wL A f vs vs.length=f:=by
 funext u
 rw[wL,iR];by_cases e:u∈vs
 ·rw[aB e]
 ·rw[aD e,hA u e,hf u e]
def bK (g:Nat ->Rat):Nat ->Rat
 |0=>0
 |n+1=>bK g n+g n
theorem iW {g h:Nat ->Rat}:∀ {n:Nat},(∀x,x< n ->g x=h x) ->bK g n=bK h n
 |0,_=>rfl
 |n+1,e=>by rw[bK,bK,iW fun x hx=>e x (by omega),e n (by omega)]
theorem Pt:∀n,bK (fun _=>0) n=0
 |0=>rfl
 |n+1=>by rw[bK,Pt n,Rat.add_zero]
theorem Wi (g h:Nat ->Rat):∀n,bK (fun x=>g x+h x) n=bK g n+bK h n
 |0=>by simp[bK,Rat.add_zero]
 |n+1=>by
  rw[bK,bK,bK,Wi g h n];rw[G4,G4, <- G4 (bK h n),Rat.add_comm (bK h n) (g n),G4]
theorem yz (c:Rat) (g:Nat ->Rat):∀n,bK (fun x=>c*g x) n=c*bK g n
 |0=>by simp[bK,Rat.mul_zero]
 |n+1=>by rw[bK,bK,yz c g n,Rat.mul_add]
theorem Wc (g:Nat ->Nat ->Rat) (m:Nat):∀n,bK (fun x=>bK (fun y=>g x y) m) n=bK (fun y=>bK (fun x=>g x y) n) m
 |0=>by simp only[bK];rw[Pt]
 |n+1=>by
  rw[bK,Wc g m n, <- Wi];rfl
theorem Wd (g:Nat ->Rat) (m:Nat):∀n,bK g (m+n)=bK g m+bK (fun y=>g (m+y)) n
 |0=>by simp[bK,Rat.add_zero]
 |n+1=>by rw[<- Aa,bK,Wd g m n,bK,G4]
theorem We (g:Nat ->Rat) (b:Nat):∀a,bK g (a*b)=bK (fun x=>bK (fun y=>g (x*b+y)) b) a
 |0=>by rw[mQ];rfl
 |a+1=>by rw[fC,jZ,Wd,We g b a,bK]
def cQ (S:List Nat):List Nat ->((Nat ->Nat) ->Rat) ->(Nat ->Nat) ->Rat
 |[],F,f=>F f
 |v::vs,F,f=>bK (fun x=>cQ S vs F (aQ f v x)) (sz S v)
def over (vs:List Nat) (f g:Nat ->Nat):Nat ->Nat:=fun u=>if u∈vs then g u else f u
theorem ago (f g:Nat ->Nat):over [] f g=f:=by funext u;simp[over]
theorem YB (F:(Nat ->Nat) ->Rat):∀(vs:List Nat) (f:Nat ->Nat),vs.Nodup ->bK (fun k=>F (over vs f (a8 S vs k))) (cnt S vs)=cQ S vs F f
 |[],f,_=>by
  show 0+F (over [] f _)=F f;rw[ago,Rat.zero_add]
 |v::vs,f,hn=>by
  rw[mR] at hn;rw[cnt,We,cQ];refine iW fun x hx=>?_;rw[<- YB F vs (aQ f v x) hn.2];refine iW fun y hy=>?_;congr 1
  funext u
  have h1:(x*cnt S vs+y)/cnt S vs=x:=by rw[dC,Nat.mul_add_div (by omega),vR hy,gg]
  have h2:(x*cnt S vs+y) % cnt S vs=y:=by rw[dC,Nat.mul_add_mod,iQ hy]
  simp only[over,a8,h1,h2,aQ,cT];by_cases e:u=v
  ·subst e;rw[aB (.inl rfl),aB rfl,aD hn.1,aB rfl]
  ·rw[aD e];by_cases e2:u∈vs
   ·rw[aB (.inr e2),aB e2]
   ·rw[aD (fun h=>h.elim e e2),aD e2,aD e]
theorem CL {F G:(Nat ->Nat) ->Rat} (h:∀g,(∀u,g u<sz S u) ->F g=G g):∀(vs:List Nat) (f:Nat ->Nat),(∀u,f u<sz S u) ->cQ S vs F f=cQ S vs G f
 |[],f,hf=>h f hf
 |v::vs,f,hf=>by
  rw[cQ,cQ];refine iW fun x hx=>CL h vs _ fun u=>?_;rw[aQ];by_cases e:u=v
  ·rw[aB e,e];exact hx
  ·rw[aD e];exact hf u
theorem Ic (F:(Nat ->Nat) ->Rat) (v:Nat):∀(vs:List Nat) (f:Nat ->Nat),cQ S (vs++[v]) F f=cQ S vs (fun g=>bK (fun x=>F (aQ g v x)) (sz S v)) f
 |[],f=>rfl
 |u::vs,f=>by
  rw[eC,cQ,cQ];exact iW fun x _=>Ic F v vs _
theorem Ie (F:(Nat ->Nat) ->Rat) {a b:List Nat} (h:a.Perm b):a.Nodup ->∀f,cQ S a F f=cQ S b F f:=by
 induction h with
 |nil=>intro _ f;rfl
 |cons x _ ih=>
  intro hn f;rw[mR] at hn;rw[cQ,cQ];exact iW fun y _=>ih hn.2 _
 |swap x y l=>
  intro hn f
  have hne:y≠x:=by
   rw[mR] at hn;exact fun e=>hn.1 (by rw[e];exact c5)
  simp only[cQ];rw[Wc];refine iW fun p _=>iW fun q _=>?_;rw[Hi f q p (Ne.symm hne)]
 |trans h1 _ ih1 QJ=>
  intro hn f;rw[ih1 hn f,QJ (h1.nodup_iff.1 hn) f]
def cD (V:List Vr) (L:List (List Int)) (R:List (List Fr)) (f:Nat ->Nat):List Nat ->Rat
 |[]=>1
 |v::vs=>bt (eY V L R f v)*cD V L R f vs
theorem Fi (V:List Vr) (L:List (List Int)) (R:List (List Fr)) (f:Nat ->Nat) (b:List Nat):∀a,cD V L R f (a++b)=cD V L R f a*cD V L R f b
 |[]=>by rw[gi,cD,zZ]
 |v::a=>by rw[eC,cD,cD,Fi V L R f b a,vO]
theorem PY (V:List Vr) (L:List (List Int)) (R:List (List Fr)) (f:Nat ->Nat):∀n,uk V L R f n=cD V L R f (List.range n)
 |0=>rfl
 |n+1=>by rw[uk,PY V L R f n,ud,Fi,cD,cD,x8]
theorem Xw {V:List Vr} {a b:List Nat} (h:a.Perm b):cD V L R f a=cD V L R f b:=by
 induction h with
 |nil=>rfl
 |cons x _ ih=>rw[cD,cD,ih]
 |swap x y l=>simp only[cD];rw[<- vO, <- vO,EM (bt (eY V L R f y))]
 |trans _ _ h1 h2=>exact h1.trans h2
theorem Zi {V:List Vr} {x:Nat} (h1:u≠v) (h2:¬v∈af (L.getD u [])):eY V L R (aQ f v x) u=eY V L R f u:=by
 rw[eY,eY,qA,qA]
 have e:pos (aq V) (aQ f v x) (af (L.getD u []))=pos (aq V) f (af (L.getD u [])):=yD _ fun z hz=>by
  rw[aQ,aD];intro e;exact h2 (e▸hz)
 rw[e,aQ,aD h1]
theorem Fh {V:List Vr} {x:Nat}:∀ {o:List Nat},(∀u∈o,u≠v/\¬v∈af (L.getD u [])) ->cD V L R (aQ f v x) o=cD V L R f o
 |[],_=>rfl
 |u::o,h=>by
  obtain⟨h1,h2⟩:=h u c5;rw[cD,cD,Zi h1 h2,Fh fun z hz=>h z (dD _ hz)]
theorem akc:∀(l:List Fr),fR l=bK (fun x=>bt (bZ l x)) l.length:=by
 intro l
 have key:∀n,n<=l.length ->fR (l.take n)=bK (fun x=>bt (bZ l x)) n:=by
  intro n;induction n with
  |zero=>intro _;rfl
  |succ n ih=>
   intro hn;rw[gh (by omega),S4,ih (by omega),bK,rZ (by omega)];rfl
 have:=key l.length (ak _);rwa [iR] at this
theorem row_one {V:List Vr} (h0:bA V L R=0) (hv:v<V.length) (hf:∀u,f u<sz (aq V) u):bK (fun x=>bt (eY V L R (aQ f v x) v)) (sz (aq V) v)=1:=by
 have aV:=kL h0;have eH:v<L.length:=by rw[aV.len];exact hv
 have oP:v<R.length:=by rw[aV.lenR];exact hv
 have hno:=YD h0 eH;have hlen:=aV.rows v eH oP;have hp:=rI f hf (af L[v])
 have hrow:jH (fj R[v] (sz (aq V) v) (pos (aq V) f (af L[v])))=true:=by
  have h1:iE (kJ (aq V) L R) V.length=0:=by
   rw[bA] at h0;by_cases h1:L.length=V.length/\R.length=V.length
   ·rw[aB h1] at h0;by_cases h2:bh L=0
    ·rw[aB h2] at h0;by_cases h3:mg V=0
     ·rwa [aB h3] at h0
     ·rw[aD h3] at h0;exact absurd h0 h3
    ·rw[aD h2] at h0;exact absurd h0 h2
   ·rw[aD h1] at h0;exact absurd h0 (by decide)
  have h2:=Jy h1 v hv;rw[kJ,b6,ba oP,b6,ba eH] at h2;simp only[yf] at h2;rw[aB hlen] at h2;by_cases h3:((List.range (cnt (aq V) (af L[v]))).all fun i=>jH (fj R[v] (sz (aq V) v) i))=true
  ·rw[dN] at h3;exact h3 _ (ck.2 hp)
  ·rw[aD h3] at h2;exact absurd h2 (by decide)
 rw[jH,fD] at hrow;have hs:fR (fj R[v] (sz (aq V) v) (pos (aq V) f (af L[v])))=1:=kY hrow.2;have hmul:(pos (aq V) f (af L[v])+1)*sz (aq V) v<=R[v].length:=by rw[hlen];exact jD _ hp
 have e1:(pos (aq V) f (af L[v])+1)*sz (aq V) v=pos (aq V) f (af L[v])*sz (aq V) v+sz (aq V) v:=by rw[fC,jZ]
 have hcl:(fj R[v] (sz (aq V) v) (pos (aq V) f (af L[v]))).length=sz (aq V) v:=by
  rw[fj,eB,l7];omega
 rw[akc,hcl] at hs;rw[<- hs];refine iW fun x hx=>?_;rw[L0 eH oP,qA]
 have e2:pos (aq V) (aQ f v x) (af L[v])=pos (aq V) f (af L[v]):=yD _ fun z hz=>by
  rw[aQ,aD];intro e;exact hno (e▸hz)
 rw[e2,aQ,aB rfl,rZ (by omega),rZ (by omega)];simp only[fj,Af,List.getElem_drop]
theorem LN (P:List (List Nat)):∀k,∀u∈aW P k,∀z∈P.getD u [],z∈aW P k
 |0,u,hu=>by cases hu
 |k+1,u,hu=>by
  rw[aW] at hu⊢;cases e:pF P (aW P k) with
  |none=>
   rw[e] at hu;exact LN P k u hu
  |some v=>
   rw[e] at hu;intro z hz;refine bL.2 (.inl ?_);rcases bL.1 hu with h |h
   ·exact LN P k u h z hz
   ·obtain rfl:=eA.1 h;have uD:gY P (aW P k) u=true:=List.find?_some e;rw[gY,fD] at uD;exact kY uD.2 z hz
theorem Yy {V:List Vr} (h0:bA V L R=0):∀k,(aW (aG L) k).length=k ->k<=L.length ->(aW (aG L) k).Nodup/\∀f,(∀u,f u<sz (aq V) u) ->cQ (aq V) (aW (aG L) k) (fun g=>cD V L R g (aW (aG L) k)) f=1
 |0,_,_=>⟨List.nodup_nil,fun _ _=>rfl⟩
 |k+1,hl,hk=>by
  have aV:=kL h0;have yY:=Fo (aG L) k;cases e:pF (aG L) (aW (aG L) k) with
  |none=>
   rw[aW,e] at hl;exact absurd hl (by show (aW (aG L) k).length≠_;omega)
  |some v=>
   have e1:=LM e;rw[e1] at hl⊢;rw[bM,EO] at hl;obtain⟨hn,hs⟩:=Yy h0 k (by omega) (by omega);have uD:gY (aG L) (aW (aG L) k) v=true:=List.find?_some e;rw[gY,fD] at uD;(have wU:¬v∈aW (aG L) k:=by simpa using uD.1);(have iA:v<L.length:=by have:=ck.1 (Vf e);rwa [iX] at this);refine⟨?_,fun f hf=>?_⟩
   ·rw[ue];refine⟨hn,by simp,fun a ha b hb=>?_⟩;rw[eA.1 hb];exact fun e=>wU (e▸ha)
   ·rw[Ic, <- hs f hf];refine CL (fun g hg=>?_) _ f hf;rw[iW (h:=fun x=>cD V L R g (aW (aG L) k)*bt (eY V L R (aQ g v x) v))]
    ·rw[yz,row_one h0 (by rw[<- aV.len];exact iA) hg,x8]
    ·intro x _;rw[Fi,cD,cD,x8,Fh];intro u hu;refine⟨fun e=>wU (e▸hu),fun hp=>?_⟩
     exact wU (LN (aG L) k u hu v (by
      have wN:=CH (aG L) k u hu;rw[iX] at wN;rw[H7 wN];rw[b6,ba wN] at hp;exact hp))
theorem Qq:∀(n:Nat) (l:List Nat),l.Nodup ->(∀x∈l,x<n) ->l.length<=n
 |0,l,_,h=>by
  cases l with
  |nil=>exact ak _
  |cons a l=>exact absurd (h a c5) (by omega)
 |n+1,l,hn,h=>by
  by_cases hm:n∈l
  ·have h1:=OY hm
   have h2:=Qq n (l.erase n) (hn.erase n) (fun x hx=>by
    have h3:=h x (List.mem_of_mem_erase hx);(have hne:x≠n:=fun e=>by subst e;exact hn.not_mem_erase hx);omega)
   have h4:=List.length_pos_of_mem hm;omega
  ·have h2:=Qq n l hn (fun x hx=>by
    have h3:=h x hx;have hne:x≠n:=fun e=>hm (e▸hx);omega)
   omega
theorem XH:∀(n:Nat) (l:List Nat),l.Nodup ->(∀x∈l,x<n) ->l.length=n ->l.Perm (List.range n)
 |0,l,_,_,h=>by
  have:=EP.1 h;subst this;exact List.Perm.refl _
 |n+1,l,hn,h,hl=>by
  have hm:n∈l:=CB fun hm=>by
   have:=Qq n l hn (fun x hx=>by
    have h3:=h x hx;have hne:x≠n:=fun e=>hm (e▸hx);omega)
   omega
  have h1:=OY hm
  have h2:=XH n (l.erase n) (hn.erase n) (fun x hx=>by
   have h3:=h x (List.mem_of_mem_erase hx);(have hne:x≠n:=fun e=>by subst e;exact hn.not_mem_erase hx);omega) (by omega)
  rw[ud];exact(List.perm_cons_erase hm).trans ((h2.cons n).trans (List.perm_append_singleton n (List.range n)).symm)
theorem Qi {V:List Vr} (h:bA V L R=0):(aW (aG L) L.length).length=L.length:=by
 rw[bA] at h;by_cases h1:L.length=V.length/\R.length=V.length
 ·rw[aB h1] at h;by_cases h2:bh L=0
  ·rw[bh] at h2;by_cases h3:gB L=true
   ·rw[aB h3] at h2;by_cases h4:(aW (aG L) L.length).length<L.length
    ·rw[aB h4] at h2;cases h2
    ·have:=Fo (aG L) L.length;omega
   ·rw[aD h3] at h2;cases h2
  ·rw[aD h2] at h;exact absurd h h2
 ·rw[aD h1] at h;cases h
theorem agp (k:Nat):over vs (fun _=>0) (a8 S vs k)=a8 S vs k:=by
 funext u
 rw[over];by_cases e:u∈vs
 ·rw[aB e]
 ·rw[aD e,Gf e]
theorem XZ (g:Nat ->Rat):∀m,iZ false g m=bK g (m+1)
 |0=>by show g 0=0+g 0;rw[Rat.zero_add]
 |m+1=>by
  rw[iZ,XZ g m];rfl
theorem ah7 {V:List Vr} {g:Nat ->Nat} (h:∀u,u=v∨u∈af (L.getD v []) ->f u=g u):eY V L R f v=eY V L R g v:=by
 rw[eY,eY,qA,qA,yD (aq V) (f:=f) (g:=g) fun u hu=>h u (.inr hu),h v (.inl rfl)]
def vp (A:Nat ->Prop) (G:(Nat ->Nat) ->Rat):Prop:=∀v,¬A v ->∀g x,G (aQ g v x)=G g
def oA (L:List (List Int)) (A:Nat ->Prop):Prop:=∀v,A v ->∀u∈af (L.getD v []),A u
theorem ah4 {V:List Vr} {A:Nat ->Prop} (hA:oA L A) (hv:A v):vp A (fun g=>bt (eY V L R g v)):=fun u hu g x=>by
 show bt (eY V L R (aQ g u x) v)=bt (eY V L R g v);have h1:v≠u:=fun e=>hu (by rw[<- e];exact hv);rw[Zi h1 (fun hm=>hu (hA v hv u hm))]
theorem Vw (f:Nat ->Nat) (v x y:Nat):aQ (aQ f v x) v y=aQ f v y:=by
 funext u
 simp only[aQ];by_cases e:u=v
 ·rw[aB e,aB e]
 ·rw[aD e,aD e,aD e]
theorem vp.sum {A:Nat ->Prop} {G:(Nat ->Nat) ->Rat} (hG:vp A G) (v n:Nat):vp A (fun g=>bK (fun x=>G (aQ g v x)) n):=fun u hu g y=>by
 refine iW fun x _=>?_;by_cases e:u=v
 ·subst e;rw[Vw]
 ·rw[Hi g y x (fun h=>e h.symm)];exact hG u hu _ _
theorem vp.mul {A:Nat ->Prop} {G H:(Nat ->Nat) ->Rat} (hG:vp A G) (hH:vp A H):vp A (fun g=>G g*H g):=fun u hu g x=>by
 show G (aQ g u x)*H (aQ g u x)=G g*H g;rw[hG u hu,hH u hu]
theorem TB {V:List Vr} (h0:bA V L R=0) {b:Nat ->Bool} (hA:oA L fun v=>b v=true):∀k,(aW (aG L) k).length=k ->k<=L.length ->∀(G:(Nat ->Nat) ->Rat),vp (fun v=>b v=true) G ->∀f,(∀u,f u<sz (aq V) u) ->
  cQ (aq V) (aW (aG L) k) (fun g=>G g*cD V L R g (aW (aG L) k)) f=cQ (aq V) ((aW (aG L) k).filter b) (fun g=>G g*cD V L R g ((aW (aG L) k).filter b)) f
 |0,_,_,_,_,_,_=>rfl
 |k+1,hl,hk,G,hG,f,hf=>by
  have aV:=kL h0;have yY:=Fo (aG L) k;cases e:pF (aG L) (aW (aG L) k) with
  |none=>
   rw[aW,e] at hl;exact absurd hl (by show (aW (aG L) k).length≠_;omega)
  |some v=>
   have e1:=LM e;rw[e1] at hl⊢;rw[bM,EO] at hl;have uD:gY (aG L) (aW (aG L) k) v=true:=List.find?_some e;rw[gY,fD] at uD;(have wU:¬v∈aW (aG L) k:=by simpa using uD.1);(have iA:v<L.length:=by have:=ck.1 (Vf e);rwa [iX] at this)
   have pM:∀u∈aW (aG L) k,u≠v/\¬v∈af (L.getD u []):=fun u hu=>by
    refine⟨fun e=>wU (e▸hu),fun hp=>?_⟩
    exact wU (LN (aG L) k u hu v (by
     have wN:=CH (aG L) k u hu;rw[iX] at wN;rw[H7 wN];rw[b6,ba wN] at hp;exact hp))
   rw[Ic,vW];by_cases hv:b v=true
   ·have ih:=TB h0 hA k (by omega) (by omega) (fun g=>bK (fun x=>G (aQ g v x)*bt (eY V L R (aQ g v x) v)) (sz (aq V) v)) ((hG.mul (ah4 hA hv)).sum v _) f hf;rw[show ([v].filter b)=[v] by simp[hv],Ic];rw[CL (F:=fun g=>bK (fun x=>G (aQ g v x)*cD V L R (aQ g v x) (aW (aG L) k++[v])) (sz (aq V) v)) (G:=fun g=>bK (fun x=>G (aQ g v x)*bt (eY V L R (aQ g v x) v)) (sz (aq V) v)*cD V L R g (aW (aG L) k)) ?_ _ f hf,ih]
    ·refine CL ?_ _ f hf;intro g _;rw[EM, <- yz];refine iW fun x _=>?_;rw[Fi,cD,cD,x8,Fh fun u hu=>pM u (cJ.1 hu).1];grind
    ·intro g _;rw[EM, <- yz];refine iW fun x _=>?_;rw[Fi,cD,cD,x8,Fh pM];grind
   ·have ih:=TB h0 hA k (by omega) (by omega) G hG f hf;rw[show ([v].filter b)=[] by simp[hv],l8, <- ih];refine CL ?_ _ f hf;intro g hg;rw[iW (h:=fun x=>(G g*cD V L R g (aW (aG L) k))*bt (eY V L R (aQ g v x) v))]
    ·rw[yz,row_one h0 (by rw[<- aV.len];exact iA) hg,x8]
    ·intro x _;rw[Fi,cD,cD,x8,Fh pM,hG v hv];grind
def Fit (S:List Nat) (f:Nat ->Nat):Prop:=∀u,f u<sz S u
theorem Fit.with (h:Fit S f) {x:Nat} (hx:x<sz S v):Fit S (aQ f v x):=fun u=>by
 rw[aQ];by_cases e:u=v
 ·rw[aB e,e];exact hx
 ·rw[aD e];exact h u
def tQ (S:List Nat) (t:List Nat×List Fr) (f:Nat ->Nat):Rat:=bt (bZ t.2 (pos S f t.1))
theorem ad6 {t:List Nat×List Fr} {x:Nat} (h:¬v∈t.1):tQ S t (aQ f v x)=tQ S t f:=by
 rw[tQ,tQ,yD S (f:=aQ f v x) (g:=f)];intro u hu;rw[aQ,aD];intro e;exact h (e▸hu)
theorem ad5 {va vb U:List Nat} (hp:Pos S) (hr:U.Nodup) (sZ:∀u∈va,u∈U) (mr:∀u∈vb,u∈U) (la lb:List Fr) (hf:Fit S f):tQ S (U,sQ S va vb U la lb) f=tQ S (va,la) f*tQ S (vb,lb) f:=afC hp hr sZ mr la lb hf
theorem V1 {vars rest:List Nat} (hp:Pos S) (hr:rest.Nodup) (hv:∀u∈vars,u=v∨u∈rest) (l:List Fr) (hf:Fit S f):tQ S (rest,oN S vars rest v false l) f=bK (fun x=>tQ S (vars,l) (aQ f v x)) (sz S v):=by
 have h:=XY hp hr hv false l hf;rw[XZ,show sz S v - 1+1=sz S v by have:=mh hp v;omega] at h;exact h
theorem V3 {vars rest:List Nat} (hp:Pos S) (hr:rest.Nodup) (hv:∀u∈vars,u=v∨u∈rest) (l:List Fr) (hf:Fit S f):tQ S (rest,oN S vars rest v true l) f=iZ true (fun x=>tQ S (vars,l) (aQ f v x)) (sz S v - 1):=XY hp hr hv true l hf
theorem Pn {vars rest:List Nat} (hp:Pos S) (hr:rest.Nodup) {x:Nat} (hv:∀u∈vars,u=v∨u∈rest) (l:List Fr) (hf:Fit S f):tQ S (rest,uV S vars rest v x l) f=tQ S (vars,l) (aQ f v x):=by
 rw[tQ,tQ,uV,Np _ (rI f hf rest),pT];rw[yD S (f:=aQ (a8 S rest (pos S f rest)) v x) (g:=aQ f v x)];intro u hu;simp only[aQ];by_cases e:u=v
 ·rw[aB e,aB e]
 ·rw[aD e,aD e];exact Ge hp hf hr u ((hv u hu).resolve_left e)
theorem Pm {V:List Vr} (h0:bA V L R=0) (hv:v<V.length) (hf:Fit (aq V) f):tQ (aq V) (af (gU L v),gL V L R v) f=bt (eY V L R f v):=by
 have aV:=kL h0;have eH:v<L.length:=by rw[aV.len];exact hv
 have eo:Pos (aq V):=by have:=aV.fine.pos;rwa [iV] at this
 have JC:L.getD v []=L[v]:=by rw[b6,ba eH];rfl
 have aT:Up (gU L v) V.length:=by rw[gU,JC];exact E0 (aV.up v eH) (Pe hv)
 have hmem:∀u,u=v∨u∈af (L.getD v []) ->u∈af (gU L v):=fun u hu=>by
  obtain⟨_,h2⟩:=Hu (L.getD v []) [(v:Int)];rcases hu with rfl |hu
  ·exact aU.2 ⟨(u:Int),(h2 _).2 (.inr (eA.2 rfl)),nH u⟩
  ·obtain⟨z,hz,rfl⟩:=aU.1 hu;exact aU.2 ⟨z,(h2 _).2 (.inl hz),rfl⟩
 rw[tQ,gL,Np _ (rI f hf _),pT];congr 1
 exact ah7 fun u hu=>Ge eo hf aT.nodup u (hmem u hu)
def pQ (S:List Nat) (f:Nat ->Nat):List (List Nat×List Fr) ->Rat
 |[]=>1
 |t::P=>tQ S t f*pQ S f P
theorem P9 (S:List Nat) (f:Nat ->Nat) (Q:List (List Nat×List Fr)):∀P,pQ S f (P++Q)=pQ S f P*pQ S f Q
 |[]=>by rw[gi,pQ,zZ]
 |t::P=>by rw[eC,pQ,pQ,P9 S f Q P,vO]
theorem P8 {x:Nat}:∀ {P:List (List Nat×List Fr)},(∀t∈P,¬v∈t.1) ->pQ S (aQ f v x) P=pQ S f P
 |[],_=>rfl
 |t::P,h=>by rw[pQ,pQ,ad6 (h t c5),P8 fun s hs=>h s (dD _ hs)]
theorem P7 (S:List Nat) (f:Nat ->Nat) (p:List Nat×List Fr ->Bool):∀P:List (List Nat×List Fr),pQ S f P=pQ S f (P.filter fun t=>!p t)*pQ S f (P.filter p)
 |[]=>by simp[pQ]
 |t::P=>by
  rw[pQ,P7 S f p P];cases h:p t
  ·rw[vU (by simp[h]),vV (by simp[h]),pQ,vO]
  ·rw[vV (by simp[h]),vU h,pQ, <- vO, <- vO,EM (tQ S t f)]
theorem agj {P:List (List Nat×List Fr)} {q r:List Nat×List Fr} (hq:∀g,Fit S g ->tQ S q g=pQ S g (P.filter fun t=>decide (v∈t.1))) (hr:∀g,Fit S g ->tQ S r g=bK (fun x=>tQ S q (aQ g v x)) (sz S v)) (hf:Fit S f):
  pQ S f ((P.filter fun t=>!decide (v∈t.1))++[r])=bK (fun x=>pQ S (aQ f v x) P) (sz S v):=by
 rw[P9,pQ,pQ,x8,hr f hf, <- yz];refine iW fun x hx=>?_;have pM:=P8 (S:=S) (f:=f) (v:=v) (x:=x) (P:=P.filter fun t=>!decide (v∈t.1)) (fun t ht=>by simpa using (cJ.1 ht).2);rw[P7 S (aQ f v x) (fun t=>decide (v∈t.1)) P,hq _ (hf.with hx),pM]
variable {ws:List Nat}
def F8 (S:List Nat):List Nat ->((Nat ->Nat) ->Rat) ->(Nat ->Nat) ->Rat
 |[],F=>F
 |v::vs,F=>F8 S vs fun f=>bK (fun x=>F (aQ f v x)) (sz S v)
theorem abv (S:List Nat):∀(vs:List Nat) (F:(Nat ->Nat) ->Rat) (f:Nat ->Nat),F8 S vs F f=cQ S vs.reverse F f
 |[],F,f=>rfl
 |v::vs,F,f=>by rw[F8,abv S vs,List.reverse_cons,Ic]
theorem akK (h:vs.Perm ws) (hn:vs.Nodup) (F:(Nat ->Nat) ->Rat) (f:Nat ->Nat):F8 S vs F f=cQ S ws F f:=by
 rw[abv];exact Ie F ((List.reverse_perm vs).trans h) ((List.reverse_perm vs).nodup_iff.2 hn) f
def yM (v x:Nat) (g:Nat ->Nat):Rat:=if g v=x then 1 else 0
theorem Yz {x y:Nat} (F:(Nat ->Nat) ->Rat):∀(vs:List Nat) (f:Nat ->Nat),¬v∈vs ->f v=y ->cQ S vs (fun g=>yM v x g*F g) f=(if y=x then 1 else 0)*cQ S vs F f
 |[],f,_,hf=>by
  show yM v x f*F f=_;rw[yM,hf];rfl
 |u::vs,f,hv,hf=>by
  rw[cQ,cQ, <- yz];refine iW fun z _=>?_;refine Yz F vs _ (fun h=>hv (dD _ h)) ?_;rw[aQ,aD (fun e=>hv (by rw[e];exact c5)),hf]
theorem Qm {x:Nat} (F:(Nat ->Nat) ->Rat):∀(vs:List Nat) (f:Nat ->Nat),¬v∈vs ->cQ S vs F (aQ f v x)=cQ S vs (fun g=>F (aQ g v x)) f
 |[],f,_=>rfl
 |u::vs,f,hv=>by
  rw[cQ,cQ];refine iW fun z _=>?_;have hne:v≠u:=fun e=>hv (by rw[e];exact c5);rw[Hi f x z (fun e=>hne e.symm),Qm F vs _ fun h=>hv (dD _ h)]
theorem Wh {g:Nat ->Rat} {x:Nat}:∀ {n:Nat},x< n ->bK (fun y=>(if y=x then 1 else 0)*g y) n=g x
 |0,h=>by omega
 |n+1,h=>by
  rw[bK];rcases cM x n with h1 |h1
  ·rw[Wh h1,aD (by omega),Rat.zero_mul,Rat.add_zero]
  ·obtain rfl:x=n:=by omega
   rw[aB rfl,zZ,iW (h:=fun _=>0) fun y hy=>by rw[aD (by omega),Rat.zero_mul],Pt,Rat.zero_add]
theorem agW {x:Nat} (F:(Nat ->Nat) ->Rat) (h:vs.Perm (v::ws)) (hn:vs.Nodup) (hx:x<sz S v) (f:Nat ->Nat):cQ S vs (fun g=>yM v x g*F g) f=cQ S ws (fun g=>F (aQ g v x)) f:=by
 have iD:=h.nodup_iff.1 hn;rw[mR] at iD;rw[Ie _ h hn f,cQ, <- Qm F ws f iD.1];rw[iW (h:=fun y=>(if y=x then 1 else 0)*cQ S ws F (aQ f v y)) fun y _=>Yz F ws _ iD.1 (by rw[aQ,aB rfl])];exact Wh hx
def dL:List (Nat×Nat) ->(Nat ->Nat) ->Rat
 |[],_=>1
 |p::l,g=>yM p.1 p.2 g*dL l g
def eR:List (Nat×Nat) ->(Nat ->Nat) ->Nat ->Nat
 |[],g=>g
 |p::l,g=>eR l (aQ g p.1 p.2)
theorem Nw {x:Nat}:∀ {l:List (Nat×Nat)},(∀p∈l,p.1≠v) ->∀g,dL l (aQ g v x)=dL l g
 |[],_,_=>rfl
 |p::l,h,g=>by
  rw[dL,dL,Nw (fun q hq=>h q (dD _ hq)),yM,yM,aQ,aD (h p c5)]
theorem Lq {x:Nat}:∀ {l:List (Nat×Nat)},(∀p∈l,p.1≠v) ->∀g,eR l (aQ g v x)=aQ (eR l g) v x
 |[],_,_=>rfl
 |p::l,h,g=>by
  rw[eR,eR,Hi g x p.2 (h p c5),Lq fun q hq=>h q (dD _ hq)]
theorem Qn:∀(l:List (Nat×Nat)) (F:(Nat ->Nat) ->Rat) {vs ws:List Nat},vs.Perm (l.map (·.1)++ws) ->vs.Nodup ->(∀p∈l,p.2<sz S p.1) ->∀f,cQ S vs (fun g=>dL l g*F g) f=cQ S ws (fun g=>F (eR l g)) f
 |[],F,vs,ws,h,hn,_,f=>by
  rw[Ie _ h hn f];show cQ S ws (fun g=>1*F g) f=_;simp only[zZ,eR]
 |p::l,F,vs,ws,h,hn,hx,f=>by
  have iD:=h.nodup_iff.1 hn;rw[fH,eC] at iD h;rw[mR] at iD;have pM:∀q∈l,q.1≠p.1:=fun q hq e=>iD.1 (bL.2 (.inl (by rw[<- e];exact aU.2 ⟨q,hq,rfl⟩)))
  have e1:(fun g=>dL (p::l) g*F g)=fun g=>yM p.1 p.2 g*(dL l g*F g):=by
   funext g
   rw[dL,vO]
  rw[e1,agW (fun g=>dL l g*F g) h hn (hx p c5) f]
  have e2:(fun g=>dL l (aQ g p.1 p.2)*F (aQ g p.1 p.2))=fun g=>dL l g*F (aQ g p.1 p.2):=by
   funext g
   rw[Nw pM]
  rw[e2,Qn l (fun g=>F (aQ g p.1 p.2)) (List.Perm.refl _) iD.2 (fun q hq=>hx q (dD _ hq)) f];congr 1
  funext g
  rw[show eR (p::l) g=eR l (aQ g p.1 p.2) from rfl];congr 1
  exact(Lq pM g).symm
theorem Yg (p q:Rat):p<=CJ true p q/\q<=CJ true p q:=by
 simp only[CJ,if_true];by_cases h:p<q
 ·rw[aB h];exact⟨Rat.le_of_lt h,G0⟩
 ·rw[aD h];exact⟨G0,Rat.not_lt.1 h⟩
theorem Qc (g:Nat ->Rat):∀ {k x:Nat},x<=k ->g x<=iZ true g k
 |0,x,h=>by rw[Nat.le_zero.1 h];exact G0
 |k+1,x,h=>by
  rw[iZ];rcases cM k x with hx |hx
  ·rw[show x=k+1 from by omega];exact(Yg _ _).2
  ·exact Rat.le_trans (Qc g hx) (Yg _ _).1
theorem Ia (g:Nat ->Rat):∀k,∃x,x<=k/\iZ true g k=g x
 |0=>⟨0,ak _,rfl⟩
 |k+1=>by
  obtain⟨x,hx,e⟩:=Ia g k;rw[iZ];simp only[CJ,if_true];by_cases h:iZ true g k<g (k+1)
  ·rw[aB h];exact⟨k+1,ak _,rfl⟩
  ·rw[aD h];exact⟨x,by omega,e⟩
theorem agu {A:Rat} (hA:0<=A) (g:Nat ->Rat) (k:Nat):iZ true (fun x=>A*g x) k=A*iZ true g k:=by
 refine Rat.le_antisymm ?_ ?_
 ·obtain⟨x,hx,e⟩:=Ia (fun x=>A*g x) k;rw[e];exact Rat.mul_le_mul_of_nonneg_left (Qc g hx) hA
 ·obtain⟨x,hx,e⟩:=Ia g k;rw[e];exact Qc (fun x=>A*g x) hx
theorem ady (f:Nat ->Nat) (v:Nat):aQ f v (f v)=f:=by
 funext u;rw[aQ];by_cases h:u=v
 ·rw[aB h,h]
 ·rw[aD h]
theorem adB (f:Nat ->Nat) (v x:Nat):aQ f v x v=x:=by rw[aQ,aB rfl]
theorem adz (f:Nat ->Nat) (x:Nat) (h:u≠v):aQ f v x u=f u:=by rw[aQ,aD h]
def elimM (S:List Nat):List Nat ->((Nat ->Nat) ->Rat) ->(Nat ->Nat) ->Rat
 |[],F=>F
 |v::vs,F=>elimM S vs fun f=>iZ true (fun x=>F (aQ f v x)) (sz S v - 1)
theorem agk {P:List (List Nat×List Fr)} {q r:List Nat×List Fr} (hp:Pos S) (hq:∀g,Fit S g ->tQ S q g=pQ S g (P.filter fun t=>decide (v∈t.1))) (hr:∀g,Fit S g ->tQ S r g=iZ true (fun x=>tQ S q (aQ g v x)) (sz S v - 1)) (hn:∀g,Fit S g ->∀t∈P,0<=tQ S t g) (hf:Fit S f):
  pQ S f ((P.filter fun t=>!decide (v∈t.1))++[r])=iZ true (fun x=>pQ S (aQ f v x) P) (sz S v - 1):=by
 have hsz:=mh hp v
 have uz:∀Q:List (List Nat×List Fr),(∀t∈Q,t∈P) ->0<=pQ S f Q:=fun Q=>by
  induction Q with
  |nil=>intro _;rw[pQ];decide
  |cons t Q ih=>intro h;rw[pQ];exact Rat.mul_nonneg (hn f hf t (h t c5)) (ih fun s hs=>h s (dD _ hs))
 rw[P9,pQ,pQ,x8,hr f hf, <- agu (uz _ fun t ht=>(cJ.1 ht).1)];refine LJ true fun x hx=>?_;have pM:=P8 (S:=S) (f:=f) (v:=v) (x:=x) (P:=P.filter fun t=>!decide (v∈t.1)) (fun t ht=>by simpa using (cJ.1 ht).2);rw[P7 S (aQ f v x) (fun t=>decide (v∈t.1)) P,hq _ (hf.with (by omega)),pM]
theorem agv {g:Nat ->Rat} (h:∀x,x<=k ->0<=g x):0<=iZ true g k:=by
 obtain⟨x,hx,e⟩:=Ia g k;rw[e];exact h x hx
theorem XC (hp:Pos S):∀ {vs:List Nat} {k:Nat},vs.Nodup ->k<cnt S vs ->pos S (a8 S vs k) vs=k
 |[],k,_,h=>by
  have:k<1:=h;rw[show k=0 from by omega];rfl
 |u::vs,k,hn,h=>by
  rw[mR] at hn;have hc:0<cnt S vs:=OQ (aX _) (rI (S:=S) (fun _=>0) (fun u=>mh hp u) vs)
  have e:pos S (a8 S (u::vs) k) vs=pos S (a8 S vs (k % cnt S vs)) vs:=yD S fun v hv=>by
   rw[a8,aD];exact fun e=>hn.1 (e▸hv)
  rw[XB,e,XC hp hn.2 (gJ _ hc),a8,aB rfl,dC];exact Nat.div_add_mod _ _
theorem QA {V:List Vr} (h0:bA V L R=0) (hv:v<V.length) (hf:Fit (aq V) f):0<=bt (eY V L R f v):=by
 have aV:=kL h0;have eH:v<L.length:=by rw[aV.len];exact hv
 have oP:v<R.length:=by rw[aV.lenR];exact hv
 have hlen:=aV.rows v eH oP;have hp:=rI f hf (af L[v])
 have hrow:jH (fj R[v] (sz (aq V) v) (pos (aq V) f (af L[v])))=true:=by
  have h1:iE (kJ (aq V) L R) V.length=0:=by
   rw[bA] at h0;by_cases h1:L.length=V.length/\R.length=V.length
   ·rw[aB h1] at h0;by_cases h2:bh L=0
    ·rw[aB h2] at h0;by_cases h3:mg V=0
     ·rwa [aB h3] at h0
     ·rw[aD h3] at h0;exact absurd h0 h3
    ·rw[aD h2] at h0;exact absurd h0 h2
   ·rw[aD h1] at h0;exact absurd h0 (by decide)
  have h2:=Jy h1 v hv;rw[kJ,b6,ba oP,b6,ba eH] at h2;simp only[yf] at h2;rw[aB hlen] at h2;by_cases h3:((List.range (cnt (aq V) (af L[v]))).all fun i=>jH (fj R[v] (sz (aq V) v) i))=true
  ·rw[dN] at h3;exact h3 _ (ck.2 hp)
  ·rw[aD h3] at h2;exact absurd h2 (by decide)
 rw[jH,fD,dN] at hrow;have hmul:(pos (aq V) f (af L[v])+1)*sz (aq V) v<=R[v].length:=by rw[hlen];exact jD _ hp
 have e1:(pos (aq V) f (af L[v])+1)*sz (aq V) v=pos (aq V) f (af L[v])*sz (aq V) v+sz (aq V) v:=by rw[fC,jZ]
 have hcl:(fj R[v] (sz (aq V) v) (pos (aq V) f (af L[v]))).length=sz (aq V) v:=by
  rw[fj,eB,l7];omega
 have hfv:=hf v;have hm:=hrow.1 _ (bY (l:=fj R[v] (sz (aq V) v) (pos (aq V) f (af L[v]))) (n:=f v) (by omega));rw[L0 eH oP,qA,rZ (by omega)];have:=Rat.not_lt.1 (kY hm);simpa only[fj,Af,List.getElem_drop] using this
theorem ajM {V:List Vr} (h0:bA V L R=0) (hv:v<V.length) (hf:Fit (aq V) f):0<=tQ (aq V) (af (gU L v),gL V L R v) f:=by
 rw[Pm h0 hv hf];exact QA h0 hv hf
def ME (l:List (Nat×Nat)) (g:Nat ->Nat):Bool:=l.all fun p=>g p.1==p.2
theorem aaR:∀(l:List (Nat×Nat)) (g:Nat ->Nat),dL l g=if ME l g then 1 else 0
 |[],_=>rfl
 |p::l,g=>by
  rw[dL,aaR l g,yM,ME,ME,List.all_cons];by_cases h:g p.1=p.2
  ·rw[aB h,zZ,zY.2 h,Ak]
  ·rw[aD h,Rat.zero_mul,EL.2 h,Bool.false_and];rfl
theorem PW:∀ {l:List (Nat×Nat)},¬u∈l.map (·.1) ->∀g,eR l g u=g u
 |[],_,_=>rfl
 |p::l,h,g=>by
  rw[fH,cT,not_or] at h;rw[eR,PW h.2,adz g _ h.1]
theorem Xs {p:Nat×Nat}:∀ {l:List (Nat×Nat)},(l.map (·.1)).Nodup ->p∈l ->∀g,eR l g p.1=p.2
 |q::l,hn,h,g=>by
  rw[fH,mR] at hn;rcases cT.1 h with rfl |h
  ·rw[eR,PW hn.1,adB]
  ·exact Xs hn.2 h _
variable {As:List Nat}
theorem acg {A:Nat ->Prop}:∀ {l:List (Nat×Nat)},(∀p∈l,A p.1) ->vp A (dL l)
 |[],_=>fun _ _ _ _=>rfl
 |p::l,h=>fun v hv g x=>by
  have hne:∀q∈p::l,q.1≠v:=fun q hq e=>hv (e▸h q hq);exact Nw hne g
theorem acm {V:List Vr} (h0:bA V L R=0) (hn:As.Nodup) (hlt:∀v∈As,v<V.length) (hc:oA L (·∈As)) {G:(Nat ->Nat) ->Rat} (hG:vp (·∈As) G):
  bK (fun k=>G (a8 (aq V) (List.range V.length) k)*uk V L R (a8 (aq V) (List.range V.length) k) V.length) (cnt (aq V) (List.range V.length))=cQ (aq V) As (fun g=>G g*cD V L R g As) (fun _=>0):=by
 have aV:=kL h0;have eo:Pos (aq V):=by have:=aV.fine.pos;rwa [iV] at this
 obtain⟨Mr,_⟩:=Yy h0 L.length (Qi h0) (ak _)
 have hp:(aW (aG L) L.length).Perm (List.range V.length):=by
  rw[<- aV.len];refine XH L.length _ Mr (fun x hx=>?_) (Qi h0);have:=CH (aG L) L.length x hx;rwa [iX] at this
 have hz:Fit (aq V) (fun _:Nat=>0):=fun u=>mh eo u;have e:=YB (S:=aq V) (fun g=>G g*uk V L R g V.length) (List.range V.length) (fun _=>0) Ad;rw[iW (h:=fun k=>G (a8 (aq V) (List.range V.length) k)*uk V L R (a8 (aq V) (List.range V.length) k) V.length) fun k _=>by rw[agp]] at e
 have hf:((aW (aG L) L.length).filter fun v=>decide (v∈As)).Perm As:=by
  refine(Hb (Mr.filter _) hn).2 fun v=>?_;rw[cJ,dQ];refine⟨fun h=>h.2,fun h=>⟨hp.mem_iff.2 (ck.2 (hlt v h)),h⟩⟩
 rw[e, <- Ie _ hp Mr,CL (G:=fun g=>G g*cD V L R g (aW (aG L) L.length)) (fun g _=>by rw[PY,Xw hp]) _ _ hz,TB (b:=fun v=>decide (v∈As)) h0 (fun v hv u hu=>bT (hc v (kY hv) u hu)) L.length (Qi h0) (ak _) G (fun v hv g x=>hG v (fun h=>hv (bT h)) g x) _ hz,Ie _ hf (Mr.filter _)];refine CL (fun g _=>?_) _ _ hz;rw[Xw hf]
theorem afF {V:List Vr} (h0:bA V L R=0) {l:List (Nat×Nat)} (hn:As.Nodup) (hlt:∀v∈As,v<V.length) (hc:oA L (·∈As)) (hl:As.Perm (l.map (·.1)++ws)) (hx:∀p∈l,p.2<sz (aq V) p.1):
  bK (fun k=>dL l (a8 (aq V) (List.range V.length) k)*uk V L R (a8 (aq V) (List.range V.length) k) V.length) (cnt (aq V) (List.range V.length))=cQ (aq V) ws (fun g=>cD V L R (eR l g) As) (fun _=>0):=by
 rw[acm h0 hn hlt hc (acg fun p hp=>hl.mem_iff.2 (bL.2 (.inl (aU.2 ⟨p,hp,rfl⟩))))];exact Qn l (fun g=>cD V L R g As) hl hn hx _
variable {free:List Nat}
abbrev Tb:=List Int×List Fr
def tN (t:Tb):List Nat×List Fr:=(af t.1,t.2)
structure dw (S:List Nat) (n:Nat) (t:Tb):Prop where
 up:Up t.1 n
 len:t.2.length=cnt S (af t.1)
def wJ (S:List Nat) (a t:Tb):Tb:=(jo a.1 t.1,sQ S (af a.1) (af t.1) (af (jo a.1 t.1)) a.2 t.2)
def Ay:Tb:=([],[qF 1])
def allT (S:List Nat) (P:List Tb):Tb:=P.foldl (wJ S) Ay
def outT (S:List Nat) (v:Nat) (most:Bool) (t:Tb):Tb:=(bP t.1 v,oN S (af t.1) (af (bP t.1 (v:Int))) v most t.2)
def jQ (S:List Nat) (v x:Nat) (t:Tb):Tb:=(bP t.1 v,uV S (af t.1) (af (bP t.1 (v:Int))) v x t.2)
theorem Lb {a b:List Int}:∀u,u∈af (jo a b)↔u∈af a∨u∈af b:=fun u=>by
 obtain⟨_,h⟩:=Hu a b;simp only[af,aU];constructor
 ·rintro⟨x,hx,e⟩;rcases (h x).1 hx with h |h
  ·exact .inl ⟨x,h,e⟩
  ·exact .inr ⟨x,h,e⟩
 ·rintro(⟨x,hx,e⟩ |⟨x,hx,e⟩)
  ·exact⟨x,(h x).2 (.inl hx),e⟩
  ·exact⟨x,(h x).2 (.inr hx),e⟩
theorem QB {a:List Int} (h:Up a n):∀u,u∈af (bP a (v:Int))↔u∈af a/\u≠v:=fun u=>by
 constructor
 ·intro hu;refine⟨?_,fun e=>L8 h (e▸hu)⟩;obtain⟨x,hx,e⟩:=aU.1 hu;exact aU.2 ⟨x,(cJ.1 hx).1,e⟩
 ·rintro⟨hu,hne⟩;rcases AE h v u hu with rfl |h
  ·exact absurd rfl hne
  ·exact h
theorem dw.mul {a t:Tb} (ha:dw S n a) (ht:dw S n t):dw S n (wJ S a t):=⟨E0 ha.up ht.up,Xz ..⟩
theorem dw.one (S:List Nat) (n:Nat):dw S n Ay:=⟨fK.2 ⟨fun _ h=>absurd h iT,List.Pairwise.nil⟩,rfl⟩
theorem dw.o {t:Tb} (ht:dw S n t) (v:Nat) (most:Bool):dw S n (outT S v most t):=⟨rM ht.up _,Qe ..⟩
theorem dw.fix {t:Tb} (ht:dw S n t) (v x:Nat):dw S n (jQ S v x t):=⟨rM ht.up _,abg ..⟩
theorem ahr {a t:Tb} (hp:Pos S) (ha:dw S n a) (ht:dw S n t) (hf:Fit S f):tQ S (tN (wJ S a t)) f=tQ S (tN a) f*tQ S (tN t) f:=
 ad5 hp (E0 ha.up ht.up).nodup (fun u h=>(Lb u).2 (.inl h)) (fun u h=>(Lb u).2 (.inr h)) _ _ hf
theorem abd (hp:Pos S):∀ {P:List Tb} {a:Tb},dw S n a ->(∀t∈P,dw S n t) ->dw S n (P.foldl (wJ S) a)/\(∀u,u∈af (P.foldl (wJ S) a).1↔u∈af a.1∨∃t∈P,u∈af t.1)/\∀f,Fit S f ->tQ S (tN (P.foldl (wJ S) a)) f=tQ S (tN a) f*pQ S f (P.map tN)
 |[],a,ha,_=>⟨ha,fun u=>⟨.inl,fun h=>h.elim id fun ⟨_,ht,_⟩=>absurd ht iT⟩,fun f _=>by rw[j5,pQ,x8];rfl⟩
 |t::P,a,ha,h=>by
  have ht:=h t c5;obtain⟨h1,h2,h3⟩:=abd hp (ha.mul ht) (fun s hs=>h s (dD _ hs)) (P:=P);refine⟨h1,fun u=>?_,fun f hf=>?_⟩
  ·rw[Ag,h2 u];show u∈af (jo a.1 t.1)∨_↔_;rw[Lb,or_assoc];refine or_congr Iff.rfl ⟨?_,?_⟩
   ·rintro(h |⟨s,hs,h⟩)
    ·exact⟨t,c5,h⟩
    ·exact⟨s,dD _ hs,h⟩
   ·rintro⟨s,hs,hu⟩;rcases cT.1 hs with rfl |hs
    ·exact .inl hu
    ·exact .inr ⟨s,hs,hu⟩
  ·rw[Ag,h3 f hf,ahr hp ha ht hf,fH,pQ,vO]
theorem xu (hp:Pos S) {P:List Tb} (h:∀t∈P,dw S n t):dw S n (allT S P)/\(∀u,u∈af (allT S P).1↔∃t∈P,u∈af t.1)/\∀f,Fit S f ->tQ S (tN (allT S P)) f=pQ S f (P.map tN):=by
 obtain⟨h1,h2,h3⟩:=abd hp (dw.one S n) h;refine⟨h1,fun u=>(h2 u).trans ⟨fun h=>h.elim (fun h=>absurd h iT) id,.inr⟩,fun f hf=>?_⟩;rw[allT,h3 f hf];have:tQ S (tN Ay) f=1:=pT 1;rw[this,zZ]
def j8 (S:List Nat) (v:Nat) (most:Bool) (P:List Tb):List Tb:=(P.filter fun t=>!decide (v∈af t.1))++[outT S v most (allT S (P.filter fun t=>decide (v∈af t.1)))]
structure PI (S:List Nat) (n:Nat) (free:List Nat) (P:List Tb) (F:(Nat ->Nat) ->Rat):Prop where
 ok:∀t∈P,dw S n t
 sub:∀t∈P,∀u∈af t.1,u∈free
 sup:∀u∈free,∃t∈P,u∈af t.1
 val:∀g,Fit S g ->pQ S g (P.map tN)=F g
def NN (S:List Nat) (P:List Tb):Prop:=∀t∈P,∀g,Fit S g ->0<=tQ S (tN t) g
theorem XQ {g:Nat ->Nat} (hg:Fit S g):∀ {P:List Tb},NN S P ->0<=pQ S g (P.map tN)
 |[],_=>by rw[j5,pQ];decide
 |t::P,h=>by rw[fH,pQ];exact Rat.mul_nonneg (h t c5 g hg) (XQ hg fun s hs=>h s (dD _ hs))
theorem PI.parts {P:List Tb} {F:(Nat ->Nat) ->Rat} (hp:Pos S) (h:PI S n free P F) (v:Nat) (most:Bool):
  (∀t∈j8 S v most P,dw S n t)/\(∀t∈j8 S v most P,∀u∈af t.1,u∈free.filter fun u=>!(u==v))/\∀u∈free.filter (fun u=>!(u==v)),∃t∈j8 S v most P,u∈af t.1:=by
 obtain⟨h1,h2,_⟩:=xu hp (P:=P.filter fun t=>decide (v∈af t.1)) (n:=n) fun t ht=>h.ok t (cJ.1 ht).1;have hf:∀u,u∈free.filter (fun u=>!(u==v))↔u∈free/\u≠v:=fun u=>by simp[cJ]
 have hr:=QB (v:=v) h1.up;refine⟨fun t ht=>?_,fun t ht u hu=>?_,fun u hu=>?_⟩
 ·rcases bL.1 ht with ht |ht
  ·exact h.ok t (cJ.1 ht).1
  ·rw[eA.1 ht];exact h1.o v most
 ·rw[hf];rcases bL.1 ht with ht |ht
  ·obtain⟨ht,hv⟩:=cJ.1 ht;exact⟨h.sub t ht u hu,fun e=>by simp[<- e,hu] at hv⟩
  ·rw[eA.1 ht] at hu;obtain⟨hu,hne⟩:=(hr u).1 hu;obtain⟨s,hs,hu⟩:=(h2 u).1 hu;exact⟨h.sub s (cJ.1 hs).1 u hu,hne⟩
 ·obtain⟨hu,hne⟩:=(hf u).1 hu;obtain⟨t,ht,mA⟩:=h.sup u hu;by_cases hv:v∈af t.1
  ·exact⟨_,bL.2 (.inr (eA.2 rfl)),(hr u).2 ⟨(h2 u).2 ⟨t,cJ.2 ⟨ht,bT hv⟩,mA⟩,hne⟩⟩
  ·exact⟨t,bL.2 (.inl (cJ.2 ⟨ht,by simp[hv]⟩)),mA⟩
theorem PI.o {P:List Tb} {F:(Nat ->Nat) ->Rat} (hp:Pos S) (h:PI S n free P F) (v:Nat):
  PI S n (free.filter fun u=>!(u==v)) (j8 S v false P) (fun g=>bK (fun x=>F (aQ g v x)) (sz S v)):=by
 obtain⟨a,b,c⟩:=h.parts hp v false;obtain⟨h1,h2,h3⟩:=xu hp (P:=P.filter fun t=>decide (v∈af t.1)) (n:=n) fun t ht=>h.ok t (cJ.1 ht).1;refine⟨a,b,c,fun g hg=>?_⟩;have e1:(P.map tN).filter (fun t=>!decide (v∈t.1))=(P.filter fun t=>!decide (v∈af t.1)).map tN:=by rw[KX];rfl
 have e2:(P.map tN).filter (fun t=>decide (v∈t.1))=(P.filter fun t=>decide (v∈af t.1)).map tN:=by rw[KX];rfl
 have key:=agj (S:=S) (f:=g) (v:=v) (P:=P.map tN) (q:=tN (allT S (P.filter fun t=>decide (v∈af t.1)))) (r:=tN (outT S v false (allT S (P.filter fun t=>decide (v∈af t.1))))) (fun k hk=>by rw[e2];exact h3 k hk) (fun k hk=>V1 hp (rM h1.up _).nodup (AE h1.up v) _ hk) hg;rw[e1] at key;rw[j8,dY,List.map_singleton,key];exact iW fun x hx=>h.val _ (hg.with hx)
theorem PI.most {P:List Tb} {F:(Nat ->Nat) ->Rat} (hp:Pos S) (h:PI S n free P F) (hn:NN S P) (v:Nat):
  PI S n (free.filter fun u=>!(u==v)) (j8 S v true P) (fun g=>iZ true (fun x=>F (aQ g v x)) (sz S v - 1))/\NN S (j8 S v true P):=by
 obtain⟨a,b,c⟩:=h.parts hp v true;obtain⟨h1,h2,h3⟩:=xu hp (P:=P.filter fun t=>decide (v∈af t.1)) (n:=n) fun t ht=>h.ok t (cJ.1 ht).1;have hsz:=mh hp v;have e1:(P.map tN).filter (fun t=>!decide (v∈t.1))=(P.filter fun t=>!decide (v∈af t.1)).map tN:=by rw[KX];rfl
 have e2:(P.map tN).filter (fun t=>decide (v∈t.1))=(P.filter fun t=>decide (v∈af t.1)).map tN:=by rw[KX];rfl
 have er:∀k,Fit S k ->tQ S (tN (outT S v true (allT S (P.filter fun t=>decide (v∈af t.1))))) k=iZ true (fun x=>tQ S (tN (allT S (P.filter fun t=>decide (v∈af t.1)))) (aQ k v x)) (sz S v - 1):=fun k hk=>V3 hp (rM h1.up _).nodup (AE h1.up v) _ hk;refine⟨⟨a,b,c,fun g hg=>?_⟩,fun t ht g hg=>?_⟩
 ·have key:=agk (S:=S) (f:=g) (v:=v) (P:=P.map tN) (q:=tN (allT S (P.filter fun t=>decide (v∈af t.1)))) (r:=tN (outT S v true (allT S (P.filter fun t=>decide (v∈af t.1))))) hp (fun k hk=>by rw[e2];exact h3 k hk) er (fun k hk t ht=>by
   obtain⟨s,hs,rfl⟩:=aU.1 ht;exact hn s hs k hk) hg
  rw[e1] at key;rw[j8,dY,List.map_singleton,key];exact LJ true fun x hx=>h.val _ (hg.with (by omega))
 ·rcases bL.1 ht with ht |ht
  ·exact hn t (cJ.1 ht).1 g hg
  ·rw[eA.1 ht,er g hg];refine agv fun x hx=>?_;rw[h3 _ (hg.with (by omega))];exact XQ (hg.with (by omega)) fun s hs=>hn s (cJ.1 hs).1
theorem PI.fix {P:List Tb} {F:(Nat ->Nat) ->Rat} (hp:Pos S) (h:PI S n free P F) {x:Nat} (hx:x<sz S v):
  PI S n (free.filter fun u=>!(u==v)) (P.map (jQ S v x)) (fun g=>F (aQ g v x)):=by
 have hf:∀u,u∈free.filter (fun u=>!(u==v))↔u∈free/\u≠v:=fun u=>by simp[cJ]
 refine⟨fun t ht=>?_,fun t ht u hu=>?_,fun u hu=>?_,fun g hg=>?_⟩
 ·obtain⟨s,hs,rfl⟩:=aU.1 ht;exact(h.ok s hs).fix v x
 ·obtain⟨s,hs,rfl⟩:=aU.1 ht;obtain⟨hu,hne⟩:=(QB (h.ok s hs).up u).1 hu;exact(hf u).2 ⟨h.sub s hs u hu,hne⟩
 ·obtain⟨hu,hne⟩:=(hf u).1 hu;obtain⟨t,ht,mA⟩:=h.sup u hu;exact⟨_,aU.2 ⟨t,ht,rfl⟩,(QB (h.ok t ht).up u).2 ⟨mA,hne⟩⟩
 ·rw[<- h.val _ (hg.with hx)]
  have:∀ {Q:List Tb},(∀t∈Q,dw S n t) ->pQ S g ((Q.map (jQ S v x)).map tN)=pQ S (aQ g v x) (Q.map tN):=fun {Q}=>by
   induction Q with
   |nil=>intro _;rfl
   |cons t Q ih=>
    intro hQ;rw[fH,fH,fH,pQ,pQ,ih fun s hs=>hQ s (dD _ hs)];congr 1
    exact Pn hp (rM (hQ t c5).up _).nodup (AE (hQ t c5).up v) _ hg
  exact this h.ok
theorem NN.fix {P:List Tb} (hp:Pos S) (ho:∀t∈P,dw S n t) (h:NN S P) {x:Nat} (hx:x<sz S v):NN S (P.map (jQ S v x)):=fun t ht g hg=>by
 obtain⟨s,hs,rfl⟩:=aU.1 ht;have e:tQ S (tN (jQ S v x s)) g=tQ S (tN s) (aQ g v x):=Pn hp (rM (ho s hs).up _).nodup (AE (ho s hs).up v) _ hg;rw[e];exact h s hs _ (hg.with hx)
variable {v':Value} {W':World}
def dM (w:World) (x y:Value) (t:Tb):Prop:=∃b c cb cc,x=.slice b t.1.length cb/\y=.slice c t.2.length cc/\aC w b t.1/\ew w c t.2/\(b=none ->cb=0)
theorem dM.aa {t:Tb} (h:dM w x y t) (hb:Below w.heap.size w w'):dM w' x y t:=by
 obtain⟨b,c,cb,cc,h1,h2,h3,h4,h5⟩:=h;exact⟨b,c,cb,cc,h1,h2,h3.aa hb,h4.aa hb,h5⟩
def gH (w:World) (a:Option Addr) (P:List Tb):Prop:=∀k (h:k<P.length),∃g o x y,a=some ⟨g,o,none⟩/\g<w.heap.size/\w.cell? ⟨g,o+k*2,none⟩=some x/\w.cell? ⟨g,o+k*2+1,none⟩=some y/\dM w x y P[k]
theorem gH.aa {P:List Tb} (h:gH w a P) (hb:Below w.heap.size w w'):gH w' a P:=fun k hk=>by
 obtain⟨g,o,x,y,h1,h2,h3,h4,h5⟩:=h k hk;exact⟨g,o,x,y,h1,aR h2 hb.size,(hb.cell (p:=⟨g,_,none⟩) h2).trans h3,(hb.cell (p:=⟨g,_,none⟩) h2).trans h4,h5.aa hb⟩
def dG:List (Value×Value) ->List Value
 |[]=>[]
 |p::l=>p.1::p.2::dG l
theorem E4:∀l,(dG l).length=l.length*2
 |[]=>rfl
 |p::l=>by
  show (dG l).length+1+1=(l.length+1)*2;rw[E4 l];omega
theorem E5 (m:List (Value×Value)):∀l,dG (l++m)=dG l++dG m
 |[]=>rfl
 |q::l=>by
  show _::_::dG (l++m)=_::_::(dG l++dG m);rw[E5 m l]
theorem Lc:∀(l:List (Value×Value)) (k:Nat) (h:k<l.length),(dG l)[k*2]? =some l[k].1/\(dG l)[k*2+1]? =some l[k].2
 |p::l,0,_=>⟨rfl,rfl⟩
 |p::l,k+1,h=>by
  have:=Lc l k (by simpa using h);rw[show (k+1)*2=k*2+1+1 by omega];exact this
def fk (R:Nat) (t:Tb) (p:Value×Value):Prop:=(∀g o n c,p.1=.slice (some ⟨g,o,none⟩) n c ->t.1≠[] ->g≠R)/\∀g o n c,p.2=.slice (some ⟨g,o,none⟩) n c ->t.2≠[] ->g≠R
structure ky (w:World) (B:Nat) (v:Value) (Q:List (Value×Value)) (P:List Tb):Prop where
 len:Q.length=P.length
 own:w.ownsRow B 39 2 v P.length (dG Q)
 val:∀k (h:k<P.length) (h':k<Q.length),dM w Q[k].1 Q[k].2 P[k]
 far:∀R,v.ownBlock=some R ->∀k (h:k<P.length) (h':k<Q.length),fk R P[k] Q[k]
theorem ky.nil (w:World) (B:Nat):ky w B (.slice none 0 0) [] []:=⟨rfl,⟨rfl,.inl ⟨rfl,rfl⟩⟩,(fun k h=>absurd h (by simp)),fun R e=>by cases e⟩
theorem ky.row {B:Nat} {v:Value} {Q:List (Value×Value)} {P:List Tb} (h:ky w B v Q P):∃a c,v=.slice a P.length c/\gH w a P:=by
 rcases h.own.2 with ⟨h1,h2⟩ |⟨g,cap,cur,h1,h2,h3,h4,h5,h6,h7⟩
 ·exact⟨none,0,by rw[h1,h2],fun k hk=>absurd hk (by omega)⟩
 ·refine⟨_,cap,h1,fun k hk=>?_⟩;have fM:k<Q.length:=by rw[h.len];exact hk
  obtain⟨q0,q1⟩:=Lc Q k fM;have hcl:=E4 Q
  have hc:∀j u,(dG Q)[j]? =some u ->w.cell? ⟨g,j,none⟩=some u:=fun j u hj=>by
   rw[bE w g j _ _ (0,0) h3];have nY:=(nG.1 hj).1;rw[<- h7,rB,aB (by have:=h.len;omega),vY] at hj;exact hj
  exact⟨g,0,_,_,rfl,(cV.1 h3).1,by rw[bI];exact hc _ _ q0,by rw[bI];exact hc _ _ q1,h.val k hk fM⟩
theorem Ip {W:World} {R:Option Nat} {b:Option Addr} (h:aC W b l) (hn:∀g o,b=some ⟨g,o,none⟩ ->l≠[] ->some g≠R) (hg:W.grownBy W' R):aC W' b l:=fun k eD=>by
 obtain⟨g,o,e,cK,hc⟩:=h k eD;have hne:=hn g o e (fun e=>by rw[e] at eD;exact absurd eD (by simp));exact⟨g,o,e,aR cK hg.size,(l5 (hg.block g cK hne)).trans hc⟩
theorem ake {W:World} {R:Option Nat} {b:Option Addr} {l:List Fr} (h:ew W b l) (hn:∀g o,b=some ⟨g,o,none⟩ ->l≠[] ->some g≠R) (hg:W.grownBy W' R):ew W' b l:=fun k eD=>by
 obtain⟨g,o,e,cK,h0,h1,h2⟩:=h k eD;have hne:=hn g o e (fun e=>by rw[e] at eD;exact absurd eD (by simp));have hb:=hg.block g cK hne;exact⟨g,o,e,aR cK hg.size,(l5 (a:=⟨g,_,none⟩) hb).trans h0,(l5 (a:=⟨g,_,none⟩) hb).trans h1,(l5 (a:=⟨g,_,none⟩) hb).trans h2⟩
theorem dM.keepR {W:World} {R:Option Nat} {t:Tb} (h:dM W x y t) (hn:∀r,R=some r ->fk r t (x,y)) (hg:W.grownBy W' R):dM W' x y t:=by
 obtain⟨b,c,cb,cc,rfl,rfl,h3,h4,h5⟩:=h;refine⟨b,c,cb,cc,rfl,rfl,Ip h3 (fun g o e hne hR=>?_) hg,ake h4 (fun g o e hne hR=>?_) hg,h5⟩
 ·exact(hn g hR.symm).1 g o _ _ (by rw[e]) hne rfl
 ·exact(hn g hR.symm).2 g o _ _ (by rw[e]) hne rfl
theorem dM.lt {t:Tb} (h:dM w x y t) {R:Nat} (hR:w.heap.size<=R):fk R t (x,y):=by
 obtain⟨b,c,cb,cc,rfl,rfl,h3,h4,h5⟩:=h;refine⟨fun g o n c' e hne hg=>?_,fun g o n c' e hne hg=>?_⟩
 ·injection e with e1 _ _;obtain⟨g',o',e',gD,_⟩:=h3 0 (by cases ht:t.1 with |nil=>exact absurd ht hne |cons x l=>simp);rw[e1] at e';cases e';omega
 ·injection e with e1 _ _;obtain⟨g',o',e',gD,_⟩:=h4 0 (by cases ht:t.2 with |nil=>exact absurd ht hne |cons x l=>simp);rw[e1] at e';cases e';omega
theorem ky.push {B:Nat} {v:Value} {Q:List (Value×Value)} {P:List Tb} {t:Tb} (h:ky w B v Q P) (ht:dM w x y t) (hf:∀R,v.ownBlock=some R ->fk R t (x,y)) (ho:w'.ownsRow B 39 2 v' (P.length+1) (dG Q++[x,y])) (hg:w.grownBy w' v.ownBlock) (hn:v'.ownBlock=v.ownBlock∨∀k,v'.ownBlock=some k ->w.heap.size<=k):ky w' B v' (Q++[(x,y)]) (P++[t]):=by
 have e1:(P++[t]).length=P.length+1:=by simp
 refine⟨by simp[h.len],by rw[e1,E5];exact ho,fun k hk fN=>?_,fun R hR k hk fN=>?_⟩
 ·by_cases eD:k<P.length
  ·have fM:k<Q.length:=by rw[h.len];exact eD
   rw[oH fM,oH eD];exact(h.val k eD fM).keepR (fun r hr=>h.far r hr k eD fM) hg
  ·have fM:¬k<Q.length:=by rw[h.len];exact eD
   rw[rA (by omega),rA (by omega)];simp only[KV];exact ht.keepR hf hg
 ·by_cases eD:k<P.length
  ·have fM:k<Q.length:=by rw[h.len];exact eD
   rw[oH fM,oH eD];rcases hn with hn |hn
   ·exact h.far R (by rw[<- hn];exact hR) k eD fM
   ·exact(h.val k eD fM).lt (hn R hR)
  ·have fM:¬k<Q.length:=by rw[h.len];exact eD
   rw[rA (by omega),rA (by omega)];simp only[KV];rcases hn with hn |hn
   ·exact hf R (by rw[<- hn];exact hR)
   ·exact ht.lt (hn R hR)
theorem ky.under {B:Nat} {v:Value} {Q:List (Value×Value)} {P:List Tb} (h:ky w B v Q P) (hb:Below w.heap.size w w'):ky w' B v Q P:=
 ⟨h.len,Fm h.own (zq.aa hb),fun k h1 h2=>(h.val k h1 h2).aa hb,h.far⟩
theorem ky.lt {B:Nat} {v:Value} {Q:List (Value×Value)} {P:List Tb} (h:ky w B v Q P):∀R,v.ownBlock=some R ->B<=R/\R<w.heap.size:=fun R hR=>by
 rcases h.own.2 with ⟨h1,h2⟩ |⟨g,cap,cur,h1,h2,h3,_⟩
 ·rw[h1] at hR;cases hR
 ·rw[h1] at hR;cases hR;exact⟨h2,(cV.1 h3).1⟩
theorem fk.new {B R:Nat} {t:Tb} {b c:Option Addr} (hb:fV B b cb) (hc:fV B c cc) (hR:R<B):fk R t (.slice b n cb,.slice c m cc):=
 ⟨fun g o n' c' e _=>by
  injection e with e1 _ _;have:=hb.2 g o e1;omega,fun g o n' c' e _=>by
  injection e with e1 _ _;have:=hc.2 g o e1;omega⟩
theorem Tryz.infoTable:(Tryz.prog.info? 39).map (fun i=>(i.zero,i.size,i.bytes))=some (some (.agg #[.slice none 0 0,.slice none 0 0]),2,48):=by kernel_rfl
def gm (l M:List Int):List Int:=l.filter fun x=>!oO x M
theorem ahP {M:List Int} (h:i<l.length):gm (l.take (i+1)) M=gm (l.take i) M++if oO l[i] M=true then[] else[l[i]]:=by
 rw[gh h,gm,gm,vW];congr 1
 cases e:oO l[i] M
 ·simp[e]
 ·simp[e]
theorem afm (a b:Option Addr) (ca cb:Nat) (l M:List Int) (w:World) (hv:aC w a l) (hm:aC w b M) (hn:l.length<=1000) (hn':M.length<=1000):
  Calls Tryz.prog 20 #[.slice a l.length ca,.slice b M.length cb] w fun e w'=>∃x,e=.returned x/\bD w' w.heap.size x (gm l M)/\Below w.heap.size w w':=by
 obtain⟨i0,bS,hz0,hz1,hz2⟩:=dK Tryz.infoInt;have HV:=hid hv;have xQ:=hid (fun (k:Int) (V:World) (h:aC V b M)=>afn k b cb M V h (by omega));have HM:=hid hm;have HT:=hid (fun (i:Nat) (h:i<l.length)=>ahP (M:=M) h);have sB:=hid (fun i=>show (gm (l.take i) M).length<=l.length from aM (l6 _ _) (by rw[eB];omega));have hall:gm (l.take l.length) M=gm l M:=by rw[iR]
 have hnil:gm (l.take 0) M=[]:=by rw[List.take_zero];rfl
 rw[<- hall];clear hv hm hall;generalize hg:(fun i=>gm (l.take i) M)=F at *;have hF:∀i,gm (l.take i) M=F i:=fun i=>by rw[<- hg]
 simp only[hF] at HT sB hnil⊢;clear hg hF;go_enter Tryz.func20,Tryz.ntmps20;go_wp2_with fail
 go_loopw [5,6] (fun xv iv wr=>∃i:Nat,i<=l.length/\iv=.int .i64 i/\Hid (bD wr w.heap.size xv (F i))/\Hid (Below w.heap.size w wr)) (fun _ iv _=>l.length - (intOf iv).toNat)
 case atStart=>exact⟨0,aX _,rfl,by rw[hnil];exact⟨rfl,.inl ⟨rfl,rfl⟩⟩,aw _ _⟩
 case round=>
  obtain⟨i,hi,rfl,HR,HB⟩:=hrel;by_cases hlt:i<l.length
  ·obtain⟨g,o,rfl,hg,c0⟩:=(HV.o.aa HB.o) i hlt;have hT:=HT.o i hlt;have hle:=sB.o i;generalize l[i]=u at *;go_wp2_with fail
   refine(xQ.o u _ (HM.o.aa HB.o)).ae ?_;rintro e w1 ⟨rfl,rfl⟩;cases hin:oO u M with
   |true=>
    rw[hin,aB rfl,l8] at hT;have zw:=hid hT;clear hT hin;go_wp2;go_roundw
    case rel=>exact⟨i+1,by omega,by go_num,by rw[zw.o];exact HR,HB⟩
    case measure=>simp[intOf];omega
   |false=>
    rw[hin,aD (by decide)] at hT;have zw:=hid hT;have p5:=hid HR.o.own;have pg:Hid (bD (w1.alloc (.cells #[.int .i64 u] 3)) w.heap.size _ (F i)):=Co HR.o _;have cF:=hid (HB.o.alloc HB.o.size (.cells #[.int .i64 u] 3));have mO:=hid (YG w1 u);clear hT hin;go_wp2_with (at_builtin;refine yo rfl _ _ rfl w.heap.size _ (F i) [u] rfl pg.o (some ⟨w1.heap.size,0,none⟩) 1 rfl mO.o (fun e=>by cases e) (by simp;omega) cF.o.size ?_;intro v' w2 hr2 hg2)
    have fW:=hid hr2;have bq:=hid (cF.o.grown hg2 cF.o.size p5.o);clear hr2 hg2;go_roundw
    case rel=>exact⟨i+1,by omega,by go_num,by rw[zw.o];exact fW,bq⟩
    case measure=>simp[intOf];omega
  ·obtain rfl:i=l.length:=by omega
   go_wp2;go_ret;exact⟨_,rfl,HR.o,HB.o⟩
theorem adM (n:Nat):Up [] n:=fK.2 ⟨fun x hx=>(by cases hx),List.Pairwise.nil⟩
theorem Up.wider {L:List Int} (h:Up L i) (oT:i<=j):Up L j:=fK.2 ⟨fun x hx=>by have:=(fK.1 h).1 x hx;omega,(fK.1 h).2⟩
theorem Up.snoc {L:List Int} (h:Up L i):Up (L++[(i:Int)]) (i+1):=by
 refine fK.2 ⟨fun x hx=>?_,?_⟩
 ·rcases bL.1 hx with hx |hx
  ·have:=(fK.1 h).1 x hx;omega
  ·have:=eA.1 hx;omega
 ·rw[List.pairwise_append];refine⟨(fK.1 h).2,List.pairwise_singleton _ _,fun x hx y hy=>?_⟩;have:=(fK.1 h).1 x hx;have:=eA.1 hy;omega
theorem aff (a:Option Addr) (ca n:Nat) (l:List Int) (w:World) (hv:aC w a l) (hr:∀x∈l, -9223372036854775808<=x/\x<=9223372036854775807) (hn:l.length<=140737488355328) (lH:1<=n) (hn':n<=1000):
  Calls Tryz.prog 18 #[.slice a l.length ca,.int .i64 (n:Nat)] w fun e w'=>∃x L,e=.returned x/\bD w' w.heap.size x L/\Up L n/\Below w.heap.size w w':=by
 obtain⟨i0,bS,hz0,hz1,hz2⟩:=dK Tryz.infoInt;have HV:=hid hv;have HRG:=hid hr;clear hv hr;go_enter Tryz.func18,Tryz.ntmps18;go_wp2_with fail
 go_loopw [5,6] (fun xv iv wr=>∃(i:Nat) (L:List Int),i<=n/\iv=.int .i64 i/\Hid (Up L i)/\Hid (bD wr w.heap.size xv L)/\Hid (Below w.heap.size w wr)) (fun _ iv _=>n - (intOf iv).toNat)
 case atStart=>exact⟨0,[],aX _,rfl,adM 0,⟨rfl,.inl ⟨rfl,rfl⟩⟩,aw _ _⟩
 case round=>
  obtain⟨i,L,hi,rfl,HU,HR,HB⟩:=hrel;by_cases hlt:i<n
  ·go_wp2_with fail
   have Oj:Hid (bD wr w.heap.size u5 L):=HR;go_loopw [7,8] (fun bv jv wq=>∃(j:Nat) (b:Bool),j<=l.length/\jv=.int .i64 j/\bv=.bool b/\Hid (bD wq w.heap.size u5 L)/\Hid (Below w.heap.size w wq)) (fun _ jv _=>l.length - (intOf jv).toNat)
   case atStart=>exact⟨0,false,aX _,rfl,rfl,HR,HB⟩
   case round=>
    obtain⟨j,b,hj,rfl,rfl,Gw,tU⟩:=hrel;clear HR HB Oj;by_cases nY:j<l.length
    ·cases b with
     |true=>
      go_wp2;go_roundw
      case rel=>exact⟨j+1,true,by omega,by go_num,rfl,Gw,tU⟩
      case measure=>simp[intOf];omega
     |false=>
      obtain⟨g,o,rfl,hg,c0⟩:=(HV.o.aa tU.o) j nY;have Z7:=HRG.o l[j] (bY nY);generalize l[j]=z at *;go_wp2_with fail
      refine(Ln z n _ Z7.1 Z7.2 (by omega) (by omega)).ae ?_;rintro e w1 ⟨rfl,hb1⟩;generalize sR z n=P at *;have nj:=hid (Gw.o.aa hb1);have cP:=hid (tU.o.trans (hb1.ae tU.o.size));clear Gw tU hb1 c0;go_wp2;go_roundw
      case rel=>exact⟨j+1,_,by omega,by go_num,rfl,nj,cP⟩
      case measure=>simp[intOf];omega
    ·obtain rfl:j=l.length:=by omega
     cases b with
     |false=>
      go_wp2;go_roundw
      case rel=>exact⟨i+1,L,by omega,by go_num,HU.o.wider (by omega),Gw,tU⟩
      case measure=>simp[intOf];omega
     |true=>
      have hle:=HU.o.length;have p5:=hid Gw.o.own;have pg:Hid (bD (wr.alloc (.cells #[.int .i64 (i:Nat)] 3)) w.heap.size _ L):=Co Gw.o _;have cF:=hid (tU.o.alloc tU.o.size (.cells #[.int .i64 (i:Nat)] 3));have mO:=hid (YG wr (i:Nat));go_wp2_with (at_builtin;refine yo rfl _ _ rfl w.heap.size _ L [((i:Nat):Int)] rfl pg.o (some ⟨wr.heap.size,0,none⟩) 1 rfl mO.o (fun e=>by cases e) (by simp;omega) cF.o.size ?_;intro v' w3 hr3 hg3)
      have lR:=hid hr3;have fA:=hid (cF.o.grown hg3 cF.o.size p5.o);clear hr3 hg3;go_roundw
      case rel=>exact⟨i+1,_,by omega,by go_num,HU.o.snoc,lR,fA⟩
      case measure=>simp[intOf];omega
  ·obtain rfl:i=n:=by omega
   go_wp2;go_ret;exact⟨_,L,rfl,HR.o,HU.o,HB.o⟩
structure acw (n:Nat) (ord:Nat ->Nat) (nr:Nat ->Nat ->Nat ->Prop):Prop where
 all:∀v,v< n ->∃i,i<n/\ord i=v
 inj:∀i j,i< n ->j< n ->ord i=ord j ->i=j
 lt:∀u w,nr 0 u w ->u<n/\w<n
 self:∀u,¬nr 0 u u
 symm:∀u w,nr 0 u w ->nr 0 w u
 step:∀i,i< n ->∀u w,nr (i+1) u w↔u≠ord i/\w≠ord i/\u≠w/\(nr i u w∨nr i u (ord i)/\nr i (ord i) w)
variable {P:List (List Nat)} {s:List Nat}
theorem Fv:∀ {l m:List Nat},l.Nodup ->(∀x∈l,x∈m) ->l.length<=m.length
 |[],_,_,_=>aX _
 |a::l,m,hn,hs=>by
  have ha:a∈m:=hs a (c5 ..);have h1:=mR.1 hn;have:=Fv (l:=l) (m:=m.erase a) h1.2 (fun x hx=>(List.mem_erase_of_ne (fun e=>h1.1 (by rw[<- e];exact hx))).2 (hs x (dD _ hx)));rw[OY ha] at this;have hp:=List.length_pos_of_mem ha;show l.length+1<=m.length;omega
def jI (P:List (List Nat)) (n i:Nat):Nat:=jc (bj P n i).nei (bj P n i).lft
theorem aa7:∀ {k x:Nat},x< k ->x∈s ->∃b m,iM f s k=some (b,m)
 |k+1,x,hx,hs=>by
  rw[iM];by_cases hk:k∈s
  ·rw[aB hk];cases iM f s k with
   |none=>exact⟨_,_,rfl⟩
   |some p=>
    obtain⟨b,m⟩:=p;simp only;split
    ·exact⟨_,_,rfl⟩
    ·exact⟨_,_,rfl⟩
  ·rw[aD hk];exact aa7 (by rcases cM x k with h |h;exact h;exact absurd (by rw[show k=x by omega];exact hs) hk) hs
theorem akz {x:Nat} (hx:x<8) (hs:x∈s):jc P s∈s:=by
 obtain⟨b,m,e⟩:=aa7 (f:=nS P) hx hs;rw[jc,e];exact M5 e
structure FI (P:List (List Nat)) (n k:Nat):Prop where
 left:∀x,x∈(bj P n k).lft↔x<n/\∀i,i< k ->jI P n i≠x
 inj:∀i j,i< k ->j< k ->jI P n i=jI P n j ->i=j
 lt:∀i,i< k ->jI P n i<n
 sym:∀u,u∈(bj P n k).lft ->∀w,w∈(bj P n k).nei.getD u [] ->w∈(bj P n k).lft/\u∈(bj P n k).nei.getD w []/\u≠w
theorem FI.here (h:FI P n k) (hk:k<n) (h8:n<=8):jI P n k∈(bj P n k).lft:=by
 have hne:∃x,x∈(bj P n k).lft:=by
  refine CB fun hno=>?_
  have hall:∀x∈List.range n,x∈(List.range k).map (jI P n):=fun x hx=>by
   refine CB fun hm=>hno ⟨x,(h.left x).2 ⟨ck.1 hx,fun i hi e=>hm (aU.2 ⟨i,ck.2 hi,e⟩)⟩⟩
  have:=Fv Ad hall;rw[Cz,cH,Cz] at this;omega
 obtain⟨x,hx⟩:=hne;exact akz (by have:=((h.left x).1 hx).1;omega) hx
theorem ad2 (hu:u<P.length):(qj P v).getD u []=if u<8/\u∈P.getD v [] then wG P v u else P.getD u []:=by
 rw[b6,ba (by rw[qj,E3];exact hu)];simp[qj,gj]
theorem FI.next (hN:qT n P) (h:FI P n k) (hk:k<n) (h8:n<=8) {w:Nat} (hu:u∈(bj P n k).lft) (_hne:u≠jI P n k):w∈(bj P n (k+1)).nei.getD u []↔w≠jI P n k/\u≠w/\(w∈(bj P n k).nei.getD u []∨jI P n k∈(bj P n k).nei.getD u []/\w∈(bj P n k).nei.getD (jI P n k) []):=by
 have hl:=(M9 hN k).1;have Mh:u<n:=((h.left u).1 hu).1;have hv:=h.here hk h8;show w∈(qj (bj P n k).nei (jI P n k)).getD u []↔_;rw[ad2 (by rw[hl.len];exact Mh)];by_cases hc:u∈(bj P n k).nei.getD (jI P n k) []
 ·rw[aB ⟨by omega,hc⟩,Qr];have hs:=(h.sym _ hv u hc).2.1;exact⟨fun ⟨a,b,c⟩=>⟨c,fun e=>b e.symm,a.imp id fun a=>⟨hs,a⟩⟩,fun ⟨a,b,c⟩=>⟨c.imp id fun c=>c.2,fun e=>b e.symm,a⟩⟩
 ·rw[aD fun e=>hc e.2];constructor
  ·intro hw;have hs:=h.sym u hu w hw;exact⟨fun e=>hc (by rw[<- e];exact hs.2.1),hs.2.2,.inl hw⟩
  ·rintro⟨_,_,c |c⟩
   ·exact c
   ·exact absurd (h.sym u hu _ c.1).2.1 hc
theorem FI.step (hN:qT n P) (h:FI P n k) (hk:k<n) (h8:n<=8):FI P n (k+1):=by
 have hv:=h.here hk h8
 have Rq:∀x,x∈(bj P n (k+1)).lft↔x∈(bj P n k).lft/\x≠jI P n k:=fun x=>by
  show x∈(bj P n k).lft.filter (fun u=>decide (u≠jI P n k))↔_;rw[cJ,dQ]
 have hnew:∀i,i< k ->jI P n i≠jI P n k:=((h.left _).1 hv).2;refine⟨fun x=>?_,fun i j hi hj e=>?_,fun i hi=>?_,fun u hu w hw=>?_⟩
 ·rw[Rq,h.left];constructor
  ·rintro⟨⟨a,b⟩,c⟩;refine⟨a,fun i hi e=>?_⟩;rcases cM i k with h' |h'
   ·exact b i h' e
   ·exact c (by rw[<- e,show i=k by omega])
  ·rintro⟨a,b⟩;exact⟨⟨a,fun i hi=>b i (by omega)⟩,fun e=>b k (by omega) e.symm⟩
 ·rcases cM i k with h1 |h1
  ·rcases cM j k with h2 |h2
   ·exact h.inj i j h1 h2 e
   ·exact absurd (by rw[e,show j=k by omega]) (hnew i h1)
  ·rcases cM j k with h2 |h2
   ·exact absurd (by rw[<- e,show i=k by omega]) (hnew j h2)
   ·omega
 ·rcases cM i k with h1 |h1
  ·exact h.lt i h1
  ·rw[show i=k by omega];exact((h.left _).1 hv).1
 ·rw[Rq] at hu;obtain⟨a,b,c⟩:=(h.next hN hk h8 hu.1 hu.2).1 hw
  have hwl:w∈(bj P n k).lft:=by
   rcases c with c |c
   ·exact(h.sym u hu.1 w c).1
   ·exact(h.sym _ hv w c.2).1
  refine⟨(Rq w).2 ⟨hwl,a⟩,(h.next hN hk h8 hwl a).2 ⟨hu.2,fun e=>b e.symm,?_⟩,b⟩;rcases c with c |c
  ·exact .inl (h.sym u hu.1 w c).2.1
  ·exact .inr ⟨(h.sym _ hv w c.2).2.1,(h.sym u hu.1 _ c.1).2.1⟩
theorem FI.all (hN:qT n P) (hs:∀u,u< n ->∀w,w∈P.getD u [] ->u∈P.getD w []) (h8:n<=8):∀k,k<=n ->FI P n k
 |0,_=>⟨fun x=>⟨fun h=>⟨yv.1 h,fun i hi=>absurd hi (z7 _)⟩,fun h=>yv.2 h.1⟩,fun i _ hi=>absurd hi (z7 _),fun i hi=>absurd hi (z7 _),fun u hu w hw=>by
  have uq:u<n:=yv.1 hu;exact⟨yv.2 (hN.at u w hw),hs u uq w hw,fun e=>hN.self u (by rw[<- e] at hw;exact hw)⟩⟩
 |k+1,hk=>(FI.all hN hs h8 k (by omega)).step hN (by omega) h8
def YC (P:List (List Nat)) (n i u w:Nat):Prop:=u∈(bj P n i).lft/\w∈(bj P n i).nei.getD u []
theorem akw (hN:qT n P) (hs:∀u,u< n ->∀w,w∈P.getD u [] ->u∈P.getD w []) (h8:n<=8):acw n (jI P n) (YC P n):=by
 have hF:=FI.all hN hs h8;refine⟨fun v hv=>?_,fun i j hi hj e=>(hF n (ak _)).inj i j hi hj e,fun u w hw=>⟨yv.1 hw.1,hN.at u w hw.2⟩,fun u hu=>hN.self u hu.2,fun u w hw=>⟨yv.2 (hN.at u w hw.2),hs u (yv.1 hw.1) w hw.2⟩,fun i hi u w=>?_⟩
 ·refine CB fun hno=>?_
  have iC:(v::(List.range n).map (jI P n)).Nodup:=by
   refine mR.2 ⟨fun hm=>?_,?_⟩
   ·obtain⟨i,hi,e⟩:=aU.1 hm;exact hno ⟨i,ck.1 hi,e⟩
   ·refine yh.2 (Ad.imp_of_mem fun {a b} ha hb hab e=>hab ((hF n (ak _)).inj a b (ck.1 ha) (ck.1 hb) e))
  have:=Fv iC (m:=List.range n) fun x hx=>by
   rcases cT.1 hx with rfl |hx
   ·exact ck.2 hv
   ·obtain⟨i,hi,e⟩:=aU.1 hx;rw[<- e];exact ck.2 ((hF n (ak _)).lt i (ck.1 hi))
  rw[di,cH,Cz] at this;omega
 ·have h:=hF i (by omega);have hv:=h.here hi h8
  have hl:u∈(bj P n (i+1)).lft↔u∈(bj P n i).lft/\u≠jI P n i:=by
   show u∈(bj P n i).lft.filter (fun u=>decide (u≠jI P n i))↔_;rw[cJ,dQ]
  constructor
  ·rintro⟨a,b⟩;obtain⟨a1,a2⟩:=hl.1 a;obtain⟨c1,c2,c3⟩:=(h.next hN hi h8 a1 a2).1 b;exact⟨a2,c1,c2,c3.imp (fun c=>⟨a1,c⟩) fun c=>⟨⟨a1,c.1⟩,⟨hv,c.2⟩⟩⟩
  ·rintro⟨a,b,c,d⟩;have a1:u∈(bj P n i).lft:=d.elim (fun d=>d.1) fun d=>d.1.1;exact⟨hl.2 ⟨a1,a⟩,(h.next hN hi h8 a1 a).2 ⟨b,c,d.imp (fun d=>d.2) fun d=>⟨d.1.2,d.2.2⟩⟩⟩
theorem abe (P:List (List Nat)) (n:Nat):∀k,(bj P n k).ord=(List.range k).map (jI P n)
 |0=>rfl
 |k+1=>by rw[ud,dY, <- abe P n k];rfl
theorem ag0 (hg:gB L=true):rK L=true↔∀v u,v<L.length ->u<L.length ->(decide (u∈(aG L).getD v [])=decide (v∈(aG L).getD u [])):=by
 rw[rK,hg,Ak,dQ,CQ];have hl:∀v,v<L.length ->v<(aG L).length:=fun v hv=>by rw[iX];exact hv
 have hlt:=Fk hg
 have hat:∀v,v<L.length ->∀u,u∈(aG L).getD v [] ->u<L.length:=fun v hv u hu=>by
  rw[b6,ba (hl v hv)] at hu;exact hlt _ (bY (hl v hv)) u hu
 have key:∀v,v<L.length ->((((aG L).map aA)[v]? =((ju (aG L) L.length L.length).map aA)[v]?)↔∀u,u<L.length ->(decide (u∈(aG L).getD v [])=decide (v∈(aG L).getD u []))):=fun v hv=>by
  have e1:((aG L).map aA)[v]? =some (aA ((aG L).getD v [])):=by rw[mS,b6,ba (hl v hv)];rfl
  have e2:((ju (aG L) L.length L.length).map aA)[v]? =some (aA (dH (aG L) v L.length)):=by simp[ju,hv]
  rw[e1,e2];constructor
  ·intro e u hu;have e':=k7 e;have h1:=mo ((aG L).getD v []) u;have h2:=mo (dH (aG L) v L.length) u;rw[<- h1,e',h2,zX,BF];exact⟨fun h=>h.2,fun h=>⟨hu,h⟩⟩
  ·intro h;congr 1
   refine LV fun u=>?_;rw[BF];constructor
   ·intro hu;have:=hat v hv u hu;exact⟨this,(zX.1 (h u this)).1 hu⟩
   ·exact fun hu=>(zX.1 (h u hu.1)).2 hu.2
 constructor
 ·intro e v u hv hu;exact(key v hv).1 (by rw[e]) u hu
 ·intro h;refine Hf fun v=>?_;rcases cM v L.length with hv |hv
  ·exact(key v hv).2 fun u hu=>h v u hv hu
  ·rw[ig (by rw[cH,iX];exact hv),ig (by rw[cH,Tp];exact hv)]
variable {yb zb:Nat ->Bool} {Pa:Nat ->Nat ->Prop} {An X Y Z:Nat ->Prop}
def dV (Pa:Nat ->Nat ->Prop) (u v:Nat):Prop:=∀M:Nat ->Prop,(∀v,Pa u v ->M v) ->(∀v w,M v ->Pa v w ->M w) ->M v
theorem dV.one (h:Pa u v):dV Pa u v:=fun _ h1 _=>h1 _ h
theorem dV.more {w:Nat} (h:dV Pa u v) (hp:Pa v w):dV Pa u w:=fun M h1 h2=>h2 _ _ (h M h1 h2) hp
theorem dV.ind {M:∀v,dV Pa u v ->Prop} (one:∀ {v:Nat} (h:Pa u v),M v (.one h)) (more:∀ {v w:Nat} (h:dV Pa u v) (hp:Pa v w),M v h ->M w (h.more hp)):∀ {v:Nat} (h:dV Pa u v),M v h:=fun {_} h=>by
 obtain⟨_,k⟩:=h (fun v=>∃h,M v h) (fun _ hp=>⟨_,one hp⟩) (fun _ _ ⟨_,ih⟩ hp=>⟨_,more _ hp ih⟩);exact k
theorem dV.last {w:Nat} (h:dV Pa u w):Pa u w∨∃v,dV Pa u v/\Pa v w:=by
 induction h using dV.ind with
 |one hp=>exact .inl hp
 |more h hp _=>exact .inr ⟨_,h,hp⟩
def Vb (Pa:Nat ->Nat ->Prop) (u v:Nat):Prop:=Pa u v∨Pa v u
def TX (Pa:Nat ->Nat ->Prop) (Z An:Nat ->Prop) (p u v:Nat):Prop:=(Pa p u ->Pa v u ->An u)/\(¬(Pa p u/\Pa v u) ->¬Z u)
structure qP (Pa:Nat ->Nat ->Prop) (Z An:Nat ->Prop) (k:Nat) (f:Nat ->Nat):Prop where
 adj:∀t,t< k ->Vb Pa (f t) (f (t+1))
 ok:∀t,t+1< k ->TX Pa Z An (f t) (f (t+1)) (f (t+2))
theorem qP.down (h:qP Pa Z An k f) (pO:∀v,¬dV Pa v v) (aT:∀u v,Pa u v ->An v ->An u) (oT:i<j) (hj:j<=k) (he:f j=f i) (hd:Pa (f i) (f (i+1))):An (f i):=by
 have key:∀d t,t+d=j ->i< t ->dV Pa (f i) (f t) ->Pa (f (t - 1)) (f t) ->An (f i):=fun d=>by
  induction d with
  |zero=>
   intro t ht _ ha _;rw[show t=j by omega,he] at ha;exact absurd ha (pO _)
  |succ d ih=>
   intro t ht hit ha hp;have aV:=h.ok (t - 1) (by omega);rw[show t - 1+1=t by omega,show t - 1+2=t+1 by omega] at aV;rcases h.adj t (by omega) with hn |hn
   ·exact ih (t+1) (by omega) (by omega) (.more ha hn) (by rw[show t+1 - 1=t by omega];exact hn)
   ·have hat:=aV.1 hp hn
    have:∀u v,dV Pa u v ->An v ->An u:=fun u v huv=>by
     induction huv using dV.ind with
     |one h=>exact aT _ _ h
     |more _ h ih=>exact fun hv=>ih (aT _ _ h hv)
    exact this _ _ ha hat
 exact key (j - (i+1)) (i+1) (by omega) (by omega) (.one hd) (by rw[show i+1 - 1=i by omega];exact hd)
def Ga (f:Nat ->Nat) (i j t:Nat):Nat:=if t<=i then f t else f (t+(j - i))
theorem qP.cut (h:qP Pa Z An k f) (pO:∀v,¬dV Pa v v) (aT:∀u v,Pa u v ->An v ->An u) (oT:i<j) (hj:j<=k) (he:f j=f i):qP Pa Z An (k - (j - i)) (Ga f i j):=by
 have tu:∀t,t<=i ->Ga f i j t=f t:=fun t ht=>aB ht
 have A5:∀t,i<=t ->Ga f i j t=f (t+(j - i)):=fun t ht=>by
  rcases cM i t with h1 |h1
  ·exact aD (by omega)
  ·rw[tu t h1,show t=i by omega,show i+(j - i)=j by omega,he]
 have C3:∀u v,Pa u v ->¬Pa v u:=fun u v h1 h2=>pO u (.more (.one h1) h2);refine⟨fun t ht=>?_,fun t ht=>?_⟩
 ·rcases cM t i with h1 |h1
  ·rw[tu t (by omega),tu (t+1) (by omega)];exact h.adj t (by omega)
  ·rw[A5 t h1,A5 (t+1) (by omega),show t+1+(j - i)=t+(j - i)+1 by omega];exact h.adj _ (by omega)
 ·rcases cM (t+1) i with h1 |h1
  ·rw[tu t (by omega),tu (t+1) (by omega),tu (t+2) (by omega)];exact h.ok t (by omega)
  ·rcases cM i (t+1) with h2 |h2
   ·rw[A5 t (by omega),A5 (t+1) (by omega),A5 (t+2) (by omega),show t+1+(j - i)=t+(j - i)+1 by omega,show t+2+(j - i)=t+(j - i)+2 by omega];exact h.ok _ (by omega)
   ·
    (obtain rfl:i=t+1:=by omega);rw[tu t (by omega),tu (t+1) (ak _),A5 (t+2) (by omega)];rw[show t+2+(j - (t+1))=j+1 by omega];have hf:=h.ok t (by omega);have hl:=h.ok (j - 1) (by omega);rw[show j - 1+1=j by omega,show j - 1+2=j+1 by omega,he] at hl;refine⟨fun hp hq=>?_,fun hn hz=>?_⟩
    ·rcases h.adj (t+1) (by omega) with hd |hd
     ·exact h.down pO aT oT hj he hd
     ·exact hf.1 hp hd
    ·by_cases hp:Pa (f t) (f (t+1))
     ·have hq:¬Pa (f (j+1)) (f (t+1)):=fun hq=>hn ⟨hp,hq⟩;exact hl.2 (fun h=>hq h.2) hz
     ·exact hf.2 (fun h=>hp h.1) hz
theorem qP.plain (pO:∀v,¬dV Pa v v) (aT:∀u v,Pa u v ->An v ->An u):∀m k f,k<=m ->qP Pa Z An k f ->X (f 0) ->Y (f k) ->∃k' f',qP Pa Z An k' f'/\X (f' 0)/\Y (f' k')/\(∀i j,i<=k' ->j<=k' ->f' i=f' j ->i=j)/\∀i,i<k' ->¬Y (f' i):=fun m=>by
 induction m with
 |zero=>
  intro k f hk h hx hy;obtain rfl:k=0:=by omega
  exact⟨0,f,h,hx,hy,fun i j hi hj _=>by omega,fun i hi=>absurd hi (z7 _)⟩
 |succ m ih=>
  intro k f hk h hx hy;by_cases h1:∃i,i<k/\Y (f i)
  ·obtain⟨i,hi,QO⟩:=h1;exact ih i f (by omega) ⟨fun t ht=>h.adj t (by omega),fun t ht=>h.ok t (by omega)⟩ hx QO
  ·by_cases h2:∃i j,i<j/\j<=k/\f j=f i
   ·obtain⟨i,j,oT,hj,he⟩:=h2;refine ih (k - (j - i)) (Ga f i j) (by omega) (h.cut pO aT oT hj he) ?_ ?_
    ·rw[Ga,aB (aX _)];exact hx
    ·rw[Ga];by_cases hc:k - (j - i)<=i
     ·rw[aB hc];(have:j=k:=by omega);rw[show k - (j - i)=i by omega, <- he,this];exact hy
     ·rw[aD hc,show k - (j - i)+(j - i)=k by omega];exact hy
   ·refine⟨k,f,h,hx,hy,fun i j hi hj e=>?_,fun i hi QO=>h1 ⟨i,hi,QO⟩⟩;rcases OO i j with h3 |h3 |h3
    ·exact absurd ⟨i,j,h3,hj,e.symm⟩ h2
    ·exact h3
    ·exact absurd ⟨j,i,h3,hi,e⟩ h2
def fF (Pa:Nat ->Nat ->Prop) (X Z An:Nat ->Prop) (v:Nat) (c:Bool):Prop:=∀M:Nat ->Bool ->Prop,(∀x,X x ->M x true) ->(∀v p,M v true ->¬Z v ->Pa p v ->M p true) ->(∀v w c,M v c ->¬Z v ->Pa v w ->M w false) ->(∀v p,M v false ->An v ->Pa p v ->M p true) ->M v c
theorem fF.start {x:Nat} (h:X x):fF Pa X Z An x true:=fun _ h1 _ _ _=>h1 _ h
theorem fF.up {p:Nat} (h:fF Pa X Z An v true) (hz:¬Z v) (hp:Pa p v):fF Pa X Z An p true:=fun M h1 h2 h3 h4=>h2 _ _ (h M h1 h2 h3 h4) hz hp
theorem fF.down {w:Nat} {c:Bool} (h:fF Pa X Z An v c) (hz:¬Z v) (hp:Pa v w):fF Pa X Z An w false:=fun M h1 h2 h3 h4=>h3 _ _ _ (h M h1 h2 h3 h4) hz hp
theorem fF.meet {p:Nat} (h:fF Pa X Z An v false) (ha:An v) (hp:Pa p v):fF Pa X Z An p true:=fun M h1 h2 h3 h4=>h4 _ _ (h M h1 h2 h3 h4) ha hp
theorem fF.ind {M:∀v c,fF Pa X Z An v c ->Prop} (start:∀ {x:Nat} (h:X x),M x true (.start h)) (up:∀ {v p:Nat} (h:fF Pa X Z An v true) (hz:¬Z v) (hp:Pa p v),M v true h ->M p true (h.up hz hp)) (down:∀ {v w:Nat} {c:Bool} (h:fF Pa X Z An v c) (hz:¬Z v) (hp:Pa v w),M v c h ->M w false (h.down hz hp)) (meet:∀ {v p:Nat} (h:fF Pa X Z An v false) (ha:An v) (hp:Pa p v),M v false h ->M p true (h.meet ha hp)):∀ {v:Nat} {c:Bool} (h:fF Pa X Z An v c),M v c h:=fun {_ _} h=>by
 obtain⟨_,k⟩:=h (fun v c=>∃h,M v c h) (fun _ h=>⟨_,start h⟩) (fun _ _ ⟨_,ih⟩ hz hp=>⟨_,up _ hz hp ih⟩) (fun _ _ _ ⟨_,ih⟩ hz hp=>⟨_,down _ hz hp ih⟩) (fun _ _ ⟨_,ih⟩ ha hp=>⟨_,meet _ ha hp ih⟩);exact k
theorem qP.snoc (h:qP Pa Z An k f) (v:Nat) (ha:Vb Pa (f k) v) (ho:0< k ->TX Pa Z An (f (k - 1)) (f k) v):qP Pa Z An (k+1) (fun t=>if t<=k then f t else v):=by
 have hl:∀t,t<=k ->(if t<=k then f t else v)=f t:=fun t ht=>aB ht;refine⟨fun t ht=>?_,fun t ht=>?_⟩
 ·show Vb Pa (if t<=k then f t else v) (if t+1<=k then f (t+1) else v);rw[hl t (by omega)];rcases cM t k with h1 |h1
  ·rw[hl (t+1) (by omega)];exact h.adj t h1
  ·rw[aD (by omega),show t=k by omega];exact ha
 ·show TX Pa Z An (if t<=k then f t else v) (if t+1<=k then f (t+1) else v) (if t+2<=k then f (t+2) else v);rw[hl t (by omega),hl (t+1) (by omega)];rcases cM (t+1) k with h1 |h1
  ·rw[hl (t+2) (by omega)];exact h.ok t h1
  ·rw[aD (by omega)];have:=ho (by omega);rw[show k - 1=t by omega,show k=t+1 by omega] at this;exact this
theorem fF.way (pO:∀v,¬dV Pa v v) {c:Bool} (h:fF Pa X Z An v c):∃k f,qP Pa Z An k f/\X (f 0)/\f k=v/\(c=true ->k=0∨Pa v (f (k - 1)))/\(c=false ->0<k/\Pa (f (k - 1)) v):=by
 have C3:∀u v,Pa u v ->¬Pa v u:=fun u v h1 h2=>pO u (.more (.one h1) h2);induction h using fF.ind with
 | @start x hx=>exact⟨0,fun _=>x,⟨fun t ht=>absurd ht (z7 _),fun t ht=>absurd ht (z7 _)⟩,hx,rfl,fun _=>.inl rfl,fun e=>by cases e⟩
 | @up v p _ hz hp ih=>
  obtain⟨k,f,h1,h2,h3,h4,_⟩:=ih;refine⟨k+1,_,h1.snoc p (.inr (by rw[h3];exact hp)) (fun hk=>?_),?_,?_,fun _=>.inr ?_,fun e=>by cases e⟩
  ·have hc:=(h4 rfl).resolve_left (by omega);rw[h3];exact⟨fun h5 _=>absurd h5 (C3 _ _ hc),fun _=>hz⟩
  ·show X (if 0<=k then f 0 else p);rw[aB (aX _)];exact h2
  ·show (if k+1<=k then f (k+1) else p)=p;rw[aD (by omega)]
  ·show Pa p (if k+1 - 1<=k then f (k+1 - 1) else p);rw[aB (by omega),show k+1 - 1=k by omega,h3];exact hp
 | @down v w c _ hz hp ih=>
  obtain⟨k,f,h1,h2,h3,h4,h5⟩:=ih;refine⟨k+1,_,h1.snoc w (.inl (by rw[h3];exact hp)) (fun hk=>?_),?_,?_,(fun e=>by cases e),fun _=>⟨by omega,?_⟩⟩
  ·rw[h3];exact⟨fun _ h6=>absurd h6 (C3 _ _ hp),fun _=>hz⟩
  ·show X (if 0<=k then f 0 else w);rw[aB (aX _)];exact h2
  ·show (if k+1<=k then f (k+1) else w)=w;rw[aD (by omega)]
  ·show Pa (if k+1 - 1<=k then f (k+1 - 1) else w) w;rw[aB (by omega),show k+1 - 1=k by omega,h3];exact hp
 | @meet v p _ hm hp ih=>
  obtain⟨k,f,h1,h2,h3,_,h5⟩:=ih;refine⟨k+1,_,h1.snoc p (.inr (by rw[h3];exact hp)) (fun hk=>?_),?_,?_,fun _=>.inr ?_,fun e=>by cases e⟩
  ·rw[h3];exact⟨fun _ _=>hm,fun hn=>absurd ⟨(h5 rfl).2,hp⟩ hn⟩
  ·show X (if 0<=k then f 0 else p);rw[aB (aX _)];exact h2
  ·show (if k+1<=k then f (k+1) else p)=p;rw[aD (by omega)]
  ·show Pa p (if k+1 - 1<=k then f (k+1 - 1) else p);rw[aB (by omega),show k+1 - 1=k by omega,h3];exact hp
def qm (P:List (List Nat)) (u v:Nat):Bool:=decide (u∈P.getD v [])
def Fg (P:List (List Nat)) (zb an:Nat ->Bool) (u:Nat) (r:List Nat) (v:Nat):Bool:=match r with
 |[]=>true
 |p::_=>if (qm P p u&&qm P v u)=true then an u else !zb u
def Ax (P:List (List Nat)) (n:Nat) (yb zb an:Nat ->Bool):Nat ->List Nat ->Bool
 |0,_=>false
 |_+1,[]=>false
 |f+1,u::r=>yb u ||(List.range n).any fun v=>!decide (v∈u::r)&&((qm P v u ||qm P u v)&&(Fg P zb an u r v&&Ax P n yb zb an f (v::u::r)))
theorem Yi {an:Nat ->Bool} (CY:∀v,X v ->zb v=false) (pO:∀v,¬dV (fun u v=>u∈P.getD v []) v v):∀f u r,Ax P n yb zb an f (u::r)=true ->(∃c,fF (fun u v=>u∈P.getD v []) X (fun v=>zb v=true) (fun v=>an v=true) u c/\(c=true ->(r=[]/\X u)∨∃p l,r=p::l/\u∈P.getD p [])/\(c=false ->∃p l,r=p::l/\p∈P.getD u [])) ->∃y c,yb y=true/\fF (fun u v=>u∈P.getD v []) X (fun v=>zb v=true) (fun v=>an v=true) y c
 |0,u,r,h,_=>by cases h
 |f+1,u,r,h,⟨c,hr,h1,h2⟩=>by
  have C3:∀u v:Nat,u∈P.getD v [] ->¬v∈P.getD u []:=fun u v a b=>pO u (.more (.one a) b);rw[Ax,ET] at h;rcases h with h |h
  ·exact⟨u,c,h,hr⟩
  ·obtain⟨v,_,hv⟩:=Ai.1 h;rw[fD,fD,fD,ET] at hv;obtain⟨_,ha,hp,ho⟩:=hv;refine Yi CY pO f v (u::r) ho ?_;by_cases hd:u∈P.getD v []
   ·have hz:¬zb u=true:=fun hz=>by
     cases c with
     |true=>
      rcases h1 rfl with ⟨rfl,hx⟩ |⟨p,l,rfl,hc⟩
      ·rw[CY u hx] at hz;cases hz
      ·rw[Fg,aD (by rw[qm,cj (C3 _ _ hc),Bool.false_and];decide),hz] at hp;cases hp
     |false=>
      obtain⟨p,l,rfl,hc⟩:=h2 rfl;rw[Fg,aD (by rw[qm,qm,cj (C3 _ _ hd),Bool.and_false];decide),hz] at hp;cases hp
    exact⟨false,.down hr hz hd,(fun e=>by cases e),fun _=>⟨u,r,rfl,hd⟩⟩
   ·have aT:v∈P.getD u []:=ha.elim (fun a=>kY a) fun a=>absurd (kY a) hd;refine⟨true,?_,fun _=>.inr ⟨u,r,rfl,aT⟩,fun e=>by cases e⟩;cases c with
    |true=>
     refine .up hr (fun hz=>?_) aT;rcases h1 rfl with ⟨rfl,hx⟩ |⟨p,l,rfl,hc⟩
     ·rw[CY u hx] at hz;cases hz
     ·rw[Fg,aD (by rw[qm,cj (C3 _ _ hc),Bool.false_and];decide),hz] at hp;cases hp
    |false=>
     obtain⟨p,l,rfl,hc⟩:=h2 rfl;rw[Fg,aB (by rw[qm,qm,bT hc,bT aT];rfl)] at hp;exact .meet hr hp aT
def Ao (f:Nat ->Nat):Nat ->List Nat
 |0=>[f 0]
 |t+1=>f (t+1)::Ao f t
theorem Vt:∀ {t:Nat},v∈Ao f t ->∃i,i<=t/\v=f i
 |0,h=>⟨0,ak _,eA.1 h⟩
 |t+1,h=>by
  rcases cT.1 h with e |h
  ·exact⟨t+1,ak _,e⟩
  ·obtain⟨i,hi,e⟩:=Vt h;exact⟨i,by omega,e⟩
theorem Vu (f:Nat ->Nat) (t:Nat):∃l,Ao f t=f t::l/\(t=0 ->l=[])/\(0< t ->∃l',l=f (t - 1)::l'):=by
 cases t with
 |zero=>exact⟨[],rfl,fun _=>rfl,fun h=>absurd h (Nat.lt_irrefl _)⟩
 |succ t=>
  refine⟨Ao f t,rfl,(fun e=>by omega),fun _=>?_⟩;cases t with
  |zero=>exact⟨[],rfl⟩
  |succ t=>exact⟨Ao f t,rfl⟩
theorem Yh {an:Nat ->Bool} (h:qP (fun u v=>u∈P.getD v []) (fun v=>zb v=true) (fun v=>an v=true) k f) (hy:yb (f k)=true) (hi:∀i j,i<=k ->j<=k ->f i=f j ->i=j) (hlt:∀i,i<=k ->f i<n) (e:Nat):∀d,d<=k ->Ax P n yb zb an (d+1+e) (Ao f (k - d))=true
 |0,_=>by
  obtain⟨l,hl,_⟩:=Vu f k;rw[Nat.sub_zero,hl,show 0+1+e=e+1 by omega,Ax,hy,Bool.true_or]
 |d+1,hd=>by
  have ih:=Yh h hy hi hlt e d (by omega);obtain⟨l,hl,l0,l1⟩:=Vu f (k - (d+1));obtain⟨t,ht⟩:∃t,t=k - (d+1):=⟨_,rfl⟩;rw[<- ht] at hl l0 l1⊢;have kh:k - d=t+1:=by omega
  rw[kh] at ih;rw[hl,show d+1+1+e=(d+1+e)+1 by omega,Ax,ET];refine .inr (Ai.2 ⟨f (t+1),ck.2 (hlt _ (by omega)),?_⟩);have hwl:Ao f (t+1)=f (t+1)::f t::l:=by rw[Ao,hl]
  rw[hwl] at ih
  have Ri:¬f (t+1)∈f t::l:=fun hm=>by
   rw[<- hl] at hm;obtain⟨i,h1,h2⟩:=Vt hm;have:=hi (t+1) i (by omega) (by omega) h2;omega
  have ajz:=h.adj t (by omega);rw[cj Ri,ih,Bool.not_false,Ak,Bool.and_true,fD,ET];refine⟨ajz.elim (fun a=>.inr (bT a)) fun a=>.inl (bT a),?_⟩;rcases ub t with h0 |h0
  ·rw[l0 h0];rfl
  ·obtain⟨l',rfl⟩:=l1 h0;have aV:=h.ok (t - 1) (by omega);rw[show t - 1+1=t by omega,show t - 1+2=t+1 by omega] at aV;rw[Fg];by_cases hc:(qm P (f (t - 1)) (f t)&&qm P (f (t+1)) (f t))=true
   ·rw[aB hc];rw[fD] at hc;exact aV.1 (kY hc.1) (kY hc.2)
   ·rw[aD hc];have:=aV.2 fun hb=>hc (by rw[qm,qm,bT hb.1,bT hb.2];rfl);cases hz:zb (f t)
    ·rfl
    ·exact absurd hz this
theorem aip (hi:∀i j,i<=k ->j<=k ->f i=f j ->i=j) (hlt:∀i,i<=k ->f i<n):k+1<=n:=by
 have iC:((List.range (k+1)).map f).Nodup:=yh.2 (Ad.imp_of_mem fun {a b} ha hb hab e=>hab (hi a b (by have:=ck.1 ha;omega) (by have:=ck.1 hb;omega) e))
 have:=Fv iC (m:=List.range n) fun x hx=>by
  obtain⟨i,h1,rfl⟩:=aU.1 hx;exact ck.2 (hlt i (by have:=ck.1 h1;omega))
 simpa using this
theorem agI {an:Nat ->Bool} (CY:∀v,X v ->zb v=false) (pO:∀v,¬dV (fun u v=>u∈P.getD v []) v v) (aT:∀u v,u∈P.getD v [] ->an v=true ->an u=true) (hP:∀v,∀u∈P.getD v [],u<n/\v<n) (hX:∀v,X v ->v<n):(∃x,X x/\Ax P n yb zb an n [x]=true)↔∃y c,yb y=true/\fF (fun u v=>u∈P.getD v []) X (fun v=>zb v=true) (fun v=>an v=true) y c:=by
 constructor
 ·rintro⟨x,hx,ho⟩;exact Yi CY pO n x [] ho ⟨true,.start hx,fun _=>.inl ⟨rfl,hx⟩,fun e=>by cases e⟩
 ·rintro⟨y,c,hy,hr⟩;obtain⟨k,f,h1,h2,h3,_⟩:=hr.way pO;obtain⟨k',f',g1,g2,g3,g4,_⟩:=qP.plain (X:=X) (Y:=fun v=>yb v=true) pO aT k k f (ak _) h1 h2 (by rw[h3];exact hy)
  have hlt:∀i,i<=k' ->f' i<n:=fun i hi=>by
   rcases ub i with h0 |h0
   ·rw[h0];exact hX _ g2
   ·have:=g1.adj (i - 1) (by omega);rw[show i - 1+1=i by omega] at this;exact this.elim (fun a=>(hP _ _ a).2) fun a=>(hP _ _ a).1
  have hkn:=aip g4 hlt;have:=Yh g1 g3 g4 hlt (n - (k'+1)) k' (ak _);rw[nD,show k'+1+(n - (k'+1))=n by omega] at this;exact⟨f' 0,g2,this⟩
section
attribute [local go_sem] Oper.semAt_some
variable {c lo:Nat}
def mG (P:List (List Nat)) (t:List Nat) (k:Nat):List Nat:=t++(bw t k).flatMap fun v=>P.getD v []
theorem ama (P:List (List Nat)) (t:List Nat):mG P t 0=t:=by simp[mG,bw]
theorem amb {t:List Nat} (h:k∈t):mG P t (k+1)=mG P t k++P.getD k []:=by rw[mG,LZ h,List.flatMap_append, <- jh,mG];simp
theorem amc {t:List Nat} (h:¬k∈t):mG P t (k+1)=mG P t k:=by rw[mG,Ii h,mG]
def cZ (P:List (List Nat)) (s:List Nat):Nat ->List Nat
 |0=>s
 |r+1=>mG P (cZ P s r) 8
theorem acs {t:List Nat} (hP:∀v,∀u∈P.getD v [],u<n) (ht:∀u∈t,u<n) (k:Nat):∀u∈mG P t k,u<n:=fun u hu=>by
 rcases bL.1 hu with h |h
 ·exact ht u h
 ·obtain⟨v,_,h2⟩:=List.mem_flatMap.1 h;exact hP v u h2
theorem Gg (hP:∀v,∀u∈P.getD v [],u<n) (hs:∀u∈s,u<n):∀r,∀u∈cZ P s r,u<n
 |0=>hs
 |r+1=>acs hP (Gg hP hs r) 8
def tW (w:World) (G n c m:Nat) (W:World):Prop:=Boxed W w.heap.size 109 (.slice (some ⟨G,0,none⟩) n c)/\Boxed W (w.heap.size+1) 115 (.int .u32 (m:Nat))/\Below w.heap.size w W
theorem tW.shut {G:Nat} (hlo:w.heap.size+1<lo) (W:World) (r:Nat) (h:tW w G n c m W) (hr:lo<=r) (hd:W.heap[r]? =some (.deferred (some []))):tW w G n c m (W.putObj r (.deferred none)):=
 ⟨(tX (by omega)).trans h.1,(tX (by omega)).trans h.2.1,h.2.2.trans (sK (w:=w) (ak _) W r _ _ (by omega) hd rfl rfl)⟩
theorem tW.own {β:Type} {G B:Nat} (f:β ->Nat) (hB:w.heap.size<=B):OwnFrom B (fun (s:β) W=>tW w G n c (f s) W):=
 eG (fB (iH _ _ (fun _=>_)) _) (eG (fB (iH _ _ (fun s:β=>.int .u32 (f s:Nat))) _) (x7 (ak _) hB))
theorem acr (G n c:Nat) (P:List (List Nat)) (s:List Nat) (w:World) (hn:P.length=n) (h8:n<=8) (hU:bW w G (P.map aA)) (hP:∀p∈P,∀u∈p,u<n) (hs:∀u∈s,u<n):
  Calls Tryz.prog 127 #[.slice (some ⟨G,0,none⟩) n c,.int .u32 (aA s:Nat)] w fun e w'=>e=.returned (.int .u32 (aA (cZ P s n):Nat))/\Below w.heap.size w w':=by
 refine(fZ (n:=6)).1 ?_;have hG:=hU.lt
 have rT:∀v,∀u∈P.getD v [],u<n:=fun v u hu=>by
  by_cases hv:v<P.length
  ·rw[b6,ba hv] at hu;exact hP _ (bY hv) u hu
  ·rw[b6,ig (by omega)] at hu;simp at hu
 have vG:Hid (∀(V:World) (v:Nat),Below w.heap.size w V ->v< n ->V.cell? ⟨G,v,none⟩=some (.int .u32 (aA (P.getD v []):Nat))):=fun V v hB hv=>by
  have:=(hU.aa hB hG).cell v (by rw[cH];omega);rwa [AD (by omega)] at this
 have Ob:=hid (fun r=>Gg rT hs r);have Km:=hid (fun (r k:Nat)=>Nt (mG P (cZ P s r) k) (P.getD k []) (fun u hu=>by have:=acs rT (Gg rT hs r) k u hu;omega) (fun u hu=>by have:=rT k u hu;omega));have HY:=hid (fun (r k:Nat) (h:k∈cZ P s r)=>amb (P:=P) h);have HN:=hid (fun (r k:Nat) (h:¬k∈cZ P s r)=>amc (P:=P) h);have HZ:=hid (fun (r:Nat)=>ama P (cZ P s r));have vv:Hid (∀r,mG P (cZ P s r) 8=cZ P s (r+1)):=fun r=>rfl;have h0:cZ P s 0=s:=rfl;clear hU hP rT hs;refine rq Tryz.func127 rfl trivial ?_ rfl;simp only[Tryz.ntmps127,k9,di,jG,Nat.reduceAdd,Nat.reduceSub,lh,lg,ld,kF,gi,eC];obtain⟨W2,hW2⟩:∃W2,W2=(w.alloc (.cells #[.slice (some ⟨G,0,none⟩) n c] 109)).alloc (.cells #[.int .u32 (aA s:Nat)] 115):=⟨_,rfl⟩
 have hL2:tW w G n c (aA (cZ P s 0)) W2:=by
  rw[hW2,h0];refine⟨(aZ w _ _).alloc _,?_,((aw _ w).alloc (ak _) _).alloc (by simp) _⟩;have h:=aZ (w.alloc (.cells #[.slice (some ⟨G,0,none⟩) n c] 109)) 115 (.int .u32 (aA s:Nat));rwa [dE] at h
 have k0:=hL2.1.cell;rw[hW2] at k0;gi_wp2
 rw[<- hW2];have hs2:W2.heap.size=w.heap.size+2:=by rw[hW2];simp
 have mN:=hid hL2;clear hW2 hL2 k0 h0;generalize hab:cZ P s=ab at *;have tV:=hid hab;clear hab;generalize aA s=Za at *;refine wpIn_loop (fun a' w'=>∃(r:Nat) (ds:List Deferred) (u9 u10 u11 EZ:Value),a'= {tmps:= #[.slice (some ⟨G,0,none⟩) n c,.int .u32 (Za:Nat),.pointer (some ⟨w.heap.size,0,none⟩),.pointer (some ⟨w.heap.size+1,0,none⟩),.int .u32 0,undef,.slice (some ⟨G,0,none⟩) n c,.int .i64 (n:Nat),.int .i64 (r:Nat),u9,u10,u11,undef,undef,undef,undef,undef,undef,undef,EZ,undef],defers:=ds}/\r<=n/\Hid (tW w G n c (aA (ab r)) w')/\Hid (Shut (w.heap.size+2) w'.heap.size ds w')) (fun a' _=>n - (intOf (a'.tmps.getD 8 undef)).toNat) ?_ ?_
 ·exact⟨0,[],_,_,_,_,rfl,aX _,mN,trivial⟩
 intro a' wr hinv;obtain⟨r,ds,u9,u10,u11,EZ,rfl,hr,kW,o7⟩:=hinv;clear mN;by_cases hlt:r<n
 ·have ht:=Ob.o r;have JX:=hid (HY.o r);have GH:=hid (HN.o r);have HOr:=hid (Km.o r);have hZr:=HZ.o r;have hSr:=vv.o r;have cY:w.heap.size+1<wr.heap.size:=kW.o.2.1.lt;have ks:=kW.o.2.1.cell;have ht8:∀u∈ab r,u<8:=fun u hu=>by have:=ht u hu;omega
  generalize ab r=t at *;gi_wp2
  clear ks;have hL3:=kW.o;rw[<- hZr] at hL3
  refine Am (by omega) t ht8 rfl rfl
   (fun k V=>tW w G n c (aA (mG P t k)) V/\(wr.heap.size<=V.heap.size/\Shut (w.heap.size+2) wr.heap.size ds V))
   (eG (tW.own (fun k:Nat=>aA (mG P t k)) (by omega)) PC)
   ⟨hL3,ak _,o7.o⟩
   (fun k=> {tmps:= #[.slice (some ⟨G,0,none⟩) n c,.int .u32 (Za:Nat),.pointer (some ⟨w.heap.size,0,none⟩),.pointer (some ⟨w.heap.size+1,0,none⟩),.int .u32 0,.int .i64 (k:Nat),.slice (some ⟨G,0,none⟩) n c,.int .i64 (n:Nat),.int .i64 (r:Nat),.bool true,.int .u32 (aA t:Nat),.func (.func 144) #[.int .u32 (aA t:Nat)] #[],.int .i64 (k:Nat),undef,undef,undef,undef,undef,undef,EZ,undef],defers:=[]}) ?assign ?body ?skip ?done
  case assign=>
   intro l k W K hK;gi_wp2
   exact hK
  case body=>
   rintro l k V hk hm ⟨h0,ux,nU⟩;have hkn:=ht k hm;have k0:=h0.1.cell;have kG:=vG.o V k h0.2.2 hkn;have hOR:=HOr.o k;have HYk:=hid (JX.o k hm);have ks:=h0.2.1.cell;have fs:=h0.2.1.frozen;generalize hm1:aA (mG P t k++P.getD k [])=m1 at *;have Et:=hid hm1;clear hm1;generalize aA (mG P t k)=m0 at *;generalize aA (P.getD k [])=mu at *;generalize aA t=mt at *;gi_wp2_with fail
   refine wC (fun u=>u.cell? ⟨w.heap.size,0,none⟩=some (.slice (some ⟨G,0,none⟩) n c)/\u.cell? ⟨G,k,none⟩=some (.int .u32 (mu:Nat))) (by kernel_rfl) (by kernel_rfl) (fun ⟨_,_,h⟩=>h) ⟨k0,kG⟩ ?_;intro ah;have hD:KeepsOthers V V.drew:=ym V;have q0:tW w G n c m0 V.drew:=⟨h0.1,h0.2.1,h0.2.2.drew⟩;have qS:Shut (w.heap.size+2) wr.heap.size ds V.drew:=nU.keep fun _ _=>rfl;have qz:wr.heap.size<=V.drew.heap.size:=ux;have ks2:V.drew.cell? ⟨w.heap.size+1,0,none⟩=some (.int .u32 (m0:Nat)):=ks;have fs2:V.drew.frozen? ⟨w.heap.size+1,0,none⟩=false:=fs;clear k0 kG ks fs h0 nU ux hL3;generalize V.drew=U0 at *;refine ar 1 (.slice (some ⟨G,0,none⟩) n c) ?_;refine ar 2 (.int .i64 (k:Nat)) ?_;refine ar 3 (.pointer (some ⟨G,k,none⟩)) ?_;refine ar 4 (.int .u32 (mu:Nat)) ?_;refine aI [0] (cA ?_ aH);intro K' hK';go_simp;refine hK'.o _ _ ah (fun ag=>?_);clear hK' K' ag;refine ar 5 (.int .u32 (m1:Nat)) ?_;refine aI [6] (cA ?_ aH);intro K' hK';go_simp;refine hK'.o _ _ ⟨(iG q0.1 (w.heap.size+1) 0 _ (by omega)).cell,(dX _ _ _ _ (fun e=>(show ¬w.heap.size+1=G by omega) (dt Addr.block e))).trans ah.2⟩ (fun _=>dW (by kernel_rfl) ?_ _);clear hK' K' ah;gi_wp2
   exact⟨(hD.trans (ji U0 _ _)).from _,⟨iG q0.1 (w.heap.size+1) 0 _ (by omega),by rw[HYk.o,Et.o];exact q0.2.1.set _,q0.2.2.setCell (p:=⟨w.heap.size+1,0,none⟩) (by simp) _⟩,by simpa using qz,qS.putAt (by omega) _⟩
  case skip=>
   rintro k V hk hm h;rw[GH.o k hm];exact h
  case done=>
   rintro D V hD ⟨h0,ux,nU⟩ hK;rw[hSr] at h0;have ze:D<V.heap.size:=(cV.1 hK).1;have Eh:Hid (Shut (w.heap.size+2) V.heap.size ({target:=.collected D,args:= #[]}::ds) V):=⟨D,by omega,ze,rfl,hK,nU.ae hD⟩;have Ks:=hid h0;clear h0 nU hK;gi_wp2
   refine⟨⟨r+1,_,_,_,_,_,rfl,by omega,Ks,Eh⟩,?_⟩;simp[intOf];omega
 ·obtain rfl:r=n:=by omega
  have kc:=kW.o.2.1.cell;gi_wp2
  refine CS (lo:=w.heap.size+2) (K:=tW w G r c (aA (ab r))) (tW.shut (by omega)) (fun Z hZ=>⟨_,x6 rfl _ _ _,by rw[tV.o];rfl,hZ.2.2⟩) _ wr.heap.size wr o7.o kW.o
end
def AbR (L:List (List Int)) (l:List Int) (e:Ending) (w':World):Prop:=
 (bh L≠0/\e=.returned (.tuple #[.slice none 0 0,.int .i64 (bh L)]))∨
 (bh L=0/\dZ l L.length=false/\e=.returned (.tuple #[.slice none 0 0,.int .i64 11]))∨
 (bh L=0/\dZ l L.length=true/\∃d cd,e=.returned (.tuple #[.slice d (fL (cZ (aG L) (af l) L.length)).length cd,.int .i64 0])/\aC w' d (fL (cZ (aG L) (af l) L.length)))
theorem tF (h:bh L=0):gB L=true:=by
 rw[bh] at h;by_cases e:gB L=true
 ·exact e
 ·rw[aD e] at h;exact absurd h (by decide)
theorem ajZ (a b:Option Addr) (ca cb:Nat) (L:List (List Int)) (l:List Int) (w:World) (h:dT w a L) (hl:∀l∈L,l.length<=140737488355328) (hb:aC w b l) (dJ:l.length<=140737488355328):
  Calls Tryz.prog 78 #[.slice a L.length ca,.slice b l.length cb] w fun e w'=>AbR L l e w'/\Below w.heap.size w w':=by
 have HR:=hid (M4 a ca L w h hl);have HB:=hid hb;have qX:=hid (fun (U:World) (hU:aC U b l) (hn:L.length<=8)=>WN b cb l L.length U hU dJ hn)
 have tV:Hid (bh L=0 ->dZ l L.length=true ->∀(G c:Nat) (U:World),bW U G (gM L) ->Calls Tryz.prog 127 #[.slice (some ⟨G,0,none⟩) L.length c,.int .u32 (aA (af l):Nat)] U fun e w'=>e=.returned (.int .u32 (aA (cZ (aG L) (af l) L.length):Nat))/\Below U.heap.size U w'):=fun hg hr G c U hU=>by
  rw[CQ] at hU;have hgb:=tF hg
  exact acr G L.length c (aG L) (af l) U (iX L) (ng hgb).2.1 hU (Fk hgb) (fun u hu=>by
   obtain⟨x,hx,rfl⟩:=aU.1 hu;obtain⟨j,hj,rfl⟩:=jg hx;have:=(kK hr).each j hj;omega)
 have zP:Hid (bh L=0 ->dZ l L.length=true ->∀U:World,Calls Tryz.prog 135 #[.int .u32 (aA (cZ (aG L) (af l) L.length):Nat)] U fun e w'=>∃v,e=.returned v/\bD w' U.heap.size v (iL (bw (cZ (aG L) (af l) L.length) 8))/\Below U.heap.size U w'):=fun hg hr U=>Zg _ U (fun u hu=>by
  have hgb:=tF hg;have h8:=(ng hgb).2.1
  have:=Gg (n:=L.length) (P:=aG L) (s:=af l) (fun v u hu=>(Fw hgb).at v u hu) (fun u hu=>by
   obtain⟨x,hx,rfl⟩:=aU.1 hu;obtain⟨j,hj,rfl⟩:=jg hx;have:=(kK hr).each j hj;omega) L.length u hu
  omega)
 have kA:Hid (dZ l L.length=true ->setA l L.length=aA (af l)):=WO;clear h hl hb;go_enter Tryz.func78,Tryz.ntmps78;go_wp2_with fail
 refine HR.o.ae ?_;rintro e w1 ⟨hb1,⟨hg,G,rfl,hG,hU⟩ |⟨hg,rfl⟩⟩
 ·have h8:=(ng (tF hg)).2.1;have HS:=hid (qX.o w1 (HB.o.aa hb1) h8);have HU:=hid hU;have cP:=hid hb1;have sH:=hid hg;clear hU hb1 qX hg;cases hr:dZ l L.length with
  |false=>
   rw[hr] at HS;have Kg:=hid hr;clear hr tV zP kA;generalize setA l L.length=sa at *;go_wp2_with fail
   refine HS.o.ae ?_;rintro e w2 ⟨rfl,hw2⟩;subst hw2;go_wp2;go_ret2;exact⟨.inr (.inl ⟨sH.o,Kg.o,rfl⟩),cP.o⟩
  |true=>
   rw[hr,kA.o hr] at HS;have HRT:=hid hr;have HA:=hid (tV.o sH.o hr G L.length);have HL:=hid (zP.o sH.o hr);clear hr tV zP kA;generalize hab:cZ (aG L) (af l) L.length=ab at *;have ac1:=hid hab;clear hab;generalize aA (af l)=m0 at *;go_wp2_with fail
   refine HS.o.ae ?_;rintro e w2 ⟨rfl,hw2⟩;subst hw2;go_wp2_with fail
   refine(HA.o _ HU.o).ae ?_;rintro e w3 ⟨rfl,hb3⟩;have fA:=hid (cP.o.trans (hb3.ae cP.o.size));clear hb3;go_wp2_with fail
   refine(HL.o _).ae ?_;rintro e w4 ⟨v,rfl,hv,hb4⟩;obtain⟨d,cd,rfl,hI⟩:=hv.ints;have HI:=hid hI;have ir:=hid (fA.o.trans (hb4.ae fA.o.size));clear hv hI hb4;go_wp2;go_ret2;exact⟨.inr (.inr ⟨sH.o,HRT.o,d,cd,by rw[ac1.o];rfl,by rw[ac1.o];exact HI.o⟩),ir.o⟩
 ·have Ku:=hid hg;have cP:=hid hb1;have hgb:(bh L==0)=false:=by simpa using hg
  clear hg hb1 tV zP kA qX;generalize hge:bh L=ge at *;have Kv:=hid hge;clear hge;go_wp2;go_ret2;exact⟨.inl ⟨by rw[Kv.o];exact Ku.o,by rw[Kv.o];rfl⟩,cP.o⟩
section
attribute [local go_sem] Oper.semAt_some
variable {o':Obj}
def gZ (P:List (List Nat)) (v:Nat):List Nat:=v::P.getD v []
def ik (P:List (List Nat)) (u:Nat):Nat ->List Nat
 |0=>[]
 |v+1=>if u∈gZ P v then ik P u v++(gZ P v).filter (fun x=>decide (x≠u)) else ik P u v
def kf (P:List (List Nat)) (n v k:Nat):List (List Nat):=(List.range n).map fun u=>if u<k/\u∈gZ P v then ik P u v++(gZ P v).filter (fun x=>decide (x≠u)) else ik P u v
def lB (P:List (List Nat)) (n v:Nat):List (List Nat):=(List.range n).map fun u=>ik P u v
theorem ahz (P:List (List Nat)) (n v:Nat):kf P n v 0=lB P n v:=by simp[kf,lB]
theorem ahE (h:n<=8):kf P n v 8=lB P n (v+1):=by
 apply vT;intro u hu;have:=ck.1 hu;rw[ik];by_cases h1:u∈gZ P v
 ·rw[aB ⟨by omega,h1⟩,aB h1]
 ·rw[aD (fun e=>h1 e.2),aD h1]
theorem ahA (hm:k∈gZ P v):kf P n v (k+1)=(kf P n v k).set k (ik P k v++(gZ P v).filter (fun x=>decide (x≠k))):=by
 apply rC (by simp[kf]);intro i h1 h2;rw[List.getElem_set];simp only[kf,nE,Hd];by_cases h:k=i
 ·subst h;rw[aB ⟨by omega,hm⟩,aB rfl]
 ·rw[aD h];have e:(i<k+1/\i∈gZ P v)↔(i<k/\i∈gZ P v):=⟨fun ⟨a,b⟩=>⟨by omega,b⟩,fun ⟨a,b⟩=>⟨by omega,b⟩⟩;simp only[e]
theorem ahB (hm:¬k∈gZ P v):kf P n v (k+1)=kf P n v k:=by
 apply vT;intro i hi;have e:(i<k+1/\i∈gZ P v)↔(i<k/\i∈gZ P v):=⟨fun ⟨a,b⟩=>⟨by rcases cM i k with h |h;exact h;exact absurd (show i=k by omega) (fun e=>hm (e▸b)),b⟩,fun ⟨a,b⟩=>⟨by omega,b⟩⟩;simp only[e]
theorem ahD (hu:u<n) (h:¬u<k):(kf P n v k)[u]? =some (ik P u v):=by
 simp[kf,hu,h]
theorem ahC (P:List (List Nat)) (n v k:Nat):(kf P n v k).length=n:=by simp[kf]
theorem YS (P:List (List Nat)) (n v:Nat):(lB P n v).length=n:=by simp[lB]
theorem Nd (hP:∀v,∀u∈P.getD v [],u<n) (hv:v<n):∀u∈gZ P v,u<n:=fun u hu=>by
 rcases cT.1 hu with rfl |h
 ·exact hv
 ·exact hP v u h
theorem LW (hP:∀v,∀u∈P.getD v [],u<n) (u:Nat):∀v,v<=n ->∀x∈ik P u v,x<n
 |0,_,x,hx=>by simp[ik] at hx
 |v+1,hv,x,hx=>by
  rw[ik] at hx;by_cases h:u∈gZ P v
  ·rw[aB h] at hx;rcases bL.1 hx with h2 |h2
   ·exact LW hP u v (by omega) x h2
   ·exact Nd hP (by omega) x (cJ.1 h2).1
  ·rw[aD h] at hx;exact LW hP u v (by omega) x hx
theorem ab1 {W:World} {r:Nat} {p:Addr} {o:Obj} (h:W.cell? p=some x) (ho:W.heap[r]? =some o) (hc:o.isCells=false):(W.putObj r o').cell? p=some x:=by
 have hne:p.block≠r:=fun e=>by
  rw[World.cell?,e,ho] at h;cases o<;>simp_all [Obj.isCells]
 rw[<- h];exact l5 (tX hne)
theorem aC.putObj {W:World} {r:Nat} {d:Option Addr} {o:Obj} (h:aC W d l) (ho:W.heap[r]? =some o) (hc:o.isCells=false):aC (W.putObj r o') d l:=fun k hk=>by
 obtain⟨g,q,h1,h2,h3⟩:=h k hk;exact⟨g,q,h1,by simpa using h2,ab1 h3 ho hc⟩
theorem dT.putObj {W:World} {r:Nat} {o:Obj} (h:dT W a L) (ho:W.heap[r]? =some o) (hc:o.isCells=false):dT (W.putObj r o') a L:=fun k hk=>by
 obtain⟨g,q,b,c,h1,h2,h3,h4⟩:=h k hk;exact⟨g,q,b,c,h1,by simpa using h2,ab1 h3 ho hc,h4.putObj ho hc⟩
def xw (w:World) (R n:Nat) (l:List Nat) (W:World):Prop:=bW W R l/\Boxed W (R+1) 109 (.slice (some ⟨R,0,none⟩) n n)/\Below R w W
theorem xw.own {β:Type} {R B:Nat} (f:β ->List Nat) (hB:R<=B) (hw:R<=w.heap.size):OwnFrom B (fun (s:β) W=>xw w R n (f s) W):=
 eG (fB (Li _ f) _) (eG (fB (iH _ _ (fun _=>_)) _) (fun _ _ _ _ hs hg hr=>hs.grown hg (aM hw hs.size) (fun k e=>aM hB (hr k e).1)))
theorem xw.aa {W:World} {R:Nat} {l:List Nat} (h:xw w R n l W) (hb:Below W.heap.size W W'):xw w R n l W':=⟨h.1.aa hb h.1.lt,uY h.2.1 hb h.2.1.lt,h.2.2.trans (hb.ae (vP h.1.lt))⟩
def MoR (L:List (List Int)) (e:Ending) (w':World):Prop:=
 (bh L≠0/\e=.returned (.tuple #[.slice none 0 0,.int .i64 (bh L)]))∨
 (bh L=0/\∃G,e=.returned (.tuple #[.slice (some ⟨G,0,none⟩) L.length L.length,.int .i64 0])/\dT w' (some ⟨G,0,none⟩) ((lB (aG L) L.length L.length).map fL))
theorem ajS (a:Option Addr) (ca:Nat) (L:List (List Int)) (w:World) (h:dT w a L) (hl:∀l∈L,l.length<=140737488355328):
  Calls Tryz.prog 93 #[.slice a L.length ca] w fun e w'=>MoR L e w'/\Below w.heap.size w w':=by
 refine(fZ (n:=6)).1 ?_;obtain⟨i0,bS,hz0,hz1,hz2⟩:=dK Tryz.infoSet;have HR:=hid (M4 a ca L w h hl);have hn:(aG L).length=L.length:=iX L;have Gy:Hid (bh L=0 ->∀v,∀u∈(aG L).getD v [],u<L.length):=fun hg v u hu=>(Fw (tF hg)).at v u hu;have Ca:Hid (bh L=0 ->L.length<=8):=fun hg=>(ng (tF hg)).2.1;have Er:Hid (gM L=(aG L).map aA):=CQ L;have HMR:Hid (∀e w',MoR L e w'=((bh L≠0/\e=.returned (.tuple #[.slice none 0 0,.int .i64 (bh L)]))∨(bh L=0/\∃G,e=.returned (.tuple #[.slice (some ⟨G,0,none⟩) L.length L.length,.int .i64 0])/\dT w' (some ⟨G,0,none⟩) ((lB (aG L) L.length L.length).map fL)))):=fun _ _=>rfl;generalize aG L=P at *;clear h hl;by_cases hg:bh L=0
 case neg=>
  have Ku:=hid hg;have hgb:(bh L==0)=false:=by simpa using hg
  refine rq Tryz.func93 rfl trivial ?_ rfl;simp only[Tryz.ntmps93,k9,di,jG,Nat.reduceAdd,Nat.reduceSub,lh,lg,ld,kF,gi,eC];gi_wp2_with (refine⟨trivial,?_⟩;gi_at_call 72;refine(fZ.2 HR.o).ae ?_;rintro e w1 ⟨hb1,tk⟩;obtain rfl:=(tk.resolve_left fun h=>hg h.1).2)
  exact⟨_,results_tmp2 rfl _ _ _,.inl ⟨Ku.o,rfl⟩,hb1⟩
 case pos=>
  have h8:=Ca.o hg;have hmk:=fun V=>run_make_row' (P:=Tryz.prog) 109 115 (.int .u32 0) 4 Tryz.underlying109 Tryz.infoSet rfl .i64 .i64 L.length (by omega) (by omega) V;refine rq Tryz.func93 rfl trivial ?_ rfl;simp only[Tryz.ntmps93,k9,di,jG,Nat.reduceAdd,Nat.reduceSub,lh,lg,ld,kF,gi,eC];gi_wp2_with (refine⟨trivial,?_⟩;gi_at_call 72;refine(fZ.2 HR.o).ae ?_;rintro e w1 ⟨hb1,tk⟩;obtain⟨-,G,rfl,hG,hU⟩:=tk.resolve_right fun h=>h.1 hg)
  clear hmk;have rT:=Gy.o hg;rw[Er.o] at hU;have MP:=hU.lt;have sH:=hid hg;have cP:=hid hb1
  have vG:Hid (∀(V:World) (v:Nat),Below w1.heap.size w1 V ->v<L.length ->V.cell? ⟨G,v,none⟩=some (.int .u32 (aA (P.getD v []):Nat))):=fun V v hB hv=>by
   have:=(hU.aa hB MP).cell v (by rw[cH];omega);rwa [AD (by omega)] at this
  have HFS:Hid (∀v,v<L.length ->∀u∈gZ P v,u<L.length):=fun v hv=>Nd rT hv;have Ef:=hid (fun (v:Nat) (hv:v<L.length) (U:World)=>Fc (P.getD v []) v U (fun u hu=>by have:=rT v u hu;omega) (by omega));have HFM:Hid (∀v,v::P.getD v []=gZ P v):=fun v=>rfl;have kT:=hid (fun (v:Nat) (hv:v<L.length) (u:Nat) (hu:u<8) (U:World)=>H4 (gZ P v) u U (fun x hx=>by have:=Nd rT hv x hx;omega) hu);have Km:=hid (fun (v u:Nat) (hv:v<L.length)=>Nt (ik P u v) ((gZ P v).filter fun x=>decide (x≠u)) (fun x hx=>by have:=LW rT u v (by omega) x hx;omega) (JA (fun x hx=>by have:=Nd rT hv x hx;omega) _))
  have EC:Hid (∀(V:World) (g v k u:Nat),u<L.length ->¬u< k ->bW V g ((kf P L.length v k).map aA) ->V.cell? ⟨g,u,none⟩=some (.int .u32 (aA (ik P u v):Nat))/\V.frozen? ⟨g,u,none⟩=false):=fun V g v k u hu hne hR=>by
   (have h1:u<(kf P L.length v k).length:=by rw[ahC];exact hu);have h2:=hR.cell u (by rw[cH];exact h1);obtain⟨h3,h4⟩:=nG.1 (ahD (P:=P) (v:=v) hu hne);rw[nE,h4] at h2;exact⟨h2,hR.fz u⟩
  have jV:Hid (∀(V:World) (g v k:Nat),k∈gZ P v ->bW V g ((kf P L.length v k).map aA) ->bW (V.setCell ⟨g,k,none⟩ (.int .u32 (aA (ik P k v++(gZ P v).filter (fun x=>decide (x≠k))):Nat))) g ((kf P L.length v (k+1)).map aA)):=fun V g v k hm hR=>by
   have:=hR.set k (aA (ik P k v++(gZ P v).filter (fun x=>decide (x≠k))));rwa [ahA hm,Cy]
  have jB:Hid (∀v k,¬k∈gZ P v ->kf P L.length v (k+1)=kf P L.length v k):=fun v k h=>ahB h;have HZ:=hid (fun v=>ahz P L.length v);have HA:=hid (fun v=>ahE (P:=P) (v:=v) h8)
  have hz:(lB P L.length 0).map aA=List.replicate L.length 0:=by
   apply rC (by simp[lB]);intro i h1 h2;simp[lB,ik,aA]
  have ow:Hid (∀(R:Nat) (U:World),bW U R ((lB P L.length L.length).map aA) ->Calls Tryz.prog 146 #[.slice (some ⟨R,0,none⟩) L.length L.length] U fun e w'=>∃G,e=.returned (.slice (some ⟨G,0,none⟩) L.length L.length)/\U.heap.size<=G/\dT w' (some ⟨G,0,none⟩) ((lB P L.length L.length).map fL)/\Below U.heap.size U w'):=fun R U hR=>by
   have:=Zf (some ⟨R,0,none⟩) L.length (lB P L.length L.length) U (fun p hp u hu=>by
    obtain⟨x,_,rfl⟩:=aU.1 hp;have:=LW rT x L.length (ak _) u hu
    omega) (by rw[YS];omega) (fun k hk=>⟨R,0,rfl,hR.lt,by
     have:=hR.cell k (by rw[cH];exact hk);rw[bI,this,nE]⟩)
   rwa [YS] at this
  clear hU hg hb1 Gy Ca Er rT HR;generalize L.length=n at *;obtain⟨W2,hW2⟩:∃W2,W2=(w1.alloc (.cells (madeCells #[.int .u32 0] n) 115)).alloc (.cells #[.slice (some ⟨w1.heap.size,0,none⟩) n n] 109):=⟨_,rfl⟩
  have hL2:xw w1 w1.heap.size n ((lB P n 0).map aA) W2:=by
   rw[hW2,hz];refine⟨?_,?_,((aw _ w1).alloc (ak _) _).alloc (by simp) _⟩
   ·have h:=fP w1 (.cells (madeCells #[.int .u32 0] n) 115)
    have e:(madeCells #[.int .u32 0] n).toList=(List.replicate n (0:Nat)).map uv:=by
     have:=Qx n;rwa [oF] at this
    (have e2:madeCells #[Value.int .u32 0] n=((List.replicate n (0:Nat)).map uv).toArray:=by rw[<- e]);rw[bW,qg _ _ _ (by simp),h,e2]
   ·have h:=aZ (w1.alloc (.cells (madeCells #[.int .u32 0] n) 115)) 109 (.slice (some ⟨w1.heap.size,0,none⟩) n n);rwa [dE] at h
  rw[<- hW2];have hs2:W2.heap.size=w1.heap.size+2:=by rw[hW2];simp
  have mN:=hid hL2;clear hW2 hL2 hz;refine wpIn_loop (fun a' w'=>∃(v:Nat) (ds:List Deferred) (u7 u8 u24 Hq u26 Hp u28 yw Ho Hn u32 EY:Value),a'= {tmps:= #[.slice a n ca,undef,.slice none 0 0,.int .i64 0,.slice (some ⟨G,0,none⟩) n n,.int .i64 0,.pointer (some ⟨w1.heap.size+1,0,none⟩),u7,u8,undef,.tuple #[.slice (some ⟨G,0,none⟩) n n,.int .i64 0],.slice a n ca,.tuple #[.slice (some ⟨G,0,none⟩) n n,.int .i64 0],.slice (some ⟨G,0,none⟩) n n,.int .i64 0,.int .i64 0,.bool false,undef,.slice (some ⟨G,0,none⟩) n n,.int .i64 (n:Nat),.slice (some ⟨w1.heap.size,0,none⟩) n n,.slice (some ⟨G,0,none⟩) n n,.int .i64 (n:Nat),.int .i64 (v:Nat),u24,Hq,u26,Hp,u28,yw,Ho,Hn,u32,undef,undef,undef,undef,undef,undef,undef,undef,undef,undef,EY,undef,undef],defers:=ds}/\v<=n/\Hid (xw w1 w1.heap.size n ((lB P n v).map aA) w')/\Hid (Shut (w1.heap.size+2) w'.heap.size ds w')) (fun a' _=>n - (intOf (a'.tmps.getD 23 undef)).toNat) ?_ ?_
  ·exact⟨0,[],_,_,_,_,_,_,_,_,_,_,_,_,rfl,aX _,mN,trivial⟩
  intro a' wr hinv;obtain⟨v,ds,u7,u8,u24,Hq,u26,Hp,u28,yw,Ho,Hn,u32,EY,rfl,hv,kW,o7⟩:=hinv;clear mN;by_cases hlt:v<n
  ·have kv:=vG.o wr v kW.o.2.2 hlt;have hs:=HFS.o v hlt;(have FH:∀u∈gZ P v,u<8:=fun u hu=>by have:=hs u hu;omega);have acA:=hid (Ef.o v hlt);rw[HFM.o v] at acA;have amq:=hid (kT.o v hlt);have amH:=hid (fun u=>Km.o v u hlt);have U3:=hid (fun V g k u=>EC.o V g v k u);have T9:=hid (fun V g k=>jV.o V g v k);have Us:=hid (fun k=>jB.o v k);have Sa:=HZ.o v;have SG:=HA.o v;have cY:w1.heap.size+1<wr.heap.size:=kW.o.2.1.lt;generalize aA (P.getD v [])=mp at *;generalize gZ P v=fm at *;gi_wp2_with (refine⟨trivial,?_⟩;gi_at_call 143;refine(fZ.2 (acA.o _)).ae ?_;rintro e w4 ⟨rfl,hw4⟩;subst hw4)
   obtain⟨W3,hW3⟩:∃W3,W3=wr.alloc (.cells #[.int .u32 (aA fm:Nat)] 115):=⟨_,rfl⟩;(have b8:Boxed W3 wr.heap.size 115 (.int .u32 (aA fm:Nat)):=by rw[hW3];exact aZ wr _ _);(have hb3:Below wr.heap.size wr W3:=by rw[hW3];exact(aw _ wr).alloc (ak _) _);(have hs3:W3.heap.size=wr.heap.size+1:=by rw[hW3];simp);rw[<- hW3];have hL3:=kW.o.aa hb3;have Jg:=(o7.o.aa hb3).ae (show wr.heap.size<=W3.heap.size by omega);rw[<- Sa] at hL3;clear hW3 kv kW o7
   refine Am (by omega) fm FH rfl rfl
    (fun k V=>xw w1 w1.heap.size n ((kf P n v k).map aA) V/\Boxed V wr.heap.size 115 (.int .u32 (aA fm:Nat))/\(W3.heap.size<=V.heap.size/\Shut (w1.heap.size+2) W3.heap.size ds V))
    (eG (xw.own (fun k:Nat=>(kf P n v k).map aA) (by omega) (ak _)) (eG (fB (iH _ _ (fun _=>_)) _) PC))
    ⟨hL3,b8,ak _,Jg⟩
    (fun k=> {tmps:= #[.slice a n ca,undef,.slice none 0 0,.int .i64 0,.slice (some ⟨G,0,none⟩) n n,.int .i64 0,.pointer (some ⟨w1.heap.size+1,0,none⟩),.int .i64 (v:Nat),.pointer (some ⟨wr.heap.size,0,none⟩),.int .i64 (k:Nat),.tuple #[.slice (some ⟨G,0,none⟩) n n,.int .i64 0],.slice a n ca,.tuple #[.slice (some ⟨G,0,none⟩) n n,.int .i64 0],.slice (some ⟨G,0,none⟩) n n,.int .i64 0,.int .i64 0,.bool false,undef,.slice (some ⟨G,0,none⟩) n n,.int .i64 (n:Nat),.slice (some ⟨w1.heap.size,0,none⟩) n n,.slice (some ⟨G,0,none⟩) n n,.int .i64 (n:Nat),.int .i64 (v:Nat),.bool true,.int .i64 (v:Nat),.pointer (some ⟨G,v,none⟩),.int .u32 (mp:Nat),.int .u32 (mp:Nat),.int .i64 (v:Nat),.int .u32 (aA fm:Nat),.int .u32 (aA fm:Nat),.func (.func 144) #[.int .u32 (aA fm:Nat)] #[],.int .i64 (k:Nat),undef,undef,undef,undef,undef,undef,undef,undef,undef,EY,undef,undef],defers:=[]}) ?assign ?body ?skip ?done
   case assign=>
    intro l k W K hK;gi_wp2
    exact hK
   case body=>
    rintro l k V hk hm ⟨h0,h4,ux,nU⟩;have hkn:=hs k hm;have k1:=h0.2.1.cell;have k4:=h4.cell;obtain⟨kU,fU⟩:=U3.o V w1.heap.size k k hkn (by omega) h0.1;have Ee:=hid (amq.o k hk);have hOR:=amH.o k;have qY:=hid (fun W hW=>T9.o W w1.heap.size k hm hW);generalize aA (ik P k v++fm.filter (fun x=>decide (x≠k)))=m1 at *;generalize aA (fm.filter fun x=>decide (x≠k))=m2 at *;generalize aA (ik P k v)=m0 at *;generalize aA fm=mf at *;gi_wp2_with fail
    refine wC (fun u=>u.cell? ⟨w1.heap.size+1,0,none⟩=some (.slice (some ⟨w1.heap.size,0,none⟩) n n)/\u.cell? ⟨wr.heap.size,0,none⟩=some (.int .u32 (mf:Nat))) (by kernel_rfl) (by kernel_rfl) (fun ⟨_,_,h⟩=>h) ⟨k1,k4⟩ ?_;intro ah;have hD:KeepsOthers V V.drew:=ym V;have q0:xw w1 w1.heap.size n ((kf P n v k).map aA) V.drew:=⟨h0.1,h0.2.1,h0.2.2.drew⟩;have q4:Boxed V.drew wr.heap.size 115 (.int .u32 (mf:Nat)):=h4;have qS:Shut (w1.heap.size+2) W3.heap.size ds V.drew:=nU.keep fun _ _=>rfl;have qz:W3.heap.size<=V.drew.heap.size:=ux;have kU2:V.drew.cell? ⟨w1.heap.size,k,none⟩=some (.int .u32 (m0:Nat)):=kU;have fU2:V.drew.frozen? ⟨w1.heap.size,k,none⟩=false:=fU;clear k1 k4 kU fU h0 h4 nU ux b8 hb3 hL3 Jg;generalize V.drew=U0 at *;refine ar 0 (.slice (some ⟨w1.heap.size,0,none⟩) n n) ?_;refine ar 1 (.int .i64 (k:Nat)) ?_;refine ar 2 (.pointer (some ⟨w1.heap.size,k,none⟩)) ?_;refine ar 4 (.int .u32 (mf:Nat)) ?_;refine ar 5 (.int .i64 (k:Nat)) ?_;refine aI [3,6] (cA ?_ (cA ?_ aH))
    focus
     intro K' hK';go_simp;refine hK'.o _ _ ah (fun ag=>?_);clear hK' K' ag;refine aI [6] (cA ?_ aH);intro K' hK';go_simp;refine(Ee.o _).ae ?_;rintro e U1 ⟨rfl,eQ⟩;subst eQ;refine hK'.o _ _ ah (fun ag=>?_);clear hK' K' ag;generalize U1=U0 at *
    rotate_left
    focus
     intro K' hK';go_simp;refine(Ee.o _).ae ?_;rintro e U1 ⟨rfl,eQ⟩;subst eQ;refine hK'.o _ _ ah (fun ag=>?_);clear hK' K' ag;generalize U1=U0 at *;refine aI [3] (cA ?_ aH);intro K' hK';go_simp;refine hK'.o _ _ ah (fun ag=>?_);clear hK' K' ag
    all_goals
     refine ar 7 (.int .u32 (m1:Nat)) ?_;refine ar 8 (.pointer (some ⟨w1.heap.size,k,none⟩)) ?_;refine aI [9] (cA ?_ aH);intro K' hK';go_simp;refine hK'.o _ _ ⟨(iG q0.2.1 w1.heap.size k _ (by omega)).cell,(iG q4 w1.heap.size k _ (by omega)).cell⟩ (fun _=>dW (by kernel_rfl) ?_ _);clear hK' K' ah;gi_wp2
     exact⟨(hD.trans (ji U0 _ _)).from _,⟨qY.o U0 q0.1,iG q0.2.1 w1.heap.size k _ (by omega),q0.2.2.setCell (p:=⟨w1.heap.size,k,none⟩) (ak _) _⟩,iG q4 w1.heap.size k _ (by omega),by simpa using qz,qS.putAt (by omega) _⟩
   case skip=>
    rintro k V hk hm h;rw[Us.o k hm];exact h
   case done=>
    rintro D V hD ⟨h0,h4,ux,nU⟩ hK;rw[SG] at h0;have ze:D<V.heap.size:=(cV.1 hK).1;have Eh:Hid (Shut (w1.heap.size+2) V.heap.size ({target:=.collected D,args:= #[]}::ds) V):=⟨D,by omega,ze,rfl,hK,nU.ae hD⟩;have Ks:=hid h0;clear h0 h4 nU hK;gi_wp2
    refine⟨⟨v+1,_,_,_,_,_,_,_,_,_,_,_,_,_,rfl,by omega,Ks,Eh⟩,?_⟩;simp[intOf];omega
  ·obtain rfl:v=n:=by omega
   have kc:=kW.o.2.1.cell;have HLq:=hid (ow.o w1.heap.size wr kW.o.1);have cY:w1.heap.size+1<wr.heap.size:=kW.o.2.1.lt;gi_wp2_with (refine⟨trivial,?_⟩;gi_at_call 146;refine(fZ.2 HLq.o).ae ?_;rintro e w5 ⟨G5,rfl,hG5,hL5,hb5⟩)
   have DX:Below w.heap.size w w5:=(cP.o.trans (kW.o.2.2.ae cP.o.size)).trans (hb5.ae (aM cP.o.size (vP (Nat.lt_trans (Nat.lt_succ_self _) cY))));refine CS (lo:=w1.heap.size+2) (K:=fun W=>dT W (some ⟨G5,0,none⟩) ((lB P v v).map fL)/\Below w.heap.size w W) ?_ ?_ _ wr.heap.size w5 (o7.o.aa hb5) ⟨hL5,DX⟩
   ·rintro W r ⟨hL,hB⟩ hr hd;exact⟨hL.putObj hd rfl,hB.trans (sK (w:=w) (ak _) W r _ _ (by have:=cP.o.size;omega) hd rfl rfl)⟩
   ·rintro Z ⟨hL,hB⟩;refine⟨_,results_tmp2 rfl _ _ _,?_,hB⟩;rw[HMR.o];exact .inr ⟨sH.o,G5,rfl,hL⟩
end
theorem Qh (h:pF P (aW P k)=some v):¬v∈aW P k/\∀u∈P.getD v [],u∈aW P k:=by
 have:=List.find?_some h;rw[gY,fD,Bool.not_eq_true',KL,dQ] at this;exact this
theorem Qg (P:List (List Nat)):∀k,(aW P k).Nodup
 |0=>List.nodup_nil
 |k+1=>by
  rw[aW];cases e:pF P (aW P k) with
  |none=>exact Qg P k
  |some v=>
   refine ue.2 ⟨Qg P k,by simp,fun a ha b hb=>?_⟩;rw[eA.1 hb];exact fun e'=>(Qh e).1 (e'▸ha)
theorem Qf:∀k,v∈aW P k ->∃A B,aW P k=A++v::B/\¬v∈A/\∀u∈P.getD v [],u∈A
 |0,h=>by cases h
 |k+1,h=>by
  rw[aW] at h⊢;cases e:pF P (aW P k) with
  |none=>
   rw[e] at h;exact Qf k h
  |some w=>
   rw[e] at h;show ∃A B,aW P k++[w]=A++v::B/\_;rcases bL.1 h with h |h
   ·obtain⟨A,B,h1,h2,h3⟩:=Qf k h;exact⟨A,B++[w],by rw[h1];simp,h2,h3⟩
   ·obtain rfl:=eA.1 h;exact⟨aW P k,[],rfl,(Qh e).1,(Qh e).2⟩
def sP (P:List (List Nat)) (v:Nat):Nat:=(aW P P.length).idxOf v
theorem ae0 (hv:v∈aW P P.length) (hu:u∈P.getD v []):sP P u<sP P v:=by
 obtain⟨A,B,h1,h2,h3⟩:=Qf P.length hv;have hA:=h3 u hu;rw[sP,sP,h1,List.idxOf_append,List.idxOf_append,aB hA,aD h2,List.idxOf_cons_self,bI];exact List.idxOf_lt_length_of_mem hA
theorem xg (h:bh L=0):gB L=true/\∀v,v<L.length ->v∈aW (aG L) (aG L).length:=by
 have hg:=tF h;refine⟨hg,fun v hv=>?_⟩;rw[bh,aB hg] at h;have hl:¬(aW (aG L) L.length).length<L.length:=fun hc=>by rw[aB hc] at h;cases h
 rw[iX];refine CB fun hno=>?_
 have:=Fv (l:=v::aW (aG L) L.length) (m:=List.range L.length) (mR.2 ⟨hno,Qg _ _⟩) fun x hx=>by
  rcases cT.1 hx with rfl |hx
  ·exact ck.2 hv
  ·have:=CH (aG L) L.length x hx;rw[iX] at this;exact ck.2 this
 rw[di,Cz] at this;omega
theorem Fl (hg:gB L=true) (h:u∈(aG L).getD v []):u<L.length/\v<L.length:=by
 have hv:v<L.length:=by
  rcases cM v L.length with h1 |h1
  ·exact h1
  ·rw[b6,ig (by rw[iX];exact h1)] at h;cases h
 refine⟨?_,hv⟩;rw[b6,ba (by rw[iX];exact hv)] at h;exact Fk hg _ (bY _) u h
theorem H5 (h:bh L=0) (hu:u∈(aG L).getD v []):sP (aG L) u<sP (aG L) v:=
 ae0 ((xg h).2 v (Fl (xg h).1 hu).2) hu
theorem WV (h:bh L=0) (hv:v<L.length):sP (aG L) v<L.length:=by
 have h1:=List.idxOf_lt_length_of_mem ((xg h).2 v hv);have h2:=Fo (aG L) (aG L).length;rw[iX] at h2;rw[sP];rw[iX] at h1⊢;omega
theorem TH (h:bh L=0) (ha:dV (fun u v=>u∈(aG L).getD v []) u v):sP (aG L) u<sP (aG L) v:=by
 induction ha using dV.ind with
 |one hp=>exact H5 h hp
 |more _ hp ih=>exact Nat.lt_trans ih (H5 h hp)
theorem al4 (h:bh L=0) (v:Nat):¬dV (fun u v=>u∈(aG L).getD v []) v v:=fun ha=>Nat.lt_irrefl _ (TH h ha)
def Gi (P:List (List Nat)) (a:Nat):Nat ->Nat ->Bool
 |0,b=>decide (a=b)
 |f+1,b=>decide (a=b) ||(P.getD b []).any (Gi P a f)
theorem TK (h:bh L=0) (a:Nat):∀f b,sP (aG L) b<=f ->(Gi (aG L) a f b=true↔a=b∨dV (fun u v=>u∈(aG L).getD v []) a b)
 |0,b,hf=>by
  rw[Gi,dQ];refine⟨.inl,fun hh=>hh.elim id fun ha=>?_⟩;have:=TH h ha;omega
 |f+1,b,hf=>by
  rw[Gi,ET,dQ,Ai];constructor
  ·rintro(e |⟨c,hc,h1⟩)
   ·exact .inl e
   ·have:=H5 h hc;rcases (TK h a f c (by omega)).1 h1 with rfl |h2
    ·exact .inr (.one hc)
    ·exact .inr (.more h2 hc)
  ·rintro(e |ha)
   ·exact .inl e
   ·refine .inr ?_;rcases dV.last ha with hp |⟨v,h1,hp⟩
    ·exact⟨a,hp,by cases f<;>simp[Gi]⟩
    ·have:=H5 h hp;exact⟨v,hp,(TK h a f v (by omega)).2 (.inr h1)⟩
theorem TI:∀ {r:Nat} (d:Nat),u∈cZ P s r ->u∈cZ P s (r+d)
 |_,0,h=>h
 |r,d+1,h=>by
  show u∈mG P (cZ P s (r+d)) 8;exact yj _ (TI d h)
theorem al9 (h:bh L=0) (h8:L.length<=8):∀m j v,sP (aG L) v<=m ->v<L.length ->v∈cZ (aG L) s j ->∀a,dV (fun u v=>u∈(aG L).getD v []) a v ->a∈cZ (aG L) s (j+m):=fun m=>by
 induction m with
 |zero=>
  intro j v hm _ _ a ha;have:=TH h ha;omega
 |succ m ih=>
  intro j v hm hv hs a ha;have one:∀w,w∈(aG L).getD v [] ->w∈cZ (aG L) s (j+1):=fun w hw=>Cv _ (List.mem_flatMap.2 ⟨v,qu.2 ⟨by omega,hs⟩,hw⟩);rcases dV.last ha with hp |⟨w,h1,hp⟩
  ·rw[show j+(m+1)=(j+1)+m by omega];exact TI m (one a hp)
  ·have:=H5 h hp;rw[show j+(m+1)=(j+1)+m by omega];exact ih (j+1) w (by omega) (Fl (xg h).1 hp).1 (one w hp) a h1
theorem JP (h:bh L=0) (h8:L.length<=8) (hs:∀v∈s,v<L.length) (a:Nat):a∈cZ (aG L) s L.length↔∃b∈s,a=b∨dV (fun u v=>u∈(aG L).getD v []) a b:=by
 constructor
 ·have:∀r a,a∈cZ (aG L) s r ->∃b∈s,a=b∨dV (fun u v=>u∈(aG L).getD v []) a b:=fun r=>by
   induction r with
   |zero=>exact fun a ha=>⟨a,ha,.inl rfl⟩
   |succ r ih=>
    intro a ha;rcases bL.1 ha with ha |ha
    ·exact ih a ha
    ·obtain⟨v,hv,hp⟩:=List.mem_flatMap.1 ha;obtain⟨b,hb,h1⟩:=ih v (qu.1 hv).2;refine⟨b,hb,.inr ?_⟩;rcases h1 with rfl |h1
     ·exact .one hp
     ·clear hb;induction h1 using dV.ind with
      |one h2=>exact .more (.one hp) h2
      |more _ h2 QJ=>exact .more QJ h2
  exact this _ a
 ·rintro⟨b,hb,rfl |ha⟩
  ·have:=TI (P:=aG L) (s:=s) (r:=0) L.length hb;rwa [bI] at this
  ·have h1:=WV h (hs b hb);have:=al9 h h8 L.length 0 b (by omega) (hs b hb) hb a ha;rwa [bI] at this
def Qv (P:List (List Nat)) (n v u:Nat):Bool:=(decide (u∈P.getD v []) ||decide (v∈P.getD u [])) ||(List.range n).any fun w=>decide (u∈P.getD w [])&&decide (v∈P.getD w [])
theorem Ih {P:List (List Nat)} {u x:Nat}:∀ {n:Nat},x∈ik P u n↔x≠u/\∃v,v<n/\u∈gZ P v/\x∈gZ P v
 |0=>by simp[ik]
 |n+1=>by
  have ih:=Ih (P:=P) (u:=u) (x:=x) (n:=n);rw[ik];by_cases h:u∈gZ P n
  ·rw[aB h,bL,ih,cJ,dQ];constructor
   ·rintro(⟨a,v,b,c⟩ |⟨a,b⟩)
    ·exact⟨a,v,by omega,c⟩
    ·exact⟨b,n,by omega,h,a⟩
   ·rintro⟨a,v,b,c,d⟩;rcases cM v n with h1 |h1
    ·exact .inl ⟨a,v,h1,c,d⟩
    ·rw[show v=n by omega] at d;exact .inr ⟨d,a⟩
  ·rw[aD h,ih];refine and_congr_right fun _=>⟨fun ⟨v,a,b⟩=>⟨v,by omega,b⟩,fun ⟨v,a,b,c⟩=>⟨v,?_,b,c⟩⟩;rcases cM v n with h1 |h1
   ·exact h1
   ·rw[show v=n by omega] at b;exact absurd b h
theorem ahy (hu:u<n) (hv:v<n):u∈ik P v n↔(Qv P n v u&&decide (u≠v))=true:=by
 rw[Ih,fD,dQ,Qv,ET,ET,dQ,dQ,Ai];constructor
 ·rintro⟨hne,w,hw,h1,h2⟩;refine⟨?_,hne⟩;rcases cT.1 h1 with rfl |h1
  ·rcases cT.1 h2 with rfl |h2
   ·exact absurd rfl hne
   ·exact .inl (.inl h2)
  ·rcases cT.1 h2 with rfl |h2
   ·exact .inl (.inr h1)
   ·exact .inr ⟨w,ck.2 hw,by rw[bT h2,bT h1];rfl⟩
 ·rintro⟨(h1 |h1) |⟨w,hw,h1⟩,hne⟩
  ·exact⟨hne,v,hv,c5,dD _ h1⟩
  ·exact⟨hne,u,hu,dD _ h1,c5⟩
  ·rw[fD,dQ,dQ] at h1;exact⟨hne,w,ck.1 hw,dD _ h1.2,dD _ h1.1⟩
def YR (P:List (List Nat)) (n v u:Nat):List Nat:=(List.range u).filter fun u=>Qv P n v u&&decide (u≠v)
theorem ahx (hP:∀v,∀u∈P.getD v [],u<n/\v<n) (h8:n<=8) (hv:v<n):iL (YR P n v n)=fL (ik P v n):=by
 have hlt:∀x,x∈ik P v n ->x<n:=fun x hx=>by
  obtain⟨_,w,hw,_,h2⟩:=Ih.1 hx;rcases cT.1 h2 with rfl |h2
  ·exact hw
  ·exact(hP _ _ h2).1
 have e:∀d,bw (ik P v n) (n+d)=bw (ik P v n) n:=fun d=>by
  induction d with
  |zero=>rfl
  |succ d ih=>
   rw[show n+(d+1)=(n+d)+1 by omega,Ii,ih];intro hm;have:=hlt _ hm;omega
 have e8:=e (8 - n);rw[show n+(8 - n)=8 by omega] at e8;rw[fL,e8,YR,bw];congr 1
 refine List.filter_congr fun u hu=>ug.2 ?_;rw[<- ahy (ck.1 hu) hv,dQ]
theorem ae3 (p:Nat ->Bool) (n:Nat):dZ (iL ((List.range n).filter p)) n=true:=by
 have hs:((List.range n).filter p).Pairwise (·<·):=List.Pairwise.filter _ List.pairwise_lt_range;refine dN.2 fun i hi=>?_;have hi':i<((List.range n).filter p).length:=by rw[ck,bF] at hi;exact hi
 have hg:∀j (hj:j<((List.range n).filter p).length),(iL ((List.range n).filter p)).getD j 0=(((List.range n).filter p)[j]:Int):=fun j hj=>by
  rw[b6,iL,mS,ba hj];rfl
 refine bT ⟨?_,?_,fun h0=>?_⟩
 ·rw[hg i hi'];omega
 ·rw[hg i hi'];have:=ck.1 (cJ.1 (bY hi')).1;omega
 ·rw[hg i hi',hg (i - 1) (by omega)];have:=(vS.1 hs) (i - 1) i (by omega) hi' (by omega);omega
def lC (L:List (List Int)):List (List Int):=(lB (aG L) L.length L.length).map fL
theorem yJ (L:List (List Int)):(lC L).length=L.length:=by simp[lC,lB]
theorem ahH (hv:v<L.length):(aG (lC L)).getD v []=bw (ik (aG L) v L.length) 8:=by
 rw[b6,aG,mS,lC,mS,lB,mS,List.getElem?_range hv];show af (fL _)=_;rw[fL,iV]
theorem Qw (hg:gB L=true):∀v,∀u∈(aG L).getD v [],u<L.length/\v<L.length:=fun v u hu=>by
 refine⟨(Fw hg).at v u hu,?_⟩;by_cases h:v<L.length
 ·exact h
 ·rw[b6,ig (by rw[iX];omega)] at hu;cases hu
theorem LX (h8:L.length<=8) (hv:v<L.length) (hu:u<L.length):u∈(aG (lC L)).getD v []↔u≠v/\∃x,x<L.length/\v∈gZ (aG L) x/\u∈gZ (aG L) x:=by
 rw[ahH hv,qu,Ih];exact⟨fun h=>h.2,fun h=>⟨by omega,h⟩⟩
theorem YT (hg:gB L=true) (h1:1<=L.length) (h8:L.length<=8):gB (lC L)=true:=by
 refine ajW (by rw[yJ];exact h1) (by rw[yJ];exact h8) fun i hi=>?_;have hi':i<L.length:=by rwa [yJ] at hi
 have e:(lC L)[i]=fL (ik (aG L) i L.length):=by simp[lC,lB]
 rw[e,yJ];refine⟨?_,?_⟩
 ·rw[<- ahx (Qw hg) h8 hi'];exact ae3 _ _
 ·rw[fL,iV,qu,Ih];exact fun h=>h.2.1 rfl
theorem ahG (hg:gB L=true) (h1:1<=L.length) (h8:L.length<=8):rK (lC L)=true:=by
 refine(ag0 (YT hg h1 h8)).2 fun v u hv hu=>?_;rw[yJ] at hv hu;rw[zX,LX h8 hv hu,LX h8 hu hv];exact⟨fun ⟨h,x,a,b,c⟩=>⟨fun e=>h e.symm,x,a,c,b⟩,fun ⟨h,x,a,b,c⟩=>⟨fun e=>h e.symm,x,a,c,b⟩⟩
def gW (L:List (List Int)):List Nat:=(bj (aG (lC L)) (lC L).length (lC L).length).ord
theorem X9 (hg:gB L=true) (h1:1<=L.length) (h8:L.length<=8):acw L.length (jI (aG (lC L)) L.length) (YC (aG (lC L)) L.length):=by
 have hN:qT L.length (aG (lC L)):=by have:=Fw (YT hg h1 h8);rwa [yJ] at this
 refine akw hN (fun u hu w hw=>?_) h8;have hw':=hN.at u w hw;rw[LX h8 hu hw'] at hw;rw[LX h8 hw' hu];obtain⟨h,x,a,b,c⟩:=hw;exact⟨fun e=>h e.symm,x,a,c,b⟩
theorem LO (L:List (List Int)):gW L=(List.range L.length).map (jI (aG (lC L)) L.length):=by rw[gW,yJ,abe]
theorem Yb (hg:gB L=true) (h1:1<=L.length) (h8:L.length<=8):(gW L).Nodup:=by
 rw[LO,List.Nodup,yh];refine List.Pairwise.imp_of_mem (fun {i j} hi hj hne e=>?_) (Ad (n:=L.length));exact hne ((X9 hg h1 h8).inj i j (ck.1 hi) (ck.1 hj) e)
theorem Yc (hg:gB L=true) (h1:1<=L.length) (h8:L.length<=8) (hv:v<L.length):v∈gW L:=by
 obtain⟨i,hi,e⟩:=(X9 hg h1 h8).all v hv;rw[LO];exact aU.2 ⟨i,ck.2 hi,e⟩
variable {D E c d:Nat}
def eJ (D:Nat) (q:Rat):Prop:=∃z:Int,q=mkRat z D
theorem eJ.own (q:Rat):eJ q.den q:=⟨q.num,(Rat.mkRat_self q).symm⟩
theorem eJ.zero (D:Nat):eJ D 0:=⟨0,by simp⟩
theorem eJ.one:eJ 1 1:=⟨1,rfl⟩
theorem eJ.add (hp:eJ D p) (hq:eJ D q):eJ D (p+q):=by
 obtain⟨x,rfl⟩:=hp;obtain⟨y,rfl⟩:=hq;refine⟨x+y,?_⟩;rw[Rat.mkRat_eq_div,Rat.mkRat_eq_div,Rat.mkRat_eq_div,ye,ye,ye, <- Rat.add_mul,Rat.intCast_add]
theorem eJ.mul (hp:eJ D p) (hq:eJ E q):eJ (D*E) (p*q):=by
 obtain⟨x,rfl⟩:=hp;obtain⟨y,rfl⟩:=hq;exact⟨x*y,Rat.mkRat_mul_mkRat ..⟩
theorem eJ.times (hD:D≠0) (h:eJ D q) (hE:E≠0):eJ (D*E) q:=by
 obtain⟨x,rfl⟩:=h;refine⟨x*E,?_⟩;rw[Rat.mkRat_eq_iff hD (Cq hD hE),j6,Int.mul_assoc,Int.mul_comm (E:Int)]
theorem eJ.dvd (hD:D≠0) (h:eJ D q):q.den∣D:=by
 obtain⟨x,rfl⟩:=h;rw[<- Rat.normalize_eq_mkRat hD,Rat.normalize_eq];exact Nat.div_dvd_of_dvd (Nat.gcd_dvd_right _ _)
def lZ (c:Nat) (q:Rat):Prop:=0<=q/\q<=(c:Rat)
theorem eJ.size (hD:D≠0) (h:eJ D q) (hb:lZ c q):qw q<=2*(B D).size+(B c).size:=by
 have hd:=Nat.le_of_dvd (jY hD) (h.dvd hD);have h1:=(Rat.le_iff _ _).1 hb.2;have h2:=Rat.num_nonneg.2 hb.1
 have h3:q.num.natAbs<=c*D:=by
  have e1:((c:Nat):Rat).num=(c:Int):=rfl;have e2:((c:Nat):Rat).den=1:=rfl;rw[e1,e2] at h1;have h4:(c:Int)*(q.den:Int)<=(c:Int)*(D:Int):=Int.mul_le_mul_of_nonneg_left (Int.ofNat_le.2 hd) (KZ c)
  have h5:q.num<=(c:Int)*(D:Int):=by
   (have:q.num*((1:Nat):Int)=q.num:=by simp);rw[this] at h1;exact Int.le_trans h1 h4
  have h6:((q.num.natAbs:Nat):Int)=q.num:=Int.natAbs_of_nonneg h2;have h7:((q.num.natAbs:Nat):Int)<=((c*D:Nat):Int):=by rw[h6,j6];exact h5
  exact Int.ofNat_le.1 h7
 have s1:=j7 h3;have s2:=wy c D;have s3:=j7 hd;simp only[qw];omega
theorem lZ.mul (hp:lZ c p) (hq:lZ d q):lZ (c*d) (p*q):=by
 refine⟨Rat.mul_nonneg hp.1 hq.1,?_⟩;rw[Rat.natCast_mul];exact Rat.le_trans (Rat.mul_le_mul_of_nonneg_right hp.2 hq.1) (Rat.mul_le_mul_of_nonneg_left hq.2 (Rat.le_trans hp.1 hp.2))
theorem lZ.add (hp:lZ c p) (hq:lZ d q):lZ (c+d) (p+q):=by
 refine⟨Rat.add_nonneg hp.1 hq.1,?_⟩;rw[Rat.natCast_add];exact Rat.le_trans (Rat.add_le_add_right.2 hp.2) (Rat.add_le_add_left.2 hq.2)
theorem eJ.sum {g:Nat ->Rat}:∀ {k:Nat},(∀x,x< k ->eJ D (g x)) ->eJ D (bK g k)
 |0,_=>eJ.zero D
 |k+1,h=>by rw[bK];exact(eJ.sum fun x hx=>h x (by omega)).add (h k (Nat.lt_succ_self k))
theorem lZ.sum {g:Nat ->Rat}:∀ {k:Nat},(∀x,x< k ->lZ c (g x)) ->lZ (k*c) (bK g k)
 |0,_=>by rw[bK,mQ];exact⟨G0,G0⟩
 |k+1,h=>by rw[bK,Nat.succ_mul];exact(lZ.sum fun x hx=>h x (by omega)).add (h k (Nat.lt_succ_self k))
def mF (S:List Nat):List (Nat×Nat) ->List Tb ->List Tb
 |[],P=>P
 |p::l,P=>mF S l (P.map (jQ S p.1 p.2))
def jM (free:List Nat):List (Nat×Nat) ->List Nat
 |[]=>free
 |p::l=>jM (free.filter fun u=>!(u==p.1)) l
theorem L9:∀ {l:List (Nat×Nat)} {free:List Nat},u∈jM free l↔u∈free/\¬u∈l.map (·.1)
 |[],free=>⟨fun h=>⟨h,iT⟩,fun h=>h.1⟩
 |p::l,free=>by
  rw[jM,L9,fH,cT,not_or,cJ,and_assoc];refine and_congr Iff.rfl (and_congr ?_ Iff.rfl);simp
theorem QC:∀ {l:List (Nat×Nat)} {free:List Nat},free.Nodup ->(jM free l).Nodup
 |[],_,h=>h
 |p::l,free,h=>by rw[jM];exact QC (h.filter _)
theorem PI.fixes (hp:Pos S):∀ {l:List (Nat×Nat)} {free:List Nat} {P:List Tb} {F:(Nat ->Nat) ->Rat},(l.map (·.1)).Nodup ->(∀p∈l,p.2<sz S p.1) ->PI S n free P F ->PI S n (jM free l) (mF S l P) (fun g=>F (eR l g))
 |[],_,_,_,_,_,h=>h
 |p::l,free,P,F,hn,hx,h=>by
  rw[fH,mR] at hn;have pM:∀q∈l,q.1≠p.1:=fun q hq e=>hn.1 (by rw[<- e];exact aU.2 ⟨q,hq,rfl⟩);have:=PI.fixes hp hn.2 (fun q hq=>hx q (dD _ hq)) (h.fix hp (hx p c5));refine⟨this.ok,this.sub,this.sup,fun g hg=>?_⟩;rw[mF,this.val g hg];show F (aQ (eR l g) p.1 p.2)=F (eR l (aQ g p.1 p.2));rw[Lq pM]
theorem NN.fixes (hp:Pos S):∀ {l:List (Nat×Nat)} {P:List Tb},(∀p∈l,p.2<sz S p.1) ->(∀t∈P,dw S n t) ->NN S P ->NN S (mF S l P)
 |[],_,_,_,h=>h
 |p::l,P,hx,ho,h=>by
  rw[mF]
  exact NN.fixes hp (fun q hq=>hx q (dD _ hq)) (fun t ht=>by
   obtain⟨s,hs,rfl⟩:=aU.1 ht;exact(ho s hs).fix _ _) (h.fix hp ho (hx p c5))
def iY (S:List Nat) (most:Bool) (keep:Nat ->Bool):List Nat ->List Tb ->List Tb
 |[],P=>P
 |v::vs,P=>iY S most keep vs (if keep v then P else j8 S v most P)
theorem XX:u∈free.filter (fun u=>!(u==v))↔u∈free/\u≠v:=by simp[cJ]
theorem PI.outs (hp:Pos S) (keep:Nat ->Bool):∀(vs:List Nat) {free:List Nat} {P:List Tb} {F:(Nat ->Nat) ->Rat},PI S n free P F ->∃free',(∀u,u∈free'↔u∈free/\(u∈vs ->keep u=true))/\PI S n free' (iY S false keep vs P) (F8 S (vs.filter fun v=>!keep v) F)
 |[],free,P,F,h=>⟨free,fun u=>⟨fun h=>⟨h,fun e=>absurd e iT⟩,fun h=>h.1⟩,h⟩
 |v::vs,free,P,F,h=>by
  cases hk:keep v with
  |true=>
   obtain⟨free',h1,h2⟩:=PI.outs hp keep vs h;refine⟨free',fun u=>(h1 u).trans (and_congr Iff.rfl ⟨fun h hu=>?_,fun h hu=>h (dD _ hu)⟩),?_⟩
   ·rcases cT.1 hu with rfl |hu
    ·exact hk
    ·exact h hu
   ·rw[iY,aB hk,vV (by simp[hk])];exact h2
  |false=>
   obtain⟨free',h1,h2⟩:=PI.outs hp keep vs (h.o hp v);refine⟨free',fun u=>(h1 u).trans ?_,?_⟩
   ·rw[XX,and_assoc];refine and_congr Iff.rfl ⟨fun h hu=>?_,fun h=>⟨fun e=>?_,fun hu=>h (dD _ hu)⟩⟩
    ·rcases cT.1 hu with e |hu
     ·exact absurd e h.1
     ·exact h.2 hu
    ·have:=h (by rw[e];exact c5);rw[e,hk] at this;exact absurd this (by decide)
   ·rw[iY,aD (by simp[hk]),vU (by simp[hk])];exact h2
theorem PI.mosts (hp:Pos S) (keep:Nat ->Bool):∀(vs:List Nat) {free:List Nat} {P:List Tb} {F:(Nat ->Nat) ->Rat},PI S n free P F ->NN S P ->∃free',(∀u,u∈free'↔u∈free/\(u∈vs ->keep u=true))/\PI S n free' (iY S true keep vs P) (elimM S (vs.filter fun v=>!keep v) F)/\NN S (iY S true keep vs P)
 |[],free,P,F,h,hn=>⟨free,fun u=>⟨fun h=>⟨h,fun e=>absurd e iT⟩,fun h=>h.1⟩,h,hn⟩
 |v::vs,free,P,F,h,hn=>by
  cases hk:keep v with
  |true=>
   obtain⟨free',h1,h2⟩:=PI.mosts hp keep vs h hn;refine⟨free',fun u=>(h1 u).trans (and_congr Iff.rfl ⟨fun h hu=>?_,fun h hu=>h (dD _ hu)⟩),?_⟩
   ·rcases cT.1 hu with rfl |hu
    ·exact hk
    ·exact h hu
   ·rw[iY,aB hk,vV (by simp[hk])];exact h2
  |false=>
   obtain⟨free',h1,h2⟩:=PI.mosts hp keep vs (h.most hp hn v).1 (h.most hp hn v).2;refine⟨free',fun u=>(h1 u).trans ?_,?_⟩
   ·rw[XX,and_assoc];refine and_congr Iff.rfl ⟨fun h hu=>?_,fun h=>⟨fun e=>?_,fun hu=>h (dD _ hu)⟩⟩
    ·rcases cT.1 hu with e |hu
     ·exact absurd e h.1
     ·exact h.2 hu
    ·have:=h (by rw[e];exact c5);rw[e,hk] at this;exact absurd this (by decide)
   ·rw[iY,aD (by simp[hk]),vU (by simp[hk])];exact h2
def Low (l:List Fr):Prop:=∀f∈l,f=qF (bt f)
theorem acq (S:List Nat) (P:List Tb):Low (allT S P).2:=by
 have:∀(P:List Tb) (a:Tb),Low a.2 ->Low (P.foldl (wJ S) a).2:=fun P=>by
  induction P with
  |nil=>exact fun _ h=>h
  |cons t P ih=>
   intro a _;refine ih _ fun f hf=>?_;obtain⟨K,_,rfl⟩:=aU.1 hf;rw[pT]
 exact this P Ay fun f hf=>by rw[eA.1 hf,pT]
theorem VY (hp:Pos S) {t:Tb} (ht:dw S n t) (hl:Low t.2):t.2=(List.range (cnt S (af t.1))).map fun K=>qF (tQ S (tN t) (a8 S (af t.1) K)):=by
 refine rC (by rw[ht.len];simp) fun K h1 h2=>?_;have hK:K<cnt S (af t.1):=by rw[<- ht.len];exact h1
 have e:tQ S (tN t) (a8 S (af t.1) K)=bt (bZ t.2 (pos S (a8 S (af t.1) K) (af t.1))):=rfl;rw[nE,Hd,e,XC hp ht.up.nodup hK,rZ h1];exact hl _ (bY h1)
theorem PI.net {V:List Vr} (h0:bA V L R=0) (hlt:∀v∈ws,v<V.length) (hc:oA L (·∈ws)):PI (aq V) V.length ws (ws.map fun v=>(gU L v,gL V L R v)) (fun g=>cD V L R g ws):=by
 have aV:=kL h0
 have aT:∀v,v<V.length ->Up (gU L v) V.length:=fun v hv=>by
  have eH:v<L.length:=by rw[aV.len];exact hv
  have JC:L.getD v []=L[v]:=by rw[b6,ba eH];rfl
  rw[gU,JC];exact E0 (aV.up v eH) (Pe hv)
 have hin:∀v u,u∈af (gU L v)↔u∈af (L.getD v [])∨u=v:=fun v u=>by
  rw[gU,Lb];refine or_congr Iff.rfl ?_;simp[af]
 refine⟨fun t ht=>?_,fun t ht u hu=>?_,fun u hu=>?_,fun g hg=>?_⟩
 ·obtain⟨v,hv,rfl⟩:=aU.1 ht;exact⟨aT v (hlt v hv),by simp[gL]⟩
 ·obtain⟨v,hv,rfl⟩:=aU.1 ht;rcases (hin v u).1 hu with h |rfl
  ·exact hc v hv u h
  ·exact hv
 ·exact⟨_,aU.2 ⟨u,hu,rfl⟩,(hin u u).2 (.inr rfl)⟩
 ·have:∀ {vs:List Nat},(∀v∈vs,v<V.length) ->pQ (aq V) g ((vs.map fun v=>((gU L v,gL V L R v):Tb)).map tN)=cD V L R g vs:=fun {vs}=>by
   induction vs with
   |nil=>intro _;rfl
   |cons v vs ih=>
    intro h;rw[fH,fH,pQ,cD,ih fun u hu=>h u (dD _ hu)];congr 1
    exact Pm h0 (h v c5) hg
  exact this hlt
theorem NN.net {V:List Vr} (h0:bA V L R=0) (hlt:∀v∈ws,v<V.length):NN (aq V) (ws.map fun v=>(gU L v,gL V L R v)):=fun t ht g hg=>by
 obtain⟨v,hv,rfl⟩:=aU.1 ht;exact ajM h0 (hlt v hv) hg
theorem Yw:∀(l:List (Nat×Nat)) (F:(Nat ->Nat) ->Rat) (f:Nat ->Nat),(∀p∈l,¬p.1∈ws) ->cQ S ws F (eR l f)=cQ S ws (fun g=>F (eR l g)) f
 |[],_,_,_=>rfl
 |p::l,F,f,h=>by
  rw[eR,Yw l F _ fun q hq=>h q (dD _ hq),Qm _ ws f (h p c5)];rfl
theorem Tx:∀(a b:List (Nat×Nat)) (g:Nat ->Nat),dL (a++b) g=dL a g*dL b g
 |[],b,g=>by rw[gi,dL,zZ]
 |p::a,b,g=>by rw[eC,dL,dL,Tx a b g,vO]
theorem Xt:∀(a b:List (Nat×Nat)) (g:Nat ->Nat),eR (a++b) g=eR b (eR a g)
 |[],_,_=>rfl
 |p::a,b,g=>by rw[eC,eR,Xt a b];rfl
def qV (S q:List Nat) (K:Nat):List (Nat×Nat):=q.map fun v=>(v,a8 S q K v)
theorem PU (S q:List Nat) (K:Nat):(qV S q K).map (·.1)=q:=by
 rw[qV,Ae];exact List.map_id' q
theorem afz {q:List Nat} (hn:q.Nodup) (K:Nat):eR (qV S q K) (fun _=>0)=a8 S q K:=funext fun u=>by
 by_cases hu:u∈q
 ·exact Xs (p:=(u,a8 S q K u)) ((PU S q K).symm▸hn) (aU.2 ⟨u,hu,rfl⟩) _
 ·rw[PW (by rw[PU];exact hu),Gf hu]
theorem ah3 {V:List Vr} (h0:bA V L R=0) {q:List Nat} {l:List (Nat×Nat)} (hn:ws.Nodup) (hlt:∀v∈ws,v<V.length) (hc:oA L (·∈ws)) (hl:(l.map (·.1)).Nodup) (IJ:∀p∈l,p.1∈ws) (hx:∀p∈l,p.2<sz (aq V) p.1) (hq:q.Nodup) (C9:∀v∈q,v∈ws/\¬v∈l.map (·.1)) {K:Nat} (hK:K<cnt (aq V) q):
  F8 (aq V) ((jM ws l).filter fun v=>!q.contains v) (fun g=>cD V L R (eR l g) ws) (a8 (aq V) q K)=bK (fun k=>dL (qV (aq V) q K++l) (a8 (aq V) (List.range V.length) k)*uk V L R (a8 (aq V) (List.range V.length) k) V.length) (cnt (aq V) (List.range V.length)):=by
 have eo:Pos (aq V):=by have:=(kL h0).fine.pos;rwa [iV] at this
 have Rc:∀u,u∈(jM ws l).filter (fun v=>!q.contains v)↔(u∈ws/\¬u∈l.map (·.1))/\¬u∈q:=fun u=>by
  rw[cJ,L9,Bool.not_eq_true', <- Bool.not_eq_true,Ah]
 have Z8:((jM ws l).filter fun v=>!q.contains v).Nodup:=(QC hn).filter _
 have hperm:ws.Perm ((qV (aq V) q K++l).map (·.1)++(jM ws l).filter fun v=>!q.contains v):=by
  rw[dY,PU];refine(Hb hn ?_).2 fun u=>?_
  ·refine ue.2 ⟨ue.2 ⟨hq,hl,fun a ha b hb e=>(C9 a ha).2 (e▸hb)⟩,Z8,fun a ha b hb e=>?_⟩;obtain⟨⟨_,h1⟩,h2⟩:=(Rc b).1 hb;rcases bL.1 ha with ha |ha
   ·exact h2 (e▸ha)
   ·exact h1 (e▸ha)
  ·rw[bL,bL,Rc];constructor
   ·intro h;by_cases h1:u∈q
    ·exact .inl (.inl h1)
    ·by_cases h2:u∈l.map (·.1)
     ·exact .inl (.inr h2)
     ·exact .inr ⟨⟨h,h2⟩,h1⟩
   ·rintro((h |h) |h)
    ·exact(C9 u h).1
    ·obtain⟨p,hp,rfl⟩:=aU.1 h;exact IJ p hp
    ·exact h.1.1
 rw[afF h0 hn hlt hc hperm (fun p hp=>by
  rcases bL.1 hp with hp |hp
  ·obtain⟨u,_,rfl⟩:=aU.1 hp;exact vd eo q K u hK
  ·exact hx p hp),akK (List.Perm.refl _) Z8, <- afz hq K,Yw _ _ _ fun p hp=>?_]
 ·simp only[Xt]
 ·obtain⟨u,hu,rfl⟩:=aU.1 hp;exact fun h=>((Rc u).1 h).2 hu
structure mH (S:List Nat) (t:Tb) (D c:Nat):Prop where
 nz:D≠0
 one:1<=c
 isD:∀g,Fit S g ->eJ D (tQ S (tN t) g)
 btw:∀g,Fit S g ->lZ c (tQ S (tN t) g)
def PD (S:List Nat) (P:List Tb) (D c:Nat):Prop:=∀M:List Tb ->Nat ->Nat ->Prop,M [] 1 1 ->(∀t P D c E d,mH S t D c ->M P E d ->M (t::P) (D*E) (c*d)) ->M P D c
theorem PD.nil:PD S [] 1 1:=fun _ h1 _=>h1
theorem PD.cons {t:Tb} {P:List Tb} (h:mH S t D c) (hp:PD S P E d):PD S (t::P) (D*E) (c*d):=fun M h1 h2=>h2 _ _ _ _ _ _ h (hp M h1 h2)
theorem PD.ind {M:∀P D c,PD S P D c ->Prop} (nil:M [] 1 1 .nil) (cons:∀ {t:Tb} {P:List Tb} {D c E d:Nat} (h:mH S t D c) (hp:PD S P E d),M P E d hp ->M (t::P) (D*E) (c*d) (.cons h hp)):∀ {P:List Tb} {D c:Nat} (h:PD S P D c),M P D c h:=fun {_ _ _} h=>by
 obtain⟨_,k⟩:=h (fun P D c=>∃h,M P D c h) ⟨_,nil⟩ (fun _ _ _ _ _ _ ht ⟨_,ih⟩=>⟨_,cons ht _ ih⟩);exact k
theorem PD.nz {P:List Tb} (h:PD S P D c):D≠0/\1<=c:=by
 induction h using PD.ind with
 |nil=>exact⟨by decide,by decide⟩
 |cons ht _ ih=>exact⟨Cq ht.nz ih.1,jE ht.one ih.2⟩
theorem PD.append {P Q:List Tb} (h:PD S P D c) (hq:PD S Q E d):PD S (P++Q) (D*E) (c*d):=by
 induction h using PD.ind with
 |nil=>rw[jZ,jZ];exact hq
 |cons ht _ ih=>rw[ie,ie];exact PD.cons ht ih
theorem PD.single {t:Tb} (h:mH S t D c):PD S [t] D c:=by
 have:=PD.cons h (PD.nil (S:=S));rwa [oF,oF] at this
theorem PD.parts (p:Tb ->Bool) {P:List Tb} (h:PD S P D c):∃D1 c1 D2 c2,PD S (P.filter fun t=>!p t) D1 c1/\PD S (P.filter p) D2 c2/\D1*D2=D/\c1*c2=c:=by
 induction h using PD.ind with
 |nil=>exact⟨1,1,1,1,.nil,.nil,rfl,rfl⟩
 | @cons t P D c E d ht _ ih=>
  obtain⟨D1,c1,D2,c2,h1,h2,rfl,rfl⟩:=ih;cases hp:p t with
  |false=>
   refine⟨D*D1,c*c1,D2,c2,?_,?_,ie ..,ie ..⟩
   ·rw[vU (by simp[hp])];exact .cons ht h1
   ·rw[vV (by simp[hp])];exact h2
  |true=>
   refine⟨D1,c1,D*D2,c*c2,?_,?_,yg ..,yg ..⟩
   ·rw[vV (by simp[hp])];exact h1
   ·rw[vU hp];exact .cons ht h2
theorem PD.prod {P:List Tb} (h:PD S P D c) {g:Nat ->Nat} (hg:Fit S g):eJ D (pQ S g (P.map tN))/\lZ c (pQ S g (P.map tN)):=by
 induction h using PD.ind with
 |nil=>exact⟨eJ.one,by rw[j5,pQ];exact⟨by decide,by decide⟩⟩
 |cons ht _ ih=>rw[fH,pQ];exact⟨(ht.isD g hg).mul ih.1,(ht.btw g hg).mul ih.2⟩
theorem PD.all (hp:Pos S) {P:List Tb} (ho:∀t∈P,dw S n t) (h:PD S P D c):mH S (allT S P) D c:=by
 obtain⟨_,_,h3⟩:=xu hp ho;exact⟨h.nz.1,h.nz.2,fun g hg=>by rw[h3 g hg];exact(h.prod hg).1,fun g hg=>by rw[h3 g hg];exact(h.prod hg).2⟩
theorem mH.o (hp:Pos S) {t:Tb} (ho:dw S n t) (h:mH S t D c) (v:Nat):mH S (outT S v false t) D (sz S v*c):=by
 have e:∀g,Fit S g ->tQ S (tN (outT S v false t)) g=bK (fun x=>tQ S (tN t) (aQ g v x)) (sz S v):=fun g hg=>V1 hp (rM ho.up _).nodup (AE ho.up v) _ hg;refine⟨h.nz,jE (mh hp v) h.one,fun g hg=>?_,fun g hg=>?_⟩
 ·rw[e g hg];exact eJ.sum fun x hx=>h.isD _ (hg.with hx)
 ·rw[e g hg];exact lZ.sum fun x hx=>h.btw _ (hg.with hx)
theorem mH.most (hp:Pos S) {t:Tb} (ho:dw S n t) (h:mH S t D c) (v:Nat):mH S (outT S v true t) D c:=by
 have hsz:=mh hp v
 have e:∀g,Fit S g ->∃x,x<sz S v/\tQ S (tN (outT S v true t)) g=tQ S (tN t) (aQ g v x):=fun g hg=>by
  have e1:tQ S (tN (outT S v true t)) g=iZ true (fun x=>tQ S (tN t) (aQ g v x)) (sz S v - 1):=V3 hp (rM ho.up _).nodup (AE ho.up v) _ hg;obtain⟨x,hx,e2⟩:=Ia (fun x=>tQ S (tN t) (aQ g v x)) (sz S v - 1);exact⟨x,by omega,e1.trans e2⟩
 refine⟨h.nz,h.one,fun g hg=>?_,fun g hg=>?_⟩
 ·obtain⟨x,hx,e⟩:=e g hg;rw[e];exact h.isD _ (hg.with hx)
 ·obtain⟨x,hx,e⟩:=e g hg;rw[e];exact h.btw _ (hg.with hx)
theorem mH.fix (hp:Pos S) {t:Tb} (ho:dw S n t) (h:mH S t D c) {x:Nat} (hx:x<sz S v):mH S (jQ S v x t) D c:=by
 have e:∀g,Fit S g ->tQ S (tN (jQ S v x t)) g=tQ S (tN t) (aQ g v x):=fun g hg=>Pn hp (rM ho.up _).nodup (AE ho.up v) _ hg;exact⟨h.nz,h.one,fun g hg=>by rw[e g hg];exact h.isD _ (hg.with hx),fun g hg=>by rw[e g hg];exact h.btw _ (hg.with hx)⟩
theorem PD.o (hp:Pos S) {P:List Tb} (ho:∀t∈P,dw S n t) (h:PD S P D c) (v:Nat):PD S (j8 S v false P) D (sz S v*c):=by
 obtain⟨D1,c1,D2,c2,h1,h2,rfl,rfl⟩:=h.parts fun t=>decide (v∈af t.1);have ho2:∀t∈P.filter (fun t=>decide (v∈af t.1)),dw S n t:=fun t ht=>ho t (cJ.1 ht).1;have:=h1.append (PD.single ((h2.all hp ho2).o hp (xu hp ho2).1 v));rw[yg] at this;exact this
theorem PD.most (hp:Pos S) {P:List Tb} (ho:∀t∈P,dw S n t) (h:PD S P D c) (v:Nat):PD S (j8 S v true P) D c:=by
 obtain⟨D1,c1,D2,c2,h1,h2,rfl,rfl⟩:=h.parts fun t=>decide (v∈af t.1);have ho2:∀t∈P.filter (fun t=>decide (v∈af t.1)),dw S n t:=fun t ht=>ho t (cJ.1 ht).1;exact h1.append (PD.single ((h2.all hp ho2).most hp (xu hp ho2).1 v))
theorem PD.fix (hp:Pos S) {P:List Tb} (h:PD S P D c) (ho:∀t∈P,dw S n t) {x:Nat} (hx:x<sz S v):PD S (P.map (jQ S v x)) D c:=by
 induction h using PD.ind with
 |nil=>exact .nil
 |cons ht _ ih=>exact .cons (ht.fix hp (ho _ c5) hx) (ih fun t h=>ho t (dD _ h))
theorem mH.size {t:Tb} (h:mH S t D c) {g:Nat ->Nat} (hg:Fit S g):qw (tQ S (tN t) g)<=2*(B D).size+(B c).size:=(h.isD g hg).size h.nz (h.btw g hg)
def tG:List Fr ->Nat
 |[]=>1
 |f::l=>(bt f).den*tG l
theorem JD:∀l,tG l≠0
 |[]=>by decide
 |f::l=>Cq (bt f).den_nz (JD l)
theorem abz:∀ {l:List Fr} {f:Fr},f∈l ->eJ (tG l) (bt f)
 |g::l,f,h=>by
  rcases cT.1 h with rfl |h
  ·exact(eJ.own _).times (bt f).den_nz (JD l)
  ·rw[tG,dC];exact(abz h).times (JD l) (bt g).den_nz
def gQ (R:List (List Fr)):List Nat ->Nat
 |[]=>1
 |v::vs=>tG (R.getD v [])*gQ R vs
theorem ah5 {V:List Vr} (h0:bA V L R=0) (hv:v<V.length) (hf:Fit (aq V) f):bt (eY V L R f v)<=1:=by
 have h1:=row_one h0 hv hf
 have hle:∀ {g:Nat ->Rat} {k x:Nat},x< k ->(∀y,y< k ->0<=g y) ->g x<=bK g k:=fun {g k x} hx hg=>by
  have uz:∀j,j<=k ->0<=bK g j:=fun j=>by
   induction j with
   |zero=>intro _;exact G0
   |succ j ih=>intro hj;rw[bK];exact Rat.add_nonneg (ih (by omega)) (hg j (by omega))
  have:∀j,x< j ->j<=k ->g x<=bK g j:=fun j=>by
   induction j with
   |zero=>intro h;omega
   |succ j ih=>
    intro h hj;rw[bK];rcases cM x j with ZF |ZF
    ·have h3:=(Rat.add_le_add_left (c:=bK g j)).2 (hg j (by omega));rw[Rat.add_zero] at h3;exact Rat.le_trans (ih ZF (by omega)) h3
    ·have e:x=j:=by omega
     have h3:=(Rat.add_le_add_right (c:=g j)).2 (uz j (by omega));rw[Rat.zero_add] at h3;rw[e];exact h3
  exact this k hx (ak _)
 have h2:=hle (g:=fun x=>bt (eY V L R (aQ f v x) v)) (k:=sz (aq V) v) (hf v) fun y hy=>QA h0 hv (hf.with hy);rw[h1] at h2;simpa only[ady] using h2
theorem PD.net {V:List Vr} (h0:bA V L R=0):∀ {ws:List Nat},(∀v∈ws,v<V.length) ->PD (aq V) (ws.map fun v=>(gU L v,gL V L R v)) (gQ R ws) 1
 |[],_=>.nil
 |v::ws,h=>by
  have hv:=h v c5;have aV:=kL h0;have eH:v<L.length:=by rw[aV.len];exact hv
  have oP:v<R.length:=by rw[aV.lenR];exact hv
  have ht:mH (aq V) (gU L v,gL V L R v) (tG (R.getD v [])) 1:=by
   have e:∀g,Fit (aq V) g ->tQ (aq V) (tN (gU L v,gL V L R v)) g=bt (eY V L R g v):=fun g hg=>Pm h0 hv hg;refine⟨JD _,ak _,fun g hg=>?_,fun g hg=>?_⟩
   ·rw[e g hg,eY,bZ];cases hk:(R.getD v [])[qA (aq V) (af (L.getD v [])) g v]? with
    |none=>exact⟨0,by rw[Option.getD_none];show bt xj=_;rw[show bt xj=0 from Hk rfl];simp⟩
    |some f=>exact abz (OX hk)
   ·rw[e g hg];exact⟨QA h0 hv hg,ah5 h0 hv hg⟩
  exact PD.cons ht (PD.net h0 fun u hu=>h u (dD _ hu))
theorem akq (S:List Nat) (v x:Nat) (t:Tb):Low (jQ S v x t).2:=fun f hf=>by
 obtain⟨K,_,rfl⟩:=aU.1 hf;rw[pT]
theorem agr (S:List Nat) (v:Nat) (most:Bool) (t:Tb):Low (outT S v most t).2:=fun f hf=>by
 obtain⟨K,_,rfl⟩:=aU.1 hf;rw[pT]
theorem ajT (V:List Vr) (L:List (List Int)) (R:List (List Fr)) (v:Nat):Low (gL V L R v):=fun f hf=>by
 obtain⟨K,_,rfl⟩:=aU.1 hf;rw[pT]
structure eT (S:List Nat) (n:Nat) (P:List Tb) (D c:Nat):Prop where
 ok:∀t∈P,dw S n t
 pd:PD S P D c
 low:∀t∈P,Low t.2
theorem PD.each {P:List Tb} (h:PD S P D c):∀t∈P,∃E d,mH S t E d/\E<=D/\d<=c:=by
 induction h using PD.ind with
 |nil=>intro t ht;cases ht
 | @cons t P D c E d h1 h2 ih=>
  have hn:=h2.nz;have hE:=jY hn.1;intro u hu;rcases cT.1 hu with rfl |hu
  ·exact⟨D,c,h1,Nat.le_mul_of_pos_right D hE,Nat.le_mul_of_pos_right c hn.2⟩
  ·obtain⟨E',d',k1,k2,k3⟩:=ih u hu;exact⟨E',d',k1,aM k2 (Cr E (jY h1.nz)),aM k3 (Cr d h1.one)⟩
theorem PD.take {P:List Tb} (h:PD S P D c):∀k,∃E d,PD S (P.take k) E d/\E<=D/\d<=c:=by
 induction h using PD.ind with
 |nil=>intro k;exact⟨1,1,by rw[List.take_nil];exact .nil,ak _,ak _⟩
 | @cons t P D c E d h1 h2 ih=>
  have hn:=h2.nz;intro k;cases k with
  |zero=>
   exact⟨1,1,.nil,Nat.mul_pos (jY h1.nz) (jY hn.1),Nat.mul_pos h1.one hn.2⟩
  |succ k=>
   obtain⟨E',d',k1,k2,k3⟩:=ih k;exact⟨D*E',c*d',.cons h1 k1,kE _ k2,kE _ k3⟩
theorem PD.filter {P:List Tb} (h:PD S P D c) (p:Tb ->Bool):∃E d,PD S (P.filter p) E d/\E<=D/\d<=c:=by
 obtain⟨D1,c1,D2,c2,h1,h2,e1,e2⟩:=h.parts p;have n1:=h1.nz;have n2:=h2.nz;exact⟨D2,c2,h2,by rw[<- e1];exact Cr _ (jY n1.1),by rw[<- e2];exact Cr _ n1.2⟩
theorem VZ (hp:Pos S) {t:Tb} (ht:dw S n t) (hl:Low t.2) (h:mH S t E d) (hE:E<=D) (hd:d<=c) (hm:2*(B D).size+(B c).size+2<=m):Cw m t.2:=fun k hk=>by
 have hK:k<cnt S (af t.1):=by rw[<- ht.len];exact hk
 have e:bZ t.2 k=qF (tQ S (tN t) (a8 S (af t.1) k)):=by
  rw[rZ hk];have:=VY hp ht hl;have h2:t.2[k]? =((List.range (cnt S (af t.1))).map fun K=>qF (tQ S (tN t) (a8 S (af t.1) K)))[k]?:=by rw[<- this]
  rw[ba hk,mS,List.getElem?_range hK] at h2;exact k7 h2
 have hs:=h.size (g:=a8 S (af t.1) k) (fun u=>vd hp _ k u hK);have h1:=j7 hE;have h3:=j7 hd;rw[e];show (nu _).size+(de _).size+2<=m;have hq:(nu (tQ S (tN t) (a8 S (af t.1) k))).size+(de (tQ S (tN t) (a8 S (af t.1) k))).size=qw (tQ S (tN t) (a8 S (af t.1) k)):=rfl;omega
theorem eT.cw (hp:Pos S) {P:List Tb} (h:eT S n P D c) (hm:2*(B D).size+(B c).size+2<=m):∀t∈P,Cw m t.2:=fun t ht=>by
 obtain⟨E,d,k1,k2,k3⟩:=h.pd.each t ht;exact VZ hp (h.ok t ht) (h.low t ht) k1 k2 k3 hm
theorem eT.part (hp:Pos S) {P:List Tb} (h:eT S n P D c) (hm:2*(B D).size+(B c).size+2<=m) (k:Nat):dw S n (allT S (P.take k))/\Cw m (allT S (P.take k)).2:=by
 obtain⟨E,d,k1,k2,k3⟩:=h.pd.take k;have ho:∀t∈P.take k,dw S n t:=fun t ht=>h.ok t (List.mem_of_mem_take ht);have h1:=(xu hp ho).1;exact⟨h1,VZ hp h1 (acq S _) (PD.all hp ho k1) k2 k3 hm⟩
theorem eT.filter {P:List Tb} (h:eT S n P D c) (p:Tb ->Bool):∃E d,eT S n (P.filter p) E d/\E<=D/\d<=c:=by
 obtain⟨E,d,k1,k2,k3⟩:=h.pd.filter p;exact⟨E,d,⟨fun t ht=>h.ok t (cJ.1 ht).1,k1,fun t ht=>h.low t (cJ.1 ht).1⟩,k2,k3⟩
theorem eT.fix (hp:Pos S) {P:List Tb} (h:eT S n P D c) {x:Nat} (hx:x<sz S v):eT S n (P.map (jQ S v x)) D c:=
 ⟨fun t ht=>by
  obtain⟨u,hu,rfl⟩:=aU.1 ht;exact(h.ok u hu).fix v x,h.pd.fix hp h.ok hx,fun t ht=>by
  obtain⟨u,_,rfl⟩:=aU.1 ht;exact akq S v x u⟩
theorem X3 (hp:Pos S) {P:List Tb} (h:∀t∈P,dw S n t) (v:Nat) (most:Bool):∀t∈j8 S v most P,dw S n t:=fun t ht=>by
 rcases bL.1 ht with ht |ht
 ·exact h t (cJ.1 ht).1
 ·rw[eA.1 ht];exact((xu hp fun u hu=>h u (cJ.1 hu).1).1).o v most
theorem X4 {P:List Tb} (h:∀t∈P,Low t.2) (v:Nat) (most:Bool):∀t∈j8 S v most P,Low t.2:=fun t ht=>by
 rcases bL.1 ht with ht |ht
 ·exact h t (cJ.1 ht).1
 ·rw[eA.1 ht];exact agr S v most _
theorem eT.o (hp:Pos S) {P:List Tb} (h:eT S n P D c) (v:Nat):eT S n (j8 S v false P) D (sz S v*c):=⟨X3 hp h.ok v false,h.pd.o hp h.ok v,X4 h.low v false⟩
theorem eT.most (hp:Pos S) {P:List Tb} (h:eT S n P D c) (v:Nat):eT S n (j8 S v true P) D c:=⟨X3 hp h.ok v true,h.pd.most hp h.ok v,X4 h.low v true⟩
variable {x':Value}
theorem ew.farT {c:Option Addr} {l:List Fr} (h:ew V c l) (hb:bG V g x y) (hx:dA x) (hy:dA y) (j:Nat) (u:Value):ew (V.setCell ⟨g,j,none⟩ u) c l:=fun k hk=>by
 obtain⟨g',o,rfl,hlt,h0,h1,h2⟩:=h k hk;obtain⟨a1,n1,c1,rfl⟩:=hx;obtain⟨a2,n2,c2,rfl⟩:=hy
 have hne:¬g'=g:=fun e=>by
  subst e;rw[bE V g' _ _ _ (0,0) hb] at h0;match hm:o+k*3 with
  |0=>rw[hm] at h0;simp at h0
  |1=>rw[hm] at h0;simp at h0
  |m+2=>rw[hm] at h0;simp at h0
 have far:∀i,(V.setCell ⟨g,j,none⟩ u).cell? ⟨g',i,none⟩=V.cell? ⟨g',i,none⟩:=fun i=>dX _ _ _ _ (fun e=>hne (dt Addr.block e).symm);exact⟨g',o,rfl,aR hlt (ji V _ _).size,(far _).trans h0,(far _).trans h1,(far _).trans h2⟩
theorem ew.putT {c:Option Addr} {l:List Fr} (h:ew V c l) (hb:bG V g x y) (hx:dA x) (hy:dA y) (hx':dA x') (y':Value):ew ((V.setCell ⟨g,0,none⟩ x').setCell ⟨g,1,none⟩ y') c l:=by
 have h1:bG (V.setCell ⟨g,0,none⟩ x') g x' y:=jX V g 0 _ _ x' hb;exact(h.farT hb hx hy 0 _).farT h1 hx' hy 1 _
section
attribute [local go_sem] Oper.semAt_some
theorem alQ (a b:Option Addr) (ca cb:Nat) (sizes vars:List Int) (K:Nat) (w:World) (hs:aC w a sizes) (hv:aC w b vars) (aN:eK sizes) (aT:Up vars sizes.length) (hK:K<cnt (af sizes) (af vars)):
  Calls Tryz.prog 102 #[.slice a sizes.length ca,.slice b vars.length cb,.int .i64 (K:Nat)] w fun e w'=>∃(g:Nat) (cc:Nat),e=.returned (.slice (some ⟨g,0,none⟩) (kR (af sizes) (af vars) K).length cc)/\w.heap.size<=g/\cN w' g (kR (af sizes) (af vars) K)/\Below w.heap.size w w':=by
 refine(fZ (n:=6)).1 ?_;have pI:=aN.eight;have iA:=aT.length;have hsm:cnt (af sizes) (af vars)<=65536:=rY aN.sz_le (by rw[dR];omega);have hmk:=fun V=>run_make_row' (P:=Tryz.prog) 27 3 (.int .i64 0) 8 Tryz.underlying27 Tryz.infoInt rfl .i64 .i64 vars.length (by omega) (by omega) V;have HS:=hid hs;have HV:=hid hv;have cU:=hid aN;have kz:=hid aT;have Ds:(kR (af sizes) (af vars) K).length=vars.length:=by rw[abG,dR]
 have sI:=hid (alU hK);rw[dR] at sI;rw[Ds];clear hs hv aN aT;refine rq Tryz.func102 rfl trivial ?_ rfl;simp only[Tryz.ntmps102,k9,di,jG,Nat.reduceAdd,Nat.reduceSub,lh,lg,ld,kF,gi,eC];gi_wp2_with ((refine⟨trivial,?_⟩;gi_at_call 159;refine(Tv _ _ _ _ _).ae ?_;rintro e w2 ⟨rfl,rfl⟩))
 obtain⟨W0,hW0⟩:∃W0,W0=(((((w.alloc (.cells #[.slice a sizes.length ca] 27)).alloc (.cells #[.int .i64 (K:Nat)] 3)).alloc (.cells (madeCells #[.int .i64 0] vars.length) 3)).alloc (.cells #[.slice (some ⟨w.heap.size+1+1,0,none⟩) vars.length vars.length] 27)).alloc (.cells #[.slice b vars.length cb] 27)):=⟨_,rfl⟩;have wQ:W0.heap.size=w.heap.size+1+1+1+1+1:=by rw[hW0];simp
 have b0:Boxed W0 w.heap.size 27 (.slice a sizes.length ca):=by rw[hW0];exact((((aZ w _ _).alloc _).alloc _).alloc _).alloc _
 have b1:Boxed W0 (w.heap.size+1) 3 (.int .i64 (K:Nat)):=by
  have h:=((((aZ (w.alloc (.cells #[.slice a sizes.length ca] 27)) 3 (.int .i64 (K:Nat))).alloc (.cells (madeCells #[.int .i64 0] vars.length) 3)).alloc (.cells #[.slice (some ⟨w.heap.size+1+1,0,none⟩) vars.length vars.length] 27)).alloc (.cells #[.slice b vars.length cb] 27));rw[dE] at h;rw[hW0];exact h
 have r2:cN W0 (w.heap.size+1+1) (List.replicate vars.length 0):=by
  have h:=((Y4 ((w.alloc (.cells #[.slice a sizes.length ca] 27)).alloc (.cells #[.int .i64 (K:Nat)] 3)) vars.length).alloc (.cells #[.slice (some ⟨w.heap.size+1+1,0,none⟩) vars.length vars.length] 27)).alloc (.cells #[.slice b vars.length cb] 27);rw[dE,dE] at h;rw[hW0];exact h
 have b3:Boxed W0 (w.heap.size+1+1+1) 27 (.slice (some ⟨w.heap.size+1+1,0,none⟩) vars.length vars.length):=by
  have h:=(aZ (((w.alloc (.cells #[.slice a sizes.length ca] 27)).alloc (.cells #[.int .i64 (K:Nat)] 3)).alloc (.cells (madeCells #[.int .i64 0] vars.length) 3)) 27 (.slice (some ⟨w.heap.size+1+1,0,none⟩) vars.length vars.length)).alloc (.cells #[.slice b vars.length cb] 27);rw[dE,dE,dE] at h;rw[hW0];exact h
 have b4:Boxed W0 (w.heap.size+1+1+1+1) 27 (.slice b vars.length cb):=by
  have h:=aZ ((((w.alloc (.cells #[.slice a sizes.length ca] 27)).alloc (.cells #[.int .i64 (K:Nat)] 3)).alloc (.cells (madeCells #[.int .i64 0] vars.length) 3)).alloc (.cells #[.slice (some ⟨w.heap.size+1+1,0,none⟩) vars.length vars.length] 27)) 27 (.slice b vars.length cb);rw[dE,dE,dE,dE] at h;rw[hW0];exact h
 have hB0:Below w.heap.size w W0:=by
  rw[hW0];exact(((((aw _ w).alloc (ak _) _).alloc (by simp) _).alloc (by simp;omega) _).alloc (by simp;omega) _).alloc (by simp;omega) _
 rw[<- hW0];clear hW0
 refine KG (α:=At vars) rfl (by omega) (gf:=201) (lb:= #[.pointer (some ⟨w.heap.size+1+1+1+1,0,none⟩)]) rfl trivial (enters_of Tryz.func201 (by kernel_rfl) rfl)
  (Tu 5 (by omega) (w.heap.size+1+1+1+1) w.heap.size b cb vars (by omega) W0 (by omega) (by omega) b4.cell (HV.o.toB.aa hB0)) qU.t (qU.b (by omega) (by omega)) (aw _ _) (fun _=>rfl)
  (fun (pre:List (At vars)) V=>Boxed V w.heap.size 27 (.slice a sizes.length ca)/\Boxed V (w.heap.size+1) 3 (.int .i64 ((oq (af sizes) (af vars) K vars.length (pre.map (·.1))).1:Nat))/\cN V (w.heap.size+1+1) (oq (af sizes) (af vars) K vars.length (pre.map (·.1))).2/\Boxed V (w.heap.size+1+1+1) 27 (.slice (some ⟨w.heap.size+1+1,0,none⟩) vars.length vars.length)/\Boxed V (w.heap.size+1+1+1+1) 27 (.slice b vars.length cb)/\Below w.heap.size w V)
  (fun _ _ _=>False)
  (eG (fB (iH _ _ (fun _=>_)) _) (eG (fB (iH _ _ (fun pre:List (At vars)=>.int .i64 ((oq (af sizes) (af vars) K vars.length (pre.map (·.1))).1:Nat))) _) (eG (fB (Lh _ (fun pre:List (At vars)=>(oq (af sizes) (af vars) K vars.length (pre.map (·.1))).2)) _) (eG (fB (iH _ _ (fun _=>_)) _) (eG (fB (iH _ _ (fun _=>_)) _) (x7 (ak _) (by omega)))))))
  (fun _ _ _ _ _ hs _ _=>hs)
  ⟨b0,b1,r2,b3,b4,hB0⟩
  (fun x=> {tmps:= #[.slice a sizes.length ca,.slice b vars.length cb,.int .i64 (K:Nat),.pointer (some ⟨w.heap.size,0,none⟩),undef,.pointer (some ⟨w.heap.size+1,0,none⟩),.slice none 0 0,.pointer (some ⟨w.heap.size+1+1+1,0,none⟩),.int .i64 (x.1:Nat),.int .i64 (vars[x.1]'x.2),.slice b vars.length cb,.int .i64 (vars.length:Nat),.slice (some ⟨w.heap.size+1+1,0,none⟩) vars.length vars.length,.slice b vars.length cb,.func (.func 201) #[] #[.pointer (some ⟨w.heap.size+1+1+1+1,0,none⟩)],.int .i64 (x.1:Nat),.int .i64 (vars[x.1]'x.2),undef,undef,undef,undef,undef,undef,undef,undef,undef,undef,undef,undef,undef,undef,undef,undef],defers:=[]}) ?assign ?body ?done ?stop
 case assign=>
  intro l x V K hK;gi_wp2
  exact hK
 case body=>
  rintro l pre ⟨i,hi⟩ V ⟨h0,h1,h2,h3,h4,hB⟩ hlt;obtain⟨jq,jN⟩:=kz.o.nat hi
  have HST:Hid (oq (af sizes) (af vars) K vars.length ((pre++[(⟨i,hi⟩:At vars)]).map (·.1))=((oq (af sizes) (af vars) K vars.length (pre.map (·.1))).1/sz (af sizes) vars[i].toNat,(oq (af sizes) (af vars) K vars.length (pre.map (·.1))).2.set i ((oq (af sizes) (af vars) K vars.length (pre.map (·.1))).1 % sz (af sizes) vars[i].toNat))):=by
   show _=_;rw[dY,fH,j5,ace,D9,Bz (show i<(af vars).length by rw[dR];exact hi),rG hi]
  obtain⟨i7,hpl⟩:=alT (af sizes) (af vars) K vars.length (pre.map (·.1));have hz:=mh cU.o.pos vars[i].toNat;have Fz:=cU.o.sz_le vars[i].toNat;generalize hV:vars[i].toNat=v at *;rw[<- jq];obtain⟨g',o',rfl,gD,c1⟩:=(HS.o.aa hB) v jN;rw[<- cU.o.sz_eq jN] at c1
  have hg2:g'<w.heap.size:=by
   obtain⟨g3,o3,e3,h3,_⟩:=HS.o v jN;cases e3;exact h3
  clear jq hV;generalize oq (af sizes) (af vars) K vars.length (pre.map (·.1))=st at *;obtain⟨p,Ea⟩:=st;simp only at h1 h2 i7 hpl HST;generalize sz (af sizes) v=s0 at *;have hrow:=h2.cell i (by omega);have hfz:=h2.fz i;have k0:=h0.cell;have k1:=h1.cell;have k3:=h3.cell;have f1:=h1.frozen;have Da:(p:Int) % (s0:Int)=((p % s0:Nat):Int):=(rD _ _).symm;have oQ:(p:Int)/(s0:Int)=((p/s0:Nat):Int):=(vX _ _).symm;have hm1:p % s0<=65536:=aM (Nat.mod_le _ _) (by omega);have a7:p/s0<=65536:=aM (vQ _ _) (by omega);generalize p % s0=mm at *;generalize p/s0=dd at *;have hz1:¬(s0:Int)=0:=by omega
  have aiV:¬w.heap.size+1+1=w.heap.size+1:=by omega
  have anc:¬w.heap.size+1=w.heap.size+1+1:=by omega
  have jr:i<Ea.length:=by omega
  generalize Ea[i]=z at *;have hw1:IntKind.i64.wrap ((p:Int) % (s0:Int))=(p:Int) % (s0:Int):=by rw[Da,gV];omega
  have hw2:IntKind.i64.wrap ((p:Int)/(s0:Int))=(p:Int)/(s0:Int):=by rw[oQ,gV];omega
  have Gx:=hid Da;have xJ:=hid oQ;clear Da oQ;clear hmk b0 b1 r2 b3 b4 hB0 wQ Ds sI kz cU HV hsm hK hpl;gi_wp2_with fail
  refine wC (fun u=>u.cell? ⟨w.heap.size+1+1+1,0,none⟩=some (.slice (some ⟨w.heap.size+1+1,0,none⟩) vars.length vars.length)/\u.cell? ⟨w.heap.size+1,0,none⟩=some (.int .i64 (p:Nat))/\u.cell? ⟨w.heap.size,0,none⟩=some (.slice (some ⟨g',o',none⟩) sizes.length ca)/\u.cell? ⟨g',o'+v,none⟩=some (.int .i64 (s0:Nat))) (by kernel_rfl) (by kernel_rfl) (fun ⟨_,_,h⟩=>h) ⟨k3,k1,k0,c1⟩ ?_;intro ah;refine dm 0 (.slice (some ⟨w.heap.size+1+1,0,none⟩) vars.length vars.length) ?_ ?_
  ·intro u aS;obtain⟨s1,s2,s3,s4⟩:=aS;simp only[gE];go_simp
  simp only[gE,aP];refine dm 1 (.int .i64 (i:Nat)) ?_ ?_
  ·intro u aS;obtain⟨s1,s2,s3,s4⟩:=aS;simp only[gE];go_simp
  simp only[gE,aP];refine dm 2 (.int .i64 (p:Nat)) ?_ ?_
  ·intro u aS;obtain⟨s1,s2,s3,s4⟩:=aS;simp only[gE];go_simp
  simp only[gE,aP];refine dm 3 (.slice (some ⟨g',o',none⟩) sizes.length ca) ?_ ?_
  ·intro u aS;obtain⟨s1,s2,s3,s4⟩:=aS;simp only[gE];go_simp
  simp only[gE,aP];refine dm 4 (.int .i64 (v:Nat)) ?_ ?_
  ·intro u aS;obtain⟨s1,s2,s3,s4⟩:=aS;simp only[gE];go_simp
  simp only[gE,aP];refine dm 5 (.pointer (some ⟨g',o'+v,none⟩)) ?_ ?_
  ·intro u aS;obtain⟨s1,s2,s3,s4⟩:=aS;simp only[gE];go_simp
  simp only[gE,aP];refine dm 6 (.int .i64 (s0:Nat)) ?_ ?_
  ·intro u aS;obtain⟨s1,s2,s3,s4⟩:=aS;simp only[gE];go_simp
  simp only[gE,aP];refine dm 7 (.int .i64 ((p:Int) % (s0:Int))) ?_ ?_
  ·intro u aS;obtain⟨s1,s2,s3,s4⟩:=aS;simp only[gE];go_simp;rw[aD (show ¬s0=0 by omega),Int.tmod_eq_emod_of_nonneg (KZ _)]
  simp only[gE,aP];refine dm 8 (.pointer (some ⟨w.heap.size+1+1,i,none⟩)) ?_ ?_
  ·intro u aS;obtain⟨s1,s2,s3,s4⟩:=aS;simp only[gE];go_simp
  simp only[gE,aP];refine aI [9] (cA ?_ aH);intro K' hK';simp only[gE];go_simp;have far:∀(b j:Nat) (y:Value),¬w.heap.size+1+1=b ->(V.setCell ⟨w.heap.size+1+1,i,none⟩ y).drew.cell? ⟨b,j,none⟩=V.cell? ⟨b,j,none⟩:=fun b j y hb=>dX _ _ _ _ (fun e=>hb (by cases e;rfl));refine hK'.o _ _ ⟨(far _ _ _ (by omega)).trans k3,(far _ _ _ (by omega)).trans k1,(far _ _ _ (by omega)).trans k0,(far _ _ _ (by omega)).trans c1⟩ (fun _=>dW (by kernel_rfl) ?_ _);clear hK' K' ah;have m0:=(far w.heap.size 0 (.int .i64 ((p:Int) % (s0:Int))) (by omega)).trans k0;have m1:=(far (w.heap.size+1) 0 (.int .i64 ((p:Int) % (s0:Int))) (by omega)).trans k1;have m2:=(far g' (o'+v) (.int .i64 ((p:Int) % (s0:Int))) (by omega)).trans c1;have hr1:=h2.set i mm;rw[<- Gx.o] at hr1;have q0:Boxed (V.setCell ⟨w.heap.size+1+1,i,none⟩ (.int .i64 ((p:Int) % (s0:Int)))).drew w.heap.size 27 (.slice (some ⟨g',o',none⟩) sizes.length ca):=fS h0 _ i _ (by omega);have q1:Boxed (V.setCell ⟨w.heap.size+1+1,i,none⟩ (.int .i64 ((p:Int) % (s0:Int)))).drew (w.heap.size+1) 3 (.int .i64 (p:Nat)):=fS h1 _ i _ (by omega);have q3:Boxed (V.setCell ⟨w.heap.size+1+1,i,none⟩ (.int .i64 ((p:Int) % (s0:Int)))).drew (w.heap.size+1+1+1) 27 (.slice (some ⟨w.heap.size+1+1,0,none⟩) vars.length vars.length):=fS h3 _ i _ (by omega);have q4:Boxed (V.setCell ⟨w.heap.size+1+1,i,none⟩ (.int .i64 ((p:Int) % (s0:Int)))).drew (w.heap.size+1+1+1+1) 27 (.slice b vars.length cb):=fS h4 _ i _ (by omega)
  have q2:cN (V.setCell ⟨w.heap.size+1+1,i,none⟩ (.int .i64 ((p:Int) % (s0:Int)))).drew (w.heap.size+1+1) (Ea.set i mm):=hr1;have qB:Below w.heap.size w (V.setCell ⟨w.heap.size+1+1,i,none⟩ (.int .i64 ((p:Int) % (s0:Int)))).drew:=(hB.setCell (p:=⟨w.heap.size+1+1,i,none⟩) (by simp;omega) _).drew;have qK:Below w.heap.size V (V.setCell ⟨w.heap.size+1+1,i,none⟩ (.int .i64 ((p:Int) % (s0:Int)))).drew:=((aw w.heap.size V).setCell (p:=⟨w.heap.size+1+1,i,none⟩) (by simp;omega) _).drew;have qO:KeepsOthers V (V.setCell ⟨w.heap.size+1+1,i,none⟩ (.int .i64 ((p:Int) % (s0:Int)))).drew:=(ji V _ _).trans (ym _);have fU:=q1.frozen;have j4:mK (w.heap.size+1+1+1+1) V (V.setCell ⟨w.heap.size+1+1,i,none⟩ (.int .i64 ((p:Int) % (s0:Int)))).drew:=q4.cell.trans h4.cell.symm;clear far;generalize (V.setCell ⟨w.heap.size+1+1,i,none⟩ (.int .i64 ((p:Int) % (s0:Int)))).drew=U at *;gi_wp2_with fail
  refine wC (fun u=>u.cell? ⟨w.heap.size,0,none⟩=some (.slice (some ⟨g',o',none⟩) sizes.length ca)/\u.cell? ⟨g',o'+v,none⟩=some (.int .i64 (s0:Nat))) (by kernel_rfl) (by kernel_rfl) (fun ⟨_,_,h⟩=>h) ⟨m0,m2⟩ ?_;intro ah;refine dm 1 (.slice (some ⟨g',o',none⟩) sizes.length ca) ?_ ?_
  ·intro u aS;obtain⟨s3,s4⟩:=aS;simp only[gE];go_simp
  simp only[gE,aP];refine dm 2 (.int .i64 (v:Nat)) ?_ ?_
  ·intro u aS;obtain⟨s3,s4⟩:=aS;simp only[gE];go_simp
  simp only[gE,aP];refine dm 3 (.pointer (some ⟨g',o'+v,none⟩)) ?_ ?_
  ·intro u aS;obtain⟨s3,s4⟩:=aS;simp only[gE];go_simp
  simp only[gE,aP];refine dm 4 (.int .i64 (s0:Nat)) ?_ ?_
  ·intro u aS;obtain⟨s3,s4⟩:=aS;simp only[gE];go_simp
  simp only[gE,aP];refine aI [0] (cA ?_ aH);intro K' hK';simp only[gE];go_simp;refine hK'.o _ _ ah (fun _=>?_);clear hK' K';refine dm 5 (.int .i64 ((p:Int)/(s0:Int))) ?_ ?_
  ·intro u aS;obtain⟨s3,s4⟩:=aS;simp only[gE];go_simp;omega
  simp only[gE,aP];refine aI [6] (cA ?_ aH);intro K' hK';simp only[gE];go_simp;refine hK'.o _ _ ⟨(fS q0 (w.heap.size+1) 0 _ (by omega)).cell,(dX _ _ _ _ (fun e=>(show ¬w.heap.size+1=g' by omega) (dt Addr.block e))).trans m2⟩ (fun _=>dW (by kernel_rfl) ?_ _);clear hK' K' ah;gi_wp2
  rw[xJ.o];refine⟨(qO.trans ((ji U _ _).trans (ym _))).from _,⟨j4.t ((fS q4 (w.heap.size+1) 0 (.int .i64 (dd:Nat)) (by omega)).cell.trans q4.cell.symm),(qK.setCell (p:=⟨w.heap.size+1,0,none⟩) (by simp) _).drew⟩,?_⟩;refine⟨fS q0 _ 0 _ (by omega),?_,?_,fS q3 _ 0 _ (by omega),fS q4 _ 0 _ (by omega),(qB.setCell (p:=⟨w.heap.size+1,0,none⟩) (by simp) _).drew⟩
  ·rw[HST.o];exact q1.set _
  ·rw[HST.o];exact q2.off _ 0 _ (by omega)
 case done=>
  rintro D ys V hD AG ⟨h0,h1,h2,h3,h4,hB⟩ hK;rw[AG,sI.o] at h2;have hc:=h3.cell;gi_wp2
  refine⟨by simp,.inl ⟨_,_,rfl,x5 hK,?_⟩⟩;refine⟨_,x6 rfl _ _ _,?_⟩;refine⟨w.heap.size+1+1,⟨vars.length,rfl⟩,by omega,?_,hB.trans (sK (w:=w) (ak _) V D _ _ (by omega) hK rfl rfl)⟩;have h2':cN (V.putObj D (.deferred none)) (w.heap.size+1+1) (kR (af sizes) (af vars) K):=Lh (w.heap.size+1+1) (fun (_:Unit)=>kR (af sizes) (af vars) K) () V _ (some D) h2 (grownBy_putObj' V D _) (fun r e=>by cases e;exact⟨_,hK,rfl⟩);exact h2'
 case stop=>
  rintro D c pre V _ _ h _;exact h.elim
theorem ad3 (a b:Option Addr) (ca cb K:Nat) (sizes vars:List Int) (w:World) (hs:aC w a sizes) (hv:aC w b vars) (aN:eK sizes) (aT:Up vars sizes.length) (hK:K<cnt (af sizes) (af vars)):
  Calls Tryz.prog 150 #[.slice a sizes.length ca,.slice b vars.length cb,.int .i64 (K:Nat)] w fun e w'=>∃(g:Nat) (cc:Nat),e=.returned (.tuple #[.slice (some ⟨g,0,none⟩) vars.length cc,.int .i64 0])/\w.heap.size<=g/\cN w' g (kR (af sizes) (af vars) K)/\Below w.heap.size w w':=by
 have pI:=aN.eight;have iA:=aT.length;have HS:=hid hs;have HV:=hid hv;have hcb:countB sizes vars=true:=Nl aN aT;have HC:=hid (fun V h1 h2=>Po a b ca cb sizes vars V h1 h2 (by omega) (by omega));rw[Gc hcb] at HC;simp only at HC;have HA:=hid (fun V h1 h2=>alQ a b ca cb sizes vars K V h1 h2 aN aT hK);have Ds:(kR (af sizes) (af vars) K).length=vars.length:=by rw[abG,dR]
 rw[Ds] at HA;clear hs hv hcb aN aT Ds;generalize kR (af sizes) (af vars) K=ds at *;generalize cnt (af sizes) (af vars)=N0 at *;have hk0:(0:Int)<=(K:Int):=by omega
 have IX:(K:Int)<(N0:Int):=by omega
 go_enter Tryz.func150,Tryz.ntmps150;go_wp2_with fail
 refine(HC.o _ HS.o HV.o).ae ?_;rintro e w1 ⟨rfl,hb1⟩;go_wp2_with fail
 refine(HA.o _ (HS.o.aa hb1) (HV.o.aa hb1)).ae ?_;rintro e w2 ⟨c,cc,rfl,hge,A3,hb2⟩;have hs1:=hb1.size;go_wp2;go_ret2;exact⟨c,cc,rfl,by omega,A3,hb1.trans (hb2.ae hb1.size)⟩
end
variable {K:Act ->World ->Prop} {Ab:Nat}
theorem aer {ad:Addr} (hi:aC w (some ad) la):∀j u,(la.map (Value.int .i64))[j]? =some u ->w.cell? (ad.add j)=some u:=by
 intro j u hj;rw[mS] at hj;cases hq:la[j]? with
 |none=>rw[hq] at hj;cases hj
 |some z=>
  rw[hq] at hj;cases hj;obtain⟨IZ,Rv⟩:=nG.1 hq;obtain⟨g,o',e,_,hc⟩:=hi j IZ;cases e;rw[<- Rv];rw[Addr.add];by_cases h0:j=0
  ·subst h0;simpa using hc
  ·simpa [h0] using hc
theorem aaf {cs:Array Value} (h:w.heap[g]? =some (.cells cs 3 (0,0))) (hl:∀j (hj:j<l.length),cs[j]? =some (.int .i64 l[j])):Holds (Value.int .i64) w g 0 l.toArray:=fun j hj=>by
 have hj':j<l.length:=by simpa using hj
 refine⟨?_,kZ w g (0+j) _ _ h⟩;rw[bI,bE w g j _ _ (0,0) h,hl j hj',GZ l.toArray j hj];simp
theorem ade {o:Oper} {a:Act} (s x:Operand)
  (ho:o.op=.call {callee:=.builtin .append,args:= #[s,x],argTypes:= #[27,27]}) (gb:Nat) (z:Int) (la:List Int) (hs:a.eval s=.slice (some ⟨gb,0,none⟩) 1 1) (hown:w.heap[gb]? =some (.cells #[.int .i64 z] 3 (0,0))) (p:Option Addr) (ca:Nat) (hx:a.eval x=.slice p la.length ca) (hi:aC w p la) (hp:p=none ->ca=0) (hlen:la.length<=100000)
  (h:∀D cap w',(D=gb∨w.heap.size<=D) ->D<w'.heap.size ->Holds (Value.int .i64) w' D 0 ([z]++la).toArray ->w.grownBy w' (some gb) ->K (a.put o.dst (.slice (some ⟨D,0,none⟩) ([z]++la).length cap)) w'):o.wp Tryz.prog a w K Q:=by
 obtain⟨i0,bS,hz0,hz1,hz2⟩:=dK Tryz.infoInt;have hgb:gb<w.heap.size:=(cV.1 hown).1
 have wT:Holds (Value.int .i64) w gb 0 ([z]++[]).toArray:=aaf hown fun j hj=>by
  have:j=0:=by simp at hj;omega
  subst this;rfl
 have hnil:∀(km:la=[]),K (a.put o.dst (.slice (some ⟨gb,0,none⟩) 1 1)) w:=fun km=>by
  subst km;exact h gb 1 w (.inl rfl) hgb wT ⟨rfl,rfl,rfl,ak _,fun _ _ _=>rfl⟩
 cases p with
 |none=>
  have hl:la=[]:=by
   cases la with
   |nil=>rfl
   |cons x l=>obtain⟨g,o,e,_⟩:=hi 0 (by simp);cases e
  have h0:=hp rfl;have hk:=hnil hl;subst hl h0;have hrow:w.ownsRow gb 3 1 (.slice (some ⟨gb,0,none⟩) 1 1) 1 [.int .i64 z]:=⟨rfl,.inr ⟨gb,1,_,rfl,ak _,hown,ak _,by unfold maxLen;omega,rfl,rfl⟩⟩;have hrun:=run_append_owned_none (P:=Tryz.prog) (w:=w) gb 27 o.type 3 i0 1 Tryz.underlying27 bS (.slice (some ⟨gb,0,none⟩) 1 1) 1 _ hrow;unfold Oper.wp;simp[execOp,ho,resolve,invoke,builtin,hs,hx,hrun,Result.andThen];exact hk
 |some ad=>
  have hnews:=aer hi;have hl:(la.map (Value.int .i64)).length=la.length*i0.size:=by rw[hz1];simp
  by_cases km:la=[]
  ·have hk:=hnil km;subst km;have hrun:=run_append_room_cells (P:=Tryz.prog) (w:=w) 27 o.type 3 i0 Tryz.underlying27 bS gb 0 1 1 ad 0 ca [] (by simp) (by simp) (by simp) (ak _) (by simp) (by simp);unfold Oper.wp execOp;simp only[ho,resolve,invoke,builtin,Cp,vN,tY,Cx,fH,j5,hs,hx,jG,hrun];exact hk
  ·have lF:0<la.length:=KT.2 km
   have hrun:=run_append_grow (P:=Tryz.prog) w 27 o.type 3 i0 (.int .i64 0) Tryz.underlying27 bS hz0 ⟨gb,0,none⟩ 1 1 [.int .i64 z] (by rw[hz1];rfl) (fun j u hj=>by
    match j,hj with
    |0,hj=>cases hj;rw[show (⟨gb,0,none⟩:Addr).add 0=⟨gb,0,none⟩ from rfl,bE w gb 0 _ _ (0,0) hown];rfl
    |j+1,hj=>simp at hj) ad la.length ca (la.map (Value.int .i64)) hl hnews (by omega) (by omega) (KI (by omega) (by rw[hz2];omega))
   unfold Oper.wp execOp;simp only[ho,resolve,invoke,builtin,Cp,vN,tY,Cx,fH,j5,hs,hx,hrun];have hh:=h w.heap.size (grownCap w (1+la.length) 1 3) (w.drew.alloc (.cells ([Value.int .i64 z].toArray++(la.map (Value.int .i64)).toArray++Builtin.zeroCells (Value.int .i64 0).cells (grownCap w (1+la.length) 1 3 - (1+la.length))) 3)) (.inr (ak _)) (by simp) ?_ ⟨rfl,rfl,rfl,by simp,fun _ hk _=>qg w.drew _ _ hk⟩
   ·have e:([z]++la).length=1+la.length:=by simp;omega
    rw[e] at hh;exact hh
   ·refine aaf (fP w.drew _) fun j hj=>?_;rw[Array.getElem?_append_left (by simp at hj⊢;omega)];simp only[kF,List.getElem?_toArray];rw[show [Value.int .i64 z]++la.map (Value.int .i64)=([z]++la).map (Value.int .i64) by simp,mS,ba hj];rfl
theorem ae1 (g cap:Nat) (l:List Int) (w:World) (hh:Holds (Value.int .i64) w g 0 l.toArray) (hg:g<w.heap.size) (hl:l.length<=100000):
  Calls Tryz.prog 149 #[.slice (some ⟨g,0,none⟩) l.length cap] w fun e w'=>e=.returned (.slice (some ⟨g,0,none⟩) l.length cap)/\aC w' (some ⟨g,0,none⟩) (l.mergeSort fun x y=>decide (x<=y))/\w.grownBy w' (some g):=by
 have Uc:=hid (Tryz.slices_Sort_int g 0 cap l w hh hg (by omega));have hlen:(l.mergeSort fun x y=>decide (x<=y)).length=l.length:=KU _;generalize (l.mergeSort fun x y=>decide (x<=y))=zs at *;have HH:=hid hh;clear hh;go_enter Tryz.func149,Tryz.ntmps149;go_wp2_with fail
 refine Uc.o.ae ?_;rintro e w2 ⟨rfl,q,os,rfl⟩;have hsz:zs.toArray.size=l.toArray.size:=by simp;exact hlen
 have Bl:Holds (Value.int .i64) (grow (putRow (Value.int .i64) (Sort.ahead w q) g 0 zs.toArray) os) g 0 zs.toArray:=fun j hj=>by
  obtain⟨h1,h2⟩:=holds_putRow (Value.int .i64) (Sort.ahead w q) g 0 _ zs.toArray HH.o hsz j hj;have fQ:g<(putRow (Value.int .i64) (Sort.ahead w q) g 0 zs.toArray).heap.size:=by rw[size_putRow];exact hg
  refine⟨(cell?_grow _ _ _ fQ).trans h1,?_⟩;rw[frozen?_grow _ _ _ fQ];exact h2
 have hgr:=KJ (w:=w) (g:=g) (n:=q) (os:=os) zs.toArray;have I2:g<(grow (putRow (Value.int .i64) (Sort.ahead w q) g 0 zs.toArray) os).heap.size:=aR hg hgr.size;generalize grow (putRow (Value.int .i64) (Sort.ahead w q) g 0 zs.toArray) os=w2 at *;have UL:=hid Bl;clear Bl;go_wp2;go_ret;exact⟨rfl,FQ UL.o I2 (fun j hj=>⟨by simpa using hj,by simp⟩),hgr⟩
structure GV (w:World) (x y z:Value) (G D C Ab:Nat) (S:List Nat) (U:List Int) (wr:World) (F:List Fr) (A:List Nat):Prop where
 gk:GK w wr x y z
 szs:cN wr G S
 us:aC wr (some ⟨D,0,none⟩) U
 cs:jw wr C F
 vs:cN wr Ab A
 oG:w.heap.size+2<=G
 oD:w.heap.size+2<=D
 oGC:G<C
 oDC:D<C
 oCA:C<Ab
theorem GV.step {G C:Nat} {U:List Int} {F:List Fr} {A:List Nat} (h:GV w x y z G D C Ab S U wr F A) (hb:Below wr.heap.size wr wr'):GV w x y z G D C Ab S U wr' F A:=
 ⟨h.gk.step hb,h.szs.aa hb h.szs.lt,h.us.aa hb,h.cs.aa hb h.cs.lt,h.vs.aa hb h.vs.lt,h.oG,h.oD,h.oGC,h.oDC,h.oCA⟩
theorem aC.far {o:Nat} (h:aC w (some ⟨g,o,none⟩) l) (b j:Nat) (y:Value) (hne:g≠b):aC (w.setCell ⟨b,j,none⟩ y) (some ⟨g,o,none⟩) l:=fun k hk=>by
 obtain⟨g',o',e,h2,h3⟩:=h k hk;cases e;exact⟨g,o,rfl,by simpa using h2,(dX _ _ _ _ (fun e=>hne (by cases e;rfl))).trans h3⟩
theorem GK.far (h:GK w V x y z) (b j:Nat) (u:Value) (hb:w.heap.size+2<=b):GK w (V.setCell ⟨b,j,none⟩ u) x y z:=
 ⟨⟨(iU V ⟨b,j,none⟩ u w.heap.size (by show w.heap.size≠b;omega)).trans h.1.1,h.1.2.setCell (p:=⟨b,j,none⟩) (by show w.heap.size<=b;omega) u⟩,h.2.off b j u (by omega)⟩
theorem GV.setA {G C:Nat} {U:List Int} {F:List Fr} {A:List Nat} (h:GV w x y z G D C Ab S U wr F A) (j k:Nat):GV w x y z G D C Ab S U (wr.setCell ⟨Ab,j,none⟩ (.int .i64 (k:Nat))) F (A.set j k):=by
 have:=h.oG;have:=h.oD;have:=h.oGC;have:=h.oDC;have:=h.oCA;exact⟨h.gk.far _ _ _ (by omega),h.szs.off _ _ _ (by omega),h.us.far _ _ _ (by omega),h.cs.off _ _ _ (by omega),h.vs.set _ _,h.oG,h.oD,h.oGC,h.oDC,h.oCA⟩
theorem GV.setC {G C:Nat} {U:List Int} {F:List Fr} {A:List Nat} (h:GV w x y z G D C Ab S U wr F A) (k:Nat) (f:Fr):GV w x y z G D C Ab S U (((wr.setCell ⟨C,k*3,none⟩ (.bool f.1)).setCell ⟨C,k*3+1,none⟩ (.string f.2.1)).setCell ⟨C,k*3+2,none⟩ (.string f.2.2)) (F.set k f) A:=by
 have:=h.oG;have:=h.oD;have:=h.oGC;have:=h.oDC;have:=h.oCA;exact⟨((h.gk.far _ _ _ (by omega)).far _ _ _ (by omega)).far _ _ _ (by omega),((h.szs.off _ _ _ (by omega)).off _ _ _ (by omega)).off _ _ _ (by omega),((h.us.far _ _ _ (by omega)).far _ _ _ (by omega)).far _ _ _ (by omega),h.cs.put k f,((h.vs.off _ _ _ (by omega)).off _ _ _ (by omega)).off _ _ _ (by omega),h.oG,h.oD,h.oGC,h.oDC,h.oCA⟩
variable {fn:Func}
theorem dw.check {t:Tb} (h:dw S S.length t) (hf:eK (iL S)):kp (iL S) t.1 t.2.length=0:=abZ (Nl hf (by rw[bF];exact h.up)) (by rw[iV];exact h.len)
theorem dw.small {t:Tb} (h:dw S S.length t) (hf:eK (iL S)):t.1.length<=8:=by
 have h1:=h.up.length;have h2:=hf.eight;rw[bF] at h2;omega
def BK (B:Nat) (t:Tb) (e:Ending) (w':World):Prop:=∃x y,e=.returned (.tuple #[.agg #[x,y],.int .i64 0])/\dM w' x y t/\∀R,R< B ->fk R t (x,y)
theorem r8.tb {B:Nat} {t:Tb} {e:Ending} (h:r8 B t.1 t.2 0 e w'):BK B t e w':=by
 obtain⟨b,c,cb,cc,h1,h2,h3,h4,h5⟩:=h;exact⟨_,_,h1,⟨b,c,cb,cc,rfl,rfl,h2,h3,h4.1⟩,fun R hR=>fk.new h4 h5 hR⟩
theorem ahq (a:Option Addr) (ca:Nat) (S:List Nat) (x y x' y':Value) (s t:Tb) (w:World) (aN:eK (iL S)) (hs:aC w a (iL S)) (h:dM w x y s) (h':dM w x' y' t) (ho:dw S S.length s) (ho':dw S S.length t) (hw:Cw 100000 s.2) (hw':Cw 100000 t.2):
  Calls Tryz.prog 161 #[.slice a S.length ca,.agg #[x,y],.agg #[x',y']] w fun e w'=>BK w.heap.size (wJ S s t) e w'/\Below w.heap.size w w':=by
 obtain⟨b,c,cb,cc,rfl,rfl,h1,h2,h3⟩:=h;obtain⟨b',c',gG,r5,rfl,rfl,k1,k2,k3⟩:=h';have e1:=aN.eight;rw[bF] at e1;have e2:=ho.small aN;have e3:=ho'.small aN;have:=ad7 a b c b' c' ca cb cc gG r5 (iL S) s.1 t.1 s.2 t.2 w hs h1 k1 h2 k2 (by rw[bF];omega) (by omega) (by omega) h3 k3 (ho.check aN) (ho'.check aN) hw hw';rw[bF,iV] at this;exact this.ae fun e w' hh=>⟨r8.tb (t:=wJ S s t) hh.1,hh.2⟩
theorem agL (w:World):dM (w.alloc (.cells #[.bool (cI 1),.string (nu 1),.string (de 1)] 32)) (.slice none 0 0) (.slice (some ⟨w.heap.size,0,none⟩) 1 1) Ay:=by
 have hnew:=fP w (.cells #[.bool (cI 1),.string (nu 1),.string (de 1)] 32);refine⟨none,_,0,1,rfl,rfl,(fun k hk=>absurd hk (by simp[Ay])),fun k hk=>?_,fun _=>rfl⟩;obtain rfl:k=0:=by simp[Ay] at hk;omega
 exact⟨_,0,rfl,(cV.1 hnew).1,(bE _ _ 0 _ _ (0,0) hnew).trans rfl,(bE _ _ 1 _ _ (0,0) hnew).trans rfl,(bE _ _ 2 _ _ (0,0) hnew).trans rfl⟩
theorem dM.putT {u v:Value} {t:Tb} (h:dM V x y t) (hb:bG V g u v) (hu:dA u) (hv:dA v) (hx':dA x') (y':Value):dM ((V.setCell ⟨g,0,none⟩ x').setCell ⟨g,1,none⟩ y') x y t:=by
 obtain⟨b,c,cb,cc,h1,h2,h3,h4,h5⟩:=h;exact⟨b,c,cb,cc,h1,h2,h3.putT hb hu hv hx' y',h4.putT hb hu hv hx' y',h5⟩
theorem dM.slices {t:Tb} (h:dM w x y t):dA x/\dA y:=by
 obtain⟨b,c,cb,cc,rfl,rfl,_⟩:=h;exact⟨slv _ _ _,slv _ _ _⟩
theorem bG.result1 (h:bG w g x y) {p:Tmp} (hr:fn.results= #[.cell p 39]) (tmps:Array Value) (hp:tmps.getD p undef=.pointer (some ⟨g,0,none⟩)):
  (results fn tmps).run Tryz.prog w=.ok (.agg #[x,y]) w:=EJ hr tmps w g _ _ _ _ hp h Tryz.underlying39 rfl (by kernel_rfl)
theorem Xv (a b:Option Addr) (ca cb:Nat) (S:List Nat) (P:List Tb) (D c:Nat) (w:World) (aN:eK (iL S)) (hs:aC w a (iL S)) (hP:gH w b P) (aV:eT S S.length P D c) (hpl:P.length<=1000) (hm:2*(B D).size+(B c).size+2<=8192):
  Calls Tryz.prog 105 #[.slice a S.length ca,.slice b P.length cb] w fun e w'=>∃x y,e=.returned (.agg #[x,y])/\dM w' x y (allT S P)/\Below w.heap.size w w':=by
 have eo:Pos S:=by have:=aN.pos;rwa [iV] at this
 have q8:Hid (∀U:World,Calls Tryz.prog 53 #[.int .i64 1] U fun e w'=>e=.returned (.agg #[.bool (cI 1),.string (nu 1),.string (de 1)])/\Below U.heap.size U w'):=fun U=>Ta (k:=1) (w:=U) 1 1 rfl (by decide) rfl
 have HML:Hid (∀(k:Nat) (hk:k<P.length) (x y x' y':Value) (U:World),Below w.heap.size w U ->dM U x y (allT S (P.take k)) ->dM U x' y' P[k] ->Calls Tryz.prog 161 #[.slice a S.length ca,.agg #[x,y],.agg #[x',y']] U fun e w'=>BK U.heap.size (allT S (P.take (k+1))) e w'/\Below U.heap.size U w'):=fun k hk x y x' y' U hU h1 h2=>by
  have h3:=aV.part eo hm k;have h4:=aV.cw eo hm P[k] (bY hk);have e:allT S (P.take (k+1))=wJ S (allT S (P.take k)) P[k]:=by rw[allT,gh hk,List.foldl_append];rfl
  rw[e];exact ahq a ca S x y x' y' _ _ U aN (hs.aa hU) h1 h2 h3.1 (aV.ok _ (bY hk)) (h3.2.up (by decide)) (h4.up (by decide))
 have HP:=hid hP;have H0:Hid (allT S (P.take 0)=Ay):=rfl;clear hs hP aV aN eo hm;obtain⟨T,hT⟩:∃T:Nat ->Tb,∀k,allT S (P.take k)=T k:=⟨fun k=>allT S (P.take k),fun _=>rfl⟩;have qW:Hid (T P.length=allT S P):=by show _=_;rw[<- hT,iR]
 simp only[hT] at HML H0;clear hT;go_enter Tryz.func105,Tryz.ntmps105;go_wp2_with fail
 have rW:=(aw w.heap.size w).alloc (ak _) (TC (.slice none 0 0) (.slice none 0 0));have FZ:=bG.at (w:=w) rfl (.slice none 0 0) (.slice none 0 0);refine(q8.o _).ae ?_;rintro e w2 ⟨rfl,hb2⟩;have hB2:=rW.trans (hb2.ae rW.size);have Sk:=FZ.aa hb2 FZ.lt;have SI:=hB2.alloc hB2.size (.cells #[.bool (cI 1),.string (nu 1),.string (de 1)] 32);have wT:=agL w2;have hs3:(w2.alloc (.cells #[.bool (cI 1),.string (nu 1),.string (de 1)] 32)).heap.size=w2.heap.size+1:=by simp
 have Jf:=Sk.alloc (.cells #[.bool (cI 1),.string (nu 1),.string (de 1)] 32);have kO:=SI.alloc SI.size (TC (.slice none 0 0) (.slice (some ⟨w2.heap.size,0,none⟩) 1 1));have Sj:=Jf.alloc (TC (.slice none 0 0) (.slice (some ⟨w2.heap.size,0,none⟩) 1 1));have Bg:=bG.at (w:=w2.alloc (.cells #[.bool (cI 1),.string (nu 1),.string (de 1)] 32)) hs3 (.slice none 0 0) (.slice (some ⟨w2.heap.size,0,none⟩) 1 1);have aae:=wT.aa ((aw _ _).alloc (ak _) (TC (.slice none 0 0) (.slice (some ⟨w2.heap.size,0,none⟩) 1 1)));have hlt:=Sk.lt;have ir:=hid kO;have zz:=hid Sj;have NF:=hid Bg;have N5:=hid aae;clear rW FZ hb2 hB2 Sk SI wT hs3 Jf kO Sj Bg aae;go_wp2_with fail
 go_loopw [13] (fun iv wr=>∃(i:Nat) (x y:Value),i<=P.length/\iv=.int .i64 i/\Hid (bG wr (w2.heap.size+1) x y)/\Hid (dM wr x y (T i))/\Hid (bG wr w.heap.size (.slice none 0 0) (.slice none 0 0))/\Hid (Below w.heap.size w wr)) (fun iv _=>P.length - (intOf iv).toNat)
 case atStart=>exact⟨0,_,_,aX _,rfl,NF,by rw[H0.o];exact N5,zz,ir⟩
 case round=>
  obtain⟨i,x,y,hi,rfl,HX,HV,HT,HB⟩:=hrel;clear NF N5 zz ir;obtain⟨Z1,Z0⟩:=HV.o.slices;obtain⟨x0,x1,xf0,xf1⟩:=HX.o.facts;by_cases hlt2:i<P.length
  ·obtain⟨g,o,p,q,rfl,hg,k0,k1,yR⟩:=(HP.o.aa HB.o) i hlt2;have hA:=(aw wr.heap.size wr).alloc (ak _) (TC p q);have cF:=hid (HB.o.trans (hA.ae HB.o.size));have jz:=hid (HX.o.alloc (TC p q));have o6:=hid (HT.o.alloc (TC p q));have bB:=bG.at (w:=wr) rfl p q;obtain⟨xa0,xa1,_,_⟩:=jz.o.facts;have b0:=bB.c0;have b1:=bB.c1;have HM:=hid (HML.o i hlt2 x y p q _ cF.o (HV.o.aa hA) (yR.aa hA));obtain⟨ps,pn,pc,rfl⟩:=yR.slices.1;obtain⟨qs,qn,qc,rfl⟩:=yR.slices.2;clear yR hA bB x0 x1 xf0 xf1;go_wp2_with fail
   refine HM.o.ae ?_;rintro e w3 ⟨⟨x2,y2,rfl,hv2,_⟩,hb3⟩;have mY:=jz.o.aa hb3 jz.o.lt;have Jf:=o6.o.aa hb3 o6.o.lt;have bV:=cF.o.trans (hb3.ae cF.o.size);obtain⟨c0,c1,f0,f1⟩:=mY.facts;obtain⟨xs,xn,xc,rfl⟩:=hv2.slices.1;obtain⟨ys,yn,yc,rfl⟩:=hv2.slices.2;have zt:=hid (mY.put (.slice xs xn xc) (.slice ys yn yc));have NI:=hid (hv2.putT mY Z1 Z0 (slv xs xn xc) (.slice ys yn yc));have Gr:Hid (bG ((w3.setCell ⟨w2.heap.size+1,0,none⟩ (.slice xs xn xc)).setCell ⟨w2.heap.size+1,1,none⟩ (.slice ys yn yc)) w.heap.size (.slice none 0 0) (.slice none 0 0)):=(Jf.off _ _ _ (by omega)).off _ _ _ (by omega);have fG:=hid (tI (g:=w2.heap.size+1) bV (by omega) (.slice xs xn xc) (.slice ys yn yc));clear hv2 hb3 mY Jf bV HM xa0 xa1 b0 b1 k0 k1;go_wp2;go_roundw
   case rel=>exact⟨i+1,_,_,by omega,by go_num,zt,NI,Gr,fG⟩
   case measure=>simp[intOf];omega
  ·obtain rfl:i=P.length:=by omega
   rw[qW.o] at HV;obtain⟨t0,t1,f0,f1⟩:=HT.o.facts;obtain⟨xs,xn,xc,rfl⟩:=Z1;obtain⟨ys,yn,yc,rfl⟩:=Z0;have zG:=hid (HT.o.put (.slice xs xn xc) (.slice ys yn yc));have zu:=hid (HV.o.putT HT.o (slv _ _ _) (slv _ _ _) (slv xs xn xc) (.slice ys yn yc));have ir:=hid (tI HB.o (ak _) (.slice xs xn xc) (.slice ys yn yc));go_wp2;refine dh (zG.o.result1 rfl _ rfl) rfl ?_;exact⟨_,_,rfl,zu.o,ir.o⟩
end Go.Proofs.YtfgkjjlocjmfeaaGreatDoor
