/- Part3: part 3. -/
import Derived.Test.YtdnhgjeihdllbaaGreatDoorSide2
set_option maxRecDepth 100000
set_option maxHeartbeats 4000000
set_option linter.unusedSimpArgs false
set_option linter.unusedVariables false
namespace Go.Proofs.YtdnhgjeihdllbaaGreatDoor
open Go.RowKit Go.Shelf
theorem akS (Bt Bf Bv:Nat) (c:Option Addr) (cc:Nat) (lb:Array Value) (l:List Fr) (k val P:Nat) (hP:P<l.length) (w:World) (ub:Bt<w.heap.size) (xc:w.cell? ⟨Bt,1,none⟩=some (.slice c l.length cc)) (A7:Bf<w.heap.size) (xf:w.cell? ⟨Bf,0,none⟩=some (.func (.func 200) #[] lb)) (y6:Bv<w.heap.size) (xv:w.cell? ⟨Bv,0,none⟩=some (.int .i64 (val:Nat))) (hf:bZ w c l) (h1:Cw 100000 l)
  (hc:∀V,Below w.heap.size w V ->Calls Tryz.prog 200 (#[.int .i64 (k:Nat),.int .i64 (val:Nat)]++lb) V fun e w'=>e=.returned (.int .i64 (P:Nat))/\Below V.heap.size V w'):
  Calls Tryz.prog 157 #[.int .i64 (k:Nat),.pointer (some ⟨Bt,0,none⟩),.pointer (some ⟨Bf,0,none⟩),.pointer (some ⟨Bv,0,none⟩)] w fun e w'=>e=.returned (dP (qF (aT (bA l P))))/\Below w.heap.size w w':=by
 obtain⟨g,o,rfl,hg,a0,a1,a2⟩:=hf P hP;have hsz:=h1 P hP;rw[<- pz hP] at a0 a1 a2;have HW:=hid hc;have HC:=hid (fun V:World=>Qw (w:=V) (aT (bA l P)) rfl (show (bA l P).2.1.size+(bA l P).2.2.size<=100000 by omega));rw[K4];generalize aT (bA l P)=r at *;clear hf hc h1 hsz;generalize bA l P=f at *;obtain⟨fn,fx,fy⟩:=f;simp only at a0 a1 a2 HC;have hb0:aC (w.alloc (FC false ⟨#[]⟩ ⟨#[]⟩)) w.heap.size false ⟨#[]⟩ ⟨#[]⟩:=aC.new w _ _ _;have hB:Below w.heap.size w (w.alloc (FC false ⟨#[]⟩ ⟨#[]⟩)):=(au _ w).alloc (ar _) _;go_enter Tryz.func157,Tryz.ntmps157;go_upto_region 1 with fail
 generalize (w.alloc (FC false ⟨#[]⟩ ⟨#[]⟩))=W at *;replace hb0:=hb0.drew;replace hB:=hB.drew;have held:∀u,Below w.heap.size w u ->u.cell? ⟨Bt,1,none⟩=some (.slice (some ⟨g,o,none⟩) l.length cc)/\u.cell? ⟨Bf,0,none⟩=some (.func (.func 200) #[] lb)/\u.cell? ⟨Bv,0,none⟩=some (.int .i64 (val:Nat))/\u.cell? ⟨g,o+P*3,none⟩=some (.bool fn)/\u.cell? ⟨g,o+P*3+1,none⟩=some (.string fx)/\u.cell? ⟨g,o+P*3+2,none⟩=some (.string fy):=fun u h=>⟨(h.cell (p:=⟨Bt,1,none⟩) ub).trans xc,(h.cell (p:=⟨Bf,0,none⟩) A7).trans xf,(h.cell (p:=⟨Bv,0,none⟩) y6).trans xv,(h.cell (p:=⟨g,_,none⟩) hg).trans a0,(h.cell (p:=⟨g,_,none⟩) hg).trans a1,(h.cell (p:=⟨g,_,none⟩) hg).trans a2⟩;have HELD:=hid held;clear held a0 a1 a2 xc xf xv;refine jJ (S:=fun u=>u.cell? ⟨Bt,1,none⟩=some (.slice (some ⟨g,o,none⟩) l.length cc)/\u.cell? ⟨Bf,0,none⟩=some (.func (.func 200) #[] lb)/\u.cell? ⟨Bv,0,none⟩=some (.int .i64 (val:Nat))/\u.cell? ⟨g,o+P*3,none⟩=some (.bool fn)/\u.cell? ⟨g,o+P*3+1,none⟩=some (.string fx)/\u.cell? ⟨g,o+P*3+2,none⟩=some (.string fy)) (by kernel_rfl) (HELD.o _ hB) (fun aq=>?_);generalize W.drew=u0 at *;refine aw 0 (.pointer (some ⟨Bt,1,none⟩)) ?_;refine aw 1 (.slice (some ⟨g,o,none⟩) l.length cc) ?_;refine aw 2 (.func (.func 200) #[] lb) ?_;refine aw 3 (.int .i64 (k:Nat)) ?_;refine aw 4 (.int .i64 (val:Nat)) ?_;refine aF [5] (cA ?_ aD);intro K' hK';go_simp;refine(HW.o _ hB).ae ?_;rintro e u1 ⟨rfl,hb⟩;replace hb0:=hb0.aa hb hb0.lt;replace hB:=hB.trans (hb.ae hB.size)
 refine hK'.o _ _ (HELD.o _ hB) (fun ak=>?_);clear hK' K' aq;have aq:=ak;clear ak hb;refine aw 6 (.pointer (some ⟨g,o+P*3,none⟩)) ?_;refine aw 7 (.agg #[.bool fn,.string fx,.string fy]) ?_;refine aF [8] (cA ?_ aD);intro K' hK';go_simp;refine(HC.o _).ae ?_;rintro e u2 ⟨rfl,hb⟩;replace hb0:=hb0.aa hb hb0.lt;replace hB:=hB.trans (hb.ae hB.size);refine hK'.o _ _ (HELD.o _ hB) (fun ak=>?_);clear hK' K' aq;have aq:=ak;clear ak hb;try simp only[gE,aP]
 obtain⟨k0,k1,k2,f0,f1,f2⟩:=hb0.facts;refine aF [9] (cA ?_ aD);intro K' hK';go_simp;have hput:=hb0.put (aH r) (nu r) (de r);have hBp:=bF hB (g:=w.heap.size) (ar _) (.bool (aH r)) (.string (nu r)) (.string (de r));generalize (((u2.setCell ⟨w.heap.size,0,none⟩ (.bool (aH r))).setCell ⟨w.heap.size,1,none⟩ (.string (nu r))).setCell ⟨w.heap.size,2,none⟩ (.string (de r)))=v9 at *;refine hK'.o _ _ (HELD.o _ hBp) (fun _=>dW (by kernel_rfl) ?_ _);clear hK' K' aq;go_wp2;refine bB (hput.result rfl _ rfl) rfl ?_;exact⟨rfl,hBp⟩
theorem ahg (Bt Bf Bv:Nat) (c:Option Addr) (cc:Nat) (lb:Array Value) (l:List Fr) (k val P:Nat) (hP:P<l.length) (w:World) (ub:Bt<w.heap.size) (xc:w.cell? ⟨Bt,1,none⟩=some (.slice c l.length cc)) (A7:Bf<w.heap.size) (xf:w.cell? ⟨Bf,0,none⟩=some (.func (.func 200) #[] lb)) (y6:Bv<w.heap.size) (xv:w.cell? ⟨Bv,0,none⟩=some (.int .i64 (k:Nat))) (hf:bZ w c l)
  (hc:∀V,Below w.heap.size w V ->Calls Tryz.prog 200 (#[.int .i64 (k:Nat),.int .i64 (val:Nat)]++lb) V fun e w'=>e=.returned (.int .i64 (P:Nat))/\Below V.heap.size V w'):
  Calls Tryz.prog 206 #[.int .i64 (val:Nat),.pointer (some ⟨Bt,0,none⟩),.pointer (some ⟨Bf,0,none⟩),.pointer (some ⟨Bv,0,none⟩)] w fun e w'=>e=.returned (dP (bA l P))/\Below w.heap.size w w':=by
 obtain⟨g,o,rfl,hg,a0,a1,a2⟩:=hf P hP;rw[<- pz hP] at a0 a1 a2;have HW:=hid hc;clear hf hc;generalize bA l P=f at *;obtain⟨fn,fx,fy⟩:=f;simp only at a0 a1 a2;have hb0:aC (w.alloc (FC false ⟨#[]⟩ ⟨#[]⟩)) w.heap.size false ⟨#[]⟩ ⟨#[]⟩:=aC.new w _ _ _;have hB:Below w.heap.size w (w.alloc (FC false ⟨#[]⟩ ⟨#[]⟩)):=(au _ w).alloc (ar _) _;go_enter Tryz.func206,Tryz.ntmps206;go_upto_region 1 with fail
 generalize (w.alloc (FC false ⟨#[]⟩ ⟨#[]⟩))=W at *;replace hb0:=hb0.drew;replace hB:=hB.drew;have held:∀u,Below w.heap.size w u ->u.cell? ⟨Bt,1,none⟩=some (.slice (some ⟨g,o,none⟩) l.length cc)/\u.cell? ⟨Bf,0,none⟩=some (.func (.func 200) #[] lb)/\u.cell? ⟨Bv,0,none⟩=some (.int .i64 (k:Nat))/\u.cell? ⟨g,o+P*3,none⟩=some (.bool fn)/\u.cell? ⟨g,o+P*3+1,none⟩=some (.string fx)/\u.cell? ⟨g,o+P*3+2,none⟩=some (.string fy):=fun u h=>⟨(h.cell (p:=⟨Bt,1,none⟩) ub).trans xc,(h.cell (p:=⟨Bf,0,none⟩) A7).trans xf,(h.cell (p:=⟨Bv,0,none⟩) y6).trans xv,(h.cell (p:=⟨g,_,none⟩) hg).trans a0,(h.cell (p:=⟨g,_,none⟩) hg).trans a1,(h.cell (p:=⟨g,_,none⟩) hg).trans a2⟩;have HELD:=hid held;clear held a0 a1 a2 xc xf xv;refine jJ (S:=fun u=>u.cell? ⟨Bt,1,none⟩=some (.slice (some ⟨g,o,none⟩) l.length cc)/\u.cell? ⟨Bf,0,none⟩=some (.func (.func 200) #[] lb)/\u.cell? ⟨Bv,0,none⟩=some (.int .i64 (k:Nat))/\u.cell? ⟨g,o+P*3,none⟩=some (.bool fn)/\u.cell? ⟨g,o+P*3+1,none⟩=some (.string fx)/\u.cell? ⟨g,o+P*3+2,none⟩=some (.string fy)) (by kernel_rfl) (HELD.o _ hB) (fun aq=>?_);generalize W.drew=u0 at *;refine aw 0 (.pointer (some ⟨Bt,1,none⟩)) ?_;refine aw 1 (.slice (some ⟨g,o,none⟩) l.length cc) ?_;refine aw 2 (.func (.func 200) #[] lb) ?_;refine aw 3 (.int .i64 (k:Nat)) ?_;refine aw 4 (.int .i64 (val:Nat)) ?_;refine aF [5] (cA ?_ aD);intro K' hK';go_simp;refine(HW.o _ hB).ae ?_;rintro e u1 ⟨rfl,hb⟩;replace hb0:=hb0.aa hb hb0.lt;replace hB:=hB.trans (hb.ae hB.size)
 refine hK'.o _ _ (HELD.o _ hB) (fun ak=>?_);clear hK' K' aq;have aq:=ak;clear ak hb;refine aw 6 (.pointer (some ⟨g,o+P*3,none⟩)) ?_;refine aw 7 (.agg #[.bool fn,.string fx,.string fy]) ?_;try simp only[gE,aP]
 obtain⟨k0,k1,k2,f0,f1,f2⟩:=hb0.facts;refine aF [8] (cA ?_ aD);intro K' hK';go_simp;have hput:=hb0.put (fn) (fx) (fy);have hBp:=bF hB (g:=w.heap.size) (ar _) (.bool (fn)) (.string (fx)) (.string (fy));generalize (((u1.setCell ⟨w.heap.size,0,none⟩ (.bool (fn))).setCell ⟨w.heap.size,1,none⟩ (.string (fx))).setCell ⟨w.heap.size,2,none⟩ (.string (fy)))=v9 at *;refine hK'.o _ _ (HELD.o _ hBp) (fun _=>dW (by kernel_rfl) ?_ _);clear hK' K' aq;go_wp2;refine bB (hput.result rfl _ rfl) rfl ?_;exact⟨rfl,hBp⟩
variable {l other:List Int} {ca cb cc k m n v:Nat} {a:Option Addr} {V V' w:World}
def NR (w V:World) (T R:Nat) (u v:Value):Prop:=bh V T u v/\bh V R (.slice none 0 0) (.slice none 0 0)/\Below w.heap.size w V
theorem NR.step {T R:Nat} {u v:Value} (h:NR w V T R u v) (hb:Below V.heap.size V V'):NR w V' T R u v:=⟨h.1.aa hb h.1.lt,h.2.1.aa hb h.2.1.lt,h.2.2.trans (hb.ae h.2.2.size)⟩
theorem NR.off {T R:Nat} {u v:Value} (h:NR w V T R u v) (B j:Nat) (y:Value) (hT:T≠B) (hR:R≠B) (hB:w.heap.size<=B):NR w (V.setCell ⟨B,j,none⟩ y) T R u v:=⟨h.1.off B j y hT,h.2.1.off B j y hR,h.2.2.setCell (p:=⟨B,j,none⟩) hB y⟩
theorem NR.fin {T R:Nat} {u v:Value} (h:NR w V T R u v) (hR:w.heap.size<=R) {vars:List Int} {b:Option Addr} {l:List Fr} {G:Nat} (kK:eC w.heap.size b cb) (hgn:w.heap.size<=G) (hi:aaK V b vars) (hr:jY V G l) (hG:G≠R) (x y:Value) (hx:x=.slice b vars.length cb) (hy:y=.slice (some ⟨G,0,none⟩) l.length cc):
  bh ((V.setCell ⟨R,0,none⟩ x).setCell ⟨R,1,none⟩ y) R x y/\uh w.heap.size vars l 0 (.returned (.tuple #[.agg #[x,y],.int .i64 0])) ((V.setCell ⟨R,0,none⟩ x).setCell ⟨R,1,none⟩ y)/\Below w.heap.size w ((V.setCell ⟨R,0,none⟩ x).setCell ⟨R,1,none⟩ y):=by
 subst hx hy;exact⟨h.2.1.put _ _,⟨b,some ⟨G,0,none⟩,cb,cc,rfl,hi.putT h.2.1 (slv _ _ _) (slv _ _ _) (slv _ _ _) _,((hr.off _ 0 _ hG).off _ 1 _ hG).fr,kK,eC.at hgn⟩,mr h.2.2 hR _ _⟩
theorem pV:Up l n↔(∀x∈l,0<=x/\x<n)/\l.Pairwise (·<·):=by
 constructor
 ·intro h;refine⟨fun x hx=>?_,Cg.2 fun i j hi hj CP=>h.lt i j hj CP⟩;obtain⟨i,hi,rfl⟩:=iE hx;exact h.each i hi
 ·rintro⟨h1,h2⟩;exact⟨fun i hi=>h1 _ (bH hi),fun i j hj hi=>Cg.1 h2 i j (by omega) hj hi⟩
theorem tI {vars:List Int} (h:Up vars n) (v:Int):Up (bw vars v) n:=by
 rw[pV] at h⊢;exact⟨fun x hx=>h.1 x (abp.1 hx).1,h.2.filter _⟩
theorem N7 {vars:List Int} (h:Up vars n):¬v∈ag (bw vars (v:Int)):=fun hm=>by
 obtain⟨x,hx,e⟩:=aaQ.1 hm;have h1:=(pV.1 (tI h v)).1 x hx;have h2:=(abp.1 hx).2;simp at h2;omega
theorem ab7 (S vars rest:List Nat) (v x:Nat) (l:List Fr):(xz S vars rest v x l).length=cnt S rest:=by simp[xz]
theorem akR (S vars rest:List Nat) (v x:Nat) (l:List Fr) (h:k<(xz S vars rest v x l).length):(xz S vars rest v x l)[k]=qF (aT (bA l (pos S (aQ (aO S rest k) v x) vars))):=by simp[xz]
theorem ui.shape {W:World} {f:Value} {b:Option Addr} {sizes vars:List Int} (h:ui W n m f a b ca cb sizes vars other v):∃lb,f=.func (.func 200) #[] lb:=by
 obtain⟨_,_,_,he,_⟩:=h;exact⟨_,he⟩
theorem ui.top {W:World} {f:Value} {b:Option Addr} {sizes vars:List Int} (h:ui W n m f a b ca cb sizes vars other v):m<=W.heap.size:=by
 obtain⟨_,_,_,_,_,_,_,_,hm,_⟩:=h;exact hm
theorem ui.aa {W:World} {f:Value} {b:Option Addr} {sizes vars:List Int} (h:ui W n m f a b ca cb sizes vars other v) (hb:Below W.heap.size W V):ui V n m f a b ca cb sizes vars other v:=h.kept (zm.of_below hb h.top)
theorem Q3 {sizes vars rest:List Int} {x K:Nat} (hk:jr sizes vars m=0) (hK:K<cnt (ag sizes) (ag rest)) (hx:x<sz (ag sizes) v):pos (ag sizes) (aQ (aO (ag sizes) (ag rest) K) v x) (ag vars)<m:=by
 obtain⟨h1,h2,h3⟩:=xC hk;rw[h3];exact acP _ (adY (fun u=>nN h1.pos _ _ u hK) hx) _
theorem aeA (a b c:Option Addr) (ca cb cc:Nat) (sizes vars:List Int) (l:List Fr) (v x:Nat) (w:World) (hs:aaK w a sizes) (hv:aaK w b vars) (hf:bZ w c l) (hn:sizes.length<=140737488355328) (hm:vars.length<=140737488355328) (hk:jr sizes vars l.length=0) (hw:Cw 100000 l) (hv':v<sizes.length) (hx':x<sz (ag sizes) v):
  Calls Tryz.prog 97 #[.slice a sizes.length ca,.agg #[.slice b vars.length cb,.slice c l.length cc],.int .i64 (v:Nat),.int .i64 (x:Nat)] w fun e w'=>uh w.heap.size (bw vars (v:Int)) (xz (ag sizes) (ag vars) (ag (bw vars (v:Int))) v x l) 0 e w'/\Below w.heap.size w w':=by
 obtain⟨aJ,aX,hlc⟩:=xC hk;have td:=hid (fun V h=>aiM a ca sizes v x V h aJ hv');rw[cJ (show 0<=(x:Int)/\(x:Int)<(sz (ag sizes) v:Int) by omega)] at td;have hx4:x<=4:=by have:=aJ.sz_le v;omega
 have HCK:=fun V h1 h2=>Cm a b c ca cb cc l.length sizes vars V h1 h2 hn hm;rw[hk] at HCK;have HC:=hid HCK;clear HCK;have h0:(0:Int)<=(v:Int):=by omega
 have h1:(v:Int)<(sizes.length:Int):=by omega
 have hrl:(bw vars (v:Int)).length<=vars.length:=pR _ _;have S9:=aX.length;have nD:=aJ.eight;have HFI:=hid aJ;have gz:=hid aX;have Dt:=hid (tI aX (v:Int));have FQ:=hid (N7 (v:=v) aX);have mC:=hid (fun K (hK:K<cnt (ag sizes) (ag (bw vars (v:Int))))=>Q3 hk hK hx');have jR:=ab7 (ag sizes) (ag vars) (ag (bw vars (v:Int))) v x l;have BQ:=hid (fun (k:Nat) (h:k<(xz (ag sizes) (ag vars) (ag (bw vars (v:Int))) v x l).length)=>akR (ag sizes) (ag vars) (ag (bw vars (v:Int))) v x l h);have ku:=hid (fun V h=>Q1 b cb vars (v:Int) V h (by omega));generalize xz (ag sizes) (ag vars) (ag (bw vars (v:Int))) v x l=FL at *;generalize bw vars (v:Int)=rest at *;have HST:=hid (fun V d cd h1 h2=>Rt a d b ca cd cb sizes rest vars v V h1 h2 aJ aX hv');have HF:=hid hf;have HW:=hid hw;have kz:=hid jR;clear hx' hk aJ aX hlc hf hw jR;have HS:=hid hs;have HV:=hid hv;have hH:NR w (((w.alloc (TC (.slice b vars.length cb) (.slice c l.length cc))).alloc (.cells #[.int .i64 (x:Nat)] 3)).alloc (TC (.slice none 0 0) (.slice none 0 0))) w.heap.size (w.heap.size+1+1) (.slice b vars.length cb) (.slice c l.length cc):=⟨((bh.at (w:=w) rfl _ _).alloc _).alloc _,bh.at (by simp) _ _,(((au _ w).alloc (ar _) _).alloc (by simp) _).alloc (by simp;omega) _⟩
 have hX:Boxed (((w.alloc (TC (.slice b vars.length cb) (.slice c l.length cc))).alloc (.cells #[.int .i64 (x:Nat)] 3)).alloc (TC (.slice none 0 0) (.slice none 0 0))) (w.heap.size+1) 3 (.int .i64 (x:Nat)):=by
  have h:=(a7 (w.alloc (TC (.slice b vars.length cb) (.slice c l.length cc))) 3 (.int .i64 (x:Nat))).alloc (TC (.slice none 0 0) (.slice none 0 0));rwa [cN] at h
 have c0:=hH.1.c0;have c1:=hH.1.c1;go_enter Tryz.func97,Tryz.ntmps97;go_wp2_with fail
 generalize (((w.alloc (TC (.slice b vars.length cb) (.slice c l.length cc))).alloc (.cells #[.int .i64 (x:Nat)] 3)).alloc (TC (.slice none 0 0) (.slice none 0 0)))=W at *;refine(HC.o _ (HS.o.aa hH.2.2) (HV.o.aa hH.2.2)).ae ?_;rintro e w1 ⟨rfl,hb1⟩;replace hH:=hH.step hb1;replace hX:=aZ hX hb1;clear c0 c1 hb1;have cx:=hX.cell;go_wp2_with fail
 refine(td.o _ (HS.o.aa hH.2.2)).ae ?_;rintro e w2 ⟨rfl,hb2⟩;replace hH:=hH.step hb2;replace hX:=aZ hX hb2;clear cx hb2 td HC;have c0:=hH.1.c0;go_wp2_with fail
 refine(ku.o _ (HV.o.aa hH.2.2)).ae ?_;rintro e w3 ⟨d,cd,rfl,hi,kK,hb3⟩;have BR:=hid (kK.up hH.2.2.size);clear kK;replace hH:=hH.step hb3;replace hX:=aZ hX hb3;clear c0 hb3 ku;have c0:=hH.1.c0;go_wp2_with fail
 refine(HST.o _ d cd (HS.o.aa hH.2.2) (HV.o.aa hH.2.2)).ae ?_;rintro e w4 ⟨f,rfl,sH,hb4⟩;have hl3:=hH.2.1.lt;replace hH:=hH.step hb4;replace hX:=aZ hX hb4;replace hi:=hi.aa hb4;obtain⟨lb,rfl⟩:=sH.shape;have eM:=hb4.size;clear c0 hb4 HST;generalize w3.heap.size=n3 at *;have bD:Below w4.heap.size w4 (w4.alloc (.cells #[.func (.func 200) #[] lb] 100)):=(au _ w4).alloc (ar _) _;have hY:Boxed (w4.alloc (.cells #[.func (.func 200) #[] lb] 100)) w4.heap.size 100 (.func (.func 200) #[] lb):=a7 w4 _ _;replace hH:=hH.step bD;replace hX:=aZ hX bD;replace sH:=sH.aa bD;replace hi:=hi.aa bD;go_wp2_with fail
 clear bD;generalize (w4.alloc (.cells #[.func (.func 200) #[] lb] 100))=w5 at *;generalize w4.heap.size=Xc at *
 have sq:=K8 a d ca cd sizes rest 157 #[.pointer (some ⟨w.heap.size,0,none⟩),.pointer (some ⟨Xc,0,none⟩),.pointer (some ⟨w.heap.size+1,0,none⟩)] (enters_of Tryz.func157 (by kernel_rfl) rfl) FL w5 (HS.o.aa hH.2.2) hi HFI.o Dt.o kz.o (fun k hk V hb=>by
  rw[BQ.o k hk];have dH:k<cnt (ag sizes) (ag rest):=by rw[<- kz.o];exact hk
  have hB:=hH.2.2.trans (hb.ae hH.2.2.size);refine akS w.heap.size Xc (w.heap.size+1) c cc lb l k x _ (mC.o k dH) V (aR hH.1.lt hb.size) ((hb.cell (p:=⟨w.heap.size,1,none⟩) hH.1.lt).trans hH.1.c1) (aR hY.lt hb.size) (aZ hY hb).cell (aR hX.lt hb.size) (aZ hX hb).cell (HF.o.aa hB) HW.o ?_;intro V' hb';have hb2:=hb.trans (hb'.ae hb.size);exact((sH.aa hb2).calls (HS.o.aa (hB.trans (hb'.ae hB.size))) (hi.aa hb2) HFI.o Dt.o gz.o FQ.o dH hx4))
 have BP:=hid sq;clear sq;refine BP.o.ae ?_;rintro e w6 ⟨G,rfl,hG,hrow,bD⟩;have hl6:=hH.2.1.lt;replace hH:=hH.step bD;replace hi:=hi.aa bD;obtain⟨k0,k1,f0,f1⟩:=hH.2.1.facts;obtain⟨e1,e2,e3⟩:=hH.fin (by omega) (cb:=cd) (cc:=FL.length) BR.o (by omega) hi hrow (by omega) (.slice d rest.length cd) (.slice (some ⟨G,0,none⟩) FL.length FL.length) rfl rfl;go_wp2;refine bB (e1.result2 rfl _ rfl) rfl ?_;exact⟨e2,e3⟩
variable {ops:Array Oper} {Q:Exit ->Act ->World ->Prop} {rest:List Oper} {w':World}
def kq (w:World) (B:Nat) (v:Value) (l:List Fr):Prop:=w.ownsRow B 32 3 v l.length (oO l)
theorem kq.empty (w:World) (B:Nat):kq w B (.slice none 0 0) []:=⟨rfl,.inl ⟨rfl,rfl⟩⟩
theorem kq.aa {B:Nat} {v:Value} {l:List Fr} (h:kq w B v l) (hb:Below w.heap.size w w'):kq w' B v l:=by
 refine⟨h.1,h.2.imp id ?_⟩;rintro⟨g,cap,cur,h1,h2,h3,h4⟩;exact⟨g,cap,cur,h1,h2,(hb.block g (eL.1 h3).1).trans h3,h4⟩
theorem kq.own {B:Nat} {v:Value} {l:List Fr} (h:kq w B v l):∀k,v.ownBlock=some k ->B<=k:=by
 intro k hk;rcases h.2 with ⟨rfl,_⟩ |⟨g,cap,cur,rfl,h2,_⟩
 ·cases hk
 ·cases hk;exact h2
theorem kq.fr {B:Nat} {v:Value} {l:List Fr} (h:kq w B v l):∃d cd,v=.slice d l.length cd/\bZ w d l:=by
 rcases h.2 with ⟨h1,h2⟩ |⟨g,cap,cur,h1,h2,h3,h4,h5,h6,h7⟩
 ·have:l=[]:=Ee.1 h2;subst this;exact⟨none,0,h1,fun k hk=>absurd hk (by simp)⟩
 ·refine⟨_,_,h1,fun k hk=>?_⟩;obtain⟨e1,e2,e3⟩:=O4 l k hk
  have at_:∀j,j<l.length*3 ->cur[j]? =(oO l)[j]?:=fun j hj=>by
   rw[<- h7,rV,aaf hj,wm]
  refine⟨g,0,rfl,(eL.1 h3).1,?_,?_,?_⟩
  ·rw[cC w g _ _ _ (0,0) h3,bT,at_ _ (by omega)];exact e1
  ·rw[cC w g _ _ _ (0,0) h3,bT,at_ _ (by omega)];exact e2
  ·rw[cC w g _ _ _ (0,0) h3,bT,at_ _ (by omega)];exact e3
theorem akO (l:List Fr) (f:Fr):oO (l++[f])=oO l++[.bool f.1,.string f.2.1,.string f.2.2]:=by
 induction l with
 |nil=>rfl
 |cons x l ih=>simp only[fg,oO,ih]
theorem Xs {o:Oper} {a:Act} (hgd:o.guard=none) (s x:Operand)
  (ho:o.op=.call {callee:=.builtin .append,args:= #[s,x],argTypes:= #[37,37]}) (base:Nat) (v:Value) (l:List Fr) (f:Fr) (hs:a.eval s=v) (hown:kq w base v l) (g:Nat) (hx:a.eval x=.slice (some ⟨g,0,none⟩) 1 1) (hg:aC w g f.1 f.2.1 f.2.2) (hlen:l.length+1<=100000) (hbase:base<=w.heap.size)
  (h:∀v' w',kq w' base v' (l++[f]) ->w.grownBy w' v.ownBlock ->wpList Tryz.prog ops Q rest (a.put o.dst v') w'):wpList Tryz.prog ops Q (o::rest) a w:=by
 obtain⟨i0,cU,hz0,hz1,hz2⟩:=eT Tryz.infoFrac;refine Qz _ hgd s x 37 ho base 32 i0 (.agg #[.bool false,.string ⟨#[]⟩,.string ⟨#[]⟩]) 3 40 Tryz.underlying37 cU hz0 hz1 hz2 rfl (by decide) v l.length _ hs hown ⟨g,0,none⟩ 1 1 [.bool f.1,.string f.2.1,.string f.2.2] hx rfl ?_ ?_ (by unfold maxLen;omega) (by omega) hbase ?_
 ·intro j u hj;match j,hj with
  |0,hj=>cases hj;exact hg.c0
  |1,hj=>cases hj;exact hg.c1
  |2,hj=>cases hj;exact hg.c2
  |j+3,hj=>simp at hj
 ·intro u hu;simp only[dK,qG,acA] at hu;rcases hu with rfl |rfl |rfl<;>rfl
 ·intro v' w' h1 h2 _;refine h v' w' ?_ h2;rw[kq,dM,akO];exact h1
theorem Fk {sizes vars:List Int} (h1:eH sizes) (h2:Up vars sizes.length):countB sizes vars=true:=by
 rw[countB,ia];constructor
 ·rw[ab5,ia,ei];refine⟨⟨h1.one,h1.eight⟩,eJ.2 fun x hx=>?_⟩;obtain⟨i,hi,rfl⟩:=iE hx;rw[Ax,ei];exact h1.each i hi
 ·rw[dD,eJ];intro i hi;have hi':=bG.1 hi;rw[lu,ei,getD_eq hi'];refine⟨(h2.each i hi').1,(h2.each i hi').2,fun h0=>?_⟩;rw[getD_eq (show i - 1<vars.length by omega)];exact h2.lt (i - 1) i hi' (by omega)
theorem RN (a b:Option Addr) (ca cb:Nat) (sizes vars:List Int) (w:World) (hs:aaK w a sizes) (hv:aaK w b vars) (aJ:eH sizes) (aX:Up vars sizes.length):
  Calls Tryz.prog 55 #[.slice a sizes.length ca,.slice b vars.length cb] w fun e w'=>e=.returned (.tuple #[.int .i64 (cnt (ag sizes) (ag vars):Nat),.int .i64 0])/\Below w.heap.size w w':=by
 have h8:=aJ.eight;have h9:=aX.length;have h:=RO a b ca cb sizes vars w hs hv (by omega) (by omega);rw[Fl (Fk aJ aX)] at h;exact h
variable {R:List (List Fr)} {g i:Nat}
def MA (w:World) (a:Option Addr) (R:List (List Fr)):Prop:=∀k (h:k<R.length),∃g o b c,a=some ⟨g,o,none⟩/\g<w.heap.size/\w.cell? ⟨g,o+k,none⟩=some (.slice b R[k].length c)/\bZ w b R[k]/\R[k].length<=c
theorem MA.aa (h:MA w a R) (hb:Below w.heap.size w w'):MA w' a R:=fun k hk=>by
 obtain⟨g,o,b,c,h1,h2,h3,h4,h5⟩:=h k hk;exact⟨g,o,b,c,h1,aR h2 hb.size,(hb.cell (p:=⟨g,o+k,none⟩) h2).trans h3,h4.aa hb,h5⟩
def fP (l:List Fr) (k i:Nat):List Fr:=(l.drop (i*k)).take k
def iI (S:List Nat) (L:List (List Int)) (R:List (List Fr)) (v:Nat):Int:=
 if (R.getD v []).length=cnt S (ag (L.getD v []))*sz S v then(if ((List.range (cnt S (ag (L.getD v [])))).all fun i=>iJ (fP (R.getD v []) (sz S v) i))=true then 0 else 9) else 8
def aW (V:List Vr) (L:List (List Int)) (R:List (List Fr)):Int:=
 if L.length=V.length/\R.length=V.length then(if bE L=0 then(if jy V=0 then iO (iI (ah V) L R) V.length else jy V) else bE L) else 8
theorem bZ.chunk {o:Nat} {l:List Fr} (h:bZ w (some ⟨g,o,none⟩) l) (hm:(i+1)*k<=l.length) (hk:m=k):bZ w (some ⟨g,o+i*k*3,none⟩) (fP l k i)/\(fP l k i).length=m:=by
 have hlen:(fP l k i).length=k:=by
  rw[fP,eZ,mR];have:(i+1)*k=i*k+k:=by rw[fW,kB]
  omega
 refine⟨fun j hj=>?_,by rw[hlen,hk]⟩;have e:(i+1)*k=i*k+k:=by rw[fW,kB]
 rw[hlen] at hj;obtain⟨g',o',h1,h2,h3,h4,h5⟩:=h (i*k+j) (by omega);cases h1
 have ej:(fP l k i)[j]'(by rw[hlen];exact hj)=l[i*k+j]'(by omega):=by
  simp only[fP,Aa,List.getElem_drop]
 refine⟨g,o+i*k*3,rfl,h2,?_,?_,?_⟩
 ·rw[ej,show o+i*k*3+j*3=o+(i*k+j)*3 by rw[fW];omega];exact h3
 ·rw[ej,show o+i*k*3+j*3=o+(i*k+j)*3 by rw[fW];omega];exact h4
 ·rw[ej,show o+i*k*3+j*3=o+(i*k+j)*3 by rw[fW];omega];exact h5
theorem abY (l:List Fr) (k i:Nat):fw (fP l k i)<=fw l:=by
 have h1:=UJ (l.drop (i*k)) k;have h2:=UK (l.take (i*k)) (l.drop (i*k));rw[zZ] at h2;rw[fP];omega
def Bj (w:World) (B:Nat) (v:Value) (l:List ByteArray):Prop:=w.ownsRow B 9 1 v l.length (l.map Value.string)
theorem Bj.own {B:Nat} {v:Value} {l:List ByteArray} (h:Bj w B v l):∀k,v.ownBlock=some k ->B<=k:=by
 intro k hk;rcases h.2 with ⟨rfl,_⟩ |⟨g,cap,cur,rfl,h2,_⟩
 ·cases hk
 ·cases hk;exact h2
theorem Bj.st {B:Nat} {v:Value} {l:List ByteArray} (h:Bj w B v l):∃d cd,v=.slice d l.length cd/\StS w d l:=by
 rcases h.2 with ⟨h1,h2⟩ |⟨g,cap,cur,h1,h2,h3,h4,h5,h6,h7⟩
 ·have:l=[]:=Ee.1 h2;subst this;exact⟨none,0,h1,fun k hk=>absurd hk (by simp)⟩
 ·refine⟨_,_,h1,fun j hj=>⟨g,0,rfl,(eL.1 h3).1,?_⟩⟩;rw[bT,cC w g j _ _ (0,0) h3]
  have e:cur[j]? =(cur.toList.take (l.length*1))[j]?:=by
   rw[rV,aaf (by omega),wm]
  rw[e,h7,oh,af hj];rfl
theorem adM {o:Oper} {a:Act} (hgd:o.guard=none) (s x:Operand)
  (ho:o.op=.call {callee:=.builtin .append,args:= #[s,x],argTypes:= #[67,67]}) (base:Nat) (v:Value) (l:List ByteArray) (f:ByteArray) (hs:a.eval s=v) (hown:Bj w base v l) (g:Nat) (hx:a.eval x=.slice (some ⟨g,0,none⟩) 1 1) (hg:w.cell? ⟨g,0,none⟩=some (.string f)) (hlen:l.length+1<=100000) (hbase:base<=w.heap.size)
  (h:∀v' w',Bj w' base v' (l++[f]) ->w.grownBy w' v.ownBlock ->wpList Tryz.prog ops Q rest (a.put o.dst v') w'):wpList Tryz.prog ops Q (o::rest) a w:=by
 obtain⟨i0,cU,hz0,hz1,hz2⟩:=eT Tryz.infoStr;refine Qz _ hgd s x 67 ho base 9 i0 (.string ⟨#[]⟩) 1 16 Tryz.underlying67 cU hz0 hz1 hz2 rfl (by decide) v l.length _ hs hown ⟨g,0,none⟩ 1 1 [.string f] hx rfl ?_ ?_ (by unfold maxLen;omega) (by omega) hbase ?_
 ·intro j u hj;match j,hj with
  |0,hj=>cases hj;exact hg
  |j+1,hj=>simp at hj
 ·intro u hu;simp only[dK,qG,acA] at hu;subst hu;rfl
 ·intro v' w' h1 h2 _;refine h v' w' ?_ h2;rw[Bj,dM,fY];exact h1
theorem ahu (w:World) (u:ByteArray):(w.alloc (.cells #[.string u] 9)).cell? ⟨w.heap.size,0,none⟩=some (.string u):=(a7 w _ _).cell
variable {L:List (List Int)} {x y z:Value} {wr wr':World}
structure gP (w:World) (a b c:Option Addr) (V:List Vr) (L:List (List Int)) (R:List (List Fr)):Prop where
 vars:sO w a V
 pars:fh w b L
 rows:MA w c R
theorem gP.aa {b c:Option Addr} {V:List Vr} (h:gP w a b c V L R) (hb:Below w.heap.size w w'):gP w' a b c V L R:=⟨h.vars.aa hb,h.pars.aa hb,h.rows.aa hb⟩
structure sQ (V:List Vr) (L:List (List Int)) (R:List (List Fr)):Prop where
 vars:RY V
 pars:L.length<=5000/\∀l∈L,l.length<=5000
 rows:R.length<=5000/\∀l∈R,l.length<=5000/\fw l<=10000
def NK (w wr:World) (x y z:Value):Prop:=gX wr w.heap.size x y z/\Below w.heap.size w wr
theorem NK.step (h:NK w wr x y z) (hb:Below wr.heap.size wr wr'):NK w wr' x y z:=⟨h.1.aa hb h.1.lt,h.2.trans (hb.ae h.2.size)⟩
theorem NK.grow (h:NK w wr x y z) (hb:Below (w.heap.size+1) wr wr'):NK w wr' x y z:=⟨h.1.aa hb (by omega),h.2.trans (hb.ae (by omega))⟩
theorem NK.new (w:World) (x y z:Value):NK w (w.alloc (NC x y z)) x y z:=⟨gX.at rfl x y z,(au _ w).alloc (ar _) _⟩
theorem UU {V:List Vr} (hl:L.length=V.length) (hg:bE L=0) (hv:jy V=0):eH (iL (ah V))/\L.length<=8/\∀v (h:v<L.length),Up L[v] L.length:=by
 have hgb:gB L=true:=by
  rw[bE] at hg;by_cases h:gB L=true
  ·exact h
  ·rw[aaO h] at hg;exact absurd hg (by decide)
 obtain⟨h1,h8,h3,_⟩:=qg hgb
 have hf:∀i,i<V.length ->mY V i=0:=by
  rw[jy] at hv;by_cases h:iw (gF V)=0
  ·rw[aaf h] at hv;intro i hi
   have key:∀ {n:Nat},iO (mY V) n=0 ->∀j,j< n ->mY V j=0:=by
    intro n;induction n with
    |zero=>intro _ j hj;omega
    |succ n ih=>
     intro hz j hj;rw[iO] at hz;by_cases e:iO (mY V) n=0
     ·rw[aaf e] at hz;rcases cD j n with h2 |h2
      ·exact ih e j h2
      ·obtain rfl:j=n:=by omega
       exact hz
     ·rw[aaO e] at hz;exact absurd hz e
   exact key hv i hi
  ·rw[aaO h] at hv;exact absurd hv h
 refine⟨⟨by rw[ba,gR];omega,by rw[ba,gR];omega,fun i hi=>?_⟩,h8,fun v hv=>Al (PA h3 hv)⟩;rw[ba,gR] at hi;have h4:=hf i hi;rw[mY,UD hi] at h4
 have h5:1<=V[i].2.length/\V[i].2.length<=4:=by
  by_cases e:1<=V[i].2.length/\V[i].2.length<=4
  ·exact e
  ·rw[aaO e] at h4;exact absurd h4 (by decide)
 have e:(iL (ah V))[i]'(by rw[ba,gR];exact hi)=(V[i].2.length:Int):=by simp[iL,ah]
 rw[e];omega
variable {S:List Nat} {f:Nat ->Nat}
def LK (w wr:World) (x y z:Value):Prop:=NK w wr x y z/\aC wr (w.heap.size+1) false ⟨#[]⟩ ⟨#[]⟩
theorem LK.new (w:World) (x y z:Value):LK w ((w.alloc (NC x y z)).alloc (FC false ⟨#[]⟩ ⟨#[]⟩)) x y z:=⟨(NK.new w x y z).step ((au _ _).alloc (ar _) _),aC.at (by simp) _ _ _⟩
theorem LK.drewN (h:LK w wr x y z) (k:Nat):LK w (wr.drewN k) x y z:=⟨⟨h.1.1,below_drewN h.1.2 k⟩,h.2⟩
theorem RZ (hp:∀v,sz S v<=4) (f:Nat ->Nat) (hf:∀u,f u<sz S u) {P:List Nat} (hl:P.length<=8) (i:Nat):pos S f (P.take i)<=65536:=by
 have h1:=acP f hf (P.take i);have h2:=pw hp (vs:=P.take i) (by rw[eZ];omega);omega
def p6 (S:List Nat) (P:List Nat) (f:Nat ->Nat) (v:Nat):Nat:=pos S f P*sz S v+f v
theorem SR {P:List Nat} (hf:∀u,f u<sz S u) (v:Nat):p6 S P f v<cnt S P*sz S v:=by
 have h1:=acP f hf P;have h2:=hf v;rw[p6]
 calc pos S f P*sz S v+f v<pos S f P*sz S v+sz S v:=by omega
  _=(pos S f P+1)*sz S v:=by rw[fW,kB]
  _<=cnt S P*sz S v:=jK _ h1
theorem aiB (a b c d:Option Addr) (ca cb cc cd v:Nat) (V:List Vr) (L:List (List Int)) (R:List (List Fr)) (A:List Nat) (w:World) (h:gP w a b c V L R) (hA:aaK w d (iL A)) (y7:A.length=V.length) (E6:V.length<=8) (hv:v<V.length) (dG:v<L.length) (kn:v<R.length) (hS:eH (iL (ah V))) (hU:Up L[v] V.length) (hlen:R[v].length=cnt (ah V) (ag L[v])*sz (ah V) v) (f:Nat ->Nat) (hf:∀u,f u<sz (ah V) u) (yY:∀u,u<V.length ->A[u]? =some (f u)):
  Calls Tryz.prog 151 #[.agg #[.slice a V.length ca,.slice b L.length cb,.slice c R.length cc],.int .i64 (v:Nat),.slice d A.length cd] w fun e w'=>e=.returned (dP (bA R[v] (p6 (ah V) (ag L[v]) f v)))/\Below w.heap.size w w':=by
 have hT:=SR (S:=ah V) (P:=ag L[v]) hf v;rw[<- hlen] at hT;rw[pz hT];have eM:∀u,sz (ah V) u<=4:=fun u=>by have:=hS.sz_le u;rwa [ew] at this
 have hpl:(ag L[v]).length<=8:=by rw[cS];have:=hU.length;omega
 have ajk:L[v].length<=8:=by have:=hU.length;omega
 have mC:=hid (fun i=>RZ eM f hf hpl i);have HPS:=hid (fun i (hi:i<(ag L[v]).length)=>R1 (ah V) f hi)
 have LX:Hid (pos (ah V) f ((ag L[v]).take L[v].length)=pos (ah V) f (ag L[v])):=by
  show _=_;rw[jd (by rw[cS];omega)]
 have nX:Hid (∀u,f u<4):=fun u=>aR (hf u) (eM u);have LA:=hid eM;have gz:=hid hU;have HSG:=hid (fun u (hu:u<V.length)=>Co hu);have fT:Hid (∀u (hu:u<V.length),sz (ah V) u=V[u].2.length):=fun u hu=>by rw[sz,Co hu];rfl
 have zJ:=hid yY;have HI:=hid h;have HA:=hid hA;have T9:p6 (ah V) (ag L[v]) f v=pos (ah V) f (ag L[v])*sz (ah V) v+f v:=rfl;obtain⟨gp,dE,bp,cp,rfl,gj,p1,eN⟩:=h.pars v dG;obtain⟨gr,dt,br,cr,rfl,hgr,r1,sf,CG⟩:=h.rows v kn;obtain⟨gf,cT,rfl,AZ,m0,m1,m2⟩:=sf _ hT;obtain⟨gv,ov,bv,cv,rfl,yV, -,n1, -, -⟩:=h.vars v hv;obtain⟨ga,oa,rfl,wU,a1⟩:=hA v (by rw[ba];omega)
 have ea:(iL A)[v]'(by rw[ba];omega)=((f v:Nat):Int):=by
  obtain⟨h1,h2⟩:=o0.1 (yY v hv);simp only[iL,acj,h2]
 rw[ea] at a1;rw[<- fT.o v hv] at n1;have q8:=hid eN;have HM:=hid (show _/\_/\_/\_/\_/\_/\_ from ⟨p1,r1,n1,a1,m0,m1,m2⟩);have OB:=nX.o v;have tJ:=LA.o v;have CH:=mC.o (ag L[v]).length;rw[fJ] at CH
 have hrl:R[v].length<=262144:=by
  rw[hlen];have h1:=pw eM hpl;exact aS (iW h1 tJ) (by decide)
 have Ve:=hid CG;generalize Ua:p6 (ah V) (ag L[v]) f v=T at *;generalize hfr:R[v][T]=fr at *;obtain⟨fn,fx,fy⟩:=fr;simp only at HM;clear h hA yY eN sf p1 r1 n1 a1 m0 m1 m2 hlen hf eM hS hU ea Ua hfr CG;generalize R[v]=rl at *;generalize L[v]=pl at *;have bY:=hid (LK.new w (.slice (some ⟨gv,ov,none⟩) V.length ca) (.slice (some ⟨gp,dE,none⟩) L.length cb) (.slice (some ⟨gr,dt,none⟩) R.length cc));obtain⟨c0,c1,c2⟩:=bY.o.1.1.cells;have p1:=(bY.o.1.2.cell (p:=⟨gp,dE+v,none⟩) gj).trans HM.o.1;go_enter Tryz.func151,Tryz.ntmps151;go_wp2_with fail
 generalize ((w.alloc (NC (.slice (some ⟨gv,ov,none⟩) V.length ca) (.slice (some ⟨gp,dE,none⟩) L.length cb) (.slice (some ⟨gr,dt,none⟩) R.length cc))).alloc (FC false ⟨#[]⟩ ⟨#[]⟩))=w1 at *;clear c0 c1 c2 p1;go_loopw [7,16] (fun kv iv wr=>∃i:Nat,i<=pl.length/\iv=.int .i64 i/\kv=.int .i64 (pos (ah V) f ((ag pl).take i):Nat)/\Hid (LK w wr (.slice (some ⟨gv,ov,none⟩) V.length ca) (.slice (some ⟨gp,dE,none⟩) L.length cb) (.slice (some ⟨gr,dt,none⟩) R.length cc))) (fun _ iv _=>pl.length - (intOf iv).toNat)
 case atStart=>exact⟨0,aU _,rfl,rfl,bY⟩
 case round=>
  obtain⟨i,hi,rfl,rfl,HK⟩:=hrel;clear bY;obtain⟨c0,c1,c2⟩:=HK.o.1.1.cells;have p1:=(HK.o.1.2.cell (p:=⟨gp,dE+v,none⟩) gj).trans HM.o.1;by_cases hlt:i<pl.length
  ·obtain⟨gl,ol,rfl,cH,l1⟩:=(q8.o.aa HK.o.1.2) i hlt;obtain⟨gO,gH⟩:=gz.o.nat hlt;(have jB:i<(ag pl).length:=by rw[cS];exact hlt);have df:=HPS.o i jB;rw[o6 hlt] at df;have vr:=mC.o i;rw[<- gO] at l1;generalize pl[i].toNat=u at *;obtain⟨gv',ov',bu,cu,ev,ajw, -,n2, -, -⟩:=(HI.o.aa HK.o.1.2).vars u gH;cases ev;rw[<- fT.o u gH] at n2;obtain⟨ga',oa',U3,ajD,a2⟩:=(HA.o.aa HK.o.1.2) u (by rw[ba];omega);cases U3
   have eu:(iL A)[u]'(by rw[ba];omega)=((f u:Nat):Int):=by
    obtain⟨h1,h2⟩:=o0.1 (zJ.o u gH);simp only[iL,acj,h2]
   rw[eu] at a2;have hfu:=nX.o u;have S2:=LA.o u;have zC:Hid (pos (ah V) f ((ag pl).take (i+1))=pos (ah V) f ((ag pl).take i)*sz (ah V) u+f u):=df;clear df eu jB gO;generalize tY:pos (ah V) f ((ag pl).take (i+1))=P1 at *;generalize pos (ah V) f ((ag pl).take i)=P0 at *;generalize sz (ah V) u=su at *;generalize f u=fu at *;have h1:P0*su<=65536*4:=iW vr S2
   have hm1:IntKind.i64.wrap ((P0:Int)*(su:Int))=((P0*su:Nat):Int):=by
    rw[eo, <- iH];omega
   have bq:IntKind.i64.wrap (((P0*su:Nat):Int)+(fu:Int))=(P1:Int):=by
    rw[eo];have:=zC.o;omega
   generalize P0*su=Q0 at *;have lS:=hid tY;clear tY h1 zC;go_upto_region 5 with fail
   go_quiet (fail)
   have xX:=hid (HK.o.drewN nq);generalize wr.drewN nq=w2 at *;go_wp2;go_roundw
   case rel=>exact⟨i+1,by omega,by go_num,by rw[lS.o],xX⟩
   case measure=>simp[intOf];omega
  ·obtain rfl:i=pl.length:=by omega
   rw[LX.o];have r1:=(HK.o.1.2.cell (p:=⟨gr,dt+v,none⟩) hgr).trans HM.o.2.1;have n1:=(HK.o.1.2.cell (p:=⟨gv,ov+v*2+1,none⟩) yV).trans HM.o.2.2.1;have a1:=(HK.o.1.2.cell (p:=⟨ga,oa+v,none⟩) wU).trans HM.o.2.2.2.1;have m0:=(HK.o.1.2.cell (p:=⟨gf,cT+T*3,none⟩) AZ).trans HM.o.2.2.2.2.1;have m1:=(HK.o.1.2.cell (p:=⟨gf,cT+T*3+1,none⟩) AZ).trans HM.o.2.2.2.2.2.1;have m2:=(HK.o.1.2.cell (p:=⟨gf,cT+T*3+2,none⟩) AZ).trans HM.o.2.2.2.2.2.2;have h1:pos (ah V) f (ag pl)*sz (ah V) v<=65536*4:=iW CH tJ;generalize pos (ah V) f (ag pl)=p at *;generalize sz (ah V) v=k at *;generalize f v=x at *
   have hm1:IntKind.i64.wrap ((p:Int)*(k:Int))=((p*k:Nat):Int):=by
    rw[eo, <- iH];omega
   have bq:IntKind.i64.wrap (((p*k:Nat):Int)+(x:Int))=(T:Int):=by
    rw[eo];omega
   generalize p*k=pk at *;clear T9 h1;go_upto_region 7 with fail
   have A5:=HK.o;refine jJ (S:=fun u=>u.cell? ⟨w.heap.size,2,none⟩=some (.slice (some ⟨gr,dt,none⟩) R.length cc)/\u.cell? ⟨gr,dt+v,none⟩=some (.slice (some ⟨gf,cT,none⟩) rl.length cr)/\u.cell? ⟨w.heap.size,0,none⟩=some (.slice (some ⟨gv,ov,none⟩) V.length ca)/\u.cell? ⟨gv,ov+v*2+1,none⟩=some (.slice bv k cv)/\u.cell? ⟨ga,oa+v,none⟩=some (.int .i64 (x:Nat))/\u.cell? ⟨gf,cT+T*3,none⟩=some (.bool fn)/\u.cell? ⟨gf,cT+T*3+1,none⟩=some (.string fx)/\u.cell? ⟨gf,cT+T*3+2,none⟩=some (.string fy)) (by kernel_rfl) ⟨c2,r1,c0,n1,a1,m0,m1,m2⟩ (fun aq=>?_);have A5:LK w wr.drew (.slice (some ⟨gv,ov,none⟩) V.length ca) (.slice (some ⟨gp,dE,none⟩) L.length cb) (.slice (some ⟨gr,dt,none⟩) R.length cc):=⟨⟨HK.o.1.1,HK.o.1.2.drew⟩,HK.o.2⟩;clear c0 c1 c2 p1 r1 n1 a1 m0 m1 m2;generalize wr.drew=u0 at *;refine aw 0 (.pointer (some ⟨w.heap.size,2,none⟩)) ?_;refine aw 1 (.slice (some ⟨gr,dt,none⟩) R.length cc) ?_;refine aw 2 (.int .i64 (v:Nat)) ?_;refine aw 3 (.pointer (some ⟨gr,dt+v,none⟩)) ?_;refine aw 4 (.slice (some ⟨gf,cT,none⟩) rl.length cr) ?_;refine aw 5 (.int .i64 (p:Nat)) ?_;refine aw 6 (.pointer (some ⟨w.heap.size,0,none⟩)) ?_;refine aw 7 (.slice (some ⟨gv,ov,none⟩) V.length ca) ?_;refine aw 8 (.int .i64 (v:Nat)) ?_;refine aw 9 (.pointer (some ⟨gv,ov+v*2,none⟩)) ?_;refine aw 10 (.pointer (some ⟨gv,ov+v*2+1,none⟩)) ?_;refine aw 11 (.slice bv k cv) ?_;refine aw 12 (.int .i64 (k:Nat)) ?_;refine aw 13 (.int .i64 (pk:Nat)) ?_;refine aw 14 (.slice (some ⟨ga,oa,none⟩) A.length cd) ?_
   refine aw 15 (.int .i64 (v:Nat)) ?_;refine aw 16 (.pointer (some ⟨ga,oa+v,none⟩)) ?_;refine aw 17 (.int .i64 (x:Nat)) ?_;refine aw 18 (.int .i64 (T:Nat)) ?_;refine aw 19 (.pointer (some ⟨gf,cT+T*3,none⟩)) ?_;refine aw 20 (.agg #[.bool fn,.string fx,.string fy]) ?_;(try simp only[gE,aP]);obtain⟨k0,k1,k2,f0,f1,f2⟩:=A5.2.facts;(have tP:w.heap.size≠w.heap.size+1:=by omega);(have ET:gr≠w.heap.size+1:=by omega);(have ES:gv≠w.heap.size+1:=by omega);(have EU:ga≠w.heap.size+1:=by omega);(have oF:gf≠w.heap.size+1:=by omega);refine aF [21] (cA ?_ aD);intro K' hK';go_simp;have eA:=A5.2.put fn fx fy;have hbf:=bF A5.1.2 (show w.heap.size<=w.heap.size+1 by omega) (.bool fn) (.string fx) (.string fy)
   refine hK'.o _ _ ⟨((bX _ _ _ _ (fun e=>tP (bR Addr.block e).symm)).trans ((bX _ _ _ _ (fun e=>tP (bR Addr.block e).symm)).trans ((bX _ _ _ _ (fun e=>tP (bR Addr.block e).symm)).trans aq.1))),((bX _ _ _ _ (fun e=>ET (bR Addr.block e).symm)).trans ((bX _ _ _ _ (fun e=>ET (bR Addr.block e).symm)).trans ((bX _ _ _ _ (fun e=>ET (bR Addr.block e).symm)).trans aq.2.1))),((bX _ _ _ _ (fun e=>tP (bR Addr.block e).symm)).trans ((bX _ _ _ _ (fun e=>tP (bR Addr.block e).symm)).trans ((bX _ _ _ _ (fun e=>tP (bR Addr.block e).symm)).trans aq.2.2.1))),((bX _ _ _ _ (fun e=>ES (bR Addr.block e).symm)).trans ((bX _ _ _ _ (fun e=>ES (bR Addr.block e).symm)).trans ((bX _ _ _ _ (fun e=>ES (bR Addr.block e).symm)).trans aq.2.2.2.1))),((bX _ _ _ _ (fun e=>EU (bR Addr.block e).symm)).trans ((bX _ _ _ _ (fun e=>EU (bR Addr.block e).symm)).trans ((bX _ _ _ _ (fun e=>EU (bR Addr.block e).symm)).trans aq.2.2.2.2.1))),((bX _ _ _ _ (fun e=>oF (bR Addr.block e).symm)).trans ((bX _ _ _ _ (fun e=>oF (bR Addr.block e).symm)).trans ((bX _ _ _ _ (fun e=>oF (bR Addr.block e).symm)).trans aq.2.2.2.2.2.1))),((bX _ _ _ _ (fun e=>oF (bR Addr.block e).symm)).trans ((bX _ _ _ _ (fun e=>oF (bR Addr.block e).symm)).trans ((bX _ _ _ _ (fun e=>oF (bR Addr.block e).symm)).trans aq.2.2.2.2.2.2.1))),((bX _ _ _ _ (fun e=>oF (bR Addr.block e).symm)).trans ((bX _ _ _ _ (fun e=>oF (bR Addr.block e).symm)).trans ((bX _ _ _ _ (fun e=>oF (bR Addr.block e).symm)).trans aq.2.2.2.2.2.2.2)))⟩ (fun ak=>?_)
   clear hK' K' aq ak k0 k1 k2 f0 f1 f2;generalize (((u0.setCell ⟨w.heap.size+1,0,none⟩ (.bool fn)).setCell ⟨w.heap.size+1,1,none⟩ (.string fx)).setCell ⟨w.heap.size+1,2,none⟩ (.string fy))=u9 at *;(try simp only[gE,aP]);refine dW (by kernel_rfl) ?_ _;go_wp2;refine bB (eA.result rfl _ rfl) rfl ?_;exact⟨rfl,hbf⟩
structure PE (V:List Vr) (L:List (List Int)) (R:List (List Fr)):Prop where
 len:L.length=V.length
 lenR:R.length=V.length
 n8:V.length<=8
 fine:eH (iL (ah V))
 up:∀v (h:v<L.length),Up L[v] V.length
 rows:∀v (h:v<L.length) (h':v<R.length),R[v].length=cnt (ah V) (ag L[v])*sz (ah V) v
theorem K7 {f:Nat ->Int}:∀ {n:Nat},iO f n=0 ->∀j,j< n ->f j=0
 |0,_,j,hj=>by omega
 |n+1,hz,j,hj=>by
  rw[iO] at hz;by_cases e:iO f n=0
  ·rw[aaf e] at hz;rcases cD j n with h2 |h2
   ·exact K7 e j h2
   ·obtain rfl:j=n:=by omega
    exact hz
  ·rw[aaO e] at hz;exact absurd hz e
theorem gD {V:List Vr} (h:aW V L R=0):PE V L R:=by
 rw[aW] at h;by_cases h1:L.length=V.length/\R.length=V.length
 ·rw[aaf h1] at h;by_cases h2:bE L=0
  ·rw[aaf h2] at h;by_cases h3:jy V=0
   ·rw[aaf h3] at h;obtain⟨hf,h8,hu⟩:=UU h1.1 h2 h3;refine⟨h1.1,h1.2,by omega,hf,fun v hv=>by rw[<- h1.1];exact hu v hv,fun v hv hr=>?_⟩;have h4:=K7 h v (by omega);rw[iI,b7,af hr,b7,af hv] at h4;by_cases h5:R[v].length=cnt (ah V) (ag L[v])*sz (ah V) v
    ·exact h5
    ·simp only[zV] at h4;rw[aaO h5] at h4;exact absurd h4 (by decide)
   ·rw[aaO h3] at h;exact absurd h h3
  ·rw[aaO h2] at h;exact absurd h h2
 ·rw[aaO h1] at h;exact absurd h (by decide)
def dF (V:List Vr) (L:List (List Int)) (R:List (List Fr)) (f:Nat ->Nat) (v:Nat):Fr:=bA (R.getD v []) (p6 (ah V) (ag (L.getD v [])) f v)
def ji (V:List Vr) (L:List (List Int)) (R:List (List Fr)) (f:Nat ->Nat):Nat ->Rat
 |0=>1
 |k+1=>ji V L R f k*aT (dF V L R f k)
theorem JZ {V:List Vr} (hL:v<L.length) (hR:v<R.length):dF V L R f v=bA R[v] (p6 (ah V) (ag L[v]) f v):=by
 rw[dF,b7,af hR,b7,af hL];rfl
theorem SS {V:List Vr} (aM:PE V L R) (hf:∀u,f u<sz (ah V) u) (hw:∀l∈R,fw l<=4200) (hv:v<V.length):(dF V L R f v).2.1.size+(dF V L R f v).2.2.size<=4200:=by
 have hL:v<L.length:=by rw[aM.len];exact hv
 have hR:v<R.length:=by rw[aM.lenR];exact hv
 rw[JZ hL hR];have h1:=SR (S:=ah V) (P:=ag L[v]) hf v;rw[<- aM.rows v hL hR] at h1;have h2:=amh h1;have h3:=hw R[v] (bH hR);omega
theorem LK.step (h:LK w V x y z) (hb:Below V.heap.size V V'):LK w V' x y z:=⟨h.1.step hb,h.2.aa hb h.2.lt⟩
variable {A:Nat} {q:Rat}
theorem K6 (h:Fits m q) (hm:m<=n):Fits n q:=by
 obtain⟨A,D,h1,h2,h3,h4⟩:=h;exact⟨A,D,h1,h2,aR h3 (G6 hm),aR h4 (G6 hm)⟩
theorem abQ (f g:Fr):great f g=f∨great f g=g:=by
 rw[great];by_cases h:cQ (aT f) (aT g)<0
 ·rw[aaf h];exact .inr rfl
 ·rw[aaO h];exact .inl rfl
theorem RU (q:Rat):(qF q).2.1.size+(qF q).2.2.size=qw q:=rfl
theorem ZO (most:Bool) (T:Nat ->Fr):∀k,(∀x,x<=k ->(T x).2.1.size+(T x).2.2.size+2<=8192) ->Fits ((k+1)*8192) (aT (ab0 most T k))
 |0,h=>K6 (UQ _ _ _) (by have:=h 0 (ar _);show (T 0).2.1.size+(T 0).2.2.size+1<=_;omega)
 |k+1,h=>by
  have h1:=ZO most T k fun x hx=>h x (by omega);have h2:Fits 8191 (aT (T (k+1))):=K6 (UQ _ _ _) (by have:=h (k+1) (ar _);omega);rw[ab0];cases most with
  |true=>
   rw[aaf rfl];rcases abQ (ab0 true T k) (T (k+1)) with e |e
   ·rw[e];exact K6 h1 (by omega)
   ·rw[e];exact K6 h2 (by omega)
  |false=>
   rw[aaO (by decide),qQ];exact K6 (ab8 h1 h2) (by omega)
theorem ag9 (k:Nat):2*((k+1)*8192)<=2*((k+1+1)*8192):=by omega
theorem ag8 (k:Nat):8192<=2*((k+1+1)*8192):=by omega
theorem akc {f g:Fr} (h1:f.2.1.size+f.2.2.size<=A) (h2:g.2.1.size+g.2.2.size<=A):(great f g).2.1.size+(great f g).2.2.size<=A:=by
 rcases abQ f g with e |e
 ·rw[e];exact h1
 ·rw[e];exact h2
theorem Sg (most:Bool) (T:Nat ->Fr):∀k,(∀x,x<=k ->(T x).2.1.size+(T x).2.2.size+2<=8192) ->(ab0 most T k).2.1.size+(ab0 most T k).2.2.size<=2*((k+1)*8192)
 |0,h=>by have:=h 0 (ar _);rw[ab0];omega
 |k+1,h=>by
  have h1:=Sg most T k fun x hx=>h x (by omega);have h2:=h (k+1) (ar _);have h3:=ZO most T (k+1) h;rw[ab0] at h3⊢;cases most with
  |true=>
   rw[aaf rfl];exact akc (aS h1 (ag9 k)) (aS (aS (MJ _ 2) h2) (ag8 k))
  |false=>
   rw[aaO (by decide)] at h3⊢;rw[qQ] at h3;have h4:=O7 h3;rw[RU];exact h4
def VA (most:Bool) (pf:Nat):Prop:=(∀args w,(callFunc pf args).run Tryz.prog w=.ok (.enter pf args) w)/\∀(f g:Fr) (V:World),f.2.1.size+f.2.2.size<=100000 ->g.2.1.size+g.2.2.size<=100000 ->Calls Tryz.prog pf #[dP f,dP g] V fun e w'=>e=.returned (dP (if most then great f g else qF (aT f+aT g)))/\Below V.heap.size V w'
theorem agU:VA false 141:=⟨enters_of Tryz.func141 (by kernel_rfl) rfl,fun f g V h1 h2=>ak7 (n:=f.1) (m:=g.1) (x:=f.2.1) (y:=f.2.2) (u:=g.2.1) (v:=g.2.2) (w:=V) (aT f+aT g) rfl rfl rfl h1 h2⟩
theorem agV:VA true 235:=⟨enters_of Tryz.func235 (by kernel_rfl) rfl,fun f g V h1 h2=>akb f g V h1 h2⟩
theorem ZQ (most:Bool) (pf:Nat) (Tq:VA most pf) (Bh Bs Bv Bt Bf:Nat) (a c:Option Addr) (ca cc:Nat) (sizes:List Int) (lb:Array Value) (l:List Fr) (k v n:Nat) (P:Nat ->Nat) (hP:∀x,x< n ->P x<l.length) (gh:1<=n) (CM:n<=4) (gg:v<sizes.length) (yR:sizes[v]=(n:Int)) (w:World)
  (hBh:Bh<w.heap.size) (xh:w.cell? ⟨Bh,0,none⟩=some (.func (.func pf) #[] #[])) (hBs:Bs<w.heap.size) (xs:w.cell? ⟨Bs,0,none⟩=some (.slice a sizes.length ca)) (y6:Bv<w.heap.size) (xv:w.cell? ⟨Bv,0,none⟩=some (.int .i64 (v:Nat))) (ub:Bt<w.heap.size) (xc:w.cell? ⟨Bt,1,none⟩=some (.slice c l.length cc)) (A7:Bf<w.heap.size) (xf:w.cell? ⟨Bf,0,none⟩=some (.func (.func 200) #[] lb)) (hs:aaK w a sizes) (hf:bZ w c l) (h1:Cw 8192 l)
  (hc:∀x,x< n ->∀V,Below w.heap.size w V ->Calls Tryz.prog 200 (#[.int .i64 (k:Nat),.int .i64 (x:Nat)]++lb) V fun e w'=>e=.returned (.int .i64 (P x:Nat))/\Below V.heap.size V w'):
  Calls Tryz.prog 204 #[.int .i64 (k:Nat),.pointer (some ⟨Bh,0,none⟩),.pointer (some ⟨Bs,0,none⟩),.pointer (some ⟨Bv,0,none⟩),.pointer (some ⟨Bt,0,none⟩),.pointer (some ⟨Bf,0,none⟩)] w fun e w'=>e=.returned (dP (qF (aT (ab0 most (fun x=>bA l (P x)) (n - 1)))))/\Below w.heap.size w w':=by
 obtain⟨g,o,rfl,hg,cs⟩:=hs v gg;rw[yR] at cs;have yO:∀x,x< n ->(bA l (P x)).2.1.size+(bA l (P x)).2.2.size+2<=8192:=fun x hx=>h1 _ (hP x hx);have Hk:=Sg most (fun x=>bA l (P x)) (n - 1) fun x hx=>yO x (by omega)
 have hJ:∀W,Below w.heap.size w W ->∀Bk,Bk<W.heap.size ->W.cell? ⟨Bk,0,none⟩=some (.int .i64 (k:Nat)) ->Calls Tryz.prog 205 #[.agg #[.func (.func pf) #[] #[]],.int .i64 (n:Nat),.func (.func 206) #[] #[.pointer (some ⟨Bt,0,none⟩),.pointer (some ⟨Bf,0,none⟩),.pointer (some ⟨Bk,0,none⟩)]] W fun e w'=>e=.returned (dP (ab0 most (fun x=>bA l (P x)) (n - 1)))/\Below W.heap.size W w':=by
  intro W hW Bk Hy xk;refine aiL pf 206 #[] _ Tq.1 (enters_of Tryz.func206 (by kernel_rfl) rfl) n (fun x=>bA l (P x)) (ab0 most (fun x=>bA l (P x))) W gh (by omega) ?_ ?_ rfl
  ·intro x hx V hb;have hB:=hW.trans (hb.ae hW.size);exact ahg Bt Bf Bk c cc lb l k x (P x) (hP x hx) V (aR ub hB.size) ((hB.cell (p:=⟨Bt,1,none⟩) ub).trans xc) (aR A7 hB.size) ((hB.cell (p:=⟨Bf,0,none⟩) A7).trans xf) (aR Hy hb.size) ((hb.cell (p:=⟨Bk,0,none⟩) Hy).trans xk) (hf.aa hB) fun V' hb'=>hc x hx V' (hB.trans (hb'.ae hB.size))
  ·intro x hx V hb;have e1:=Sg most (fun x=>bA l (P x)) x fun y hy=>yO y (by omega);have e2:=yO (x+1) hx;exact Tq.2 _ _ V (by omega) (by show (bA l (P (x+1))).2.1.size+(bA l (P (x+1))).2.2.size<=_;omega)
 have HJ:=hid hJ;have HC:=hid (fun V:World=>Qw (w:=V) (aT (ab0 most (fun x=>bA l (P x)) (n - 1))) rfl (show (ab0 most (fun x=>bA l (P x)) (n - 1)).2.1.size+(ab0 most (fun x=>bA l (P x)) (n - 1)).2.2.size<=100000 by omega));rw[K4];generalize aT (ab0 most (fun x=>bA l (P x)) (n - 1))=r at *;generalize ab0 most (fun x=>bA l (P x)) (n - 1)=f at *;clear hJ Hk yO hc hf hs hP Tq xc xf;obtain⟨fn,fx,fy⟩:=f;simp only at HC HJ;have hv0:(0:Int)<=(v:Int):=by omega
 have ny:(v:Int)<(sizes.length:Int):=by omega
 have hb0:aC ((w.alloc (.cells #[.int .i64 (k:Nat)] 3)).alloc (FC false ⟨#[]⟩ ⟨#[]⟩)) (w.heap.size+1) false ⟨#[]⟩ ⟨#[]⟩:=aC.at (by simp) _ _ _;have hk0:Boxed ((w.alloc (.cells #[.int .i64 (k:Nat)] 3)).alloc (FC false ⟨#[]⟩ ⟨#[]⟩)) w.heap.size 3 (.int .i64 (k:Nat)):=(a7 w _ _).alloc _;have hB:Below w.heap.size w ((w.alloc (.cells #[.int .i64 (k:Nat)] 3)).alloc (FC false ⟨#[]⟩ ⟨#[]⟩)):=((au _ w).alloc (ar _) _).alloc (by simp) _;go_enter Tryz.func204,Tryz.ntmps204;go_upto_region 1 with fail
 generalize ((w.alloc (.cells #[.int .i64 (k:Nat)] 3)).alloc (FC false ⟨#[]⟩ ⟨#[]⟩))=W at *;replace hb0:=hb0.drew;replace hB:=hB.drew;replace hk0:Boxed W.drew w.heap.size 3 (.int .i64 (k:Nat)):=hk0;have held:∀u,Below w.heap.size w u ->u.cell? ⟨Bh,0,none⟩=some (.func (.func pf) #[] #[])/\u.cell? ⟨Bs,0,none⟩=some (.slice (some ⟨g,o,none⟩) sizes.length ca)/\u.cell? ⟨Bv,0,none⟩=some (.int .i64 (v:Nat))/\u.cell? ⟨g,o+v,none⟩=some (.int .i64 (n:Nat)):=fun u h=>⟨(h.cell (p:=⟨Bh,0,none⟩) hBh).trans xh,(h.cell (p:=⟨Bs,0,none⟩) hBs).trans xs,(h.cell (p:=⟨Bv,0,none⟩) y6).trans xv,(h.cell (p:=⟨g,_,none⟩) hg).trans cs⟩;have HELD:=hid held;clear held xh xs xv cs;refine jJ (S:=fun u=>u.cell? ⟨Bh,0,none⟩=some (.func (.func pf) #[] #[])/\u.cell? ⟨Bs,0,none⟩=some (.slice (some ⟨g,o,none⟩) sizes.length ca)/\u.cell? ⟨Bv,0,none⟩=some (.int .i64 (v:Nat))/\u.cell? ⟨g,o+v,none⟩=some (.int .i64 (n:Nat))) (by kernel_rfl) (HELD.o _ hB) (fun aq=>?_);generalize W.drew=u0 at *;refine aw 0 (.agg #[.func (.func pf) #[] #[]]) ?_;refine aw 1 (.slice (some ⟨g,o,none⟩) sizes.length ca) ?_;refine aw 2 (.int .i64 (v:Nat)) ?_;refine aw 3 (.pointer (some ⟨g,o+v,none⟩)) ?_;refine aw 4 (.int .i64 (n:Nat)) ?_;refine aw 5 (.func (.func 206) #[] #[.pointer (some ⟨Bt,0,none⟩),.pointer (some ⟨Bf,0,none⟩),.pointer (some ⟨w.heap.size,0,none⟩)]) ?_;refine aF [6] (cA ?_ aD);intro K' hK';go_simp;refine(HJ.o _ hB _ hk0.lt hk0.cell).ae ?_;rintro e u1 ⟨rfl,hb⟩;replace hb0:=hb0.aa hb hb0.lt;clear hk0
 replace hB:=hB.trans (hb.ae hB.size);refine hK'.o _ _ (HELD.o _ hB) (fun ak=>?_);clear hK' K' aq;have aq:=ak;clear ak hb;refine aF [7] (cA ?_ aD);intro K' hK';go_simp;refine(HC.o _).ae ?_;rintro e u2 ⟨rfl,hb⟩;replace hb0:=hb0.aa hb hb0.lt;replace hB:=hB.trans (hb.ae hB.size);refine hK'.o _ _ (HELD.o _ hB) (fun ak=>?_);clear hK' K' aq;have aq:=ak;clear ak hb;try simp only[gE,aP]
 obtain⟨k0,k1,k2,f0,f1,f2⟩:=hb0.facts;refine aF [8] (cA ?_ aD);intro K' hK';go_simp;have hput:=hb0.put (aH r) (nu r) (de r);have hBp:=bF hB (g:=w.heap.size+1) (by omega) (.bool (aH r)) (.string (nu r)) (.string (de r));generalize (((u2.setCell ⟨w.heap.size+1,0,none⟩ (.bool (aH r))).setCell ⟨w.heap.size+1,1,none⟩ (.string (nu r))).setCell ⟨w.heap.size+1,2,none⟩ (.string (de r)))=v9 at *;refine hK'.o _ _ (HELD.o _ hBp) (fun _=>dW (by kernel_rfl) ?_ _);clear hK' K' aq;go_wp2;refine bB (hput.result rfl _ rfl) rfl ?_;exact⟨rfl,hBp⟩
def OH (w V:World) (s u v x:Value):Prop:=Boxed V w.heap.size 27 s/\NR w V (w.heap.size+1) (w.heap.size+1+1+1) u v/\Boxed V (w.heap.size+1+1) 3 x
theorem OH.step {s u v:Value} (h:OH w V s u v x) (hb:Below V.heap.size V V'):OH w V' s u v x:=⟨aZ h.1 hb,h.2.1.step hb,aZ h.2.2 hb⟩
theorem OH.new (w:World) (s u v x:Value):OH w ((((w.alloc (.cells #[s] 27)).alloc (TC u v)).alloc (.cells #[x] 3)).alloc (TC (.slice none 0 0) (.slice none 0 0))) s u v x:=by
 have h2:Boxed (((w.alloc (.cells #[s] 27)).alloc (TC u v)).alloc (.cells #[x] 3)) (w.heap.size+1+1) 3 x:=by
  have h:=a7 ((w.alloc (.cells #[s] 27)).alloc (TC u v)) 3 x;rwa [cN,cN] at h
 exact⟨(((a7 w _ _).alloc _).alloc _).alloc _,⟨((bh.at (by simp) _ _).alloc _).alloc _,bh.at (by simp) _ _,((((au _ w).alloc (ar _) _).alloc (by simp) _).alloc (by simp;omega) _).alloc (by simp;omega) _⟩,h2.alloc _⟩
theorem OH.off {s u v:Value} (h:OH w V s u v x) (B j:Nat) (y:Value) (hB:w.heap.size+1+1+1<B):OH w (V.setCell ⟨B,j,none⟩ y) s u v x:=⟨eO h.1 B j y (by omega),h.2.1.off B j y (by omega) (by omega) (by omega),eO h.2.2 B j y (by omega)⟩
theorem OH.top {s u v:Value} (h:OH w V s u v x):w.heap.size+1+1+1<V.heap.size:=h.2.1.2.1.lt
theorem Sh (S vars rest:List Nat) (v:Nat) (most:Bool) (l:List Fr):(qL S vars rest v most l).length=cnt S rest:=by simp[qL]
theorem ZP (S vars rest:List Nat) (v:Nat) (most:Bool) (l:List Fr) (h:k<(qL S vars rest v most l).length):(qL S vars rest v most l)[k]=qF (aT (ab0 most (fun x=>bA l (pos S (aQ (aO S rest k) v x) vars)) (sz S v - 1))):=by simp[qL]
theorem aew (a b c:Option Addr) (ca cb cc:Nat) (sizes vars:List Int) (l:List Fr) (v:Nat) (w:World) (hs:aaK w a sizes) (hv:aaK w b vars) (hf:bZ w c l) (hn:sizes.length<=140737488355328) (hm:vars.length<=140737488355328) (hk:jr sizes vars l.length=0) (hw:Cw 8192 l) (hv':vars.contains (v:Int)=true) (gg:v<sizes.length):
  Calls Tryz.prog 160 #[.slice a sizes.length ca,.agg #[.slice b vars.length cb,.slice c l.length cc],.int .i64 (v:Nat),.bool false] w fun e w'=>uh w.heap.size (bw vars (v:Int)) (qL (ag sizes) (ag vars) (ag (bw vars (v:Int))) v false l) 0 e w'/\Below w.heap.size w w':=by
 obtain⟨aJ,aX,hlc⟩:=xC hk;have ye:=hid (fun V h=>GS b cb vars (v:Int) V h hm);rw[hv'] at ye;have HCK:=fun V h1 h2=>Cm a b c ca cb cc l.length sizes vars V h1 h2 hn hm;rw[hk] at HCK;have HC:=hid HCK;clear HCK;have hrl:(bw vars (v:Int)).length<=vars.length:=pR _ _;have S9:=aX.length;have nD:=aJ.eight;have HFI:=hid aJ;have gz:=hid aX;have Dt:=hid (tI aX (v:Int));have FQ:=hid (N7 (v:=v) aX);have mC:=hid (fun K (hK:K<cnt (ag sizes) (ag (bw vars (v:Int)))) x (hx:x<sz (ag sizes) v)=>Q3 hk hK hx);have jR:=Sh (ag sizes) (ag vars) (ag (bw vars (v:Int))) v false l;have BQ:=hid (fun (k:Nat) (h:k<(qL (ag sizes) (ag vars) (ag (bw vars (v:Int))) v false l).length)=>ZP (ag sizes) (ag vars) (ag (bw vars (v:Int))) v false l h);have ku:=hid (fun V h=>Q1 b cb vars (v:Int) V h (by omega));generalize qL (ag sizes) (ag vars) (ag (bw vars (v:Int))) v false l=FL at *;generalize bw vars (v:Int)=rest at *;have HST:=hid (fun V d cd h1 h2=>Rt a d b ca cd cb sizes rest vars v V h1 h2 aJ aX gg);have HF:=hid hf;have HW:=hid hw;have kz:=hid jR;have HN:=hid (aJ.sz_eq gg);have uA:=hid (aJ.sz_le v);have sZ:=hid (im aJ.pos v);have uq:=hid gg;clear hv' hk aJ aX hlc hf hw jR;have HS:=hid hs;have HV:=hid hv;have hH:=OH.new w (.slice a sizes.length ca) (.slice b vars.length cb) (.slice c l.length cc) (.int .i64 (v:Nat));have c0:=hH.2.1.1.c0;have c1:=hH.2.1.1.c1;have cs:=hH.1.cell;go_enter Tryz.func160,Tryz.ntmps160;go_wp2_with fail
 generalize ((((w.alloc (.cells #[.slice a sizes.length ca] 27)).alloc (TC (.slice b vars.length cb) (.slice c l.length cc))).alloc (.cells #[.int .i64 (v:Nat)] 3)).alloc (TC (.slice none 0 0) (.slice none 0 0)))=W at *;refine(HC.o _ (HS.o.aa hH.2.1.2.2) (HV.o.aa hH.2.1.2.2)).ae ?_;rintro e w1 ⟨rfl,hb1⟩;replace hH:=hH.step hb1;clear c0 c1 cs hb1;have c0:=hH.2.1.1.c0;have cx:=hH.2.2.cell;go_wp2_with fail
 refine(ye.o _ (HV.o.aa hH.2.1.2.2)).ae ?_;rintro e w2 ⟨rfl,hb2⟩;replace hH:=hH.step hb2;clear c0 cx hb2 ye;go_wp2_with fail
 refine(X9 _).ae ?_;rintro e w3 ⟨rfl,hb3⟩;replace hH:=hH.step hb3;clear hb3;have hb4:Below w3.heap.size w3 (w3.alloc (.cells #[.func (.func 141) #[] #[]] 224)):=(au _ w3).alloc (ar _) _;have hJ:Boxed (w3.alloc (.cells #[.func (.func 141) #[] #[]] 224)) w3.heap.size 224 (.func (.func 141) #[] #[]):=a7 w3 _ _;have bU:=hH.top;replace hH:=hH.step hb4;clear hb4;have c0:=hH.2.1.1.c0;have cx:=hH.2.2.cell;go_wp2_with fail
 clear c0 cx;generalize (w3.alloc (.cells #[.func (.func 141) #[] #[]] 224))=w5 at *;generalize w3.heap.size=BJ at *;refine(ku.o _ (HV.o.aa hH.2.1.2.2)).ae ?_;rintro e w6 ⟨d,cd,rfl,hi,kK,bD⟩;have BR:=hid (kK.up hH.2.1.2.2.size);clear kK;replace hH:=hH.step bD;replace hJ:=aZ hJ bD;clear bD ku;have c0:=hH.2.1.1.c0;have cx:=hH.2.2.cell;have cs:=hH.1.cell;go_wp2_with fail
 refine(HST.o _ d cd (HS.o.aa hH.2.1.2.2) (HV.o.aa hH.2.1.2.2)).ae ?_;rintro e w7 ⟨f,rfl,sH,bK⟩;replace hH:=hH.step bK;replace hJ:=aZ hJ bK;replace hi:=hi.aa bK;obtain⟨lb,rfl⟩:=sH.shape;clear c0 cx cs bK HST;generalize w6.heap.size=n3 at *;have jS:Below w7.heap.size w7 (w7.alloc (.cells #[.func (.func 200) #[] lb] 100)):=(au _ w7).alloc (ar _) _;have hY:Boxed (w7.alloc (.cells #[.func (.func 200) #[] lb] 100)) w7.heap.size 100 (.func (.func 200) #[] lb):=a7 w7 _ _;replace hH:=hH.step jS;replace hJ:=aZ hJ jS;replace sH:=sH.aa jS;replace hi:=hi.aa jS;have cs:=hH.1.cell;go_wp2_with fail
 clear jS cs;generalize (w7.alloc (.cells #[.func (.func 200) #[] lb] 100))=w8 at *;generalize w7.heap.size=Gh at *
 have sq:=K8 a d ca cd sizes rest 204 #[.pointer (some ⟨BJ,0,none⟩),.pointer (some ⟨w.heap.size,0,none⟩),.pointer (some ⟨w.heap.size+1+1,0,none⟩),.pointer (some ⟨w.heap.size+1,0,none⟩),.pointer (some ⟨Gh,0,none⟩)] (enters_of Tryz.func204 (by kernel_rfl) rfl) FL w8 (HS.o.aa hH.2.1.2.2) hi HFI.o Dt.o kz.o (fun k hk V hb=>by
  rw[BQ.o k hk];have dH:k<cnt (ag sizes) (ag rest):=by rw[<- kz.o];exact hk
  have hB:=hH.2.1.2.2.trans (hb.ae hH.2.1.2.2.size);refine ZQ false 141 agU BJ w.heap.size (w.heap.size+1+1) (w.heap.size+1) Gh a c ca cc sizes lb l k v (sz (ag sizes) v) (fun x=>pos (ag sizes) (aQ (aO (ag sizes) (ag rest) k) v x) (ag vars)) (fun x hx=>mC.o k dH x hx) sZ.o uA.o uq.o HN.o.symm V (aR hJ.lt hb.size) (aZ hJ hb).cell (aR hH.1.lt hb.size) (aZ hH.1 hb).cell (aR hH.2.2.lt hb.size) (aZ hH.2.2 hb).cell (aR hH.2.1.1.lt hb.size) ((hb.cell (p:=⟨w.heap.size+1,1,none⟩) hH.2.1.1.lt).trans hH.2.1.1.c1) (aR hY.lt hb.size) (aZ hY hb).cell (HS.o.aa hB) (HF.o.aa hB) HW.o ?_;intro x hx V' hb';have hb2:=hb.trans (hb'.ae hb.size);have h4:=uA.o;exact((sH.aa hb2).calls (HS.o.aa (hB.trans (hb'.ae hB.size))) (hi.aa hb2) HFI.o Dt.o gz.o FQ.o dH (by omega)))
 have BP:=hid sq;clear sq;refine BP.o.ae ?_;rintro e w9 ⟨G,rfl,hG,hrow,vu⟩;have Ho:=hH.top;replace hH:=hH.step vu;replace hi:=hi.aa vu;obtain⟨k0,k1,f0,f1⟩:=hH.2.1.2.1.facts;obtain⟨e1,e2,e3⟩:=hH.2.1.fin (by omega) (cb:=cd) (cc:=FL.length) BR.o (by omega) hi hrow (by omega) (.slice d rest.length cd) (.slice (some ⟨G,0,none⟩) FL.length FL.length) rfl rfl;go_wp2;refine bB (e1.result2 rfl _ rfl) rfl ?_;exact⟨e2,e3⟩
theorem aex (a b c:Option Addr) (ca cb cc:Nat) (sizes vars:List Int) (l:List Fr) (v:Nat) (w:World) (hs:aaK w a sizes) (hv:aaK w b vars) (hf:bZ w c l) (hn:sizes.length<=140737488355328) (hm:vars.length<=140737488355328) (hk:jr sizes vars l.length=0) (hw:Cw 8192 l) (hv':vars.contains (v:Int)=true) (gg:v<sizes.length):
  Calls Tryz.prog 160 #[.slice a sizes.length ca,.agg #[.slice b vars.length cb,.slice c l.length cc],.int .i64 (v:Nat),.bool true] w fun e w'=>uh w.heap.size (bw vars (v:Int)) (qL (ag sizes) (ag vars) (ag (bw vars (v:Int))) v true l) 0 e w'/\Below w.heap.size w w':=by
 obtain⟨aJ,aX,hlc⟩:=xC hk;have ye:=hid (fun V h=>GS b cb vars (v:Int) V h hm);rw[hv'] at ye;have HCK:=fun V h1 h2=>Cm a b c ca cb cc l.length sizes vars V h1 h2 hn hm;rw[hk] at HCK;have HC:=hid HCK;clear HCK;have hrl:(bw vars (v:Int)).length<=vars.length:=pR _ _;have S9:=aX.length;have nD:=aJ.eight;have HFI:=hid aJ;have gz:=hid aX;have Dt:=hid (tI aX (v:Int));have FQ:=hid (N7 (v:=v) aX);have mC:=hid (fun K (hK:K<cnt (ag sizes) (ag (bw vars (v:Int)))) x (hx:x<sz (ag sizes) v)=>Q3 hk hK hx);have jR:=Sh (ag sizes) (ag vars) (ag (bw vars (v:Int))) v true l;have BQ:=hid (fun (k:Nat) (h:k<(qL (ag sizes) (ag vars) (ag (bw vars (v:Int))) v true l).length)=>ZP (ag sizes) (ag vars) (ag (bw vars (v:Int))) v true l h);have ku:=hid (fun V h=>Q1 b cb vars (v:Int) V h (by omega));generalize qL (ag sizes) (ag vars) (ag (bw vars (v:Int))) v true l=FL at *;generalize bw vars (v:Int)=rest at *;have HST:=hid (fun V d cd h1 h2=>Rt a d b ca cd cb sizes rest vars v V h1 h2 aJ aX gg);have HF:=hid hf;have HW:=hid hw;have kz:=hid jR;have HN:=hid (aJ.sz_eq gg);have uA:=hid (aJ.sz_le v);have sZ:=hid (im aJ.pos v);have uq:=hid gg;clear hv' hk aJ aX hlc hf hw jR;have HS:=hid hs;have HV:=hid hv;have hH:=OH.new w (.slice a sizes.length ca) (.slice b vars.length cb) (.slice c l.length cc) (.int .i64 (v:Nat));have c0:=hH.2.1.1.c0;have c1:=hH.2.1.1.c1;have cs:=hH.1.cell;go_enter Tryz.func160,Tryz.ntmps160;go_wp2_with fail
 generalize ((((w.alloc (.cells #[.slice a sizes.length ca] 27)).alloc (TC (.slice b vars.length cb) (.slice c l.length cc))).alloc (.cells #[.int .i64 (v:Nat)] 3)).alloc (TC (.slice none 0 0) (.slice none 0 0)))=W at *;refine(HC.o _ (HS.o.aa hH.2.1.2.2) (HV.o.aa hH.2.1.2.2)).ae ?_;rintro e w1 ⟨rfl,hb1⟩;replace hH:=hH.step hb1;clear c0 c1 cs hb1;have c0:=hH.2.1.1.c0;have cx:=hH.2.2.cell;go_wp2_with fail
 refine(ye.o _ (HV.o.aa hH.2.1.2.2)).ae ?_;rintro e w2 ⟨rfl,hb2⟩;replace hH:=hH.step hb2;clear c0 cx hb2 ye;go_wp2_with fail
 refine(X9 _).ae ?_;rintro e w3 ⟨rfl,hb3⟩;replace hH:=hH.step hb3;clear hb3;have hb4:Below w3.heap.size w3 (w3.alloc (.cells #[.func (.func 141) #[] #[]] 224)):=(au _ w3).alloc (ar _) _;have hJ:Boxed (w3.alloc (.cells #[.func (.func 141) #[] #[]] 224)) w3.heap.size 224 (.func (.func 141) #[] #[]):=a7 w3 _ _;have bU:=hH.top;replace hH:=hH.step hb4;clear hb4;go_wp2_with fail
 generalize (w3.alloc (.cells #[.func (.func 141) #[] #[]] 224))=w3' at *;generalize w3.heap.size=BJ at *;refine(aka _).ae ?_;rintro e w4 ⟨rfl,hb4⟩;replace hH:=hH.step hb4;replace hJ:=aZ hJ hb4;clear hb4;have j0:=hJ.cell;have j1:=hJ.frozen;replace hH:=hH.off BJ 0 (.func (.func 235) #[] #[]) bU;have c0:=hH.2.1.1.c0;have cx:=hH.2.2.cell;replace hJ:=hJ.set (.func (.func 235) #[] #[]);go_wp2_with fail
 clear j0 j1 c0 cx;generalize (w4.setCell ⟨BJ,0,none⟩ (.func (.func 235) #[] #[]))=w5 at *;refine(ku.o _ (HV.o.aa hH.2.1.2.2)).ae ?_;rintro e w6 ⟨d,cd,rfl,hi,kK,bD⟩;have BR:=hid (kK.up hH.2.1.2.2.size);clear kK;replace hH:=hH.step bD;replace hJ:=aZ hJ bD;clear bD ku;have c0:=hH.2.1.1.c0;have cx:=hH.2.2.cell;have cs:=hH.1.cell;go_wp2_with fail
 refine(HST.o _ d cd (HS.o.aa hH.2.1.2.2) (HV.o.aa hH.2.1.2.2)).ae ?_;rintro e w7 ⟨f,rfl,sH,bK⟩;replace hH:=hH.step bK;replace hJ:=aZ hJ bK;replace hi:=hi.aa bK;obtain⟨lb,rfl⟩:=sH.shape;clear c0 cx cs bK HST;generalize w6.heap.size=n3 at *;have jS:Below w7.heap.size w7 (w7.alloc (.cells #[.func (.func 200) #[] lb] 100)):=(au _ w7).alloc (ar _) _;have hY:Boxed (w7.alloc (.cells #[.func (.func 200) #[] lb] 100)) w7.heap.size 100 (.func (.func 200) #[] lb):=a7 w7 _ _;replace hH:=hH.step jS;replace hJ:=aZ hJ jS;replace sH:=sH.aa jS;replace hi:=hi.aa jS;have cs:=hH.1.cell;go_wp2_with fail
 clear jS cs;generalize (w7.alloc (.cells #[.func (.func 200) #[] lb] 100))=w8 at *;generalize w7.heap.size=Gh at *
 have sq:=K8 a d ca cd sizes rest 204 #[.pointer (some ⟨BJ,0,none⟩),.pointer (some ⟨w.heap.size,0,none⟩),.pointer (some ⟨w.heap.size+1+1,0,none⟩),.pointer (some ⟨w.heap.size+1,0,none⟩),.pointer (some ⟨Gh,0,none⟩)] (enters_of Tryz.func204 (by kernel_rfl) rfl) FL w8 (HS.o.aa hH.2.1.2.2) hi HFI.o Dt.o kz.o (fun k hk V hb=>by
  rw[BQ.o k hk];have dH:k<cnt (ag sizes) (ag rest):=by rw[<- kz.o];exact hk
  have hB:=hH.2.1.2.2.trans (hb.ae hH.2.1.2.2.size);refine ZQ true 235 agV BJ w.heap.size (w.heap.size+1+1) (w.heap.size+1) Gh a c ca cc sizes lb l k v (sz (ag sizes) v) (fun x=>pos (ag sizes) (aQ (aO (ag sizes) (ag rest) k) v x) (ag vars)) (fun x hx=>mC.o k dH x hx) sZ.o uA.o uq.o HN.o.symm V (aR hJ.lt hb.size) (aZ hJ hb).cell (aR hH.1.lt hb.size) (aZ hH.1 hb).cell (aR hH.2.2.lt hb.size) (aZ hH.2.2 hb).cell (aR hH.2.1.1.lt hb.size) ((hb.cell (p:=⟨w.heap.size+1,1,none⟩) hH.2.1.1.lt).trans hH.2.1.1.c1) (aR hY.lt hb.size) (aZ hY hb).cell (HS.o.aa hB) (HF.o.aa hB) HW.o ?_;intro x hx V' hb';have hb2:=hb.trans (hb'.ae hb.size);have h4:=uA.o;exact((sH.aa hb2).calls (HS.o.aa (hB.trans (hb'.ae hB.size))) (hi.aa hb2) HFI.o Dt.o gz.o FQ.o dH (by omega)))
 have BP:=hid sq;clear sq;refine BP.o.ae ?_;rintro e w9 ⟨G,rfl,hG,hrow,vu⟩;have Ho:=hH.top;replace hH:=hH.step vu;replace hi:=hi.aa vu;obtain⟨k0,k1,f0,f1⟩:=hH.2.1.2.1.facts;obtain⟨e1,e2,e3⟩:=hH.2.1.fin (by omega) (cb:=cd) (cc:=FL.length) BR.o (by omega) hi hrow (by omega) (.slice d rest.length cd) (.slice (some ⟨G,0,none⟩) FL.length FL.length) rfl rfl;go_wp2;refine bB (e1.result2 rfl _ rfl) rfl ?_;exact⟨e2,e3⟩
open Go.Sort Go.Lib
variable {la:List Int}
theorem YY:∀ {a b:List Int},a.Pairwise (·<·) ->b.Pairwise (·<·) ->(∀x,x∈a↔x∈b) ->a=b
 |[],[],_,_,_=>rfl
 |[],y::b,_,_,h=>absurd ((h y).2 dJ) (by simp)
 |x::a,[],_,_,h=>absurd ((h x).1 dJ) (by simp)
 |x::a,y::b,ha,hb,h=>by
  rw[List.pairwise_cons] at ha hb
  have e:x=y:=by
   have h1:=(h x).1 dJ;have h2:=(h y).2 dJ;rw[dK] at h1 h2;rcases h1 with h1 |h1
   ·exact h1
   ·rcases h2 with h2 |h2
    ·exact h2.symm
    ·have:=hb.1 x h1;have:=ha.1 y h2;omega
  subst e;rw[YY ha.2 hb.2 fun z=>?_];constructor
  ·intro hz;have h1:=(h z).1 (eE _ hz);have:=ha.1 z hz;rw[dK] at h1;rcases h1 with h1 |h1
   ·omega
   ·exact h1
  ·intro hz;have h1:=(h z).2 (eE _ hz);have:=hb.1 z hz;rw[dK] at h1;rcases h1 with h1 |h1
   ·omega
   ·exact h1
theorem acy {d:Array Int} (hs:∀i j,i<=j ->j<d.size ->d[i]!<=d[j]!):∀m,m<=d.size ->(compactUpTo d m).Pairwise (·<·)/\∀x,x∈compactUpTo d m↔∃j,j<m/\d[j]! =x
 |0,_=>⟨by simp[compactUpTo],fun x=>by simp[compactUpTo]⟩
 |m+1,hm=>by
  obtain⟨h1,h2⟩:=acy hs m (by omega);rw[compactUpTo_succ];by_cases hk:keeps d m=true
  ·rw[aaf hk];constructor
   ·rw[List.pairwise_append];refine⟨h1,by simp,fun x hx y hy=>?_⟩;obtain⟨j,hj,rfl⟩:=(h2 x).1 hx;rw[fX] at hy;subst hy;rw[keeps,ei] at hk;rcases hk with hk |hk
    ·omega
    ·have e1:=hs j (m - 1) (by omega) (by omega);have e2:=hs (m - 1) m (by omega) (by omega);omega
   ·intro x;rw[aa5,h2,fX];constructor
    ·rintro(⟨j,hj,rfl⟩ |rfl)
     ·exact⟨j,by omega,rfl⟩
     ·exact⟨m,by omega,rfl⟩
    ·rintro⟨j,hj,rfl⟩;by_cases e:j=m
     ·exact .inr (by rw[e])
     ·exact .inl ⟨j,by omega,rfl⟩
  ·rw[aaO hk,Eg];refine⟨h1,fun x=>?_⟩;rw[h2];have dH:¬(m=0∨d[m]!≠d[m - 1]!):=fun h=>hk (by rw[keeps,ei];exact h);have hm0:m≠0:=fun h=>dH (.inl h);have hmm:d[m]! =d[m - 1]!:=Gz fun h=>dH (.inr h);constructor
   ·rintro⟨j,hj,rfl⟩;exact⟨j,by omega,rfl⟩
   ·rintro⟨j,hj,rfl⟩;by_cases e:j=m
    ·exact⟨m - 1,by omega,by rw[e,hmm]⟩
    ·exact⟨j,by omega,rfl⟩
def abM (la lb:List Int):List Int:=Lib.compact ((la++lb).mergeSort fun x y=>decide (x<=y))
theorem Jv (la lb:List Int):(abM la lb).Pairwise (·<·)/\∀x,x∈abM la lb↔x∈la∨x∈lb:=by
 have hp:((la++lb).mergeSort fun x y=>decide (x<=y)).Pairwise (fun x y=>decide (x<=y)=true):=List.pairwise_mergeSort (fun a b c h1 h2=>by simp at h1 h2⊢;omega) (fun a b=>by simp;omega) _;have hm:∀x,x∈((la++lb).mergeSort fun x y=>decide (x<=y))↔x∈la∨x∈lb:=fun x=>by rw[List.mem_mergeSort,aa5]
 rw[abM];generalize ((la++lb).mergeSort fun x y=>decide (x<=y))=zs at hp hm
 have hs:∀i j,i<=j ->j<zs.toArray.size ->zs.toArray[i]!<=zs.toArray[j]!:=fun i j CP hj=>by
  have hj':j<zs.length:=by simpa using hj
  rw[I6 zs.toArray i (by omega),I6 zs.toArray j hj];by_cases e:i=j
  ·subst e;exact Int.le_refl _
  ·have:=Cg.1 hp i j (by omega) hj' (by omega);simpa using this
 obtain⟨h1,h2⟩:=acy hs zs.toArray.size (ar _);have e:Lib.compact zs=compactUpTo zs.toArray zs.toArray.size:=by rw[Lib.compact];simp
 rw[e];refine⟨h1,fun x=>?_⟩;rw[h2, <- hm];constructor
 ·rintro⟨j,hj,rfl⟩;rw[I6 zs.toArray j hj];simp
 ·intro hx;obtain⟨j,hj,rfl⟩:=iE hx;exact⟨j,by simpa using hj,by rw[I6 zs.toArray j (by simpa using hj)];simp⟩
theorem aeb:abM [] []=[]:=List.eq_nil_iff_forall_not_mem.2 fun x hx=>by have:=((Jv [] []).2 x).1 hx;simp at this
theorem asH {k:Int}:ie k l=true↔k∈l:=by simp[ie]
theorem GI {lb:List Int} (ha:Up la n) (hb:Up lb n):Up (abM la lb) n:=by
 obtain⟨h1,h2⟩:=Jv la lb;exact pV.2 ⟨fun x hx=>((h2 x).1 hx).elim ((pV.1 ha).1 x) ((pV.1 hb).1 x),h1⟩
theorem aes (a b:Option Addr) (ca cb:Nat) (la lb:List Int) (w:World) (ha:aaK w a la) (hb:aaK w b lb) (ha0:a=none ->ca=0) (hb0:b=none ->cb=0) (lF:la.length<=1000) (lD:lb.length<=1000):
  Calls Tryz.prog 207 #[.slice a la.length ca,.slice b lb.length cb] w fun e w'=>∃(d:Option Addr) (cd:Nat),e=.returned (.slice d (abM la lb).length cd)/\aaK w' d (abM la lb)/\eC w.heap.size d cd/\Below w.heap.size w w':=by
 obtain⟨L,hL⟩:∃L,L=abM la lb:=⟨_,rfl⟩;rw[<- hL];have HL:=hid hL;have CV:Below w.heap.size w (w.alloc (.cells #[.slice a la.length ca,.slice b lb.length cb] 27)):=(au _ w).alloc (ar _) _;have hrow:(w.alloc (.cells #[.slice a la.length ca,.slice b lb.length cb] 27)).heap[w.heap.size]? =some (.cells #[.slice a la.length ca,.slice b lb.length cb] 27 (0,0)):=kd _ _;have Mv:=hid (ae4 w.heap.size a b ca cb la lb (w.alloc (.cells #[.slice a la.length ca,.slice b lb.length cb] 27)) (by simp) (by rw[cC _ _ _ _ _ (0,0) hrow];rfl) (by rw[cC _ _ _ _ _ (0,0) hrow];rfl) (ha.aa CV) (hb.aa CV) ha0 hb0 lF lD);clear hL ha hb ha0 hb0 hrow;go_enter Tryz.func207,Tryz.ntmps207;go_wp2_with fail
 generalize (w.alloc (.cells #[.slice a la.length ca,.slice b lb.length cb] 27))=W at *;refine Mv.o.ae ?_;rintro e w1 ⟨v,rfl,hr,hb1⟩;have hB1:=CV.trans (hb1.ae CV.size);have hs0:=CV.size;rcases hr.cases with ⟨rfl,hnil⟩ |⟨g,cap,rfl,hg0,hg,hc1,hc2,hh⟩
 ·have KR:L=[]:=by
   have h1:la=[]:=(List.append_eq_nil_iff.1 hnil).1;have h2:lb=[]:=(List.append_eq_nil_iff.1 hnil).2;rw[HL.o,h1,h2,aeb]
  subst KR;go_wp2_with fail
  refine(Tryz.slices_Sort_int_none none 0 _).ae ?_;rintro e w2 ⟨rfl,rfl⟩;go_wp2_with fail
  refine(Tryz.slices_Compact_int_empty none 0 _).ae ?_;rintro e w3 ⟨rfl,rfl⟩;go_wp2;go_ret;exact⟨none,0,rfl,fun k hk=>absurd hk (by simp),eC.nil _,hB1⟩
 ·have dh:(la++lb).length<=2000:=by rw[dM];omega
  have aaX:=Tryz.slices_Sort_int g 0 cap (la++lb) w1 hh hg (by omega);have hlen:((la++lb).mergeSort fun x y=>decide (x<=y)).length=(la++lb).length:=MP _;have hcl:=Lib.compact_length_le ((la++lb).mergeSort fun x y=>decide (x<=y));rw[<- show abM la lb=Lib.compact ((la++lb).mergeSort fun x y=>decide (x<=y)) from rfl, <- HL.o] at hcl;have VY:=hid aaX;have anh:Hid (Lib.compact ((la++lb).mergeSort fun x y=>decide (x<=y))=L):=HL.o.symm;generalize ((la++lb).mergeSort fun x y=>decide (x<=y))=zs at *;have HH:=hid hh;clear aaX hh hr hc2 hb1;generalize Ie:(la++lb).length=n at *;go_wp2_with fail
  refine VY.o.ae ?_;rintro e w2 ⟨rfl,q,os,rfl⟩;have hsz:zs.toArray.size=(la++lb).toArray.size:=by simp;rw[hlen, <- Ie];simp
  have C7:Holds (Value.int .i64) (grow (putRow (Value.int .i64) (Sort.ahead w1 q) g 0 zs.toArray) os) g 0 zs.toArray:=fun j hj=>by
   obtain⟨h1,h2⟩:=holds_putRow (Value.int .i64) (Sort.ahead w1 q) g 0 _ zs.toArray HH.o hsz j hj;(have gj:g<(putRow (Value.int .i64) (Sort.ahead w1 q) g 0 zs.toArray).heap.size:=by rw[size_putRow];exact hg);refine⟨(cell?_grow _ _ _ gj).trans h1,?_⟩;rw[frozen?_grow _ _ _ gj];exact h2
  have Kr:g<(grow (putRow (Value.int .i64) (Sort.ahead w1 q) g 0 zs.toArray) os).heap.size:=aR hg (MF (w:=w1) (g:=g) (n:=q) (os:=os) zs.toArray).size;have hB2:=Vi (n:=q) (os:=os) zs.toArray hB1 hB1.size (show w.heap.size<=g by omega);generalize grow (putRow (Value.int .i64) (Sort.ahead w1 q) g 0 zs.toArray) os=w2 at *;have TM:=Tryz.slices_Compact_int g 0 cap zs w2 C7 (by omega) (by omega);rw[hlen,anh.o] at TM;have anG:=hid TM;have Ww:=hid C7;clear TM C7 hsz;go_wp2_with fail
  refine anG.o.ae ?_;rintro e w3 ⟨rfl,q2,rfl⟩;go_wp2;go_ret
  have Hl:(L++List.replicate (n - L.length) 0).toArray.size=zs.toArray.size:=by
   simp;omega
  exact⟨some ⟨g,0,none⟩,cap,rfl,EP (holds_putRow (Value.int .i64) (Sort.ahead w2 q2) g 0 zs.toArray _ Ww.o Hl) (by rw[size_putRow];exact Kr) (fun j hj=>⟨by simp;omega,by simp[uI,hj]⟩),eC.at (by omega),Vj _ hB2 hB2.size (by omega)⟩
theorem agp (Ba Fa Bb Fb:Nat) (c d:Option Addr) (ca cb:Nat) (fa fb:Array Value) (la lb:List Fr) (k P Q:Nat) (hP:P<la.length) (hQ:Q<lb.length) (w:World)
  (hBa:Ba<w.heap.size) (xa:w.cell? ⟨Ba,1,none⟩=some (.slice c la.length ca)) (bL:Fa<w.heap.size) (ya:w.cell? ⟨Fa,0,none⟩=some (.func (.func 234) #[] fa)) (hBb:Bb<w.heap.size) (xb:w.cell? ⟨Bb,1,none⟩=some (.slice d lb.length cb)) (b6:Fb<w.heap.size) (yb:w.cell? ⟨Fb,0,none⟩=some (.func (.func 234) #[] fb)) (ha:bZ w c la) (hb:bZ w d lb) (wa:Cw 100000 la) (wb:Cw 100000 lb)
  (h1:∀V,Below w.heap.size w V ->Calls Tryz.prog 234 (#[.int .i64 (k:Nat)]++fa) V fun e w'=>e=.returned (.int .i64 (P:Nat))/\Below V.heap.size V w')
  (h2:∀V,Below w.heap.size w V ->Calls Tryz.prog 234 (#[.int .i64 (k:Nat)]++fb) V fun e w'=>e=.returned (.int .i64 (Q:Nat))/\Below V.heap.size V w'):
  Calls Tryz.prog 208 #[.int .i64 (k:Nat),.pointer (some ⟨Ba,0,none⟩),.pointer (some ⟨Fa,0,none⟩),.pointer (some ⟨Bb,0,none⟩),.pointer (some ⟨Fb,0,none⟩)] w fun e w'=>e=.returned (dP (qF (aT (bA la P)*aT (bA lb Q))))/\Below w.heap.size w w':=by
 obtain⟨g,o,rfl,hg,a0,a1,a2⟩:=ha P hP;obtain⟨h,p,rfl,hh,b0,b1,b2⟩:=hb Q hQ;have EJ:=wa P hP;have Gy:=wb Q hQ;rw[<- pz hP] at a0 a1 a2;rw[<- pz hQ] at b0 b1 b2;have HC:=hid (fun V:World=>acd (w:=V) (aT (bA la P)*aT (bA lb Q)) rfl rfl rfl (show (bA la P).2.1.size+(bA la P).2.2.size<=100000 by omega) (show (bA lb Q).2.1.size+(bA lb Q).2.2.size<=100000 by omega));rw[K4];have H1:=hid h1;have H2:=hid h2;generalize aT (bA la P)*aT (bA lb Q)=r at *;clear ha hb h1 h2 EJ Gy wa wb;generalize bA la P=f at *;generalize bA lb Q=f' at *;obtain⟨xn,xx,xy⟩:=f;obtain⟨yn,yx,yy⟩:=f';simp only at a0 a1 a2 b0 b1 b2 HC;have hb0:aC (w.alloc (FC false ⟨#[]⟩ ⟨#[]⟩)) w.heap.size false ⟨#[]⟩ ⟨#[]⟩:=aC.new w _ _ _;have hB:Below w.heap.size w (w.alloc (FC false ⟨#[]⟩ ⟨#[]⟩)):=(au _ w).alloc (ar _) _;go_enter Tryz.func208,Tryz.ntmps208;go_upto_region 1 with fail
 generalize (w.alloc (FC false ⟨#[]⟩ ⟨#[]⟩))=W at *;replace hb0:=hb0.drew;replace hB:=hB.drew;have held:∀u,Below w.heap.size w u ->u.cell? ⟨Ba,1,none⟩=some (.slice (some ⟨g,o,none⟩) la.length ca)/\u.cell? ⟨Fa,0,none⟩=some (.func (.func 234) #[] fa)/\u.cell? ⟨Bb,1,none⟩=some (.slice (some ⟨h,p,none⟩) lb.length cb)/\u.cell? ⟨Fb,0,none⟩=some (.func (.func 234) #[] fb)/\u.cell? ⟨g,o+P*3,none⟩=some (.bool xn)/\u.cell? ⟨g,o+P*3+1,none⟩=some (.string xx)/\u.cell? ⟨g,o+P*3+2,none⟩=some (.string xy)/\u.cell? ⟨h,p+Q*3,none⟩=some (.bool yn)/\u.cell? ⟨h,p+Q*3+1,none⟩=some (.string yx)/\u.cell? ⟨h,p+Q*3+2,none⟩=some (.string yy):=fun u e=>⟨(e.cell (p:=⟨Ba,1,none⟩) hBa).trans xa,(e.cell (p:=⟨Fa,0,none⟩) bL).trans ya,(e.cell (p:=⟨Bb,1,none⟩) hBb).trans xb,(e.cell (p:=⟨Fb,0,none⟩) b6).trans yb,(e.cell (p:=⟨g,_,none⟩) hg).trans a0,(e.cell (p:=⟨g,_,none⟩) hg).trans a1,(e.cell (p:=⟨g,_,none⟩) hg).trans a2,(e.cell (p:=⟨h,_,none⟩) hh).trans b0,(e.cell (p:=⟨h,_,none⟩) hh).trans b1,(e.cell (p:=⟨h,_,none⟩) hh).trans b2⟩;have HELD:=hid held;clear held a0 a1 a2 b0 b1 b2 xa ya xb yb
 refine jJ (S:=fun u=>u.cell? ⟨Ba,1,none⟩=some (.slice (some ⟨g,o,none⟩) la.length ca)/\u.cell? ⟨Fa,0,none⟩=some (.func (.func 234) #[] fa)/\u.cell? ⟨Bb,1,none⟩=some (.slice (some ⟨h,p,none⟩) lb.length cb)/\u.cell? ⟨Fb,0,none⟩=some (.func (.func 234) #[] fb)/\u.cell? ⟨g,o+P*3,none⟩=some (.bool xn)/\u.cell? ⟨g,o+P*3+1,none⟩=some (.string xx)/\u.cell? ⟨g,o+P*3+2,none⟩=some (.string xy)/\u.cell? ⟨h,p+Q*3,none⟩=some (.bool yn)/\u.cell? ⟨h,p+Q*3+1,none⟩=some (.string yx)/\u.cell? ⟨h,p+Q*3+2,none⟩=some (.string yy)) (by kernel_rfl) (HELD.o _ hB) (fun aq=>?_);generalize W.drew=u0 at *;refine aw 0 (.pointer (some ⟨Ba,1,none⟩)) ?_;try simp only[gE,aP]
 refine cK 1 (.slice (some ⟨g,o,none⟩) la.length ca) ?_ ?_
 ·intro u' aL;obtain⟨s1,s2,s3,s4,s5,s6,s7,s8,s9,JC⟩:=aL;go_simp
 try simp only[gE,aP]
 refine cK 2 (.func (.func 234) #[] fa) ?_ ?_
 ·intro u' aL;obtain⟨s1,s2,s3,s4,s5,s6,s7,s8,s9,JC⟩:=aL;go_simp
 refine aw 3 (.int .i64 (k:Nat)) ?_;refine aw 7 (.pointer (some ⟨Bb,1,none⟩)) ?_;try simp only[gE,aP]
 refine cK 8 (.slice (some ⟨h,p,none⟩) lb.length cb) ?_ ?_
 ·intro u' aL;obtain⟨s1,s2,s3,s4,s5,s6,s7,s8,s9,JC⟩:=aL;go_simp
 try simp only[gE,aP]
 refine cK 9 (.func (.func 234) #[] fb) ?_ ?_
 ·intro u' aL;obtain⟨s1,s2,s3,s4,s5,s6,s7,s8,s9,JC⟩:=aL;go_simp
 refine aw 10 (.int .i64 (k:Nat)) ?_;refine aF [4] (cA ?_ aD);intro K' hK';go_simp;refine(H1.o _ hB).ae ?_;rintro e u1 ⟨rfl,hb⟩;replace hb0:=hb0.aa hb hb0.lt;replace hB:=hB.trans (hb.ae hB.size);refine hK'.o _ _ (HELD.o _ hB) (fun ak=>?_);clear hK' K' aq;have aq:=ak;clear ak hb;refine aw 5 (.pointer (some ⟨g,o+P*3,none⟩)) ?_;try simp only[gE,aP]
 refine cK 6 (.agg #[.bool xn,.string xx,.string xy]) ?_ ?_
 ·intro u' aL;obtain⟨s1,s2,s3,s4,s5,s6,s7,s8,s9,JC⟩:=aL;go_simp
 refine aF [11] (cA ?_ aD);intro K' hK';go_simp;refine(H2.o _ hB).ae ?_;rintro e u2 ⟨rfl,hb⟩;replace hb0:=hb0.aa hb hb0.lt;replace hB:=hB.trans (hb.ae hB.size);refine hK'.o _ _ (HELD.o _ hB) (fun ak=>?_);clear hK' K' aq;have aq:=ak;clear ak hb;refine aw 12 (.pointer (some ⟨h,p+Q*3,none⟩)) ?_;try simp only[gE,aP]
 refine cK 13 (.agg #[.bool yn,.string yx,.string yy]) ?_ ?_
 ·intro u' aL;obtain⟨s1,s2,s3,s4,s5,s6,s7,s8,s9,JC⟩:=aL;go_simp
 refine aF [14] (cA ?_ aD);intro K' hK';go_simp;refine(HC.o _).ae ?_;rintro e u3 ⟨rfl,hb⟩;replace hb0:=hb0.aa hb hb0.lt;replace hB:=hB.trans (hb.ae hB.size);refine hK'.o _ _ (HELD.o _ hB) (fun ak=>?_);clear hK' K' aq;have aq:=ak;clear ak hb;try simp only[gE,aP]
 obtain⟨k0,k1,k2,f0,f1,f2⟩:=hb0.facts;refine aF [15] (cA ?_ aD);intro K' hK';go_simp;have hput:=hb0.put (aH r) (nu r) (de r);have hBp:=bF hB (g:=w.heap.size) (ar _) (.bool (aH r)) (.string (nu r)) (.string (de r));generalize (((u3.setCell ⟨w.heap.size,0,none⟩ (.bool (aH r))).setCell ⟨w.heap.size,1,none⟩ (.string (nu r))).setCell ⟨w.heap.size,2,none⟩ (.string (de r)))=v9 at *;refine hK'.o _ _ (HELD.o _ hBp) (fun _=>dW (by kernel_rfl) ?_ _);clear hK' K' aq;go_wp2;refine bB (hput.result rfl _ rfl) rfl ?_;exact⟨rfl,hBp⟩
variable {j:Nat}
def Vz (w:World) (g:Nat) (x y z t:Value):Prop:=w.heap[g]? =some (.cells #[x,y,z,t] 39 (0,0))
theorem Vz.lt {t:Value} (h:Vz w g x y z t):g<w.heap.size:=(eL.1 h).1
def PH (w V:World) (x y z t:Value):Prop:=bh V w.heap.size x y/\bh V (w.heap.size+1) z t/\bh V (w.heap.size+1+1) (.slice none 0 0) (.slice none 0 0)/\Vz V (w.heap.size+1+1+1) x y z t/\Below w.heap.size w V
theorem PH.step {t:Value} (h:PH w V x y z t) (hb:Below V.heap.size V V'):PH w V' x y z t:=⟨h.1.aa hb h.1.lt,h.2.1.aa hb h.2.1.lt,h.2.2.1.aa hb h.2.2.1.lt,(hb.block _ h.2.2.2.1.lt).trans h.2.2.2.1,h.2.2.2.2.trans (hb.ae h.2.2.2.2.size)⟩
theorem PH.drew {t:Value} (h:PH w V x y z t):PH w V.drew x y z t:=⟨h.1,h.2.1,h.2.2.1,h.2.2.2.1,h.2.2.2.2.drew⟩
theorem PH.new (w:World) (x y z t:Value):PH w ((((w.alloc (TC x y)).alloc (TC z t)).alloc (TC (.slice none 0 0) (.slice none 0 0))).alloc (.cells #[x,y,z,t] 39)) x y z t:=by
 refine⟨((bh.at rfl _ _).alloc _ |>.alloc _).alloc _,((bh.at (by simp) _ _).alloc _).alloc _,(bh.at (by simp) _ _).alloc _,?_,((((au _ w).alloc (ar _) _).alloc (by simp) _).alloc (by simp;omega) _).alloc (by simp;omega) _⟩;have h:=kd (((w.alloc (TC x y)).alloc (TC z t)).alloc (TC (.slice none 0 0) (.slice none 0 0))) (.cells #[x,y,z,t] 39);rw[cN,cN,cN] at h;exact h
theorem PH.row {t:Value} (h:PH w V x y z t):(V.cell? ⟨w.heap.size+1+1+1,0,none⟩=some x/\V.cell? ⟨w.heap.size+1+1+1,1,none⟩=some y)/\V.cell? ⟨w.heap.size+1+1+1,2,none⟩=some z/\V.cell? ⟨w.heap.size+1+1+1,3,none⟩=some t:=by
 refine⟨⟨?_,?_⟩,?_,?_⟩<;>(rw[cC _ _ _ _ _ (0,0) h.2.2.2.1];rfl)
theorem Hb {B b:Nat} {t:TypeId} (h:Boxed V B t .nilFunc) (hx:V.cell? ⟨b,j,none⟩=some x) (hn:x≠.nilFunc):b≠B:=fun e=>by
 subst e;rw[cC V b j _ _ (0,0) h] at hx;match j with
 |0=>simp at hx;exact hn hx.symm
 |j+1=>simp at hx
theorem S0 {B:Nat} {t:TypeId} {c:Option Addr} (h:Boxed V B t .nilFunc) (hi:aaK V c l) (y:Value):aaK (V.setCell ⟨B,0,none⟩ y) c l:=fun k hk=>by
 obtain⟨g,o,rfl,hlt,hc⟩:=hi k hk;have hne:=Hb h hc (by simp);exact⟨g,o,rfl,aR hlt (iG V _ _).size,(bX _ _ _ _ (fun e=>hne (bR Addr.block e).symm)).trans hc⟩
theorem nO.nil {B:Nat} {t:TypeId} {f:Value} {b:Option Addr} {sizes vars:List Int} (h:nO V n m f a b ca cb sizes vars other) (hb:Boxed V B t .nilFunc) (y:Value):nO (V.setCell ⟨B,0,none⟩ y) n m f a b ca cb sizes vars other:=by
 obtain⟨Bv,Bs,Bt,g,ct,h0,hn,hm,hM,h4,h5,h6,h7⟩:=h;have far:∀(b j:Nat) (x:Value),V.cell? ⟨b,j,none⟩=some x ->x≠.nilFunc ->(V.setCell ⟨B,0,none⟩ y).cell? ⟨b,j,none⟩=some x:=fun b j x hx hn=>(bX _ _ _ _ (fun e=>Hb hb hx hn (bR Addr.block e).symm)).trans hx;exact⟨Bv,Bs,Bt,g,ct,h0,hn,hm,aS hM (iG V _ _).size,far _ _ _ h4 (by simp),far _ _ _ h5 (by simp),far _ _ _ h6 (by simp),S0 hb h7 y⟩
theorem PH.nil {t:Value} {B:Nat} {ty:TypeId} (h:PH w V x y z t) (hx:cM x) (hz:cM z) (hb:Boxed V B ty .nilFunc) (hB:w.heap.size<=B) (u:Value):PH w (V.setCell ⟨B,0,none⟩ u) x y z t:=by
 obtain⟨a1,n1,c1,rfl⟩:=hx;obtain⟨a2,n2,c2,rfl⟩:=hz;have h4:=h.row.1.1;exact⟨h.1.off B 0 u (Hb hb h.1.c0 (by simp)),h.2.1.off B 0 u (Hb hb h.2.1.c0 (by simp)),h.2.2.1.off B 0 u (Hb hb h.2.2.1.c0 (by simp)),(je V ⟨B,0,none⟩ u _ (Hb hb h4 (by simp))).trans h.2.2.2.1,h.2.2.2.2.setCell (p:=⟨B,0,none⟩) hB u⟩
theorem Zl (S va vb U:List Nat) (la lb:List Fr):(uM S va vb U la lb).length=cnt S U:=by simp[uM]
theorem ago (S va vb U:List Nat) (la lb:List Fr) (h:k<(uM S va vb U la lb).length):(uM S va vb U la lb)[k]=qF (aT (bA la (pos S (aO S U k) va))*aT (bA lb (pos S (aO S U k) vb))):=by simp[uM]
theorem Yr {sizes vars U:List Int} {K:Nat} (hk:jr sizes vars m=0) (hK:K<cnt (ag sizes) (ag U)):pos (ag sizes) (aO (ag sizes) (ag U) K) (ag vars)<m:=by
 obtain⟨h1,h2,h3⟩:=xC hk;rw[h3];exact acP _ (fun u=>nN h1.pos _ _ u hK) _
theorem aev (a b c b' c':Option Addr) (ca cb cc fD kp:Nat) (sizes va vb:List Int) (la lb:List Fr) (w:World) (hs:aaK w a sizes) (uW:aaK w b va) (tK:aaK w b' vb) (A0:bZ w c la) (hfb:bZ w c' lb) (hn:sizes.length<=140737488355328) (hma:va.length<=140737488355328) (tU:vb.length<=140737488355328) (hb0:b=none ->cb=0) (CV:b'=none ->fD=0) (hka:jr sizes va la.length=0) (hkb:jr sizes vb lb.length=0) (S8:Cw 100000 la) (Mg:Cw 100000 lb):
  Calls Tryz.prog 161 #[.slice a sizes.length ca,.agg #[.slice b va.length cb,.slice c la.length cc],.agg #[.slice b' vb.length fD,.slice c' lb.length kp]] w fun e w'=>uh w.heap.size (abM va vb) (uM (ag sizes) (ag va) (ag vb) (ag (abM va vb)) la lb) 0 e w'/\Below w.heap.size w w':=by
 obtain⟨aJ,mj, -⟩:=xC hka;obtain⟨-,EG, -⟩:=xC hkb;obtain⟨R,iA,hR1⟩:∃R:Nat ->Int,R 0=jr sizes va la.length/\R 1=jr sizes vb lb.length:=⟨fun i=>if i=0 then jr sizes va la.length else jr sizes vb lb.length,rfl,rfl⟩
 have HKZ:Hid (∀i,i< 2 ->R i=0):=by
  intro i hi;by_cases h:i=0
  ·subst h;rw[iA];exact hka
  ·obtain rfl:i=1:=by omega
   rw[hR1];exact hkb
 have nD:=aJ.eight;have lF:=mj.length;have lD:=EG.length;have xM:=hid (fun V h1 h2=>aes b b' cb fD va vb V h1 h2 hb0 CV (by omega) (by omega));have LX:=hid (fun K (hK:K<cnt (ag sizes) (ag (abM va vb)))=>Yr hka hK);have sX:=hid (fun K (hK:K<cnt (ag sizes) (ag (abM va vb)))=>Yr hkb hK);have kz:=hid (Zl (ag sizes) (ag va) (ag vb) (ag (abM va vb)) la lb);have BQ:=hid (fun (k:Nat) (h:k<(uM (ag sizes) (ag va) (ag vb) (ag (abM va vb)) la lb).length)=>ago (ag sizes) (ag va) (ag vb) (ag (abM va vb)) la lb h);have oU:=hid (GI mj EG);generalize uM (ag sizes) (ag va) (ag vb) (ag (abM va vb)) la lb=FL at *;generalize abM va vb=U at *;have adh:=hid (fun V d cd h1 h2=>ado a d b ca cd cb sizes U va V h1 h2 aJ mj);have xO:=hid (fun V d cd h1 h2=>ado a d b' ca cd fD sizes U vb V h1 h2 aJ EG);have HFI:=hid aJ;have HUA:=hid mj;have HUB:=hid EG;have zJ:=hid A0;have HFB:=hid hfb;have HWA:=hid S8;have LG:=hid Mg;clear hka hkb aJ mj EG A0 hfb S8 Mg hb0 CV
 have one:∀i,i< 2 ->∃(p q:Option Addr) (n m cp cq:Nat) (r:Int),(∀V,PH w V (.slice b va.length cb) (.slice c la.length cc) (.slice b' vb.length fD) (.slice c' lb.length kp) ->V.cell? ⟨w.heap.size+1+1+1,i*2,none⟩=some (.slice p n cp)/\V.cell? ⟨w.heap.size+1+1+1,i*2+1,none⟩=some (.slice q m cq))/\(∀V,Below w.heap.size w V ->Calls Tryz.prog 86 #[.slice a sizes.length ca,.agg #[.slice p n cp,.slice q m cq]] V fun e w'=>e=.returned (.int .i64 r)/\Below V.heap.size V w')/\R i=r:=by
  intro i hi;by_cases h:i=0
  ·subst h;exact⟨b,c,va.length,la.length,cb,cc,_,fun V h=>h.row.1,fun V h=>Cm a b c ca cb cc la.length sizes va V (hs.aa h) (uW.aa h) hn hma,iA⟩
  ·obtain rfl:i=1:=by omega
   exact⟨b',c',vb.length,lb.length,fD,kp,_,fun V h=>h.row.2,fun V h=>Cm a b' c' ca fD kp lb.length sizes vb V (hs.aa h) (tK.aa h) hn tU,hR1⟩
 have L6:=hid one;have HS:=hid hs;have Ip:=hid uW;have vL:=hid tK;clear one iA hR1 hs uW tK;have hH:=PH.new w (.slice b va.length cb) (.slice c la.length cc) (.slice b' vb.length fD) (.slice c' lb.length kp);have c0:=hH.1.c0;have c1:=hH.1.c1;have c2:=hH.2.1.c0;have c3:=hH.2.1.c1;go_enter Tryz.func161,Tryz.ntmps161;go_wp2_with fail
 generalize ((((w.alloc (TC (.slice b va.length cb) (.slice c la.length cc))).alloc (TC (.slice b' vb.length fD) (.slice c' lb.length kp))).alloc (TC (.slice none 0 0) (.slice none 0 0))).alloc (.cells #[.slice b va.length cb,.slice c la.length cc,.slice b' vb.length fD,.slice c' lb.length kp] 39))=W at *;have VB:=hid hH;clear c0 c1 c2 c3 hH;go_loopw [18] (fun iv wr=>∃i:Nat,i<=2/\iv=.int .i64 i/\Hid (∀j,j< i ->R j=0)/\Hid (PH w wr (.slice b va.length cb) (.slice c la.length cc) (.slice b' vb.length fD) (.slice c' lb.length kp))) (fun iv _=>2 - (intOf iv).toNat)
 case atStart=>exact⟨0,by omega,rfl,fun j hj=>absurd hj (by omega),VB⟩
 case round=>
  obtain⟨i,hi,rfl,HZ,HP⟩:=hrel;clear VB;by_cases hlt:i<2
  ·obtain⟨p,q,n,m,cp,cq,r,hcl,hck,hr⟩:=L6.o i hlt;obtain⟨d0,d1⟩:=hcl _ HP.o;have HCK:=hid hck;have HR:=hid hr;clear hcl hck hr;have hb1:Below wr.heap.size wr (wr.alloc (TC (.slice p n cp) (.slice q m cq))):=(au _ wr).alloc (ar _) _;have hx:=bh.at (w:=wr) rfl (.slice p n cp) (.slice q m cq);have e0:=hx.c0;have e1:=hx.c1;go_wp2_with fail
   replace HP:=hid (HP.o.step hb1);clear d0 d1 e0 e1 hb1;generalize (wr.alloc (TC (.slice p n cp) (.slice q m cq)))=w2 at *;refine(HCK.o _ HP.o.2.2.2.2).ae ?_;rintro e w3 ⟨rfl,hb3⟩;replace HP:=hid (HP.o.step hb3);clear hb3 hx;by_cases Kf:r=0
   ·subst Kf;go_wp2;go_roundw
    case rel=>exact⟨i+1,by omega,by go_num,fun j hj=>by
      by_cases e:j=i
      ·rw[e];exact HR.o
      ·exact HZ.o j (by omega),HP⟩
    case measure=>simp[intOf];omega
   ·have tZ:=HKZ.o i hlt;rw[HR.o] at tZ;exact absurd tZ Kf
  ·obtain rfl:i=2:=by omega
   have hH:=HP.o;have c0:=hH.1.c0;have c2:=hH.2.1.c0;clear HP HZ L6;go_wp2_with fail
   refine(xM.o _ (Ip.o.aa hH.2.2.2.2) (vL.o.aa hH.2.2.2.2)).ae ?_;rintro e w1 ⟨d,cd,rfl,hi,kK,hb1⟩;have BR:=hid (kK.up hH.2.2.2.2.size);clear kK;replace hH:=hH.step hb1;clear c0 c2 hb1;go_upto_region 9 with fail
   replace hH:=hH.drew;replace hi:aaK w1.drew d U:=hi;refine jJ (S:=fun u=>u.cell? ⟨w.heap.size,0,none⟩=some (.slice b va.length cb)/\u.cell? ⟨w.heap.size+1,0,none⟩=some (.slice b' vb.length fD)) (by kernel_rfl) ⟨hH.1.c0,hH.2.1.c0⟩ (fun aq=>?_);generalize w1.drew=u0 at *;refine aw 0 (.slice a sizes.length ca) ?_;refine aw 1 (.slice d U.length cd) ?_;refine aw 2 (.pointer (some ⟨w.heap.size,0,none⟩)) ?_;refine aw 3 (.slice b va.length cb) ?_;refine aw 5 (.slice a sizes.length ca) ?_;refine aw 6 (.slice d U.length cd) ?_;refine aw 7 (.pointer (some ⟨w.heap.size+1,0,none⟩)) ?_;refine aw 8 (.slice b' vb.length fD) ?_;refine aF [4,10,11] (cA ?_ (cA ?_ (cA ?_ aD)))
   focus
    intro K' hK';go_simp;refine(adh.o _ d cd (HS.o.aa hH.2.2.2.2) (Ip.o.aa hH.2.2.2.2)).ae ?_;rintro e u1 ⟨f,rfl,bL,hb⟩;obtain⟨fa,rfl⟩:=bL.shape;replace hH:=hH.step hb;replace hi:=hi.aa hb;refine hK'.o _ _ ⟨hH.1.c0,hH.2.1.c0⟩ (fun ak=>?_);clear hK' K' aq;have aq:=ak;clear ak hb;generalize u0.heap.size=na at bL;generalize u1.heap.size=ma at bL;refine aF [9,10,11] (cA ?_ (cA ?_ (cA ?_ aD)))
    focus
     intro K' hK';go_simp;refine(xO.o _ d cd (HS.o.aa hH.2.2.2.2) (vL.o.aa hH.2.2.2.2)).ae ?_;rintro e u2 ⟨f,rfl,b6,hb⟩;obtain⟨fb,rfl⟩:=b6.shape;replace hH:=hH.step hb;replace hi:=hi.aa hb;replace bL:=bL.aa hb;refine hK'.o _ _ ⟨hH.1.c0,hH.2.1.c0⟩ (fun ak=>?_);clear hK' K' aq;have aq:=ak;clear ak hb;generalize u1.heap.size=nb at b6;generalize u2.heap.size=mb at b6;refine aF [10,11] (cA ?_ (cA ?_ aD))
     focus
      intro K' hK';go_simp;have hb:Below u2.heap.size u2 (u2.alloc (.cells #[.nilFunc] 140)):=(au _ u2).alloc (ar _) _;have h10:Boxed (u2.alloc (.cells #[.nilFunc] 140)) u2.heap.size 140 .nilFunc:=a7 u2 _ _;have bI:=hH.2.2.2.2.size;replace hH:=hH.step hb;replace hi:=hi.aa hb;replace bL:=bL.aa hb;replace b6:=b6.aa hb;refine hK'.o _ _ ⟨hH.1.c0,hH.2.1.c0⟩ (fun ak=>?_);clear hK' K' aq;have aq:=ak;clear ak hb;generalize (u2.alloc (.cells #[.nilFunc] 140))=u3 at *;generalize u2.heap.size=cV at *;refine aF [11] (cA ?_ aD);intro K' hK';go_simp;have hb:Below u3.heap.size u3 (u3.alloc (.cells #[.nilFunc] 140)):=(au _ u3).alloc (ar _) _;have h11:Boxed (u3.alloc (.cells #[.nilFunc] 140)) u3.heap.size 140 .nilFunc:=a7 u3 _ _;have tE:=hH.2.2.2.2.size;(have ne:cV≠u3.heap.size:=by have:=h10.lt;omega);replace hH:=hH.step hb;replace hi:=hi.aa hb;replace bL:=bL.aa hb;replace b6:=b6.aa hb;replace h10:=aZ h10 hb;refine hK'.o _ _ ⟨hH.1.c0,hH.2.1.c0⟩ (fun ak=>?_);clear hK' K' aq;have aq:=ak;clear ak hb;generalize (u3.alloc (.cells #[.nilFunc] 140))=u4 at *;generalize u3.heap.size=od at *
     rotate_left
     focus
      intro K' hK';go_simp;have hb:Below u2.heap.size u2 (u2.alloc (.cells #[.nilFunc] 140)):=(au _ u2).alloc (ar _) _;have h11:Boxed (u2.alloc (.cells #[.nilFunc] 140)) u2.heap.size 140 .nilFunc:=a7 u2 _ _;have tE:=hH.2.2.2.2.size;replace hH:=hH.step hb;replace hi:=hi.aa hb;replace bL:=bL.aa hb;replace b6:=b6.aa hb;refine hK'.o _ _ ⟨hH.1.c0,hH.2.1.c0⟩ (fun ak=>?_);clear hK' K' aq;have aq:=ak;clear ak hb;generalize (u2.alloc (.cells #[.nilFunc] 140))=u3 at *;generalize u2.heap.size=od at *;refine aF [10] (cA ?_ aD);intro K' hK';go_simp;have hb:Below u3.heap.size u3 (u3.alloc (.cells #[.nilFunc] 140)):=(au _ u3).alloc (ar _) _;have h10:Boxed (u3.alloc (.cells #[.nilFunc] 140)) u3.heap.size 140 .nilFunc:=a7 u3 _ _;have bI:=hH.2.2.2.2.size;(have ne:od≠u3.heap.size:=by have:=h11.lt;omega);replace hH:=hH.step hb;replace hi:=hi.aa hb;replace bL:=bL.aa hb;replace b6:=b6.aa hb;replace h11:=aZ h11 hb;refine hK'.o _ _ ⟨hH.1.c0,hH.2.1.c0⟩ (fun ak=>?_);clear hK' K' aq;have aq:=ak;clear ak hb;generalize (u3.alloc (.cells #[.nilFunc] 140))=u4 at *;generalize u3.heap.size=cV at *
    rotate_left 2
    focus
     intro K' hK';go_simp;have hb:Below u1.heap.size u1 (u1.alloc (.cells #[.nilFunc] 140)):=(au _ u1).alloc (ar _) _;have h10:Boxed (u1.alloc (.cells #[.nilFunc] 140)) u1.heap.size 140 .nilFunc:=a7 u1 _ _;have bI:=hH.2.2.2.2.size;replace hH:=hH.step hb;replace hi:=hi.aa hb;replace bL:=bL.aa hb;refine hK'.o _ _ ⟨hH.1.c0,hH.2.1.c0⟩ (fun ak=>?_);clear hK' K' aq;have aq:=ak;clear ak hb;generalize (u1.alloc (.cells #[.nilFunc] 140))=u2 at *;generalize u1.heap.size=cV at *;refine aF [9,11] (cA ?_ (cA ?_ aD))
     focus
      intro K' hK';go_simp;refine(xO.o _ d cd (HS.o.aa hH.2.2.2.2) (vL.o.aa hH.2.2.2.2)).ae ?_;rintro e u3 ⟨f,rfl,b6,hb⟩;obtain⟨fb,rfl⟩:=b6.shape;replace hH:=hH.step hb;replace hi:=hi.aa hb;replace bL:=bL.aa hb;replace h10:=aZ h10 hb;refine hK'.o _ _ ⟨hH.1.c0,hH.2.1.c0⟩ (fun ak=>?_);clear hK' K' aq;have aq:=ak;clear ak hb;generalize u2.heap.size=nb at b6;generalize u3.heap.size=mb at b6;refine aF [11] (cA ?_ aD);intro K' hK';go_simp;have hb:Below u3.heap.size u3 (u3.alloc (.cells #[.nilFunc] 140)):=(au _ u3).alloc (ar _) _;have h11:Boxed (u3.alloc (.cells #[.nilFunc] 140)) u3.heap.size 140 .nilFunc:=a7 u3 _ _;have tE:=hH.2.2.2.2.size;(have ne:cV≠u3.heap.size:=by have:=h10.lt;omega);replace hH:=hH.step hb;replace hi:=hi.aa hb;replace bL:=bL.aa hb;replace b6:=b6.aa hb;replace h10:=aZ h10 hb;refine hK'.o _ _ ⟨hH.1.c0,hH.2.1.c0⟩ (fun ak=>?_);clear hK' K' aq;have aq:=ak;clear ak hb;generalize (u3.alloc (.cells #[.nilFunc] 140))=u4 at *;generalize u3.heap.size=od at *
     rotate_left
     focus
      intro K' hK';go_simp;have hb:Below u2.heap.size u2 (u2.alloc (.cells #[.nilFunc] 140)):=(au _ u2).alloc (ar _) _;have h11:Boxed (u2.alloc (.cells #[.nilFunc] 140)) u2.heap.size 140 .nilFunc:=a7 u2 _ _;have tE:=hH.2.2.2.2.size;(have ne:cV≠u2.heap.size:=by have:=h10.lt;omega);replace hH:=hH.step hb;replace hi:=hi.aa hb;replace bL:=bL.aa hb;replace h10:=aZ h10 hb;refine hK'.o _ _ ⟨hH.1.c0,hH.2.1.c0⟩ (fun ak=>?_);clear hK' K' aq;have aq:=ak;clear ak hb;generalize (u2.alloc (.cells #[.nilFunc] 140))=u3 at *;generalize u2.heap.size=od at *;refine aF [9] (cA ?_ aD);intro K' hK';go_simp;refine(xO.o _ d cd (HS.o.aa hH.2.2.2.2) (vL.o.aa hH.2.2.2.2)).ae ?_;rintro e u4 ⟨f,rfl,b6,hb⟩;obtain⟨fb,rfl⟩:=b6.shape;replace hH:=hH.step hb;replace hi:=hi.aa hb;replace bL:=bL.aa hb;replace h10:=aZ h10 hb;replace h11:=aZ h11 hb;refine hK'.o _ _ ⟨hH.1.c0,hH.2.1.c0⟩ (fun ak=>?_);clear hK' K' aq;have aq:=ak;clear ak hb;generalize u3.heap.size=nb at b6;generalize u4.heap.size=mb at b6
    rotate_left 2
    focus
     intro K' hK';go_simp;have hb:Below u1.heap.size u1 (u1.alloc (.cells #[.nilFunc] 140)):=(au _ u1).alloc (ar _) _;have h11:Boxed (u1.alloc (.cells #[.nilFunc] 140)) u1.heap.size 140 .nilFunc:=a7 u1 _ _;have tE:=hH.2.2.2.2.size;replace hH:=hH.step hb;replace hi:=hi.aa hb;replace bL:=bL.aa hb;refine hK'.o _ _ ⟨hH.1.c0,hH.2.1.c0⟩ (fun ak=>?_);clear hK' K' aq;have aq:=ak;clear ak hb;generalize (u1.alloc (.cells #[.nilFunc] 140))=u2 at *;generalize u1.heap.size=od at *;refine aF [9,10] (cA ?_ (cA ?_ aD))
     focus
      intro K' hK';go_simp;refine(xO.o _ d cd (HS.o.aa hH.2.2.2.2) (vL.o.aa hH.2.2.2.2)).ae ?_;rintro e u3 ⟨f,rfl,b6,hb⟩;obtain⟨fb,rfl⟩:=b6.shape;replace hH:=hH.step hb;replace hi:=hi.aa hb;replace bL:=bL.aa hb;replace h11:=aZ h11 hb;refine hK'.o _ _ ⟨hH.1.c0,hH.2.1.c0⟩ (fun ak=>?_);clear hK' K' aq;have aq:=ak;clear ak hb;generalize u2.heap.size=nb at b6;generalize u3.heap.size=mb at b6;refine aF [10] (cA ?_ aD);intro K' hK';go_simp;have hb:Below u3.heap.size u3 (u3.alloc (.cells #[.nilFunc] 140)):=(au _ u3).alloc (ar _) _;have h10:Boxed (u3.alloc (.cells #[.nilFunc] 140)) u3.heap.size 140 .nilFunc:=a7 u3 _ _;have bI:=hH.2.2.2.2.size;(have ne:od≠u3.heap.size:=by have:=h11.lt;omega);replace hH:=hH.step hb;replace hi:=hi.aa hb;replace bL:=bL.aa hb;replace b6:=b6.aa hb;replace h11:=aZ h11 hb;refine hK'.o _ _ ⟨hH.1.c0,hH.2.1.c0⟩ (fun ak=>?_);clear hK' K' aq;have aq:=ak;clear ak hb;generalize (u3.alloc (.cells #[.nilFunc] 140))=u4 at *;generalize u3.heap.size=cV at *
     rotate_left
     focus
      intro K' hK';go_simp;have hb:Below u2.heap.size u2 (u2.alloc (.cells #[.nilFunc] 140)):=(au _ u2).alloc (ar _) _;have h10:Boxed (u2.alloc (.cells #[.nilFunc] 140)) u2.heap.size 140 .nilFunc:=a7 u2 _ _;have bI:=hH.2.2.2.2.size;(have ne:od≠u2.heap.size:=by have:=h11.lt;omega);replace hH:=hH.step hb;replace hi:=hi.aa hb;replace bL:=bL.aa hb;replace h11:=aZ h11 hb;refine hK'.o _ _ ⟨hH.1.c0,hH.2.1.c0⟩ (fun ak=>?_);clear hK' K' aq;have aq:=ak;clear ak hb;generalize (u2.alloc (.cells #[.nilFunc] 140))=u3 at *;generalize u2.heap.size=cV at *;refine aF [9] (cA ?_ aD);intro K' hK';go_simp;refine(xO.o _ d cd (HS.o.aa hH.2.2.2.2) (vL.o.aa hH.2.2.2.2)).ae ?_;rintro e u4 ⟨f,rfl,b6,hb⟩;obtain⟨fb,rfl⟩:=b6.shape;replace hH:=hH.step hb;replace hi:=hi.aa hb;replace bL:=bL.aa hb;replace h10:=aZ h10 hb;replace h11:=aZ h11 hb;refine hK'.o _ _ ⟨hH.1.c0,hH.2.1.c0⟩ (fun ak=>?_);clear hK' K' aq;have aq:=ak;clear ak hb;generalize u3.heap.size=nb at b6;generalize u4.heap.size=mb at b6
   rotate_left 6
   focus
    intro K' hK';go_simp;have hb:Below u0.heap.size u0 (u0.alloc (.cells #[.nilFunc] 140)):=(au _ u0).alloc (ar _) _;have h10:Boxed (u0.alloc (.cells #[.nilFunc] 140)) u0.heap.size 140 .nilFunc:=a7 u0 _ _;have bI:=hH.2.2.2.2.size;replace hH:=hH.step hb;replace hi:=hi.aa hb;refine hK'.o _ _ ⟨hH.1.c0,hH.2.1.c0⟩ (fun ak=>?_);clear hK' K' aq;have aq:=ak;clear ak hb;generalize (u0.alloc (.cells #[.nilFunc] 140))=u1 at *;generalize u0.heap.size=cV at *;refine aF [4,11] (cA ?_ (cA ?_ aD))
    focus
     intro K' hK';go_simp;refine(adh.o _ d cd (HS.o.aa hH.2.2.2.2) (Ip.o.aa hH.2.2.2.2)).ae ?_;rintro e u2 ⟨f,rfl,bL,hb⟩;obtain⟨fa,rfl⟩:=bL.shape;replace hH:=hH.step hb;replace hi:=hi.aa hb;replace h10:=aZ h10 hb;refine hK'.o _ _ ⟨hH.1.c0,hH.2.1.c0⟩ (fun ak=>?_);clear hK' K' aq;have aq:=ak;clear ak hb;generalize u1.heap.size=na at bL;generalize u2.heap.size=ma at bL;refine aF [9,11] (cA ?_ (cA ?_ aD))
     focus
      intro K' hK';go_simp;refine(xO.o _ d cd (HS.o.aa hH.2.2.2.2) (vL.o.aa hH.2.2.2.2)).ae ?_;rintro e u3 ⟨f,rfl,b6,hb⟩;obtain⟨fb,rfl⟩:=b6.shape;replace hH:=hH.step hb;replace hi:=hi.aa hb;replace bL:=bL.aa hb;replace h10:=aZ h10 hb;refine hK'.o _ _ ⟨hH.1.c0,hH.2.1.c0⟩ (fun ak=>?_);clear hK' K' aq;have aq:=ak;clear ak hb;generalize u2.heap.size=nb at b6;generalize u3.heap.size=mb at b6;refine aF [11] (cA ?_ aD);intro K' hK';go_simp;have hb:Below u3.heap.size u3 (u3.alloc (.cells #[.nilFunc] 140)):=(au _ u3).alloc (ar _) _;have h11:Boxed (u3.alloc (.cells #[.nilFunc] 140)) u3.heap.size 140 .nilFunc:=a7 u3 _ _;have tE:=hH.2.2.2.2.size;(have ne:cV≠u3.heap.size:=by have:=h10.lt;omega);replace hH:=hH.step hb;replace hi:=hi.aa hb;replace bL:=bL.aa hb;replace b6:=b6.aa hb;replace h10:=aZ h10 hb;refine hK'.o _ _ ⟨hH.1.c0,hH.2.1.c0⟩ (fun ak=>?_);clear hK' K' aq;have aq:=ak;clear ak hb;generalize (u3.alloc (.cells #[.nilFunc] 140))=u4 at *;generalize u3.heap.size=od at *
     rotate_left
     focus
      intro K' hK';go_simp;have hb:Below u2.heap.size u2 (u2.alloc (.cells #[.nilFunc] 140)):=(au _ u2).alloc (ar _) _;have h11:Boxed (u2.alloc (.cells #[.nilFunc] 140)) u2.heap.size 140 .nilFunc:=a7 u2 _ _;have tE:=hH.2.2.2.2.size;(have ne:cV≠u2.heap.size:=by have:=h10.lt;omega);replace hH:=hH.step hb;replace hi:=hi.aa hb;replace bL:=bL.aa hb;replace h10:=aZ h10 hb;refine hK'.o _ _ ⟨hH.1.c0,hH.2.1.c0⟩ (fun ak=>?_);clear hK' K' aq;have aq:=ak;clear ak hb;generalize (u2.alloc (.cells #[.nilFunc] 140))=u3 at *;generalize u2.heap.size=od at *;refine aF [9] (cA ?_ aD);intro K' hK';go_simp;refine(xO.o _ d cd (HS.o.aa hH.2.2.2.2) (vL.o.aa hH.2.2.2.2)).ae ?_;rintro e u4 ⟨f,rfl,b6,hb⟩;obtain⟨fb,rfl⟩:=b6.shape;replace hH:=hH.step hb;replace hi:=hi.aa hb;replace bL:=bL.aa hb;replace h10:=aZ h10 hb;replace h11:=aZ h11 hb;refine hK'.o _ _ ⟨hH.1.c0,hH.2.1.c0⟩ (fun ak=>?_);clear hK' K' aq;have aq:=ak;clear ak hb;generalize u3.heap.size=nb at b6;generalize u4.heap.size=mb at b6
    rotate_left 2
    focus
     intro K' hK';go_simp;have hb:Below u1.heap.size u1 (u1.alloc (.cells #[.nilFunc] 140)):=(au _ u1).alloc (ar _) _;have h11:Boxed (u1.alloc (.cells #[.nilFunc] 140)) u1.heap.size 140 .nilFunc:=a7 u1 _ _;have tE:=hH.2.2.2.2.size;(have ne:cV≠u1.heap.size:=by have:=h10.lt;omega);replace hH:=hH.step hb;replace hi:=hi.aa hb;replace h10:=aZ h10 hb;refine hK'.o _ _ ⟨hH.1.c0,hH.2.1.c0⟩ (fun ak=>?_);clear hK' K' aq;have aq:=ak;clear ak hb;generalize (u1.alloc (.cells #[.nilFunc] 140))=u2 at *;generalize u1.heap.size=od at *;refine aF [4] (cA ?_ aD);intro K' hK';go_simp;refine(adh.o _ d cd (HS.o.aa hH.2.2.2.2) (Ip.o.aa hH.2.2.2.2)).ae ?_;rintro e u3 ⟨f,rfl,bL,hb⟩;obtain⟨fa,rfl⟩:=bL.shape;replace hH:=hH.step hb;replace hi:=hi.aa hb;replace h10:=aZ h10 hb;replace h11:=aZ h11 hb;refine hK'.o _ _ ⟨hH.1.c0,hH.2.1.c0⟩ (fun ak=>?_);clear hK' K' aq;have aq:=ak;clear ak hb;generalize u2.heap.size=na at bL;generalize u3.heap.size=ma at bL;refine aF [9] (cA ?_ aD);intro K' hK';go_simp;refine(xO.o _ d cd (HS.o.aa hH.2.2.2.2) (vL.o.aa hH.2.2.2.2)).ae ?_;rintro e u4 ⟨f,rfl,b6,hb⟩;obtain⟨fb,rfl⟩:=b6.shape;replace hH:=hH.step hb;replace hi:=hi.aa hb;replace bL:=bL.aa hb;replace h10:=aZ h10 hb;replace h11:=aZ h11 hb;refine hK'.o _ _ ⟨hH.1.c0,hH.2.1.c0⟩ (fun ak=>?_);clear hK' K' aq;have aq:=ak;clear ak hb;generalize u3.heap.size=nb at b6;generalize u4.heap.size=mb at b6
   rotate_left 3
   focus
    intro K' hK';go_simp;have hb:Below u0.heap.size u0 (u0.alloc (.cells #[.nilFunc] 140)):=(au _ u0).alloc (ar _) _;have h11:Boxed (u0.alloc (.cells #[.nilFunc] 140)) u0.heap.size 140 .nilFunc:=a7 u0 _ _;have tE:=hH.2.2.2.2.size;replace hH:=hH.step hb;replace hi:=hi.aa hb;refine hK'.o _ _ ⟨hH.1.c0,hH.2.1.c0⟩ (fun ak=>?_);clear hK' K' aq;have aq:=ak;clear ak hb;generalize (u0.alloc (.cells #[.nilFunc] 140))=u1 at *;generalize u0.heap.size=od at *;refine aF [4,10] (cA ?_ (cA ?_ aD))
    focus
     intro K' hK';go_simp;refine(adh.o _ d cd (HS.o.aa hH.2.2.2.2) (Ip.o.aa hH.2.2.2.2)).ae ?_;rintro e u2 ⟨f,rfl,bL,hb⟩;obtain⟨fa,rfl⟩:=bL.shape;replace hH:=hH.step hb;replace hi:=hi.aa hb;replace h11:=aZ h11 hb;refine hK'.o _ _ ⟨hH.1.c0,hH.2.1.c0⟩ (fun ak=>?_);clear hK' K' aq;have aq:=ak;clear ak hb;generalize u1.heap.size=na at bL;generalize u2.heap.size=ma at bL;refine aF [9,10] (cA ?_ (cA ?_ aD))
     focus
      intro K' hK';go_simp;refine(xO.o _ d cd (HS.o.aa hH.2.2.2.2) (vL.o.aa hH.2.2.2.2)).ae ?_;rintro e u3 ⟨f,rfl,b6,hb⟩;obtain⟨fb,rfl⟩:=b6.shape;replace hH:=hH.step hb;replace hi:=hi.aa hb;replace bL:=bL.aa hb;replace h11:=aZ h11 hb;refine hK'.o _ _ ⟨hH.1.c0,hH.2.1.c0⟩ (fun ak=>?_);clear hK' K' aq;have aq:=ak;clear ak hb;generalize u2.heap.size=nb at b6;generalize u3.heap.size=mb at b6;refine aF [10] (cA ?_ aD);intro K' hK';go_simp;have hb:Below u3.heap.size u3 (u3.alloc (.cells #[.nilFunc] 140)):=(au _ u3).alloc (ar _) _;have h10:Boxed (u3.alloc (.cells #[.nilFunc] 140)) u3.heap.size 140 .nilFunc:=a7 u3 _ _;have bI:=hH.2.2.2.2.size;(have ne:od≠u3.heap.size:=by have:=h11.lt;omega);replace hH:=hH.step hb;replace hi:=hi.aa hb;replace bL:=bL.aa hb;replace b6:=b6.aa hb;replace h11:=aZ h11 hb;refine hK'.o _ _ ⟨hH.1.c0,hH.2.1.c0⟩ (fun ak=>?_);clear hK' K' aq;have aq:=ak;clear ak hb;generalize (u3.alloc (.cells #[.nilFunc] 140))=u4 at *;generalize u3.heap.size=cV at *
     rotate_left
     focus
      intro K' hK';go_simp;have hb:Below u2.heap.size u2 (u2.alloc (.cells #[.nilFunc] 140)):=(au _ u2).alloc (ar _) _;have h10:Boxed (u2.alloc (.cells #[.nilFunc] 140)) u2.heap.size 140 .nilFunc:=a7 u2 _ _;have bI:=hH.2.2.2.2.size;(have ne:od≠u2.heap.size:=by have:=h11.lt;omega);replace hH:=hH.step hb;replace hi:=hi.aa hb;replace bL:=bL.aa hb;replace h11:=aZ h11 hb;refine hK'.o _ _ ⟨hH.1.c0,hH.2.1.c0⟩ (fun ak=>?_);clear hK' K' aq;have aq:=ak;clear ak hb;generalize (u2.alloc (.cells #[.nilFunc] 140))=u3 at *;generalize u2.heap.size=cV at *;refine aF [9] (cA ?_ aD);intro K' hK';go_simp;refine(xO.o _ d cd (HS.o.aa hH.2.2.2.2) (vL.o.aa hH.2.2.2.2)).ae ?_;rintro e u4 ⟨f,rfl,b6,hb⟩;obtain⟨fb,rfl⟩:=b6.shape;replace hH:=hH.step hb;replace hi:=hi.aa hb;replace bL:=bL.aa hb;replace h10:=aZ h10 hb;replace h11:=aZ h11 hb;refine hK'.o _ _ ⟨hH.1.c0,hH.2.1.c0⟩ (fun ak=>?_);clear hK' K' aq;have aq:=ak;clear ak hb;generalize u3.heap.size=nb at b6;generalize u4.heap.size=mb at b6
    rotate_left 2
    focus
     intro K' hK';go_simp;have hb:Below u1.heap.size u1 (u1.alloc (.cells #[.nilFunc] 140)):=(au _ u1).alloc (ar _) _;have h10:Boxed (u1.alloc (.cells #[.nilFunc] 140)) u1.heap.size 140 .nilFunc:=a7 u1 _ _;have bI:=hH.2.2.2.2.size;(have ne:od≠u1.heap.size:=by have:=h11.lt;omega);replace hH:=hH.step hb;replace hi:=hi.aa hb;replace h11:=aZ h11 hb;refine hK'.o _ _ ⟨hH.1.c0,hH.2.1.c0⟩ (fun ak=>?_);clear hK' K' aq;have aq:=ak;clear ak hb;generalize (u1.alloc (.cells #[.nilFunc] 140))=u2 at *;generalize u1.heap.size=cV at *;refine aF [4] (cA ?_ aD);intro K' hK';go_simp;refine(adh.o _ d cd (HS.o.aa hH.2.2.2.2) (Ip.o.aa hH.2.2.2.2)).ae ?_;rintro e u3 ⟨f,rfl,bL,hb⟩;obtain⟨fa,rfl⟩:=bL.shape;replace hH:=hH.step hb;replace hi:=hi.aa hb;replace h10:=aZ h10 hb;replace h11:=aZ h11 hb;refine hK'.o _ _ ⟨hH.1.c0,hH.2.1.c0⟩ (fun ak=>?_);clear hK' K' aq;have aq:=ak;clear ak hb;generalize u2.heap.size=na at bL;generalize u3.heap.size=ma at bL;refine aF [9] (cA ?_ aD);intro K' hK';go_simp;refine(xO.o _ d cd (HS.o.aa hH.2.2.2.2) (vL.o.aa hH.2.2.2.2)).ae ?_;rintro e u4 ⟨f,rfl,b6,hb⟩;obtain⟨fb,rfl⟩:=b6.shape;replace hH:=hH.step hb;replace hi:=hi.aa hb;replace bL:=bL.aa hb;replace h10:=aZ h10 hb;replace h11:=aZ h11 hb;refine hK'.o _ _ ⟨hH.1.c0,hH.2.1.c0⟩ (fun ak=>?_);clear hK' K' aq;have aq:=ak;clear ak hb;generalize u3.heap.size=nb at b6;generalize u4.heap.size=mb at b6
   all_goals
    have c10:=h10.cell;have f10:=h10.frozen;refine aF [12] (cA ?_ aD);intro K' hK';go_simp;replace hH:=hH.nil (slv _ _ _) (slv _ _ _) h10 bI (.func (.func 234) #[] fa);replace hi:=S0 h10 hi (.func (.func 234) #[] fa);replace bL:=bL.nil h10 (.func (.func 234) #[] fa);replace b6:=b6.nil h10 (.func (.func 234) #[] fa);replace h11:=eO h11 cV 0 (.func (.func 234) #[] fa) (by omega);replace h10:=h10.set (.func (.func 234) #[] fa);clear c10 f10;generalize (u4.setCell ⟨cV,0,none⟩ (.func (.func 234) #[] fa))=v1 at *;refine hK'.o _ _ ⟨hH.1.c0,hH.2.1.c0⟩ (fun ak=>?_);clear hK' K' aq;have aq:=ak;clear ak;have c11:=h11.cell;have f11:=h11.frozen;refine aF [13] (cA ?_ aD);intro K' hK';go_simp;replace hH:=hH.nil (slv _ _ _) (slv _ _ _) h11 tE (.func (.func 234) #[] fb);replace hi:=S0 h11 hi (.func (.func 234) #[] fb);replace bL:=bL.nil h11 (.func (.func 234) #[] fb);replace b6:=b6.nil h11 (.func (.func 234) #[] fb);replace h10:=eO h10 od 0 (.func (.func 234) #[] fb) (by omega);replace h11:=h11.set (.func (.func 234) #[] fb);clear c11 f11;generalize (v1.setCell ⟨od,0,none⟩ (.func (.func 234) #[] fb))=v2 at *;refine hK'.o _ _ ⟨hH.1.c0,hH.2.1.c0⟩ (fun _=>dW (by kernel_rfl) ?_ _);clear hK' K' aq;go_wp2_with fail
    have sq:=K8 a d ca cd sizes U 208 #[.pointer (some ⟨w.heap.size,0,none⟩),.pointer (some ⟨cV,0,none⟩),.pointer (some ⟨w.heap.size+1,0,none⟩),.pointer (some ⟨od,0,none⟩)] (enters_of Tryz.func208 (by kernel_rfl) rfl) FL v2 (HS.o.aa hH.2.2.2.2) hi HFI.o oU.o kz.o (fun k hk V hb=>by
     rw[BQ.o k hk];(have dH:k<cnt (ag sizes) (ag U):=by rw[<- kz.o];exact hk);have hB:=hH.2.2.2.2.trans (hb.ae hH.2.2.2.2.size);refine agp w.heap.size cV (w.heap.size+1) od c c' cc kp fa fb la lb k _ _ (LX.o k dH) (sX.o k dH) V (aR hH.1.lt hb.size) ((hb.cell (p:=⟨w.heap.size,1,none⟩) hH.1.lt).trans hH.1.c1) (aR h10.lt hb.size) (aZ h10 hb).cell (aR hH.2.1.lt hb.size) ((hb.cell (p:=⟨w.heap.size+1,1,none⟩) hH.2.1.lt).trans hH.2.1.c1) (aR h11.lt hb.size) (aZ h11 hb).cell (zJ.o.aa hB) (HFB.o.aa hB) HWA.o LG.o ?_ ?_
     ·intro V' hb';have hb2:=hb.trans (hb'.ae hb.size);exact(bL.aa hb2).calls (HS.o.aa (hB.trans (hb'.ae hB.size))) (hi.aa hb2) HFI.o oU.o HUA.o dH
     ·intro V' hb';have hb2:=hb.trans (hb'.ae hb.size);exact(b6.aa hb2).calls (HS.o.aa (hB.trans (hb'.ae hB.size))) (hi.aa hb2) HFI.o oU.o HUB.o dH)
    have BP:=hid sq;clear sq;refine BP.o.ae ?_;rintro e w9 ⟨G,rfl,hG,hrow,vu⟩;have Ho:=hH.2.2.1.lt;replace hH:=hH.step vu;replace hi:=hi.aa vu;have hNR:NR w w9 w.heap.size (w.heap.size+1+1) (.slice b va.length cb) (.slice c la.length cc):=⟨hH.1,hH.2.2.1,hH.2.2.2.2⟩;obtain⟨k0,k1,f0,f1⟩:=hH.2.2.1.facts;obtain⟨e1,e2,e3⟩:=hNR.fin (by omega) (cb:=cd) (cc:=FL.length) BR.o (by omega) hi hrow (by omega) (.slice d U.length cd) (.slice (some ⟨G,0,none⟩) FL.length FL.length) rfl rfl;go_wp2;refine bB (e1.result2 rfl _ rfl) rfl ?_;exact⟨e2,e3⟩
variable {u:Nat} {p:Rat}
theorem yD (S:List Nat) {g:Nat ->Nat}:∀ {vs:List Nat},(∀u∈vs,f u=g u) ->pos S f vs=pos S g vs:=by
 intro vs h
 have key:∀(vs:List Nat) (k:Nat),(∀u∈vs,f u=g u) ->vs.foldl (fun k v=>k*sz S v+f v) k=vs.foldl (fun k v=>k*sz S v+g v) k:=by
  intro vs;induction vs with
  |nil=>intro k _;rfl
  |cons v vs ih=>
   intro k h;rw[Ef,Ef,h v dJ,ih _ fun u hu=>h u (eE _ hu)]
 exact key vs 0 h
theorem G7 (S:List Nat) (f:Nat ->Nat) (v:Nat) (vs:List Nat):pos S f (v::vs)=f v*cnt S vs+pos S f vs:=by
 show vs.foldl (fun k v=>k*sz S v+f v) (0*sz S v+f v)=_;rw[O5 S f vs,jw,bT]
theorem Dl (hp:Pos S) (hf:∀u,f u<sz S u):∀ {vs:List Nat},vs.Nodup ->∀u∈vs,aO S vs (pos S f vs) u=f u
 |[],_,u,hu=>by cases hu
 |v::vs,hn,u,hu=>by
  rw[pP] at hn;have hlt:=acP f hf vs;have hc:=zg hp vs;rw[G7,aO];by_cases e:u=v
  ·rw[aaf e,e,abr,Nat.mul_add_div hc,ym hlt,fH]
  ·rw[aaO e,abr,Nat.mul_add_mod,jM hlt];exact Dl hp hf hn.2 u ((dK.1 hu).resolve_left e)
theorem Pr (g:Nat ->Fr) (h:k<n):bA ((List.range n).map g) k=g k:=by
 rw[pz (by simpa using h)];simp
def Er (most:Bool) (p q:Rat):Rat:=if most then(if p<q then q else p) else p+q
def jz (most:Bool) (g:Nat ->Rat):Nat ->Rat
 |0=>g 0
 |k+1=>Er most (jz most g k) (g (k+1))
theorem Pm:cQ p q<0↔p<q:=by
 rw[cQ];by_cases h:p<q
 ·rw[aaf h];exact⟨fun _=>h,fun _=>by decide⟩
 ·rw[aaO h];by_cases e:p=q
  ·rw[aaf e];exact⟨fun h=>absurd h (by decide),fun h'=>absurd h' h⟩
  ·rw[aaO e];exact⟨fun h=>absurd h (by decide),fun h'=>absurd h' h⟩
theorem ab1 (most:Bool) (T:Nat ->Fr):∀k,aT (ab0 most T k)=jz most (fun x=>aT (T x)) k
 |0=>rfl
 |k+1=>by
  rw[ab0,jz, <- ab1 most T k];cases most with
  |false=>simp only[Er,Bool.false_eq_true,if_false];exact qQ _
  |true=>
   simp only[Er,if_true,great];by_cases h:cQ (aT (ab0 true T k)) (aT (T (k+1)))<0
   ·rw[aaf h,aaf (Pm.1 h)]
   ·rw[aaO h,aaO fun e=>h (Pm.2 e)]
theorem NJ (most:Bool) {g h:Nat ->Rat}:∀ {k:Nat},(∀x,x<=k ->g x=h x) ->jz most g k=jz most h k
 |0,e=>e 0 (ar _)
 |k+1,e=>by rw[jz,jz,NJ most fun x hx=>e x (by omega),e (k+1) (ar _)]
theorem M7 (f:Nat ->Nat) (x y:Nat) (h:u≠v):aQ (aQ f v x) u y=aQ (aQ f u y) v x:=by
 funext z
 simp only[aQ];by_cases e:z=u
 ·rw[aaf e,aaO (by omega),aaf e]
 ·rw[aaO e,aaO e]
theorem ZK {vars rest:List Nat} (hp:Pos S) (hr:rest.Nodup) (hv:∀u∈vars,u=v∨u∈rest) (most:Bool) (l:List Fr) (hf:∀u,f u<sz S u):
  aT (bA (qL S vars rest v most l) (pos S f rest))=jz most (fun x=>aT (bA l (pos S (aQ f v x) vars))) (sz S v - 1):=by
 rw[qL,Pr _ (acP f hf rest),qQ,ab1];refine NJ most fun x _=>?_;rw[yD S (f:=aQ (aO S rest (pos S f rest)) v x) (g:=aQ f v x)];intro u hu;simp only[aQ];by_cases e:u=v
 ·rw[aaf e,aaf e]
 ·rw[aaO e,aaO e];exact Dl hp hf hr u ((hv u hu).resolve_left e)
theorem agn {va vb U:List Nat} (hp:Pos S) (hr:U.Nodup) (uW:∀u∈va,u∈U) (tK:∀u∈vb,u∈U) (la lb:List Fr) (hf:∀u,f u<sz S u):
  aT (bA (uM S va vb U la lb) (pos S f U))=aT (bA la (pos S f va))*aT (bA lb (pos S f vb)):=by
 rw[uM,Pr _ (acP f hf U),qQ,yD S (f:=aO S U (pos S f U)) (g:=f) fun u hu=>Dl hp hf hr u (uW u hu),yD S (f:=aO S U (pos S f U)) (g:=f) fun u hu=>Dl hp hf hr u (tK u hu)]
def Sml (s:Nat) (l:List Fr):Prop:=∀f∈l,∃q,f=qF q/\qw q<=s
theorem aqh (h:∀v,sz S v<=3):∀vs:List Nat,cnt S vs<=3^vs.length
 |[]=>ar _
 |v::vs=>by rw[cnt,eU,jc,abr];exact iW (aqh h vs) (h v)
structure TL (sizes vars:List Int) (l:List Fr) (s:Nat):Prop where
 up:Up vars sizes.length
 len:l.length=cnt (ag sizes) (ag vars)
 sml:Sml s l
theorem aiw {x v:Int}:x∈bw l v↔x∈l/\x≠v:=by simp[bw]
theorem Cy {vars:List Int} (h:Up vars n) (u:Nat):∀x∈ag vars,x=u∨x∈ag (bw vars (u:Int)):=by
 intro x hx;obtain⟨y,hy,rfl⟩:=aaQ.1 hx;have h1:=(pV.1 h).1 y hy;by_cases e:y=(u:Int)
 ·left;omega
 ·exact .inr (aaQ.2 ⟨y,aiw.2 ⟨hy,e⟩,rfl⟩)
theorem cX.aa {B:Nat} {v:Value} (h:cX w B v l) (hb:Below w.heap.size w w'):cX w' B v l:=by
 refine⟨h.1,h.2.imp id ?_⟩;rintro⟨g,cap,cur,h1,h2,h3,h4⟩;exact⟨g,cap,cur,h1,h2,(hb.block g (eL.1 h3).1).trans h3,h4⟩
theorem cX.intS {B:Nat} {d:Option Addr} {cd:Nat} {U:List Int} (h:cX w B (.slice d U.length cd) U):aaK w d U:=by
 obtain⟨d',zi,e,hi⟩:=h.ints;cases e;exact hi
def SM (c:Int) (n:Nat):Nat:=(if c<0 then(-(c+1)).toNat else c.toNat) % n
theorem apz (c:Int) (h:1<=n):SM c n<n:=jL _ h
theorem aqL (c:Int) (n:Nat) (w:World) (h1: -9223372036854775808<=c) (h2:c<=9223372036854775807) (hn:1<=n) (hn':n<=1000):
  Calls Tryz.prog 60 #[.int .i64 c,.int .i64 (n:Nat)] w fun e w'=>e=.returned (.int .i64 (SM c n:Nat))/\w'=w:=by
 have HP:Hid (SM c n=(if c<0 then(-(c+1)).toNat else c.toNat) % n):=rfl;have hlt:=apz c hn;generalize SM c n=P at *;by_cases hc:c<0
 ·rw[aaf hc] at HP;obtain⟨d,hd⟩:∃d:Nat,c= -((d:Int)+1):=⟨(-(c+1)).toNat,by omega⟩;subst hd
  have HE:Hid ((d:Int) % (n:Int)=(P:Int)):=by
   show _=_;rw[HP.o,show (-(-((d:Int)+1)+1)).toNat=d by omega,Af]
  have hw:IntKind.i64.wrap (-((d:Int)+1)+1)= -(d:Int):=by rw[eo];omega
  have hw2:IntKind.i64.wrap (- -(d:Int))=(d:Int):=by rw[eo];omega
  go_enter Tryz.func60,Tryz.ntmps60;go_wp2;go_ret;exact⟨by rw[HE.o];rfl,rfl⟩
 ·rw[aaO hc] at HP;obtain⟨d,rfl⟩:∃d:Nat,c=d:=⟨c.toNat,by omega⟩
  have HE:Hid ((d:Int) % (n:Int)=(P:Int)):=by
   show _=_;rw[HP.o,pT,Af]
  go_enter Tryz.func60,Tryz.ntmps60;go_wp2;go_ret;exact⟨by rw[HE.o];rfl,rfl⟩
theorem apy (c:Int) (n:Nat) (w:World) (h1: -9223372036854775808<=c) (h2:c<=9223372036854775807) (hn:1<=n) (hn':n<=1000):
  Calls Tryz.prog 60 #[.int .i64 c,.int .i64 (n:Nat)] w fun e w'=>e=.returned (.int .i64 (SM c n:Nat))/\Below w.heap.size w w':=by
 refine(aqL c n w h1 h2 hn hn').ae ?_;rintro e w' ⟨h,rfl⟩;exact⟨h,au _ _⟩
theorem ahK (w:World) (u:Int):aaK (w.alloc (.cells #[.int .i64 u] 3)) (some ⟨w.heap.size,0,none⟩) [u]:=fun k hk=>by
 obtain rfl:k=0:=by simp at hk;omega
 exact⟨w.heap.size,0,rfl,by simp,(a7 w _ _).cell⟩
def gU (L:List (List Int)) (v:Nat):List Int:=abM (L.getD v []) [(v:Int)]
def gL (V:List Vr) (L:List (List Int)) (R:List (List Fr)) (v:Nat):List Fr:=(List.range (cnt (ah V) (ag (gU L v)))).map fun K=>qF (aT (dF V L R (aO (ah V) (ag (gU L v)) K) v))
theorem Q7 (h:v<n):Up [(v:Int)] n:=pV.2 ⟨fun x hx=>by have:=fX.1 hx;omega,List.pairwise_singleton _ _⟩
def GK (w V:World) (x y z:Value):Prop:=NK w V x y z/\bh V (w.heap.size+1) (.slice none 0 0) (.slice none 0 0)
theorem GK.new (w:World) (x y z:Value):GK w ((w.alloc (NC x y z)).alloc (TC (.slice none 0 0) (.slice none 0 0))) x y z:=⟨(NK.new w x y z).step ((au _ _).alloc (ar _) _),bh.at (by simp) _ _⟩
theorem GK.step (h:GK w V x y z) (hb:Below V.heap.size V V'):GK w V' x y z:=⟨h.1.step hb,h.2.aa hb h.2.lt⟩
variable {vs:List Nat}
theorem alC {a b:List Nat} (h:a.Perm b):cnt S a=cnt S b:=by
 induction h with
 |nil=>rfl
 |cons x _ ih=>simp only[cnt,ih]
 |swap x y l=>simp only[cnt];rw[zW]
 |trans _ _ h1 h2=>exact h1.trans h2
theorem aag {V:List Vr} (h:aW V L R=0) (hv:v<L.length):¬v∈ag L[v]:=by
 rw[aW] at h;by_cases h1:L.length=V.length/\R.length=V.length
 ·rw[aaf h1] at h;by_cases h2:bE L=0
  ·rw[bE] at h2;by_cases h3:gB L=true
   ·rw[gB,ia,ia,Az,eJ] at h3;have:=h3.2 v (bG.2 hv);rw[b7,af hv] at this;simpa using this
   ·rw[aaO h3] at h2;cases h2
  ·rw[aaO h2] at h;exact absurd h h2
 ·rw[aaO h1] at h;cases h
theorem Yu (dG:v<L.length) (aX:Up L[v] n) (hno:¬v∈ag L[v]):(([(v:Int)]++L[v]).mergeSort fun x y=>decide (x<=y))=gU L v:=by
 have Lc:L.getD v []=L[v]:=by rw[b7,af dG];rfl
 obtain⟨h1,h2⟩:=Jv L[v] [(v:Int)];rw[gU,Lc];have yR:¬(v:Int)∈L[v]:=fun h=>hno (by rw[ag];exact aaQ.2 ⟨_,h,pT v⟩);have hp:(([(v:Int)]++L[v]).mergeSort fun x y=>decide (x<=y)).Pairwise (fun x y=>decide (x<=y)=true):=List.pairwise_mergeSort (fun a b c h1 h2=>by simp at h1 h2⊢;omega) (fun a b=>by simp;omega) _
 have iy:([(v:Int)]++L[v]).Nodup:=by
  rw[List.singleton_append,pP];exact⟨yR,(pV.1 aX).2.imp fun h=>by omega⟩
 have hn:(([(v:Int)]++L[v]).mergeSort fun x y=>decide (x<=y)).Nodup:=(QL _ _).nodup_iff.2 iy;refine YY ?_ h1 fun x=>?_
 ·rw[Cg];intro i j hi hj CP;have q1:=Cg.1 hp i j hi hj CP;have q2:=Cg.1 hn i j hi hj CP;have q1':=rS q1;omega
 ·rw[List.mem_mergeSort,h2,aa5];exact Or.comm
theorem alE (S:List Nat) (dG:v<L.length) (aX:Up L[v] n) (hno:¬v∈ag L[v]):cnt S (ag (gU L v))=cnt S (ag L[v])*sz S v:=by
 rw[<- Yu dG aX hno];have h:(([(v:Int)]++L[v]).mergeSort fun x y=>decide (x<=y)).Perm ([(v:Int)]++L[v]):=QL _ _;have h2:=alC (S:=S) (h.map Int.toNat);rw[ag,h2,fY,gQ,ld,List.singleton_append,cnt,pT,abr];rfl
def yJ (A f:Nat ->Nat) (vs:List Nat) (i:Nat):Nat ->Nat:=fun u=>if u∈vs.take i then f u else A u
theorem ait (A f:Nat ->Nat) (vs:List Nat):yJ A f vs 0=A:=by funext u;simp[yJ]
theorem aiu (A f:Nat ->Nat) (n:Nat) (h:i<vs.length):(pZ n (yJ A f vs i)).set vs[i] (f vs[i])=pZ n (yJ A f vs (i+1)):=by
 rw[aeX];refine aeY fun u _=>?_;rw[aQ,yJ,yJ,fR h];by_cases e:u=vs[i]
 ·rw[aaf e,aaf (aa5.2 (.inr (fX.2 e))),e]
 ·rw[aaO e];by_cases e2:u∈vs.take i
  ·rw[aaf e2,aaf (aa5.2 (.inl e2))]
  ·rw[aaO e2,aaO (fun hh=>by rcases aa5.1 hh with hh |hh;exact e2 hh;exact e (fX.1 hh))]
theorem aiv {A:Nat ->Nat} (hA:∀u,¬u∈vs ->A u=0) (hf:∀u,¬u∈vs ->f u=0):yJ A f vs vs.length=f:=by
 funext u
 rw[yJ,fJ];by_cases e:u∈vs
 ·rw[aaf e]
 ·rw[aaO e,hA u e,hf u e]
def a8 (g:Nat ->Rat):Nat ->Rat
 |0=>0
 |n+1=>a8 g n+g n
theorem l8 {g h:Nat ->Rat}:∀ {n:Nat},(∀x,x< n ->g x=h x) ->a8 g n=a8 h n
 |0,_=>rfl
 |n+1,e=>by rw[a8,a8,l8 fun x hx=>e x (by omega),e n (by omega)]
theorem Rn:∀n,a8 (fun _=>0) n=0
 |0=>rfl
 |n+1=>by rw[a8,Rn n,Rat.add_zero]
theorem Yg (g h:Nat ->Rat):∀n,a8 (fun x=>g x+h x) n=a8 g n+a8 h n
 |0=>by simp[a8,Rat.add_zero]
 |n+1=>by
  rw[a8,a8,a8,Yg g h n];rw[MI,MI, <- MI (a8 h n),Rat.add_comm (a8 h n) (g n),MI]
theorem El (c:Rat) (g:Nat ->Rat):∀n,a8 (fun x=>c*g x) n=c*a8 g n
 |0=>by simp[a8,Rat.mul_zero]
 |n+1=>by rw[a8,a8,El c g n,Rat.mul_add]
theorem Yc (g:Nat ->Nat ->Rat) (m:Nat):∀n,a8 (fun x=>a8 (fun y=>g x y) m) n=a8 (fun y=>a8 (fun x=>g x y) n) m
 |0=>by simp only[a8];rw[Rn]
 |n+1=>by
  rw[a8,Yc g m n, <- Yg];rfl
theorem Yd (g:Nat ->Rat) (m:Nat):∀n,a8 g (m+n)=a8 g m+a8 (fun y=>g (m+y)) n
 |0=>by simp[a8,Rat.add_zero]
 |n+1=>by rw[<- yo,a8,Yd g m n,a8,MI]
theorem Ye (g:Nat ->Rat) (b:Nat):∀a,a8 g (a*b)=a8 (fun x=>a8 (fun y=>g (x*b+y)) b) a
 |0=>by rw[jw];rfl
 |a+1=>by rw[fW,kB,Yd,Ye g b a,a8]
def eV (S:List Nat):List Nat ->((Nat ->Nat) ->Rat) ->(Nat ->Nat) ->Rat
 |[],F,f=>F f
 |v::vs,F,f=>a8 (fun x=>eV S vs F (aQ f v x)) (sz S v)
def over (vs:List Nat) (f g:Nat ->Nat):Nat ->Nat:=fun u=>if u∈vs then g u else f u
theorem ag4 (f g:Nat ->Nat):over [] f g=f:=by funext u;simp[over]
theorem aae (F:(Nat ->Nat) ->Rat):∀(vs:List Nat) (f:Nat ->Nat),vs.Nodup ->a8 (fun k=>F (over vs f (aO S vs k))) (cnt S vs)=eV S vs F f
 |[],f,_=>by
  show 0+F (over [] f _)=F f;rw[ag4,Rat.zero_add]
 |v::vs,f,hn=>by
  rw[pP] at hn;rw[cnt,Ye,eV];refine l8 fun x hx=>?_;rw[<- aae F vs (aQ f v x) hn.2];refine l8 fun y hy=>?_;congr 1
  funext u
  have h1:(x*cnt S vs+y)/cnt S vs=x:=by rw[abr,Nat.mul_add_div (by omega),ym hy,fH]
  have h2:(x*cnt S vs+y) % cnt S vs=y:=by rw[abr,Nat.mul_add_mod,jM hy]
  simp only[over,aO,h1,h2,aQ,dK];by_cases e:u=v
  ·subst e;rw[aaf (.inl rfl),aaf rfl,aaO hn.1,aaf rfl]
  ·rw[aaO e];by_cases e2:u∈vs
   ·rw[aaf (.inr e2),aaf e2]
   ·rw[aaO (fun h=>h.elim e e2),aaO e2,aaO e]
theorem Es {F G:(Nat ->Nat) ->Rat} (h:∀g,(∀u,g u<sz S u) ->F g=G g):∀(vs:List Nat) (f:Nat ->Nat),(∀u,f u<sz S u) ->eV S vs F f=eV S vs G f
 |[],f,hf=>h f hf
 |v::vs,f,hf=>by
  rw[eV,eV];refine l8 fun x hx=>Es h vs _ fun u=>?_;rw[aQ];by_cases e:u=v
  ·rw[aaf e,e];exact hx
  ·rw[aaO e];exact hf u
theorem JU (F:(Nat ->Nat) ->Rat) (v:Nat):∀(vs:List Nat) (f:Nat ->Nat),eV S (vs++[v]) F f=eV S vs (fun g=>a8 (fun x=>F (aQ g v x)) (sz S v)) f
 |[],f=>rfl
 |u::vs,f=>by
  rw[fg,eV,eV];exact l8 fun x _=>JU F v vs _
theorem JV (F:(Nat ->Nat) ->Rat) {a b:List Nat} (h:a.Perm b):a.Nodup ->∀f,eV S a F f=eV S b F f:=by
 induction h with
 |nil=>intro _ f;rfl
 |cons x _ ih=>
  intro hn f;rw[pP] at hn;rw[eV,eV];exact l8 fun y _=>ih hn.2 _
 |swap x y l=>
  intro hn f
  have hne:y≠x:=by
   rw[pP] at hn;exact fun e=>hn.1 (by rw[e];exact dJ)
  simp only[eV];rw[Yc];refine l8 fun p _=>l8 fun q _=>?_;rw[M7 f q p (Ne.symm hne)]
 |trans h1 _ Zm S1=>
  intro hn f;rw[Zm hn f,S1 (h1.nodup_iff.1 hn) f]
def dA (V:List Vr) (L:List (List Int)) (R:List (List Fr)) (f:Nat ->Nat):List Nat ->Rat
 |[]=>1
 |v::vs=>aT (dF V L R f v)*dA V L R f vs
theorem G4 (V:List Vr) (L:List (List Int)) (R:List (List Fr)) (f:Nat ->Nat) (b:List Nat):∀a,dA V L R f (a++b)=dA V L R f a*dA V L R f b
 |[]=>by rw[iD,dA,vZ]
 |v::a=>by rw[fg,dA,dA,G4 V L R f b a,yj]
theorem JN (V:List Vr) (L:List (List Int)) (R:List (List Fr)) (f:Nat ->Nat):∀n,ji V L R f n=dA V L R f (List.range n)
 |0=>rfl
 |n+1=>by rw[ji,JN V L R f n,rT,G4,dA,dA,zS]
theorem RX {V:List Vr} {a b:List Nat} (h:a.Perm b):dA V L R f a=dA V L R f b:=by
 induction h with
 |nil=>rfl
 |cons x _ ih=>rw[dA,dA,ih]
 |swap x y l=>simp only[dA];rw[<- yj, <- yj,ao7 (aT (dF V L R f y))]
 |trans _ _ h1 h2=>exact h1.trans h2
theorem aaF {V:List Vr} {x:Nat} (h1:u≠v) (h2:¬v∈ag (L.getD u [])):dF V L R (aQ f v x) u=dF V L R f u:=by
 rw[dF,dF,p6,p6]
 have e:pos (ah V) (aQ f v x) (ag (L.getD u []))=pos (ah V) f (ag (L.getD u [])):=yD _ fun z hz=>by
  rw[aQ,aaO];intro e;exact h2 (e▸hz)
 rw[e,aQ,aaO h1]
theorem JM {V:List Vr} {x:Nat}:∀ {o:List Nat},(∀u∈o,u≠v/\¬v∈ag (L.getD u [])) ->dA V L R (aQ f v x) o=dA V L R f o
 |[],_=>rfl
 |u::o,h=>by
  obtain⟨h1,h2⟩:=h u dJ;rw[dA,dA,aaF h1 h2,JM fun z hz=>h z (eE _ hz)]
theorem aky:∀(l:List Fr),aV l=a8 (fun x=>aT (bA l x)) l.length:=by
 intro l
 have key:∀n,n<=l.length ->aV (l.take n)=a8 (fun x=>aT (bA l x)) n:=by
  intro n;induction n with
  |zero=>intro _;rfl
  |succ n ih=>
   intro hn;rw[fR (by omega),O3,ih (by omega),a8,pz (by omega)];rfl
 have:=key l.length (ar _);rwa [fJ] at this
theorem row_one {V:List Vr} (h0:aW V L R=0) (hv:v<V.length) (hf:∀u,f u<sz (ah V) u):a8 (fun x=>aT (dF V L R (aQ f v x) v)) (sz (ah V) v)=1:=by
 have aM:=gD h0;have dG:v<L.length:=by rw[aM.len];exact hv
 have kn:v<R.length:=by rw[aM.lenR];exact hv
 have hno:=aag h0 dG;have hlen:=aM.rows v dG kn;have hp:=acP f hf (ag L[v])
 have hrow:iJ (fP R[v] (sz (ah V) v) (pos (ah V) f (ag L[v])))=true:=by
  have h1:iO (iI (ah V) L R) V.length=0:=by
   rw[aW] at h0;by_cases h1:L.length=V.length/\R.length=V.length
   ·rw[aaf h1] at h0;by_cases h2:bE L=0
    ·rw[aaf h2] at h0;by_cases h3:jy V=0
     ·rwa [aaf h3] at h0
     ·rw[aaO h3] at h0;exact absurd h0 h3
    ·rw[aaO h2] at h0;exact absurd h0 h2
   ·rw[aaO h1] at h0;exact absurd h0 (by decide)
  have h2:=K7 h1 v hv;rw[iI,b7,af kn,b7,af dG] at h2;simp only[zV] at h2;rw[aaf hlen] at h2;by_cases h3:((List.range (cnt (ah V) (ag L[v]))).all fun i=>iJ (fP R[v] (sz (ah V) v) i))=true
  ·rw[eJ] at h3;exact h3 _ (bG.2 hp)
  ·rw[aaO h3] at h2;exact absurd h2 (by decide)
 rw[iJ,ia] at hrow;have hs:aV (fP R[v] (sz (ah V) v) (pos (ah V) f (ag L[v])))=1:=rS hrow.2;have hmul:(pos (ah V) f (ag L[v])+1)*sz (ah V) v<=R[v].length:=by rw[hlen];exact jK _ hp
 have e1:(pos (ah V) f (ag L[v])+1)*sz (ah V) v=pos (ah V) f (ag L[v])*sz (ah V) v+sz (ah V) v:=by rw[fW,kB]
 have hcl:(fP R[v] (sz (ah V) v) (pos (ah V) f (ag L[v]))).length=sz (ah V) v:=by
  rw[fP,eZ,mR];omega
 rw[aky,hcl] at hs;rw[<- hs];refine l8 fun x hx=>?_;rw[JZ dG kn,p6]
 have e2:pos (ah V) (aQ f v x) (ag L[v])=pos (ah V) f (ag L[v]):=yD _ fun z hz=>by
  rw[aQ,aaO];intro e;exact hno (e▸hz)
 rw[e2,aQ,aaf rfl,pz (by omega),pz (by omega)];simp only[fP,Aa,List.getElem_drop]
theorem NP (P:List (List Nat)):∀k,∀u∈aY P k,∀z∈P.getD u [],z∈aY P k
 |0,u,hu=>by cases hu
 |k+1,u,hu=>by
  rw[aY] at hu⊢;cases e:nj P (aY P k) with
  |none=>
   rw[e] at hu;exact NP P k u hu
  |some v=>
   rw[e] at hu;intro z hz;refine aa5.2 (.inl ?_);rcases aa5.1 hu with h |h
   ·exact NP P k u h z hz
   ·obtain rfl:=fX.1 h;have wW:gJ P (aY P k) u=true:=List.find?_some e;rw[gJ,ia] at wW;exact rS wW.2 z hz
theorem aab {V:List Vr} (h0:aW V L R=0):∀k,(aY (aI L) k).length=k ->k<=L.length ->(aY (aI L) k).Nodup/\∀f,(∀u,f u<sz (ah V) u) ->eV (ah V) (aY (aI L) k) (fun g=>dA V L R g (aY (aI L) k)) f=1
 |0,_,_=>⟨List.nodup_nil,fun _ _=>rfl⟩
 |k+1,hl,hk=>by
  have aM:=gD h0;have jW:=Ct (aI L) k;cases e:nj (aI L) (aY (aI L) k) with
  |none=>
   rw[aY,e] at hl;exact absurd hl (by show (aY (aI L) k).length≠_;omega)
  |some v=>
   have e1:=adn e;rw[e1] at hl⊢;rw[dM,MO] at hl;obtain⟨hn,hs⟩:=aab h0 k (by omega) (by omega);have wW:gJ (aI L) (aY (aI L) k) v=true:=List.find?_some e;rw[gJ,ia] at wW;(have yR:¬v∈aY (aI L) k:=by simpa using wW.1);(have hvl:v<L.length:=by have:=bG.1 (Xf e);rwa [lp] at this);refine⟨?_,fun f hf=>?_⟩
   ·rw[Gq];refine⟨hn,by simp,fun a ha b hb=>?_⟩;rw[fX.1 hb];exact fun e=>yR (e▸ha)
   ·rw[JU, <- hs f hf];refine Es (fun g hg=>?_) _ f hf;rw[l8 (h:=fun x=>dA V L R g (aY (aI L) k)*aT (dF V L R (aQ g v x) v))]
    ·rw[El,row_one h0 (by rw[<- aM.len];exact hvl) hg,zS]
    ·intro x _;rw[G4,dA,dA,zS,JM];intro u hu;refine⟨fun e=>yR (e▸hu),fun hp=>?_⟩
     exact yR (NP (aI L) k u hu v (by
      have EF:=Ep (aI L) k u hu;rw[lp] at EF;rw[NB EF];rw[b7,af EF] at hp;exact hp))
theorem Su:∀(n:Nat) (l:List Nat),l.Nodup ->(∀x∈l,x<n) ->l.length<=n
 |0,l,_,h=>by
  cases l with
  |nil=>exact ar _
  |cons a l=>exact absurd (h a dJ) (by omega)
 |n+1,l,hn,h=>by
  by_cases hm:n∈l
  ·have h1:=Xg hm
   have h2:=Su n (l.erase n) (hn.erase n) (fun x hx=>by
    have h3:=h x (List.mem_of_mem_erase hx);(have hne:x≠n:=fun e=>by subst e;exact hn.not_mem_erase hx);omega)
   have h4:=List.length_pos_of_mem hm;omega
  ·have h2:=Su n l hn (fun x hx=>by
    have h3:=h x hx;have hne:x≠n:=fun e=>hm (e▸hx);omega)
   omega
theorem Zv:∀(n:Nat) (l:List Nat),l.Nodup ->(∀x∈l,x<n) ->l.length=n ->l.Perm (List.range n)
 |0,l,_,_,h=>by
  have:=Ee.1 h;subst this;exact List.Perm.refl _
 |n+1,l,hn,h,hl=>by
  have hm:n∈l:=Gz fun hm=>by
   have:=Su n l hn (fun x hx=>by
    have h3:=h x hx;have hne:x≠n:=fun e=>hm (e▸hx);omega)
   omega
  have h1:=Xg hm
  have h2:=Zv n (l.erase n) (hn.erase n) (fun x hx=>by
   have h3:=h x (List.mem_of_mem_erase hx);(have hne:x≠n:=fun e=>by subst e;exact hn.not_mem_erase hx);omega) (by omega)
  rw[rT];exact(List.perm_cons_erase hm).trans ((h2.cons n).trans (List.perm_append_singleton n (List.range n)).symm)
theorem Sl {V:List Vr} (h:aW V L R=0):(aY (aI L) L.length).length=L.length:=by
 rw[aW] at h;by_cases h1:L.length=V.length/\R.length=V.length
 ·rw[aaf h1] at h;by_cases h2:bE L=0
  ·rw[bE] at h2;by_cases h3:gB L=true
   ·rw[aaf h3] at h2;by_cases h4:(aY (aI L) L.length).length<L.length
    ·rw[aaf h4] at h2;cases h2
    ·have:=Ct (aI L) L.length;omega
   ·rw[aaO h3] at h2;cases h2
  ·rw[aaO h2] at h;exact absurd h h2
 ·rw[aaO h1] at h;cases h
theorem ag5 (k:Nat):over vs (fun _=>0) (aO S vs k)=aO S vs k:=by
 funext u
 rw[over];by_cases e:u∈vs
 ·rw[aaf e]
 ·rw[aaO e,Bg e]
theorem ZL (g:Nat ->Rat):∀m,jz false g m=a8 g (m+1)
 |0=>by show g 0=0+g 0;rw[Rat.zero_add]
 |m+1=>by
  rw[jz,ZL g m];rfl
theorem aiF {V:List Vr} {g:Nat ->Nat} (h:∀u,u=v∨u∈ag (L.getD v []) ->f u=g u):dF V L R f v=dF V L R g v:=by
 rw[dF,dF,p6,p6,yD (ah V) (f:=f) (g:=g) fun u hu=>h u (.inr hu),h v (.inl rfl)]
def xK (A:Nat ->Prop) (G:(Nat ->Nat) ->Rat):Prop:=∀v,¬A v ->∀g x,G (aQ g v x)=G g
def lT (L:List (List Int)) (A:Nat ->Prop):Prop:=∀v,A v ->∀u∈ag (L.getD v []),A u
theorem aiD {V:List Vr} {A:Nat ->Prop} (hA:lT L A) (hv:A v):xK A (fun g=>aT (dF V L R g v)):=fun u hu g x=>by
 show aT (dF V L R (aQ g u x) v)=aT (dF V L R g v);have h1:v≠u:=fun e=>hu (by rw[<- e];exact hv);rw[aaF h1 (fun hm=>hu (hA v hv u hm))]
theorem Xy (f:Nat ->Nat) (v x y:Nat):aQ (aQ f v x) v y=aQ f v y:=by
 funext u
 simp only[aQ];by_cases e:u=v
 ·rw[aaf e,aaf e]
 ·rw[aaO e,aaO e,aaO e]
theorem xK.sum {A:Nat ->Prop} {G:(Nat ->Nat) ->Rat} (hG:xK A G) (v n:Nat):xK A (fun g=>a8 (fun x=>G (aQ g v x)) n):=fun u hu g y=>by
 refine l8 fun x _=>?_;by_cases e:u=v
 ·subst e;rw[Xy]
 ·rw[M7 g y x (fun h=>e h.symm)];exact hG u hu _ _
theorem xK.mul {A:Nat ->Prop} {G H:(Nat ->Nat) ->Rat} (hG:xK A G) (hH:xK A H):xK A (fun g=>G g*H g):=fun u hu g x=>by
 show G (aQ g u x)*H (aQ g u x)=G g*H g;rw[hG u hu,hH u hu]
theorem Vp {V:List Vr} (h0:aW V L R=0) {b:Nat ->Bool} (hA:lT L fun v=>b v=true):∀k,(aY (aI L) k).length=k ->k<=L.length ->∀(G:(Nat ->Nat) ->Rat),xK (fun v=>b v=true) G ->∀f,(∀u,f u<sz (ah V) u) ->
  eV (ah V) (aY (aI L) k) (fun g=>G g*dA V L R g (aY (aI L) k)) f=eV (ah V) ((aY (aI L) k).filter b) (fun g=>G g*dA V L R g ((aY (aI L) k).filter b)) f
 |0,_,_,_,_,_,_=>rfl
 |k+1,hl,hk,G,hG,f,hf=>by
  have aM:=gD h0;have jW:=Ct (aI L) k;cases e:nj (aI L) (aY (aI L) k) with
  |none=>
   rw[aY,e] at hl;exact absurd hl (by show (aY (aI L) k).length≠_;omega)
  |some v=>
   have e1:=adn e;rw[e1] at hl⊢;rw[dM,MO] at hl;have wW:gJ (aI L) (aY (aI L) k) v=true:=List.find?_some e;rw[gJ,ia] at wW;(have yR:¬v∈aY (aI L) k:=by simpa using wW.1);(have hvl:v<L.length:=by have:=bG.1 (Xf e);rwa [lp] at this)
   have nH:∀u∈aY (aI L) k,u≠v/\¬v∈ag (L.getD u []):=fun u hu=>by
    refine⟨fun e=>yR (e▸hu),fun hp=>?_⟩
    exact yR (NP (aI L) k u hu v (by
     have EF:=Ep (aI L) k u hu;rw[lp] at EF;rw[NB EF];rw[b7,af EF] at hp;exact hp))
   rw[JU,Ch];by_cases hv:b v=true
   ·have ih:=Vp h0 hA k (by omega) (by omega) (fun g=>a8 (fun x=>G (aQ g v x)*aT (dF V L R (aQ g v x) v)) (sz (ah V) v)) ((hG.mul (aiD hA hv)).sum v _) f hf;rw[show ([v].filter b)=[v] by simp[hv],JU];rw[Es (F:=fun g=>a8 (fun x=>G (aQ g v x)*dA V L R (aQ g v x) (aY (aI L) k++[v])) (sz (ah V) v)) (G:=fun g=>a8 (fun x=>G (aQ g v x)*aT (dF V L R (aQ g v x) v)) (sz (ah V) v)*dA V L R g (aY (aI L) k)) ?_ _ f hf,ih]
    ·refine Es ?_ _ f hf;intro g _;rw[ao7, <- El];refine l8 fun x _=>?_;rw[G4,dA,dA,zS,JM fun u hu=>nH u (abp.1 hu).1];grind
    ·intro g _;rw[ao7, <- El];refine l8 fun x _=>?_;rw[G4,dA,dA,zS,JM nH];grind
   ·have ih:=Vp h0 hA k (by omega) (by omega) G hG f hf;rw[show ([v].filter b)=[] by simp[hv],Eg, <- ih];refine Es ?_ _ f hf;intro g hg;rw[l8 (h:=fun x=>(G g*dA V L R g (aY (aI L) k))*aT (dF V L R (aQ g v x) v))]
    ·rw[El,row_one h0 (by rw[<- aM.len];exact hvl) hg,zS]
    ·intro x _;rw[G4,dA,dA,zS,JM nH,hG v hv];grind
def Fit (S:List Nat) (f:Nat ->Nat):Prop:=∀u,f u<sz S u
theorem Fit.with (h:Fit S f) {x:Nat} (hx:x<sz S v):Fit S (aQ f v x):=fun u=>by
 rw[aQ];by_cases e:u=v
 ·rw[aaf e,e];exact hx
 ·rw[aaO e];exact h u
def tQ (S:List Nat) (t:List Nat×List Fr) (f:Nat ->Nat):Rat:=aT (bA t.2 (pos S f t.1))
theorem aeu {t:List Nat×List Fr} {x:Nat} (h:¬v∈t.1):tQ S t (aQ f v x)=tQ S t f:=by
 rw[tQ,tQ,yD S (f:=aQ f v x) (g:=f)];intro u hu;rw[aQ,aaO];intro e;exact h (e▸hu)
theorem aet {va vb U:List Nat} (hp:Pos S) (hr:U.Nodup) (uW:∀u∈va,u∈U) (tK:∀u∈vb,u∈U) (la lb:List Fr) (hf:Fit S f):tQ S (U,uM S va vb U la lb) f=tQ S (va,la) f*tQ S (vb,lb) f:=agn hp hr uW tK la lb hf
theorem ads {vars rest:List Nat} (hp:Pos S) (hr:rest.Nodup) (hv:∀u∈vars,u=v∨u∈rest) (l:List Fr) (hf:Fit S f):tQ S (rest,qL S vars rest v false l) f=a8 (fun x=>tQ S (vars,l) (aQ f v x)) (sz S v):=by
 have h:=ZK hp hr hv false l hf;rw[ZL,show sz S v - 1+1=sz S v by have:=im hp v;omega] at h;exact h
theorem X3 {vars rest:List Nat} (hp:Pos S) (hr:rest.Nodup) (hv:∀u∈vars,u=v∨u∈rest) (l:List Fr) (hf:Fit S f):tQ S (rest,qL S vars rest v true l) f=jz true (fun x=>tQ S (vars,l) (aQ f v x)) (sz S v - 1):=ZK hp hr hv true l hf
theorem Rk {vars rest:List Nat} (hp:Pos S) (hr:rest.Nodup) {x:Nat} (hv:∀u∈vars,u=v∨u∈rest) (l:List Fr) (hf:Fit S f):tQ S (rest,xz S vars rest v x l) f=tQ S (vars,l) (aQ f v x):=by
 rw[tQ,tQ,xz,Pr _ (acP f hf rest),qQ];rw[yD S (f:=aQ (aO S rest (pos S f rest)) v x) (g:=aQ f v x)];intro u hu;simp only[aQ];by_cases e:u=v
 ·rw[aaf e,aaf e]
 ·rw[aaO e,aaO e];exact Dl hp hf hr u ((hv u hu).resolve_left e)
theorem Rj {V:List Vr} (h0:aW V L R=0) (hv:v<V.length) (hf:Fit (ah V) f):tQ (ah V) (ag (gU L v),gL V L R v) f=aT (dF V L R f v):=by
 have aM:=gD h0;have dG:v<L.length:=by rw[aM.len];exact hv
 have df:Pos (ah V):=by have:=aM.fine.pos;rwa [ew] at this
 have Lc:L.getD v []=L[v]:=by rw[b7,af dG];rfl
 have aX:Up (gU L v) V.length:=by rw[gU,Lc];exact GI (aM.up v dG) (Q7 hv)
 have hmem:∀u,u=v∨u∈ag (L.getD v []) ->u∈ag (gU L v):=fun u hu=>by
  obtain⟨_,h2⟩:=Jv (L.getD v []) [(v:Int)];rcases hu with rfl |hu
  ·exact aaQ.2 ⟨(u:Int),(h2 _).2 (.inr (fX.2 rfl)),pT u⟩
  ·obtain⟨z,hz,rfl⟩:=aaQ.1 hu;exact aaQ.2 ⟨z,(h2 _).2 (.inl hz),rfl⟩
 rw[tQ,gL,Pr _ (acP f hf _),qQ];congr 1
 exact aiF fun u hu=>Dl df hf aX.nodup u (hmem u hu)
def pQ (S:List Nat) (f:Nat ->Nat):List (List Nat×List Fr) ->Rat
 |[]=>1
 |t::P=>tQ S t f*pQ S f P
theorem Sc (S:List Nat) (f:Nat ->Nat) (Q:List (List Nat×List Fr)):∀P,pQ S f (P++Q)=pQ S f P*pQ S f Q
 |[]=>by rw[iD,pQ,vZ]
 |t::P=>by rw[fg,pQ,pQ,Sc S f Q P,yj]
theorem Sb {x:Nat}:∀ {P:List (List Nat×List Fr)},(∀t∈P,¬v∈t.1) ->pQ S (aQ f v x) P=pQ S f P
 |[],_=>rfl
 |t::P,h=>by rw[pQ,pQ,aeu (h t dJ),Sb fun s hs=>h s (eE _ hs)]
theorem Sa (S:List Nat) (f:Nat ->Nat) (p:List Nat×List Fr ->Bool):∀P:List (List Nat×List Fr),pQ S f P=pQ S f (P.filter fun t=>!p t)*pQ S f (P.filter p)
 |[]=>by simp[pQ]
 |t::P=>by
  rw[pQ,Sa S f p P];cases h:p t
  ·rw[Ad (by simp[h]),Ae (by simp[h]),pQ,yj]
  ·rw[Ae (by simp[h]),Ad h,pQ, <- yj, <- yj,ao7 (tQ S t f)]
theorem ag0 {P:List (List Nat×List Fr)} {q r:List Nat×List Fr} (hq:∀g,Fit S g ->tQ S q g=pQ S g (P.filter fun t=>decide (v∈t.1))) (hr:∀g,Fit S g ->tQ S r g=a8 (fun x=>tQ S q (aQ g v x)) (sz S v)) (hf:Fit S f):
  pQ S f ((P.filter fun t=>!decide (v∈t.1))++[r])=a8 (fun x=>pQ S (aQ f v x) P) (sz S v):=by
 rw[Sc,pQ,pQ,zS,hr f hf, <- El];refine l8 fun x hx=>?_;have nH:=Sb (S:=S) (f:=f) (v:=v) (x:=x) (P:=P.filter fun t=>!decide (v∈t.1)) (fun t ht=>by simpa using (abp.1 ht).2);rw[Sa S (aQ f v x) (fun t=>decide (v∈t.1)) P,hq _ (hf.with hx),nH]
variable {ws:List Nat}
def H6 (S:List Nat):List Nat ->((Nat ->Nat) ->Rat) ->(Nat ->Nat) ->Rat
 |[],F=>F
 |v::vs,F=>H6 S vs fun f=>a8 (fun x=>F (aQ f v x)) (sz S v)
theorem ack (S:List Nat):∀(vs:List Nat) (F:(Nat ->Nat) ->Rat) (f:Nat ->Nat),H6 S vs F f=eV S vs.reverse F f
 |[],F,f=>rfl
 |v::vs,F,f=>by rw[H6,ack S vs,List.reverse_cons,JU]
theorem ala (h:vs.Perm ws) (hn:vs.Nodup) (F:(Nat ->Nat) ->Rat) (f:Nat ->Nat):H6 S vs F f=eV S ws F f:=by
 rw[ack];exact JV F ((List.reverse_perm vs).trans h) ((List.reverse_perm vs).nodup_iff.2 hn) f
def AE (v x:Nat) (g:Nat ->Nat):Rat:=if g v=x then 1 else 0
theorem aac {x y:Nat} (F:(Nat ->Nat) ->Rat):∀(vs:List Nat) (f:Nat ->Nat),¬v∈vs ->f v=y ->eV S vs (fun g=>AE v x g*F g) f=(if y=x then 1 else 0)*eV S vs F f
 |[],f,_,hf=>by
  show AE v x f*F f=_;rw[AE,hf];rfl
 |u::vs,f,hv,hf=>by
  rw[eV,eV, <- El];refine l8 fun z _=>?_;refine aac F vs _ (fun h=>hv (eE _ h)) ?_;rw[aQ,aaO (fun e=>hv (by rw[e];exact dJ)),hf]
theorem Sr {x:Nat} (F:(Nat ->Nat) ->Rat):∀(vs:List Nat) (f:Nat ->Nat),¬v∈vs ->eV S vs F (aQ f v x)=eV S vs (fun g=>F (aQ g v x)) f
 |[],f,_=>rfl
 |u::vs,f,hv=>by
  rw[eV,eV];refine l8 fun z _=>?_;have hne:v≠u:=fun e=>hv (by rw[e];exact dJ);rw[M7 f x z (fun e=>hne e.symm),Sr F vs _ fun h=>hv (eE _ h)]
theorem Yf {g:Nat ->Rat} {x:Nat}:∀ {n:Nat},x< n ->a8 (fun y=>(if y=x then 1 else 0)*g y) n=g x
 |0,h=>by omega
 |n+1,h=>by
  rw[a8];rcases cD x n with h1 |h1
  ·rw[Yf h1,aaO (by omega),Rat.zero_mul,Rat.add_zero]
  ·obtain rfl:x=n:=by omega
   rw[aaf rfl,vZ,l8 (h:=fun _=>0) fun y hy=>by rw[aaO (by omega),Rat.zero_mul],Rn,Rat.zero_add]
theorem ahD {x:Nat} (F:(Nat ->Nat) ->Rat) (h:vs.Perm (v::ws)) (hn:vs.Nodup) (hx:x<sz S v) (f:Nat ->Nat):eV S vs (fun g=>AE v x g*F g) f=eV S ws (fun g=>F (aQ g v x)) f:=by
 have dm:=h.nodup_iff.1 hn;rw[pP] at dm;rw[JV _ h hn f,eV, <- Sr F ws f dm.1];rw[l8 (h:=fun y=>(if y=x then 1 else 0)*eV S ws F (aQ f v y)) fun y _=>aac F ws _ dm.1 (by rw[aQ,aaf rfl])];exact Yf hx
def jX:List (Nat×Nat) ->(Nat ->Nat) ->Rat
 |[],_=>1
 |p::l,g=>AE p.1 p.2 g*jX l g
def cY:List (Nat×Nat) ->(Nat ->Nat) ->Nat ->Nat
 |[],g=>g
 |p::l,g=>cY l (aQ g p.1 p.2)
theorem Vn {x:Nat}:∀ {l:List (Nat×Nat)},(∀p∈l,p.1≠v) ->∀g,jX l (aQ g v x)=jX l g
 |[],_,_=>rfl
 |p::l,h,g=>by
  rw[jX,jX,Vn (fun q hq=>h q (eE _ hq)),AE,AE,aQ,aaO (h p dJ)]
theorem Ns {x:Nat}:∀ {l:List (Nat×Nat)},(∀p∈l,p.1≠v) ->∀g,cY l (aQ g v x)=aQ (cY l g) v x
 |[],_,_=>rfl
 |p::l,h,g=>by
  rw[cY,cY,M7 g x p.2 (h p dJ),Ns fun q hq=>h q (eE _ hq)]
theorem aad:∀(l:List (Nat×Nat)) (F:(Nat ->Nat) ->Rat) {vs ws:List Nat},vs.Perm (l.map (·.1)++ws) ->vs.Nodup ->(∀p∈l,p.2<sz S p.1) ->∀f,eV S vs (fun g=>jX l g*F g) f=eV S ws (fun g=>F (cY l g)) f
 |[],F,vs,ws,h,hn,_,f=>by
  rw[JV _ h hn f];show eV S ws (fun g=>1*F g) f=_;simp only[vZ,cY]
 |p::l,F,vs,ws,h,hn,hx,f=>by
  have dm:=h.nodup_iff.1 hn;rw[gQ,fg] at dm h;rw[pP] at dm;have nH:∀q∈l,q.1≠p.1:=fun q hq e=>dm.1 (aa5.2 (.inl (by rw[<- e];exact aaQ.2 ⟨q,hq,rfl⟩)))
  have e1:(fun g=>jX (p::l) g*F g)=fun g=>AE p.1 p.2 g*(jX l g*F g):=by
   funext g
   rw[jX,yj]
  rw[e1,ahD (fun g=>jX l g*F g) h hn (hx p dJ) f]
  have e2:(fun g=>jX l (aQ g p.1 p.2)*F (aQ g p.1 p.2))=fun g=>jX l g*F (aQ g p.1 p.2):=by
   funext g
   rw[Vn nH]
  rw[e2,aad l (fun g=>F (aQ g p.1 p.2)) (List.Perm.refl _) dm.2 (fun q hq=>hx q (eE _ hq)) f];congr 1
  funext g
  rw[show cY (p::l) g=cY l (aQ g p.1 p.2) from rfl];congr 1
  exact(Ns nH g).symm
theorem ZW (p q:Rat):p<=Er true p q/\q<=Er true p q:=by
 simp only[Er,if_true];by_cases h:p<q
 ·rw[aaf h];exact⟨Rat.le_of_lt h,zT⟩
 ·rw[aaO h];exact⟨zT,Rat.not_lt.1 h⟩
theorem NI (g:Nat ->Rat):∀ {k x:Nat},x<=k ->g x<=jz true g k
 |0,x,h=>by rw[Nat.le_zero.1 h];exact zT
 |k+1,x,h=>by
  rw[jz];rcases cD k x with hx |hx
  ·rw[show x=k+1 from by omega];exact(ZW _ _).2
  ·exact Rat.le_trans (NI g hx) (ZW _ _).1
theorem G8 (g:Nat ->Rat):∀k,∃x,x<=k/\jz true g k=g x
 |0=>⟨0,ar _,rfl⟩
 |k+1=>by
  obtain⟨x,hx,e⟩:=G8 g k;rw[jz];simp only[Er,if_true];by_cases h:jz true g k<g (k+1)
  ·rw[aaf h];exact⟨k+1,ar _,rfl⟩
  ·rw[aaO h];exact⟨x,by omega,e⟩
theorem aha {A:Rat} (hA:0<=A) (g:Nat ->Rat) (k:Nat):jz true (fun x=>A*g x) k=A*jz true g k:=by
 refine Rat.le_antisymm ?_ ?_
 ·obtain⟨x,hx,e⟩:=G8 (fun x=>A*g x) k;rw[e];exact Rat.mul_le_mul_of_nonneg_left (NI g hx) hA
 ·obtain⟨x,hx,e⟩:=G8 g k;rw[e];exact NI (fun x=>A*g x) hx
theorem Xz (f:Nat ->Nat) (v:Nat):aQ f v (f v)=f:=by
 funext u;rw[aQ];by_cases h:u=v
 ·rw[aaf h,h]
 ·rw[aaO h]
theorem M8 (f:Nat ->Nat) (v x:Nat):aQ f v x v=x:=by rw[aQ,aaf rfl]
theorem Jm (f:Nat ->Nat) (x:Nat) (h:u≠v):aQ f v x u=f u:=by rw[aQ,aaO h]
def elimM (S:List Nat):List Nat ->((Nat ->Nat) ->Rat) ->(Nat ->Nat) ->Rat
 |[],F=>F
 |v::vs,F=>elimM S vs fun f=>jz true (fun x=>F (aQ f v x)) (sz S v - 1)
theorem ag1 {P:List (List Nat×List Fr)} {q r:List Nat×List Fr} (hp:Pos S) (hq:∀g,Fit S g ->tQ S q g=pQ S g (P.filter fun t=>decide (v∈t.1))) (hr:∀g,Fit S g ->tQ S r g=jz true (fun x=>tQ S q (aQ g v x)) (sz S v - 1)) (hn:∀g,Fit S g ->∀t∈P,0<=tQ S t g) (hf:Fit S f):
  pQ S f ((P.filter fun t=>!decide (v∈t.1))++[r])=jz true (fun x=>pQ S (aQ f v x) P) (sz S v - 1):=by
 have hsz:=im hp v
 have nB:∀Q:List (List Nat×List Fr),(∀t∈Q,t∈P) ->0<=pQ S f Q:=fun Q=>by
  induction Q with
  |nil=>intro _;rw[pQ];decide
  |cons t Q ih=>intro h;rw[pQ];exact Rat.mul_nonneg (hn f hf t (h t dJ)) (ih fun s hs=>h s (eE _ hs))
 rw[Sc,pQ,pQ,zS,hr f hf, <- aha (nB _ fun t ht=>(abp.1 ht).1)];refine NJ true fun x hx=>?_;have nH:=Sb (S:=S) (f:=f) (v:=v) (x:=x) (P:=P.filter fun t=>!decide (v∈t.1)) (fun t ht=>by simpa using (abp.1 ht).2);rw[Sa S (aQ f v x) (fun t=>decide (v∈t.1)) P,hq _ (hf.with (by omega)),nH]
theorem ahb {g:Nat ->Rat} (h:∀x,x<=k ->0<=g x):0<=jz true g k:=by
 obtain⟨x,hx,e⟩:=G8 g k;rw[e];exact h x hx
theorem Nw (hp:Pos S):∀ {vs:List Nat} {k:Nat},vs.Nodup ->k<cnt S vs ->pos S (aO S vs k) vs=k
 |[],k,_,h=>by
  have:k<1:=h;rw[show k=0 from by omega];rfl
 |u::vs,k,hn,h=>by
  rw[pP] at hn;have hc:0<cnt S vs:=QH (aU _) (acP (S:=S) (fun _=>0) (fun u=>im hp u) vs)
  have e:pos S (aO S (u::vs) k) vs=pos S (aO S vs (k % cnt S vs)) vs:=yD S fun v hv=>by
   rw[aO,aaO];exact fun e=>hn.1 (e▸hv)
  rw[G7,e,Nw hp hn.2 (jL _ hc),aO,aaf rfl,abr];exact Nat.div_add_mod _ _
theorem N5 {V:List Vr} (h0:aW V L R=0) (hv:v<V.length) (hf:Fit (ah V) f):0<=aT (dF V L R f v):=by
 have aM:=gD h0;have dG:v<L.length:=by rw[aM.len];exact hv
 have kn:v<R.length:=by rw[aM.lenR];exact hv
 have hlen:=aM.rows v dG kn;have hp:=acP f hf (ag L[v])
 have hrow:iJ (fP R[v] (sz (ah V) v) (pos (ah V) f (ag L[v])))=true:=by
  have h1:iO (iI (ah V) L R) V.length=0:=by
   rw[aW] at h0;by_cases h1:L.length=V.length/\R.length=V.length
   ·rw[aaf h1] at h0;by_cases h2:bE L=0
    ·rw[aaf h2] at h0;by_cases h3:jy V=0
     ·rwa [aaf h3] at h0
     ·rw[aaO h3] at h0;exact absurd h0 h3
    ·rw[aaO h2] at h0;exact absurd h0 h2
   ·rw[aaO h1] at h0;exact absurd h0 (by decide)
  have h2:=K7 h1 v hv;rw[iI,b7,af kn,b7,af dG] at h2;simp only[zV] at h2;rw[aaf hlen] at h2;by_cases h3:((List.range (cnt (ah V) (ag L[v]))).all fun i=>iJ (fP R[v] (sz (ah V) v) i))=true
  ·rw[eJ] at h3;exact h3 _ (bG.2 hp)
  ·rw[aaO h3] at h2;exact absurd h2 (by decide)
 rw[iJ,ia,eJ] at hrow;have hmul:(pos (ah V) f (ag L[v])+1)*sz (ah V) v<=R[v].length:=by rw[hlen];exact jK _ hp
 have e1:(pos (ah V) f (ag L[v])+1)*sz (ah V) v=pos (ah V) f (ag L[v])*sz (ah V) v+sz (ah V) v:=by rw[fW,kB]
 have hcl:(fP R[v] (sz (ah V) v) (pos (ah V) f (ag L[v]))).length=sz (ah V) v:=by
  rw[fP,eZ,mR];omega
 have OC:=hf v;have hm:=hrow.1 _ (bH (l:=fP R[v] (sz (ah V) v) (pos (ah V) f (ag L[v]))) (n:=f v) (by omega));rw[JZ dG kn,p6,pz (by omega)];have:=Rat.not_lt.1 (rS hm);simpa only[fP,Aa,List.getElem_drop] using this
theorem akd {V:List Vr} (h0:aW V L R=0) (hv:v<V.length) (hf:Fit (ah V) f):0<=tQ (ah V) (ag (gU L v),gL V L R v) f:=by
 rw[Rj h0 hv hf];exact N5 h0 hv hf
def rI (l:List (Nat×Nat)) (g:Nat ->Nat):Bool:=l.all fun p=>g p.1==p.2
theorem KG:∀(l:List (Nat×Nat)) (g:Nat ->Nat),jX l g=if rI l g then 1 else 0
 |[],_=>rfl
 |p::l,g=>by
  rw[jX,KG l g,AE,rI,rI,List.all_cons];by_cases h:g p.1=p.2
  ·rw[aaf h,vZ,rp.2 h,Jj]
  ·rw[aaO h,Rat.zero_mul,zQ.2 h,Bool.false_and];rfl
theorem Cr:∀ {l:List (Nat×Nat)},¬u∈l.map (·.1) ->∀g,cY l g u=g u
 |[],_,_=>rfl
 |p::l,h,g=>by
  rw[gQ,dK,not_or] at h;rw[cY,Cr h.2,Jm g _ h.1]
theorem G0 {p:Nat×Nat}:∀ {l:List (Nat×Nat)},(l.map (·.1)).Nodup ->p∈l ->∀g,cY l g p.1=p.2
 |q::l,hn,h,g=>by
  rw[gQ,pP] at hn;rcases dK.1 h with rfl |h
  ·rw[cY,Cr hn.1,M8]
  ·exact G0 hn.2 h _
variable {As:List Nat}
theorem amM {A:Nat ->Prop}:∀ {l:List (Nat×Nat)},(∀p∈l,A p.1) ->xK A (jX l)
 |[],_=>fun _ _ _ _=>rfl
 |p::l,h=>fun v hv g x=>by
  have hne:∀q∈p::l,q.1≠v:=fun q hq e=>hv (e▸h q hq);exact Vn hne g
theorem amO {V:List Vr} (h0:aW V L R=0) (hn:As.Nodup) (hlt:∀v∈As,v<V.length) (hc:lT L (·∈As)) {G:(Nat ->Nat) ->Rat} (hG:xK (·∈As) G):
  a8 (fun k=>G (aO (ah V) (List.range V.length) k)*ji V L R (aO (ah V) (List.range V.length) k) V.length) (cnt (ah V) (List.range V.length))=eV (ah V) As (fun g=>G g*dA V L R g As) (fun _=>0):=by
 have aM:=gD h0;have df:Pos (ah V):=by have:=aM.fine.pos;rwa [ew] at this
 obtain⟨Oq,_⟩:=aab h0 L.length (Sl h0) (ar _)
 have hp:(aY (aI L) L.length).Perm (List.range V.length):=by
  rw[<- aM.len];refine Zv L.length _ Oq (fun x hx=>?_) (Sl h0);have:=Ep (aI L) L.length x hx;rwa [lp] at this
 have hz:Fit (ah V) (fun _:Nat=>0):=fun u=>im df u;have e:=aae (S:=ah V) (fun g=>G g*ji V L R g V.length) (List.range V.length) (fun _=>0) pO;rw[l8 (h:=fun k=>G (aO (ah V) (List.range V.length) k)*ji V L R (aO (ah V) (List.range V.length) k) V.length) fun k _=>by rw[ag5]] at e
 have hf:((aY (aI L) L.length).filter fun v=>decide (v∈As)).Perm As:=by
  refine(Jd (Oq.filter _) hn).2 fun v=>?_;rw[abp,ei];refine⟨fun h=>h.2,fun h=>⟨hp.mem_iff.2 (bG.2 (hlt v h)),h⟩⟩
 rw[e, <- JV _ hp Oq,Es (G:=fun g=>G g*dA V L R g (aY (aI L) L.length)) (fun g _=>by rw[JN,RX hp]) _ _ hz,Vp (b:=fun v=>decide (v∈As)) h0 (fun v hv u hu=>cJ (hc v (rS hv) u hu)) L.length (Sl h0) (ar _) G (fun v hv g x=>hG v (fun h=>hv (cJ h)) g x) _ hz,JV _ hf (Oq.filter _)];refine Es (fun g _=>?_) _ _ hz;rw[RX hf]
theorem agq {V:List Vr} (h0:aW V L R=0) {l:List (Nat×Nat)} (hn:As.Nodup) (hlt:∀v∈As,v<V.length) (hc:lT L (·∈As)) (hl:As.Perm (l.map (·.1)++ws)) (hx:∀p∈l,p.2<sz (ah V) p.1):
  a8 (fun k=>jX l (aO (ah V) (List.range V.length) k)*ji V L R (aO (ah V) (List.range V.length) k) V.length) (cnt (ah V) (List.range V.length))=eV (ah V) ws (fun g=>dA V L R (cY l g) As) (fun _=>0):=by
 rw[amO h0 hn hlt hc (amM fun p hp=>hl.mem_iff.2 (aa5.2 (.inl (aaQ.2 ⟨p,hp,rfl⟩))))];exact aad l (fun g=>dA V L R g As) hl hn hx _
variable {free:List Nat}
abbrev Tb:=List Int×List Fr
def tN (t:Tb):List Nat×List Fr:=(ag t.1,t.2)
structure di (S:List Nat) (n:Nat) (t:Tb):Prop where
 up:Up t.1 n
 len:t.2.length=cnt S (ag t.1)
def yH (S:List Nat) (a t:Tb):Tb:=(abM a.1 t.1,uM S (ag a.1) (ag t.1) (ag (abM a.1 t.1)) a.2 t.2)
def Cu:Tb:=([],[qF 1])
def allT (S:List Nat) (P:List Tb):Tb:=P.foldl (yH S) Cu
def outT (S:List Nat) (v:Nat) (most:Bool) (t:Tb):Tb:=(bw t.1 v,qL S (ag t.1) (ag (bw t.1 (v:Int))) v most t.2)
def gK (S:List Nat) (v x:Nat) (t:Tb):Tb:=(bw t.1 v,xz S (ag t.1) (ag (bw t.1 (v:Int))) v x t.2)
theorem M9 {a b:List Int}:∀u,u∈ag (abM a b)↔u∈ag a∨u∈ag b:=fun u=>by
 obtain⟨_,h⟩:=Jv a b;simp only[ag,aaQ];constructor
 ·rintro⟨x,hx,e⟩;rcases (h x).1 hx with h |h
  ·exact .inl ⟨x,h,e⟩
  ·exact .inr ⟨x,h,e⟩
 ·rintro(⟨x,hx,e⟩ |⟨x,hx,e⟩)
  ·exact⟨x,(h x).2 (.inl hx),e⟩
  ·exact⟨x,(h x).2 (.inr hx),e⟩
theorem SU {a:List Int} (h:Up a n):∀u,u∈ag (bw a (v:Int))↔u∈ag a/\u≠v:=fun u=>by
 constructor
 ·intro hu;refine⟨?_,fun e=>N7 h (e▸hu)⟩;obtain⟨x,hx,e⟩:=aaQ.1 hu;exact aaQ.2 ⟨x,(abp.1 hx).1,e⟩
 ·rintro⟨hu,hne⟩;rcases Cy h v u hu with rfl |h
  ·exact absurd rfl hne
  ·exact h
theorem di.mul {a t:Tb} (ha:di S n a) (ht:di S n t):di S n (yH S a t):=⟨GI ha.up ht.up,Zl ..⟩
theorem di.one (S:List Nat) (n:Nat):di S n Cu:=⟨pV.2 ⟨fun _ h=>absurd h qG,List.Pairwise.nil⟩,rfl⟩
theorem di.o {t:Tb} (ht:di S n t) (v:Nat) (most:Bool):di S n (outT S v most t):=⟨tI ht.up _,Sh ..⟩
theorem di.fix {t:Tb} (ht:di S n t) (v x:Nat):di S n (gK S v x t):=⟨tI ht.up _,ab7 ..⟩
theorem ah9 {a t:Tb} (hp:Pos S) (ha:di S n a) (ht:di S n t) (hf:Fit S f):tQ S (tN (yH S a t)) f=tQ S (tN a) f*tQ S (tN t) f:=
 aet hp (GI ha.up ht.up).nodup (fun u h=>(M9 u).2 (.inl h)) (fun u h=>(M9 u).2 (.inr h)) _ _ hf
theorem ab3 (hp:Pos S):∀ {P:List Tb} {a:Tb},di S n a ->(∀t∈P,di S n t) ->di S n (P.foldl (yH S) a)/\(∀u,u∈ag (P.foldl (yH S) a).1↔u∈ag a.1∨∃t∈P,u∈ag t.1)/\∀f,Fit S f ->tQ S (tN (P.foldl (yH S) a)) f=tQ S (tN a) f*pQ S f (P.map tN)
 |[],a,ha,_=>⟨ha,fun u=>⟨.inl,fun h=>h.elim id fun ⟨_,ht,_⟩=>absurd ht qG⟩,fun f _=>by rw[ld,pQ,zS];rfl⟩
 |t::P,a,ha,h=>by
  have ht:=h t dJ;obtain⟨h1,h2,h3⟩:=ab3 hp (ha.mul ht) (fun s hs=>h s (eE _ hs)) (P:=P);refine⟨h1,fun u=>?_,fun f hf=>?_⟩
  ·rw[Ef,h2 u];show u∈ag (abM a.1 t.1)∨_↔_;rw[M9,or_assoc];refine or_congr Iff.rfl ⟨?_,?_⟩
   ·rintro(h |⟨s,hs,h⟩)
    ·exact⟨t,dJ,h⟩
    ·exact⟨s,eE _ hs,h⟩
   ·rintro⟨s,hs,hu⟩;rcases dK.1 hs with rfl |hs
    ·exact .inl hu
    ·exact .inr ⟨s,hs,hu⟩
  ·rw[Ef,h3 f hf,ah9 hp ha ht hf,gQ,pQ,yj]
theorem xH (hp:Pos S) {P:List Tb} (h:∀t∈P,di S n t):di S n (allT S P)/\(∀u,u∈ag (allT S P).1↔∃t∈P,u∈ag t.1)/\∀f,Fit S f ->tQ S (tN (allT S P)) f=pQ S f (P.map tN):=by
 obtain⟨h1,h2,h3⟩:=ab3 hp (di.one S n) h;refine⟨h1,fun u=>(h2 u).trans ⟨fun h=>h.elim (fun h=>absurd h qG) id,.inr⟩,fun f hf=>?_⟩;rw[allT,h3 f hf];have:tQ S (tN Cu) f=1:=qQ 1;rw[this,vZ]
def abW (S:List Nat) (v:Nat) (most:Bool) (P:List Tb):List Tb:=(P.filter fun t=>!decide (v∈ag t.1))++[outT S v most (allT S (P.filter fun t=>decide (v∈ag t.1)))]
structure PI (S:List Nat) (n:Nat) (free:List Nat) (P:List Tb) (F:(Nat ->Nat) ->Rat):Prop where
 ok:∀t∈P,di S n t
 sub:∀t∈P,∀u∈ag t.1,u∈free
 sup:∀u∈free,∃t∈P,u∈ag t.1
 val:∀g,Fit S g ->pQ S g (P.map tN)=F g
def NN (S:List Nat) (P:List Tb):Prop:=∀t∈P,∀g,Fit S g ->0<=tQ S (tN t) g
theorem ZC {g:Nat ->Nat} (hg:Fit S g):∀ {P:List Tb},NN S P ->0<=pQ S g (P.map tN)
 |[],_=>by rw[ld,pQ];decide
 |t::P,h=>by rw[gQ,pQ];exact Rat.mul_nonneg (h t dJ g hg) (ZC hg fun s hs=>h s (eE _ hs))
theorem PI.parts {P:List Tb} {F:(Nat ->Nat) ->Rat} (hp:Pos S) (h:PI S n free P F) (v:Nat) (most:Bool):
  (∀t∈abW S v most P,di S n t)/\(∀t∈abW S v most P,∀u∈ag t.1,u∈free.filter fun u=>!(u==v))/\∀u∈free.filter (fun u=>!(u==v)),∃t∈abW S v most P,u∈ag t.1:=by
 obtain⟨h1,h2,_⟩:=xH hp (P:=P.filter fun t=>decide (v∈ag t.1)) (n:=n) fun t ht=>h.ok t (abp.1 ht).1;have hf:∀u,u∈free.filter (fun u=>!(u==v))↔u∈free/\u≠v:=fun u=>by simp[abp]
 have hr:=SU (v:=v) h1.up;refine⟨fun t ht=>?_,fun t ht u hu=>?_,fun u hu=>?_⟩
 ·rcases aa5.1 ht with ht |ht
  ·exact h.ok t (abp.1 ht).1
  ·rw[fX.1 ht];exact h1.o v most
 ·rw[hf];rcases aa5.1 ht with ht |ht
  ·obtain⟨ht,hv⟩:=abp.1 ht;exact⟨h.sub t ht u hu,fun e=>by simp[<- e,hu] at hv⟩
  ·rw[fX.1 ht] at hu;obtain⟨hu,hne⟩:=(hr u).1 hu;obtain⟨s,hs,hu⟩:=(h2 u).1 hu;exact⟨h.sub s (abp.1 hs).1 u hu,hne⟩
 ·obtain⟨hu,hne⟩:=(hf u).1 hu;obtain⟨t,ht,oB⟩:=h.sup u hu;by_cases hv:v∈ag t.1
  ·exact⟨_,aa5.2 (.inr (fX.2 rfl)),(hr u).2 ⟨(h2 u).2 ⟨t,abp.2 ⟨ht,cJ hv⟩,oB⟩,hne⟩⟩
  ·exact⟨t,aa5.2 (.inl (abp.2 ⟨ht,by simp[hv]⟩)),oB⟩
theorem PI.o {P:List Tb} {F:(Nat ->Nat) ->Rat} (hp:Pos S) (h:PI S n free P F) (v:Nat):
  PI S n (free.filter fun u=>!(u==v)) (abW S v false P) (fun g=>a8 (fun x=>F (aQ g v x)) (sz S v)):=by
 obtain⟨a,b,c⟩:=h.parts hp v false;obtain⟨h1,h2,h3⟩:=xH hp (P:=P.filter fun t=>decide (v∈ag t.1)) (n:=n) fun t ht=>h.ok t (abp.1 ht).1;refine⟨a,b,c,fun g hg=>?_⟩;have e1:(P.map tN).filter (fun t=>!decide (v∈t.1))=(P.filter fun t=>!decide (v∈ag t.1)).map tN:=by rw[adi];rfl
 have e2:(P.map tN).filter (fun t=>decide (v∈t.1))=(P.filter fun t=>decide (v∈ag t.1)).map tN:=by rw[adi];rfl
 have key:=ag0 (S:=S) (f:=g) (v:=v) (P:=P.map tN) (q:=tN (allT S (P.filter fun t=>decide (v∈ag t.1)))) (r:=tN (outT S v false (allT S (P.filter fun t=>decide (v∈ag t.1))))) (fun k hk=>by rw[e2];exact h3 k hk) (fun k hk=>ads hp (tI h1.up _).nodup (Cy h1.up v) _ hk) hg;rw[e1] at key;rw[abW,fY,List.map_singleton,key];exact l8 fun x hx=>h.val _ (hg.with hx)
theorem PI.most {P:List Tb} {F:(Nat ->Nat) ->Rat} (hp:Pos S) (h:PI S n free P F) (hn:NN S P) (v:Nat):
  PI S n (free.filter fun u=>!(u==v)) (abW S v true P) (fun g=>jz true (fun x=>F (aQ g v x)) (sz S v - 1))/\NN S (abW S v true P):=by
 obtain⟨a,b,c⟩:=h.parts hp v true;obtain⟨h1,h2,h3⟩:=xH hp (P:=P.filter fun t=>decide (v∈ag t.1)) (n:=n) fun t ht=>h.ok t (abp.1 ht).1;have hsz:=im hp v;have e1:(P.map tN).filter (fun t=>!decide (v∈t.1))=(P.filter fun t=>!decide (v∈ag t.1)).map tN:=by rw[adi];rfl
 have e2:(P.map tN).filter (fun t=>decide (v∈t.1))=(P.filter fun t=>decide (v∈ag t.1)).map tN:=by rw[adi];rfl
 have er:∀k,Fit S k ->tQ S (tN (outT S v true (allT S (P.filter fun t=>decide (v∈ag t.1))))) k=jz true (fun x=>tQ S (tN (allT S (P.filter fun t=>decide (v∈ag t.1)))) (aQ k v x)) (sz S v - 1):=fun k hk=>X3 hp (tI h1.up _).nodup (Cy h1.up v) _ hk;refine⟨⟨a,b,c,fun g hg=>?_⟩,fun t ht g hg=>?_⟩
 ·have key:=ag1 (S:=S) (f:=g) (v:=v) (P:=P.map tN) (q:=tN (allT S (P.filter fun t=>decide (v∈ag t.1)))) (r:=tN (outT S v true (allT S (P.filter fun t=>decide (v∈ag t.1))))) hp (fun k hk=>by rw[e2];exact h3 k hk) er (fun k hk t ht=>by
   obtain⟨s,hs,rfl⟩:=aaQ.1 ht;exact hn s hs k hk) hg
  rw[e1] at key;rw[abW,fY,List.map_singleton,key];exact NJ true fun x hx=>h.val _ (hg.with (by omega))
 ·rcases aa5.1 ht with ht |ht
  ·exact hn t (abp.1 ht).1 g hg
  ·rw[fX.1 ht,er g hg];refine ahb fun x hx=>?_;rw[h3 _ (hg.with (by omega))];exact ZC (hg.with (by omega)) fun s hs=>hn s (abp.1 hs).1
theorem PI.fix {P:List Tb} {F:(Nat ->Nat) ->Rat} (hp:Pos S) (h:PI S n free P F) {x:Nat} (hx:x<sz S v):
  PI S n (free.filter fun u=>!(u==v)) (P.map (gK S v x)) (fun g=>F (aQ g v x)):=by
 have hf:∀u,u∈free.filter (fun u=>!(u==v))↔u∈free/\u≠v:=fun u=>by simp[abp]
 refine⟨fun t ht=>?_,fun t ht u hu=>?_,fun u hu=>?_,fun g hg=>?_⟩
 ·obtain⟨s,hs,rfl⟩:=aaQ.1 ht;exact(h.ok s hs).fix v x
 ·obtain⟨s,hs,rfl⟩:=aaQ.1 ht;obtain⟨hu,hne⟩:=(SU (h.ok s hs).up u).1 hu;exact(hf u).2 ⟨h.sub s hs u hu,hne⟩
 ·obtain⟨hu,hne⟩:=(hf u).1 hu;obtain⟨t,ht,oB⟩:=h.sup u hu;exact⟨_,aaQ.2 ⟨t,ht,rfl⟩,(SU (h.ok t ht).up u).2 ⟨oB,hne⟩⟩
 ·rw[<- h.val _ (hg.with hx)]
  have:∀ {Q:List Tb},(∀t∈Q,di S n t) ->pQ S g ((Q.map (gK S v x)).map tN)=pQ S (aQ g v x) (Q.map tN):=fun {Q}=>by
   induction Q with
   |nil=>intro _;rfl
   |cons t Q ih=>
    intro hQ;rw[gQ,gQ,gQ,pQ,pQ,ih fun s hs=>hQ s (eE _ hs)];congr 1
    exact Rk hp (tI (hQ t dJ).up _).nodup (Cy (hQ t dJ).up v) _ hg
  exact this h.ok
theorem NN.fix {P:List Tb} (hp:Pos S) (ho:∀t∈P,di S n t) (h:NN S P) {x:Nat} (hx:x<sz S v):NN S (P.map (gK S v x)):=fun t ht g hg=>by
 obtain⟨s,hs,rfl⟩:=aaQ.1 ht;have e:tQ S (tN (gK S v x s)) g=tQ S (tN s) (aQ g v x):=Rk hp (tI (ho s hs).up _).nodup (Cy (ho s hs).up v) _ hg;rw[e];exact h s hs _ (hg.with hx)
variable {v':Value} {W':World}
def cR (w:World) (x y:Value) (t:Tb):Prop:=∃b c cb cc,x=.slice b t.1.length cb/\y=.slice c t.2.length cc/\aaK w b t.1/\bZ w c t.2/\(b=none ->cb=0)
theorem cR.aa {t:Tb} (h:cR w x y t) (hb:Below w.heap.size w w'):cR w' x y t:=by
 obtain⟨b,c,cb,cc,h1,h2,h3,h4,h5⟩:=h;exact⟨b,c,cb,cc,h1,h2,h3.aa hb,h4.aa hb,h5⟩
def dQ (w:World) (a:Option Addr) (P:List Tb):Prop:=∀k (h:k<P.length),∃g o x y,a=some ⟨g,o,none⟩/\g<w.heap.size/\w.cell? ⟨g,o+k*2,none⟩=some x/\w.cell? ⟨g,o+k*2+1,none⟩=some y/\cR w x y P[k]
theorem dQ.aa {P:List Tb} (h:dQ w a P) (hb:Below w.heap.size w w'):dQ w' a P:=fun k hk=>by
 obtain⟨g,o,x,y,h1,h2,h3,h4,h5⟩:=h k hk;exact⟨g,o,x,y,h1,aR h2 hb.size,(hb.cell (p:=⟨g,_,none⟩) h2).trans h3,(hb.cell (p:=⟨g,_,none⟩) h2).trans h4,h5.aa hb⟩
def fK:List (Value×Value) ->List Value
 |[]=>[]
 |p::l=>p.1::p.2::fK l
theorem Rf:∀l,(fK l).length=l.length*2
 |[]=>rfl
 |p::l=>by
  show (fK l).length+1+1=(l.length+1)*2;rw[Rf l];omega
theorem Nb (m:List (Value×Value)):∀l,fK (l++m)=fK l++fK m
 |[]=>rfl
 |q::l=>by
  show _::_::fK (l++m)=_::_::(fK l++fK m);rw[Nb m l]
theorem Rg:∀(l:List (Value×Value)) (k:Nat) (h:k<l.length),(fK l)[k*2]? =some l[k].1/\(fK l)[k*2+1]? =some l[k].2
 |p::l,0,_=>⟨rfl,rfl⟩
 |p::l,k+1,h=>by
  have:=Rg l k (by simpa using h);rw[show (k+1)*2=k*2+1+1 by omega];exact this
def fE (R:Nat) (t:Tb) (p:Value×Value):Prop:=(∀g o n c,p.1=.slice (some ⟨g,o,none⟩) n c ->t.1≠[] ->g≠R)/\∀g o n c,p.2=.slice (some ⟨g,o,none⟩) n c ->t.2≠[] ->g≠R
structure kr (w:World) (B:Nat) (v:Value) (Q:List (Value×Value)) (P:List Tb):Prop where
 len:Q.length=P.length
 own:w.ownsRow B 39 2 v P.length (fK Q)
 val:∀k (h:k<P.length) (h':k<Q.length),cR w Q[k].1 Q[k].2 P[k]
 far:∀R,v.ownBlock=some R ->∀k (h:k<P.length) (h':k<Q.length),fE R P[k] Q[k]
theorem kr.nil (w:World) (B:Nat):kr w B (.slice none 0 0) [] []:=⟨rfl,⟨rfl,.inl ⟨rfl,rfl⟩⟩,(fun k h=>absurd h (by simp)),fun R e=>by cases e⟩
theorem kr.row {B:Nat} {v:Value} {Q:List (Value×Value)} {P:List Tb} (h:kr w B v Q P):∃a c,v=.slice a P.length c/\dQ w a P:=by
 rcases h.own.2 with ⟨h1,h2⟩ |⟨g,cap,cur,h1,h2,h3,h4,h5,h6,h7⟩
 ·exact⟨none,0,by rw[h1,h2],fun k hk=>absurd hk (by omega)⟩
 ·refine⟨_,cap,h1,fun k hk=>?_⟩;have gi:k<Q.length:=by rw[h.len];exact hk
  obtain⟨q0,q1⟩:=Rg Q k gi;have hcl:=Rf Q
  have hc:∀j u,(fK Q)[j]? =some u ->w.cell? ⟨g,j,none⟩=some u:=fun j u hj=>by
   rw[cC w g j _ _ (0,0) h3];have oH:=(o0.1 hj).1;rw[<- h7,rV,aaf (by have:=h.len;omega),wm] at hj;exact hj
  exact⟨g,0,_,_,rfl,(eL.1 h3).1,by rw[bT];exact hc _ _ q0,by rw[bT];exact hc _ _ q1,h.val k hk gi⟩
theorem Hg {W:World} {R:Option Nat} {b:Option Addr} (h:aaK W b l) (hn:∀g o,b=some ⟨g,o,none⟩ ->l≠[] ->some g≠R) (hg:W.grownBy W' R):aaK W' b l:=fun k dX=>by
 obtain⟨g,o,e,cH,hc⟩:=h k dX;have hne:=hn g o e (fun e=>by rw[e] at dX;exact absurd dX (by simp));exact⟨g,o,e,aR cH hg.size,(kA (hg.block g cH hne)).trans hc⟩
theorem akA {W:World} {R:Option Nat} {b:Option Addr} {l:List Fr} (h:bZ W b l) (hn:∀g o,b=some ⟨g,o,none⟩ ->l≠[] ->some g≠R) (hg:W.grownBy W' R):bZ W' b l:=fun k dX=>by
 obtain⟨g,o,e,cH,h0,h1,h2⟩:=h k dX;have hne:=hn g o e (fun e=>by rw[e] at dX;exact absurd dX (by simp));have hb:=hg.block g cH hne;exact⟨g,o,e,aR cH hg.size,(kA (a:=⟨g,_,none⟩) hb).trans h0,(kA (a:=⟨g,_,none⟩) hb).trans h1,(kA (a:=⟨g,_,none⟩) hb).trans h2⟩
theorem cR.keepR {W:World} {R:Option Nat} {t:Tb} (h:cR W x y t) (hn:∀r,R=some r ->fE r t (x,y)) (hg:W.grownBy W' R):cR W' x y t:=by
 obtain⟨b,c,cb,cc,rfl,rfl,h3,h4,h5⟩:=h;refine⟨b,c,cb,cc,rfl,rfl,Hg h3 (fun g o e hne hR=>?_) hg,akA h4 (fun g o e hne hR=>?_) hg,h5⟩
 ·exact(hn g hR.symm).1 g o _ _ (by rw[e]) hne rfl
 ·exact(hn g hR.symm).2 g o _ _ (by rw[e]) hne rfl
theorem cR.lt {t:Tb} (h:cR w x y t) {R:Nat} (hR:w.heap.size<=R):fE R t (x,y):=by
 obtain⟨b,c,cb,cc,rfl,rfl,h3,h4,h5⟩:=h;refine⟨fun g o n c' e hne hg=>?_,fun g o n c' e hne hg=>?_⟩
 ·injection e with e1 _ _;obtain⟨g',o',e',iK,_⟩:=h3 0 (by cases ht:t.1 with |nil=>exact absurd ht hne |cons x l=>simp);rw[e1] at e';cases e';omega
 ·injection e with e1 _ _;obtain⟨g',o',e',iK,_⟩:=h4 0 (by cases ht:t.2 with |nil=>exact absurd ht hne |cons x l=>simp);rw[e1] at e';cases e';omega
theorem kr.push {B:Nat} {v:Value} {Q:List (Value×Value)} {P:List Tb} {t:Tb} (h:kr w B v Q P) (ht:cR w x y t) (hf:∀R,v.ownBlock=some R ->fE R t (x,y)) (ho:w'.ownsRow B 39 2 v' (P.length+1) (fK Q++[x,y])) (hg:w.grownBy w' v.ownBlock) (hn:v'.ownBlock=v.ownBlock∨∀k,v'.ownBlock=some k ->w.heap.size<=k):kr w' B v' (Q++[(x,y)]) (P++[t]):=by
 have e1:(P++[t]).length=P.length+1:=by simp
 refine⟨by simp[h.len],by rw[e1,Nb];exact ho,fun k hk dH=>?_,fun R hR k hk dH=>?_⟩
 ·by_cases dX:k<P.length
  ·have gi:k<Q.length:=by rw[h.len];exact dX
   rw[uI gi,uI dX];exact(h.val k dX gi).keepR (fun r hr=>h.far r hr k dX gi) hg
  ·have gi:¬k<Q.length:=by rw[h.len];exact dX
   rw[Ac (by omega),Ac (by omega)];simp only[MQ];exact ht.keepR hf hg
 ·by_cases dX:k<P.length
  ·have gi:k<Q.length:=by rw[h.len];exact dX
   rw[uI gi,uI dX];rcases hn with hn |hn
   ·exact h.far R (by rw[<- hn];exact hR) k dX gi
   ·exact(h.val k dX gi).lt (hn R hR)
  ·have gi:¬k<Q.length:=by rw[h.len];exact dX
   rw[Ac (by omega),Ac (by omega)];simp only[MQ];rcases hn with hn |hn
   ·exact hf R (by rw[<- hn];exact hR)
   ·exact ht.lt (hn R hR)
theorem kr.under {B:Nat} {v:Value} {Q:List (Value×Value)} {P:List Tb} (h:kr w B v Q P) (hb:Below w.heap.size w w'):kr w' B v Q P:=
 ⟨h.len,JR h.own (Dn.aa hb),fun k h1 h2=>(h.val k h1 h2).aa hb,h.far⟩
theorem kr.lt {B:Nat} {v:Value} {Q:List (Value×Value)} {P:List Tb} (h:kr w B v Q P):∀R,v.ownBlock=some R ->B<=R/\R<w.heap.size:=fun R hR=>by
 rcases h.own.2 with ⟨h1,h2⟩ |⟨g,cap,cur,h1,h2,h3,_⟩
 ·rw[h1] at hR;cases hR
 ·rw[h1] at hR;cases hR;exact⟨h2,(eL.1 h3).1⟩
theorem fE.new {B R:Nat} {t:Tb} {b c:Option Addr} (hb:eC B b cb) (hc:eC B c cc) (hR:R<B):fE R t (.slice b n cb,.slice c m cc):=
 ⟨fun g o n' c' e _=>by
  injection e with e1 _ _;have:=hb.2 g o e1;omega,fun g o n' c' e _=>by
  injection e with e1 _ _;have:=hc.2 g o e1;omega⟩
theorem Tryz.infoTable:(Tryz.prog.info? 39).map (fun i=>(i.zero,i.size,i.bytes))=some (some (.agg #[.slice none 0 0,.slice none 0 0]),2,48):=by kernel_rfl
def eK (l M:List Int):List Int:=l.filter fun x=>!ie x M
theorem ast {M:List Int} (h:i<l.length):eK (l.take (i+1)) M=eK (l.take i) M++if ie l[i] M=true then[] else[l[i]]:=by
 rw[fR h,eK,eK,Ch];congr 1
 cases e:ie l[i] M
 ·simp[e]
 ·simp[e]
theorem ash (a b:Option Addr) (ca cb:Nat) (l M:List Int) (w:World) (hv:aaK w a l) (hm:aaK w b M) (hn:l.length<=1000) (hn':M.length<=1000):
  Calls Tryz.prog 20 #[.slice a l.length ca,.slice b M.length cb] w fun e w'=>∃x,e=.returned x/\cX w' w.heap.size x (eK l M)/\Below w.heap.size w w':=by
 obtain⟨i0,cU,hz0,hz1,hz2⟩:=eT Tryz.infoInt;have HV:=hid hv;have IM:=hid (fun (k:Int) (V:World) (h:aaK V b M)=>RJ k b cb M V h (by omega));have HM:=hid hm;have HT:=hid (fun (i:Nat) (h:i<l.length)=>ast (M:=M) h);have zH:=hid (fun i=>show (eK (l.take i) M).length<=l.length from aS (pR _ _) (by rw[eZ];omega));have hall:eK (l.take l.length) M=eK l M:=by rw[fJ]
 have hnil:eK (l.take 0) M=[]:=by rw[List.take_zero];rfl
 rw[<- hall];clear hv hm hall;generalize hg:(fun i=>eK (l.take i) M)=F at *;have hF:∀i,eK (l.take i) M=F i:=fun i=>by rw[<- hg]
 simp only[hF] at HT zH hnil⊢;clear hg hF;go_enter Tryz.func20,Tryz.ntmps20;go_wp2_with fail
 go_loopw [5,6] (fun xv iv wr=>∃i:Nat,i<=l.length/\iv=.int .i64 i/\Hid (cX wr w.heap.size xv (F i))/\Hid (Below w.heap.size w wr)) (fun _ iv _=>l.length - (intOf iv).toNat)
 case atStart=>exact⟨0,aU _,rfl,by rw[hnil];exact⟨rfl,.inl ⟨rfl,rfl⟩⟩,au _ _⟩
 case round=>
  obtain⟨i,hi,rfl,HR,HB⟩:=hrel;by_cases hlt:i<l.length
  ·obtain⟨g,o,rfl,hg,c0⟩:=(HV.o.aa HB.o) i hlt;have hT:=HT.o i hlt;have hle:=zH.o i;generalize l[i]=u at *;go_wp2_with fail
   refine(IM.o u _ (HM.o.aa HB.o)).ae ?_;rintro e w1 ⟨rfl,rfl⟩;cases hin:ie u M with
   |true=>
    rw[hin,aaf rfl,Eg] at hT;have LI:=hid hT;clear hT hin;go_wp2;go_roundw
    case rel=>exact⟨i+1,by omega,by go_num,by rw[LI.o];exact HR,HB⟩
    case measure=>simp[intOf];omega
   |false=>
    rw[hin,aaO (by decide)] at hT;have LI:=hid hT;have xS:=hid HR.o.own;have ky:Hid (cX (w1.alloc (.cells #[.int .i64 u] 3)) w.heap.size _ (F i)):=I7 HR.o _;have dC:=hid (HB.o.alloc HB.o.size (.cells #[.int .i64 u] 3));have F2:=hid (ahK w1 u);clear hT hin;go_wp2_with (at_builtin;refine GF rfl _ _ rfl w.heap.size _ (F i) [u] rfl ky.o (some ⟨w1.heap.size,0,none⟩) 1 rfl F2.o (fun e=>by cases e) (by simp;omega) dC.o.size ?_;intro v' w2 hr2 hg2)
    have iT:=hid hr2;have bc:=hid (dC.o.grown hg2 dC.o.size xS.o);clear hr2 hg2;go_roundw
    case rel=>exact⟨i+1,by omega,by go_num,by rw[LI.o];exact iT,bc⟩
    case measure=>simp[intOf];omega
  ·obtain rfl:i=l.length:=by omega
   go_wp2;go_ret;exact⟨_,rfl,HR.o,HB.o⟩
theorem ar5 (n:Nat):Up [] n:=pV.2 ⟨fun x hx=>(by cases hx),List.Pairwise.nil⟩
theorem Up.wider {L:List Int} (h:Up L i) (CP:i<=j):Up L j:=pV.2 ⟨fun x hx=>by have:=(pV.1 h).1 x hx;omega,(pV.1 h).2⟩
theorem Up.snoc {L:List Int} (h:Up L i):Up (L++[(i:Int)]) (i+1):=by
 refine pV.2 ⟨fun x hx=>?_,?_⟩
 ·rcases aa5.1 hx with hx |hx
  ·have:=(pV.1 h).1 x hx;omega
  ·have:=fX.1 hx;omega
 ·rw[List.pairwise_append];refine⟨(pV.1 h).2,List.pairwise_singleton _ _,fun x hx y hy=>?_⟩;have:=(pV.1 h).1 x hx;have:=fX.1 hy;omega
theorem asf (a:Option Addr) (ca n:Nat) (l:List Int) (w:World) (hv:aaK w a l) (hr:∀x∈l, -9223372036854775808<=x/\x<=9223372036854775807) (hn:l.length<=140737488355328) (iy:1<=n) (hn':n<=1000):
  Calls Tryz.prog 18 #[.slice a l.length ca,.int .i64 (n:Nat)] w fun e w'=>∃x L,e=.returned x/\cX w' w.heap.size x L/\Up L n/\Below w.heap.size w w':=by
 obtain⟨i0,cU,hz0,hz1,hz2⟩:=eT Tryz.infoInt;have HV:=hid hv;have HRG:=hid hr;clear hv hr;go_enter Tryz.func18,Tryz.ntmps18;go_wp2_with fail
 go_loopw [5,6] (fun xv iv wr=>∃(i:Nat) (L:List Int),i<=n/\iv=.int .i64 i/\Hid (Up L i)/\Hid (cX wr w.heap.size xv L)/\Hid (Below w.heap.size w wr)) (fun _ iv _=>n - (intOf iv).toNat)
 case atStart=>exact⟨0,[],aU _,rfl,ar5 0,⟨rfl,.inl ⟨rfl,rfl⟩⟩,au _ _⟩
 case round=>
  obtain⟨i,L,hi,rfl,HU,HR,HB⟩:=hrel;by_cases hlt:i<n
  ·go_wp2_with fail
   have E7:Hid (cX wr w.heap.size u5 L):=HR;go_loopw [7,8] (fun bv jv wq=>∃(j:Nat) (b:Bool),j<=l.length/\jv=.int .i64 j/\bv=.bool b/\Hid (cX wq w.heap.size u5 L)/\Hid (Below w.heap.size w wq)) (fun _ jv _=>l.length - (intOf jv).toNat)
   case atStart=>exact⟨0,false,aU _,rfl,rfl,HR,HB⟩
   case round=>
    obtain⟨j,b,hj,rfl,rfl,x8,U7⟩:=hrel;clear HR HB E7;by_cases oH:j<l.length
    ·cases b with
     |true=>
      go_wp2;go_roundw
      case rel=>exact⟨j+1,true,by omega,by go_num,rfl,x8,U7⟩
      case measure=>simp[intOf];omega
     |false=>
      obtain⟨g,o,rfl,hg,c0⟩:=(HV.o.aa U7.o) j oH;have MM:=HRG.o l[j] (bH oH);generalize l[j]=z at *;go_wp2_with fail
      refine(apy z n _ MM.1 MM.2 (by omega) (by omega)).ae ?_;rintro e w1 ⟨rfl,hb1⟩;generalize SM z n=P at *;have ur:=hid (x8.o.aa hb1);have eR:=hid (U7.o.trans (hb1.ae U7.o.size));clear x8 U7 hb1 c0;go_wp2;go_roundw
      case rel=>exact⟨j+1,_,by omega,by go_num,rfl,ur,eR⟩
      case measure=>simp[intOf];omega
    ·obtain rfl:j=l.length:=by omega
     cases b with
     |false=>
      go_wp2;go_roundw
      case rel=>exact⟨i+1,L,by omega,by go_num,HU.o.wider (by omega),x8,U7⟩
      case measure=>simp[intOf];omega
     |true=>
      have hle:=HU.o.length;have xS:=hid x8.o.own;have ky:Hid (cX (wr.alloc (.cells #[.int .i64 (i:Nat)] 3)) w.heap.size _ L):=I7 x8.o _;have dC:=hid (U7.o.alloc U7.o.size (.cells #[.int .i64 (i:Nat)] 3));have F2:=hid (ahK wr (i:Nat));go_wp2_with (at_builtin;refine GF rfl _ _ rfl w.heap.size _ L [((i:Nat):Int)] rfl ky.o (some ⟨wr.heap.size,0,none⟩) 1 rfl F2.o (fun e=>by cases e) (by simp;omega) dC.o.size ?_;intro v' w3 hr3 hg3)
      have jH:=hid hr3;have dU:=hid (dC.o.grown hg3 dC.o.size xS.o);clear hr3 hg3;go_roundw
      case rel=>exact⟨i+1,_,by omega,by go_num,HU.o.snoc,jH,dU⟩
      case measure=>simp[intOf];omega
  ·obtain rfl:i=n:=by omega
   go_wp2;go_ret;exact⟨_,L,rfl,HR.o,HU.o,HB.o⟩
structure ada (n:Nat) (ord:Nat ->Nat) (nr:Nat ->Nat ->Nat ->Prop):Prop where
 all:∀v,v< n ->∃i,i<n/\ord i=v
 inj:∀i j,i< n ->j< n ->ord i=ord j ->i=j
 lt:∀u w,nr 0 u w ->u<n/\w<n
 self:∀u,¬nr 0 u u
 symm:∀u w,nr 0 u w ->nr 0 w u
 step:∀i,i< n ->∀u w,nr (i+1) u w↔u≠ord i/\w≠ord i/\u≠w/\(nr i u w∨nr i u (ord i)/\nr i (ord i) w)
variable {P:List (List Nat)} {s:List Nat}
theorem NW:∀ {l m:List Nat},l.Nodup ->(∀x∈l,x∈m) ->l.length<=m.length
 |[],_,_,_=>aU _
 |a::l,m,hn,hs=>by
  have ha:a∈m:=hs a (dJ ..);have h1:=pP.1 hn;have:=NW (l:=l) (m:=m.erase a) h1.2 (fun x hx=>(List.mem_erase_of_ne (fun e=>h1.1 (by rw[<- e];exact hx))).2 (hs x (eE _ hx)));rw[Xg ha] at this;have hp:=List.length_pos_of_mem ha;show l.length+1<=m.length;omega
def kE (P:List (List Nat)) (n i:Nat):Nat:=jU (flS P n i).nei (flS P n i).lft
theorem abZ:∀ {k x:Nat},x< k ->x∈s ->∃b m,jD f s k=some (b,m)
 |k+1,x,hx,hs=>by
  rw[jD];by_cases hk:k∈s
  ·rw[aaf hk];cases jD f s k with
   |none=>exact⟨_,_,rfl⟩
   |some p=>
    obtain⟨b,m⟩:=p;simp only;split
    ·exact⟨_,_,rfl⟩
    ·exact⟨_,_,rfl⟩
  ·rw[aaO hk];exact abZ (by rcases cD x k with h |h;exact h;exact absurd (by rw[show k=x by omega];exact hs) hk) hs
theorem akZ {x:Nat} (hx:x<8) (hs:x∈s):jU P s∈s:=by
 obtain⟨b,m,e⟩:=abZ (f:=p7 P) hx hs;rw[jU,e];exact O2 e
structure FI (P:List (List Nat)) (n k:Nat):Prop where
 left:∀x,x∈(flS P n k).lft↔x<n/\∀i,i< k ->kE P n i≠x
 inj:∀i j,i< k ->j< k ->kE P n i=kE P n j ->i=j
 lt:∀i,i< k ->kE P n i<n
 sym:∀u,u∈(flS P n k).lft ->∀w,w∈(flS P n k).nei.getD u [] ->w∈(flS P n k).lft/\u∈(flS P n k).nei.getD w []/\u≠w
theorem FI.here (h:FI P n k) (hk:k<n) (h8:n<=8):kE P n k∈(flS P n k).lft:=by
 have hne:∃x,x∈(flS P n k).lft:=by
  refine Gz fun hno=>?_
  have hall:∀x∈List.range n,x∈(List.range k).map (kE P n):=fun x hx=>by
   refine Gz fun hm=>hno ⟨x,(h.left x).2 ⟨bG.1 hx,fun i hi e=>hm (aaQ.2 ⟨i,bG.2 hi,e⟩)⟩⟩
  have:=NW pO hall;rw[lY,c5,lY] at this;omega
 obtain⟨x,hx⟩:=hne;exact akZ (by have:=((h.left x).1 hx).1;omega) hx
theorem aeq (hu:u<P.length):(rZ P v).getD u []=if u<8/\u∈P.getD v [] then yE P v u else P.getD u []:=by
 rw[b7,af (by rw[rZ,GM];exact hu)];simp[rZ,ic]
theorem FI.next (hN:sP n P) (h:FI P n k) (hk:k<n) (h8:n<=8) {w:Nat} (hu:u∈(flS P n k).lft) (_hne:u≠kE P n k):w∈(flS P n (k+1)).nei.getD u []↔w≠kE P n k/\u≠w/\(w∈(flS P n k).nei.getD u []∨kE P n k∈(flS P n k).nei.getD u []/\w∈(flS P n k).nei.getD (kE P n k) []):=by
 have hl:=(O6 hN k).1;have Oe:u<n:=((h.left u).1 hu).1;have hv:=h.here hk h8;show w∈(rZ (flS P n k).nei (kE P n k)).getD u []↔_;rw[aeq (by rw[hl.len];exact Oe)];by_cases hc:u∈(flS P n k).nei.getD (kE P n k) []
 ·rw[aaf ⟨by omega,hc⟩,Sx];have hs:=(h.sym _ hv u hc).2.1;exact⟨fun ⟨a,b,c⟩=>⟨c,fun e=>b e.symm,a.imp id fun a=>⟨hs,a⟩⟩,fun ⟨a,b,c⟩=>⟨c.imp id fun c=>c.2,fun e=>b e.symm,a⟩⟩
 ·rw[aaO fun e=>hc e.2];constructor
  ·intro hw;have hs:=h.sym u hu w hw;exact⟨fun e=>hc (by rw[<- e];exact hs.2.1),hs.2.2,.inl hw⟩
  ·rintro⟨_,_,c |c⟩
   ·exact c
   ·exact absurd (h.sym u hu _ c.1).2.1 hc
theorem FI.step (hN:sP n P) (h:FI P n k) (hk:k<n) (h8:n<=8):FI P n (k+1):=by
 have hv:=h.here hk h8
 have Tx:∀x,x∈(flS P n (k+1)).lft↔x∈(flS P n k).lft/\x≠kE P n k:=fun x=>by
  show x∈(flS P n k).lft.filter (fun u=>decide (u≠kE P n k))↔_;rw[abp,ei]
 have hnew:∀i,i< k ->kE P n i≠kE P n k:=((h.left _).1 hv).2;refine⟨fun x=>?_,fun i j hi hj e=>?_,fun i hi=>?_,fun u hu w hw=>?_⟩
 ·rw[Tx,h.left];constructor
  ·rintro⟨⟨a,b⟩,c⟩;refine⟨a,fun i hi e=>?_⟩;rcases cD i k with h' |h'
   ·exact b i h' e
   ·exact c (by rw[<- e,show i=k by omega])
  ·rintro⟨a,b⟩;exact⟨⟨a,fun i hi=>b i (by omega)⟩,fun e=>b k (by omega) e.symm⟩
 ·rcases cD i k with h1 |h1
  ·rcases cD j k with h2 |h2
   ·exact h.inj i j h1 h2 e
   ·exact absurd (by rw[e,show j=k by omega]) (hnew i h1)
  ·rcases cD j k with h2 |h2
   ·exact absurd (by rw[<- e,show i=k by omega]) (hnew j h2)
   ·omega
 ·rcases cD i k with h1 |h1
  ·exact h.lt i h1
  ·rw[show i=k by omega];exact((h.left _).1 hv).1
 ·rw[Tx] at hu;obtain⟨a,b,c⟩:=(h.next hN hk h8 hu.1 hu.2).1 hw
  have hwl:w∈(flS P n k).lft:=by
   rcases c with c |c
   ·exact(h.sym u hu.1 w c).1
   ·exact(h.sym _ hv w c.2).1
  refine⟨(Tx w).2 ⟨hwl,a⟩,(h.next hN hk h8 hwl a).2 ⟨hu.2,fun e=>b e.symm,?_⟩,b⟩;rcases c with c |c
  ·exact .inl (h.sym u hu.1 w c).2.1
  ·exact .inr ⟨(h.sym _ hv w c.2).2.1,(h.sym u hu.1 _ c.1).2.1⟩
theorem FI.all (hN:sP n P) (hs:∀u,u< n ->∀w,w∈P.getD u [] ->u∈P.getD w []) (h8:n<=8):∀k,k<=n ->FI P n k
 |0,_=>⟨fun x=>⟨fun h=>⟨Aj.1 h,fun i hi=>absurd hi (Cc _)⟩,fun h=>Aj.2 h.1⟩,fun i _ hi=>absurd hi (Cc _),fun i hi=>absurd hi (Cc _),fun u hu w hw=>by
  have J9:u<n:=Aj.1 hu;exact⟨Aj.2 (hN.at u w hw),hs u J9 w hw,fun e=>hN.self u (by rw[<- e] at hw;exact hw)⟩⟩
 |k+1,hk=>(FI.all hN hs h8 k (by omega)).step hN (by omega) h8
def Lj (P:List (List Nat)) (n i u w:Nat):Prop:=u∈(flS P n i).lft/\w∈(flS P n i).nei.getD u []
theorem akW (hN:sP n P) (hs:∀u,u< n ->∀w,w∈P.getD u [] ->u∈P.getD w []) (h8:n<=8):ada n (kE P n) (Lj P n):=by
 have hF:=FI.all hN hs h8;refine⟨fun v hv=>?_,fun i j hi hj e=>(hF n (ar _)).inj i j hi hj e,fun u w hw=>⟨Aj.1 hw.1,hN.at u w hw.2⟩,fun u hu=>hN.self u hu.2,fun u w hw=>⟨Aj.2 (hN.at u w hw.2),hs u (Aj.1 hw.1) w hw.2⟩,fun i hi u w=>?_⟩
 ·refine Gz fun hno=>?_
  have iZ:(v::(List.range n).map (kE P n)).Nodup:=by
   refine pP.2 ⟨fun hm=>?_,?_⟩
   ·obtain⟨i,hi,e⟩:=aaQ.1 hm;exact hno ⟨i,bG.1 hi,e⟩
   ·refine Gp.2 (pO.imp_of_mem fun {a b} ha hb hab e=>hab ((hF n (ar _)).inj a b (bG.1 ha) (bG.1 hb) e))
  have:=NW iZ (m:=List.range n) fun x hx=>by
   rcases dK.1 hx with rfl |hx
   ·exact bG.2 hv
   ·obtain⟨i,hi,e⟩:=aaQ.1 hx;rw[<- e];exact bG.2 ((hF n (ar _)).lt i (bG.1 hi))
  rw[eU,c5,lY] at this;omega
 ·have h:=hF i (by omega);have hv:=h.here hi h8
  have hl:u∈(flS P n (i+1)).lft↔u∈(flS P n i).lft/\u≠kE P n i:=by
   show u∈(flS P n i).lft.filter (fun u=>decide (u≠kE P n i))↔_;rw[abp,ei]
  constructor
  ·rintro⟨a,b⟩;obtain⟨a1,a2⟩:=hl.1 a;obtain⟨c1,c2,c3⟩:=(h.next hN hi h8 a1 a2).1 b;exact⟨a2,c1,c2,c3.imp (fun c=>⟨a1,c⟩) fun c=>⟨⟨a1,c.1⟩,⟨hv,c.2⟩⟩⟩
  ·rintro⟨a,b,c,d⟩;have a1:u∈(flS P n i).lft:=d.elim (fun d=>d.1) fun d=>d.1.1;exact⟨hl.2 ⟨a1,a⟩,(h.next hN hi h8 a1 a).2 ⟨b,c,d.imp (fun d=>d.2) fun d=>⟨d.1.2,d.2.2⟩⟩⟩
theorem ab4 (P:List (List Nat)) (n:Nat):∀k,(flS P n k).ord=(List.range k).map (kE P n)
 |0=>rfl
 |k+1=>by rw[rT,fY, <- ab4 P n k];rfl
theorem ahL (hg:gB L=true):tG L=true↔∀v u,v<L.length ->u<L.length ->(decide (u∈(aI L).getD v [])=decide (v∈(aI L).getD u [])):=by
 rw[tG,hg,Jj,ei,Hf];have hl:∀v,v<L.length ->v<(aI L).length:=fun v hv=>by rw[lp];exact hv
 have hlt:=JP hg
 have hat:∀v,v<L.length ->∀u,u∈(aI L).getD v [] ->u<L.length:=fun v hv u hu=>by
  rw[b7,af (hl v hv)] at hu;exact hlt _ (bH (hl v hv)) u hu
 have key:∀v,v<L.length ->((((aI L).map aA)[v]? =((lK (aI L) L.length L.length).map aA)[v]?)↔∀u,u<L.length ->(decide (u∈(aI L).getD v [])=decide (v∈(aI L).getD u []))):=fun v hv=>by
  have e1:((aI L).map aA)[v]? =some (aA ((aI L).getD v [])):=by rw[oh,b7,af (hl v hv)];rfl
  have e2:((lK (aI L) L.length L.length).map aA)[v]? =some (aA (nL (aI L) v L.length)):=by simp[lK,hv]
  rw[e1,e2];constructor
  ·intro e u hu;have e':=lV e;have h1:=rD ((aI L).getD v []) u;have h2:=rD (nL (aI L) v L.length) u;rw[<- h1,e',h2,zP,Lh];exact⟨fun h=>h.2,fun h=>⟨hu,h⟩⟩
  ·intro h;congr 1
   refine SB fun u=>?_;rw[Lh];constructor
   ·intro hu;have:=hat v hv u hu;exact⟨this,(zP.1 (h u this)).1 hu⟩
   ·exact fun hu=>(zP.1 (h u hu.1)).2 hu.2
 constructor
 ·intro e v u hv hu;exact(key v hv).1 (by rw[e]) u hu
 ·intro h;refine Gu fun v=>?_;rcases cD v L.length with hv |hv
  ·exact(key v hv).2 fun u hu=>h v u hv hu
  ·rw[iF (by rw[c5,lp];exact hv),iF (by rw[c5,acF];exact hv)]
variable {yb zb:Nat ->Bool} {Pa:Nat ->Nat ->Prop} {An X Y Z:Nat ->Prop}
def BZ (Pa:Nat ->Nat ->Prop) (u v:Nat):Prop:=∀M:Nat ->Prop,(∀v,Pa u v ->M v) ->(∀v w,M v ->Pa v w ->M w) ->M v
theorem BZ.one (h:Pa u v):BZ Pa u v:=fun _ h1 _=>h1 _ h
theorem BZ.more {w:Nat} (h:BZ Pa u v) (hp:Pa v w):BZ Pa u w:=fun M h1 h2=>h2 _ _ (h M h1 h2) hp
theorem BZ.ind {M:∀v,BZ Pa u v ->Prop} (one:∀ {v:Nat} (h:Pa u v),M v (.one h)) (more:∀ {v w:Nat} (h:BZ Pa u v) (hp:Pa v w),M v h ->M w (h.more hp)):∀ {v:Nat} (h:BZ Pa u v),M v h:=fun {_} h=>by
 obtain⟨_,k⟩:=h (fun v=>∃h,M v h) (fun _ hp=>⟨_,one hp⟩) (fun _ _ ⟨_,ih⟩ hp=>⟨_,more _ hp ih⟩);exact k
theorem BZ.last {w:Nat} (h:BZ Pa u w):Pa u w∨∃v,BZ Pa u v/\Pa v w:=by
 induction h using BZ.ind with
 |one hp=>exact .inl hp
 |more h hp _=>exact .inr ⟨_,h,hp⟩
def aqu (Pa:Nat ->Nat ->Prop) (u v:Nat):Prop:=Pa u v∨Pa v u
def Jf (Pa:Nat ->Nat ->Prop) (Z An:Nat ->Prop) (p u v:Nat):Prop:=(Pa p u ->Pa v u ->An u)/\(¬(Pa p u/\Pa v u) ->¬Z u)
structure JJ (Pa:Nat ->Nat ->Prop) (Z An:Nat ->Prop) (k:Nat) (f:Nat ->Nat):Prop where
 adj:∀t,t< k ->aqu Pa (f t) (f (t+1))
 ok:∀t,t+1< k ->Jf Pa Z An (f t) (f (t+1)) (f (t+2))
theorem JJ.down (h:JJ Pa Z An k f) (DV:∀v,¬BZ Pa v v) (aX:∀u v,Pa u v ->An v ->An u) (CP:i<j) (hj:j<=k) (he:f j=f i) (hd:Pa (f i) (f (i+1))):An (f i):=by
 have key:∀d t,t+d=j ->i< t ->BZ Pa (f i) (f t) ->Pa (f (t - 1)) (f t) ->An (f i):=fun d=>by
  induction d with
  |zero=>
   intro t ht _ ha _;rw[show t=j by omega,he] at ha;exact absurd ha (DV _)
  |succ d ih=>
   intro t ht hit ha hp;have aM:=h.ok (t - 1) (by omega);rw[show t - 1+1=t by omega,show t - 1+2=t+1 by omega] at aM;rcases h.adj t (by omega) with hn |hn
   ·exact ih (t+1) (by omega) (by omega) (.more ha hn) (by rw[show t+1 - 1=t by omega];exact hn)
   ·have hat:=aM.1 hp hn
    have:∀u v,BZ Pa u v ->An v ->An u:=fun u v huv=>by
     induction huv using BZ.ind with
     |one h=>exact aX _ _ h
     |more _ h ih=>exact fun hv=>ih (aX _ _ h hv)
    exact this _ _ ha hat
 exact key (j - (i+1)) (i+1) (by omega) (by omega) (.one hd) (by rw[show i+1 - 1=i by omega];exact hd)
def apa (f:Nat ->Nat) (i j t:Nat):Nat:=if t<=i then f t else f (t+(j - i))
theorem JJ.cut (h:JJ Pa Z An k f) (DV:∀v,¬BZ Pa v v) (aX:∀u v,Pa u v ->An v ->An u) (CP:i<j) (hj:j<=k) (he:f j=f i):JJ Pa Z An (k - (j - i)) (apa f i j):=by
 have Tv:∀t,t<=i ->apa f i j t=f t:=fun t ht=>aaf ht
 have ajv:∀t,i<=t ->apa f i j t=f (t+(j - i)):=fun t ht=>by
  rcases cD i t with h1 |h1
  ·exact aaO (by omega)
  ·rw[Tv t h1,show t=i by omega,show i+(j - i)=j by omega,he]
 have aoI:∀u v,Pa u v ->¬Pa v u:=fun u v h1 h2=>DV u (.more (.one h1) h2);refine⟨fun t ht=>?_,fun t ht=>?_⟩
 ·rcases cD t i with h1 |h1
  ·rw[Tv t (by omega),Tv (t+1) (by omega)];exact h.adj t (by omega)
  ·rw[ajv t h1,ajv (t+1) (by omega),show t+1+(j - i)=t+(j - i)+1 by omega];exact h.adj _ (by omega)
 ·rcases cD (t+1) i with h1 |h1
  ·rw[Tv t (by omega),Tv (t+1) (by omega),Tv (t+2) (by omega)];exact h.ok t (by omega)
  ·rcases cD i (t+1) with h2 |h2
   ·rw[ajv t (by omega),ajv (t+1) (by omega),ajv (t+2) (by omega),show t+1+(j - i)=t+(j - i)+1 by omega,show t+2+(j - i)=t+(j - i)+2 by omega];exact h.ok _ (by omega)
   ·
    (obtain rfl:i=t+1:=by omega);rw[Tv t (by omega),Tv (t+1) (ar _),ajv (t+2) (by omega)];rw[show t+2+(j - (t+1))=j+1 by omega];have hf:=h.ok t (by omega);have hl:=h.ok (j - 1) (by omega);rw[show j - 1+1=j by omega,show j - 1+2=j+1 by omega,he] at hl;refine⟨fun hp hq=>?_,fun hn hz=>?_⟩
    ·rcases h.adj (t+1) (by omega) with hd |hd
     ·exact h.down DV aX CP hj he hd
     ·exact hf.1 hp hd
    ·by_cases hp:Pa (f t) (f (t+1))
     ·have hq:¬Pa (f (j+1)) (f (t+1)):=fun hq=>hn ⟨hp,hq⟩;exact hl.2 (fun h=>hq h.2) hz
     ·exact hf.2 (fun h=>hp h.1) hz
theorem JJ.plain (DV:∀v,¬BZ Pa v v) (aX:∀u v,Pa u v ->An v ->An u):∀m k f,k<=m ->JJ Pa Z An k f ->X (f 0) ->Y (f k) ->∃k' f',JJ Pa Z An k' f'/\X (f' 0)/\Y (f' k')/\(∀i j,i<=k' ->j<=k' ->f' i=f' j ->i=j)/\∀i,i<k' ->¬Y (f' i):=fun m=>by
 induction m with
 |zero=>
  intro k f hk h hx hy;obtain rfl:k=0:=by omega
  exact⟨0,f,h,hx,hy,fun i j hi hj _=>by omega,fun i hi=>absurd hi (Cc _)⟩
 |succ m ih=>
  intro k f hk h hx hy;by_cases h1:∃i,i<k/\Y (f i)
  ·obtain⟨i,hi,Gk⟩:=h1;exact ih i f (by omega) ⟨fun t ht=>h.adj t (by omega),fun t ht=>h.ok t (by omega)⟩ hx Gk
  ·by_cases h2:∃i j,i<j/\j<=k/\f j=f i
   ·obtain⟨i,j,CP,hj,he⟩:=h2;refine ih (k - (j - i)) (apa f i j) (by omega) (h.cut DV aX CP hj he) ?_ ?_
    ·rw[apa,aaf (aU _)];exact hx
    ·rw[apa];by_cases hc:k - (j - i)<=i
     ·rw[aaf hc];(have:j=k:=by omega);rw[show k - (j - i)=i by omega, <- he,this];exact hy
     ·rw[aaO hc,show k - (j - i)+(j - i)=k by omega];exact hy
   ·refine⟨k,f,h,hx,hy,fun i j hi hj e=>?_,fun i hi Gk=>h1 ⟨i,hi,Gk⟩⟩;rcases QG i j with h3 |h3 |h3
    ·exact absurd ⟨i,j,h3,hj,e.symm⟩ h2
    ·exact h3
    ·exact absurd ⟨j,i,h3,hi,e⟩ h2
def ed (Pa:Nat ->Nat ->Prop) (X Z An:Nat ->Prop) (v:Nat) (c:Bool):Prop:=∀M:Nat ->Bool ->Prop,(∀x,X x ->M x true) ->(∀v p,M v true ->¬Z v ->Pa p v ->M p true) ->(∀v w c,M v c ->¬Z v ->Pa v w ->M w false) ->(∀v p,M v false ->An v ->Pa p v ->M p true) ->M v c
theorem ed.start {x:Nat} (h:X x):ed Pa X Z An x true:=fun _ h1 _ _ _=>h1 _ h
theorem ed.up {p:Nat} (h:ed Pa X Z An v true) (hz:¬Z v) (hp:Pa p v):ed Pa X Z An p true:=fun M h1 h2 h3 h4=>h2 _ _ (h M h1 h2 h3 h4) hz hp
theorem ed.down {w:Nat} {c:Bool} (h:ed Pa X Z An v c) (hz:¬Z v) (hp:Pa v w):ed Pa X Z An w false:=fun M h1 h2 h3 h4=>h3 _ _ _ (h M h1 h2 h3 h4) hz hp
theorem ed.meet {p:Nat} (h:ed Pa X Z An v false) (ha:An v) (hp:Pa p v):ed Pa X Z An p true:=fun M h1 h2 h3 h4=>h4 _ _ (h M h1 h2 h3 h4) ha hp
theorem ed.ind {M:∀v c,ed Pa X Z An v c ->Prop} (start:∀ {x:Nat} (h:X x),M x true (.start h)) (up:∀ {v p:Nat} (h:ed Pa X Z An v true) (hz:¬Z v) (hp:Pa p v),M v true h ->M p true (h.up hz hp)) (down:∀ {v w:Nat} {c:Bool} (h:ed Pa X Z An v c) (hz:¬Z v) (hp:Pa v w),M v c h ->M w false (h.down hz hp)) (meet:∀ {v p:Nat} (h:ed Pa X Z An v false) (ha:An v) (hp:Pa p v),M v false h ->M p true (h.meet ha hp)):∀ {v:Nat} {c:Bool} (h:ed Pa X Z An v c),M v c h:=fun {_ _} h=>by
 obtain⟨_,k⟩:=h (fun v c=>∃h,M v c h) (fun _ h=>⟨_,start h⟩) (fun _ _ ⟨_,ih⟩ hz hp=>⟨_,up _ hz hp ih⟩) (fun _ _ _ ⟨_,ih⟩ hz hp=>⟨_,down _ hz hp ih⟩) (fun _ _ ⟨_,ih⟩ ha hp=>⟨_,meet _ ha hp ih⟩);exact k
theorem JJ.snoc (h:JJ Pa Z An k f) (v:Nat) (ha:aqu Pa (f k) v) (ho:0< k ->Jf Pa Z An (f (k - 1)) (f k) v):JJ Pa Z An (k+1) (fun t=>if t<=k then f t else v):=by
 have hl:∀t,t<=k ->(if t<=k then f t else v)=f t:=fun t ht=>aaf ht;refine⟨fun t ht=>?_,fun t ht=>?_⟩
 ·show aqu Pa (if t<=k then f t else v) (if t+1<=k then f (t+1) else v);rw[hl t (by omega)];rcases cD t k with h1 |h1
  ·rw[hl (t+1) (by omega)];exact h.adj t h1
  ·rw[aaO (by omega),show t=k by omega];exact ha
 ·show Jf Pa Z An (if t<=k then f t else v) (if t+1<=k then f (t+1) else v) (if t+2<=k then f (t+2) else v);rw[hl t (by omega),hl (t+1) (by omega)];rcases cD (t+1) k with h1 |h1
  ·rw[hl (t+2) (by omega)];exact h.ok t h1
  ·rw[aaO (by omega)];have:=ho (by omega);rw[show k - 1=t by omega,show k=t+1 by omega] at this;exact this
theorem ed.way (DV:∀v,¬BZ Pa v v) {c:Bool} (h:ed Pa X Z An v c):∃k f,JJ Pa Z An k f/\X (f 0)/\f k=v/\(c=true ->k=0∨Pa v (f (k - 1)))/\(c=false ->0<k/\Pa (f (k - 1)) v):=by
 have aoI:∀u v,Pa u v ->¬Pa v u:=fun u v h1 h2=>DV u (.more (.one h1) h2);induction h using ed.ind with
 | @start x hx=>exact⟨0,fun _=>x,⟨fun t ht=>absurd ht (Cc _),fun t ht=>absurd ht (Cc _)⟩,hx,rfl,fun _=>.inl rfl,fun e=>by cases e⟩
 | @up v p _ hz hp ih=>
  obtain⟨k,f,h1,h2,h3,h4,_⟩:=ih;refine⟨k+1,_,h1.snoc p (.inr (by rw[h3];exact hp)) (fun hk=>?_),?_,?_,fun _=>.inr ?_,fun e=>by cases e⟩
  ·have hc:=(h4 rfl).resolve_left (by omega);rw[h3];exact⟨fun h5 _=>absurd h5 (aoI _ _ hc),fun _=>hz⟩
  ·show X (if 0<=k then f 0 else p);rw[aaf (aU _)];exact h2
  ·show (if k+1<=k then f (k+1) else p)=p;rw[aaO (by omega)]
  ·show Pa p (if k+1 - 1<=k then f (k+1 - 1) else p);rw[aaf (by omega),show k+1 - 1=k by omega,h3];exact hp
 | @down v w c _ hz hp ih=>
  obtain⟨k,f,h1,h2,h3,h4,h5⟩:=ih;refine⟨k+1,_,h1.snoc w (.inl (by rw[h3];exact hp)) (fun hk=>?_),?_,?_,(fun e=>by cases e),fun _=>⟨by omega,?_⟩⟩
  ·rw[h3];exact⟨fun _ h6=>absurd h6 (aoI _ _ hp),fun _=>hz⟩
  ·show X (if 0<=k then f 0 else w);rw[aaf (aU _)];exact h2
  ·show (if k+1<=k then f (k+1) else w)=w;rw[aaO (by omega)]
  ·show Pa (if k+1 - 1<=k then f (k+1 - 1) else w) w;rw[aaf (by omega),show k+1 - 1=k by omega,h3];exact hp
 | @meet v p _ hm hp ih=>
  obtain⟨k,f,h1,h2,h3,_,h5⟩:=ih;refine⟨k+1,_,h1.snoc p (.inr (by rw[h3];exact hp)) (fun hk=>?_),?_,?_,fun _=>.inr ?_,fun e=>by cases e⟩
  ·rw[h3];exact⟨fun _ _=>hm,fun hn=>absurd ⟨(h5 rfl).2,hp⟩ hn⟩
  ·show X (if 0<=k then f 0 else p);rw[aaf (aU _)];exact h2
  ·show (if k+1<=k then f (k+1) else p)=p;rw[aaO (by omega)]
  ·show Pa p (if k+1 - 1<=k then f (k+1 - 1) else p);rw[aaf (by omega),show k+1 - 1=k by omega,h3];exact hp
def JI (P:List (List Nat)) (u v:Nat):Bool:=decide (u∈P.getD v [])
def vM (P:List (List Nat)) (zb an:Nat ->Bool) (u:Nat) (r:List Nat) (v:Nat):Bool:=match r with
 |[]=>true
 |p::_=>if (JI P p u&&JI P v u)=true then an u else !zb u
def mh (P:List (List Nat)) (n:Nat) (yb zb an:Nat ->Bool):Nat ->List Nat ->Bool
 |0,_=>false
 |_+1,[]=>false
 |f+1,u::r=>yb u ||(List.range n).any fun v=>!decide (v∈u::r)&&((JI P v u ||JI P u v)&&(vM P zb an u r v&&mh P n yb zb an f (v::u::r)))
theorem aqX {an:Nat ->Bool} (tF:∀v,X v ->zb v=false) (DV:∀v,¬BZ (fun u v=>u∈P.getD v []) v v):∀f u r,mh P n yb zb an f (u::r)=true ->(∃c,ed (fun u v=>u∈P.getD v []) X (fun v=>zb v=true) (fun v=>an v=true) u c/\(c=true ->(r=[]/\X u)∨∃p l,r=p::l/\u∈P.getD p [])/\(c=false ->∃p l,r=p::l/\p∈P.getD u [])) ->∃y c,yb y=true/\ed (fun u v=>u∈P.getD v []) X (fun v=>zb v=true) (fun v=>an v=true) y c
 |0,u,r,h,_=>by cases h
 |f+1,u,r,h,⟨c,hr,h1,h2⟩=>by
  have aoI:∀u v:Nat,u∈P.getD v [] ->¬v∈P.getD u []:=fun u v a b=>DV u (.more (.one a) b);rw[mh,ao8] at h;rcases h with h |h
  ·exact⟨u,c,h,hr⟩
  ·obtain⟨v,_,hv⟩:=rX.1 h;rw[ia,ia,ia,ao8] at hv;obtain⟨_,ha,hp,ho⟩:=hv;refine aqX tF DV f v (u::r) ho ?_;by_cases hd:u∈P.getD v []
   ·have hz:¬zb u=true:=fun hz=>by
     cases c with
     |true=>
      rcases h1 rfl with ⟨rfl,hx⟩ |⟨p,l,rfl,hc⟩
      ·rw[tF u hx] at hz;cases hz
      ·rw[vM,aaO (by rw[JI,abg (aoI _ _ hc),Bool.false_and];decide),hz] at hp;cases hp
     |false=>
      obtain⟨p,l,rfl,hc⟩:=h2 rfl;rw[vM,aaO (by rw[JI,JI,abg (aoI _ _ hd),Bool.and_false];decide),hz] at hp;cases hp
    exact⟨false,.down hr hz hd,(fun e=>by cases e),fun _=>⟨u,r,rfl,hd⟩⟩
   ·have aX:v∈P.getD u []:=ha.elim (fun a=>rS a) fun a=>absurd (rS a) hd;refine⟨true,?_,fun _=>.inr ⟨u,r,rfl,aX⟩,fun e=>by cases e⟩;cases c with
    |true=>
     refine .up hr (fun hz=>?_) aX;rcases h1 rfl with ⟨rfl,hx⟩ |⟨p,l,rfl,hc⟩
     ·rw[tF u hx] at hz;cases hz
     ·rw[vM,aaO (by rw[JI,abg (aoI _ _ hc),Bool.false_and];decide),hz] at hp;cases hp
    |false=>
     obtain⟨p,l,rfl,hc⟩:=h2 rfl;rw[vM,aaf (by rw[JI,JI,cJ hc,cJ aX];rfl)] at hp;exact .meet hr hp aX
def lU (f:Nat ->Nat):Nat ->List Nat
 |0=>[f 0]
 |t+1=>f (t+1)::lU f t
theorem aqy:∀ {t:Nat},v∈lU f t ->∃i,i<=t/\v=f i
 |0,h=>⟨0,ar _,fX.1 h⟩
 |t+1,h=>by
  rcases dK.1 h with e |h
  ·exact⟨t+1,ar _,e⟩
  ·obtain⟨i,hi,e⟩:=aqy h;exact⟨i,by omega,e⟩
theorem aqz (f:Nat ->Nat) (t:Nat):∃l,lU f t=f t::l/\(t=0 ->l=[])/\(0< t ->∃l',l=f (t - 1)::l'):=by
 cases t with
 |zero=>exact⟨[],rfl,fun _=>rfl,fun h=>absurd h (Nat.lt_irrefl _)⟩
 |succ t=>
  refine⟨lU f t,rfl,(fun e=>by omega),fun _=>?_⟩;cases t with
  |zero=>exact⟨[],rfl⟩
  |succ t=>exact⟨lU f t,rfl⟩
theorem aqW {an:Nat ->Bool} (h:JJ (fun u v=>u∈P.getD v []) (fun v=>zb v=true) (fun v=>an v=true) k f) (hy:yb (f k)=true) (hi:∀i j,i<=k ->j<=k ->f i=f j ->i=j) (hlt:∀i,i<=k ->f i<n) (e:Nat):∀d,d<=k ->mh P n yb zb an (d+1+e) (lU f (k - d))=true
 |0,_=>by
  obtain⟨l,hl,_⟩:=aqz f k;rw[Nat.sub_zero,hl,show 0+1+e=e+1 by omega,mh,hy,Bool.true_or]
 |d+1,hd=>by
  have ih:=aqW h hy hi hlt e d (by omega);obtain⟨l,hl,l0,l1⟩:=aqz f (k - (d+1));obtain⟨t,ht⟩:∃t,t=k - (d+1):=⟨_,rfl⟩;rw[<- ht] at hl l0 l1⊢;have lA:k - d=t+1:=by omega
  rw[lA] at ih;rw[hl,show d+1+1+e=(d+1+e)+1 by omega,mh,ao8];refine .inr (rX.2 ⟨f (t+1),bG.2 (hlt _ (by omega)),?_⟩);have hwl:lU f (t+1)=f (t+1)::f t::l:=by rw[lU,hl]
  rw[hwl] at ih
  have ajn:¬f (t+1)∈f t::l:=fun hm=>by
   rw[<- hl] at hm;obtain⟨i,h1,h2⟩:=aqy hm;have:=hi (t+1) i (by omega) (by omega) h2;omega
  have as0:=h.adj t (by omega);rw[abg ajn,ih,Bool.not_false,Jj,Bool.and_true,ia,ao8];refine⟨as0.elim (fun a=>.inr (cJ a)) fun a=>.inl (cJ a),?_⟩;rcases zY t with h0 |h0
  ·rw[l0 h0];rfl
  ·obtain⟨l',rfl⟩:=l1 h0;have aM:=h.ok (t - 1) (by omega);rw[show t - 1+1=t by omega,show t - 1+2=t+1 by omega] at aM;rw[vM];by_cases hc:(JI P (f (t - 1)) (f t)&&JI P (f (t+1)) (f t))=true
   ·rw[aaf hc];rw[ia] at hc;exact aM.1 (rS hc.1) (rS hc.2)
   ·rw[aaO hc];have:=aM.2 fun hb=>hc (by rw[JI,JI,cJ hb.1,cJ hb.2];rfl);cases hz:zb (f t)
    ·rfl
    ·exact absurd hz this
theorem asG (hi:∀i j,i<=k ->j<=k ->f i=f j ->i=j) (hlt:∀i,i<=k ->f i<n):k+1<=n:=by
 have iZ:((List.range (k+1)).map f).Nodup:=Gp.2 (pO.imp_of_mem fun {a b} ha hb hab e=>hab (hi a b (by have:=bG.1 ha;omega) (by have:=bG.1 hb;omega) e))
 have:=NW iZ (m:=List.range n) fun x hx=>by
  obtain⟨i,h1,rfl⟩:=aaQ.1 hx;exact bG.2 (hlt i (by have:=bG.1 h1;omega))
 simpa using this
theorem aso {an:Nat ->Bool} (tF:∀v,X v ->zb v=false) (DV:∀v,¬BZ (fun u v=>u∈P.getD v []) v v) (aX:∀u v,u∈P.getD v [] ->an v=true ->an u=true) (hP:∀v,∀u∈P.getD v [],u<n/\v<n) (hX:∀v,X v ->v<n):(∃x,X x/\mh P n yb zb an n [x]=true)↔∃y c,yb y=true/\ed (fun u v=>u∈P.getD v []) X (fun v=>zb v=true) (fun v=>an v=true) y c:=by
 constructor
 ·rintro⟨x,hx,ho⟩;exact aqX tF DV n x [] ho ⟨true,.start hx,fun _=>.inl ⟨rfl,hx⟩,fun e=>by cases e⟩
 ·rintro⟨y,c,hy,hr⟩;obtain⟨k,f,h1,h2,h3,_⟩:=hr.way DV;obtain⟨k',f',g1,g2,g3,g4,_⟩:=JJ.plain (X:=X) (Y:=fun v=>yb v=true) DV aX k k f (ar _) h1 h2 (by rw[h3];exact hy)
  have hlt:∀i,i<=k' ->f' i<n:=fun i hi=>by
   rcases zY i with h0 |h0
   ·rw[h0];exact hX _ g2
   ·have:=g1.adj (i - 1) (by omega);rw[show i - 1+1=i by omega] at this;exact this.elim (fun a=>(hP _ _ a).2) fun a=>(hP _ _ a).1
  have hkn:=asG g4 hlt;have:=aqW g1 g3 g4 hlt (n - (k'+1)) k' (ar _);rw[qE,show k'+1+(n - (k'+1))=n by omega] at this;exact⟨f' 0,g2,this⟩
section
attribute [local go_sem] Oper.semAt_some
variable {c lo:Nat}
def oP (P:List (List Nat)) (t:List Nat) (k:Nat):List Nat:=t++(fM t k).flatMap fun v=>P.getD v []
theorem amX (P:List (List Nat)) (t:List Nat):oP P t 0=t:=by simp[oP,fM]
theorem amY {t:List Nat} (h:k∈t):oP P t (k+1)=oP P t k++P.getD k []:=by rw[oP,SH h,List.flatMap_append, <- rW,oP];simp
theorem amZ {t:List Nat} (h:¬k∈t):oP P t (k+1)=oP P t k:=by rw[oP,N3 h,oP]
def gV (P:List (List Nat)) (s:List Nat):Nat ->List Nat
 |0=>s
 |r+1=>oP P (gV P s r) 8
theorem ac5 {t:List Nat} (hP:∀v,∀u∈P.getD v [],u<n) (ht:∀u∈t,u<n) (k:Nat):∀u∈oP P t k,u<n:=fun u hu=>by
 rcases aa5.1 hu with h |h
 ·exact ht u h
 ·obtain⟨v,_,h2⟩:=List.mem_flatMap.1 h;exact hP v u h2
theorem Lp (hP:∀v,∀u∈P.getD v [],u<n) (hs:∀u∈s,u<n):∀r,∀u∈gV P s r,u<n
 |0=>hs
 |r+1=>ac5 hP (Lp hP hs r) 8
def vY (w:World) (G n c m:Nat) (W:World):Prop:=Boxed W w.heap.size 109 (.slice (some ⟨G,0,none⟩) n c)/\Boxed W (w.heap.size+1) 115 (.int .u32 (m:Nat))/\Below w.heap.size w W
theorem vY.shut {G:Nat} (hlo:w.heap.size+1<lo) (W:World) (r:Nat) (h:vY w G n c m W) (hr:lo<=r) (hd:W.heap[r]? =some (.deferred (some []))):vY w G n c m (W.putObj r (.deferred none)):=
 ⟨(yh (by omega)).trans h.1,(yh (by omega)).trans h.2.1,h.2.2.trans (tA (w:=w) (ar _) W r _ _ (by omega) hd rfl rfl)⟩
theorem vY.own {β:Type} {G B:Nat} (f:β ->Nat) (hB:w.heap.size<=B):OwnFrom B (fun (s:β) W=>vY w G n c (f s) W):=
 eI (fG (iC _ _ (fun _=>_)) _) (eI (fG (iC _ _ (fun s:β=>.int .u32 (f s:Nat))) _) (yg (ar _) hB))
theorem amU (G n c:Nat) (P:List (List Nat)) (s:List Nat) (w:World) (hn:P.length=n) (h8:n<=8) (hU:cI w G (P.map aA)) (hP:∀p∈P,∀u∈p,u<n) (hs:∀u∈s,u<n):
  Calls Tryz.prog 127 #[.slice (some ⟨G,0,none⟩) n c,.int .u32 (aA s:Nat)] w fun e w'=>e=.returned (.int .u32 (aA (gV P s n):Nat))/\Below w.heap.size w w':=by
 refine(gZ (n:=6)).1 ?_;have hG:=hU.lt
 have tW:∀v,∀u∈P.getD v [],u<n:=fun v u hu=>by
  by_cases hv:v<P.length
  ·rw[b7,af hv] at hu;exact hP _ (bH hv) u hu
  ·rw[b7,iF (by omega)] at hu;simp at hu
 have uD:Hid (∀(V:World) (v:Nat),Below w.heap.size w V ->v< n ->V.cell? ⟨G,v,none⟩=some (.int .u32 (aA (P.getD v []):Nat))):=fun V v hB hv=>by
  have:=(hU.aa hB hG).cell v (by rw[c5];omega);rwa [Ey (by omega)] at this
 have Qc:=hid (fun r=>Lp tW hs r);have LZ:=hid (fun (r k:Nat)=>Vh (oP P (gV P s r) k) (P.getD k []) (fun u hu=>by have:=ac5 tW (Lp tW hs r) k u hu;omega) (fun u hu=>by have:=tW k u hu;omega));have HY:=hid (fun (r k:Nat) (h:k∈gV P s r)=>amY (P:=P) h);have HN:=hid (fun (r k:Nat) (h:¬k∈gV P s r)=>amZ (P:=P) h);have HZ:=hid (fun (r:Nat)=>amX P (gV P s r));have kR:Hid (∀r,oP P (gV P s r) 8=gV P s (r+1)):=fun r=>rfl;have h0:gV P s 0=s:=rfl;clear hU hP tW hs;refine tz Tryz.func127 rfl trivial ?_ rfl;simp only[Tryz.ntmps127,mP,eU,lg,Nat.reduceAdd,Nat.reduceSub,mV,mU,mQ,lZ,iD,fg];obtain⟨W2,hW2⟩:∃W2,W2=(w.alloc (.cells #[.slice (some ⟨G,0,none⟩) n c] 109)).alloc (.cells #[.int .u32 (aA s:Nat)] 115):=⟨_,rfl⟩
 have hL2:vY w G n c (aA (gV P s 0)) W2:=by
  rw[hW2,h0];refine⟨(a7 w _ _).alloc _,?_,((au _ w).alloc (ar _) _).alloc (by simp) _⟩;have h:=a7 (w.alloc (.cells #[.slice (some ⟨G,0,none⟩) n c] 109)) 115 (.int .u32 (aA s:Nat));rwa [cN] at h
 have k0:=hL2.1.cell;rw[hW2] at k0;gi_wp2
 rw[<- hW2];have hs2:W2.heap.size=w.heap.size+2:=by rw[hW2];simp
 have rh:=hid hL2;clear hW2 hL2 k0 h0;generalize hab:gV P s=ab at *;have BW:=hid hab;clear hab;generalize aA s=Lx at *;refine wpIn_loop (fun a' w'=>∃(r:Nat) (ds:List Deferred) (u9 u10 u11 GH:Value),a'= {tmps:= #[.slice (some ⟨G,0,none⟩) n c,.int .u32 (Lx:Nat),.pointer (some ⟨w.heap.size,0,none⟩),.pointer (some ⟨w.heap.size+1,0,none⟩),.int .u32 0,undef,.slice (some ⟨G,0,none⟩) n c,.int .i64 (n:Nat),.int .i64 (r:Nat),u9,u10,u11,undef,undef,undef,undef,undef,undef,undef,GH,undef],defers:=ds}/\r<=n/\Hid (vY w G n c (aA (ab r)) w')/\Hid (Shut (w.heap.size+2) w'.heap.size ds w')) (fun a' _=>n - (intOf (a'.tmps.getD 8 undef)).toNat) ?_ ?_
 ·exact⟨0,[],_,_,_,_,rfl,aU _,rh,trivial⟩
 intro a' wr hinv;obtain⟨r,ds,u9,u10,u11,GH,rfl,hr,mH,nT⟩:=hinv;clear rh;by_cases hlt:r<n
 ·have ht:=Qc.o r;have LC:=hid (HY.o r);have IE:=hid (HN.o r);have HOr:=hid (LZ.o r);have hZr:=HZ.o r;have hSr:=kR.o r;have cZ:w.heap.size+1<wr.heap.size:=mH.o.2.1.lt;have ks:=mH.o.2.1.cell;have Ka:∀u∈ab r,u<8:=fun u hu=>by have:=ht u hu;omega
  generalize ab r=t at *;gi_wp2
  clear ks;have hL3:=mH.o;rw[<- hZr] at hL3
  refine Ei (by omega) t Ka rfl rfl
   (fun k V=>vY w G n c (aA (oP P t k)) V/\(wr.heap.size<=V.heap.size/\Shut (w.heap.size+2) wr.heap.size ds V))
   (eI (vY.own (fun k:Nat=>aA (oP P t k)) (by omega)) Rv)
   ⟨hL3,ar _,nT.o⟩
   (fun k=> {tmps:= #[.slice (some ⟨G,0,none⟩) n c,.int .u32 (Lx:Nat),.pointer (some ⟨w.heap.size,0,none⟩),.pointer (some ⟨w.heap.size+1,0,none⟩),.int .u32 0,.int .i64 (k:Nat),.slice (some ⟨G,0,none⟩) n c,.int .i64 (n:Nat),.int .i64 (r:Nat),.bool true,.int .u32 (aA t:Nat),.func (.func 144) #[.int .u32 (aA t:Nat)] #[],.int .i64 (k:Nat),undef,undef,undef,undef,undef,undef,GH,undef],defers:=[]}) ?assign ?body ?skip ?done
  case assign=>
   intro l k W K hK;gi_wp2
   exact hK
  case body=>
   rintro l k V hk hm ⟨h0,wM,p8⟩;have hkn:=ht k hm;have k0:=h0.1.cell;have kG:=uD.o V k h0.2.2 hkn;have P7:=HOr.o k;have Bq:=hid (LC.o k hm);have ks:=h0.2.1.cell;have fs:=h0.2.1.frozen;generalize hm1:aA (oP P t k++P.getD k [])=m1 at *;have zG:=hid hm1;clear hm1;generalize aA (oP P t k)=m0 at *;generalize aA (P.getD k [])=mu at *;generalize aA t=mt at *;gi_wp2_with fail
   refine uL (fun u=>u.cell? ⟨w.heap.size,0,none⟩=some (.slice (some ⟨G,0,none⟩) n c)/\u.cell? ⟨G,k,none⟩=some (.int .u32 (mu:Nat))) (by kernel_rfl) (by kernel_rfl) (fun ⟨_,_,h⟩=>h) ⟨k0,kG⟩ ?_;intro aq;have hD:KeepsOthers V V.drew:=wk V;have q0:vY w G n c m0 V.drew:=⟨h0.1,h0.2.1,h0.2.2.drew⟩;have qS:Shut (w.heap.size+2) wr.heap.size ds V.drew:=p8.keep fun _ _=>rfl;have qz:wr.heap.size<=V.drew.heap.size:=wM;have ks2:V.drew.cell? ⟨w.heap.size+1,0,none⟩=some (.int .u32 (m0:Nat)):=ks;have fs2:V.drew.frozen? ⟨w.heap.size+1,0,none⟩=false:=fs;clear k0 kG ks fs h0 p8 wM hL3;generalize V.drew=U0 at *;refine aw 1 (.slice (some ⟨G,0,none⟩) n c) ?_;refine aw 2 (.int .i64 (k:Nat)) ?_;refine aw 3 (.pointer (some ⟨G,k,none⟩)) ?_;refine aw 4 (.int .u32 (mu:Nat)) ?_;refine aF [0] (cA ?_ aD);intro K' hK';go_simp;refine hK'.o _ _ aq (fun ak=>?_);clear hK' K' ak;refine aw 5 (.int .u32 (m1:Nat)) ?_;refine aF [6] (cA ?_ aD);intro K' hK';go_simp;refine hK'.o _ _ ⟨(jE q0.1 (w.heap.size+1) 0 _ (by omega)).cell,(bX _ _ _ _ (fun e=>(show ¬w.heap.size+1=G by omega) (bR Addr.block e))).trans aq.2⟩ (fun _=>dW (by kernel_rfl) ?_ _);clear hK' K' aq;gi_wp2
   exact⟨(hD.trans (iG U0 _ _)).from _,⟨jE q0.1 (w.heap.size+1) 0 _ (by omega),by rw[Bq.o,zG.o];exact q0.2.1.set _,q0.2.2.setCell (p:=⟨w.heap.size+1,0,none⟩) (by simp) _⟩,by simpa using qz,qS.putAt (by omega) _⟩
  case skip=>
   rintro k V hk hm h;rw[IE.o k hm];exact h
  case done=>
   rintro D V hD ⟨h0,wM,p8⟩ hK;rw[hSr] at h0;have A6:D<V.heap.size:=(eL.1 hK).1;have FH:Hid (Shut (w.heap.size+2) V.heap.size ({target:=.collected D,args:= #[]}::ds) V):=⟨D,by omega,A6,rfl,hK,p8.ae hD⟩;have FX:=hid h0;clear h0 p8 hK;gi_wp2
   refine⟨⟨r+1,_,_,_,_,_,rfl,by omega,FX,FH⟩,?_⟩;simp[intOf];omega
 ·obtain rfl:r=n:=by omega
  have kc:=mH.o.2.1.cell;gi_wp2
  refine Ez (lo:=w.heap.size+2) (K:=vY w G r c (aA (ab r))) (vY.shut (by omega)) (fun Z hZ=>⟨_,zO rfl _ _ _,by rw[BW.o];rfl,hZ.2.2⟩) _ wr.heap.size wr nT.o mH.o
end
def AbR (L:List (List Int)) (l:List Int) (e:Ending) (w':World):Prop:=
 (bE L≠0/\e=.returned (.tuple #[.slice none 0 0,.int .i64 (bE L)]))∨
 (bE L=0/\dD l L.length=false/\e=.returned (.tuple #[.slice none 0 0,.int .i64 11]))∨
 (bE L=0/\dD l L.length=true/\∃d cd,e=.returned (.tuple #[.slice d (gN (gV (aI L) (ag l) L.length)).length cd,.int .i64 0])/\aaK w' d (gN (gV (aI L) (ag l) L.length)))
theorem ud (h:bE L=0):gB L=true:=by
 rw[bE] at h;by_cases e:gB L=true
 ·exact e
 ·rw[aaO e] at h;exact absurd h (by decide)
theorem akp (a b:Option Addr) (ca cb:Nat) (L:List (List Int)) (l:List Int) (w:World) (h:fh w a L) (hl:∀l∈L,l.length<=140737488355328) (hb:aaK w b l) (dh:l.length<=140737488355328):
  Calls Tryz.prog 78 #[.slice a L.length ca,.slice b l.length cb] w fun e w'=>AbR L l e w'/\Below w.heap.size w w':=by
 have HR:=hid (UI a ca L w h hl);have HB:=hid hb;have FK:=hid (fun (U:World) (hU:aaK U b l) (hn:L.length<=8)=>YI b cb l L.length U hU dh hn)
 have BW:Hid (bE L=0 ->dD l L.length=true ->∀(G c:Nat) (U:World),cI U G (jO L) ->Calls Tryz.prog 127 #[.slice (some ⟨G,0,none⟩) L.length c,.int .u32 (aA (ag l):Nat)] U fun e w'=>e=.returned (.int .u32 (aA (gV (aI L) (ag l) L.length):Nat))/\Below U.heap.size U w'):=fun hg hr G c U hU=>by
  rw[Hf] at hU;have hgb:=ud hg
  exact amU G L.length c (aI L) (ag l) U (lp L) (qg hgb).2.1 hU (JP hgb) (fun u hu=>by
   obtain⟨x,hx,rfl⟩:=aaQ.1 hu;obtain⟨j,hj,rfl⟩:=iE hx;have:=(Al hr).each j hj;omega)
 have xW:Hid (bE L=0 ->dD l L.length=true ->∀U:World,Calls Tryz.prog 135 #[.int .u32 (aA (gV (aI L) (ag l) L.length):Nat)] U fun e w'=>∃v,e=.returned v/\cX w' U.heap.size v (iL (fM (gV (aI L) (ag l) L.length) 8))/\Below U.heap.size U w'):=fun hg hr U=>aaE _ U (fun u hu=>by
  have hgb:=ud hg;have h8:=(qg hgb).2.1
  have:=Lp (n:=L.length) (P:=aI L) (s:=ag l) (fun v u hu=>(Hc hgb).at v u hu) (fun u hu=>by
   obtain⟨x,hx,rfl⟩:=aaQ.1 hu;obtain⟨j,hj,rfl⟩:=iE hx;have:=(Al hr).each j hj;omega) L.length u hu
  omega)
 have HSA:Hid (dD l L.length=true ->setA l L.length=aA (ag l)):=YJ;clear h hl hb;go_enter Tryz.func78,Tryz.ntmps78;go_wp2_with fail
 refine HR.o.ae ?_;rintro e w1 ⟨hb1,⟨hg,G,rfl,hG,hU⟩ |⟨hg,rfl⟩⟩
 ·have h8:=(qg (ud hg)).2.1;have HS:=hid (FK.o w1 (HB.o.aa hb1) h8);have HU:=hid hU;have eR:=hid hb1;have IP:=hid hg;clear hU hb1 FK hg;cases hr:dD l L.length with
  |false=>
   rw[hr] at HS;have zB:=hid hr;clear hr BW xW HSA;generalize setA l L.length=sa at *;go_wp2_with fail
   refine HS.o.ae ?_;rintro e w2 ⟨rfl,hw2⟩;subst hw2;go_wp2;go_ret2;exact⟨.inr (.inl ⟨IP.o,zB.o,rfl⟩),eR.o⟩
  |true=>
   rw[hr,HSA.o hr] at HS;have HRT:=hid hr;have HA:=hid (BW.o IP.o hr G L.length);have HL:=hid (xW.o IP.o hr);clear hr BW xW HSA;generalize hab:gV (aI L) (ag l) L.length=ab at *;have adC:=hid hab;clear hab;generalize aA (ag l)=m0 at *;go_wp2_with fail
   refine HS.o.ae ?_;rintro e w2 ⟨rfl,hw2⟩;subst hw2;go_wp2_with fail
   refine(HA.o _ HU.o).ae ?_;rintro e w3 ⟨rfl,hb3⟩;have dU:=hid (eR.o.trans (hb3.ae eR.o.size));clear hb3;go_wp2_with fail
   refine(HL.o _).ae ?_;rintro e w4 ⟨v,rfl,hv,hb4⟩;obtain⟨d,cd,rfl,hI⟩:=hv.ints;have HI:=hid hI;have fV:=hid (dU.o.trans (hb4.ae dU.o.size));clear hv hI hb4;go_wp2;go_ret2;exact⟨.inr (.inr ⟨IP.o,HRT.o,d,cd,by rw[adC.o];rfl,by rw[adC.o];exact HI.o⟩),fV.o⟩
 ·have Wy:=hid hg;have eR:=hid hb1;have hgb:(bE L==0)=false:=by simpa using hg
  clear hg hb1 BW xW HSA FK;generalize hge:bE L=ge at *;have F6:=hid hge;clear hge;go_wp2;go_ret2;exact⟨.inl ⟨by rw[F6.o];exact Wy.o,by rw[F6.o];rfl⟩,eR.o⟩
section
attribute [local go_sem] Oper.semAt_some
variable {o':Obj}
def iP (P:List (List Nat)) (v:Nat):List Nat:=v::P.getD v []
def iY (P:List (List Nat)) (u:Nat):Nat ->List Nat
 |0=>[]
 |v+1=>if u∈iP P v then iY P u v++(iP P v).filter (fun x=>decide (x≠u)) else iY P u v
def mrV (P:List (List Nat)) (n v k:Nat):List (List Nat):=(List.range n).map fun u=>if u<k/\u∈iP P v then iY P u v++(iP P v).filter (fun x=>decide (x≠u)) else iY P u v
def nk (P:List (List Nat)) (n v:Nat):List (List Nat):=(List.range n).map fun u=>iY P u v
theorem aih (P:List (List Nat)) (n v:Nat):mrV P n v 0=nk P n v:=by simp[mrV,nk]
theorem aim (h:n<=8):mrV P n v 8=nk P n (v+1):=by
 apply rq;intro u hu;have:=bG.1 hu;rw[iY];by_cases h1:u∈iP P v
 ·rw[aaf ⟨by omega,h1⟩,aaf h1]
 ·rw[aaO (fun e=>h1 e.2),aaO h1]
theorem aii (hm:k∈iP P v):mrV P n v (k+1)=(mrV P n v k).set k (iY P k v++(iP P v).filter (fun x=>decide (x≠k))):=by
 apply pS (by simp[mrV]);intro i h1 h2;rw[List.getElem_set];simp only[mrV,acj,qH];by_cases h:k=i
 ·subst h;rw[aaf ⟨by omega,hm⟩,aaf rfl]
 ·rw[aaO h];have e:(i<k+1/\i∈iP P v)↔(i<k/\i∈iP P v):=⟨fun ⟨a,b⟩=>⟨by omega,b⟩,fun ⟨a,b⟩=>⟨by omega,b⟩⟩;simp only[e]
theorem aij (hm:¬k∈iP P v):mrV P n v (k+1)=mrV P n v k:=by
 apply rq;intro i hi;have e:(i<k+1/\i∈iP P v)↔(i<k/\i∈iP P v):=⟨fun ⟨a,b⟩=>⟨by rcases cD i k with h |h;exact h;exact absurd (show i=k by omega) (fun e=>hm (e▸b)),b⟩,fun ⟨a,b⟩=>⟨by omega,b⟩⟩;simp only[e]
theorem ail (hu:u<n) (h:¬u<k):(mrV P n v k)[u]? =some (iY P u v):=by
 simp[mrV,hu,h]
theorem aik (P:List (List Nat)) (n v k:Nat):(mrV P n v k).length=n:=by simp[mrV]
theorem aaq (P:List (List Nat)) (n v:Nat):(nk P n v).length=n:=by simp[nk]
theorem O8 (hP:∀v,∀u∈P.getD v [],u<n) (hv:v<n):∀u∈iP P v,u<n:=fun u hu=>by
 rcases dK.1 hu with rfl |h
 ·exact hv
 ·exact hP v u h
theorem NZ (hP:∀v,∀u∈P.getD v [],u<n) (u:Nat):∀v,v<=n ->∀x∈iY P u v,x<n
 |0,_,x,hx=>by simp[iY] at hx
 |v+1,hv,x,hx=>by
  rw[iY] at hx;by_cases h:u∈iP P v
  ·rw[aaf h] at hx;rcases aa5.1 hx with h2 |h2
   ·exact NZ hP u v (by omega) x h2
   ·exact O8 hP (by omega) x (abp.1 h2).1
  ·rw[aaO h] at hx;exact NZ hP u v (by omega) x hx
theorem acJ {W:World} {r:Nat} {p:Addr} {o:Obj} (h:W.cell? p=some x) (ho:W.heap[r]? =some o) (hc:o.isCells=false):(W.putObj r o').cell? p=some x:=by
 have hne:p.block≠r:=fun e=>by
  rw[World.cell?,e,ho] at h;cases o<;>simp_all [Obj.isCells]
 rw[<- h];exact kA (yh hne)
theorem aaK.putObj {W:World} {r:Nat} {d:Option Addr} {o:Obj} (h:aaK W d l) (ho:W.heap[r]? =some o) (hc:o.isCells=false):aaK (W.putObj r o') d l:=fun k hk=>by
 obtain⟨g,q,h1,h2,h3⟩:=h k hk;exact⟨g,q,h1,by simpa using h2,acJ h3 ho hc⟩
theorem fh.putObj {W:World} {r:Nat} {o:Obj} (h:fh W a L) (ho:W.heap[r]? =some o) (hc:o.isCells=false):fh (W.putObj r o') a L:=fun k hk=>by
 obtain⟨g,q,b,c,h1,h2,h3,h4⟩:=h k hk;exact⟨g,q,b,c,h1,by simpa using h2,acJ h3 ho hc,h4.putObj ho hc⟩
def zl (w:World) (R n:Nat) (l:List Nat) (W:World):Prop:=cI W R l/\Boxed W (R+1) 109 (.slice (some ⟨R,0,none⟩) n n)/\Below R w W
theorem zl.own {β:Type} {R B:Nat} (f:β ->List Nat) (hB:R<=B) (hw:R<=w.heap.size):OwnFrom B (fun (s:β) W=>zl w R n (f s) W):=
 eI (fG (Nk _ f) _) (eI (fG (iC _ _ (fun _=>_)) _) (fun _ _ _ _ hs hg hr=>hs.grown hg (aS hw hs.size) (fun k e=>aS hB (hr k e).1)))
theorem zl.aa {W:World} {R:Nat} {l:List Nat} (h:zl w R n l W) (hb:Below W.heap.size W W'):zl w R n l W':=⟨h.1.aa hb h.1.lt,xF h.2.1 hb h.2.1.lt,h.2.2.trans (hb.ae (uH h.1.lt))⟩
def Sw (L:List (List Int)) (e:Ending) (w':World):Prop:=
 (bE L≠0/\e=.returned (.tuple #[.slice none 0 0,.int .i64 (bE L)]))∨
 (bE L=0/\∃G,e=.returned (.tuple #[.slice (some ⟨G,0,none⟩) L.length L.length,.int .i64 0])/\fh w' (some ⟨G,0,none⟩) ((nk (aI L) L.length L.length).map gN))
theorem aki (a:Option Addr) (ca:Nat) (L:List (List Int)) (w:World) (h:fh w a L) (hl:∀l∈L,l.length<=140737488355328):
  Calls Tryz.prog 93 #[.slice a L.length ca] w fun e w'=>Sw L e w'/\Below w.heap.size w w':=by
 refine(gZ (n:=6)).1 ?_;obtain⟨i0,cU,hz0,hz1,hz2⟩:=eT Tryz.infoSet;have HR:=hid (UI a ca L w h hl);have hn:(aI L).length=L.length:=lp L;have IB:Hid (bE L=0 ->∀v,∀u∈(aI L).getD v [],u<L.length):=fun hg v u hu=>(Hc (ud hg)).at v u hu;have sY:Hid (bE L=0 ->L.length<=8):=fun hg=>(qg (ud hg)).2.1;have vJ:Hid (jO L=(aI L).map aA):=Hf L;have HMR:Hid (∀e w',Sw L e w'=((bE L≠0/\e=.returned (.tuple #[.slice none 0 0,.int .i64 (bE L)]))∨(bE L=0/\∃G,e=.returned (.tuple #[.slice (some ⟨G,0,none⟩) L.length L.length,.int .i64 0])/\fh w' (some ⟨G,0,none⟩) ((nk (aI L) L.length L.length).map gN)))):=fun _ _=>rfl;generalize aI L=P at *;clear h hl;by_cases hg:bE L=0
 case neg=>
  have Wy:=hid hg;have hgb:(bE L==0)=false:=by simpa using hg
  refine tz Tryz.func93 rfl trivial ?_ rfl;simp only[Tryz.ntmps93,mP,eU,lg,Nat.reduceAdd,Nat.reduceSub,mV,mU,mQ,lZ,iD,fg];gi_wp2_with (refine⟨trivial,?_⟩;gi_at_call 72;refine(gZ.2 HR.o).ae ?_;rintro e w1 ⟨hb1,yP⟩;obtain rfl:=(yP.resolve_left fun h=>hg h.1).2)
  exact⟨_,results_tmp2 rfl _ _ _,.inl ⟨Wy.o,rfl⟩,hb1⟩
 case pos=>
  have h8:=sY.o hg;have hmk:=fun V=>run_make_row' (P:=Tryz.prog) 109 115 (.int .u32 0) 4 Tryz.underlying109 Tryz.infoSet rfl .i64 .i64 L.length (by omega) (by omega) V;refine tz Tryz.func93 rfl trivial ?_ rfl;simp only[Tryz.ntmps93,mP,eU,lg,Nat.reduceAdd,Nat.reduceSub,mV,mU,mQ,lZ,iD,fg];gi_wp2_with (refine⟨trivial,?_⟩;gi_at_call 72;refine(gZ.2 HR.o).ae ?_;rintro e w1 ⟨hb1,yP⟩;obtain⟨-,G,rfl,hG,hU⟩:=yP.resolve_right fun h=>h.1 hg)
  clear hmk;have tW:=IB.o hg;rw[vJ.o] at hU;have E9:=hU.lt;have IP:=hid hg;have eR:=hid hb1
  have uD:Hid (∀(V:World) (v:Nat),Below w1.heap.size w1 V ->v<L.length ->V.cell? ⟨G,v,none⟩=some (.int .u32 (aA (P.getD v []):Nat))):=fun V v hB hv=>by
   have:=(hU.aa hB E9).cell v (by rw[c5];omega);rwa [Ey (by omega)] at this
  have F7:Hid (∀v,v<L.length ->∀u∈iP P v,u<L.length):=fun v hv=>O8 tW hv;have HWT:=hid (fun (v:Nat) (hv:v<L.length) (U:World)=>GW (P.getD v []) v U (fun u hu=>by have:=tW v u hu;omega) (by omega));have HFM:Hid (∀v,v::P.getD v []=iP P v):=fun v=>rfl;have ku:=hid (fun (v:Nat) (hv:v<L.length) (u:Nat) (hu:u<8) (U:World)=>JB (iP P v) u U (fun x hx=>by have:=O8 tW hv x hx;omega) hu);have LZ:=hid (fun (v u:Nat) (hv:v<L.length)=>Vh (iY P u v) ((iP P v).filter fun x=>decide (x≠u)) (fun x hx=>by have:=NZ tW u v (by omega) x hx;omega) (K9 (fun x hx=>by have:=O8 tW hv x hx;omega) _))
  have Gb:Hid (∀(V:World) (g v k u:Nat),u<L.length ->¬u< k ->cI V g ((mrV P L.length v k).map aA) ->V.cell? ⟨g,u,none⟩=some (.int .u32 (aA (iY P u v):Nat))/\V.frozen? ⟨g,u,none⟩=false):=fun V g v k u hu hne hR=>by
   (have h1:u<(mrV P L.length v k).length:=by rw[aik];exact hu);have h2:=hR.cell u (by rw[c5];exact h1);obtain⟨h3,h4⟩:=o0.1 (ail (P:=P) (v:=v) hu hne);rw[acj,h4] at h2;exact⟨h2,hR.fz u⟩
  have kS:Hid (∀(V:World) (g v k:Nat),k∈iP P v ->cI V g ((mrV P L.length v k).map aA) ->cI (V.setCell ⟨g,k,none⟩ (.int .u32 (aA (iY P k v++(iP P v).filter (fun x=>decide (x≠k))):Nat))) g ((mrV P L.length v (k+1)).map aA)):=fun V g v k hm hR=>by
   have:=hR.set k (aA (iY P k v++(iP P v).filter (fun x=>decide (x≠k))));rwa [aii hm,Gr]
  have eQ:Hid (∀v k,¬k∈iP P v ->mrV P L.length v (k+1)=mrV P L.length v k):=fun v k h=>aij h;have HZ:=hid (fun v=>aih P L.length v);have HA:=hid (fun v=>aim (P:=P) (v:=v) h8)
  have hz:(nk P L.length 0).map aA=List.replicate L.length 0:=by
   apply pS (by simp[nk]);intro i h1 h2;simp[nk,iY,aA]
  have vT:Hid (∀(R:Nat) (U:World),cI U R ((nk P L.length L.length).map aA) ->Calls Tryz.prog 146 #[.slice (some ⟨R,0,none⟩) L.length L.length] U fun e w'=>∃G,e=.returned (.slice (some ⟨G,0,none⟩) L.length L.length)/\U.heap.size<=G/\fh w' (some ⟨G,0,none⟩) ((nk P L.length L.length).map gN)/\Below U.heap.size U w'):=fun R U hR=>by
   have:=aaD (some ⟨R,0,none⟩) L.length (nk P L.length L.length) U (fun p hp u hu=>by
    obtain⟨x,_,rfl⟩:=aaQ.1 hp;have:=NZ tW x L.length (ar _) u hu
    omega) (by rw[aaq];omega) (fun k hk=>⟨R,0,rfl,hR.lt,by
     have:=hR.cell k (by rw[c5];exact hk);rw[bT,this,acj]⟩)
   rwa [aaq] at this
  clear hU hg hb1 IB sY vJ tW HR;generalize L.length=n at *;obtain⟨W2,hW2⟩:∃W2,W2=(w1.alloc (.cells (madeCells #[.int .u32 0] n) 115)).alloc (.cells #[.slice (some ⟨w1.heap.size,0,none⟩) n n] 109):=⟨_,rfl⟩
  have hL2:zl w1 w1.heap.size n ((nk P n 0).map aA) W2:=by
   rw[hW2,hz];refine⟨?_,?_,((au _ w1).alloc (ar _) _).alloc (by simp) _⟩
   ·have h:=kd w1 (.cells (madeCells #[.int .u32 0] n) 115)
    have e:(madeCells #[.int .u32 0] n).toList=(List.replicate n (0:Nat)).map uv:=by
     have:=SJ n;rwa [mN] at this
    (have e2:madeCells #[Value.int .u32 0] n=((List.replicate n (0:Nat)).map uv).toArray:=by rw[<- e]);rw[cI,rY _ _ _ (by simp),h,e2]
   ·have h:=a7 (w1.alloc (.cells (madeCells #[.int .u32 0] n) 115)) 109 (.slice (some ⟨w1.heap.size,0,none⟩) n n);rwa [cN] at h
  rw[<- hW2];have hs2:W2.heap.size=w1.heap.size+2:=by rw[hW2];simp
  have rh:=hid hL2;clear hW2 hL2 hz;refine wpIn_loop (fun a' w'=>∃(v:Nat) (ds:List Deferred) (u7 u8 u24 Js u26 Jr u28 Ak Jq Jp u32 GG:Value),a'= {tmps:= #[.slice a n ca,undef,.slice none 0 0,.int .i64 0,.slice (some ⟨G,0,none⟩) n n,.int .i64 0,.pointer (some ⟨w1.heap.size+1,0,none⟩),u7,u8,undef,.tuple #[.slice (some ⟨G,0,none⟩) n n,.int .i64 0],.slice a n ca,.tuple #[.slice (some ⟨G,0,none⟩) n n,.int .i64 0],.slice (some ⟨G,0,none⟩) n n,.int .i64 0,.int .i64 0,.bool false,undef,.slice (some ⟨G,0,none⟩) n n,.int .i64 (n:Nat),.slice (some ⟨w1.heap.size,0,none⟩) n n,.slice (some ⟨G,0,none⟩) n n,.int .i64 (n:Nat),.int .i64 (v:Nat),u24,Js,u26,Jr,u28,Ak,Jq,Jp,u32,undef,undef,undef,undef,undef,undef,undef,undef,undef,undef,GG,undef,undef],defers:=ds}/\v<=n/\Hid (zl w1 w1.heap.size n ((nk P n v).map aA) w')/\Hid (Shut (w1.heap.size+2) w'.heap.size ds w')) (fun a' _=>n - (intOf (a'.tmps.getD 23 undef)).toNat) ?_ ?_
  ·exact⟨0,[],_,_,_,_,_,_,_,_,_,_,_,_,rfl,aU _,rh,trivial⟩
  intro a' wr hinv;obtain⟨v,ds,u7,u8,u24,Js,u26,Jr,u28,Ak,Jq,Jp,u32,GG,rfl,hv,mH,nT⟩:=hinv;clear rh;by_cases hlt:v<n
  ·have kv:=uD.o wr v mH.o.2.2 hlt;have hs:=F7.o v hlt;(have CE:∀u∈iP P v,u<8:=fun u hu=>by have:=hs u hu;omega);have adf:=hid (HWT.o v hlt);rw[HFM.o v] at adf;have anc:=hid (ku.o v hlt);have anv:=hid (fun u=>LZ.o v u hlt);have WO:=hid (fun V g k u=>Gb.o V g v k u);have VU:=hid (fun V g k=>kS.o V g v k);have Wd:=hid (fun k=>eQ.o v k);have TZ:=HZ.o v;have Ux:=HA.o v;have cZ:w1.heap.size+1<wr.heap.size:=mH.o.2.1.lt;generalize aA (P.getD v [])=mp at *;generalize iP P v=fm at *;gi_wp2_with (refine⟨trivial,?_⟩;gi_at_call 143;refine(gZ.2 (adf.o _)).ae ?_;rintro e w4 ⟨rfl,hw4⟩;subst hw4)
   obtain⟨W3,hW3⟩:∃W3,W3=wr.alloc (.cells #[.int .u32 (aA fm:Nat)] 115):=⟨_,rfl⟩;(have b8:Boxed W3 wr.heap.size 115 (.int .u32 (aA fm:Nat)):=by rw[hW3];exact a7 wr _ _);(have hb3:Below wr.heap.size wr W3:=by rw[hW3];exact(au _ wr).alloc (ar _) _);(have hs3:W3.heap.size=wr.heap.size+1:=by rw[hW3];simp);rw[<- hW3];have hL3:=mH.o.aa hb3;have KL:=(nT.o.aa hb3).ae (show wr.heap.size<=W3.heap.size by omega);rw[<- TZ] at hL3;clear hW3 kv mH nT
   refine Ei (by omega) fm CE rfl rfl
    (fun k V=>zl w1 w1.heap.size n ((mrV P n v k).map aA) V/\Boxed V wr.heap.size 115 (.int .u32 (aA fm:Nat))/\(W3.heap.size<=V.heap.size/\Shut (w1.heap.size+2) W3.heap.size ds V))
    (eI (zl.own (fun k:Nat=>(mrV P n v k).map aA) (by omega) (ar _)) (eI (fG (iC _ _ (fun _=>_)) _) Rv))
    ⟨hL3,b8,ar _,KL⟩
    (fun k=> {tmps:= #[.slice a n ca,undef,.slice none 0 0,.int .i64 0,.slice (some ⟨G,0,none⟩) n n,.int .i64 0,.pointer (some ⟨w1.heap.size+1,0,none⟩),.int .i64 (v:Nat),.pointer (some ⟨wr.heap.size,0,none⟩),.int .i64 (k:Nat),.tuple #[.slice (some ⟨G,0,none⟩) n n,.int .i64 0],.slice a n ca,.tuple #[.slice (some ⟨G,0,none⟩) n n,.int .i64 0],.slice (some ⟨G,0,none⟩) n n,.int .i64 0,.int .i64 0,.bool false,undef,.slice (some ⟨G,0,none⟩) n n,.int .i64 (n:Nat),.slice (some ⟨w1.heap.size,0,none⟩) n n,.slice (some ⟨G,0,none⟩) n n,.int .i64 (n:Nat),.int .i64 (v:Nat),.bool true,.int .i64 (v:Nat),.pointer (some ⟨G,v,none⟩),.int .u32 (mp:Nat),.int .u32 (mp:Nat),.int .i64 (v:Nat),.int .u32 (aA fm:Nat),.int .u32 (aA fm:Nat),.func (.func 144) #[.int .u32 (aA fm:Nat)] #[],.int .i64 (k:Nat),undef,undef,undef,undef,undef,undef,undef,undef,undef,GG,undef,undef],defers:=[]}) ?assign ?body ?skip ?done
   case assign=>
    intro l k W K hK;gi_wp2
    exact hK
   case body=>
    rintro l k V hk hm ⟨h0,h4,wM,p8⟩;have hkn:=hs k hm;have k1:=h0.2.1.cell;have k4:=h4.cell;obtain⟨kU,fU⟩:=WO.o V w1.heap.size k k hkn (by omega) h0.1;have sS:=hid (anc.o k hk);have P7:=anv.o k;have LM:=hid (fun W hW=>VU.o W w1.heap.size k hm hW);generalize aA (iY P k v++fm.filter (fun x=>decide (x≠k)))=m1 at *;generalize aA (fm.filter fun x=>decide (x≠k))=m2 at *;generalize aA (iY P k v)=m0 at *;generalize aA fm=mf at *;gi_wp2_with fail
    refine uL (fun u=>u.cell? ⟨w1.heap.size+1,0,none⟩=some (.slice (some ⟨w1.heap.size,0,none⟩) n n)/\u.cell? ⟨wr.heap.size,0,none⟩=some (.int .u32 (mf:Nat))) (by kernel_rfl) (by kernel_rfl) (fun ⟨_,_,h⟩=>h) ⟨k1,k4⟩ ?_;intro aq;have hD:KeepsOthers V V.drew:=wk V;have q0:zl w1 w1.heap.size n ((mrV P n v k).map aA) V.drew:=⟨h0.1,h0.2.1,h0.2.2.drew⟩;have q4:Boxed V.drew wr.heap.size 115 (.int .u32 (mf:Nat)):=h4;have qS:Shut (w1.heap.size+2) W3.heap.size ds V.drew:=p8.keep fun _ _=>rfl;have qz:W3.heap.size<=V.drew.heap.size:=wM;have Zk:V.drew.cell? ⟨w1.heap.size,k,none⟩=some (.int .u32 (m0:Nat)):=kU;have fU2:V.drew.frozen? ⟨w1.heap.size,k,none⟩=false:=fU;clear k1 k4 kU fU h0 h4 p8 wM b8 hb3 hL3 KL;generalize V.drew=U0 at *;refine aw 0 (.slice (some ⟨w1.heap.size,0,none⟩) n n) ?_;refine aw 1 (.int .i64 (k:Nat)) ?_;refine aw 2 (.pointer (some ⟨w1.heap.size,k,none⟩)) ?_;refine aw 4 (.int .u32 (mf:Nat)) ?_;refine aw 5 (.int .i64 (k:Nat)) ?_;refine aF [3,6] (cA ?_ (cA ?_ aD))
    focus
     intro K' hK';go_simp;refine hK'.o _ _ aq (fun ak=>?_);clear hK' K' ak;refine aF [6] (cA ?_ aD);intro K' hK';go_simp;refine(sS.o _).ae ?_;rintro e U1 ⟨rfl,fO⟩;subst fO;refine hK'.o _ _ aq (fun ak=>?_);clear hK' K' ak;generalize U1=U0 at *
    rotate_left
    focus
     intro K' hK';go_simp;refine(sS.o _).ae ?_;rintro e U1 ⟨rfl,fO⟩;subst fO;refine hK'.o _ _ aq (fun ak=>?_);clear hK' K' ak;generalize U1=U0 at *;refine aF [3] (cA ?_ aD);intro K' hK';go_simp;refine hK'.o _ _ aq (fun ak=>?_);clear hK' K' ak
    all_goals
     refine aw 7 (.int .u32 (m1:Nat)) ?_;refine aw 8 (.pointer (some ⟨w1.heap.size,k,none⟩)) ?_;refine aF [9] (cA ?_ aD);intro K' hK';go_simp;refine hK'.o _ _ ⟨(jE q0.2.1 w1.heap.size k _ (by omega)).cell,(jE q4 w1.heap.size k _ (by omega)).cell⟩ (fun _=>dW (by kernel_rfl) ?_ _);clear hK' K' aq;gi_wp2
     exact⟨(hD.trans (iG U0 _ _)).from _,⟨LM.o U0 q0.1,jE q0.2.1 w1.heap.size k _ (by omega),q0.2.2.setCell (p:=⟨w1.heap.size,k,none⟩) (ar _) _⟩,jE q4 w1.heap.size k _ (by omega),by simpa using qz,qS.putAt (by omega) _⟩
   case skip=>
    rintro k V hk hm h;rw[Wd.o k hm];exact h
   case done=>
    rintro D V hD ⟨h0,h4,wM,p8⟩ hK;rw[Ux] at h0;have A6:D<V.heap.size:=(eL.1 hK).1;have FH:Hid (Shut (w1.heap.size+2) V.heap.size ({target:=.collected D,args:= #[]}::ds) V):=⟨D,by omega,A6,rfl,hK,p8.ae hD⟩;have FX:=hid h0;clear h0 h4 p8 hK;gi_wp2
    refine⟨⟨v+1,_,_,_,_,_,_,_,_,_,_,_,_,_,rfl,by omega,FX,FH⟩,?_⟩;simp[intOf];omega
  ·obtain rfl:v=n:=by omega
   have kc:=mH.o.2.1.cell;have HLq:=hid (vT.o w1.heap.size wr mH.o.1);have cZ:w1.heap.size+1<wr.heap.size:=mH.o.2.1.lt;gi_wp2_with (refine⟨trivial,?_⟩;gi_at_call 146;refine(gZ.2 HLq.o).ae ?_;rintro e w5 ⟨G5,rfl,hG5,Uk,hb5⟩)
   have qP:Below w.heap.size w w5:=(eR.o.trans (mH.o.2.2.ae eR.o.size)).trans (hb5.ae (aS eR.o.size (uH (Nat.lt_trans (Nat.lt_succ_self _) cZ))));refine Ez (lo:=w1.heap.size+2) (K:=fun W=>fh W (some ⟨G5,0,none⟩) ((nk P v v).map gN)/\Below w.heap.size w W) ?_ ?_ _ wr.heap.size w5 (nT.o.aa hb5) ⟨Uk,qP⟩
   ·rintro W r ⟨hL,hB⟩ hr hd;exact⟨hL.putObj hd rfl,hB.trans (tA (w:=w) (ar _) W r _ _ (by have:=eR.o.size;omega) hd rfl rfl)⟩
   ·rintro Z ⟨hL,hB⟩;refine⟨_,results_tmp2 rfl _ _ _,?_,hB⟩;rw[HMR.o];exact .inr ⟨IP.o,G5,rfl,hL⟩
end
theorem Sk (h:nj P (aY P k)=some v):¬v∈aY P k/\∀u∈P.getD v [],u∈aY P k:=by
 have:=List.find?_some h;rw[gJ,ia,Bool.not_eq_true',QB,ei] at this;exact this
theorem Sj (P:List (List Nat)):∀k,(aY P k).Nodup
 |0=>List.nodup_nil
 |k+1=>by
  rw[aY];cases e:nj P (aY P k) with
  |none=>exact Sj P k
  |some v=>
   refine Gq.2 ⟨Sj P k,by simp,fun a ha b hb=>?_⟩;rw[fX.1 hb];exact fun e'=>(Sk e).1 (e'▸ha)
theorem Si:∀k,v∈aY P k ->∃A B,aY P k=A++v::B/\¬v∈A/\∀u∈P.getD v [],u∈A
 |0,h=>by cases h
 |k+1,h=>by
  rw[aY] at h⊢;cases e:nj P (aY P k) with
  |none=>
   rw[e] at h;exact Si k h
  |some w=>
   rw[e] at h;show ∃A B,aY P k++[w]=A++v::B/\_;rcases aa5.1 h with h |h
   ·obtain⟨A,B,h1,h2,h3⟩:=Si k h;exact⟨A,B++[w],by rw[h1];simp,h2,h3⟩
   ·obtain rfl:=fX.1 h;exact⟨aY P k,[],rfl,(Sk e).1,(Sk e).2⟩
def wD (P:List (List Nat)) (v:Nat):Nat:=(aY P P.length).idxOf v
theorem afA (hv:v∈aY P P.length) (hu:u∈P.getD v []):wD P u<wD P v:=by
 obtain⟨A,B,h1,h2,h3⟩:=Si P.length hv;have hA:=h3 u hu;rw[wD,wD,h1,List.idxOf_append,List.idxOf_append,aaf hA,aaO h2,List.idxOf_cons_self,bT];exact List.idxOf_lt_length_of_mem hA
theorem OY (h:bE L=0):gB L=true/\∀v,v<L.length ->v∈aY (aI L) (aI L).length:=by
 have hg:=ud h;refine⟨hg,fun v hv=>?_⟩;rw[bE,aaf hg] at h;have hl:¬(aY (aI L) L.length).length<L.length:=fun hc=>by rw[aaf hc] at h;cases h
 rw[lp];refine Gz fun hno=>?_
 have:=NW (l:=v::aY (aI L) L.length) (m:=List.range L.length) (pP.2 ⟨hno,Sj _ _⟩) fun x hx=>by
  rcases dK.1 hx with rfl |hx
  ·exact bG.2 hv
  ·have:=Ep (aI L) L.length x hx;rw[lp] at this;exact bG.2 this
 rw[eU,lY] at this;omega
theorem ZB (hg:gB L=true) (h:u∈(aI L).getD v []):u<L.length/\v<L.length:=by
 have hv:v<L.length:=by
  rcases cD v L.length with h1 |h1
  ·exact h1
  ·rw[b7,iF (by rw[lp];exact h1)] at h;cases h
 refine⟨?_,hv⟩;rw[b7,af (by rw[lp];exact hv)] at h;exact JP hg _ (bH _) u h
theorem Rz (h:bE L=0) (hu:u∈(aI L).getD v []):wD (aI L) u<wD (aI L) v:=
 afA ((OY h).2 v (ZB (OY h).1 hu).2) hu
theorem afz (h:bE L=0) (hv:v<L.length):wD (aI L) v<L.length:=by
 have h1:=List.idxOf_lt_length_of_mem ((OY h).2 v hv);have h2:=Ct (aI L) (aI L).length;rw[lp] at h2;rw[wD];rw[lp] at h1⊢;omega
theorem amS (h:bE L=0) (ha:BZ (fun u v=>u∈(aI L).getD v []) u v):wD (aI L) u<wD (aI L) v:=by
 induction ha using BZ.ind with
 |one hp=>exact Rz h hp
 |more _ hp ih=>exact Nat.lt_trans ih (Rz h hp)
theorem atm (h:bE L=0) (v:Nat):¬BZ (fun u v=>u∈(aI L).getD v []) v v:=fun ha=>Nat.lt_irrefl _ (amS h ha)
def xZ (P:List (List Nat)) (a:Nat):Nat ->Nat ->Bool
 |0,b=>decide (a=b)
 |f+1,b=>decide (a=b) ||(P.getD b []).any (xZ P a f)
theorem aqm (h:bE L=0) (a:Nat):∀f b,wD (aI L) b<=f ->(xZ (aI L) a f b=true↔a=b∨BZ (fun u v=>u∈(aI L).getD v []) a b)
 |0,b,hf=>by
  rw[xZ,ei];refine⟨.inl,fun hh=>hh.elim id fun ha=>?_⟩;have:=amS h ha;omega
 |f+1,b,hf=>by
  rw[xZ,ao8,ei,rX];constructor
  ·rintro(e |⟨c,hc,h1⟩)
   ·exact .inl e
   ·have:=Rz h hc;rcases (aqm h a f c (by omega)).1 h1 with rfl |h2
    ·exact .inr (.one hc)
    ·exact .inr (.more h2 hc)
  ·rintro(e |ha)
   ·exact .inl e
   ·refine .inr ?_;rcases BZ.last ha with hp |⟨v,h1,hp⟩
    ·exact⟨a,hp,by cases f<;>simp[xZ]⟩
    ·have:=Rz h hp;exact⟨v,hp,(aqm h a f v (by omega)).2 (.inr h1)⟩
theorem Vw:∀ {r:Nat} (d:Nat),u∈gV P s r ->u∈gV P s (r+d)
 |_,0,h=>h
 |r,d+1,h=>by
  show u∈oP P (gV P s (r+d)) 8;exact QM _ (Vw d h)
theorem amW (h:bE L=0) (h8:L.length<=8):∀m j v,wD (aI L) v<=m ->v<L.length ->v∈gV (aI L) s j ->∀a,BZ (fun u v=>u∈(aI L).getD v []) a v ->a∈gV (aI L) s (j+m):=fun m=>by
 induction m with
 |zero=>
  intro j v hm _ _ a ha;have:=amS h ha;omega
 |succ m ih=>
  intro j v hm hv hs a ha;have one:∀w,w∈(aI L).getD v [] ->w∈gV (aI L) s (j+1):=fun w hw=>aoH _ (List.mem_flatMap.2 ⟨v,He.2 ⟨by omega,hs⟩,hw⟩);rcases BZ.last ha with hp |⟨w,h1,hp⟩
  ·rw[show j+(m+1)=(j+1)+m by omega];exact Vw m (one a hp)
  ·have:=Rz h hp;rw[show j+(m+1)=(j+1)+m by omega];exact ih (j+1) w (by omega) (ZB (OY h).1 hp).1 (one w hp) a h1
theorem ac4 (h:bE L=0) (h8:L.length<=8) (hs:∀v∈s,v<L.length) (a:Nat):a∈gV (aI L) s L.length↔∃b∈s,a=b∨BZ (fun u v=>u∈(aI L).getD v []) a b:=by
 constructor
 ·have:∀r a,a∈gV (aI L) s r ->∃b∈s,a=b∨BZ (fun u v=>u∈(aI L).getD v []) a b:=fun r=>by
   induction r with
   |zero=>exact fun a ha=>⟨a,ha,.inl rfl⟩
   |succ r ih=>
    intro a ha;rcases aa5.1 ha with ha |ha
    ·exact ih a ha
    ·obtain⟨v,hv,hp⟩:=List.mem_flatMap.1 ha;obtain⟨b,hb,h1⟩:=ih v (He.1 hv).2;refine⟨b,hb,.inr ?_⟩;rcases h1 with rfl |h1
     ·exact .one hp
     ·clear hb;induction h1 using BZ.ind with
      |one h2=>exact .more (.one hp) h2
      |more _ h2 S1=>exact .more S1 h2
  exact this _ a
 ·rintro⟨b,hb,rfl |ha⟩
  ·have:=Vw (P:=aI L) (s:=s) (r:=0) L.length hb;rwa [bT] at this
  ·have h1:=afz h (hs b hb);have:=amW h h8 L.length 0 b (by omega) (hs b hb) hb a ha;rwa [bT] at this
def SD (P:List (List Nat)) (n v u:Nat):Bool:=(decide (u∈P.getD v []) ||decide (v∈P.getD u [])) ||(List.range n).any fun w=>decide (u∈P.getD w [])&&decide (v∈P.getD w [])
theorem JX {P:List (List Nat)} {u x:Nat}:∀ {n:Nat},x∈iY P u n↔x≠u/\∃v,v<n/\u∈iP P v/\x∈iP P v
 |0=>by simp[iY]
 |n+1=>by
  have ih:=JX (P:=P) (u:=u) (x:=x) (n:=n);rw[iY];by_cases h:u∈iP P n
  ·rw[aaf h,aa5,ih,abp,ei];constructor
   ·rintro(⟨a,v,b,c⟩ |⟨a,b⟩)
    ·exact⟨a,v,by omega,c⟩
    ·exact⟨b,n,by omega,h,a⟩
   ·rintro⟨a,v,b,c,d⟩;rcases cD v n with h1 |h1
    ·exact .inl ⟨a,v,h1,c,d⟩
    ·rw[show v=n by omega] at d;exact .inr ⟨d,a⟩
  ·rw[aaO h,ih];refine and_congr_right fun _=>⟨fun ⟨v,a,b⟩=>⟨v,by omega,b⟩,fun ⟨v,a,b,c⟩=>⟨v,?_,b,c⟩⟩;rcases cD v n with h1 |h1
   ·exact h1
   ·rw[show v=n by omega] at b;exact absurd b h
theorem aif (hu:u<n) (hv:v<n):u∈iY P v n↔(SD P n v u&&decide (u≠v))=true:=by
 rw[JX,ia,ei,SD,ao8,ao8,ei,ei,rX];constructor
 ·rintro⟨hne,w,hw,h1,h2⟩;refine⟨?_,hne⟩;rcases dK.1 h1 with rfl |h1
  ·rcases dK.1 h2 with rfl |h2
   ·exact absurd rfl hne
   ·exact .inl (.inl h2)
  ·rcases dK.1 h2 with rfl |h2
   ·exact .inl (.inr h1)
   ·exact .inr ⟨w,bG.2 hw,by rw[cJ h2,cJ h1];rfl⟩
 ·rintro⟨(h1 |h1) |⟨w,hw,h1⟩,hne⟩
  ·exact⟨hne,v,hv,dJ,eE _ h1⟩
  ·exact⟨hne,u,hu,eE _ h1,dJ⟩
  ·rw[ia,ei,ei] at h1;exact⟨hne,w,bG.1 hw,eE _ h1.2,eE _ h1.1⟩
def Lr (P:List (List Nat)) (n v u:Nat):List Nat:=(List.range u).filter fun u=>SD P n v u&&decide (u≠v)
theorem aie (hP:∀v,∀u∈P.getD v [],u<n/\v<n) (h8:n<=8) (hv:v<n):iL (Lr P n v n)=gN (iY P v n):=by
 have hlt:∀x,x∈iY P v n ->x<n:=fun x hx=>by
  obtain⟨_,w,hw,_,h2⟩:=JX.1 hx;rcases dK.1 h2 with rfl |h2
  ·exact hw
  ·exact(hP _ _ h2).1
 have e:∀d,fM (iY P v n) (n+d)=fM (iY P v n) n:=fun d=>by
  induction d with
  |zero=>rfl
  |succ d ih=>
   rw[show n+(d+1)=(n+d)+1 by omega,N3,ih];intro hm;have:=hlt _ hm;omega
 have e8:=e (8 - n);rw[show n+(8 - n)=8 by omega] at e8;rw[gN,e8,Lr,fM];congr 1
 refine List.filter_congr fun u hu=>ac6.2 ?_;rw[<- aif (bG.1 hu) hv,ei]
theorem afD (p:Nat ->Bool) (n:Nat):dD (iL ((List.range n).filter p)) n=true:=by
 have hs:((List.range n).filter p).Pairwise (·<·):=List.Pairwise.filter _ List.pairwise_lt_range;refine eJ.2 fun i hi=>?_;have hi':i<((List.range n).filter p).length:=by rw[bG,ba] at hi;exact hi
 have hg:∀j (hj:j<((List.range n).filter p).length),(iL ((List.range n).filter p)).getD j 0=(((List.range n).filter p)[j]:Int):=fun j hj=>by
  rw[b7,iL,oh,af hj];rfl
 refine cJ ⟨?_,?_,fun h0=>?_⟩
 ·rw[hg i hi'];omega
 ·rw[hg i hi'];have:=bG.1 (abp.1 (bH hi')).1;omega
 ·rw[hg i hi',hg (i - 1) (by omega)];have:=(Cg.1 hs) (i - 1) i (by omega) hi' (by omega);omega
def np (L:List (List Int)):List (List Int):=(nk (aI L) L.length L.length).map gN
theorem AA (L:List (List Int)):(np L).length=L.length:=by simp[np,nk]
theorem aip (hv:v<L.length):(aI (np L)).getD v []=fM (iY (aI L) v L.length) 8:=by
 rw[b7,aI,oh,np,oh,nk,oh,List.getElem?_range hv];show ag (gN _)=_;rw[gN,ew]
theorem SE (hg:gB L=true):∀v,∀u∈(aI L).getD v [],u<L.length/\v<L.length:=fun v u hu=>by
 refine⟨(Hc hg).at v u hu,?_⟩;by_cases h:v<L.length
 ·exact h
 ·rw[b7,iF (by rw[lp];omega)] at hu;cases hu
theorem N1 (h8:L.length<=8) (hv:v<L.length) (hu:u<L.length):u∈(aI (np L)).getD v []↔u≠v/\∃x,x<L.length/\v∈iP (aI L) x/\u∈iP (aI L) x:=by
 rw[aip hv,He,JX];exact⟨fun h=>h.2,fun h=>⟨by omega,h⟩⟩
theorem aar (hg:gB L=true) (h1:1<=L.length) (h8:L.length<=8):gB (np L)=true:=by
 refine abU (by rw[AA];exact h1) (by rw[AA];exact h8) fun i hi=>?_;have hi':i<L.length:=by rwa [AA] at hi
 have e:(np L)[i]=gN (iY (aI L) i L.length):=by simp[np,nk]
 rw[e,AA];refine⟨?_,?_⟩
 ·rw[<- aie (SE hg) h8 hi'];exact afD _ _
 ·rw[gN,ew,He,JX];exact fun h=>h.2.1 rfl
theorem aio (hg:gB L=true) (h1:1<=L.length) (h8:L.length<=8):tG (np L)=true:=by
 refine(ahL (aar hg h1 h8)).2 fun v u hv hu=>?_;rw[AA] at hv hu;rw[zP,N1 h8 hv hu,N1 h8 hu hv];exact⟨fun ⟨h,x,a,b,c⟩=>⟨fun e=>h e.symm,x,a,c,b⟩,fun ⟨h,x,a,b,c⟩=>⟨fun e=>h e.symm,x,a,c,b⟩⟩
def ir (L:List (List Int)):List Nat:=(flS (aI (np L)) (np L).length (np L).length).ord
theorem ZT (hg:gB L=true) (h1:1<=L.length) (h8:L.length<=8):ada L.length (kE (aI (np L)) L.length) (Lj (aI (np L)) L.length):=by
 have hN:sP L.length (aI (np L)):=by have:=Hc (aar hg h1 h8);rwa [AA] at this
 refine akW hN (fun u hu w hw=>?_) h8;have hw':=hN.at u w hw;rw[N1 h8 hu hw'] at hw;rw[N1 h8 hw' hu];obtain⟨h,x,a,b,c⟩:=hw;exact⟨fun e=>h e.symm,x,a,c,b⟩
theorem NS (L:List (List Int)):ir L=(List.range L.length).map (kE (aI (np L)) L.length):=by rw[ir,AA,ab4]
theorem Sm (hg:gB L=true) (h1:1<=L.length) (h8:L.length<=8):(ir L).Nodup:=by
 rw[NS,List.Nodup,Gp];refine List.Pairwise.imp_of_mem (fun {i j} hi hj hne e=>?_) (pO (n:=L.length));exact hne ((ZT hg h1 h8).inj i j (bG.1 hi) (bG.1 hj) e)
theorem Sn (hg:gB L=true) (h1:1<=L.length) (h8:L.length<=8) (hv:v<L.length):v∈ir L:=by
 obtain⟨i,hi,e⟩:=(ZT hg h1 h8).all v hv;rw[NS];exact aaQ.2 ⟨i,bG.2 hi,e⟩
variable {D E c d:Nat}
def eP (D:Nat) (q:Rat):Prop:=∃z:Int,q=mkRat z D
theorem eP.own (q:Rat):eP q.den q:=⟨q.num,(Rat.mkRat_self q).symm⟩
theorem eP.zero (D:Nat):eP D 0:=⟨0,by simp⟩
theorem eP.one:eP 1 1:=⟨1,rfl⟩
theorem eP.add (hp:eP D p) (hq:eP D q):eP D (p+q):=by
 obtain⟨x,rfl⟩:=hp;obtain⟨y,rfl⟩:=hq;refine⟨x+y,?_⟩;rw[Rat.mkRat_eq_div,Rat.mkRat_eq_div,Rat.mkRat_eq_div,D8,D8,D8, <- Rat.add_mul,Rat.intCast_add]
theorem eP.mul (hp:eP D p) (hq:eP E q):eP (D*E) (p*q):=by
 obtain⟨x,rfl⟩:=hp;obtain⟨y,rfl⟩:=hq;exact⟨x*y,Rat.mkRat_mul_mkRat ..⟩
theorem eP.times (hD:D≠0) (h:eP D q) (hE:E≠0):eP (D*E) q:=by
 obtain⟨x,rfl⟩:=h;refine⟨x*E,?_⟩;rw[Rat.mkRat_eq_iff hD (Eb hD hE),iH,Int.mul_assoc,Int.mul_comm (E:Int)]
theorem eP.dvd (hD:D≠0) (h:eP D q):q.den∣D:=by
 obtain⟨x,rfl⟩:=h;rw[<- Rat.normalize_eq_mkRat hD,Rat.normalize_eq];exact Nat.div_dvd_of_dvd (Nat.gcd_dvd_right _ _)
def kX (c:Nat) (q:Rat):Prop:=0<=q/\q<=(c:Rat)
theorem eP.size (hD:D≠0) (h:eP D q) (hb:kX c q):qw q<=2*(B D).size+(B c).size:=by
 have hd:=Nat.le_of_dvd (lX hD) (h.dvd hD);have h1:=(Rat.le_iff _ _).1 hb.2;have h2:=Rat.num_nonneg.2 hb.1
 have h3:q.num.natAbs<=c*D:=by
  have e1:((c:Nat):Rat).num=(c:Int):=rfl;have e2:((c:Nat):Rat).den=1:=rfl;rw[e1,e2] at h1;have h4:(c:Int)*(q.den:Int)<=(c:Int)*(D:Int):=Int.mul_le_mul_of_nonneg_left (Int.ofNat_le.2 hd) (QQ c)
  have h5:q.num<=(c:Int)*(D:Int):=by
   (have:q.num*((1:Nat):Int)=q.num:=by simp);rw[this] at h1;exact Int.le_trans h1 h4
  have h6:((q.num.natAbs:Nat):Int)=q.num:=Int.natAbs_of_nonneg h2;have h7:((q.num.natAbs:Nat):Int)<=((c*D:Nat):Int):=by rw[h6,iH];exact h5
  exact Int.ofNat_le.1 h7
 have s1:=kj h3;have s2:=ac7 c D;have s3:=kj hd;simp only[qw];omega
theorem kX.mul (hp:kX c p) (hq:kX d q):kX (c*d) (p*q):=by
 refine⟨Rat.mul_nonneg hp.1 hq.1,?_⟩;rw[Rat.natCast_mul];exact Rat.le_trans (Rat.mul_le_mul_of_nonneg_right hp.2 hq.1) (Rat.mul_le_mul_of_nonneg_left hq.2 (Rat.le_trans hp.1 hp.2))
theorem kX.add (hp:kX c p) (hq:kX d q):kX (c+d) (p+q):=by
 refine⟨Rat.add_nonneg hp.1 hq.1,?_⟩;rw[Rat.natCast_add];exact Rat.le_trans (Rat.add_le_add_right.2 hp.2) (Rat.add_le_add_left.2 hq.2)
theorem eP.sum {g:Nat ->Rat}:∀ {k:Nat},(∀x,x< k ->eP D (g x)) ->eP D (a8 g k)
 |0,_=>eP.zero D
 |k+1,h=>by rw[a8];exact(eP.sum fun x hx=>h x (by omega)).add (h k (Nat.lt_succ_self k))
theorem kX.sum {g:Nat ->Rat}:∀ {k:Nat},(∀x,x< k ->kX c (g x)) ->kX (k*c) (a8 g k)
 |0,_=>by rw[a8,jw];exact⟨zT,zT⟩
 |k+1,h=>by rw[a8,Nat.succ_mul];exact(kX.sum fun x hx=>h x (by omega)).add (h k (Nat.lt_succ_self k))
def ko (S:List Nat):List (Nat×Nat) ->List Tb ->List Tb
 |[],P=>P
 |p::l,P=>ko S l (P.map (gK S p.1 p.2))
def fC (free:List Nat):List (Nat×Nat) ->List Nat
 |[]=>free
 |p::l=>fC (free.filter fun u=>!(u==p.1)) l
theorem yK:∀ {l:List (Nat×Nat)} {free:List Nat},u∈fC free l↔u∈free/\¬u∈l.map (·.1)
 |[],free=>⟨fun h=>⟨h,qG⟩,fun h=>h.1⟩
 |p::l,free=>by
  rw[fC,yK,gQ,dK,not_or,abp,and_assoc];refine and_congr Iff.rfl (and_congr ?_ Iff.rfl);simp
theorem J4:∀ {l:List (Nat×Nat)} {free:List Nat},free.Nodup ->(fC free l).Nodup
 |[],_,h=>h
 |p::l,free,h=>by rw[fC];exact J4 (h.filter _)
theorem PI.fixes (hp:Pos S):∀ {l:List (Nat×Nat)} {free:List Nat} {P:List Tb} {F:(Nat ->Nat) ->Rat},(l.map (·.1)).Nodup ->(∀p∈l,p.2<sz S p.1) ->PI S n free P F ->PI S n (fC free l) (ko S l P) (fun g=>F (cY l g))
 |[],_,_,_,_,_,h=>h
 |p::l,free,P,F,hn,hx,h=>by
  rw[gQ,pP] at hn;have nH:∀q∈l,q.1≠p.1:=fun q hq e=>hn.1 (by rw[<- e];exact aaQ.2 ⟨q,hq,rfl⟩);have:=PI.fixes hp hn.2 (fun q hq=>hx q (eE _ hq)) (h.fix hp (hx p dJ));refine⟨this.ok,this.sub,this.sup,fun g hg=>?_⟩;rw[ko,this.val g hg];show F (aQ (cY l g) p.1 p.2)=F (cY l (aQ g p.1 p.2));rw[Ns nH]
theorem NN.fixes (hp:Pos S):∀ {l:List (Nat×Nat)} {P:List Tb},(∀p∈l,p.2<sz S p.1) ->(∀t∈P,di S n t) ->NN S P ->NN S (ko S l P)
 |[],_,_,_,h=>h
 |p::l,P,hx,ho,h=>by
  rw[ko]
  exact NN.fixes hp (fun q hq=>hx q (eE _ hq)) (fun t ht=>by
   obtain⟨s,hs,rfl⟩:=aaQ.1 ht;exact(ho s hs).fix _ _) (h.fix hp ho (hx p dJ))
def iX (S:List Nat) (most:Bool) (keep:Nat ->Bool):List Nat ->List Tb ->List Tb
 |[],P=>P
 |v::vs,P=>iX S most keep vs (if keep v then P else abW S v most P)
theorem ZJ:u∈free.filter (fun u=>!(u==v))↔u∈free/\u≠v:=by simp[abp]
theorem PI.outs (hp:Pos S) (keep:Nat ->Bool):∀(vs:List Nat) {free:List Nat} {P:List Tb} {F:(Nat ->Nat) ->Rat},PI S n free P F ->∃free',(∀u,u∈free'↔u∈free/\(u∈vs ->keep u=true))/\PI S n free' (iX S false keep vs P) (H6 S (vs.filter fun v=>!keep v) F)
 |[],free,P,F,h=>⟨free,fun u=>⟨fun h=>⟨h,fun e=>absurd e qG⟩,fun h=>h.1⟩,h⟩
 |v::vs,free,P,F,h=>by
  cases hk:keep v with
  |true=>
   obtain⟨free',h1,h2⟩:=PI.outs hp keep vs h;refine⟨free',fun u=>(h1 u).trans (and_congr Iff.rfl ⟨fun h hu=>?_,fun h hu=>h (eE _ hu)⟩),?_⟩
   ·rcases dK.1 hu with rfl |hu
    ·exact hk
    ·exact h hu
   ·rw[iX,aaf hk,Ae (by simp[hk])];exact h2
  |false=>
   obtain⟨free',h1,h2⟩:=PI.outs hp keep vs (h.o hp v);refine⟨free',fun u=>(h1 u).trans ?_,?_⟩
   ·rw[ZJ,and_assoc];refine and_congr Iff.rfl ⟨fun h hu=>?_,fun h=>⟨fun e=>?_,fun hu=>h (eE _ hu)⟩⟩
    ·rcases dK.1 hu with e |hu
     ·exact absurd e h.1
     ·exact h.2 hu
    ·have:=h (by rw[e];exact dJ);rw[e,hk] at this;exact absurd this (by decide)
   ·rw[iX,aaO (by simp[hk]),Ad (by simp[hk])];exact h2
theorem PI.mosts (hp:Pos S) (keep:Nat ->Bool):∀(vs:List Nat) {free:List Nat} {P:List Tb} {F:(Nat ->Nat) ->Rat},PI S n free P F ->NN S P ->∃free',(∀u,u∈free'↔u∈free/\(u∈vs ->keep u=true))/\PI S n free' (iX S true keep vs P) (elimM S (vs.filter fun v=>!keep v) F)/\NN S (iX S true keep vs P)
 |[],free,P,F,h,hn=>⟨free,fun u=>⟨fun h=>⟨h,fun e=>absurd e qG⟩,fun h=>h.1⟩,h,hn⟩
 |v::vs,free,P,F,h,hn=>by
  cases hk:keep v with
  |true=>
   obtain⟨free',h1,h2⟩:=PI.mosts hp keep vs h hn;refine⟨free',fun u=>(h1 u).trans (and_congr Iff.rfl ⟨fun h hu=>?_,fun h hu=>h (eE _ hu)⟩),?_⟩
   ·rcases dK.1 hu with rfl |hu
    ·exact hk
    ·exact h hu
   ·rw[iX,aaf hk,Ae (by simp[hk])];exact h2
  |false=>
   obtain⟨free',h1,h2⟩:=PI.mosts hp keep vs (h.most hp hn v).1 (h.most hp hn v).2;refine⟨free',fun u=>(h1 u).trans ?_,?_⟩
   ·rw[ZJ,and_assoc];refine and_congr Iff.rfl ⟨fun h hu=>?_,fun h=>⟨fun e=>?_,fun hu=>h (eE _ hu)⟩⟩
    ·rcases dK.1 hu with e |hu
     ·exact absurd e h.1
     ·exact h.2 hu
    ·have:=h (by rw[e];exact dJ);rw[e,hk] at this;exact absurd this (by decide)
   ·rw[iX,aaO (by simp[hk]),Ad (by simp[hk])];exact h2
def Low (l:List Fr):Prop:=∀f∈l,f=qF (aT f)
theorem Vq (S:List Nat) (P:List Tb):Low (allT S P).2:=by
 have:∀(P:List Tb) (a:Tb),Low a.2 ->Low (P.foldl (yH S) a).2:=fun P=>by
  induction P with
  |nil=>exact fun _ h=>h
  |cons t P ih=>
   intro a _;refine ih _ fun f hf=>?_;obtain⟨K,_,rfl⟩:=aaQ.1 hf;rw[qQ]
 exact this P Cu fun f hf=>by rw[fX.1 hf,qQ]
theorem Rh (hp:Pos S) {t:Tb} (ht:di S n t) (hl:Low t.2):t.2=(List.range (cnt S (ag t.1))).map fun K=>qF (tQ S (tN t) (aO S (ag t.1) K)):=by
 refine pS (by rw[ht.len];simp) fun K h1 h2=>?_;have hK:K<cnt S (ag t.1):=by rw[<- ht.len];exact h1
 have e:tQ S (tN t) (aO S (ag t.1) K)=aT (bA t.2 (pos S (aO S (ag t.1) K) (ag t.1))):=rfl;rw[acj,qH,e,Nw hp ht.up.nodup hK,pz h1];exact hl _ (bH h1)
theorem PI.net {V:List Vr} (h0:aW V L R=0) (hlt:∀v∈ws,v<V.length) (hc:lT L (·∈ws)):PI (ah V) V.length ws (ws.map fun v=>(gU L v,gL V L R v)) (fun g=>dA V L R g ws):=by
 have aM:=gD h0
 have aX:∀v,v<V.length ->Up (gU L v) V.length:=fun v hv=>by
  have dG:v<L.length:=by rw[aM.len];exact hv
  have Lc:L.getD v []=L[v]:=by rw[b7,af dG];rfl
  rw[gU,Lc];exact GI (aM.up v dG) (Q7 hv)
 have hin:∀v u,u∈ag (gU L v)↔u∈ag (L.getD v [])∨u=v:=fun v u=>by
  rw[gU,M9];refine or_congr Iff.rfl ?_;simp[ag]
 refine⟨fun t ht=>?_,fun t ht u hu=>?_,fun u hu=>?_,fun g hg=>?_⟩
 ·obtain⟨v,hv,rfl⟩:=aaQ.1 ht;exact⟨aX v (hlt v hv),by simp[gL]⟩
 ·obtain⟨v,hv,rfl⟩:=aaQ.1 ht;rcases (hin v u).1 hu with h |rfl
  ·exact hc v hv u h
  ·exact hv
 ·exact⟨_,aaQ.2 ⟨u,hu,rfl⟩,(hin u u).2 (.inr rfl)⟩
 ·have:∀ {vs:List Nat},(∀v∈vs,v<V.length) ->pQ (ah V) g ((vs.map fun v=>((gU L v,gL V L R v):Tb)).map tN)=dA V L R g vs:=fun {vs}=>by
   induction vs with
   |nil=>intro _;rfl
   |cons v vs ih=>
    intro h;rw[gQ,gQ,pQ,dA,ih fun u hu=>h u (eE _ hu)];congr 1
    exact Rj h0 (h v dJ) hg
  exact this hlt
theorem NN.net {V:List Vr} (h0:aW V L R=0) (hlt:∀v∈ws,v<V.length):NN (ah V) (ws.map fun v=>(gU L v,gL V L R v)):=fun t ht g hg=>by
 obtain⟨v,hv,rfl⟩:=aaQ.1 ht;exact akd h0 (hlt v hv) hg
theorem aaa:∀(l:List (Nat×Nat)) (F:(Nat ->Nat) ->Rat) (f:Nat ->Nat),(∀p∈l,¬p.1∈ws) ->eV S ws F (cY l f)=eV S ws (fun g=>F (cY l g)) f
 |[],_,_,_=>rfl
 |p::l,F,f,h=>by
  rw[cY,aaa l F _ fun q hq=>h q (eE _ hq),Sr _ ws f (h p dJ)];rfl
theorem acY:∀(a b:List (Nat×Nat)) (g:Nat ->Nat),jX (a++b) g=jX a g*jX b g
 |[],b,g=>by rw[iD,jX,vZ]
 |p::a,b,g=>by rw[fg,jX,jX,acY a b g,yj]
theorem Nt:∀(a b:List (Nat×Nat)) (g:Nat ->Nat),cY (a++b) g=cY b (cY a g)
 |[],_,_=>rfl
 |p::a,b,g=>by rw[fg,cY,Nt a b];rfl
def qV (S q:List Nat) (K:Nat):List (Nat×Nat):=q.map fun v=>(v,aO S q K v)
theorem RT (S q:List Nat) (K:Nat):(qV S q K).map (·.1)=q:=by
 rw[qV,wj];exact List.map_id' q
theorem agl {q:List Nat} (hn:q.Nodup) (K:Nat):cY (qV S q K) (fun _=>0)=aO S q K:=funext fun u=>by
 by_cases hu:u∈q
 ·exact G0 (p:=(u,aO S q K u)) ((RT S q K).symm▸hn) (aaQ.2 ⟨u,hu,rfl⟩) _
 ·rw[Cr (by rw[RT];exact hu),Bg hu]
theorem aiC {V:List Vr} (h0:aW V L R=0) {q:List Nat} {l:List (Nat×Nat)} (hn:ws.Nodup) (hlt:∀v∈ws,v<V.length) (hc:lT L (·∈ws)) (hl:(l.map (·.1)).Nodup) (Kj:∀p∈l,p.1∈ws) (hx:∀p∈l,p.2<sz (ah V) p.1) (hq:q.Nodup) (AW:∀v∈q,v∈ws/\¬v∈l.map (·.1)) {K:Nat} (hK:K<cnt (ah V) q):
  H6 (ah V) ((fC ws l).filter fun v=>!q.contains v) (fun g=>dA V L R (cY l g) ws) (aO (ah V) q K)=a8 (fun k=>jX (qV (ah V) q K++l) (aO (ah V) (List.range V.length) k)*ji V L R (aO (ah V) (List.range V.length) k) V.length) (cnt (ah V) (List.range V.length)):=by
 have df:Pos (ah V):=by have:=(gD h0).fine.pos;rwa [ew] at this
 have Tm:∀u,u∈(fC ws l).filter (fun v=>!q.contains v)↔(u∈ws/\¬u∈l.map (·.1))/\¬u∈q:=fun u=>by
  rw[abp,yK,Bool.not_eq_true', <- Bool.not_eq_true,lh]
 have MU:((fC ws l).filter fun v=>!q.contains v).Nodup:=(J4 hn).filter _
 have hperm:ws.Perm ((qV (ah V) q K++l).map (·.1)++(fC ws l).filter fun v=>!q.contains v):=by
  rw[fY,RT];refine(Jd hn ?_).2 fun u=>?_
  ·refine Gq.2 ⟨Gq.2 ⟨hq,hl,fun a ha b hb e=>(AW a ha).2 (e▸hb)⟩,MU,fun a ha b hb e=>?_⟩;obtain⟨⟨_,h1⟩,h2⟩:=(Tm b).1 hb;rcases aa5.1 ha with ha |ha
   ·exact h2 (e▸ha)
   ·exact h1 (e▸ha)
  ·rw[aa5,aa5,Tm];constructor
   ·intro h;by_cases h1:u∈q
    ·exact .inl (.inl h1)
    ·by_cases h2:u∈l.map (·.1)
     ·exact .inl (.inr h2)
     ·exact .inr ⟨⟨h,h2⟩,h1⟩
   ·rintro((h |h) |h)
    ·exact(AW u h).1
    ·obtain⟨p,hp,rfl⟩:=aaQ.1 h;exact Kj p hp
    ·exact h.1.1
 rw[agq h0 hn hlt hc hperm (fun p hp=>by
  rcases aa5.1 hp with hp |hp
  ·obtain⟨u,_,rfl⟩:=aaQ.1 hp;exact nN df q K u hK
  ·exact hx p hp),ala (List.Perm.refl _) MU, <- agl hq K,aaa _ _ _ fun p hp=>?_]
 ·simp only[Nt]
 ·obtain⟨u,hu,rfl⟩:=aaQ.1 hp;exact fun h=>((Tm u).1 h).2 hu
structure qo (S:List Nat) (t:Tb) (D c:Nat):Prop where
 nz:D≠0
 one:1<=c
 isD:∀g,Fit S g ->eP D (tQ S (tN t) g)
 btw:∀g,Fit S g ->kX c (tQ S (tN t) g)
def PD (S:List Nat) (P:List Tb) (D c:Nat):Prop:=∀M:List Tb ->Nat ->Nat ->Prop,M [] 1 1 ->(∀t P D c E d,qo S t D c ->M P E d ->M (t::P) (D*E) (c*d)) ->M P D c
theorem PD.nil:PD S [] 1 1:=fun _ h1 _=>h1
theorem PD.cons {t:Tb} {P:List Tb} (h:qo S t D c) (hp:PD S P E d):PD S (t::P) (D*E) (c*d):=fun M h1 h2=>h2 _ _ _ _ _ _ h (hp M h1 h2)
theorem PD.ind {M:∀P D c,PD S P D c ->Prop} (nil:M [] 1 1 .nil) (cons:∀ {t:Tb} {P:List Tb} {D c E d:Nat} (h:qo S t D c) (hp:PD S P E d),M P E d hp ->M (t::P) (D*E) (c*d) (.cons h hp)):∀ {P:List Tb} {D c:Nat} (h:PD S P D c),M P D c h:=fun {_ _ _} h=>by
 obtain⟨_,k⟩:=h (fun P D c=>∃h,M P D c h) ⟨_,nil⟩ (fun _ _ _ _ _ _ ht ⟨_,ih⟩=>⟨_,cons ht _ ih⟩);exact k
theorem PD.nz {P:List Tb} (h:PD S P D c):D≠0/\1<=c:=by
 induction h using PD.ind with
 |nil=>exact⟨by decide,by decide⟩
 |cons ht _ ih=>exact⟨Eb ht.nz ih.1,iW ht.one ih.2⟩
theorem PD.append {P Q:List Tb} (h:PD S P D c) (hq:PD S Q E d):PD S (P++Q) (D*E) (c*d):=by
 induction h using PD.ind with
 |nil=>rw[kB,kB];exact hq
 |cons ht _ ih=>rw[il,il];exact PD.cons ht ih
theorem PD.single {t:Tb} (h:qo S t D c):PD S [t] D c:=by
 have:=PD.cons h (PD.nil (S:=S));rwa [mN,mN] at this
theorem PD.parts (p:Tb ->Bool) {P:List Tb} (h:PD S P D c):∃D1 c1 D2 c2,PD S (P.filter fun t=>!p t) D1 c1/\PD S (P.filter p) D2 c2/\D1*D2=D/\c1*c2=c:=by
 induction h using PD.ind with
 |nil=>exact⟨1,1,1,1,.nil,.nil,rfl,rfl⟩
 | @cons t P D c E d ht _ ih=>
  obtain⟨D1,c1,D2,c2,h1,h2,rfl,rfl⟩:=ih;cases hp:p t with
  |false=>
   refine⟨D*D1,c*c1,D2,c2,?_,?_,il ..,il ..⟩
   ·rw[Ad (by simp[hp])];exact .cons ht h1
   ·rw[Ae (by simp[hp])];exact h2
  |true=>
   refine⟨D1,c1,D*D2,c*c2,?_,?_,zW ..,zW ..⟩
   ·rw[Ae (by simp[hp])];exact h1
   ·rw[Ad hp];exact .cons ht h2
theorem PD.prod {P:List Tb} (h:PD S P D c) {g:Nat ->Nat} (hg:Fit S g):eP D (pQ S g (P.map tN))/\kX c (pQ S g (P.map tN)):=by
 induction h using PD.ind with
 |nil=>exact⟨eP.one,by rw[ld,pQ];exact⟨by decide,by decide⟩⟩
 |cons ht _ ih=>rw[gQ,pQ];exact⟨(ht.isD g hg).mul ih.1,(ht.btw g hg).mul ih.2⟩
theorem PD.all (hp:Pos S) {P:List Tb} (ho:∀t∈P,di S n t) (h:PD S P D c):qo S (allT S P) D c:=by
 obtain⟨_,_,h3⟩:=xH hp ho;exact⟨h.nz.1,h.nz.2,fun g hg=>by rw[h3 g hg];exact(h.prod hg).1,fun g hg=>by rw[h3 g hg];exact(h.prod hg).2⟩
theorem qo.o (hp:Pos S) {t:Tb} (ho:di S n t) (h:qo S t D c) (v:Nat):qo S (outT S v false t) D (sz S v*c):=by
 have e:∀g,Fit S g ->tQ S (tN (outT S v false t)) g=a8 (fun x=>tQ S (tN t) (aQ g v x)) (sz S v):=fun g hg=>ads hp (tI ho.up _).nodup (Cy ho.up v) _ hg;refine⟨h.nz,iW (im hp v) h.one,fun g hg=>?_,fun g hg=>?_⟩
 ·rw[e g hg];exact eP.sum fun x hx=>h.isD _ (hg.with hx)
 ·rw[e g hg];exact kX.sum fun x hx=>h.btw _ (hg.with hx)
theorem qo.most (hp:Pos S) {t:Tb} (ho:di S n t) (h:qo S t D c) (v:Nat):qo S (outT S v true t) D c:=by
 have hsz:=im hp v
 have e:∀g,Fit S g ->∃x,x<sz S v/\tQ S (tN (outT S v true t)) g=tQ S (tN t) (aQ g v x):=fun g hg=>by
  have e1:tQ S (tN (outT S v true t)) g=jz true (fun x=>tQ S (tN t) (aQ g v x)) (sz S v - 1):=X3 hp (tI ho.up _).nodup (Cy ho.up v) _ hg;obtain⟨x,hx,e2⟩:=G8 (fun x=>tQ S (tN t) (aQ g v x)) (sz S v - 1);exact⟨x,by omega,e1.trans e2⟩
 refine⟨h.nz,h.one,fun g hg=>?_,fun g hg=>?_⟩
 ·obtain⟨x,hx,e⟩:=e g hg;rw[e];exact h.isD _ (hg.with hx)
 ·obtain⟨x,hx,e⟩:=e g hg;rw[e];exact h.btw _ (hg.with hx)
theorem qo.fix (hp:Pos S) {t:Tb} (ho:di S n t) (h:qo S t D c) {x:Nat} (hx:x<sz S v):qo S (gK S v x t) D c:=by
 have e:∀g,Fit S g ->tQ S (tN (gK S v x t)) g=tQ S (tN t) (aQ g v x):=fun g hg=>Rk hp (tI ho.up _).nodup (Cy ho.up v) _ hg;exact⟨h.nz,h.one,fun g hg=>by rw[e g hg];exact h.isD _ (hg.with hx),fun g hg=>by rw[e g hg];exact h.btw _ (hg.with hx)⟩
theorem PD.o (hp:Pos S) {P:List Tb} (ho:∀t∈P,di S n t) (h:PD S P D c) (v:Nat):PD S (abW S v false P) D (sz S v*c):=by
 obtain⟨D1,c1,D2,c2,h1,h2,rfl,rfl⟩:=h.parts fun t=>decide (v∈ag t.1);have ho2:∀t∈P.filter (fun t=>decide (v∈ag t.1)),di S n t:=fun t ht=>ho t (abp.1 ht).1;have:=h1.append (PD.single ((h2.all hp ho2).o hp (xH hp ho2).1 v));rw[zW] at this;exact this
theorem PD.most (hp:Pos S) {P:List Tb} (ho:∀t∈P,di S n t) (h:PD S P D c) (v:Nat):PD S (abW S v true P) D c:=by
 obtain⟨D1,c1,D2,c2,h1,h2,rfl,rfl⟩:=h.parts fun t=>decide (v∈ag t.1);have ho2:∀t∈P.filter (fun t=>decide (v∈ag t.1)),di S n t:=fun t ht=>ho t (abp.1 ht).1;exact h1.append (PD.single ((h2.all hp ho2).most hp (xH hp ho2).1 v))
theorem PD.fix (hp:Pos S) {P:List Tb} (h:PD S P D c) (ho:∀t∈P,di S n t) {x:Nat} (hx:x<sz S v):PD S (P.map (gK S v x)) D c:=by
 induction h using PD.ind with
 |nil=>exact .nil
 |cons ht _ ih=>exact .cons (ht.fix hp (ho _ dJ) hx) (ih fun t h=>ho t (eE _ h))
theorem qo.size {t:Tb} (h:qo S t D c) {g:Nat ->Nat} (hg:Fit S g):qw (tQ S (tN t) g)<=2*(B D).size+(B c).size:=(h.isD g hg).size h.nz (h.btw g hg)
def vG:List Fr ->Nat
 |[]=>1
 |f::l=>(aT f).den*vG l
theorem Ld:∀l,vG l≠0
 |[]=>by decide
 |f::l=>Eb (aT f).den_nz (Ld l)
theorem acp:∀ {l:List Fr} {f:Fr},f∈l ->eP (vG l) (aT f)
 |g::l,f,h=>by
  rcases dK.1 h with rfl |h
  ·exact(eP.own _).times (aT f).den_nz (Ld l)
  ·rw[vG,abr];exact(acp h).times (Ld l) (aT g).den_nz
def eW (R:List (List Fr)):List Nat ->Nat
 |[]=>1
 |v::vs=>vG (R.getD v [])*eW R vs
theorem aiE {V:List Vr} (h0:aW V L R=0) (hv:v<V.length) (hf:Fit (ah V) f):aT (dF V L R f v)<=1:=by
 have h1:=row_one h0 hv hf
 have hle:∀ {g:Nat ->Rat} {k x:Nat},x< k ->(∀y,y< k ->0<=g y) ->g x<=a8 g k:=fun {g k x} hx hg=>by
  have nB:∀j,j<=k ->0<=a8 g j:=fun j=>by
   induction j with
   |zero=>intro _;exact zT
   |succ j ih=>intro hj;rw[a8];exact Rat.add_nonneg (ih (by omega)) (hg j (by omega))
  have:∀j,x< j ->j<=k ->g x<=a8 g j:=fun j=>by
   induction j with
   |zero=>intro h;omega
   |succ j ih=>
    intro h hj;rw[a8];rcases cD x j with Ma |Ma
    ·have h3:=(Rat.add_le_add_left (c:=a8 g j)).2 (hg j (by omega));rw[Rat.add_zero] at h3;exact Rat.le_trans (ih Ma (by omega)) h3
    ·have e:x=j:=by omega
     have h3:=(Rat.add_le_add_right (c:=g j)).2 (nB j (by omega));rw[Rat.zero_add] at h3;rw[e];exact h3
  exact this k hx (ar _)
 have h2:=hle (g:=fun x=>aT (dF V L R (aQ f v x) v)) (k:=sz (ah V) v) (hf v) fun y hy=>N5 h0 hv (hf.with hy);rw[h1] at h2;simpa only[Xz] using h2
theorem PD.net {V:List Vr} (h0:aW V L R=0):∀ {ws:List Nat},(∀v∈ws,v<V.length) ->PD (ah V) (ws.map fun v=>(gU L v,gL V L R v)) (eW R ws) 1
 |[],_=>.nil
 |v::ws,h=>by
  have hv:=h v dJ;have aM:=gD h0;have dG:v<L.length:=by rw[aM.len];exact hv
  have kn:v<R.length:=by rw[aM.lenR];exact hv
  have ht:qo (ah V) (gU L v,gL V L R v) (vG (R.getD v [])) 1:=by
   have e:∀g,Fit (ah V) g ->tQ (ah V) (tN (gU L v,gL V L R v)) g=aT (dF V L R g v):=fun g hg=>Rj h0 hv hg;refine⟨Ld _,ar _,fun g hg=>?_,fun g hg=>?_⟩
   ·rw[e g hg,dF,bA];cases hk:(R.getD v [])[p6 (ah V) (ag (L.getD v [])) g v]? with
    |none=>exact⟨0,by rw[Option.getD_none];show aT y8=_;rw[show aT y8=0 from Jo rfl];simp⟩
    |some f=>exact acp (apT hk)
   ·rw[e g hg];exact⟨N5 h0 hv hg,aiE h0 hv hg⟩
  exact PD.cons ht (PD.net h0 fun u hu=>h u (eE _ hu))
theorem akP (S:List Nat) (v x:Nat) (t:Tb):Low (gK S v x t).2:=fun f hf=>by
 obtain⟨K,_,rfl⟩:=aaQ.1 hf;rw[qQ]
theorem ag7 (S:List Nat) (v:Nat) (most:Bool) (t:Tb):Low (outT S v most t).2:=fun f hf=>by
 obtain⟨K,_,rfl⟩:=aaQ.1 hf;rw[qQ]
theorem akj (V:List Vr) (L:List (List Int)) (R:List (List Fr)) (v:Nat):Low (gL V L R v):=fun f hf=>by
 obtain⟨K,_,rfl⟩:=aaQ.1 hf;rw[qQ]
structure eX (S:List Nat) (n:Nat) (P:List Tb) (D c:Nat):Prop where
 ok:∀t∈P,di S n t
 pd:PD S P D c
 low:∀t∈P,Low t.2
theorem PD.each {P:List Tb} (h:PD S P D c):∀t∈P,∃E d,qo S t E d/\E<=D/\d<=c:=by
 induction h using PD.ind with
 |nil=>intro t ht;cases ht
 | @cons t P D c E d h1 h2 ih=>
  have hn:=h2.nz;have hE:=lX hn.1;intro u hu;rcases dK.1 hu with rfl |hu
  ·exact⟨D,c,h1,Nat.le_mul_of_pos_right D hE,Nat.le_mul_of_pos_right c hn.2⟩
  ·obtain⟨E',d',k1,k2,k3⟩:=ih u hu;exact⟨E',d',k1,aS k2 (zX E (lX h1.nz)),aS k3 (zX d h1.one)⟩
theorem PD.take {P:List Tb} (h:PD S P D c):∀k,∃E d,PD S (P.take k) E d/\E<=D/\d<=c:=by
 induction h using PD.ind with
 |nil=>intro k;exact⟨1,1,by rw[List.take_nil];exact .nil,ar _,ar _⟩
 | @cons t P D c E d h1 h2 ih=>
  have hn:=h2.nz;intro k;cases k with
  |zero=>
   exact⟨1,1,.nil,Nat.mul_pos (lX h1.nz) (lX hn.1),Nat.mul_pos h1.one hn.2⟩
  |succ k=>
   obtain⟨E',d',k1,k2,k3⟩:=ih k;exact⟨D*E',c*d',.cons h1 k1,kZ _ k2,kZ _ k3⟩
theorem PD.filter {P:List Tb} (h:PD S P D c) (p:Tb ->Bool):∃E d,PD S (P.filter p) E d/\E<=D/\d<=c:=by
 obtain⟨D1,c1,D2,c2,h1,h2,e1,e2⟩:=h.parts p;have n1:=h1.nz;have n2:=h2.nz;exact⟨D2,c2,h2,by rw[<- e1];exact zX _ (lX n1.1),by rw[<- e2];exact zX _ n1.2⟩
theorem adr (hp:Pos S) {t:Tb} (ht:di S n t) (hl:Low t.2) (h:qo S t E d) (hE:E<=D) (hd:d<=c) (hm:2*(B D).size+(B c).size+2<=m):Cw m t.2:=fun k hk=>by
 have hK:k<cnt S (ag t.1):=by rw[<- ht.len];exact hk
 have e:bA t.2 k=qF (tQ S (tN t) (aO S (ag t.1) k)):=by
  rw[pz hk];have:=Rh hp ht hl;have h2:t.2[k]? =((List.range (cnt S (ag t.1))).map fun K=>qF (tQ S (tN t) (aO S (ag t.1) K)))[k]?:=by rw[<- this]
  rw[af hk,oh,List.getElem?_range hK] at h2;exact lV h2
 have hs:=h.size (g:=aO S (ag t.1) k) (fun u=>nN hp _ k u hK);have h1:=kj hE;have h3:=kj hd;rw[e];show (nu _).size+(de _).size+2<=m;have hq:(nu (tQ S (tN t) (aO S (ag t.1) k))).size+(de (tQ S (tN t) (aO S (ag t.1) k))).size=qw (tQ S (tN t) (aO S (ag t.1) k)):=rfl;omega
theorem eX.cw (hp:Pos S) {P:List Tb} (h:eX S n P D c) (hm:2*(B D).size+(B c).size+2<=m):∀t∈P,Cw m t.2:=fun t ht=>by
 obtain⟨E,d,k1,k2,k3⟩:=h.pd.each t ht;exact adr hp (h.ok t ht) (h.low t ht) k1 k2 k3 hm
theorem eX.part (hp:Pos S) {P:List Tb} (h:eX S n P D c) (hm:2*(B D).size+(B c).size+2<=m) (k:Nat):di S n (allT S (P.take k))/\Cw m (allT S (P.take k)).2:=by
 obtain⟨E,d,k1,k2,k3⟩:=h.pd.take k;have ho:∀t∈P.take k,di S n t:=fun t ht=>h.ok t (List.mem_of_mem_take ht);have h1:=(xH hp ho).1;exact⟨h1,adr hp h1 (Vq S _) (PD.all hp ho k1) k2 k3 hm⟩
theorem eX.filter {P:List Tb} (h:eX S n P D c) (p:Tb ->Bool):∃E d,eX S n (P.filter p) E d/\E<=D/\d<=c:=by
 obtain⟨E,d,k1,k2,k3⟩:=h.pd.filter p;exact⟨E,d,⟨fun t ht=>h.ok t (abp.1 ht).1,k1,fun t ht=>h.low t (abp.1 ht).1⟩,k2,k3⟩
theorem eX.fix (hp:Pos S) {P:List Tb} (h:eX S n P D c) {x:Nat} (hx:x<sz S v):eX S n (P.map (gK S v x)) D c:=
 ⟨fun t ht=>by
  obtain⟨u,hu,rfl⟩:=aaQ.1 ht;exact(h.ok u hu).fix v x,h.pd.fix hp h.ok hx,fun t ht=>by
  obtain⟨u,_,rfl⟩:=aaQ.1 ht;exact akP S v x u⟩
theorem ZM (hp:Pos S) {P:List Tb} (h:∀t∈P,di S n t) (v:Nat) (most:Bool):∀t∈abW S v most P,di S n t:=fun t ht=>by
 rcases aa5.1 ht with ht |ht
 ·exact h t (abp.1 ht).1
 ·rw[fX.1 ht];exact((xH hp fun u hu=>h u (abp.1 hu).1).1).o v most
theorem ZN {P:List Tb} (h:∀t∈P,Low t.2) (v:Nat) (most:Bool):∀t∈abW S v most P,Low t.2:=fun t ht=>by
 rcases aa5.1 ht with ht |ht
 ·exact h t (abp.1 ht).1
 ·rw[fX.1 ht];exact ag7 S v most _
theorem eX.o (hp:Pos S) {P:List Tb} (h:eX S n P D c) (v:Nat):eX S n (abW S v false P) D (sz S v*c):=⟨ZM hp h.ok v false,h.pd.o hp h.ok v,ZN h.low v false⟩
theorem eX.most (hp:Pos S) {P:List Tb} (h:eX S n P D c) (v:Nat):eX S n (abW S v true P) D c:=⟨ZM hp h.ok v true,h.pd.most hp h.ok v,ZN h.low v true⟩
variable {x':Value}
theorem bZ.farT {c:Option Addr} {l:List Fr} (h:bZ V c l) (hb:bh V g x y) (hx:cM x) (hy:cM y) (j:Nat) (u:Value):bZ (V.setCell ⟨g,j,none⟩ u) c l:=fun k hk=>by
 obtain⟨g',o,rfl,hlt,h0,h1,h2⟩:=h k hk;obtain⟨a1,n1,c1,rfl⟩:=hx;obtain⟨a2,n2,c2,rfl⟩:=hy
 have hne:¬g'=g:=fun e=>by
  subst e;rw[cC V g' _ _ _ (0,0) hb] at h0;match hm:o+k*3 with
  |0=>rw[hm] at h0;simp at h0
  |1=>rw[hm] at h0;simp at h0
  |m+2=>rw[hm] at h0;simp at h0
 have far:∀i,(V.setCell ⟨g,j,none⟩ u).cell? ⟨g',i,none⟩=V.cell? ⟨g',i,none⟩:=fun i=>bX _ _ _ _ (fun e=>hne (bR Addr.block e).symm);exact⟨g',o,rfl,aR hlt (iG V _ _).size,(far _).trans h0,(far _).trans h1,(far _).trans h2⟩
theorem bZ.putT {c:Option Addr} {l:List Fr} (h:bZ V c l) (hb:bh V g x y) (hx:cM x) (hy:cM y) (hx':cM x') (y':Value):bZ ((V.setCell ⟨g,0,none⟩ x').setCell ⟨g,1,none⟩ y') c l:=by
 have h1:bh (V.setCell ⟨g,0,none⟩ x') g x' y:=mM V g 0 _ _ x' hb;exact(h.farT hb hx hy 0 _).farT h1 hx' hy 1 _
section
attribute [local go_sem] Oper.semAt_some
theorem amF (a b:Option Addr) (ca cb:Nat) (sizes vars:List Int) (K:Nat) (w:World) (hs:aaK w a sizes) (hv:aaK w b vars) (aJ:eH sizes) (aX:Up vars sizes.length) (hK:K<cnt (ag sizes) (ag vars)):
  Calls Tryz.prog 102 #[.slice a sizes.length ca,.slice b vars.length cb,.int .i64 (K:Nat)] w fun e w'=>∃(g:Nat) (cc:Nat),e=.returned (.slice (some ⟨g,0,none⟩) (bM (ag sizes) (ag vars) K).length cc)/\w.heap.size<=g/\bV w' g (bM (ag sizes) (ag vars) K)/\Below w.heap.size w w':=by
 refine(gZ (n:=6)).1 ?_;have nD:=aJ.eight;have hvl:=aX.length;have hsm:cnt (ag sizes) (ag vars)<=65536:=pw aJ.sz_le (by rw[cS];omega);have hmk:=fun V=>run_make_row' (P:=Tryz.prog) 27 3 (.int .i64 0) 8 Tryz.underlying27 Tryz.infoInt rfl .i64 .i64 vars.length (by omega) (by omega) V;have HS:=hid hs;have HV:=hid hv;have HFI:=hid aJ;have gz:=hid aX;have pg:(bM (ag sizes) (ag vars) K).length=vars.length:=by rw[ue,cS]
 have qC:=hid (acX hK);rw[cS] at qC;rw[pg];clear hs hv aJ aX;refine tz Tryz.func102 rfl trivial ?_ rfl;simp only[Tryz.ntmps102,mP,eU,lg,Nat.reduceAdd,Nat.reduceSub,mV,mU,mQ,lZ,iD,fg];gi_wp2_with ((refine⟨trivial,?_⟩;gi_at_call 159;refine(Px _ _ _ _ _).ae ?_;rintro e w2 ⟨rfl,rfl⟩))
 obtain⟨W0,hW0⟩:∃W0,W0=(((((w.alloc (.cells #[.slice a sizes.length ca] 27)).alloc (.cells #[.int .i64 (K:Nat)] 3)).alloc (.cells (madeCells #[.int .i64 0] vars.length) 3)).alloc (.cells #[.slice (some ⟨w.heap.size+1+1,0,none⟩) vars.length vars.length] 27)).alloc (.cells #[.slice b vars.length cb] 27)):=⟨_,rfl⟩;have vk:W0.heap.size=w.heap.size+1+1+1+1+1:=by rw[hW0];simp
 have b0:Boxed W0 w.heap.size 27 (.slice a sizes.length ca):=by rw[hW0];exact((((a7 w _ _).alloc _).alloc _).alloc _).alloc _
 have b1:Boxed W0 (w.heap.size+1) 3 (.int .i64 (K:Nat)):=by
  have h:=((((a7 (w.alloc (.cells #[.slice a sizes.length ca] 27)) 3 (.int .i64 (K:Nat))).alloc (.cells (madeCells #[.int .i64 0] vars.length) 3)).alloc (.cells #[.slice (some ⟨w.heap.size+1+1,0,none⟩) vars.length vars.length] 27)).alloc (.cells #[.slice b vars.length cb] 27));rw[cN] at h;rw[hW0];exact h
 have r2:bV W0 (w.heap.size+1+1) (List.replicate vars.length 0):=by
  have h:=((SL ((w.alloc (.cells #[.slice a sizes.length ca] 27)).alloc (.cells #[.int .i64 (K:Nat)] 3)) vars.length).alloc (.cells #[.slice (some ⟨w.heap.size+1+1,0,none⟩) vars.length vars.length] 27)).alloc (.cells #[.slice b vars.length cb] 27);rw[cN,cN] at h;rw[hW0];exact h
 have b3:Boxed W0 (w.heap.size+1+1+1) 27 (.slice (some ⟨w.heap.size+1+1,0,none⟩) vars.length vars.length):=by
  have h:=(a7 (((w.alloc (.cells #[.slice a sizes.length ca] 27)).alloc (.cells #[.int .i64 (K:Nat)] 3)).alloc (.cells (madeCells #[.int .i64 0] vars.length) 3)) 27 (.slice (some ⟨w.heap.size+1+1,0,none⟩) vars.length vars.length)).alloc (.cells #[.slice b vars.length cb] 27);rw[cN,cN,cN] at h;rw[hW0];exact h
 have b4:Boxed W0 (w.heap.size+1+1+1+1) 27 (.slice b vars.length cb):=by
  have h:=a7 ((((w.alloc (.cells #[.slice a sizes.length ca] 27)).alloc (.cells #[.int .i64 (K:Nat)] 3)).alloc (.cells (madeCells #[.int .i64 0] vars.length) 3)).alloc (.cells #[.slice (some ⟨w.heap.size+1+1,0,none⟩) vars.length vars.length] 27)) 27 (.slice b vars.length cb);rw[cN,cN,cN,cN] at h;rw[hW0];exact h
 have hB0:Below w.heap.size w W0:=by
  rw[hW0];exact(((((au _ w).alloc (ar _) _).alloc (by simp) _).alloc (by simp;omega) _).alloc (by simp;omega) _).alloc (by simp;omega) _
 rw[<- hW0];clear hW0
 refine I2 (α:=At vars) rfl (by omega) (gf:=201) (lb:= #[.pointer (some ⟨w.heap.size+1+1+1+1,0,none⟩)]) rfl trivial (enters_of Tryz.func201 (by kernel_rfl) rfl)
  (Pv 5 (by omega) (w.heap.size+1+1+1+1) w.heap.size b cb vars (by omega) W0 (by omega) (by omega) b4.cell (HV.o.toB.aa hB0)) qX.t (qX.b (by omega) (by omega)) (au _ _) (fun _=>rfl)
  (fun (pre:List (At vars)) V=>Boxed V w.heap.size 27 (.slice a sizes.length ca)/\Boxed V (w.heap.size+1) 3 (.int .i64 ((jF (ag sizes) (ag vars) K vars.length (pre.map (·.1))).1:Nat))/\bV V (w.heap.size+1+1) (jF (ag sizes) (ag vars) K vars.length (pre.map (·.1))).2/\Boxed V (w.heap.size+1+1+1) 27 (.slice (some ⟨w.heap.size+1+1,0,none⟩) vars.length vars.length)/\Boxed V (w.heap.size+1+1+1+1) 27 (.slice b vars.length cb)/\Below w.heap.size w V)
  (fun _ _ _=>False)
  (eI (fG (iC _ _ (fun _=>_)) _) (eI (fG (iC _ _ (fun pre:List (At vars)=>.int .i64 ((jF (ag sizes) (ag vars) K vars.length (pre.map (·.1))).1:Nat))) _) (eI (fG (GX _ (fun pre:List (At vars)=>(jF (ag sizes) (ag vars) K vars.length (pre.map (·.1))).2)) _) (eI (fG (iC _ _ (fun _=>_)) _) (eI (fG (iC _ _ (fun _=>_)) _) (yg (ar _) (by omega)))))))
  (fun _ _ _ _ _ hs _ _=>hs)
  ⟨b0,b1,r2,b3,b4,hB0⟩
  (fun x=> {tmps:= #[.slice a sizes.length ca,.slice b vars.length cb,.int .i64 (K:Nat),.pointer (some ⟨w.heap.size,0,none⟩),undef,.pointer (some ⟨w.heap.size+1,0,none⟩),.slice none 0 0,.pointer (some ⟨w.heap.size+1+1+1,0,none⟩),.int .i64 (x.1:Nat),.int .i64 (vars[x.1]'x.2),.slice b vars.length cb,.int .i64 (vars.length:Nat),.slice (some ⟨w.heap.size+1+1,0,none⟩) vars.length vars.length,.slice b vars.length cb,.func (.func 201) #[] #[.pointer (some ⟨w.heap.size+1+1+1+1,0,none⟩)],.int .i64 (x.1:Nat),.int .i64 (vars[x.1]'x.2),undef,undef,undef,undef,undef,undef,undef,undef,undef,undef,undef,undef,undef,undef,undef,undef],defers:=[]}) ?assign ?body ?done ?stop
 case assign=>
  intro l x V K hK;gi_wp2
  exact hK
 case body=>
  rintro l pre ⟨i,hi⟩ V ⟨h0,h1,h2,h3,h4,hB⟩ hlt;obtain⟨gO,gH⟩:=gz.o.nat hi
  have HST:Hid (jF (ag sizes) (ag vars) K vars.length ((pre++[(⟨i,hi⟩:At vars)]).map (·.1))=((jF (ag sizes) (ag vars) K vars.length (pre.map (·.1))).1/sz (ag sizes) vars[i].toNat,(jF (ag sizes) (ag vars) K vars.length (pre.map (·.1))).2.set i ((jF (ag sizes) (ag vars) K vars.length (pre.map (·.1))).1 % sz (ag sizes) vars[i].toNat))):=by
   show _=_;rw[fY,gQ,ld,Vm,Dj,A9 (show i<(ag vars).length by rw[cS];exact hi),o6 hi]
  obtain⟨jn,hpl⟩:=acV (ag sizes) (ag vars) K vars.length (pre.map (·.1));have hz:=im HFI.o.pos vars[i].toNat;have tJ:=HFI.o.sz_le vars[i].toNat;generalize hV:vars[i].toNat=v at *;rw[<- gO];obtain⟨g',o',rfl,iK,c1⟩:=(HS.o.aa hB) v gH;rw[<- HFI.o.sz_eq gH] at c1
  have hg2:g'<w.heap.size:=by
   obtain⟨g3,o3,e3,h3,_⟩:=HS.o v gH;cases e3;exact h3
  clear gO hV;generalize jF (ag sizes) (ag vars) K vars.length (pre.map (·.1))=st at *;obtain⟨p,uP⟩:=st;simp only at h1 h2 jn hpl HST;generalize sz (ag sizes) v=s0 at *;have hrow:=h2.cell i (by omega);have hfz:=h2.fz i;have k0:=h0.cell;have k1:=h1.cell;have k3:=h3.cell;have f1:=h1.frozen;have rG:(p:Int) % (s0:Int)=((p % s0:Nat):Int):=(Af _ _).symm;have lB:(p:Int)/(s0:Int)=((p/s0:Nat):Int):=(tC _ _).symm;have hm1:p % s0<=65536:=aS (Nat.mod_le _ _) (by omega);have bq:p/s0<=65536:=aS (wh _ _) (by omega);generalize p % s0=mm at *;generalize p/s0=dd at *;have hz1:¬(s0:Int)=0:=by omega
  have abc:¬w.heap.size+1+1=w.heap.size+1:=by omega
  have ajo:¬w.heap.size+1=w.heap.size+1+1:=by omega
  have eN:i<uP.length:=by omega
  generalize uP[i]=z at *;have hw1:IntKind.i64.wrap ((p:Int) % (s0:Int))=(p:Int) % (s0:Int):=by rw[rG,eo];omega
  have hw2:IntKind.i64.wrap ((p:Int)/(s0:Int))=(p:Int)/(s0:Int):=by rw[lB,eo];omega
  have gA:=hid rG;have fp:=hid lB;clear rG lB;clear hmk b0 b1 r2 b3 b4 hB0 vk pg qC gz HFI HV hsm hK hpl;gi_wp2_with fail
  refine uL (fun u=>u.cell? ⟨w.heap.size+1+1+1,0,none⟩=some (.slice (some ⟨w.heap.size+1+1,0,none⟩) vars.length vars.length)/\u.cell? ⟨w.heap.size+1,0,none⟩=some (.int .i64 (p:Nat))/\u.cell? ⟨w.heap.size,0,none⟩=some (.slice (some ⟨g',o',none⟩) sizes.length ca)/\u.cell? ⟨g',o'+v,none⟩=some (.int .i64 (s0:Nat))) (by kernel_rfl) (by kernel_rfl) (fun ⟨_,_,h⟩=>h) ⟨k3,k1,k0,c1⟩ ?_;intro aq;refine cK 0 (.slice (some ⟨w.heap.size+1+1,0,none⟩) vars.length vars.length) ?_ ?_
  ·intro u aL;obtain⟨s1,s2,s3,s4⟩:=aL;simp only[gE];go_simp
  simp only[gE,aP];refine cK 1 (.int .i64 (i:Nat)) ?_ ?_
  ·intro u aL;obtain⟨s1,s2,s3,s4⟩:=aL;simp only[gE];go_simp
  simp only[gE,aP];refine cK 2 (.int .i64 (p:Nat)) ?_ ?_
  ·intro u aL;obtain⟨s1,s2,s3,s4⟩:=aL;simp only[gE];go_simp
  simp only[gE,aP];refine cK 3 (.slice (some ⟨g',o',none⟩) sizes.length ca) ?_ ?_
  ·intro u aL;obtain⟨s1,s2,s3,s4⟩:=aL;simp only[gE];go_simp
  simp only[gE,aP];refine cK 4 (.int .i64 (v:Nat)) ?_ ?_
  ·intro u aL;obtain⟨s1,s2,s3,s4⟩:=aL;simp only[gE];go_simp
  simp only[gE,aP];refine cK 5 (.pointer (some ⟨g',o'+v,none⟩)) ?_ ?_
  ·intro u aL;obtain⟨s1,s2,s3,s4⟩:=aL;simp only[gE];go_simp
  simp only[gE,aP];refine cK 6 (.int .i64 (s0:Nat)) ?_ ?_
  ·intro u aL;obtain⟨s1,s2,s3,s4⟩:=aL;simp only[gE];go_simp
  simp only[gE,aP];refine cK 7 (.int .i64 ((p:Int) % (s0:Int))) ?_ ?_
  ·intro u aL;obtain⟨s1,s2,s3,s4⟩:=aL;simp only[gE];go_simp;rw[aaO (show ¬s0=0 by omega),Int.tmod_eq_emod_of_nonneg (QQ _)]
  simp only[gE,aP];refine cK 8 (.pointer (some ⟨w.heap.size+1+1,i,none⟩)) ?_ ?_
  ·intro u aL;obtain⟨s1,s2,s3,s4⟩:=aL;simp only[gE];go_simp
  simp only[gE,aP];refine aF [9] (cA ?_ aD);intro K' hK';simp only[gE];go_simp;have far:∀(b j:Nat) (y:Value),¬w.heap.size+1+1=b ->(V.setCell ⟨w.heap.size+1+1,i,none⟩ y).drew.cell? ⟨b,j,none⟩=V.cell? ⟨b,j,none⟩:=fun b j y hb=>bX _ _ _ _ (fun e=>hb (by cases e;rfl));refine hK'.o _ _ ⟨(far _ _ _ (by omega)).trans k3,(far _ _ _ (by omega)).trans k1,(far _ _ _ (by omega)).trans k0,(far _ _ _ (by omega)).trans c1⟩ (fun _=>dW (by kernel_rfl) ?_ _);clear hK' K' aq;have m0:=(far w.heap.size 0 (.int .i64 ((p:Int) % (s0:Int))) (by omega)).trans k0;have m1:=(far (w.heap.size+1) 0 (.int .i64 ((p:Int) % (s0:Int))) (by omega)).trans k1;have m2:=(far g' (o'+v) (.int .i64 ((p:Int) % (s0:Int))) (by omega)).trans c1;have hr1:=h2.set i mm;rw[<- gA.o] at hr1;have q0:Boxed (V.setCell ⟨w.heap.size+1+1,i,none⟩ (.int .i64 ((p:Int) % (s0:Int)))).drew w.heap.size 27 (.slice (some ⟨g',o',none⟩) sizes.length ca):=eO h0 _ i _ (by omega);have q1:Boxed (V.setCell ⟨w.heap.size+1+1,i,none⟩ (.int .i64 ((p:Int) % (s0:Int)))).drew (w.heap.size+1) 3 (.int .i64 (p:Nat)):=eO h1 _ i _ (by omega);have q3:Boxed (V.setCell ⟨w.heap.size+1+1,i,none⟩ (.int .i64 ((p:Int) % (s0:Int)))).drew (w.heap.size+1+1+1) 27 (.slice (some ⟨w.heap.size+1+1,0,none⟩) vars.length vars.length):=eO h3 _ i _ (by omega);have q4:Boxed (V.setCell ⟨w.heap.size+1+1,i,none⟩ (.int .i64 ((p:Int) % (s0:Int)))).drew (w.heap.size+1+1+1+1) 27 (.slice b vars.length cb):=eO h4 _ i _ (by omega)
  have q2:bV (V.setCell ⟨w.heap.size+1+1,i,none⟩ (.int .i64 ((p:Int) % (s0:Int)))).drew (w.heap.size+1+1) (uP.set i mm):=hr1;have qB:Below w.heap.size w (V.setCell ⟨w.heap.size+1+1,i,none⟩ (.int .i64 ((p:Int) % (s0:Int)))).drew:=(hB.setCell (p:=⟨w.heap.size+1+1,i,none⟩) (by simp;omega) _).drew;have qK:Below w.heap.size V (V.setCell ⟨w.heap.size+1+1,i,none⟩ (.int .i64 ((p:Int) % (s0:Int)))).drew:=((au w.heap.size V).setCell (p:=⟨w.heap.size+1+1,i,none⟩) (by simp;omega) _).drew;have qO:KeepsOthers V (V.setCell ⟨w.heap.size+1+1,i,none⟩ (.int .i64 ((p:Int) % (s0:Int)))).drew:=(iG V _ _).trans (wk _);have fU:=q1.frozen;have j4:nR (w.heap.size+1+1+1+1) V (V.setCell ⟨w.heap.size+1+1,i,none⟩ (.int .i64 ((p:Int) % (s0:Int)))).drew:=q4.cell.trans h4.cell.symm;clear far;generalize (V.setCell ⟨w.heap.size+1+1,i,none⟩ (.int .i64 ((p:Int) % (s0:Int)))).drew=U at *;gi_wp2_with fail
  refine uL (fun u=>u.cell? ⟨w.heap.size,0,none⟩=some (.slice (some ⟨g',o',none⟩) sizes.length ca)/\u.cell? ⟨g',o'+v,none⟩=some (.int .i64 (s0:Nat))) (by kernel_rfl) (by kernel_rfl) (fun ⟨_,_,h⟩=>h) ⟨m0,m2⟩ ?_;intro aq;refine cK 1 (.slice (some ⟨g',o',none⟩) sizes.length ca) ?_ ?_
  ·intro u aL;obtain⟨s3,s4⟩:=aL;simp only[gE];go_simp
  simp only[gE,aP];refine cK 2 (.int .i64 (v:Nat)) ?_ ?_
  ·intro u aL;obtain⟨s3,s4⟩:=aL;simp only[gE];go_simp
  simp only[gE,aP];refine cK 3 (.pointer (some ⟨g',o'+v,none⟩)) ?_ ?_
  ·intro u aL;obtain⟨s3,s4⟩:=aL;simp only[gE];go_simp
  simp only[gE,aP];refine cK 4 (.int .i64 (s0:Nat)) ?_ ?_
  ·intro u aL;obtain⟨s3,s4⟩:=aL;simp only[gE];go_simp
  simp only[gE,aP];refine aF [0] (cA ?_ aD);intro K' hK';simp only[gE];go_simp;refine hK'.o _ _ aq (fun _=>?_);clear hK' K';refine cK 5 (.int .i64 ((p:Int)/(s0:Int))) ?_ ?_
  ·intro u aL;obtain⟨s3,s4⟩:=aL;simp only[gE];go_simp;omega
  simp only[gE,aP];refine aF [6] (cA ?_ aD);intro K' hK';simp only[gE];go_simp;refine hK'.o _ _ ⟨(eO q0 (w.heap.size+1) 0 _ (by omega)).cell,(bX _ _ _ _ (fun e=>(show ¬w.heap.size+1=g' by omega) (bR Addr.block e))).trans m2⟩ (fun _=>dW (by kernel_rfl) ?_ _);clear hK' K' aq;gi_wp2
  rw[fp.o];refine⟨(qO.trans ((iG U _ _).trans (wk _))).from _,⟨j4.t ((eO q4 (w.heap.size+1) 0 (.int .i64 (dd:Nat)) (by omega)).cell.trans q4.cell.symm),(qK.setCell (p:=⟨w.heap.size+1,0,none⟩) (by simp) _).drew⟩,?_⟩;refine⟨eO q0 _ 0 _ (by omega),?_,?_,eO q3 _ 0 _ (by omega),eO q4 _ 0 _ (by omega),(qB.setCell (p:=⟨w.heap.size+1,0,none⟩) (by simp) _).drew⟩
  ·rw[HST.o];exact q1.set _
  ·rw[HST.o];exact q2.off _ 0 _ (by omega)
 case done=>
  rintro D ys V hD yL ⟨h0,h1,h2,h3,h4,hB⟩ hK;rw[yL,qC.o] at h2;have hc:=h3.cell;gi_wp2
  refine⟨by simp,.inl ⟨_,_,rfl,zN hK,?_⟩⟩;refine⟨_,zO rfl _ _ _,?_⟩;refine⟨w.heap.size+1+1,⟨vars.length,rfl⟩,by omega,?_,hB.trans (tA (w:=w) (ar _) V D _ _ (by omega) hK rfl rfl)⟩;have h2':bV (V.putObj D (.deferred none)) (w.heap.size+1+1) (bM (ag sizes) (ag vars) K):=GX (w.heap.size+1+1) (fun (_:Unit)=>bM (ag sizes) (ag vars) K) () V _ (some D) h2 (grownBy_putObj' V D _) (fun r e=>by cases e;exact⟨_,hK,rfl⟩);exact h2'
 case stop=>
  rintro D c pre V _ _ h _;exact h.elim
theorem aer (a b:Option Addr) (ca cb K:Nat) (sizes vars:List Int) (w:World) (hs:aaK w a sizes) (hv:aaK w b vars) (aJ:eH sizes) (aX:Up vars sizes.length) (hK:K<cnt (ag sizes) (ag vars)):
  Calls Tryz.prog 150 #[.slice a sizes.length ca,.slice b vars.length cb,.int .i64 (K:Nat)] w fun e w'=>∃(g:Nat) (cc:Nat),e=.returned (.tuple #[.slice (some ⟨g,0,none⟩) vars.length cc,.int .i64 0])/\w.heap.size<=g/\bV w' g (bM (ag sizes) (ag vars) K)/\Below w.heap.size w w':=by
 have nD:=aJ.eight;have hvl:=aX.length;have HS:=hid hs;have HV:=hid hv;have hcb:countB sizes vars=true:=Fk aJ aX;have HC:=hid (fun V h1 h2=>Nc a b ca cb sizes vars V h1 h2 (by omega) (by omega));rw[Fl hcb] at HC;simp only at HC;have HA:=hid (fun V h1 h2=>amF a b ca cb sizes vars K V h1 h2 aJ aX hK);have pg:(bM (ag sizes) (ag vars) K).length=vars.length:=by rw[ue,cS]
 rw[pg] at HA;clear hs hv hcb aJ aX pg;generalize bM (ag sizes) (ag vars) K=ds at *;generalize cnt (ag sizes) (ag vars)=N0 at *;have hk0:(0:Int)<=(K:Int):=by omega
 have yU:(K:Int)<(N0:Int):=by omega
 go_enter Tryz.func150,Tryz.ntmps150;go_wp2_with fail
 refine(HC.o _ HS.o HV.o).ae ?_;rintro e w1 ⟨rfl,hb1⟩;go_wp2_with fail
 refine(HA.o _ (HS.o.aa hb1) (HV.o.aa hb1)).ae ?_;rintro e w2 ⟨c,cc,rfl,hge,jP,hb2⟩;have hs1:=hb1.size;go_wp2;go_ret2;exact⟨c,cc,rfl,by omega,jP,hb1.trans (hb2.ae hb1.size)⟩
end
variable {K:Act ->World ->Prop} {Ab:Nat}
theorem aeW {ad:Addr} (hi:aaK w (some ad) la):∀j u,(la.map (Value.int .i64))[j]? =some u ->w.cell? (ad.add j)=some u:=by
 intro j u hj;rw[oh] at hj;cases hq:la[j]? with
 |none=>rw[hq] at hj;cases hj
 |some z=>
  rw[hq] at hj;cases hj;obtain⟨CO,Hp⟩:=o0.1 hq;obtain⟨g,o',e,_,hc⟩:=hi j CO;cases e;rw[<- Hp];rw[Addr.add];by_cases h0:j=0
  ·subst h0;simpa using hc
  ·simpa [h0] using hc
theorem aba {cs:Array Value} (h:w.heap[g]? =some (.cells cs 3 (0,0))) (hl:∀j (hj:j<l.length),cs[j]? =some (.int .i64 l[j])):Holds (Value.int .i64) w g 0 l.toArray:=fun j hj=>by
 have hj':j<l.length:=by simpa using hj
 refine⟨?_,pN w g (0+j) _ _ h⟩;rw[bT,cC w g j _ _ (0,0) h,hl j hj',I6 l.toArray j hj];simp
theorem adK {o:Oper} {a:Act} (s x:Operand)
  (ho:o.op=.call {callee:=.builtin .append,args:= #[s,x],argTypes:= #[27,27]}) (gb:Nat) (z:Int) (la:List Int) (hs:a.eval s=.slice (some ⟨gb,0,none⟩) 1 1) (hown:w.heap[gb]? =some (.cells #[.int .i64 z] 3 (0,0))) (p:Option Addr) (ca:Nat) (hx:a.eval x=.slice p la.length ca) (hi:aaK w p la) (hp:p=none ->ca=0) (hlen:la.length<=100000)
  (h:∀D cap w',(D=gb∨w.heap.size<=D) ->D<w'.heap.size ->Holds (Value.int .i64) w' D 0 ([z]++la).toArray ->w.grownBy w' (some gb) ->K (a.put o.dst (.slice (some ⟨D,0,none⟩) ([z]++la).length cap)) w'):o.wp Tryz.prog a w K Q:=by
 obtain⟨i0,cU,hz0,hz1,hz2⟩:=eT Tryz.infoInt;have hgb:gb<w.heap.size:=(eL.1 hown).1
 have yQ:Holds (Value.int .i64) w gb 0 ([z]++[]).toArray:=aba hown fun j hj=>by
  have:j=0:=by simp at hj;omega
  subst this;rfl
 have hnil:∀(lF:la=[]),K (a.put o.dst (.slice (some ⟨gb,0,none⟩) 1 1)) w:=fun lF=>by
  subst lF;exact h gb 1 w (.inl rfl) hgb yQ ⟨rfl,rfl,rfl,ar _,fun _ _ _=>rfl⟩
 cases p with
 |none=>
  have hl:la=[]:=by
   cases la with
   |nil=>rfl
   |cons x l=>obtain⟨g,o,e,_⟩:=hi 0 (by simp);cases e
  have h0:=hp rfl;have hk:=hnil hl;subst hl h0;have hrow:w.ownsRow gb 3 1 (.slice (some ⟨gb,0,none⟩) 1 1) 1 [.int .i64 z]:=⟨rfl,.inr ⟨gb,1,_,rfl,ar _,hown,ar _,by unfold maxLen;omega,rfl,rfl⟩⟩;have hrun:=run_append_owned_none (P:=Tryz.prog) (w:=w) gb 27 o.type 3 i0 1 Tryz.underlying27 cU (.slice (some ⟨gb,0,none⟩) 1 1) 1 _ hrow;unfold Oper.wp;simp[execOp,ho,resolve,invoke,builtin,hs,hx,hrun,Result.andThen];exact hk
 |some ad=>
  have hnews:=aeW hi;have hl:(la.map (Value.int .i64)).length=la.length*i0.size:=by rw[hz1];simp
  by_cases lF:la=[]
  ·have hk:=hnil lF;subst lF;have hrun:=run_append_room_cells (P:=Tryz.prog) (w:=w) 27 o.type 3 i0 Tryz.underlying27 cU gb 0 1 1 ad 0 ca [] (by simp) (by simp) (by simp) (ar _) (by simp) (by simp);unfold Oper.wp execOp;simp only[ho,resolve,invoke,builtin,I8,DZ,zR,Je,gQ,ld,hs,hx,lg,hrun];exact hk
  ·have kJ:0<la.length:=apt.2 lF
   have hrun:=run_append_grow (P:=Tryz.prog) w 27 o.type 3 i0 (.int .i64 0) Tryz.underlying27 cU hz0 ⟨gb,0,none⟩ 1 1 [.int .i64 z] (by rw[hz1];rfl) (fun j u hj=>by
    match j,hj with
    |0,hj=>cases hj;rw[show (⟨gb,0,none⟩:Addr).add 0=⟨gb,0,none⟩ from rfl,cC w gb 0 _ _ (0,0) hown];rfl
    |j+1,hj=>simp at hj) ad la.length ca (la.map (Value.int .i64)) hl hnews (by omega) (by omega) (ME (by omega) (by rw[hz2];omega))
   unfold Oper.wp execOp;simp only[ho,resolve,invoke,builtin,I8,DZ,zR,Je,gQ,ld,hs,hx,hrun];have hh:=h w.heap.size (grownCap w (1+la.length) 1 3) (w.drew.alloc (.cells ([Value.int .i64 z].toArray++(la.map (Value.int .i64)).toArray++Builtin.zeroCells (Value.int .i64 0).cells (grownCap w (1+la.length) 1 3 - (1+la.length))) 3)) (.inr (ar _)) (by simp) ?_ ⟨rfl,rfl,rfl,by simp,fun _ hk _=>rY w.drew _ _ hk⟩
   ·have e:([z]++la).length=1+la.length:=by simp;omega
    rw[e] at hh;exact hh
   ·refine aba (kd w.drew _) fun j hj=>?_;rw[Array.getElem?_append_left (by simp at hj⊢;omega)];simp only[lZ,List.getElem?_toArray];rw[show [Value.int .i64 z]++la.map (Value.int .i64)=([z]++la).map (Value.int .i64) by simp,oh,af hj];rfl
theorem afB (g cap:Nat) (l:List Int) (w:World) (hh:Holds (Value.int .i64) w g 0 l.toArray) (hg:g<w.heap.size) (hl:l.length<=100000):
  Calls Tryz.prog 149 #[.slice (some ⟨g,0,none⟩) l.length cap] w fun e w'=>e=.returned (.slice (some ⟨g,0,none⟩) l.length cap)/\aaK w' (some ⟨g,0,none⟩) (l.mergeSort fun x y=>decide (x<=y))/\w.grownBy w' (some g):=by
 have VY:=hid (Tryz.slices_Sort_int g 0 cap l w hh hg (by omega));have hlen:(l.mergeSort fun x y=>decide (x<=y)).length=l.length:=MP _;generalize (l.mergeSort fun x y=>decide (x<=y))=zs at *;have HH:=hid hh;clear hh;go_enter Tryz.func149,Tryz.ntmps149;go_wp2_with fail
 refine VY.o.ae ?_;rintro e w2 ⟨rfl,q,os,rfl⟩;have hsz:zs.toArray.size=l.toArray.size:=by simp;exact hlen
 have C7:Holds (Value.int .i64) (grow (putRow (Value.int .i64) (Sort.ahead w q) g 0 zs.toArray) os) g 0 zs.toArray:=fun j hj=>by
  obtain⟨h1,h2⟩:=holds_putRow (Value.int .i64) (Sort.ahead w q) g 0 _ zs.toArray HH.o hsz j hj;have gj:g<(putRow (Value.int .i64) (Sort.ahead w q) g 0 zs.toArray).heap.size:=by rw[size_putRow];exact hg
  refine⟨(cell?_grow _ _ _ gj).trans h1,?_⟩;rw[frozen?_grow _ _ _ gj];exact h2
 have hgr:=MF (w:=w) (g:=g) (n:=q) (os:=os) zs.toArray;have Kr:g<(grow (putRow (Value.int .i64) (Sort.ahead w q) g 0 zs.toArray) os).heap.size:=aR hg hgr.size;generalize grow (putRow (Value.int .i64) (Sort.ahead w q) g 0 zs.toArray) os=w2 at *;have Ww:=hid C7;clear C7;go_wp2;go_ret;exact⟨rfl,EP Ww.o Kr (fun j hj=>⟨by simpa using hj,by simp⟩),hgr⟩
structure GV (w:World) (x y z:Value) (G D C Ab:Nat) (S:List Nat) (U:List Int) (wr:World) (F:List Fr) (A:List Nat):Prop where
 gk:GK w wr x y z
 szs:bV wr G S
 us:aaK wr (some ⟨D,0,none⟩) U
 cs:jY wr C F
 vs:bV wr Ab A
 oG:w.heap.size+2<=G
 oD:w.heap.size+2<=D
 oGC:G<C
 oDC:D<C
 oCA:C<Ab
theorem GV.step {G C:Nat} {U:List Int} {F:List Fr} {A:List Nat} (h:GV w x y z G D C Ab S U wr F A) (hb:Below wr.heap.size wr wr'):GV w x y z G D C Ab S U wr' F A:=
 ⟨h.gk.step hb,h.szs.aa hb h.szs.lt,h.us.aa hb,h.cs.aa hb h.cs.lt,h.vs.aa hb h.vs.lt,h.oG,h.oD,h.oGC,h.oDC,h.oCA⟩
theorem aaK.far {o:Nat} (h:aaK w (some ⟨g,o,none⟩) l) (b j:Nat) (y:Value) (hne:g≠b):aaK (w.setCell ⟨b,j,none⟩ y) (some ⟨g,o,none⟩) l:=fun k hk=>by
 obtain⟨g',o',e,h2,h3⟩:=h k hk;cases e;exact⟨g,o,rfl,by simpa using h2,(bX _ _ _ _ (fun e=>hne (by cases e;rfl))).trans h3⟩
theorem GK.far (h:GK w V x y z) (b j:Nat) (u:Value) (hb:w.heap.size+2<=b):GK w (V.setCell ⟨b,j,none⟩ u) x y z:=
 ⟨⟨(je V ⟨b,j,none⟩ u w.heap.size (by show w.heap.size≠b;omega)).trans h.1.1,h.1.2.setCell (p:=⟨b,j,none⟩) (by show w.heap.size<=b;omega) u⟩,h.2.off b j u (by omega)⟩
theorem GV.setA {G C:Nat} {U:List Int} {F:List Fr} {A:List Nat} (h:GV w x y z G D C Ab S U wr F A) (j k:Nat):GV w x y z G D C Ab S U (wr.setCell ⟨Ab,j,none⟩ (.int .i64 (k:Nat))) F (A.set j k):=by
 have:=h.oG;have:=h.oD;have:=h.oGC;have:=h.oDC;have:=h.oCA;exact⟨h.gk.far _ _ _ (by omega),h.szs.off _ _ _ (by omega),h.us.far _ _ _ (by omega),h.cs.off _ _ _ (by omega),h.vs.set _ _,h.oG,h.oD,h.oGC,h.oDC,h.oCA⟩
theorem GV.setC {G C:Nat} {U:List Int} {F:List Fr} {A:List Nat} (h:GV w x y z G D C Ab S U wr F A) (k:Nat) (f:Fr):GV w x y z G D C Ab S U (((wr.setCell ⟨C,k*3,none⟩ (.bool f.1)).setCell ⟨C,k*3+1,none⟩ (.string f.2.1)).setCell ⟨C,k*3+2,none⟩ (.string f.2.2)) (F.set k f) A:=by
 have:=h.oG;have:=h.oD;have:=h.oGC;have:=h.oDC;have:=h.oCA;exact⟨((h.gk.far _ _ _ (by omega)).far _ _ _ (by omega)).far _ _ _ (by omega),((h.szs.off _ _ _ (by omega)).off _ _ _ (by omega)).off _ _ _ (by omega),((h.us.far _ _ _ (by omega)).far _ _ _ (by omega)).far _ _ _ (by omega),h.cs.put k f,((h.vs.off _ _ _ (by omega)).off _ _ _ (by omega)).off _ _ _ (by omega),h.oG,h.oD,h.oGC,h.oDC,h.oCA⟩
variable {fn:Func}
theorem di.check {t:Tb} (h:di S S.length t) (hf:eH (iL S)):jr (iL S) t.1 t.2.length=0:=Po (Fk hf (by rw[ba];exact h.up)) (by rw[ew];exact h.len)
theorem di.small {t:Tb} (h:di S S.length t) (hf:eH (iL S)):t.1.length<=8:=by
 have h1:=h.up.length;have h2:=hf.eight;rw[ba] at h2;omega
def Bi (B:Nat) (t:Tb) (e:Ending) (w':World):Prop:=∃x y,e=.returned (.tuple #[.agg #[x,y],.int .i64 0])/\cR w' x y t/\∀R,R< B ->fE R t (x,y)
theorem uh.tb {B:Nat} {t:Tb} {e:Ending} (h:uh B t.1 t.2 0 e w'):Bi B t e w':=by
 obtain⟨b,c,cb,cc,h1,h2,h3,h4,h5⟩:=h;exact⟨_,_,h1,⟨b,c,cb,cc,rfl,rfl,h2,h3,h4.1⟩,fun R hR=>fE.new h4 h5 hR⟩
theorem ah8 (a:Option Addr) (ca:Nat) (S:List Nat) (x y x' y':Value) (s t:Tb) (w:World) (aJ:eH (iL S)) (hs:aaK w a (iL S)) (h:cR w x y s) (h':cR w x' y' t) (ho:di S S.length s) (M3:di S S.length t) (hw:Cw 100000 s.2) (hw':Cw 100000 t.2):
  Calls Tryz.prog 161 #[.slice a S.length ca,.agg #[x,y],.agg #[x',y']] w fun e w'=>Bi w.heap.size (yH S s t) e w'/\Below w.heap.size w w':=by
 obtain⟨b,c,cb,cc,rfl,rfl,h1,h2,h3⟩:=h;obtain⟨b',c',fD,kp,rfl,rfl,k1,k2,k3⟩:=h';have e1:=aJ.eight;rw[ba] at e1;have e2:=ho.small aJ;have e3:=M3.small aJ;have:=aev a b c b' c' ca cb cc fD kp (iL S) s.1 t.1 s.2 t.2 w hs h1 k1 h2 k2 (by rw[ba];omega) (by omega) (by omega) h3 k3 (ho.check aJ) (M3.check aJ) hw hw';rw[ba,ew] at this;exact this.ae fun e w' hh=>⟨uh.tb (t:=yH S s t) hh.1,hh.2⟩
theorem aht (w:World):cR (w.alloc (.cells #[.bool (aH 1),.string (nu 1),.string (de 1)] 32)) (.slice none 0 0) (.slice (some ⟨w.heap.size,0,none⟩) 1 1) Cu:=by
 have hnew:=kd w (.cells #[.bool (aH 1),.string (nu 1),.string (de 1)] 32);refine⟨none,_,0,1,rfl,rfl,(fun k hk=>absurd hk (by simp[Cu])),fun k hk=>?_,fun _=>rfl⟩;obtain rfl:k=0:=by simp[Cu] at hk;omega
 exact⟨_,0,rfl,(eL.1 hnew).1,(cC _ _ 0 _ _ (0,0) hnew).trans rfl,(cC _ _ 1 _ _ (0,0) hnew).trans rfl,(cC _ _ 2 _ _ (0,0) hnew).trans rfl⟩
theorem cR.putT {u v:Value} {t:Tb} (h:cR V x y t) (hb:bh V g u v) (hu:cM u) (hv:cM v) (hx':cM x') (y':Value):cR ((V.setCell ⟨g,0,none⟩ x').setCell ⟨g,1,none⟩ y') x y t:=by
 obtain⟨b,c,cb,cc,h1,h2,h3,h4,h5⟩:=h;exact⟨b,c,cb,cc,h1,h2,h3.putT hb hu hv hx' y',h4.putT hb hu hv hx' y',h5⟩
theorem cR.slices {t:Tb} (h:cR w x y t):cM x/\cM y:=by
 obtain⟨b,c,cb,cc,rfl,rfl,_⟩:=h;exact⟨slv _ _ _,slv _ _ _⟩
theorem bh.result1 (h:bh w g x y) {p:Tmp} (hr:fn.results= #[.cell p 39]) (tmps:Array Value) (hp:tmps.getD p undef=.pointer (some ⟨g,0,none⟩)):
  (results fn tmps).run Tryz.prog w=.ok (.agg #[x,y]) w:=Gi hr tmps w g _ _ _ _ hp h Tryz.underlying39 rfl (by kernel_rfl)
theorem Zi (a b:Option Addr) (ca cb:Nat) (S:List Nat) (P:List Tb) (D c:Nat) (w:World) (aJ:eH (iL S)) (hs:aaK w a (iL S)) (hP:dQ w b P) (aM:eX S S.length P D c) (hpl:P.length<=1000) (hm:2*(B D).size+(B c).size+2<=8192):
  Calls Tryz.prog 105 #[.slice a S.length ca,.slice b P.length cb] w fun e w'=>∃x y,e=.returned (.agg #[x,y])/\cR w' x y (allT S P)/\Below w.heap.size w w':=by
 have df:Pos S:=by have:=aJ.pos;rwa [ew] at this
 have Dx:Hid (∀U:World,Calls Tryz.prog 53 #[.int .i64 1] U fun e w'=>e=.returned (.agg #[.bool (aH 1),.string (nu 1),.string (de 1)])/\Below U.heap.size U w'):=fun U=>Lb (k:=1) (w:=U) 1 1 rfl (by decide) rfl
 have VQ:Hid (∀(k:Nat) (hk:k<P.length) (x y x' y':Value) (U:World),Below w.heap.size w U ->cR U x y (allT S (P.take k)) ->cR U x' y' P[k] ->Calls Tryz.prog 161 #[.slice a S.length ca,.agg #[x,y],.agg #[x',y']] U fun e w'=>Bi U.heap.size (allT S (P.take (k+1))) e w'/\Below U.heap.size U w'):=fun k hk x y x' y' U hU h1 h2=>by
  have h3:=aM.part df hm k;have h4:=aM.cw df hm P[k] (bH hk);have e:allT S (P.take (k+1))=yH S (allT S (P.take k)) P[k]:=by rw[allT,fR hk,List.foldl_append];rfl
  rw[e];exact ah8 a ca S x y x' y' _ _ U aJ (hs.aa hU) h1 h2 h3.1 (aM.ok _ (bH hk)) (h3.2.up (by decide)) (h4.up (by decide))
 have HP:=hid hP;have H0:Hid (allT S (P.take 0)=Cu):=rfl;clear hs hP aM aJ df hm;obtain⟨T,hT⟩:∃T:Nat ->Tb,∀k,allT S (P.take k)=T k:=⟨fun k=>allT S (P.take k),fun _=>rfl⟩;have qu:Hid (T P.length=allT S P):=by show _=_;rw[<- hT,fJ]
 simp only[hT] at VQ H0;clear hT;go_enter Tryz.func105,Tryz.ntmps105;go_wp2_with fail
 have A8:=(au w.heap.size w).alloc (ar _) (TC (.slice none 0 0) (.slice none 0 0));have Hs:=bh.at (w:=w) rfl (.slice none 0 0) (.slice none 0 0);refine(Dx.o _).ae ?_;rintro e w2 ⟨rfl,hb2⟩;have hB2:=A8.trans (hb2.ae A8.size);have Uc:=Hs.aa hb2 Hs.lt;have Uy:=hB2.alloc hB2.size (.cells #[.bool (aH 1),.string (nu 1),.string (de 1)] 32);have yQ:=aht w2;have hs3:(w2.alloc (.cells #[.bool (aH 1),.string (nu 1),.string (de 1)] 32)).heap.size=w2.heap.size+1:=by simp
 have KJ:=Uc.alloc (.cells #[.bool (aH 1),.string (nu 1),.string (de 1)] 32);have jT:=Uy.alloc Uy.size (TC (.slice none 0 0) (.slice (some ⟨w2.heap.size,0,none⟩) 1 1));have Ub:=KJ.alloc (TC (.slice none 0 0) (.slice (some ⟨w2.heap.size,0,none⟩) 1 1));have CW:=bh.at (w:=w2.alloc (.cells #[.bool (aH 1),.string (nu 1),.string (de 1)] 32)) hs3 (.slice none 0 0) (.slice (some ⟨w2.heap.size,0,none⟩) 1 1);have aa9:=yQ.aa ((au _ _).alloc (ar _) (TC (.slice none 0 0) (.slice (some ⟨w2.heap.size,0,none⟩) 1 1)));have hlt:=Uc.lt;have fV:=hid jT;have vP:=hid Ub;have Bu:=hid CW;have L8:=hid aa9;clear A8 Hs hb2 hB2 Uc Uy yQ hs3 KJ jT Ub CW aa9;go_wp2_with fail
 go_loopw [13] (fun iv wr=>∃(i:Nat) (x y:Value),i<=P.length/\iv=.int .i64 i/\Hid (bh wr (w2.heap.size+1) x y)/\Hid (cR wr x y (T i))/\Hid (bh wr w.heap.size (.slice none 0 0) (.slice none 0 0))/\Hid (Below w.heap.size w wr)) (fun iv _=>P.length - (intOf iv).toNat)
 case atStart=>exact⟨0,_,_,aU _,rfl,Bu,by rw[H0.o];exact L8,vP,fV⟩
 case round=>
  obtain⟨i,x,y,hi,rfl,HX,HV,HT,HB⟩:=hrel;clear Bu L8 vP fV;obtain⟨aa1,aa0⟩:=HV.o.slices;obtain⟨x0,x1,XJ,XB⟩:=HX.o.facts;by_cases hlt2:i<P.length
  ·obtain⟨g,o,p,q,rfl,hg,k0,k1,lC⟩:=(HP.o.aa HB.o) i hlt2;have hA:=(au wr.heap.size wr).alloc (ar _) (TC p q);have dC:=hid (HB.o.trans (hA.ae HB.o.size));have Ik:=hid (HX.o.alloc (TC p q));have qY:=hid (HT.o.alloc (TC p q));have bW:=bh.at (w:=wr) rfl p q;obtain⟨Yb,XX,_,_⟩:=Ik.o.facts;have b0:=bW.c0;have b1:=bW.c1;have HM:=hid (VQ.o i hlt2 x y p q _ dC.o (HV.o.aa hA) (lC.aa hA));obtain⟨ps,pn,pc,rfl⟩:=lC.slices.1;obtain⟨qs,qn,qc,rfl⟩:=lC.slices.2;clear lC hA bW x0 x1 XJ XB;go_wp2_with fail
   refine HM.o.ae ?_;rintro e w3 ⟨⟨x2,y2,rfl,hv2,_⟩,hb3⟩;have po:=Ik.o.aa hb3 Ik.o.lt;have KJ:=qY.o.aa hb3 qY.o.lt;have bU:=dC.o.trans (hb3.ae dC.o.size);obtain⟨c0,c1,f0,f1⟩:=po.facts;obtain⟨xs,xn,xc,rfl⟩:=hv2.slices.1;obtain⟨ys,yn,yc,rfl⟩:=hv2.slices.2;have qp:=hid (po.put (.slice xs xn xc) (.slice ys yn yc));have PT:=hid (hv2.putT po aa1 aa0 (slv xs xn xc) (.slice ys yn yc));have Iq:Hid (bh ((w3.setCell ⟨w2.heap.size+1,0,none⟩ (.slice xs xn xc)).setCell ⟨w2.heap.size+1,1,none⟩ (.slice ys yn yc)) w.heap.size (.slice none 0 0) (.slice none 0 0)):=(KJ.off _ _ _ (by omega)).off _ _ _ (by omega);have eD:=hid (mr (g:=w2.heap.size+1) bU (by omega) (.slice xs xn xc) (.slice ys yn yc));clear hv2 hb3 po KJ bU HM Yb XX b0 b1 k0 k1;go_wp2;go_roundw
   case rel=>exact⟨i+1,_,_,by omega,by go_num,qp,PT,Iq,eD⟩
   case measure=>simp[intOf];omega
  ·obtain rfl:i=P.length:=by omega
   rw[qu.o] at HV;obtain⟨t0,t1,f0,f1⟩:=HT.o.facts;obtain⟨xs,xn,xc,rfl⟩:=aa1;obtain⟨ys,yn,yc,rfl⟩:=aa0;have q9:=hid (HT.o.put (.slice xs xn xc) (.slice ys yn yc));have Bx:=hid (HV.o.putT HT.o (slv _ _ _) (slv _ _ _) (slv xs xn xc) (.slice ys yn yc));have fV:=hid (mr HB.o (ar _) (.slice xs xn xc) (.slice ys yn yc));go_wp2;refine bB (q9.o.result1 rfl _ rfl) rfl ?_;exact⟨_,_,rfl,Bx.o,fV.o⟩
end Go.Proofs.YtdnhgjeihdllbaaGreatDoor
