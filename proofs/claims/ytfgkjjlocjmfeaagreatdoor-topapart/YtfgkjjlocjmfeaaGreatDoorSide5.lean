/- Part5: part 5. -/
import Derived.Test.YtfgkjjlocjmfeaaGreatDoorSide4
set_option maxRecDepth 100000
set_option maxHeartbeats 400000000
set_option linter.unusedSimpArgs false
set_option linter.unusedVariables false
namespace Go.Proofs.YtfgkjjlocjmfeaaGreatDoor
open Go.RowKit Go.Shelf Go.Lib
def Ma (p:Nat):Nat:=[2,2,3,2,1].getD p 2
theorem aih (p:Nat):1<=Ma p/\Ma p<=3:=by
 match p with
 |0=>decide
 |1=>decide
 |2=>decide
 |3=>decide
 |4=>decide
 |p+5=>exact⟨by show 1<=2;omega,by show 2<=3;omega⟩
theorem aku (W:World) {p:Nat} (hp:p<5):(W.alloc (.cells #[.int .i64 2,.int .i64 2,.int .i64 3,.int .i64 2,.int .i64 1] 3)).cell? ⟨W.heap.size,p,none⟩=some (.int .i64 (Ma p:Nat)):=by
 rw[bE _ _ _ _ _ (0,0) (fP W _)];match p,hp with
 |0,_=>rfl
 |1,_=>rfl
 |2,_=>rfl
 |3,_=>rfl
 |4,_=>rfl
def amp (w:World) (e:Ending) (w':World):Prop:=∃(bk:Bool) (n:Nat) (x y z:Value) (Vs:List PV) (Ls:List PL) (Rs:List PR),e=.returned (.agg #[x,y,z])/\(1<=n/\n<=6)/\VK n Vs/\zo bk n n (aq (fJ Vs)) Ls Rs/\vk w' w.heap.size x Vs/\vo w' w.heap.size y Ls/\vn w' w.heap.size z Rs/\Below w.heap.size w w'
def si (l:List Int):Prop:=l.length<=140737488355328/\∀x∈l, -9223372036854775808<=x/\x<=9223372036854775807
theorem ahZ (a1 a2 a3:Option Addr) (c1 c2 c3:Nat) (L1 L2 L3:List Int) (bk:Bool) (w:World) (h1:aC w a1 L1) (h2:aC w a2 L2) (h3:aC w a3 L3) (r1:si L1) (r2:si L2) (r3:si L3):
  Calls Tryz.prog 17 #[.agg #[.slice a1 L1.length c1,.slice a2 L2.length c2,.slice a3 L3.length c3,.bool bk]] w fun e w'=>amp w e w':=by
 have ri:=hid h1;have zQ:=hid h2;have q9:=hid h3;have nj:=hid r1.2;have fW:=hid r2.2;have lR:=hid r3.2;have iJ:=r1.1;have hl2:=r2.1;have hl3:=r3.1;have T8:=hid (fun (i:Nat) (hi:i<=1000) (U:World)=>Xg i U hi);have xE:=hid (fun (i:Nat) (hi:i<=1000) (U:World)=>Xe i U hi);have xW:=hid (fun (k:Nat) (hk:k<=3) (U:World)=>alD k U hk);have GD:=hid (fun (c:Int) (h: -9223372036854775808<=c/\c<=9223372036854775807) (U:World)=>Ln c 5 U h.1 h.2 (by omega) (by omega));have Kf:=hid (fun (k:Nat) (hk:k<=100000) (n:Nat) (h1:1<=n) (h3':n<=3) (U:World) (hU:aC U a3 L3)=>aeW a3 c3 k n L3 U hU r3.2 hk h1 (by omega) r3.1);have HP2:=hid (fun (c:Int) (h: -9223372036854775808<=c/\c<=9223372036854775807) (U:World)=>Ln c 2 U h.1 h.2 (by omega) (by omega));clear h1 h2 h3 r1 r2 r3;have Re:((w.alloc (.cells #[.slice a1 L1.length c1,.slice a2 L2.length c2,.slice a3 L3.length c3,.bool bk] 48)).alloc (NC (.slice none 0 0) (.slice none 0 0) (.slice none 0 0))).heap[w.heap.size]? =some (.cells #[.slice a1 L1.length c1,.slice a2 L2.length c2,.slice a3 L3.length c3,.bool bk] 48 (0,0)):=(qg _ _ _ (by simp)).trans (fP w _);have hc0:((w.alloc (.cells #[.slice a1 L1.length c1,.slice a2 L2.length c2,.slice a3 L3.length c3,.bool bk] 48)).alloc (NC (.slice none 0 0) (.slice none 0 0) (.slice none 0 0))).cell? ⟨w.heap.size,0,none⟩=some (.slice a1 L1.length c1):=by rw[bE _ _ _ _ _ (0,0) Re];rfl
 have HM0:Hid (MS w (((w.alloc (.cells #[.slice a1 L1.length c1,.slice a2 L2.length c2,.slice a3 L3.length c3,.bool bk] 48)).alloc (NC (.slice none 0 0) (.slice none 0 0) (.slice none 0 0))).alloc (NC (.slice none 0 0) (.slice none 0 0) (.slice none 0 0))) (.slice a1 L1.length c1) (.slice a2 L2.length c2) (.slice a3 L3.length c3) bk (.slice none 0 0) (.slice none 0 0) (.slice none 0 0) [] [] []):=⟨(qg _ _ _ (by simp;omega)).trans Re,(dr.at (by simp) _ _ _).aa ((aw _ _).alloc (ak _) _) (by simp),dr.at (by simp) _ _ _,vk.nil _ _,vo.nil _ _,vn.nil _ _,(((aw _ w).alloc (ak _) _).alloc (by simp) _).alloc (by simp;omega) _⟩;clear Re;go_enter Tryz.func17,Tryz.ntmps17;go_upto_if 23 with fail
 clear hc0;generalize hW0:((w.alloc (.cells #[.slice a1 L1.length c1,.slice a2 L2.length c2,.slice a3 L3.length c3,.bool bk] 48)).alloc (NC (.slice none 0 0) (.slice none 0 0) (.slice none 0 0)))=W0 at *;go_cut [3] from 19 to 25 (fun s wx=>∃n:Nat,s=.int .i64 (n:Nat)/\1<=n/\n<=140737488355328/\wx=W0)
 case first=>
  by_cases hl:L1.length<1
  ·have hl':(L1.length:Int)<1:=by omega
   go_wp2_with fail
   go_meet
   exact⟨1,rfl,by omega,by omega,rfl⟩
  ·have hl':(1:Int)<=(L1.length:Int):=by omega
   go_wp2_with fail
   go_meet
   exact⟨L1.length,rfl,by omega,by omega,rfl⟩
 case rest=>
 obtain⟨n0,rfl,aiX,aiW,hcw⟩:=hcut;rw[hcw];clear hcw;go_upto_if 25 with fail
 go_cut [3] from 19 to 25 (fun s wx=>∃n:Nat,s=.int .i64 (n:Nat)/\1<=n/\n<=6/\wx=W0)
 case first=>
  by_cases hl:6<n0
  ·have hl':(6:Int)<(n0:Int):=by omega
   go_wp2_with fail
   go_meet
   exact⟨6,rfl,by omega,by omega,rfl⟩
  ·have hl':(n0:Int)<=6:=by omega
   go_wp2_with fail
   go_meet
   exact⟨n0,rfl,by omega,by omega,rfl⟩
 case rest=>
 obtain⟨n,rfl,eO,yX,hcw⟩:=hcut;rw[hcw];clear hcw aiX aiW;have ajA:W0.heap.size=w.heap.size+2:=by rw[<- hW0];simp
 clear hW0;go_upto_region 7 with fail
 generalize (W0.alloc (NC (.slice none 0 0) (.slice none 0 0) (.slice none 0 0)))=W1 at *;clear ajA;go_wp2_with fail
 go_loopw [5] (fun iv wr=>∃(v:Nat) (x:Value) (Vs:List PV),v<=n/\iv=.int .i64 v/\Hid (VK v Vs)/\Hid (MS w wr (.slice a1 L1.length c1) (.slice a2 L2.length c2) (.slice a3 L3.length c3) bk x (.slice none 0 0) (.slice none 0 0) Vs [] [])) (fun iv _=>n - (intOf iv).toNat)
 case atStart=>exact⟨0,_,[],aX _,rfl,⟨rfl,fun j hj=>absurd hj (by simp)⟩,HM0⟩
 case round=>
  obtain⟨v,x,Vs,hv,rfl,JZ,fY⟩:=hrel;clear HM0;by_cases hlt:v<n
  ·obtain⟨d0, -, -, -⟩:=fY.o.cells;go_upto_if 36 with fail
   clear d0;go_cut [6] from 27 to 58 (fun s wx=>∃k:Nat,s=.int .i64 (k:Nat)/\1<=k/\k<=3/\Hid (MS w wx (.slice a1 L1.length c1) (.slice a2 L2.length c2) (.slice a3 L3.length c3) bk x (.slice none 0 0) (.slice none 0 0) Vs [] []))
   case first=>
    by_cases iA:v<L1.length
    ·have aiE:(v:Int)<(L1.length:Int):=by omega
     have aO:Below wr.heap.size wr (wr.alloc (.cells #[.int .i64 2,.int .i64 2,.int .i64 3,.int .i64 2,.int .i64 1] 3)):=(aw _ wr).alloc (ak _) _;have y8:=fY.o.step aO;obtain⟨d0, -, -, -⟩:=y8.cells;obtain⟨g',o',rfl,gD,cs⟩:=(ri.o.aa y8.bel) v iA;have vF:=hid (fun U=>GD.o L1[v] (nj.o _ (bY iA)) U);have hp5:=Lu L1[v] (n:=5) (by omega);have h5:=aku wr hp5;have hkf:=aih (sR L1[v] 5);generalize L1[v]=lv at *;generalize sR lv 5=pk at *;generalize Ma pk=kk at *;have jW:=hid y8;clear y8 aO;go_wp2_with (go_at_call 60;refine(vF.o _).ae ?_;rintro e w2 ⟨rfl,hb⟩;have h52:=(hb.cell (p:=⟨wr.heap.size,pk,none⟩) (by simp)).trans h5;have Oa:=hid (jW.o.step hb))
     go_meet
     exact⟨kk,rfl,hkf.1,hkf.2,Oa⟩
    ·have aiE:(L1.length:Int)<=(v:Int):=by omega
     go_wp2_with fail
     go_meet
     exact⟨2,rfl,by omega,by omega,fY⟩
   case rest=>
   obtain⟨k,rfl,IX,hk3,HMC⟩:=hcut;clear fY;go_wp2_with fail
   refine(T8.o v (by omega) _).ae ?_;rintro e w1 ⟨rfl,hb1⟩;go_wp2_with fail
   refine(xE.o v (by omega) _).ae ?_;rintro e W14 ⟨rfl,hb2⟩;have hM:=(HMC.o.step hb1).step hb2;have hdz:=Te (i:=v) (by omega);clear hb1 hb2 HMC;go_upto_region 14 with fail
   replace hM:=hM.step (aw _ _).drew;refine kC (S:=fun _=>True) (by kernel_rfl) trivial (fun ah=>?_);generalize W14.drew=u0 at *;have hx0:=hM.box.cells.1;refine ar 0 (.pointer (some ⟨w.heap.size+2,0,none⟩)) ?_;(try simp only[gE,aP]);refine ar 2 (.string (F9 v)) ?_;(try simp only[gE,aP]);refine ar 3 (.string (iz 110 v)) ?_;(try simp only[gE,aP]);refine ar 4 (.int .i64 (k:Nat)) ?_;(try simp only[gE,aP]);refine aI [1,5] (cA ?_ (cA ?_ aH))
   focus
    intro K' hK';go_simp;refine hK'.o _ _ trivial (fun _=>?_);clear hK' K';(try simp only[gE,aP]);refine aI [5] (cA ?_ aH);intro K' hK';go_simp;refine(xW.o k hk3 _).ae ?_;rintro e u1 ⟨q,rfl,Iz,hb⟩;have hq:ku u1 w.heap.size q (qi k):=H8 Iz hM.bel.size;replace hM:=hM.step hb;(obtain⟨dq,nq,cq,rfl⟩:∃a n c,q=.slice a n c:=by obtain⟨a,c,e,_⟩:=mV hq;exact⟨_,_,_,e⟩);refine hK'.o _ _ trivial (fun _=>?_);clear hb Iz hx0;have hx0:=hM.box.cells.1;clear hK' K';(try simp only[gE,aP]);refine ar 6 (.agg #[.string (iz 110 v),.slice dq nq cq]) ?_;(try simp only[gE,aP]);refine aI [7] (cA ?_ aH);intro K' hK';go_simp;obtain⟨hb0,hb1⟩:=EU u1 (.string (iz 110 v)) (.slice dq nq cq);have aO:=(aw _ u1).alloc (ak _) (VC (.string (iz 110 v)) (.slice dq nq cq));replace hM:=hM.step aO;replace hq:=ku.step hq aO;refine hK'.o _ _ trivial (fun _=>?_);generalize (u1.alloc (VC (.string (iz 110 v)) (.slice dq nq cq)))=u2 at *;generalize u1.heap.size=gq at *;clear aO hx0;have hx0:=hM.box.cells.1
   rotate_left
   focus
    intro K' hK';go_simp;refine(xW.o k hk3 _).ae ?_;rintro e u1 ⟨q,rfl,Iz,hb⟩;have hq:ku u1 w.heap.size q (qi k):=H8 Iz hM.bel.size;replace hM:=hM.step hb;(obtain⟨dq,nq,cq,rfl⟩:∃a n c,q=.slice a n c:=by obtain⟨a,c,e,_⟩:=mV hq;exact⟨_,_,_,e⟩);refine hK'.o _ _ trivial (fun _=>?_);clear hb Iz hx0;have hx0:=hM.box.cells.1;clear hK' K';(try simp only[gE,aP]);refine ar 6 (.agg #[.string (iz 110 v),.slice dq nq cq]) ?_;(try simp only[gE,aP]);refine aI [1,7] (cA ?_ (cA ?_ aH))
    focus
     intro K' hK';go_simp;refine hK'.o _ _ trivial (fun _=>?_);clear hK' K';(try simp only[gE,aP]);refine aI [7] (cA ?_ aH);intro K' hK';go_simp;obtain⟨hb0,hb1⟩:=EU u1 (.string (iz 110 v)) (.slice dq nq cq);have aO:=(aw _ u1).alloc (ak _) (VC (.string (iz 110 v)) (.slice dq nq cq));replace hM:=hM.step aO;replace hq:=ku.step hq aO;refine hK'.o _ _ trivial (fun _=>?_);generalize (u1.alloc (VC (.string (iz 110 v)) (.slice dq nq cq)))=u2 at *;generalize u1.heap.size=gq at *;clear aO hx0;have hx0:=hM.box.cells.1
    rotate_left
    focus
     intro K' hK';go_simp;obtain⟨hb0,hb1⟩:=EU u1 (.string (iz 110 v)) (.slice dq nq cq);have aO:=(aw _ u1).alloc (ak _) (VC (.string (iz 110 v)) (.slice dq nq cq));replace hM:=hM.step aO;replace hq:=ku.step hq aO;refine hK'.o _ _ trivial (fun _=>?_);generalize (u1.alloc (VC (.string (iz 110 v)) (.slice dq nq cq)))=u2 at *;generalize u1.heap.size=gq at *;clear aO hx0;have hx0:=hM.box.cells.1;clear hK' K';(try simp only[gE,aP]);refine aI [1] (cA ?_ aH);intro K' hK';go_simp;refine hK'.o _ _ trivial (fun _=>?_)
   all_goals
    clear hK' K';(try simp only[gE,aP]);refine aI [8] (cA ?_ aH);intro K' hK';rw[aB (by rfl)];refine ada _ _ rfl w.heap.size x Vs (iz 110 v) (.slice dq nq cq) ⟨_,_,_,rfl⟩ rfl hM.vs.1 gq rfl hb0 hb1 (by have:=JZ.o.len;omega) (by have:=hM.lt;omega) ?_;intro v' u4 hr4 hg4;obtain⟨d4,uX,rfl, -⟩:=mV hr4;have kN:=hM.pushV hr4 hg4 hq;refine hK'.o _ _ trivial (fun _=>?_);clear hM hr4 hg4 hq hb0 hb1 hx0;clear hK' K';(try simp only[gE,aP]);have hm0:=kN.1.cells.1;have Ro:u4.frozen? ⟨w.heap.size+2,0,none⟩=false:=kZ _ _ 0 _ _ kN.1;refine ar 9 (.pointer (some ⟨w.heap.size+2,0,none⟩)) ?_;(try simp only[gE,aP]);refine aI [10] (cA ?_ aH);intro K' hK';go_simp;refine hK'.o _ _ trivial (fun _=>dW (by kernel_rfl) ?_ _);clear hK' K' hm0 Ro;have N1:=hid kN.2;clear kN;go_wp2;go_roundw
    case rel=>exact⟨v+1,_,_,by omega,by go_num,JZ.o.snoc (.slice dq nq cq) IX hk3,N1⟩
    case measure=>simp[intOf];omega
  ·obtain rfl:n=v:=by omega
   obtain⟨ax,cx,rfl,ek⟩:=fY.o.vs.vars;(have hVl:(fJ Vs).length=n:=by simp[fJ,JZ.o.len]);have iP:=hid (fun U hU=>afg ax none none cx 0 0 0 0 (fJ Vs) U hU (by omega));have hSK:=JZ.o.sizes;have xC:=hid ek;have NP:Hid (aq (fJ Vs)=aq (fJ Vs)):=rfl;rw[hVl] at iP fY;generalize ag:aq (fJ Vs)=S at *;have Ei:=hid ag;have qY:=hid hSK;clear ag hSK ek NP;obtain⟨e0,e1,e2⟩:=fY.o.box.cells;go_wp2_with fail
   refine(iP.o _ xC.o).ae ?_;rintro e W2 ⟨xv,rfl,FK,hb⟩;(have hSn:(iL S).length=n:=by rw[bF];exact qY.o.len);obtain⟨d10,Gd,zk, -⟩:=mV FK;rw[hSn] at zk;subst zk;have vA:Hid (bD W2 w.heap.size (.slice d10 n Gd) (iL S)):=H8 FK fY.o.bel.size;have Oa:=hid (fY.o.step hb);clear FK hb e0 e1 e2 fY iP xC hVl hlt hv;generalize hxg:Value.slice ax n cx=x at *;clear hxg;go_wp2_with fail
   go_loopw [8,9,11] (fun ev av iv wr=>∃(v e at_:Nat) (y z:Value) (Ls:List PL) (Rs:List PR),v<=n/\iv=.int .i64 v/\ev=.int .i64 (e:Nat)/\av=.int .i64 (at_:Nat)/\e<=6*v/\at_<=81*v/\Hid (zo bk n v S Ls Rs)/\Hid (MS w wr (.slice a1 L1.length c1) (.slice a2 L2.length c2) (.slice a3 L3.length c3) bk x y z Vs Ls Rs)/\Hid (bD wr w.heap.size (.slice d10 n Gd) (iL S))) (fun _ _ iv _=>n - (intOf iv).toNat)
   case atStart=>exact⟨0,0,0,_,_,[],[],aX _,rfl,rfl,rfl,ak _,ak _,⟨rfl,rfl,fun j hj=>absurd hj (by simp),fun j hj=>absurd hj (by simp)⟩,Oa,vA⟩
   case round=>
    obtain⟨v,e,at_,y,z,Ls,Rs,hv,rfl,rfl,rfl,he6,anD,zO,fY,HS⟩:=hrel;clear Oa vA;by_cases hlt:v<n
    ·go_wp2_with fail
     generalize wr=wb at *;go_loopw [8,12,13] (fun ev pv uv nI=>∃(u e':Nat) (pl:List Int),u<=n/\uv=.int .i64 u/\ev=.int .i64 (e':Nat)/\e'<=e+u/\Hid (PP bk n v u pl)/\Hid (bD nI wb.heap.size pv pl)/\Hid (Below wb.heap.size wb nI)) (fun _ _ uv _=>n - (intOf uv).toNat)
     case atStart=>exact⟨0,e,[],aX _,rfl,rfl,ak _,PP.nil bk n v,bD.emptyB _ _,aw _ _⟩
     case round=>
      obtain⟨u,e',pl,hu,rfl,rfl,hee,tO,fX,lW⟩:=hrel;by_cases wN:u<n
      ·generalize wr=nI at *;obtain⟨dp,cp,IE, -⟩:=mV fX.o;subst IE;have gP:=fY.o.step lW.o;obtain⟨-, -, -,d3⟩:=gP.cells;have RH:=tO.o.ok.few;have he1:e'<=1000:=by omega
       cases bk
       case true=>
        by_cases hs:(u:Int)<=(v:Int)
        ·go_wp2;go_roundw
         case rel=>exact⟨u+1,e',pl,by omega,by go_num,rfl,by omega,tO.o.skip,fX,lW⟩
         case measure=>simp[intOf];omega
        ·have hk:(v:Int)<(u:Int):=by omega
         clear hs;by_cases hl3:pl.length=3
         ·have js:((pl.length:Int)==3)=true:=by rw[hl3];rfl
          clear hl3;go_wp2;go_roundw
          case rel=>exact⟨u+1,e',pl,by omega,by go_num,rfl,by omega,tO.o.skip,fX,lW⟩
          case measure=>simp[intOf];omega
         ·have js:((pl.length:Int)==3)=false:=by
           (have:¬(pl.length:Int)=3:=by omega);simpa using this
          (have FM:if true=true then v<u else u<v:=by simp;omega);go_upto_region 26 with fail
          clear d3 js;have bU:Below nI.heap.size nI nI.drew:=(aw _ _).drew;go_cut [109] from 66 to 115 (fun s wx=>∃b:Bool,s=.bool b/\Hid (Below nI.heap.size nI wx))
          case first=>
           by_cases pJ:0<L2.length
           ·obtain⟨t,ht⟩:∃t,t=e' % L2.length:=⟨_,rfl⟩;(have nT:t<L2.length:=by rw[ht];exact gJ _ pJ);(have Iw:(e':Int) % (L2.length:Int)=(t:Int):=by rw[ht,rD]);(have hwt:IntKind.i64.wrap (t:Int)=(t:Int):=by rw[gV];omega);(have QS:IntKind.i64.wrap ((e':Int) % (L2.length:Int))=(t:Int):=by rw[Iw];exact hwt);(have IQ:(0:Int)<(L2.length:Int):=by omega);(have ai5:¬(L2.length:Int)=0:=by omega);have Kl:=hid (fun U=>HP2.o L2[t] (fW.o _ (bY nT)) U);obtain⟨g2,o2,rfl,hg2,cs⟩:=zQ.o t nT;have vL:=hid cs;generalize L2[t]=lt at *;generalize sR lt 2=pk at *;obtain⟨b,nW⟩:∃b:Bool,((pk:Int)==0)=b:=⟨_,rfl⟩;(have aiR:(pk==0)=b:=by rw[<- nW];cases pk<;>rfl);have UE:=hid pJ;(have Uz:Hid (¬L2=[]):=fun h=>by rw[h] at pJ;exact absurd pJ (by simp));(have J7:Hid ((e':Int).tmod (L2.length:Int)=(t:Int)):=by rw[ht];rfl);clear cs ht pJ;replace gP:=gP.step (aw _ _).drew;refine kC (S:=fun u=>u.cell? ⟨w.heap.size,1,none⟩=some (.slice (some ⟨g2,o2,none⟩) L2.length c2)/\u.cell? ⟨g2,o2+t,none⟩=some (.int .i64 lt)) (by kernel_rfl) ⟨gP.cells.2.1,(gP.bel.cell (p:=⟨g2,o2+t,none⟩) hg2).trans vL.o⟩ (fun ah=>?_);generalize nI.drew=u0 at *;refine ar 0 (.pointer (some ⟨w.heap.size,1,none⟩)) ?_;(try simp only[gE,aP]);refine ar 1 (.slice (some ⟨g2,o2,none⟩) L2.length c2) ?_;(try simp only[gE,aP]);refine ar 2 (.int .i64 (L2.length:Nat)) ?_;(try simp only[gE,aP]);refine dm 3 (.bool true) ?_ ?_
            ·intro u' aS;go_simp;exact UE.o
            (try simp only[gE,aP]);refine ar 4 (.bool true) ?_;(try simp only[gE,aP]);refine ar 5 (.pointer (some ⟨w.heap.size,1,none⟩)) ?_;(try simp only[gE,aP]);refine ar 6 (.slice (some ⟨g2,o2,none⟩) L2.length c2) ?_;(try simp only[gE,aP]);refine ar 7 (.int .i64 (e':Nat)) ?_;(try simp only[gE,aP]);refine ar 8 (.pointer (some ⟨w.heap.size,1,none⟩)) ?_;(try simp only[gE,aP]);refine ar 9 (.slice (some ⟨g2,o2,none⟩) L2.length c2) ?_;(try simp only[gE,aP]);refine ar 10 (.int .i64 (L2.length:Nat)) ?_;(try simp only[gE,aP]);refine dm 11 (.int .i64 (t:Nat)) ?_ ?_
            ·intro u' aS;go_simp;rw[aD Uz.o,J7.o]
            (try simp only[gE,aP]);refine ar 12 (.pointer (some ⟨g2,o2+t,none⟩)) ?_;(try simp only[gE,aP]);refine ar 13 (.int .i64 lt) ?_;(try simp only[gE,aP]);refine aI [14] (cA ?_ aH);intro K' hK';go_simp;refine(Kl.o _).ae ?_;rintro _ u1 ⟨rfl,hb⟩;replace gP:=gP.step hb;replace bU:=bU.trans (hb.ae bU.size);refine hK'.o _ _ ⟨gP.cells.2.1,(gP.bel.cell (p:=⟨g2,o2+t,none⟩) hg2).trans vL.o⟩ (fun ag=>?_);clear hb;clear hK' K' ah;have ah:=ag;clear ag;(try simp only[gE,aP]);refine ar 15 (.bool b) ?_;(try simp only[gE,aP]);refine ar 16 (.bool b) ?_;(try simp only[gE,aP]);refine dW (by kernel_rfl) ?_ _;clear ah;go_wp2_with fail
            go_meet
            exact⟨b,rfl,bU⟩
           ·have IQ:¬(0:Int)<(L2.length:Int):=by omega
            have ai4:decide ((0:Int)<(L2.length:Int))=false:=cj IQ;have ai3:¬0<L2.length:=pJ;clear pJ;replace gP:=gP.step (aw _ _).drew;refine kC (S:=fun u=>u.cell? ⟨w.heap.size,1,none⟩=some (.slice a2 L2.length c2)) (by kernel_rfl) gP.cells.2.1 (fun ah=>?_);generalize nI.drew=u0 at *;refine ar 0 (.pointer (some ⟨w.heap.size,1,none⟩)) ?_;(try simp only[gE,aP]);refine ar 1 (.slice a2 L2.length c2) ?_;(try simp only[gE,aP]);refine ar 2 (.int .i64 (L2.length:Nat)) ?_;(try simp only[gE,aP]);refine ar 3 (.bool false) ?_;(try simp only[gE,aP]);refine ar 4 (.bool false) ?_;(try simp only[gE,aP]);refine kD (i:=5) (oi:=_) (v:=undef) rfl (by kernel_rfl) (by kernel_rfl) (by kernel_rfl) (fun _ _ _ h=>h) (Or.inr ⟨by rfl,rfl⟩) (by assumption) ?_;(try simp only[gE,aP]);refine kD (i:=6) (oi:=_) (v:=undef) rfl (by kernel_rfl) (by kernel_rfl) (by kernel_rfl) (fun _ _ _ h=>h) (Or.inr ⟨by rfl,rfl⟩) (by assumption) ?_;(try simp only[gE,aP]);refine kD (i:=7) (oi:=_) (v:=undef) rfl (by kernel_rfl) (by kernel_rfl) (by kernel_rfl) (fun _ _ _ h=>h) (Or.inr ⟨by rfl,rfl⟩) (by assumption) ?_;(try simp only[gE,aP]);refine kD (i:=8) (oi:=_) (v:=undef) rfl (by kernel_rfl) (by kernel_rfl) (by kernel_rfl) (fun _ _ _ h=>h) (Or.inr ⟨by rfl,rfl⟩) (by assumption) ?_;(try simp only[gE,aP]);refine kD (i:=9) (oi:=_) (v:=undef) rfl (by kernel_rfl) (by kernel_rfl) (by kernel_rfl) (fun _ _ _ h=>h) (Or.inr ⟨by rfl,rfl⟩) (by assumption) ?_;(try simp only[gE,aP])
            refine kD (i:=10) (oi:=_) (v:=undef) rfl (by kernel_rfl) (by kernel_rfl) (by kernel_rfl) (fun _ _ _ h=>h) (Or.inr ⟨by rfl,rfl⟩) (by assumption) ?_;(try simp only[gE,aP]);refine kD (i:=11) (oi:=_) (v:=undef) rfl (by kernel_rfl) (by kernel_rfl) (by kernel_rfl) (fun _ _ _ h=>h) (Or.inr ⟨by rfl,rfl⟩) (by assumption) ?_;(try simp only[gE,aP]);refine kD (i:=12) (oi:=_) (v:=undef) rfl (by kernel_rfl) (by kernel_rfl) (by kernel_rfl) (fun _ _ _ h=>h) (Or.inr ⟨by rfl,rfl⟩) (by assumption) ?_;(try simp only[gE,aP]);refine kD (i:=13) (oi:=_) (v:=undef) rfl (by kernel_rfl) (by kernel_rfl) (by kernel_rfl) (fun _ _ _ h=>h) (Or.inr ⟨by rfl,rfl⟩) (by assumption) ?_;(try simp only[gE,aP]);refine aI [14] (cA ?_ aH);intro K' hK';go_simp;refine hK'.o _ _ ah (fun ag=>?_);clear hK' K' ah;have ah:=ag;clear ag;(try simp only[gE,aP]);refine kD (i:=15) (oi:=_) (v:=undef) rfl (by kernel_rfl) (by kernel_rfl) (by kernel_rfl) (fun _ _ _ h=>h) (Or.inr ⟨by rfl,rfl⟩) (by assumption) ?_;(try simp only[gE,aP]);refine ar 16 (.bool false) ?_;(try simp only[gE,aP]);refine dW (by kernel_rfl) ?_ _;clear ah;go_wp2_with fail
            go_meet
            exact⟨false,rfl,bU⟩
          case rest=>
          obtain⟨b,rfl,oz⟩:=hcut;have El:=hid (fX.o.aa oz.o);have zU:=hid (lW.o.trans (oz.o.ae lW.o.size));clear fX lW gP bU;cases b
          case false=>
           clear oz;go_wp2;go_roundw
           case rel=>exact⟨u+1,e'+1,pl,by omega,by go_num,by go_num,by omega,tO.o.skip,El,zU⟩
           case measure=>simp[intOf];omega
          case true=>
           clear oz;have jz:=hid (El.o.aa ((aw _ wc).alloc (ak _) (.cells #[.int .i64 (u:Int)] 3)));have cF:=hid (zU.o.alloc zU.o.size (.cells #[.int .i64 (u:Int)] 3));have mO:=hid (Fp wc (u:Int));have fE:wb.heap.size<=(wc.alloc (.cells #[.int .i64 (u:Int)] 3)).heap.size:=cF.o.size;have pZ:=hid (tO.o.snoc wN hl3 FM);clear El zU;go_wp2_with (at_builtin;refine yo rfl _ _ rfl wb.heap.size _ pl [(u:Int)] rfl jz.o (some ⟨wc.heap.size,0,none⟩) 1 rfl mO.o (fun e=>by cases e) (by simp;omega) fE ?_;intro v' w3 hr3 hg3;have fA:=hid (cF.o.grown hg3 fE (fun k e=>LD jz.o k e)))
           go_roundw
           case rel=>exact⟨u+1,e'+1,pl++[(u:Int)],by omega,by go_num,by go_num,by omega,pZ,hr3,fA⟩
           case measure=>simp[intOf];omega
       case false=>
        by_cases hs:(v:Int)<=(u:Int)
        ·go_wp2;go_roundw
         case rel=>exact⟨u+1,e',pl,by omega,by go_num,rfl,by omega,tO.o.skip,fX,lW⟩
         case measure=>simp[intOf];omega
        ·have hk:(u:Int)<(v:Int):=by omega
         clear hs;by_cases hl3:pl.length=3
         ·have js:((pl.length:Int)==3)=true:=by rw[hl3];rfl
          clear hl3;go_wp2;go_roundw
          case rel=>exact⟨u+1,e',pl,by omega,by go_num,rfl,by omega,tO.o.skip,fX,lW⟩
          case measure=>simp[intOf];omega
         ·have js:((pl.length:Int)==3)=false:=by
           (have:¬(pl.length:Int)=3:=by omega);simpa using this
          (have FM:if false=true then v<u else u<v:=by simp;omega);go_upto_region 26 with fail
          clear d3 js;have bU:Below nI.heap.size nI nI.drew:=(aw _ _).drew;go_cut [109] from 66 to 115 (fun s wx=>∃b:Bool,s=.bool b/\Hid (Below nI.heap.size nI wx))
          case first=>
           by_cases pJ:0<L2.length
           ·obtain⟨t,ht⟩:∃t,t=e' % L2.length:=⟨_,rfl⟩;(have nT:t<L2.length:=by rw[ht];exact gJ _ pJ);(have Iw:(e':Int) % (L2.length:Int)=(t:Int):=by rw[ht,rD]);(have hwt:IntKind.i64.wrap (t:Int)=(t:Int):=by rw[gV];omega);(have QS:IntKind.i64.wrap ((e':Int) % (L2.length:Int))=(t:Int):=by rw[Iw];exact hwt);(have IQ:(0:Int)<(L2.length:Int):=by omega);(have ai5:¬(L2.length:Int)=0:=by omega);have Kl:=hid (fun U=>HP2.o L2[t] (fW.o _ (bY nT)) U);obtain⟨g2,o2,rfl,hg2,cs⟩:=zQ.o t nT;have vL:=hid cs;generalize L2[t]=lt at *;generalize sR lt 2=pk at *;obtain⟨b,nW⟩:∃b:Bool,((pk:Int)==0)=b:=⟨_,rfl⟩;(have aiR:(pk==0)=b:=by rw[<- nW];cases pk<;>rfl);have UE:=hid pJ;(have Uz:Hid (¬L2=[]):=fun h=>by rw[h] at pJ;exact absurd pJ (by simp));(have J7:Hid ((e':Int).tmod (L2.length:Int)=(t:Int)):=by rw[ht];rfl);clear cs ht pJ;replace gP:=gP.step (aw _ _).drew;refine kC (S:=fun u=>u.cell? ⟨w.heap.size,1,none⟩=some (.slice (some ⟨g2,o2,none⟩) L2.length c2)/\u.cell? ⟨g2,o2+t,none⟩=some (.int .i64 lt)) (by kernel_rfl) ⟨gP.cells.2.1,(gP.bel.cell (p:=⟨g2,o2+t,none⟩) hg2).trans vL.o⟩ (fun ah=>?_);generalize nI.drew=u0 at *;refine ar 0 (.pointer (some ⟨w.heap.size,1,none⟩)) ?_;(try simp only[gE,aP]);refine ar 1 (.slice (some ⟨g2,o2,none⟩) L2.length c2) ?_;(try simp only[gE,aP]);refine ar 2 (.int .i64 (L2.length:Nat)) ?_;(try simp only[gE,aP]);refine dm 3 (.bool true) ?_ ?_
            ·intro u' aS;go_simp;exact UE.o
            (try simp only[gE,aP]);refine ar 4 (.bool true) ?_;(try simp only[gE,aP]);refine ar 5 (.pointer (some ⟨w.heap.size,1,none⟩)) ?_;(try simp only[gE,aP]);refine ar 6 (.slice (some ⟨g2,o2,none⟩) L2.length c2) ?_;(try simp only[gE,aP]);refine ar 7 (.int .i64 (e':Nat)) ?_;(try simp only[gE,aP]);refine ar 8 (.pointer (some ⟨w.heap.size,1,none⟩)) ?_;(try simp only[gE,aP]);refine ar 9 (.slice (some ⟨g2,o2,none⟩) L2.length c2) ?_;(try simp only[gE,aP]);refine ar 10 (.int .i64 (L2.length:Nat)) ?_;(try simp only[gE,aP]);refine dm 11 (.int .i64 (t:Nat)) ?_ ?_
            ·intro u' aS;go_simp;rw[aD Uz.o,J7.o]
            (try simp only[gE,aP]);refine ar 12 (.pointer (some ⟨g2,o2+t,none⟩)) ?_;(try simp only[gE,aP]);refine ar 13 (.int .i64 lt) ?_;(try simp only[gE,aP]);refine aI [14] (cA ?_ aH);intro K' hK';go_simp;refine(Kl.o _).ae ?_;rintro _ u1 ⟨rfl,hb⟩;replace gP:=gP.step hb;replace bU:=bU.trans (hb.ae bU.size);refine hK'.o _ _ ⟨gP.cells.2.1,(gP.bel.cell (p:=⟨g2,o2+t,none⟩) hg2).trans vL.o⟩ (fun ag=>?_);clear hb;clear hK' K' ah;have ah:=ag;clear ag;(try simp only[gE,aP]);refine ar 15 (.bool b) ?_;(try simp only[gE,aP]);refine ar 16 (.bool b) ?_;(try simp only[gE,aP]);refine dW (by kernel_rfl) ?_ _;clear ah;go_wp2_with fail
            go_meet
            exact⟨b,rfl,bU⟩
           ·have IQ:¬(0:Int)<(L2.length:Int):=by omega
            have ai4:decide ((0:Int)<(L2.length:Int))=false:=cj IQ;have ai3:¬0<L2.length:=pJ;clear pJ;replace gP:=gP.step (aw _ _).drew;refine kC (S:=fun u=>u.cell? ⟨w.heap.size,1,none⟩=some (.slice a2 L2.length c2)) (by kernel_rfl) gP.cells.2.1 (fun ah=>?_);generalize nI.drew=u0 at *;refine ar 0 (.pointer (some ⟨w.heap.size,1,none⟩)) ?_;(try simp only[gE,aP]);refine ar 1 (.slice a2 L2.length c2) ?_;(try simp only[gE,aP]);refine ar 2 (.int .i64 (L2.length:Nat)) ?_;(try simp only[gE,aP]);refine ar 3 (.bool false) ?_;(try simp only[gE,aP]);refine ar 4 (.bool false) ?_;(try simp only[gE,aP]);refine kD (i:=5) (oi:=_) (v:=undef) rfl (by kernel_rfl) (by kernel_rfl) (by kernel_rfl) (fun _ _ _ h=>h) (Or.inr ⟨by rfl,rfl⟩) (by assumption) ?_;(try simp only[gE,aP]);refine kD (i:=6) (oi:=_) (v:=undef) rfl (by kernel_rfl) (by kernel_rfl) (by kernel_rfl) (fun _ _ _ h=>h) (Or.inr ⟨by rfl,rfl⟩) (by assumption) ?_;(try simp only[gE,aP]);refine kD (i:=7) (oi:=_) (v:=undef) rfl (by kernel_rfl) (by kernel_rfl) (by kernel_rfl) (fun _ _ _ h=>h) (Or.inr ⟨by rfl,rfl⟩) (by assumption) ?_;(try simp only[gE,aP]);refine kD (i:=8) (oi:=_) (v:=undef) rfl (by kernel_rfl) (by kernel_rfl) (by kernel_rfl) (fun _ _ _ h=>h) (Or.inr ⟨by rfl,rfl⟩) (by assumption) ?_;(try simp only[gE,aP]);refine kD (i:=9) (oi:=_) (v:=undef) rfl (by kernel_rfl) (by kernel_rfl) (by kernel_rfl) (fun _ _ _ h=>h) (Or.inr ⟨by rfl,rfl⟩) (by assumption) ?_;(try simp only[gE,aP])
            refine kD (i:=10) (oi:=_) (v:=undef) rfl (by kernel_rfl) (by kernel_rfl) (by kernel_rfl) (fun _ _ _ h=>h) (Or.inr ⟨by rfl,rfl⟩) (by assumption) ?_;(try simp only[gE,aP]);refine kD (i:=11) (oi:=_) (v:=undef) rfl (by kernel_rfl) (by kernel_rfl) (by kernel_rfl) (fun _ _ _ h=>h) (Or.inr ⟨by rfl,rfl⟩) (by assumption) ?_;(try simp only[gE,aP]);refine kD (i:=12) (oi:=_) (v:=undef) rfl (by kernel_rfl) (by kernel_rfl) (by kernel_rfl) (fun _ _ _ h=>h) (Or.inr ⟨by rfl,rfl⟩) (by assumption) ?_;(try simp only[gE,aP]);refine kD (i:=13) (oi:=_) (v:=undef) rfl (by kernel_rfl) (by kernel_rfl) (by kernel_rfl) (fun _ _ _ h=>h) (Or.inr ⟨by rfl,rfl⟩) (by assumption) ?_;(try simp only[gE,aP]);refine aI [14] (cA ?_ aH);intro K' hK';go_simp;refine hK'.o _ _ ah (fun ag=>?_);clear hK' K' ah;have ah:=ag;clear ag;(try simp only[gE,aP]);refine kD (i:=15) (oi:=_) (v:=undef) rfl (by kernel_rfl) (by kernel_rfl) (by kernel_rfl) (fun _ _ _ h=>h) (Or.inr ⟨by rfl,rfl⟩) (by assumption) ?_;(try simp only[gE,aP]);refine ar 16 (.bool false) ?_;(try simp only[gE,aP]);refine dW (by kernel_rfl) ?_ _;clear ah;go_wp2_with fail
            go_meet
            exact⟨false,rfl,bU⟩
          case rest=>
          obtain⟨b,rfl,oz⟩:=hcut;have El:=hid (fX.o.aa oz.o);have zU:=hid (lW.o.trans (oz.o.ae lW.o.size));clear fX lW gP bU;cases b
          case false=>
           clear oz;go_wp2;go_roundw
           case rel=>exact⟨u+1,e'+1,pl,by omega,by go_num,by go_num,by omega,tO.o.skip,El,zU⟩
           case measure=>simp[intOf];omega
          case true=>
           clear oz;have jz:=hid (El.o.aa ((aw _ wc).alloc (ak _) (.cells #[.int .i64 (u:Int)] 3)));have cF:=hid (zU.o.alloc zU.o.size (.cells #[.int .i64 (u:Int)] 3));have mO:=hid (Fp wc (u:Int));have fE:wb.heap.size<=(wc.alloc (.cells #[.int .i64 (u:Int)] 3)).heap.size:=cF.o.size;have pZ:=hid (tO.o.snoc wN hl3 FM);clear El zU;go_wp2_with (at_builtin;refine yo rfl _ _ rfl wb.heap.size _ pl [(u:Int)] rfl jz.o (some ⟨wc.heap.size,0,none⟩) 1 rfl mO.o (fun e=>by cases e) (by simp;omega) fE ?_;intro v' w3 hr3 hg3;have fA:=hid (cF.o.grown hg3 fE (fun k e=>LD jz.o k e)))
           go_roundw
           case rel=>exact⟨u+1,e'+1,pl++[(u:Int)],by omega,by go_num,by go_num,by omega,pZ,hr3,fA⟩
           case measure=>simp[intOf];omega
      ·obtain rfl:n=u:=by omega
       obtain⟨dp,cp,IE, -⟩:=mV fX.o;subst IE;have gP:=fY.o.step lW.o;have MI:=HS.o.aa lW.o;have hP3:bD wr w.heap.size (.slice dp pl.length cp) pl:=H8 fX.o fY.o.bel.size;obtain⟨dy,cy,QP, -⟩:=mV gP.ls.1;subst QP;have aO:Below wr.heap.size wr (wr.alloc (.cells #[.slice dp pl.length cp] 27)):=(aw _ wr).alloc (ak _) _;have y8:=gP.step aO;have hSA:=MI.aa aO;have Ji:=hP3.aa aO;have hyc:=y8.box.cells.2.1;have aiy:=gP.box.cells.2.1;have lV:=hid ((aZ wr 27 (.slice dp pl.length cp)).cell);have fE:w.heap.size<=(wr.alloc (.cells #[.slice dp pl.length cp] 27)).heap.size:=y8.bel.size;have jW:=hid y8;have kA:=hid hSA;have Em:=hid Ji;clear gP MI hP3 y8 hSA Ji fY HS fX lW hyc aO;go_wp2_with (at_builtin;refine adi rfl _ _ rfl w.heap.size _ Ls (.slice dp pl.length cp) ⟨_,_,_,rfl⟩ rfl jW.o.ls.1 wr.heap.size rfl lV.o (by have:=zO.o.len;omega) fE ?_;intro v4 W4 hr4 hg4;obtain⟨d4,uX,rfl, -⟩:=mV hr4;have kN:=jW.o.pushL hr4 hg4 Em.o;have hm1:=kN.1.cells.2.1;have Ro:W4.frozen? ⟨w.heap.size+2,1,none⟩=false:=kZ _ _ 1 _ _ kN.1;have N1:=hid kN.2;have UG:=hid (Xu (j:=1) (v':=.slice d4 (Ls.length+1) uX) jW.o.ls.1 hg4 kN.1 3 (by decide) (by decide));clear kN hr4 hg4)
       clear hm1 Ro aiy;have Gs:Hid (bD (W4.setCell ⟨w.heap.size+2,1,none⟩ (.slice d4 (Ls.length+1) uX)) w.heap.size (.slice d10 n Gd) (iL S)):=mW kA.o UG.o;have acO:Hid (bD (W4.setCell ⟨w.heap.size+2,1,none⟩ (.slice d4 (Ls.length+1) uX)) w.heap.size (.slice dp pl.length cp) pl):=mW Em.o UG.o;generalize (W4.setCell ⟨w.heap.size+2,1,none⟩ (.slice d4 (Ls.length+1) uX))=W5 at *;clear jW kA Em UG lV fE;(have DM:(iL S).length=n:=by rw[bF];exact qY.o.len)
       have p9:Hid (Calls Tryz.prog 55 #[.slice d10 n Gd,.slice dp pl.length cp] W5 fun e w'=>e=.returned (.tuple #[.int .i64 (cnt S (af pl):Nat),.int .i64 0])/\Below W5.heap.size W5 w'):=by
        have h5:=Gs.o;rw[<- DM] at h5;have h:=afu d10 dp Gd cp (iL S) pl W5 (bD.intS h5) (bD.intS acO.o) (qY.o.fine eO (by omega)) (by rw[DM];exact tO.o.ok.up);rwa [DM,iV] at h
       obtain⟨anx,anv⟩:=abR qY.o (l:=af pl) (by rw[dR];exact tO.o.ok.few);obtain⟨aiI,QZ⟩:=qY.o.sz v;(have QY:v<S.length:=by rw[qY.o.len];exact hlt);(have ZQ:S[v]'QY=sz S v:=by rw[Go.Proofs.YtfgkjjlocjmfeaaGreatDoor.sz,ba QY];rfl);have N2:=hid tO.o.ok;generalize hcq:cnt S (af pl)=Nk at *;have HCQ:=hid hcq;clear hcq;refine p9.o.ae ?_;rintro e8 Hj ⟨rfl,gF⟩;have Es:=hid (N1.o.step gF);have Jh:=Gs.o.aa gF;rw[<- DM] at Jh;obtain⟨g10,Fq,zk,eP,Tf⟩:=(bD.intS Jh) v (by rw[DM];exact hlt);subst zk;(have ee:(iL S)[v]'(by rw[DM];exact hlt)=((S[v]'QY:Nat):Int):=by simp[iL]);rw[ee,ZQ] at Tf;rw[DM] at Jh;have acZ:=hid Tf;have Kb:=hid Jh;clear gF N1 Gs acO p9 Tf Jh ee ZQ;generalize ZP:sz S v=sv at *;have acC:=hid ZP;clear ZP;go_wp2_with fail
       go_loopw [9,16,17] (fun av rv kv oI=>∃(k BH:Nat) (r:List Fr),k<=Nk/\kv=.int .i64 k/\av=.int .i64 (BH:Nat)/\BH<=at_+3*k/\Hid (RP sv k r)/\Hid (iO oI Hj.heap.size rv r)/\Hid (Below Hj.heap.size Hj oI)) (fun _ _ kv _=>Nk - (intOf kv).toNat)
       case atStart=>exact⟨0,at_,[],aX _,rfl,rfl,ak _,RP.nil sv,iO.empty _ _,aw _ _⟩
       case round=>
        obtain⟨k,BH,r,hk,rfl,rfl,anB,Ke,nh,ir⟩:=hrel;obtain⟨d16,JK,ajF, -⟩:=mV nh.o;subst ajF;generalize wr=oI at *;by_cases hkc:k<Nk
        ·have ai6:k<27:=by omega
         have mZ:=Es.o.step ir.o;have aaB:=(ir.o.cell (p:=⟨g10,Fq+v,none⟩) eP).trans acZ.o;have ajq:=aaB;have ajf:g10<oI.heap.size:=aR eP ir.o.size;(have anA:BH<=100000:=by omega);go_upto_region 35 with fail
         replace mZ:=mZ.step (aw _ _).drew;have hBd:Below oI.heap.size oI oI.drew:=(aw _ _).drew;refine kC (S:=fun u=>u.cell? ⟨w.heap.size,2,none⟩=some (.slice a3 L3.length c3)/\u.cell? ⟨g10,Fq+v,none⟩=some (.int .i64 (sv:Nat))) (by kernel_rfl) ⟨mZ.cells.2.2.1,aaB⟩ (fun ah=>?_);generalize oI.drew=u0 at *;refine ar 0 (.pointer (some ⟨w.heap.size,2,none⟩)) ?_;(try simp only[gE,aP]);refine ar 1 (.slice a3 L3.length c3) ?_;(try simp only[gE,aP]);refine ar 2 (.int .i64 (BH:Nat)) ?_;(try simp only[gE,aP]);refine ar 3 (.slice (some ⟨g10,Fq,none⟩) n Gd) ?_;(try simp only[gE,aP]);refine ar 4 (.int .i64 (v:Nat)) ?_;(try simp only[gE,aP]);refine ar 5 (.pointer (some ⟨g10,Fq+v,none⟩)) ?_;(try simp only[gE,aP]);refine ar 6 (.int .i64 (sv:Nat)) ?_;(try simp only[gE,aP]);refine aI [7] (cA ?_ aH);intro K' hK';go_simp;refine(Kf.o BH (by omega) sv aiI QZ _ (q9.o.aa mZ.bel)).ae ?_;rintro e9 u1 ⟨x18,TY,rfl,FK,hwt,wS,hb⟩;have R3:=hBd.trans (hb.ae hBd.size);obtain⟨d18,ab2,rfl,RJ⟩:=FK.fr;(have aar:(nP TY).length=sv:=by rw[PN];exact hwt.len);rw[aar];obtain⟨g18,Yn,e18, -, -⟩:=RJ 0 (by omega);subst e18;have amK:=hid RJ;have Ki:=hid (ae9 wS);have amy:=hid (ae8 hwt.six (by rw[hwt.len];exact QZ) wS);have UF:=hid aar;replace mZ:=mZ.step hb;refine hK'.o _ _ ⟨mZ.cells.2.2.1,(R3.cell (p:=⟨g10,Fq+v,none⟩) ajf).trans ajq⟩ (fun ag=>?_);clear hb FK hwt wS RJ;clear hK' K' ah;have ah:=ag;clear ag;(try simp only[gE,aP]);refine ar 8 (.slice (some ⟨g18,Yn,none⟩) sv ab2) ?_;(try simp only[gE,aP])
         refine dW (by kernel_rfl) ?_ _;clear ah;have HY1:=hid (nh.o.aa R3);have cP:=hid (ir.o.trans (R3.ae ir.o.size));have fE:Hj.heap.size<=u1.heap.size:=cP.o.size;have hrl:=Ke.o.len;have hks:k*sv<=81:=aM (jE (vP ai6) QZ) (by omega);(have am9:r.length<=81:=by omega);clear hrl;go_wp2_with (at_builtin;refine adl rfl _ _ rfl Hj.heap.size _ r (nP TY) rfl HY1.o g18 Yn ab2 (by rw[UF.o];rfl) amK.o (by rw[UF.o];omega) fE ?_;intro v9 u2 yQ gX;have SD:=cP.o.grown gX fE (fun k e=>LD HY1.o k e);have ant:=(SD.cell (p:=⟨g10,Fq+v,none⟩) eP).trans acZ.o;have KC:=hid SD;clear SD)
         go_roundw
         case rel=>exact⟨k+1,BH+sv,r++nP TY,by omega,by go_num,by go_num,by omega,Ke.o.snoc UF.o Ki.o amy.o,yQ,KC⟩
         case measure=>simp[intOf];omega
        ·obtain rfl:Nk=k:=by omega
         have mZ:=Es.o.step ir.o;have MH:=Kb.o.aa ir.o;have tC:iO oI w.heap.size (.slice d16 r.length JK) r:=H8 nh.o Es.o.bel.size;obtain⟨dz,cz,QM, -⟩:=mV mZ.rs.1;subst QM;have aO:Below oI.heap.size oI (oI.alloc (.cells #[.slice d16 r.length JK] 37)):=(aw _ oI).alloc (ak _) _;have jW:=hid (mZ.step aO);have kA:=hid (MH.aa aO);have pg:=hid (tC.aa aO);have amZ:=mZ.box.cells.2.2;have lV:=hid ((aZ oI 37 (.slice d16 r.length JK)).cell);have fE:w.heap.size<=(oI.alloc (.cells #[.slice d16 r.length JK] 37)).heap.size:=jW.o.bel.size;have Ui:Hid (TU S v pl r):=⟨by rw[HCQ.o,acC.o];exact Ke.o.len,fun i hi=>by rw[acC.o];exact Ke.o.rows i (by rw[<- HCQ.o];exact hi),Ke.o.small⟩;clear mZ MH tC aO nh ir;go_wp2_with (at_builtin;refine adh rfl _ _ rfl w.heap.size _ Rs (.slice d16 r.length JK) ⟨_,_,_,rfl⟩ rfl jW.o.rs.1 oI.heap.size rfl lV.o (by have:=zO.o.lenR;omega) fE ?_;intro v5 W7 Rf mX;obtain⟨d7,zl,rfl, -⟩:=mV Rf;have kN:=jW.o.pushR Rf mX pg.o;have a7:=kN.1.cells.2.2;have anf:W7.frozen? ⟨w.heap.size+2,2,none⟩=false:=kZ _ _ 2 _ _ kN.1;have amG:=hid kN.2;have amJ:=hid (Xu (j:=2) (v':=.slice d7 (Rs.length+1) zl) jW.o.rs.1 mX kN.1 3 (by decide) (by decide));clear kN Rf mX)
         go_roundw
         case rel=>exact⟨v+1,e',BH,_,_,_,_,by omega,by go_num,rfl,rfl,by omega,by omega,zO.o.snoc N2.o Ui.o,amG,mW kA.o amJ.o⟩
         case measure=>simp[intOf];omega
    ·obtain rfl:n=v:=by omega
     obtain⟨dx,cx',hxe, -⟩:=mV fY.o.vs.1;subst hxe;obtain⟨dy,cy,QP, -⟩:=mV fY.o.ls.1;subst QP;obtain⟨dz,cz,QM, -⟩:=mV fY.o.rs.1;subst QM;obtain⟨e0,e1,e2⟩:=fY.o.box.cells;obtain⟨q0,q1,q2⟩:=fY.o.res.cells;have f0:wr.frozen? ⟨w.heap.size+1,0,none⟩=false:=kZ _ _ 0 _ _ fY.o.res;have f1:wr.frozen? ⟨w.heap.size+1,1,none⟩=false:=kZ _ _ 1 _ _ fY.o.res;have f2:wr.frozen? ⟨w.heap.size+1,2,none⟩=false:=kZ _ _ 2 _ _ fY.o.res;obtain⟨o1,o2,o3,o4,o5⟩:=fY.o.out3;have tP:=hid o1;have Ko:=hid o2;have HO3:=hid o3;have N5:=hid o4;have zH:=hid o5;clear o1 o2 o3 o4 o5;go_wp2;refine dh (EJ rfl _ _ (w.heap.size+1) _ _ _ _ rfl tP.o Tryz.underlying26 rfl (by kernel_rfl)) rfl ?_;exact⟨bk,n,_,_,_,Vs,Ls,Rs,rfl,⟨eO,yX⟩,JZ.o,by rw[Ei.o];exact zO.o,Ko.o,HO3.o,N5.o,zH.o⟩
variable {bk:Bool} {P:List (List Nat)} {l:List Int} {S:List Nat} {Ls:List PL} {Rs:List PR} {Vs:List PV} {n v:Nat}
theorem Hm (h2:Up l n):dZ l n=true:=by
 rw[dZ,dN];intro i hi;have hi':=ck.1 hi;rw[kd,dQ,getD_eq hi'];refine⟨(h2.each i hi').1,(h2.each i hi').2,fun h0=>?_⟩;rw[getD_eq (show i - 1<l.length by omega)];exact h2.lt (i - 1) i hi' (by omega)
theorem P5 (h:zo bk n n S Ls Rs) (hv:v<(gw Ls).length):Nz bk n v (gw Ls)[v]:=by
 have hv':v<Ls.length:=by simpa [gw] using hv
 simpa [gw] using h.pars v hv'
theorem Xd:∀(n:Nat) (l:List Nat),(∀v,v< n ->v∈l) ->n<=l.length
 |0,_,_=>aX _
 |n+1,l,h=>by
  have hm:=h n (by omega);have h1:=Xd n (l.erase n) fun v hv=>(List.mem_erase_of_ne (by omega)).2 (h v (by omega));have h2:=OY hm;have h3:=List.length_pos_of_mem hm;omega
theorem X8 (r:Nat ->Nat) (h:∀v,v<P.length ->∀u∈P.getD v [],u<P.length/\r u<r v):∀k,k<=P.length ->(aW P k).length=k
 |0,_=>rfl
 |k+1,hk=>by
  have ih:=X8 r h k (by omega);cases e:pF P (aW P k) with
  |some v=>rw[LM e,bM,ih];rfl
  |none=>
   exfalso
   have hno:∀v,v<P.length ->gY P (aW P k) v=false:=fun v hv=>by
    have:=List.find?_eq_none.1 e v (ck.2 hv);simpa using this
   have hall:∀m v,v<P.length ->r v<=m ->v∈aW P k:=by
    intro m;induction m with
    |zero=>
     intro v hv hr;refine CB fun hm=>?_;have hf:=hno v hv;rw[gY,Bool.and_eq_false_iff] at hf;rcases hf with hf |hf
     ·exact absurd hm (by simpa using hf)
     ·have hf':=of_decide_eq_false hf;refine hf' fun u hu=>?_;have:=(h v hv u hu).2;omega
    |succ m QI=>
     intro v hv hr;refine CB fun hm=>?_;have hf:=hno v hv;rw[gY,Bool.and_eq_false_iff] at hf;rcases hf with hf |hf
     ·exact absurd hm (by simpa using hf)
     ·have hf':=of_decide_eq_false hf;refine hf' fun u hu=>?_;obtain⟨h1,h2⟩:=h v hv u hu;exact QI u h1 (by omega)
   have hle:=Xd P.length (aW P k) fun v hv=>hall (r v) v hv (ak _);omega
theorem ahY (h:zo bk n n S Ls Rs) (h1:1<=n) (h6:n<=6):bh (gw Ls)=0:=by
 have hl:(gw Ls).length=n:=by simp[gw,h.len]
 have FM:∀v (hv:v<(gw Ls).length),∀x∈(gw Ls)[v],(0<=x/\x<n)/\(if bk=true then(v:Int)<x else x<(v:Int)):=fun v hv x hx=>
  ⟨(fK.1 (P5 h hv).up).1 x hx,(P5 h hv).rank x hx⟩
 have hgb:gB (gw Ls)=true:=by
  rw[gB,fD,fD];refine⟨⟨bT ⟨by omega,by omega⟩,?_⟩,?_⟩
  ·rw[gR,dN];intro l kj;obtain⟨v,hv,rfl⟩:=jg kj;rw[hl];exact Hm (P5 h hv).up
  ·rw[wF,dN];intro v hv;have hv':v<(gw Ls).length:=ck.1 hv;rw[b6,ba hv'];simp only[yf,Bool.not_eq_true',KL];intro hm;obtain⟨x,hx,e⟩:=aU.1 hm;obtain⟨⟨h0,_⟩,hr⟩:=FM v hv' x hx;cases bk<;>simp at hr<;>omega
 rw[bh,aB hgb,aD];have hp:(aG (gw Ls)).length=n:=by rw[iX,hl]
 have aiT:=X8 (P:=aG (gw Ls)) (fun v=>if bk=true then n - v else v) (fun v hv u hu=>by
  have hv':v<(gw Ls).length:=by rw[iX] at hv;exact hv
  rw[H7 hv'] at hu;obtain⟨x,hx,rfl⟩:=aU.1 hu;obtain⟨⟨h0,hn⟩,hr⟩:=FM v hv' x hx;refine⟨by rw[hp];omega,?_⟩;rw[hl] at hv';cases bk
  ·simp at hr⊢;omega
  ·simp at hr⊢;omega) n (by omega)
 rw[hl,aiT];omega
theorem ahd (h:VK n Vs):ke (fJ Vs)=(List.range n).map (iz 110):=by
 apply rC
 ·simp[ke,fJ,h.len]
 ·intro i h1 h2;have hi:i<Vs.length:=by simpa [ke,fJ] using h1
  simp[ke,fJ,(h.each i hi).1]
theorem ahc:∀n,n<=6 ->ml ((List.range n).map (iz 110))=0:=by
 intro n hn;have h:n=0∨n=1∨n=2∨n=3∨n=4∨n=5∨n=6:=by omega
 rcases h with rfl |rfl |rfl |rfl |rfl |rfl |rfl<;>decide+kernel
theorem adE:∀k,k<=3 ->ml (qi k)=0:=by
 intro n hn;have h:n=0∨n=1∨n=2∨n=3:=by omega
 rcases h with rfl |rfl |rfl |rfl<;>decide+kernel
theorem ahS (h:VK n Vs) (h6:n<=6):mg (fJ Vs)=0:=by
 rw[mg,ahd h,ahc n h6,aB rfl];refine zj fun j hj=>?_;have hj':j<Vs.length:=by simpa [fJ] using hj
 obtain⟨_,k,h1,h3,e⟩:=h.each j hj'
 have e2:((fJ Vs).getD j (⟨#[]⟩,[])).2=qi k:=by
  rw[b6,ba hj];simp[fJ,e]
 rw[oJ,e2,K9,aB ⟨h1,by omega⟩,adE k h3]
theorem ahW (hV:VK n Vs) (h:zo bk n n (aq (fJ Vs)) Ls Rs) (h1:1<=n) (h6:n<=6):bA (fJ Vs) (gw Ls) (mj Rs)=0:=by
 have hv:(fJ Vs).length=n:=by simp[fJ,hV.len]
 have hl:(gw Ls).length=n:=by simp[gw,h.len]
 have hr:(mj Rs).length=n:=by simp[mj,h.lenR]
 rw[bA,aB ⟨by omega,by omega⟩,aB (ahY h h1 h6),aB (ahS hV h6)];refine zj fun j hj=>?_;have IY:j<Ls.length:=by have:=h.len;omega
 have hjR:j<Rs.length:=by have:=h.lenR;omega
 have hro:=h.rows j IY hjR;have e1:(gw Ls).getD j []=Ls[j].2:=by rw[b6,ba (by simpa [gw] using IY)];simp[gw]
 have e2:(mj Rs).getD j []=Rs[j].2:=by rw[b6,ba (by simpa [mj] using hjR)];simp[mj]
 rw[kJ,e1,e2,aB hro.len,aB];rw[dN];intro i hi;exact hro.rows i (ck.1 hi)
structure NM (V:List Vr) (L:List (List Int)) (R:List (List Fr)):Prop where
 ok:bA V L R=0
 one:1<=V.length
 six:V.length<=6
 szs:∀u,sz (aq V) u<=3
 few:∀l∈L,l.length<=3
 amY:∀l∈R,∀f∈l,f.2.1.size+f.2.2.size<=2
 small:vr V L R
 light:∀l∈R,fw l<=400
theorem aa5:∀ {l:List Fr},(∀f∈l,f.2.1.size+f.2.2.size<=2) ->fw l<=4*l.length
 |[],_=>ak _
 |f::l,h=>by
  have h1:=h f c5;have h2:=aa5 fun g hg=>h g (dD _ hg);simp only[fw,di];omega
theorem ahV (hV:VK n Vs) (h:zo bk n n (aq (fJ Vs)) Ls Rs) (h1:1<=n) (h6:n<=6):NM (fJ Vs) (gw Ls) (mj Rs):=by
 have hv:(fJ Vs).length=n:=by simp[fJ,hV.len]
 have hl:(gw Ls).length=n:=by simp[gw,h.len]
 have hr:(mj Rs).length=n:=by simp[mj,h.lenR]
 have hsk:=hV.sizes
 have ZN:∀l∈mj Rs,∀f∈l,f.2.1.size+f.2.2.size<=2:=fun l kj=>by
  obtain⟨p,hp,rfl⟩:=aU.1 kj;obtain⟨j,hj,rfl⟩:=jg hp;exact(h.rows j (by have:=h.len;have:=h.lenR;omega) hj).small
 have aaq:∀l∈mj Rs,l.length<=81:=fun l kj=>by
  obtain⟨p,hp,rfl⟩:=aU.1 kj;obtain⟨j,hj,rfl⟩:=jg hp;have IY:j<Ls.length:=by have:=h.len;have:=h.lenR;omega
  rw[(h.rows j IY hj).len];have h2:=(abR hsk (l:=af Ls[j].2) (by rw[dR];exact(h.pars j IY).few)).2;have h3:=(hsk.sz j).2;exact aM (jE h2 h3) (by decide)
 have RH:∀l∈gw Ls,l.length<=3:=fun l kj=>by
  obtain⟨p,hp,rfl⟩:=aU.1 kj;obtain⟨j,hj,rfl⟩:=jg hp;exact(h.pars j hj).few
 have aan:∀l∈mj Rs,fw l<=400:=fun l kj=>by
  have:=aa5 (ZN l kj);have:=aaq l kj;omega
 have hnm:∀c i,i<10 ->(iz c i).size<=5000:=fun c i hi=>by
  have h1:(iz c i).size=1+(F9 i).size:=by rw[iz,ByteArray.size_append];rfl
  rw[h1,Te hi];omega
 refine⟨ahW hV h h1 h6,by omega,by omega,fun u=>(hsk.sz u).2,RH,ZN,⟨⟨by omega,fun x hx=>?_⟩,⟨by omega,fun l kj=>by have:=RH l kj;omega⟩,⟨by omega,fun l kj=>⟨by have:=aaq l kj;omega,by have:=aan l kj;omega⟩⟩⟩,aan⟩;obtain⟨p,hp,rfl⟩:=aU.1 hx;obtain⟨j,hj,rfl⟩:=jg hp;obtain⟨e1,k,_,h3,e2⟩:=hV.each j hj;have hj6:j<10:=by have:=hV.len;omega
 refine⟨by rw[show (Vs[j].1,Vs[j].2.2).1=Vs[j].1 from rfl,e1];exact hnm 110 j hj6,?_,?_⟩
 ·rw[show (Vs[j].1,Vs[j].2.2).2=Vs[j].2.2 from rfl,e2,K9];omega
 ·rw[show (Vs[j].1,Vs[j].2.2).2=Vs[j].2.2 from rfl,e2];intro s hs;obtain⟨i,hi,rfl⟩:=aU.1 hs;have:=ck.1 hi;exact hnm 118 i (by omega)
theorem ahX (a1 a2 a3:Option Addr) (c1 c2 c3:Nat) (L1 L2 L3:List Int) (bk:Bool) (w:World) (h1:aC w a1 L1) (h2:aC w a2 L2) (h3:aC w a3 L3) (r1:si L1) (r2:si L2) (r3:si L3):
  Calls Tryz.prog 17 #[.agg #[.slice a1 L1.length c1,.slice a2 L2.length c2,.slice a3 L3.length c3,.bool bk]] w fun e w'=>∃(a b c:Option Addr) (ca cb cc:Nat) (V:List Vr) (L:List (List Int)) (R:List (List Fr)),e=.returned (.agg #[.slice a V.length ca,.slice b L.length cb,.slice c R.length cc])/\jx w' a b c V L R/\tJ w' b L/\NM V L R/\Below w.heap.size w w':=by
 refine(ahZ a1 a2 a3 c1 c2 c3 L1 L2 L3 bk w h1 h2 h3 r1 r2 r3).ae ?_;rintro e w' ⟨bk',n,x,y,z,Vs,Ls,Rs,rfl,⟨eO,yX⟩,hV,hL,oV,oL,oR,hb⟩;obtain⟨a,ca,rfl,ek⟩:=oV.vars;obtain⟨b,cb,rfl,De,yY⟩:=oL.pars;obtain⟨c,cc,rfl,Mn⟩:=oR.rows;exact⟨a,b,c,ca,cb,cc,_,_,_,rfl,⟨ek,De,Mn⟩,yY,ahV hV hL eO yX,hb⟩
variable {R:List (List Fr)} {L:List (List Int)}
def pK (V:List Vr) (L:List (List Int)) (R:List (List Fr)) (k:Nat):Rat:=uk V L R (a8 (aq V) (List.range V.length) k) V.length
theorem ald {V:List Vr} (h:NM V L R):cnt (aq V) (List.range V.length)<=729:=by
 have h1:=Tj (S:=aq V) h.szs (List.range V.length);rw[Cz] at h1;have h2:3^V.length<=3^6:=jf (by decide) h.six;omega
variable {us vs:List Nat} {k:Nat}
theorem LQ (hn:us.Nodup) (hlt:∀v∈us,v<n):us.Perm ((List.range n).filter fun v=>us.contains v):=
 (Hb hn (Ad.sublist KW)).2 fun v=>by
  rw[cJ,ck,Ah];exact⟨fun h=>⟨hlt v h,h⟩,fun h=>h.2⟩
theorem akP {a b:List Nat} (h:a.Perm b):gQ R a=gQ R b:=by
 induction h with
 |nil=>rfl
 |cons x _ ih=>rw[gQ,gQ,ih]
 |swap x y l=>simp only[gQ];rw[<- ie, <- ie,dC (tG _) (tG _)]
 |trans _ _ h1 h2=>rw[h1,h2]
theorem akO {a b:List Nat} (h:a.Sublist b):gQ R a<=gQ R b:=by
 induction h with
 |slnil=>exact ak _
 |cons x _ ih=>rw[gQ];exact aM ih (Cr _ (jY (JD _)))
 |cons_cons x _ ih=>rw[gQ,gQ];exact kE _ ih
theorem akQ (hn:us.Nodup) (hlt:∀v∈us,v<n):gQ R us<=gQ R (List.range n):=by
 rw[akP (LQ hn hlt)];exact akO KW
theorem V7 (S:List Nat):∀l,nJ S l=cnt S l
 |[]=>rfl
 |v::l=>by rw[nJ,cnt,V7 S l]
theorem abP (h:∀v,sz S v<=4):∀l:List Nat,cnt S l<=4^l.length
 |[]=>ak _
 |v::l=>by
  rw[cnt,di,gS,dC];exact jE (abP h l) (h v)
theorem aec (hf:eK (iL S)) (v:Nat):sz S v<=4:=by
 by_cases hv:v<S.length
 ·have h1:=(hf.each v (by rw[bF];exact hv)).2;have h2:(iL S)[v]'(by rw[bF];exact hv)=(S[v]:Int):=by simp[iL]
  rw[h2] at h1;rw[sz,ba hv];show S[v]<=4;omega
 ·rw[sz,ig (by omega)];decide
theorem abQ (hf:eK (iL S)) (hn:us.Nodup) (hlt:∀v∈us,v<S.length):cnt S us<=65536:=by
 have h1:=(LQ hn hlt).length_eq;have h2:((List.range S.length).filter fun v=>us.contains v).length<=S.length:=aM (l6 ..) (by simp);have h3:=hf.eight;rw[bF] at h3;have h4:=abP (aec hf) us;have h5:4^us.length<=4^8:=jf (by decide) (by omega);exact aM h4 h5
theorem ac4 (h:n<=65536):(B n).size<=3:=by
 have h1:=j7 h;have h2:(B 65536).size<=3:=by rw[kX];exact oZ 3 65536 (by decide)
 omega
def vM (V:List Vr) (R:List (List Fr)):Prop:=(B (gQ R (List.range V.length))).size<=4000
theorem vM.at {V:List Vr} (h:vM V R) (hn:us.Nodup) (hlt:∀v∈us,v<V.length):(B (gQ R us)).size<=4000:=aM (j7 (akQ hn hlt)) h
theorem vM.pool {V:List Vr} (h:vM V R) (h0:bA V L R=0) (hn:us.Nodup) (hlt:∀v∈us,v<V.length) (hv:vs.Nodup) (iA:∀v∈vs,v<V.length):2*(B (gQ R us)).size+(B (nJ (aq V) vs*1)).size+2<=8192:=by
 have h1:=h.at hn hlt
 have h2:nJ (aq V) vs*1<=65536:=by
  rw[oF,V7];exact abQ (kL h0).fine hv (by rw[rH];exact iA)
 have h3:=ac4 h2;omega
theorem LS {V:List Vr} (h0:bA V L R=0):bh L=0:=by
 rw[bA] at h0;by_cases h1:L.length=V.length/\R.length=V.length
 ·rw[aB h1] at h0;by_cases h2:bh L=0
  ·exact h2
  ·rw[aD h2] at h0;exact absurd h0 h2
 ·rw[aD h1] at h0;exact absurd h0 (by decide)
theorem afa {V:List Vr} (h0:bA V L R=0):oA L (·∈List.range V.length):=fun v _ u hu=>by
 have aV:=kL h0;rw[<- XP] at hu;have:=(Qw (tF (LS h0)) v u hu).1;rw[aV.len] at this;exact ck.2 this
theorem af3 {V:List Vr} (h0:bA V L R=0) (hp:Pos (aq V)) (hk:k<cnt (aq V) (List.range V.length)):eJ (gQ R (List.range V.length)) (pK V L R k)/\lZ 1 (pK V L R k):=by
 have hf:Fit (aq V) (a8 (aq V) (List.range V.length) k):=fun u=>vd hp _ _ u hk;have h1:=(PD.net (R:=R) (L:=L) (ws:=List.range V.length) h0 (fun v hv=>ck.1 hv)).prod hf;have h2:=(PI.net h0 (fun v hv=>ck.1 hv) (afa h0)).val _ hf;rw[h2, <- PY] at h1;exact h1
def aK (V:List Vr) (L:List (List Int)) (R:List (List Fr)) (l:List (Nat×Nat)) (k:Nat):Rat:=dL l (a8 (aq V) (List.range V.length) k)*pK V L R k
theorem amd {V:List Vr} (h0:bA V L R=0) (hp:Pos (aq V)) (l:List (Nat×Nat)) (hk:k<cnt (aq V) (List.range V.length)):eJ (gQ R (List.range V.length)) (aK V L R l k)/\lZ 1 (aK V L R l k):=by
 obtain⟨h1,h2⟩:=af3 h0 hp hk;rw[aK,aaR];by_cases h:ME l (a8 (aq V) (List.range V.length) k)=true
 ·rw[aB h,zZ];exact⟨h1,h2⟩
 ·rw[aD h,Rat.zero_mul];exact⟨eJ.zero _,by constructor<;>decide⟩
theorem aee {V:List Vr} (h0:bA V L R=0) (hD:vM V R) {g:Nat ->Rat} (hn:n<=65536) (hg:∀k,k< n ->eJ (gQ R (List.range V.length)) (g k)/\lZ 1 (g k)):qw (bK g n)<=8003:=by
 have hz:gQ R (List.range V.length)≠0:=(PD.net (V:=V) (L:=L) h0 (fun v hv=>ck.1 hv)).nz.1;have h1:=eJ.sum (k:=n) fun x hx=>(hg x hx).1;have h2:=lZ.sum (k:=n) fun x hx=>(hg x hx).2;have h3:=h1.size hz h2;have h4:=ac4 (n:=n*1) (by omega);have h5:(B (gQ R (List.range V.length))).size<=4000:=hD;omega
theorem alZ {V:List Vr} (h0:bA V L R=0):cnt (aq V) (List.range V.length)<=65536:=abQ (kL h0).fine Ad fun v hv=>by rw[rH];exact ck.1 hv
theorem ah2 {V:List Vr} (h0:bA V L R=0) (hp:Pos (aq V)) (hD:vM V R) (l:List (Nat×Nat)) (hn:n<=cnt (aq V) (List.range V.length)):qw (bK (aK V L R l) n)<=8003:=
 aee h0 hD (aM hn (alZ h0)) fun k hk=>amd h0 hp l (by omega)
theorem LR {V:List Vr} (h0:bA V L R=0):Pos (aq V):=by have:=(kL h0).fine.pos;rwa [iV] at this
theorem ak1 (f:Fr):(B (bt f).den).size<=f.2.2.size+1:=by
 have e:bt f=mkRat (sg f.1 (N f.2.1)) (N f.2.2):=rfl;by_cases h:N f.2.2=0
 ·rw[e,h,Rat.mkRat_zero];have:(B ((0:Rat).den)).size<=1:=by rw[kX];exact oZ 1 1 (by decide)
  omega
 ·have h1:eJ (N f.2.2) (bt f):=⟨_,e⟩;have h2:=Nat.le_of_dvd (jY h) (h1.dvd h);have h3:=j7 h2;have h4:=iu f.2.2;omega
theorem aby (y:Nat):∀l:List Fr,(B (tG l*y)).size<=l.length+sw l+(B y).size
 |[]=>by rw[tG,jZ];omega
 |f::l=>by
  rw[tG,ie];have h1:=wy (bt f).den (tG l*y);have h2:=ak1 f;have h3:=aby y l;rw[di,sw];omega
def wR (R:List (List Fr)):List Nat ->Nat
 |[]=>0
 |v::vs=>(R.getD v []).length+sw (R.getD v [])+wR R vs
theorem abx (R:List (List Fr)):∀us:List Nat,(B (gQ R us)).size<=wR R us+1
 |[]=>by
  show (B 1).size<=0+1;rw[kX];exact oZ 1 1 (by decide)
 |v::vs=>by
  rw[gQ,wR];have h1:=aby (gQ R vs) (R.getD v []);have h2:=abx R vs;omega
variable {fv kP tv lp u1 u2 x:Value} {V V':World}
structure kx (W:World) (b:Nat) (x fv tv kP lp:Value) (l:List Int) (Q:List (Value×Value)) (P:List Tb) (V:World):Prop where
 box:bH V b x fv tv
 fo:bD V W.heap.size kP l
 own:ky V W.heap.size lp Q P
 far:∀R,R<=b ->∀k (h:k<P.length) (h':k<Q.length),fk R P[k] Q[k]
 farF:∀R,kP.ownBlock=some R ->∀k (h:k<P.length) (h':k<Q.length),fk R P[k] Q[k]
 ne:∀R,kP.ownBlock=some R ->lp.ownBlock≠some R
 fr:W.grownBy V (some b)
theorem kx.start {W:World} {b:Nat} (h:bH W b x (.slice none 0 0) (.slice none 0 0)):kx W b x (.slice none 0 0) (.slice none 0 0) (.slice none 0 0) (.slice none 0 0) [] [] [] W:=
 ⟨h,⟨rfl,.inl ⟨rfl,rfl⟩⟩,ky.nil _ _,(fun R _ k h=>absurd h (by simp)),(fun R e=>by cases e),(fun R e=>by cases e),SV _ _⟩
theorem kx.under {W:World} {b:Nat} {Q:List (Value×Value)} {P:List Tb} (h:kx W b x fv tv kP lp l Q P V) (hb:Below V.heap.size V V'):kx W b x fv tv kP lp l Q P V':=
 ⟨h.box.aa hb h.box.lt,Fm h.fo (zq.aa hb),h.own.under hb,h.far,h.farF,h.ne,SX h.fr hb⟩
theorem kx.pushF {W:World} {b:Nat} {BB:Value} {l':List Int} {Q:List (Value×Value)} {P:List Tb} (h:kx W b x fv tv kP lp l Q P V) (hb:b<W.heap.size) (ho:bD V' W.heap.size BB l') (hg:V.grownBy V' kP.ownBlock) (hn:BB.ownBlock=kP.ownBlock∨∀k,BB.ownBlock=some k ->V.heap.size<=k):kx W b x fv tv BB lp l' Q P V':=by
 have hR:∀k,kP.ownBlock=some k ->W.heap.size<=k:=fun k e=>(pE h.fo k e).1;refine⟨(hg.block b h.box.lt (fun e=>by have:=hR b e.symm;omega)).trans h.box,ho,⟨h.own.len,LH h.own.own hg (fun R e e2=>h.ne R e2 e),fun k h1 h2=>(h.own.val k h1 h2).keepR (fun r hr=>h.farF r hr k h1 h2) hg,h.own.far⟩,h.far,fun R e k h1 h2=>?_,fun R e e2=>?_,Ju h.fr hg hR⟩
 ·rcases hn with hn |hn
  ·exact h.farF R (by rw[<- hn];exact e) k h1 h2
  ·exact(h.own.val k h1 h2).lt (hn R e)
 ·rcases hn with hn |hn
  ·exact h.ne R (by rw[<- hn];exact e) e2
  ·have h1:=hn R e;have h2:=(h.own.lt R e2).2;omega
theorem kx.pushT {W:World} {b:Nat} {Aq:Value} {Q:List (Value×Value)} {P:List Tb} {t:Tb} (h:kx W b x fv tv kP lp l Q P V) (hb:b<W.heap.size) (ht:dM V u1 u2 t) (hf:∀R,lp.ownBlock=some R ->fk R t (u1,u2)) (hfF:∀R,kP.ownBlock=some R ->fk R t (u1,u2)) (hfb:∀R,R<=b ->fk R t (u1,u2)) (ho:V'.ownsRow W.heap.size 39 2 Aq (P.length+1) (dG Q++[u1,u2])) (hg:V.grownBy V' lp.ownBlock) (hn:Aq.ownBlock=lp.ownBlock∨∀k,Aq.ownBlock=some k ->V.heap.size<=k):kx W b x fv tv kP Aq l (Q++[(u1,u2)]) (P++[t]) V':=by
 have hR:∀k,lp.ownBlock=some k ->W.heap.size<=k:=fun k e=>(h.own.lt k e).1
 have hall:∀R,(∀k (h1:k<P.length) (h2:k<Q.length),fk R P[k] Q[k]) ->fk R t (u1,u2) ->∀k (h1:k<(P++[t]).length) (h2:k<(Q++[(u1,u2)]).length),fk R (P++[t])[k] (Q++[(u1,u2)])[k]:=fun R hP hT k h1 h2=>by
  by_cases eD:k<P.length
  ·have fM:k<Q.length:=by rw[h.own.len];exact eD
   rw[oH fM,oH eD];exact hP k eD fM
  ·have fM:¬k<Q.length:=by rw[h.own.len];exact eD
   rw[rA (by omega),rA (by omega)];simp only[KV];exact hT
 refine⟨(hg.block b h.box.lt (fun e=>by have:=hR b e.symm;omega)).trans h.box,LH h.fo hg (fun R e e2=>h.ne R e e2),h.own.push ht hf ho hg hn,(fun R hR=>hall R (h.far R hR) (hfb R hR)),fun R e=>hall R (h.farF R e) (hfF R e),fun R e e2=>?_,Ju h.fr hg hR⟩;rcases hn with hn |hn
 ·rw[hn] at e2;exact h.ne R e e2
 ·have h1:=hn R e2;have h2:=(pE h.fo R e).2;omega
theorem kx.set1 {W:World} {b:Nat} {Q:List (Value×Value)} {P:List Tb} (h:kx W b x fv tv kP lp l Q P V) (hb:b<W.heap.size) (u:Value):kx W b x u tv kP lp l Q P (V.setCell ⟨b,1,none⟩ u):=
 ⟨h.box.set1 u,KH h.fo (fun e=>by have:=(pE h.fo b e).1;omega) u,h.own.off u (h.far b (ak b)) (fun e=>by have:=(h.own.lt b e).1;omega),h.far,h.farF,h.ne,M0 h.fr _ _⟩
theorem kx.set2 {W:World} {b:Nat} {Q:List (Value×Value)} {P:List Tb} (h:kx W b x fv tv kP lp l Q P V) (hb:b<W.heap.size) (u:Value):kx W b x fv u kP lp l Q P (V.setCell ⟨b,2,none⟩ u):=
 ⟨h.box.set2 u,KH h.fo (fun e=>by have:=(pE h.fo b e).1;omega) u,h.own.off u (h.far b (ak b)) (fun e=>by have:=(h.own.lt b e).1;omega),h.far,h.farF,h.ne,M0 h.fr _ _⟩
theorem ahF (a:Option Addr) (ca:Nat) (L:List (List Int)) (w:World) (h:dT w a L) (hl:∀l∈L,l.length<=140737488355328) (hg:bh L=0):
  Calls Tryz.prog 93 #[.slice a L.length ca] w fun e w'=>∃G,e=.returned (.tuple #[.slice (some ⟨G,0,none⟩) L.length L.length,.int .i64 0])/\dT w' (some ⟨G,0,none⟩) (lC L)/\Below w.heap.size w w':=
 (ajS a ca L w h hl).ae fun e w' hh=>by
  rcases hh with ⟨⟨h1,_⟩ |⟨_,G,h2,h3⟩,hb⟩
  ·exact absurd hg h1
  ·exact⟨G,h2,h3,hb⟩
theorem akx (a:Option Addr) (ca:Nat) (L:List (List Int)) (w:World) (h:dT w a (lC L)) (hg:gB L=true) (h1:1<=L.length) (h8:L.length<=8):
  Calls Tryz.prog 94 #[.slice a L.length ca] w fun e w'=>∃d cd G,e=.returned (.tuple #[.slice d L.length cd,.slice (some ⟨G,0,none⟩) L.length L.length,.int .i64 0])/\aC w' d (iL (gW L))/\Below w.heap.size w w':=by
 have:=ajU a ca (lC L) w h (fun l hl=>by
  obtain⟨s,_,rfl⟩:=aU.1 hl;rw[fL,bF,bw];exact aM (l6 ..) (by simp))
 rw[yJ] at this;refine this.ae fun e w' hh=>?_;rcases hh with ⟨⟨_,d,cd,G,h2,h3,_⟩ |⟨h2,_⟩,hb⟩
 ·rw[yJ] at h2;exact⟨d,cd,G,h2,h3,hb⟩
 ·rw[ahG hg h1 h8] at h2;cases h2
theorem ajN (a b c:Option Addr) (ca cb cc v:Nat) (V:List Vr) (L:List (List Int)) (R:List (List Fr)) (w:World) (h:jx w a b c V L R) (hN:tJ w b L) (hs:vr V L R) (hw:∀l∈R,fw l<=4200) (h0:bA V L R=0) (hv:v<V.length) (tD:∀U:World,jx U a b c V L R ->Calls Tryz.prog 75 #[.agg #[.slice a V.length ca,.slice b L.length cb,.slice c R.length cc]] U fun e w'=>e=.returned (.int .i64 (bA V L R))/\Below U.heap.size U w'):
  Calls Tryz.prog 95 #[.agg #[.slice a V.length ca,.slice b L.length cb,.slice c R.length cc],.int .i64 (v:Nat)] w fun e w'=>BK w.heap.size (gU L v,gL V L R v) e w'/\Below w.heap.size w w':=
 (ahl a b c ca cb cc v V L R w h hN hs hw h0 hv tD).ae fun _ _ hh=>⟨r8.tb (t:=(gU L v,gL V L R v)) hh.1,hh.2⟩
variable {K:Act ->World ->Prop} {Q:Exit ->Act ->World ->Prop} {w:World}
theorem O4 {o:Oper} {a:Act} (s x:Operand)
  (ho:o.op=.call {callee:=.builtin .append,args:= #[s,x],argTypes:= #[27,27]}) (base:Nat) (v:Value) (l:List Int) (f:Int) (hs:a.eval s=v) (hown:bD w base v l) (g:Nat) (hx:a.eval x=.slice (some ⟨g,0,none⟩) 1 1) (hg:w.cell? ⟨g,0,none⟩=some (.int .i64 f)) (hlen:l.length+1<=100000) (hbase:base<=w.heap.size)
  (h:∀v' w',bD w' base v' (l++[f]) ->w.grownBy w' v.ownBlock ->(v'.ownBlock=v.ownBlock∨∀k,v'.ownBlock=some k ->w.heap.size<=k) ->K (a.put o.dst v') w'):o.wp Tryz.prog a w K Q:=by
 obtain⟨i0,bS,hz0,hz1,hz2⟩:=dK Tryz.infoInt
 have hnews:∀j u,[Value.int .i64 f][j]? =some u ->w.cell? ((⟨g,0,none⟩:Addr).add j)=some u:=fun j u hj=>by
  match j,hj with
  |0,hj=>cases hj;exact hg
  |j+1,hj=>simp at hj
 have wT:∀u∈[Value.int .i64 f],u.oneCell'=true:=fun u hu=>by
  simp only[cT,iT,oC] at hu;subst hu;rfl
 have hmax:l.length+1<=maxLen:=by unfold maxLen;omega
 obtain⟨v',w',hr,h2,h3, -⟩:=run_append_own (P:=Tryz.prog) w base 27 o.type 3 i0 (.int .i64 0) 1 8 Tryz.underlying27 bS hz0 hz1 hz2 rfl (by decide) v l.length _ hown ⟨g,0,none⟩ 1 1 [.int .i64 f] rfl hnews wT hmax (by omega) hbase
 have hnew:v'.ownBlock=v.ownBlock∨∀k,v'.ownBlock=some k ->w.heap.size<=k:=by
  rcases hown.2 with ⟨h4,h5⟩ |⟨g',cap,cur,h4,hbg,gD,yV,hcm,hcs,QX⟩
  ·right
   have e:=run_append_nil (P:=Tryz.prog) w 27 o.type 3 i0 (.int .i64 0) Tryz.underlying27 bS hz0 ⟨g,0,none⟩ 1 1 [.int .i64 f] (by rw[hz1];rfl) hnews (by decide) (by decide) (by rw[hz2];decide);rw[h4] at hr;rw[hr] at e;cases e;intro k hk;cases hk;exact ak _
  ·rw[h4] at hr;by_cases hroom:l.length+1<=cap
   ·left
    have e:=run_append_room (P:=Tryz.prog) w 27 o.type 3 i0 Tryz.underlying27 bS g' l.length cap cur gD ⟨g,0,none⟩ 1 1 [.int .i64 f] (by rw[hz1];rfl) hnews wT hroom (by rw[hz1,hcs];simp;omega);rw[hr] at e;cases e;rw[h4];rfl
   ·right
    have hown':=hown;rw[h4] at hown';have e:=run_append_grow (P:=Tryz.prog) w 27 o.type 3 i0 (.int .i64 0) Tryz.underlying27 bS hz0 ⟨g',0,none⟩ l.length cap (l.map (Value.int .i64)) (by rw[hz1];simp) (World.ownsRow.cells hown' rfl) ⟨g,0,none⟩ 1 1 [.int .i64 f] (by rw[hz1];rfl) hnews (by omega) (by omega) (KI (by omega) (by rw[hz2];omega));rw[hr] at e;cases e;intro k hk;cases hk;exact ak _
 unfold Oper.wp execOp;simp only[ho,resolve,invoke,builtin,Cp,vN,tY,Cx,fH,j5,hs,hx,hr];refine h v' w' ?_ h3 hnew;rw[bD,bM,dY];exact h2
theorem O3 {o:Oper} {a:Act} (s x:Operand)
  (ho:o.op=.call {callee:=.builtin .append,args:= #[s,x],argTypes:= #[85,85]}) (base:Nat) (v:Value) (n:Nat) (xs:List Value) (u1 u2:Value) (hs:a.eval s=v) (hown:w.ownsRow base 39 2 v n xs) (g:Nat) (hx:a.eval x=.slice (some ⟨g,0,none⟩) 1 1) (h0:w.cell? ⟨g,0,none⟩=some u1) (h1:w.cell? ⟨g,1,none⟩=some u2) (hu1:dA u1) (hu2:dA u2) (hlen:n+1<=100000) (hbase:base<=w.heap.size)
  (h:∀v' w',w'.ownsRow base 39 2 v' (n+1) (xs++[u1,u2]) ->w.grownBy w' v.ownBlock ->(v'.ownBlock=v.ownBlock∨∀k,v'.ownBlock=some k ->w.heap.size<=k) ->K (a.put o.dst v') w'):o.wp Tryz.prog a w K Q:=by
 obtain⟨i0,bS,hz0,hz1,hz2⟩:=dK Tryz.infoTable
 obtain⟨v',w',hr,r1,r2,r3⟩:=Lg (P:=Tryz.prog) w base 85 o.type 39 i0 (.agg #[.slice none 0 0,.slice none 0 0]) 2 48 Tryz.underlying85 bS hz0 hz1 hz2 rfl (by decide) v n xs hown ⟨g,0,none⟩ 1 1 [u1,u2] rfl (fun j u hj=>by
  match j,hj with
  |0,hj=>cases hj;exact h0
  |1,hj=>cases hj;exact h1
  |j+2,hj=>simp at hj) (fun u hu=>by
  simp only[cT,iT,oC] at hu;rcases hu with rfl |rfl
  ·obtain⟨_,_,_,rfl⟩:=hu1;rfl
  ·obtain⟨_,_,_,rfl⟩:=hu2;rfl) (by unfold maxLen;omega) (by omega) hbase (by decide)
 unfold Oper.wp execOp;simp only[ho,resolve,invoke,builtin,Cp,vN,tY,Cx,fH,j5,hs,hx,hr];exact h v' w' r1 r2 r3
variable {rs:List Nat} {i:Nat} {oi:Oper}
section
variable {P : Program} {ops : Array Oper} {Q : Exit -> Act -> World -> Prop} {md : Region.Mode} {S : Bool -> World -> Prop} {k : Nat}
def rE (P:Program) (md:Region.Mode) (ops:Array Oper) (Q:Exit ->Act ->World ->Prop) (S:Bool ->World ->Prop) (k:Nat):Nat ->Array Bool ->Act ->World ->Prop
 |0,l,a,w=>Region.ready md ops l=[]/\Q .normal a w
 |n+1,l,a,w=>(Region.ready md ops l=[] ->Q .normal a w)/\∀i∈Region.ready md ops l,wpOp P ops Q i (fun a' w'=>S ((l.setIfInBounds i true).getD k true) w'/\rE P md ops Q S k n (l.setIfInBounds i true) a' w') a w
theorem Vn:∀(n:Nat) (l:Array Bool) (a:Act) (w:World),rE P md ops Q S k n l a w ->wpAny P md ops Q n l a w
 |0,_,_,_,h=>h
 |n+1,_,_,_,h=>⟨h.1,fun i hi=>wpOp_mono (fun a' w' h'=>Vn n _ a' w' h'.2) (h.2 i hi)⟩
theorem Xa {l:Array Bool} (h:i∈Region.ready md ops l):l.getD i true=false:=(mem_ready.1 h).1
theorem Vm {v:Value} (W:Bool ->Prop) (hi:ops[i]? =some oi) (Z2:∀(j:Nat) (o:Oper) cs b,ops[j]? =some o ->o.op≠.select cs b)
  (hQ:∀c a w,Q (.panic c) (a.put oi.dst v) w ->Q (.panic c) a w)
  (hW:∀(l:Array Bool) (j:Nat),i∈Region.ready md ops l ->j∈Region.ready md ops l ->j≠i ->W (l.getD k true) ->W ((l.setIfInBounds j true).getD k true)) (hk:k≠i):
  ∀(n:Nat) (l:Array Bool) (a:Act) (w:World),
   (∀j oj,ops[j]? =some oj ->j≠i ->l.getD j true=false ->(∀e∈oj.after,Region.binds md e=true ->e.on≠i) ->oi.apart ops oj=true) ->
   i∈Region.ready md ops l ->YieldsIf P ops (fun u=>∃b,W b/\S b u) oi v a ->W (l.getD k true) ->S (l.getD k true) w ->
   rE P md ops Q S k n (l.setIfInBounds i true) (a.put oi.dst v) w ->rE P md ops Q S k (n+1) l a w:=by
 have aax:∀l:Array Bool,(l.setIfInBounds i true).getD k true=l.getD k true:=fun l=>getD_set_ne true (Ne.symm hk);intro n;induction n with
 |zero=>
  intro l a w _ hr hy hw hS H;refine⟨fun h=>(by rw[h] at hr;cases hr),fun j hj=>?_⟩;by_cases pL:j=i
  ·subst pL;exact hy.wpOp hi ⟨_,hw,hS⟩ ⟨by rw[aax];exact hS,H⟩
  ·have:=ready_mono hj pL;rw[H.1] at this;cases this
 |succ n ih=>
  intro l a w uD hr hy hw hS H;refine⟨fun h=>(by rw[h] at hr;cases hr),fun j hj=>?_⟩;by_cases pL:j=i
  ·subst pL;exact hy.wpOp hi ⟨_,hw,hS⟩ ⟨by rw[aax];exact hS,H⟩
  ·have h1:=H.2 j (ready_mono hj pL);obtain⟨aas,oj,FR,hall⟩:=mem_ready.1 hj
   have Ri:∀e∈oj.after,Region.binds md e=true ->e.on≠i:=fun e he hb heq=>by
    have h1:=hall e he hb;have h0:=Xa hr;rw[heq] at h1;rcases cM i l.size with h' |h'
    ·simp[h'] at h0 h1;rw[h0] at h1;cases h1
    ·simp[Array.getElem?_eq_none h'] at h1
   have h2:=wpOp_putIf FR (uD j oj FR pL aas Ri) (fun cs b=>Z2 i oi cs b hi) (fun cs b=>Z2 j oj cs b FR) hQ hy h1
   have ajg:∀x ox,ops[x]? =some ox ->x≠i ->(l.setIfInBounds j true).getD x true=false ->(∀e∈ox.after,Region.binds md e=true ->e.on≠i) ->oi.apart ops ox=true:=fun x ox hx hxi Mh hno=>by
    refine uD x ox hx hxi ?_ hno;by_cases hjx:j=x
    ·subst hjx;exact aas
    ·rw[getD_set_ne true hjx] at Mh;exact Mh
   have hw':=hW l j hr hj pL hw;have abw:(l.setIfInBounds i true).setIfInBounds j true=(l.setIfInBounds j true).setIfInBounds i true:=Array.setIfInBounds_comm _ _ (Ne.symm pL);refine wpOp_mono (fun a' w' h3=>?_) h2
   have hS':S ((l.setIfInBounds j true).getD k true) w':=by
    have:=h3.2.1;rwa [abw,getD_set_ne true (Ne.symm hk)] at this
   refine⟨hS',ih (l.setIfInBounds j true) a' w' ajg (ready_mono hr (Ne.symm pL)) h3.1 hw' hS' ?_⟩;rw[<- abw];exact h3.2.2
theorem wj {v:Value} {l:Array Bool} {a:Act} (hi:ops[i]? =some oi)
  (hs:Region.noSelect ops=true) (hf:Region.free md ops l i=true) (hr:(Region.ready md ops l).contains i=true) (hk:k≠i)
  (hQ:∀c a w,Q (.panic c) (a.put oi.dst v) w ->Q (.panic c) a w) (hy:YieldsIf P ops (fun u=>∃b,S b u) oi v a) {b:Bool} (hb:l.getD k true=b) (hS:S b w)
  (h:rE P md ops Q S k n (l.setIfInBounds i true) (a.put oi.dst v) w):rE P md ops Q S k (n+1) l a w:=
 Vm (fun _=>True) hi (Region.noSelect_spec hs) hQ (fun _ _ _ _ _ h=>h) hk n l a w (Region.free_spec hi hf) (by simpa using hr) (hy.imp (fun ⟨h1,h2⟩=>⟨h1,fun u ⟨b,_,hu⟩=>h2 u ⟨b,hu⟩⟩) id) trivial (by rw[hb];exact hS) h
theorem Vo {ok:Oper} {v:Value} {l:Array Bool} {a:Act} (hi:ops[i]? =some oi)
  (hs:Region.noSelect ops=true) (hf:Region.free md ops l i=true) (hr:(Region.ready md ops l).contains i=true) (hk:k≠i)
  (aV:ops[k]? =some ok) (hw:(ok.after.any fun e=>Region.binds md e&&e.on==i)=true)
  (hQ:∀c a w,Q (.panic c) (a.put oi.dst v) w ->Q (.panic c) a w) (hy:YieldsIf P ops (S false) oi v a) (hb:l.getD k true=false) (hS:S false w)
  (h:rE P md ops Q S k n (l.setIfInBounds i true) (a.put oi.dst v) w):rE P md ops Q S k (n+1) l a w:=by
 refine Vm (fun b=>b=false) hi (Region.noSelect_spec hs) hQ (fun l j hri hj pL e=>?_) hk n l a w (Region.free_spec hi hf) (by simpa using hr) (hy.imp (fun ⟨h1,h2⟩=>⟨h1,fun u ⟨b,hb,hu⟩=>h2 u (by subst hb;exact hu)⟩) id) hb (by rw[hb];exact hS) h;by_cases hjk:j=k
 ·subst hjk;exfalso
  obtain⟨_,oj,FR,hall⟩:=mem_ready.1 hj;rw[aV] at FR;cases FR;obtain⟨e,he,h2⟩:=Array.any_eq_true'.1 hw;obtain⟨h3,h4⟩:=Bool.and_eq_true_iff.1 h2;have h5:=hall e he h3;have h0:=Xa hri;rw[eq_of_beq h4] at h5;rcases cM i l.size with h' |h'
  ·simp[h'] at h0 h5;rw[h0] at h5;cases h5
  ·simp[Array.getElem?_eq_none h'] at h5
 ·rw[getD_set_ne true hjk];exact e
def eL (P:Program) (md:Region.Mode) (ops:Array Oper) (Q:Exit ->Act ->World ->Prop) (S:Bool ->World ->Prop) (k n:Nat) (l:Array Bool) (a:Act) (w:World) (rs:List Nat):Prop:=
 ∀i∈rs,wpOp P ops Q i (fun a' w'=>S ((l.setIfInBounds i true).getD k true) w'/\rE P md ops Q S k n (l.setIfInBounds i true) a' w') a w
theorem eL.nil {l:Array Bool} {a:Act}:eL P md ops Q S k n l a w []:=fun _ h=>by cases h
theorem eL.cons {l:Array Bool} {a:Act} {o:Oper} {b:Bool} (ho:ops[i]? =some o) (hb:(l.setIfInBounds i true).getD k true=b)
  (h:∀K':Act ->World ->Prop,Go.Shut (∀a w,S b w ->(S b w ->rE P md ops Q S k n (l.setIfInBounds i true) a w) ->K' a w) ->if Region.wanted o (yielded ops a.tmps)=true then Oper.wp P o a w K' Q else K' (a.put o.dst undef) w)
  (hs:eL P md ops Q S k n l a w rs):eL P md ops Q S k n l a w (i::rs):=fun j hj=>by
 rcases cT.1 hj with rfl |hj
 ·exact wpOp_step ho (fun K' hK=>h K' (fun a w hS hU=>hK a w ⟨by rw[hb];exact hS,hU hS⟩))
 ·exact hs j hj
theorem pz {l:Array Bool} {a:Act} (hr:Region.ready md ops l=rs) (hne:rs≠[]) (h:eL P md ops Q S k n l a w rs):rE P md ops Q S k (n+1) l a w:=
 ⟨fun h0=>absurd (hr▸h0) hne,hr▸h⟩
theorem O5 {l:Array Bool} {a:Act} (hr:Region.ready md ops l=[]) (h:Q .normal a w):∀n,rE P md ops Q S k n l a w
 |0=>⟨hr,h⟩
 |_+1=>⟨fun _=>h,by rw[hr];simp⟩
theorem ac9 {id:Nat} {a:Act} (k:Nat) (S:Bool ->World ->Prop) (hm:P.follows .mixedOrders=true) (hS:S false w.drew) (h:S false w.drew ->rE P .any ops Q S k ops.size (Array.replicate ops.size false) a w.drew):(Code.region id ops true).wp P Q a w:=
 wp_region_any hm (Vn _ _ _ _ (h hS))
end
variable {U U':World}
structure lQ (U:World) (B:Nat) (u1 u2 fv tv:Value):Prop where
 tb:bG U B u1 u2
 nf:fv.ownBlock≠some B
 nt:tv.ownBlock≠some B
theorem lQ.under {B:Nat} (h:lQ U B u1 u2 fv tv) (hb:Below U.heap.size U U'):lQ U' B u1 u2 fv tv:=⟨h.tb.aa hb h.tb.lt,h.nf,h.nt⟩
theorem lQ.pushF {B:Nat} {BB:Value} (h:lQ U B u1 u2 fv tv) (hg:U.grownBy U' fv.ownBlock) (hn:BB.ownBlock=fv.ownBlock∨∀k,BB.ownBlock=some k ->U.heap.size<=k):lQ U' B u1 u2 BB tv:=
 ⟨(hg.block B h.tb.lt (fun e=>h.nf e.symm)).trans h.tb,fun e=>by
  rcases hn with hn |hn
  ·exact h.nf (hn▸e)
  ·have:=hn B e;have:=h.tb.lt;omega,h.nt⟩
theorem lQ.pushT {B:Nat} {Aq:Value} (h:lQ U B u1 u2 fv tv) (hg:U.grownBy U' tv.ownBlock) (hn:Aq.ownBlock=tv.ownBlock∨∀k,Aq.ownBlock=some k ->U.heap.size<=k):lQ U' B u1 u2 fv Aq:=
 ⟨(hg.block B h.tb.lt (fun e=>h.nt e.symm)).trans h.tb,h.nf,fun e=>by
  rcases hn with hn |hn
  ·exact h.nt (hn▸e)
  ·have:=hn B e;have:=h.tb.lt;omega⟩
theorem lQ.off {B:Nat} (h:lQ U B u1 u2 fv tv) (b j:Nat) (u:Value) (hne:B≠b):lQ (U.setCell ⟨b,j,none⟩ u) B u1 u2 fv tv:=⟨(iU U ⟨b,j,none⟩ u B hne).trans h.tb,h.nf,h.nt⟩
theorem lQ.new {W:World} {b:Nat} {Q:List (Value×Value)} {P:List Tb} (h:kx W b x fv tv kP lp l Q P V) (u1 u2:Value):lQ (V.alloc (TC u1 u2)) V.heap.size u1 u2 kP lp:=
 ⟨bG.at rfl u1 u2,fun e=>by have:=(pE h.fo _ e).2;omega,fun e=>by have:=(h.own.lt _ e).2;omega⟩
def jU (b B:Nat) (fv tv u1 u2:Value) (c:Bool) (U:World):Prop:=(U.cell? ⟨B,0,none⟩=some u1/\U.cell? ⟨B,1,none⟩=some u2)/\(c=false ->U.cell? ⟨b,1,none⟩=some fv/\U.cell? ⟨b,2,none⟩=some tv)
theorem jU.of {W:World} {b B:Nat} {Q:List (Value×Value)} {P:List Tb} (h:kx W b x fv tv kP lp l Q P U) (o:lQ U B u1 u2 kP lp) (c:Bool):jU b B fv tv u1 u2 c U:=⟨⟨o.tb.c0,o.tb.c1⟩,fun _=>h.box.cells.2⟩
theorem jU.late {b B:Nat} (o:lQ U B u1 u2 kP lp):jU b B fv tv u1 u2 true U:=⟨⟨o.tb.c0,o.tb.c1⟩,fun e=>by cases e⟩
theorem afO (a b c q:Option Addr) (ca cb cc cq:Nat) (V:List Vr) (L:List (List Int)) (R:List (List Fr)) (vars:List Int) (w:World) (h:jx w a b c V L R) (hN:tJ w b L) (hs:vr V L R) (hw:∀l∈R,fw l<=4200) (h0:bA V L R=0) (lI:bh L=0) (h1:1<=L.length) (dJ:∀l∈L,l.length<=140737488355328) (hq:aC w q vars) (dI:vars.length<=1000) (tD:∀U:World,jx U a b c V L R ->Calls Tryz.prog 75 #[.agg #[.slice a V.length ca,.slice b L.length cb,.slice c R.length cc]] U fun e w'=>e=.returned (.int .i64 (bA V L R))/\Below U.heap.size U w'):
  Calls Tryz.prog 46 #[.agg #[.slice a V.length ca,.slice b L.length cb,.slice c R.length cc],.slice q vars.length cq] w fun e w'=>∃g d cd t' eI,e=.returned (.agg #[.slice (some ⟨g,0,none⟩) V.length V.length,.slice d ((gW L).filter fun v:Nat=>vars.contains (v:Int)).length cd,.slice t' ((gW L).filter fun v:Nat=>vars.contains (v:Int)).length eI])/\aC w' (some ⟨g,0,none⟩) (iL (aq V))/\aC w' d (iL ((gW L).filter fun v:Nat=>vars.contains (v:Int)))/\gH w' t' (((gW L).filter fun v:Nat=>vars.contains (v:Int)).map fun v=>(gU L v,gL V L R v))/\Below w.heap.size w w'/\fV w.heap.size t' eI:=by
 have aV:=kL h0;have h8:L.length<=8:=by rw[aV.len];exact aV.n8
 have HMO:=hid (fun (U:World) (hU:Below w.heap.size w U)=>ahF b cb L U (h.aa hU).pars dJ lI);have cU:=hid (fun (x:Option Addr) (cx:Nat) (U:World) (hx:dT U x (lC L))=>akx x cx L U hx (tF lI) h1 h8);have iP:=hid (fun (U:World) (hU:Below w.heap.size w U)=>Qu a b c ca cb cc L.length R.length V U (h.aa hU).vars hs.vars.1);have UM:=hid (fun (v:Nat) (hv:v<V.length) (U:World) (hU:Below w.heap.size w U)=>ajN a b c ca cb cc v V L R U (h.aa hU) (hN.aa h.pars hU) hs hw h0 hv tD);have p9:Hid (∀(x:Int) (U:World),Below w.heap.size w U ->Calls Tryz.prog 49 #[.slice q vars.length cq,.int .i64 x] U fun e w'=>e=.returned (.bool (vars.contains x))/\Below U.heap.size U w'):=fun x U hU=>Hz q cq vars x U (hq.aa hU) (by omega);have rW:=(aw w.heap.size w).alloc (ak _) (NC (.slice a V.length ca) (.slice b L.length cb) (.slice c R.length cc));have uT:=rW.alloc rW.size (.cells #[.slice none 0 0,.slice none 0 0,.slice none 0 0] 87);have Sr:=dr.at (w:=w) rfl (.slice a V.length ca) (.slice b L.length cb) (.slice c R.length cc);have ML:=Sr.aa ((aw _ _).alloc (ak _) (.cells #[.slice none 0 0,.slice none 0 0,.slice none 0 0] 87)) Sr.lt;have jb:bH ((w.alloc (NC (.slice a V.length ca) (.slice b L.length cb) (.slice c R.length cc))).alloc (.cells #[.slice none 0 0,.slice none 0 0,.slice none 0 0] 87)) (w.heap.size+1) (.slice none 0 0) (.slice none 0 0) (.slice none 0 0):=bH.at (w:=w.alloc (NC (.slice a V.length ca) (.slice b L.length cb) (.slice c R.length cc))) (by simp) _ _ _;have n1:=ML.cells.2.1
 obtain⟨FL,Bo⟩:∃FL:Nat ->List Nat,∀k,((gW L).take k).filter (fun v:Nat=>vars.contains (v:Int))=FL k:=⟨fun k=>((gW L).take k).filter (fun v:Nat=>vars.contains (v:Int)),fun _=>rfl⟩;obtain⟨TL,pR⟩:∃TL:Nat ->List Tb,∀k,(FL k).map (fun v=>(gU L v,gL V L R v))=TL k:=⟨fun k=>(FL k).map (fun v=>(gU L v,gL V L R v)),fun _=>rfl⟩;have Db:(gW L).length=L.length:=by rw[LO];simp
 have tP:Hid (∀i,i<L.length ->∃v:Nat,v<V.length/\(∀(d1:Option Addr) (U:World),aC U d1 (iL (gW L)) ->∃g o,d1=some ⟨g,o,none⟩/\g<U.heap.size/\U.cell? ⟨g,o+i,none⟩=some (.int .i64 (v:Nat)))/\(vars.contains (v:Int)=true ->FL (i+1)=FL i++[v])/\(vars.contains (v:Int)=false ->FL (i+1)=FL i)):=fun i hi=>by
  have Mv:i<(gW L).length:=by omega
  have I0:i<(iL (gW L)).length:=by rw[bF];exact Mv
  refine⟨(gW L)[i],?_,fun d1 U hU=>?_,fun h=>?_,fun h=>?_⟩
  ·rw[<- aV.len];exact Qj (tF lI) h1 h8 (bY Mv)
  ·obtain⟨g,o,e,hg,hc⟩:=hU i I0;refine⟨g,o,e,hg,?_⟩;rw[hc];simp[iL]
  ·rw[<- Bo, <- Bo,gh Mv,vW,vU (p:=fun v:Nat=>vars.contains (v:Int)) h];rfl
  ·rw[<- Bo, <- Bo,gh Mv,vW,vV (p:=fun v:Nat=>vars.contains (v:Int)) (by rw[h];decide)];simp
 have HF0:Hid (FL 0=[]/\TL 0=[]):=by show _/\_;rw[<- pR, <- Bo];exact⟨rfl,rfl⟩
 have iq:Hid (∀k,(FL k).length<=8):=fun k=>by rw[<- Bo];exact aM (l6 ..) (by rw[eB];omega)
 have T7:Hid (∀k,(TL k).length<=8):=fun k=>by rw[<- pR,cH];exact iq.o k
 have xD:Hid (∀(k v:Nat),FL (k+1)=FL k++[v] ->iL (FL (k+1))=iL (FL k)++[(v:Int)]/\TL (k+1)=TL k++[(gU L v,gL V L R v)]):=fun k v h=>by rw[<- pR, <- pR,h,dY,iL,dY];exact⟨rfl,rfl⟩
 have J5:Hid (∀k,FL (k+1)=FL k ->TL (k+1)=TL k):=fun k h=>by rw[<- pR, <- pR,h]
 have UR:Hid (FL L.length=(gW L).filter (fun v:Nat=>vars.contains (v:Int))):=by show _=_;rw[<- Bo, <- Db,iR]
 have qW:Hid (TL L.length=((gW L).filter (fun v:Nat=>vars.contains (v:Int))).map fun v=>(gU L v,gL V L R v)):=by show _=_;rw[<- pR,UR.o]
 have aaV:(TL L.length).length=(FL L.length).length:=by rw[<- pR,cH]
 rw[<- UR.o] at qW⊢;rw[<- qW.o];clear Bo pR UR qW Db;clear h hN hs hw hq tD rW Sr;go_enter Tryz.func46,Tryz.ntmps46;go_wp2_with fail
 generalize ((w.alloc (NC (.slice a V.length ca) (.slice b L.length cb) (.slice c R.length cc))).alloc (.cells #[.slice none 0 0,.slice none 0 0,.slice none 0 0] 87))=W0 at *;refine(HMO.o W0 uT).ae ?_;rintro e w1 ⟨G1,rfl,iJ,hb1⟩;have hB1:=uT.trans (hb1.ae uT.size);have wZ:=ML.aa hb1 ML.lt;have hR1:=jb.aa hb1 jb.lt;have Ot:=hid (cU.o _ L.length w1 iJ);clear n1 ML jb uT hb1 iJ;go_wp2_with fail
 refine Ot.o.ae ?_;rintro e w2 ⟨d1,cd1,G2,rfl,A3,hb2⟩;have hB2:=hB1.trans (hb2.ae hB1.size);have MK:=wZ.aa hb2 wZ.lt;have hR2:=hR1.aa hb2 hR1.lt;obtain⟨n0,n1,n2⟩:=MK.cells;have o8:=hid (iP.o w2 hB2);clear hB1 wZ hR1 hb2 Ot;go_wp2_with fail
 refine o8.o.ae ?_;rintro e w3 ⟨G,rfl,hG,hsz,hb3⟩;have bV:=hB2.trans (hb3.ae hB2.size);have Sq:=MK.aa hb3 MK.lt;have ko:=hR2.aa hb3 hR2.lt;have Jo:=A3.aa hb3;have hl0:=hR2.lt;have hs3:=hb3.size;have kO:=(aw w3.heap.size w3).alloc (ak _) (.cells #[.slice (some ⟨G,0,none⟩) V.length V.length,.slice none 0 0,.slice none 0 0] 87);have jO:(w3.alloc (.cells #[.slice (some ⟨G,0,none⟩) V.length V.length,.slice none 0 0,.slice none 0 0] 87)).heap.size=w3.heap.size+1:=by simp
 have ir:=hid (bV.trans (kO.ae bV.size));have zL:=hid (Sq.aa kO Sq.lt);have nh:=hid (ko.alloc (.cells #[.slice (some ⟨G,0,none⟩) V.length V.length,.slice none 0 0,.slice none 0 0] 87));have Cf:=hid (Jo.aa kO);have HIS:=hid (hsz.ints.aa kO);have MP:=hsz.lt;have sA:Hid (kx (w3.alloc (.cells #[.slice (some ⟨G,0,none⟩) V.length V.length,.slice none 0 0,.slice none 0 0] 87)) w3.heap.size (.slice (some ⟨G,0,none⟩) V.length V.length) (.slice none 0 0) (.slice none 0 0) (.slice none 0 0) (.slice none 0 0) (iL []) [] [] (w3.alloc (.cells #[.slice (some ⟨G,0,none⟩) V.length V.length,.slice none 0 0,.slice none 0 0] 87))):=kx.start (bH.at (w:=w3) rfl (.slice (some ⟨G,0,none⟩) V.length V.length) (.slice none 0 0) (.slice none 0 0));have HBC:=hid kO
 have HIW:Hid (∀U:World,(w3.alloc (.cells #[.slice (some ⟨G,0,none⟩) V.length V.length,.slice none 0 0,.slice none 0 0] 87)).grownBy U (some w3.heap.size) ->aC U d1 (iL (gW L))):=fun U hU=>Ip Cf.o (fun g o e hne e2=>by
  obtain⟨g',o',e',gD,_⟩:=Jo 0 (by cases hl:iL (gW L) with |nil=>exact absurd hl hne |cons x l=>simp);rw[e] at e';cases e';cases e2;omega) hU
 have HIG:Hid (∀U:World,(w3.alloc (.cells #[.slice (some ⟨G,0,none⟩) V.length V.length,.slice none 0 0,.slice none 0 0] 87)).grownBy U (some w3.heap.size) ->aC U (some ⟨G,0,none⟩) (iL (aq V))):=fun U hU=>Ip HIS.o (fun g o e hne e2=>by
  cases e;cases e2;omega) hU
 clear hB2 bV MK Sq hR2 ko Jo A3 kO hsz hb3 n0 n1 n2 o8 iP HMO cU;clear h0 lI aV dJ;go_wp2_with fail
 generalize (w3.alloc (.cells #[.slice (some ⟨G,0,none⟩) V.length V.length,.slice none 0 0,.slice none 0 0] 87))=W4 at *;have hb5:w3.heap.size<W4.heap.size:=by omega
 go_loopw [32] (fun iv wr=>∃(i:Nat) (fv tv:Value) (Q:List (Value×Value)),i<=L.length/\iv=.int .i64 i/\Hid (kx W4 w3.heap.size (.slice (some ⟨G,0,none⟩) V.length V.length) fv tv fv tv (iL (FL i)) Q (TL i) wr)) (fun iv _=>L.length - (intOf iv).toNat)
 case atStart=>exact⟨0,_,_,_,aX _,rfl,by rw[HF0.o.1,HF0.o.2];exact sA⟩
 case round=>
  obtain⟨i,fv,tv,Q,hi,rfl,HM⟩:=hrel;have I7:=HM.o.fr.size;have HB:Hid (Below w.heap.size w wr):=Jt ir.o HM.o.fr (by omega) (by omega);have zS:Hid (Below w3.heap.size w3 wr):=Jt HBC.o HM.o.fr (by omega) (by omega);have GH:Hid (dr wr w.heap.size (.slice a V.length ca) (.slice b L.length cb) (.slice c R.length cc)):=(HM.o.fr.block _ zL.o.lt (fun e=>by have:=k7 e;omega)).trans zL.o;have o9:Hid (bH wr (w.heap.size+1) (.slice none 0 0) (.slice none 0 0) (.slice none 0 0)):=(HM.o.fr.block _ nh.o.lt (fun e=>by have:=k7 e;omega)).trans nh.o;by_cases hlt2:i<L.length
  ·obtain⟨v,hv,hcl,hS1,Sm⟩:=tP.o i hlt2;obtain⟨g,o,rfl,hg,hc⟩:=hcl d1 wr (HIW.o wr HM.o.fr);have HX:=hid (p9.o (v:Int) wr HB.o);have HGX:=hid (UM.o v hv);have jA:=hid (fun h=>xD.o i v (hS1 h));have vA:=hid Sm;clear hcl hS1 Sm nh zL o9;generalize vars.contains (v:Int)=bv at *;go_wp2_with fail
   refine HX.o.ae ?_;rintro e w5 ⟨rfl,Jc⟩;have jC:=hid (HM.o.under Jc);have N8:=hid (GH.o.aa Jc GH.o.lt);have fG:=hid (HB.o.trans (Jc.ae HB.o.size));have hs5:=Jc.size;have q8:Hid (∀Z,fv.ownBlock=some Z ->Z<wr.heap.size):=fun Z hZ=>(pE HM.o.fo Z hZ).2;have B5:Hid (∀Z,tv.ownBlock=some Z ->Z<wr.heap.size):=fun Z hZ=>(HM.o.own.lt Z hZ).2;clear hc HX HM GH HB Jc zS;cases bv with
   |false=>
    replace vA:=hid (vA.o rfl);replace J5:=hid (J5.o i vA.o);go_wp2;go_roundw
    case rel=>exact⟨i+1,fv,tv,Q,by omega,by go_num,by rw[vA.o,J5.o];exact jC⟩
    case measure=>simp[intOf];omega
   |true=>
    obtain⟨n0,n1,n2⟩:=N8.o.cells;have Ew:=hid (HGX.o w5 fG.o);replace jA:=hid (jA.o rfl);clear HGX vA fG UM p9 J5 xD;go_wp2_with fail
    refine Ew.o.ae ?_;rintro e w6 ⟨⟨u1,u2,rfl,Ir,yX⟩,iK⟩;have zB:=hid Ir.slices;have hs6:=iK.size;have nk:Hid (∀Z,Z<wr.heap.size ->fk Z (gU L v,gL V L R v) (u1,u2)):=fun Z hZ=>yX Z (by omega);have Es:=hid (jC.o.under iK);have HV6:=hid Ir;obtain⟨x1,jl,jn,rfl⟩:=Ir.slices.1;obtain⟨x2,jk,jm,rfl⟩:=Ir.slices.2;clear Ir yX Ew n0 n1 n2 N8 jC;go_upto_region 9 with (fail)
    have xe:=(aw w6.heap.size w6).alloc (ak _) (TC (.slice x1 jl jn) (.slice x2 jk jm));have HO:=hid (lQ.new Es.o (.slice x1 jl jn) (.slice x2 jk jm));have HM:=hid (Es.o.under xe);have HV:=hid (HV6.o.aa xe);(have hne:w6.heap.size≠w3.heap.size:=by omega);clear xe Es HV6 iK;generalize ajC:w6.heap.size=EG at *;obtain⟨W8,pP⟩:∃W8,w6.alloc (TC (.slice x1 jl jn) (.slice x2 jk jm))=W8:=⟨_,rfl⟩;have aaT:w6.alloc (.cells #[.slice x1 jl jn,.slice x2 jk jm] 39)=W8:=pP;rw[pP] at HO HM HV;simp only[aaT];clear pP aaT ajC;have uQ:Below W8.heap.size W8 W8.drew:=(aw W8.heap.size W8).drew;replace HO:=hid (HO.o.under uQ);replace HM:=hid (HM.o.under uQ);replace HV:=hid (HV.o.aa uQ);clear uQ;obtain⟨D5,zg⟩:∃D5,W8.drew=D5:=⟨_,rfl⟩;rw[zg] at HO HM HV;refine ac9 11 (jU w3.heap.size EG fv tv (.slice x1 jl jn) (.slice x2 jk jm)) (by kernel_rfl) (by rw[zg];exact jU.of HM.o HO.o false) (fun ah=>?_);rw[zg] at ah⊢;clear zg;(try simp only[gE,aP]);refine wj (i:=0) (oi:=_) (v:=.pointer (some ⟨w3.heap.size,1,none⟩)) (b:=false) rfl (by kernel_rfl) (by kernel_rfl) (by kernel_rfl) (by decide) (fun _ _ _ h=>h) (Or.inl ⟨by rfl,?_⟩) (by kernel_rfl) (by assumption) ?_
    ·intro u' aS;go_simp
    (try simp only[gE,aP]);refine Vo (i:=1) (oi:=_) (v:=fv) rfl (by kernel_rfl) (by kernel_rfl) (by kernel_rfl) (by decide) rfl (by kernel_rfl) (fun _ _ _ h=>h) (Or.inl ⟨by rfl,?_⟩) (by kernel_rfl) (by assumption) ?_
    ·intro u' aS;(try simp only[gE]);obtain⟨⟨_,_⟩,MJ⟩:=aS;obtain⟨MI,MH⟩:=MJ rfl;go_simp
    (try simp only[gE,aP]);refine wj (i:=2) (oi:=_) (v:=.int .i64 (v:Nat)) (b:=false) rfl (by kernel_rfl) (by kernel_rfl) (by kernel_rfl) (by decide) (fun _ _ _ h=>h) (Or.inl ⟨by rfl,?_⟩) (by kernel_rfl) (by assumption) ?_
    ·intro u' aS;go_simp
    (try simp only[gE,aP]);refine wj (i:=5) (oi:=_) (v:=.pointer (some ⟨w3.heap.size,2,none⟩)) (b:=false) rfl (by kernel_rfl) (by kernel_rfl) (by kernel_rfl) (by decide) (fun _ _ _ h=>h) (Or.inl ⟨by rfl,?_⟩) (by kernel_rfl) (by assumption) ?_
    ·intro u' aS;go_simp
    (try simp only[gE,aP]);refine Vo (i:=6) (oi:=_) (v:=tv) rfl (by kernel_rfl) (by kernel_rfl) (by kernel_rfl) (by decide) rfl (by kernel_rfl) (fun _ _ _ h=>h) (Or.inl ⟨by rfl,?_⟩) (by kernel_rfl) (by assumption) ?_
    ·intro u' aS;(try simp only[gE]);obtain⟨⟨_,_⟩,MJ⟩:=aS;obtain⟨MI,MH⟩:=MJ rfl;go_simp
    (try simp only[gE,aP]);refine wj (i:=7) (oi:=_) (v:=.agg #[.slice x1 jl jn,.slice x2 jk jm]) (b:=false) rfl (by kernel_rfl) (by kernel_rfl) (by kernel_rfl) (by decide) (fun _ _ _ h=>h) (Or.inl ⟨by rfl,?_⟩) (by kernel_rfl) (by assumption) ?_
    ·intro u' aS;(try simp only[gE]);obtain⟨_,⟨Sm,hS1⟩,_⟩:=aS;go_simp
    (try simp only[gE,aP]);refine pz (rs:=[3,8]) (by kernel_rfl) (by simp) (eL.cons (b:=false) rfl (by kernel_rfl) ?_ (eL.cons (b:=false) rfl (by kernel_rfl) ?_ (eL.nil)))
    ·intro K' hK';go_simp;have aO:=(aw D5.heap.size D5).alloc (ak _) (.cells #[.int .i64 (v:Nat)] 3);have lV:=hid (aZ D5 3 (.int .i64 (v:Nat))).cell;replace HM:=hid (HM.o.under aO);replace HO:=hid (HO.o.under aO);replace HV:=hid (HV.o.aa aO);refine hK'.o _ _ (jU.of HM.o HO.o false) (fun ag=>?_);clear aO;clear hK' K' ah;have ah:=ag;clear ag;obtain⟨ga,wW⟩:∃ga,D5.heap.size=ga:=⟨_,rfl⟩;obtain⟨ua,kM⟩:∃ua,D5.alloc (.cells #[.int .i64 (v:Nat)] 3)=ua:=⟨_,rfl⟩;rw[wW,kM] at lV;rw[kM] at HM HO HV;simp only[kM] at ah⊢;simp only[wW];clear kM wW;(try simp only[gE,aP]);refine pz (rs:=[4,8]) (by kernel_rfl) (by simp) (eL.cons (b:=false) rfl (by kernel_rfl) ?_ (eL.cons (b:=false) rfl (by kernel_rfl) ?_ (eL.nil)))
     ·intro K' hK';rw[aB (by rfl)];refine O4 _ _ rfl W4.heap.size fv (iL (FL i)) (v:Int) rfl HM.o.fo ga rfl lV.o (by rw[bF];have:=iq.o i;omega) HM.o.fr.size ?_;intro BC w9 pH gX lG
      have B8:Hid (∀Z,BC.ownBlock=some Z ->fk Z (gU L v,gL V L R v) (.slice x1 jl jn,.slice x2 jk jm)):=fun Z hR=>by
       rcases lG with hn |hn
       ·exact nk.o Z (q8.o Z (by rw[<- hn];exact hR))
       ·exact HV.o.lt (hn Z hR)
      replace HV:=hid (HV.o.keepR (fun r hr=>nk.o r (q8.o r hr)) gX);replace HO:=hid (HO.o.pushF gX lG);replace HM:=hid (HM.o.pushF hb5 pH gX lG)
      obtain⟨nf,fa,fc,rfl⟩:∃nf fa fc,BC=Value.slice fa nf fc:=by
       obtain⟨fa,fc,e⟩:=sT pH;exact⟨_,fa,fc,e⟩
      refine hK'.o _ _ (jU.of HM.o HO.o false) (fun ag=>?_);clear pH gX lG lV;clear hK' K' ah;have ah:=ag;clear ag;(try simp only[gE,aP]);refine wj (i:=10) (oi:=_) (v:=.pointer (some ⟨w3.heap.size,1,none⟩)) (b:=false) rfl (by kernel_rfl) (by kernel_rfl) (by kernel_rfl) (by decide) (fun _ _ _ h=>h) (Or.inl ⟨by rfl,?_⟩) (by kernel_rfl) (by assumption) ?_
      ·intro u' aS;go_simp
      (try simp only[gE,aP]);refine pz (rs:=[8]) (by kernel_rfl) (by simp) (eL.cons (b:=false) rfl (by kernel_rfl) ?_ (eL.nil))
      ·intro K' hK';go_simp;have aO:=(aw w9.heap.size w9).alloc (ak _) (TC (.slice x1 jl jn) (.slice x2 jk jm));have kV:=hid (lQ.new HM.o (.slice x1 jl jn) (.slice x2 jk jm));replace HM:=hid (HM.o.under aO);replace HO:=hid (HO.o.under aO);replace HV:=hid (HV.o.aa aO);refine hK'.o _ _ (jU.of HM.o HO.o false) (fun ag=>?_);clear aO;clear hK' K' ah;have ah:=ag;clear ag;obtain⟨gt,tx⟩:∃gt,w9.heap.size=gt:=⟨_,rfl⟩;obtain⟨ut,mA⟩:∃ut,w9.alloc (TC (.slice x1 jl jn) (.slice x2 jk jm))=ut:=⟨_,rfl⟩;have AP:w9.alloc (.cells #[.slice x1 jl jn,.slice x2 jk jm] 39)=ut:=mA;rw[tx,mA] at kV;rw[mA] at HM HO HV;simp only[AP] at ah⊢;simp only[tx];clear mA AP tx;(try simp only[gE,aP]);refine pz (rs:=[9]) (by kernel_rfl) (by simp) (eL.cons (b:=false) rfl (by kernel_rfl) ?_ (eL.nil))
       ·intro K' hK';rw[aB (by rfl)];refine O3 _ _ rfl W4.heap.size tv (TL i).length (dG Q) (.slice x1 jl jn) (.slice x2 jk jm) rfl HM.o.own.own gt rfl kV.o.tb.c0 kV.o.tb.c1 zB.o.1 zB.o.2 (by have:=T7.o i;omega) HM.o.fr.size ?_;intro dF b7 fg eP gA;replace HO:=hid (HO.o.pushT eP gA);replace HM:=hid (HM.o.pushT hb5 HV.o (fun Z hZ=>nk.o Z (B5.o Z hZ)) B8.o (fun Z hZ=>nk.o Z (by omega)) fg eP gA);obtain⟨ta,tc,rfl⟩:=sT fg;refine hK'.o _ _ (jU.of HM.o HO.o false) (fun ag=>?_);clear fg eP gA kV HV B8;clear hK' K' ah;have ah:=ag;clear ag;have c1:=HM.o.box.cells.2.1;have f1:=HM.o.box.fz 1;refine pz (rs:=[11]) (by kernel_rfl) (by simp) (eL.cons (b:=true) rfl (by kernel_rfl) ?_ (eL.nil))
        ·intro K' hK';go_simp;replace HM:=hid (HM.o.set1 hb5 (.slice fa nf fc));replace HO:=hid (HO.o.off w3.heap.size 1 (.slice fa nf fc) hne);refine hK'.o _ _ (jU.late HO.o) (fun ag=>?_);clear c1 f1;clear hK' K' ah;have ah:=ag;clear ag;(try simp only[gE,aP]);refine wj (i:=12) (oi:=_) (v:=.pointer (some ⟨w3.heap.size,2,none⟩)) (b:=true) rfl (by kernel_rfl) (by kernel_rfl) (by kernel_rfl) (by decide) (fun _ _ _ h=>h) (Or.inl ⟨by rfl,?_⟩) (by kernel_rfl) (by assumption) ?_
         ·intro u' aS;go_simp
         have c2:=HM.o.box.cells.2.2;have f2:=HM.o.box.fz 2;refine pz (rs:=[13]) (by kernel_rfl) (by simp) (eL.cons (b:=true) rfl (by kernel_rfl) ?_ (eL.nil))
         ·intro K' hK';go_simp;replace HM:=hid (HM.o.set2 hb5 (.slice ta ((TL i).length+1) tc));replace HO:=hid (HO.o.off w3.heap.size 2 (.slice ta ((TL i).length+1) tc) hne);refine hK'.o _ _ (jU.late HO.o) (fun ag=>?_);clear c2 f2;clear hK' K' ah;have ah:=ag;clear ag;(try simp only[gE,aP]);refine O5 (by kernel_rfl) ?_ _;clear ah HO;generalize (((b7.setCell ⟨w3.heap.size,1,none⟩ (.slice fa nf fc))).setCell ⟨w3.heap.size,2,none⟩ (.slice ta ((TL i).length+1) tc))=sO at *;go_wp2;go_roundw
          case rel=>exact⟨i+1,_,_,_,by omega,by go_num,by rw[jA.o.1,jA.o.2];exact HM⟩
          case measure=>simp[intOf];omega
     ·intro K' hK';go_simp;have aO:=(aw ua.heap.size ua).alloc (ak _) (TC (.slice x1 jl jn) (.slice x2 jk jm));have kV:=hid (lQ.new HM.o (.slice x1 jl jn) (.slice x2 jk jm));replace HM:=hid (HM.o.under aO);replace HO:=hid (HO.o.under aO);replace HV:=hid (HV.o.aa aO);replace lV:=hid (((aO.cell (p:=⟨ga,0,none⟩) (World.block_lt_of_cell? _ _ lV.o))).trans lV.o);refine hK'.o _ _ (jU.of HM.o HO.o false) (fun ag=>?_);clear aO;clear hK' K' ah;have ah:=ag;clear ag;obtain⟨gt,tx⟩:∃gt,ua.heap.size=gt:=⟨_,rfl⟩;obtain⟨ut,mA⟩:∃ut,ua.alloc (TC (.slice x1 jl jn) (.slice x2 jk jm))=ut:=⟨_,rfl⟩;have AP:ua.alloc (.cells #[.slice x1 jl jn,.slice x2 jk jm] 39)=ut:=mA;rw[tx,mA] at kV;rw[mA] at HM HO HV lV;simp only[AP] at ah⊢;simp only[tx];clear mA AP tx;(try simp only[gE,aP]);refine pz (rs:=[4]) (by kernel_rfl) (by simp) (eL.cons (b:=false) rfl (by kernel_rfl) ?_ (eL.nil))
      ·intro K' hK';rw[aB (by rfl)];refine O4 _ _ rfl W4.heap.size fv (iL (FL i)) (v:Int) rfl HM.o.fo ga rfl lV.o (by rw[bF];have:=iq.o i;omega) HM.o.fr.size ?_;intro BC w9 pH gX lG
       have B8:Hid (∀Z,BC.ownBlock=some Z ->fk Z (gU L v,gL V L R v) (.slice x1 jl jn,.slice x2 jk jm)):=fun Z hR=>by
        rcases lG with hn |hn
        ·exact nk.o Z (q8.o Z (by rw[<- hn];exact hR))
        ·exact HV.o.lt (hn Z hR)
       replace HV:=hid (HV.o.keepR (fun r hr=>nk.o r (q8.o r hr)) gX);replace kV:=hid (kV.o.pushF gX lG);replace HO:=hid (HO.o.pushF gX lG);replace HM:=hid (HM.o.pushF hb5 pH gX lG)
       obtain⟨nf,fa,fc,rfl⟩:∃nf fa fc,BC=Value.slice fa nf fc:=by
        obtain⟨fa,fc,e⟩:=sT pH;exact⟨_,fa,fc,e⟩
       refine hK'.o _ _ (jU.of HM.o HO.o false) (fun ag=>?_);clear pH gX lG lV;clear hK' K' ah;have ah:=ag;clear ag;(try simp only[gE,aP]);refine wj (i:=10) (oi:=_) (v:=.pointer (some ⟨w3.heap.size,1,none⟩)) (b:=false) rfl (by kernel_rfl) (by kernel_rfl) (by kernel_rfl) (by decide) (fun _ _ _ h=>h) (Or.inl ⟨by rfl,?_⟩) (by kernel_rfl) (by assumption) ?_
       ·intro u' aS;go_simp
       (try simp only[gE,aP]);refine pz (rs:=[9]) (by kernel_rfl) (by simp) (eL.cons (b:=false) rfl (by kernel_rfl) ?_ (eL.nil))
       ·intro K' hK';rw[aB (by rfl)];refine O3 _ _ rfl W4.heap.size tv (TL i).length (dG Q) (.slice x1 jl jn) (.slice x2 jk jm) rfl HM.o.own.own gt rfl kV.o.tb.c0 kV.o.tb.c1 zB.o.1 zB.o.2 (by have:=T7.o i;omega) HM.o.fr.size ?_;intro dF b7 fg eP gA;replace HO:=hid (HO.o.pushT eP gA);replace HM:=hid (HM.o.pushT hb5 HV.o (fun Z hZ=>nk.o Z (B5.o Z hZ)) B8.o (fun Z hZ=>nk.o Z (by omega)) fg eP gA);obtain⟨ta,tc,rfl⟩:=sT fg;refine hK'.o _ _ (jU.of HM.o HO.o false) (fun ag=>?_);clear fg eP gA kV HV B8;clear hK' K' ah;have ah:=ag;clear ag;have c1:=HM.o.box.cells.2.1;have f1:=HM.o.box.fz 1;refine pz (rs:=[11]) (by kernel_rfl) (by simp) (eL.cons (b:=true) rfl (by kernel_rfl) ?_ (eL.nil))
        ·intro K' hK';go_simp;replace HM:=hid (HM.o.set1 hb5 (.slice fa nf fc));replace HO:=hid (HO.o.off w3.heap.size 1 (.slice fa nf fc) hne);refine hK'.o _ _ (jU.late HO.o) (fun ag=>?_);clear c1 f1;clear hK' K' ah;have ah:=ag;clear ag;(try simp only[gE,aP]);refine wj (i:=12) (oi:=_) (v:=.pointer (some ⟨w3.heap.size,2,none⟩)) (b:=true) rfl (by kernel_rfl) (by kernel_rfl) (by kernel_rfl) (by decide) (fun _ _ _ h=>h) (Or.inl ⟨by rfl,?_⟩) (by kernel_rfl) (by assumption) ?_
         ·intro u' aS;go_simp
         have c2:=HM.o.box.cells.2.2;have f2:=HM.o.box.fz 2;refine pz (rs:=[13]) (by kernel_rfl) (by simp) (eL.cons (b:=true) rfl (by kernel_rfl) ?_ (eL.nil))
         ·intro K' hK';go_simp;replace HM:=hid (HM.o.set2 hb5 (.slice ta ((TL i).length+1) tc));replace HO:=hid (HO.o.off w3.heap.size 2 (.slice ta ((TL i).length+1) tc) hne);refine hK'.o _ _ (jU.late HO.o) (fun ag=>?_);clear c2 f2;clear hK' K' ah;have ah:=ag;clear ag;(try simp only[gE,aP]);refine O5 (by kernel_rfl) ?_ _;clear ah HO;generalize (((b7.setCell ⟨w3.heap.size,1,none⟩ (.slice fa nf fc))).setCell ⟨w3.heap.size,2,none⟩ (.slice ta ((TL i).length+1) tc))=sO at *;go_wp2;go_roundw
          case rel=>exact⟨i+1,_,_,_,by omega,by go_num,by rw[jA.o.1,jA.o.2];exact HM⟩
          case measure=>simp[intOf];omega
    ·intro K' hK';go_simp;have aO:=(aw D5.heap.size D5).alloc (ak _) (TC (.slice x1 jl jn) (.slice x2 jk jm));have kV:=hid (lQ.new HM.o (.slice x1 jl jn) (.slice x2 jk jm));replace HM:=hid (HM.o.under aO);replace HO:=hid (HO.o.under aO);replace HV:=hid (HV.o.aa aO);refine hK'.o _ _ (jU.of HM.o HO.o false) (fun ag=>?_);clear aO;clear hK' K' ah;have ah:=ag;clear ag;obtain⟨gt,tx⟩:∃gt,D5.heap.size=gt:=⟨_,rfl⟩;obtain⟨ut,mA⟩:∃ut,D5.alloc (TC (.slice x1 jl jn) (.slice x2 jk jm))=ut:=⟨_,rfl⟩;have AP:D5.alloc (.cells #[.slice x1 jl jn,.slice x2 jk jm] 39)=ut:=mA;rw[tx,mA] at kV;rw[mA] at HM HO HV;simp only[AP] at ah⊢;simp only[tx];clear mA AP tx;(try simp only[gE,aP]);refine pz (rs:=[3]) (by kernel_rfl) (by simp) (eL.cons (b:=false) rfl (by kernel_rfl) ?_ (eL.nil))
     ·intro K' hK';go_simp;have aO:=(aw ut.heap.size ut).alloc (ak _) (.cells #[.int .i64 (v:Nat)] 3);have lV:=hid (aZ ut 3 (.int .i64 (v:Nat))).cell;replace HM:=hid (HM.o.under aO);replace HO:=hid (HO.o.under aO);replace kV:=hid (kV.o.under aO);replace HV:=hid (HV.o.aa aO);refine hK'.o _ _ (jU.of HM.o HO.o false) (fun ag=>?_);clear aO;clear hK' K' ah;have ah:=ag;clear ag;obtain⟨ga,wW⟩:∃ga,ut.heap.size=ga:=⟨_,rfl⟩;obtain⟨ua,kM⟩:∃ua,ut.alloc (.cells #[.int .i64 (v:Nat)] 3)=ua:=⟨_,rfl⟩;rw[wW,kM] at lV;rw[kM] at HM HO HV kV;simp only[kM] at ah⊢;simp only[wW];clear kM wW;(try simp only[gE,aP]);refine pz (rs:=[4]) (by kernel_rfl) (by simp) (eL.cons (b:=false) rfl (by kernel_rfl) ?_ (eL.nil))
      ·intro K' hK';rw[aB (by rfl)];refine O4 _ _ rfl W4.heap.size fv (iL (FL i)) (v:Int) rfl HM.o.fo ga rfl lV.o (by rw[bF];have:=iq.o i;omega) HM.o.fr.size ?_;intro BC w9 pH gX lG
       have B8:Hid (∀Z,BC.ownBlock=some Z ->fk Z (gU L v,gL V L R v) (.slice x1 jl jn,.slice x2 jk jm)):=fun Z hR=>by
        rcases lG with hn |hn
        ·exact nk.o Z (q8.o Z (by rw[<- hn];exact hR))
        ·exact HV.o.lt (hn Z hR)
       replace HV:=hid (HV.o.keepR (fun r hr=>nk.o r (q8.o r hr)) gX);replace kV:=hid (kV.o.pushF gX lG);replace HO:=hid (HO.o.pushF gX lG);replace HM:=hid (HM.o.pushF hb5 pH gX lG)
       obtain⟨nf,fa,fc,rfl⟩:∃nf fa fc,BC=Value.slice fa nf fc:=by
        obtain⟨fa,fc,e⟩:=sT pH;exact⟨_,fa,fc,e⟩
       refine hK'.o _ _ (jU.of HM.o HO.o false) (fun ag=>?_);clear pH gX lG lV;clear hK' K' ah;have ah:=ag;clear ag;(try simp only[gE,aP]);refine wj (i:=10) (oi:=_) (v:=.pointer (some ⟨w3.heap.size,1,none⟩)) (b:=false) rfl (by kernel_rfl) (by kernel_rfl) (by kernel_rfl) (by decide) (fun _ _ _ h=>h) (Or.inl ⟨by rfl,?_⟩) (by kernel_rfl) (by assumption) ?_
       ·intro u' aS;go_simp
       (try simp only[gE,aP]);refine pz (rs:=[9]) (by kernel_rfl) (by simp) (eL.cons (b:=false) rfl (by kernel_rfl) ?_ (eL.nil))
       ·intro K' hK';rw[aB (by rfl)];refine O3 _ _ rfl W4.heap.size tv (TL i).length (dG Q) (.slice x1 jl jn) (.slice x2 jk jm) rfl HM.o.own.own gt rfl kV.o.tb.c0 kV.o.tb.c1 zB.o.1 zB.o.2 (by have:=T7.o i;omega) HM.o.fr.size ?_;intro dF b7 fg eP gA;replace HO:=hid (HO.o.pushT eP gA);replace HM:=hid (HM.o.pushT hb5 HV.o (fun Z hZ=>nk.o Z (B5.o Z hZ)) B8.o (fun Z hZ=>nk.o Z (by omega)) fg eP gA);obtain⟨ta,tc,rfl⟩:=sT fg;refine hK'.o _ _ (jU.of HM.o HO.o false) (fun ag=>?_);clear fg eP gA kV HV B8;clear hK' K' ah;have ah:=ag;clear ag;have c1:=HM.o.box.cells.2.1;have f1:=HM.o.box.fz 1;refine pz (rs:=[11]) (by kernel_rfl) (by simp) (eL.cons (b:=true) rfl (by kernel_rfl) ?_ (eL.nil))
        ·intro K' hK';go_simp;replace HM:=hid (HM.o.set1 hb5 (.slice fa nf fc));replace HO:=hid (HO.o.off w3.heap.size 1 (.slice fa nf fc) hne);refine hK'.o _ _ (jU.late HO.o) (fun ag=>?_);clear c1 f1;clear hK' K' ah;have ah:=ag;clear ag;(try simp only[gE,aP]);refine wj (i:=12) (oi:=_) (v:=.pointer (some ⟨w3.heap.size,2,none⟩)) (b:=true) rfl (by kernel_rfl) (by kernel_rfl) (by kernel_rfl) (by decide) (fun _ _ _ h=>h) (Or.inl ⟨by rfl,?_⟩) (by kernel_rfl) (by assumption) ?_
         ·intro u' aS;go_simp
         have c2:=HM.o.box.cells.2.2;have f2:=HM.o.box.fz 2;refine pz (rs:=[13]) (by kernel_rfl) (by simp) (eL.cons (b:=true) rfl (by kernel_rfl) ?_ (eL.nil))
         ·intro K' hK';go_simp;replace HM:=hid (HM.o.set2 hb5 (.slice ta ((TL i).length+1) tc));replace HO:=hid (HO.o.off w3.heap.size 2 (.slice ta ((TL i).length+1) tc) hne);refine hK'.o _ _ (jU.late HO.o) (fun ag=>?_);clear c2 f2;clear hK' K' ah;have ah:=ag;clear ag;(try simp only[gE,aP]);refine O5 (by kernel_rfl) ?_ _;clear ah HO;generalize (((b7.setCell ⟨w3.heap.size,1,none⟩ (.slice fa nf fc))).setCell ⟨w3.heap.size,2,none⟩ (.slice ta ((TL i).length+1) tc))=sO at *;go_wp2;go_roundw
          case rel=>exact⟨i+1,_,_,_,by omega,by go_num,by rw[jA.o.1,jA.o.2];exact HM⟩
          case measure=>simp[intOf];omega
  ·obtain rfl:i=L.length:=by omega
   obtain⟨d,cd,rfl,aau⟩:=HM.o.fo.ints;obtain⟨ta,tc,rfl,AU⟩:=HM.o.own.row;obtain⟨x0,x1,x2⟩:=HM.o.box.cells;obtain⟨r0,r1,r2⟩:=o9.o.cells;have Lm:=o9.o.fz 0;have Ll:=o9.o.fz 1;have Lk:=o9.o.fz 2;have e1:(iL (FL L.length)).length=(FL L.length).length:=bF _;rw[e1] at HM x1;rw[aaV] at HM x2;have zE:=hid (o9.o.put (.slice (some ⟨G,0,none⟩) V.length V.length) (.slice d (FL L.length).length cd) (.slice ta (FL L.length).length tc));have rj:=hid (df HB.o (show w.heap.size<=w.heap.size+1 by omega) (.slice (some ⟨G,0,none⟩) V.length V.length) (.slice d (FL L.length).length cd) (.slice ta (FL L.length).length tc))
   have jB:Value.ownBlock (.slice ta (FL L.length).length tc)≠some (w.heap.size+1):=fun e=>by
    have:=(HM.o.own.lt _ e).1;omega
   have Bj:=((HM.o.own.off (g:=w.heap.size+1) (j:=0) (.slice (some ⟨G,0,none⟩) V.length V.length) (HM.o.far _ (by omega)) jB).off (g:=w.heap.size+1) (j:=1) (.slice d (FL L.length).length cd) (HM.o.far _ (by omega)) jB).off (g:=w.heap.size+1) (j:=2) (.slice ta (FL L.length).length tc) (HM.o.far _ (by omega)) jB;obtain⟨V0,VW,e2,AR⟩:=Bj.row;rw[aaV] at e2;injection e2 with e3 e4 e5;subst e3 e5;clear e4;have J6:=hid AR
   have p6:∀g o,d=some ⟨g,o,none⟩ ->iL (FL L.length)≠[] ->g≠w.heap.size+1:=fun g o e _ e2=>by
    subst e;have:=(pE HM.o.fo g rfl).1;omega
   have xP:=hid (((aau.off (g:=w.heap.size+1) (j:=0) (y:=.slice (some ⟨G,0,none⟩) V.length V.length) p6).off (g:=w.heap.size+1) (j:=1) (y:=.slice d (FL L.length).length cd) p6).off (g:=w.heap.size+1) (j:=2) (y:=.slice ta (FL L.length).length tc) p6)
   have zK:∀g o,(some ⟨G,0,none⟩:Option Addr)=some ⟨g,o,none⟩ ->iL (aq V)≠[] ->g≠w.heap.size+1:=fun g o e _ e2=>by
    cases e;omega
   have HGR:=hid ((((HIG.o wr HM.o.fr).off (g:=w.heap.size+1) (j:=0) (y:=.slice (some ⟨G,0,none⟩) V.length V.length) zK).off (g:=w.heap.size+1) (j:=1) (y:=.slice d (FL L.length).length cd) zK).off (g:=w.heap.size+1) (j:=2) (y:=.slice ta (FL L.length).length tc) zK);have dB:=hid ((Qa HM.o.own.own).up (show w.heap.size<=W4.heap.size by omega));clear Bj AR AU aau zK p6 jB HM HB zS GH o9 HIW tP UM p9 xD J5;go_wp2;refine dh (zE.o.result1 rfl _ rfl) rfl ?_;exact⟨G,d,cd,ta,tc,rfl,HGR.o,xP.o,J6.o,rj.o,dB.o⟩
theorem afP (a b c q:Option Addr) (ca cb cc cq:Nat) (V:List Vr) (L:List (List Int)) (R:List (List Fr)) (vars:List Int) (w:World) (h:jx w a b c V L R) (hN:tJ w b L) (hs:vr V L R) (hw:∀l∈R,fw l<=4200) (h0:bA V L R=0) (lI:bh L=0) (h1:1<=L.length) (dJ:∀l∈L,l.length<=140737488355328) (hq:aC w q vars) (dI:vars.length<=1000) (tD:∀U:World,jx U a b c V L R ->Calls Tryz.prog 75 #[.agg #[.slice a V.length ca,.slice b L.length cb,.slice c R.length cc]] U fun e w'=>e=.returned (.int .i64 (bA V L R))/\Below U.heap.size U w'):
  Calls Tryz.prog 46 #[.agg #[.slice a V.length ca,.slice b L.length cb,.slice c R.length cc],.slice q vars.length cq] w fun e w'=>∃g d cd t' eI,e=.returned (.agg #[.slice (some ⟨g,0,none⟩) V.length V.length,.slice d ((gW L).filter fun v:Nat=>vars.contains (v:Int)).length cd,.slice t' ((gW L).filter fun v:Nat=>vars.contains (v:Int)).length eI])/\aC w' (some ⟨g,0,none⟩) (iL (aq V))/\aC w' d (iL ((gW L).filter fun v:Nat=>vars.contains (v:Int)))/\gH w' t' (((gW L).filter fun v:Nat=>vars.contains (v:Int)).map fun v=>(gU L v,gL V L R v))/\Below w.heap.size w w':=
 (afO a b c q ca cb cc cq V L R vars w h hN hs hw h0 lI h1 dJ hq dI tD).ae fun _ _ ⟨g,d,cd,t',eI,e,k1,k2,k3,k4,_⟩=>⟨g,d,cd,t',eI,e,k1,k2,k3,k4⟩
open Go.Sort
theorem aev {B:Nat} (d:Option Addr) (n cd:Nat) (l:List Int) (w:World) (h:bD w B (.slice d n cd) l) (hB:B<=w.heap.size) (hn:l.length<=100000):
  Calls Tryz.prog 77 #[.slice d n cd] w fun e w'=>e=.returned (.tuple #[])/\n=l.length/\aC w' d (l.mergeSort fun x y=>decide (x<=y))/\Below B w w':=by
 rcases h.cases with ⟨e,rfl⟩ |⟨g,cap,e,hg0,hg,hc1,hc2,hh⟩
 ·cases e;refine(Tryz.slices_Sort_int_none none 0 w).ae ?_;rintro e w2 ⟨rfl,rfl⟩;exact⟨rfl,rfl,fun k hk=>absurd hk (by simp),aw _ _⟩
 ·cases e;refine(Tryz.slices_Sort_int g 0 cd l w hh hg (by omega)).ae ?_;have hlen:(l.mergeSort fun x y=>decide (x<=y)).length=l.length:=KU _;generalize (l.mergeSort fun x y=>decide (x<=y))=zs at *;rintro e w2 ⟨rfl,q,os,rfl⟩;have hsz:zs.toArray.size=l.toArray.size:=by simp;exact hlen
  have Bl:Holds (Value.int .i64) (grow (putRow (Value.int .i64) (Sort.ahead w q) g 0 zs.toArray) os) g 0 zs.toArray:=fun j hj=>by
   obtain⟨h1,h2⟩:=holds_putRow (Value.int .i64) (Sort.ahead w q) g 0 _ zs.toArray hh hsz j hj;(have fQ:g<(putRow (Value.int .i64) (Sort.ahead w q) g 0 zs.toArray).heap.size:=by rw[size_putRow];exact hg);refine⟨(cell?_grow _ _ _ fQ).trans h1,?_⟩;rw[frozen?_grow _ _ _ fQ];exact h2
  have I2:g<(grow (putRow (Value.int .i64) (Sort.ahead w q) g 0 zs.toArray) os).heap.size:=aR hg (KJ (w:=w) (g:=g) (n:=q) (os:=os) zs.toArray).size;exact⟨rfl,rfl,FQ Bl I2 (fun j hj=>⟨by simpa using hj,by simp⟩),Ts zs.toArray (aw _ _) hB hg0⟩
theorem aeu (hl:∀x∈l,0<=x/\x<n) (iC:l.Nodup):Up (l.mergeSort fun x y=>decide (x<=y)) n:=by
 have hs:(l.mergeSort fun x y=>decide (x<=y)).Pairwise (fun x y=>decide (x<=y)=true):=List.pairwise_mergeSort (fun a b c=>by simp;omega) (fun a b=>by simp;omega) _;have hp:=OW l fun x y=>decide (x<=y);have hn:(l.mergeSort fun x y=>decide (x<=y)).Nodup:=hp.nodup_iff.2 iC;refine fK.2 ⟨fun x hx=>hl x (hp.mem_iff.1 hx),(hs.and hn).imp fun {a b} h=>?_⟩;have h3:=kY h.1;have h4:=h.2;omega
variable {ws:List Nat}
def r6 (q:List Int) (l:List (Nat×Nat)):List Int:=q++(zF l).map (·.1)
def uZ (q:List Int) (l:List (Nat×Nat)):List Int:=(r6 q l).mergeSort fun x y=>decide (x<=y)
theorem acb {q:List Int} {l:List (Nat×Nat)} (v:Nat):v∈af (uZ q l)↔v∈af q∨v∈l.map (·.1):=by
 have hp:=OW (r6 q l) fun x y=>decide (x<=y)
 have hm:v∈af (uZ q l)↔∃x∈r6 q l,x.toNat=v:=by
  rw[uZ,af,aU];exact⟨fun ⟨x,h,e⟩=>⟨x,hp.mem_iff.1 h,e⟩,fun ⟨x,h,e⟩=>⟨x,hp.mem_iff.2 h,e⟩⟩
 rw[hm];constructor
 ·rintro⟨x,hx,rfl⟩;rcases bL.1 hx with hx |hx
  ·exact .inl (aU.2 ⟨x,hx,rfl⟩)
  ·obtain⟨p,hp',rfl⟩:=aU.1 hx;obtain⟨r,hr,rfl⟩:=aU.1 hp';exact .inr (aU.2 ⟨r,hr,by simp⟩)
 ·rintro(h |h)
  ·obtain⟨x,hx,e⟩:=aU.1 h;exact⟨x,bL.2 (.inl hx),e⟩
  ·obtain⟨r,hr,rfl⟩:=aU.1 h;exact⟨(r.1:Int),bL.2 (.inr (aU.2 ⟨_,aU.2 ⟨r,hr,rfl⟩,rfl⟩)),by simp⟩
theorem alR {q:List Int} {l:List (Nat×Nat)} (hq:Up q n) (hl:kB S n l) (hd:∀v∈af q,¬v∈l.map (·.1)):Up (uZ q l) n:=by
 refine aeu (fun x hx=>?_) ?_
 ·rcases bL.1 hx with hx |hx
  ·exact EX hq x hx
  ·obtain⟨p,hp',rfl⟩:=aU.1 hx;obtain⟨r,hr,rfl⟩:=aU.1 hp';have:=hl.lt r hr;show 0<=(r.1:Int)/\(r.1:Int)<n;omega
 ·refine ue.2 ⟨?_,?_,fun x hx y hy e=>?_⟩
  ·exact(fK.1 hq).2.imp fun h=>by omega
  ·rw[zF,Ae];refine(yh.2 ?_);exact(yh.1 hl.nd).imp fun {a b} h e=>h (by have e':(a.1:Int)=(b.1:Int):=e;omega)
  ·subst e;obtain⟨p,hp',rfl⟩:=aU.1 hy;obtain⟨r,hr,rfl⟩:=aU.1 hp';exact hd r.1 (aU.2 ⟨_,hx,by simp⟩) (aU.2 ⟨r,hr,rfl⟩)
theorem kB.len {l:List (Nat×Nat)} (h:kB S n l):l.length<=n:=by
 have h1:=(LQ h.nd (n:=n) fun v hv=>by
  obtain⟨p,hp,rfl⟩:=aU.1 hv;exact h.lt p hp).length_eq
 have h2:((List.range n).filter fun v=>(l.map (·.1)).contains v).length<=n:=aM (l6 ..) (by simp);rw[cH] at h1;omega
theorem al7 (b d:Option Addr) (cb cd:Nat) (L:List (List Int)) (A:List Int) (w:World) (h:dT w b L) (hl:∀l∈L,l.length<=140737488355328) (hA:aC w d A) (hg:bh L=0) (hu:Up A L.length) (MW:A.length<=1000):
  Calls Tryz.prog 78 #[.slice b L.length cb,.slice d A.length cd] w fun e w'=>∃d cd,e=.returned (.tuple #[.slice d (fL (cZ (aG L) (af A) L.length)).length cd,.int .i64 0])/\aC w' d (fL (cZ (aG L) (af A) L.length))/\Below w.heap.size w w':=
 (ajZ b d cb cd L A w h hl hA (by omega)).ae fun e w' hh=>by
  rcases hh with ⟨⟨h1,_⟩ |⟨_,h2,_⟩ |⟨_,_,d,cd,h3,h4⟩,hb⟩
  ·exact absurd hg h1
  ·rw[Hm hu] at h2;cases h2
  ·exact⟨d,cd,h3,h4,hb⟩
theorem abf (S:List Nat) (p:Nat×Nat):∀(l:List (Nat×Nat)) (P:List Tb),mF S (l++[p]) P=(mF S l P).map (jQ S p.1 p.2)
 |[],_=>rfl
 |x::l,P=>by rw[eC,mF,mF,abf S p l]
theorem Zn (p:Nat×Nat):∀(l:List (Nat×Nat)) (fr:List Nat),jM fr (l++[p])=(jM fr l).filter fun u=>!(u==p.1)
 |[],_=>rfl
 |x::l,fr=>by rw[eC,jM,jM,Zn p l]
theorem ah9 (fr:List Nat) (v:Nat):bP (iL fr) (v:Int)=iL (fr.filter fun u=>!(u==v)):=by
 rw[bP,iL,KX];congr 1
 refine List.filter_congr fun x _=>?_;show (!((x:Int)==(v:Int)))=!(x==v);congr 1
 rw[ug,zY,zY];omega
def mE (ws:List Nat) (l:List (Nat×Nat)) (i:Nat):List Int:=iL (jM ws (l.take i))
def lJ (V:List Vr) (L:List (List Int)) (R:List (List Fr)) (ws:List Nat) (l:List (Nat×Nat)) (i:Nat):List Tb:=mF (aq V) (l.take i) (gT V L R ws)
theorem aj2 {l:List (Nat×Nat)} (h:i<l.length):mE ws l (i+1)=bP (mE ws l i) (l[i].1:Int):=by
 rw[mE,mE,gh h,Zn,ah9]
theorem aj0 {V:List Vr} {l:List (Nat×Nat)} (h:i<l.length):lJ V L R ws l (i+1)=(lJ V L R ws l i).map (jQ (aq V) l[i].1 l[i].2):=by
 rw[lJ,lJ,gh h,abf]
theorem aa4 {V:List Vr} (h0:bA V L R=0) (hlt:∀v∈ws,v<V.length) (hc:oA L (·∈ws)) {l:List (Nat×Nat)} (hl:kB (aq V) V.length l) (i:Nat):eT (aq V) V.length (lJ V L R ws l i) (gQ R ws) 1:=
 eT.fixes (LR h0) (ajR h0 hlt hc) fun p hp=>hl.val p (List.mem_of_mem_take hp)
theorem aj1 (V:List Vr) (L:List (List Int)) (R:List (List Fr)) (ws:List Nat) (l:List (Nat×Nat)) (i:Nat):(lJ V L R ws l i).length=ws.length:=by rw[lJ,S6,gT,cH]
theorem aj3 (ws:List Nat) (l:List (Nat×Nat)) (i:Nat):(mE ws l i).length<=ws.length:=by rw[mE,bF];exact(Zm _ _).length_le
theorem Qp (hn:ws.Nodup) (hlt:∀v∈ws,v<n):ws.length<=n:=by
 have h1:=(LQ hn hlt).length_eq;have h2:((List.range n).filter fun v=>ws.contains v).length<=n:=aM (l6 ..) (by simp);omega
theorem akr {V:List Vr} (h0:bA V L R=0) (hD:vM V R) (hn:ws.Nodup) (hlt:∀v∈ws,v<V.length) (hc:oA L (·∈ws)) {l:List (Nat×Nat)} (hl:kB (aq V) V.length l) (hi:i<l.length) (s b t:Option Addr) (cs cb ct:Nat) (w:World) (hs:aC w s (iL (aq V))) (hb:aC w b (mE ws l i)) (hP:gH w t (lJ V L R ws l i)):
  Calls Tryz.prog 48 #[.agg #[.slice s V.length cs,.slice b (mE ws l i).length cb,.slice t (lJ V L R ws l i).length ct],.agg #[.int .i64 (l[i].1:Nat),.int .i64 (l[i].2:Nat)]] w fun e w'=>∃d cd t' eI,e=.returned (.agg #[.slice s V.length cs,.slice d (mE ws l (i+1)).length cd,.slice t' (lJ V L R ws l (i+1)).length eI])/\aC w' d (mE ws l (i+1))/\gH w' t' (lJ V L R ws l (i+1))/\fV w.heap.size t' eI/\Below w.heap.size w w':=by
 have aV:=kL h0;have eZ:(aq V).length=V.length:=rH V;have hwl:=Qp hn hlt;have h8:=aV.n8;have h1:=aj3 ws l i;have h2:=aj1 V L R ws l i;have yS:=aa4 h0 hlt hc hl i;have hm:=hD.pool h0 hn hlt (vs:=[]) List.nodup_nil (fun v hv=>by cases hv);have:=af2 s b t cs cb ct (aq V) (mE ws l i) (lJ V L R ws l i) (gQ R ws) 1 l[i].1 l[i].2 w aV.fine hs hb hP (by rw[eZ];exact yS) (by omega) (by omega) hm (by rw[eZ];exact hl.lt _ (bY hi)) (hl.val _ (bY hi));rw[eZ] at this;rw[aj2 hi,aj0 hi,cH];exact this
theorem agJ {V:List Vr} (h0:bA V L R=0) (hD:vM V R) (hn:ws.Nodup) (hlt:∀v∈ws,v<V.length) (hc:oA L (·∈ws)) {l:List (Nat×Nat)} (hl:kB (aq V) V.length l) (IJ:∀p∈l,p.1∈ws) {Q:List Int} (hq:Up Q V.length) (C9:∀v∈af Q,v∈ws/\¬v∈l.map (·.1)) (s b t q:Option Addr) (cs cb ct cq:Nat) (w:World) (hs:aC w s (iL (aq V))) (hb:aC w b (mE ws l l.length)) (hP:gH w t (lJ V L R ws l l.length)) (hQ:aC w q Q):
  Calls Tryz.prog 51 #[.agg #[.slice s V.length cs,.slice b (mE ws l l.length).length cb,.slice t (lJ V L R ws l l.length).length ct],.slice q Q.length cq,.bool false] w fun e w'=>∃x y,e=.returned (.agg #[x,y])/\dM w' x y (Ht V L R Q l)/\Below w.heap.size w w':=by
 have aV:=kL h0;have hp:=LR h0;have eZ:(aq V).length=V.length:=rH V;have hwl:=Qp hn hlt;have h8:=aV.n8;have IM:=QC (l:=l) hn;have De:∀v∈jM ws l,v<V.length:=fun v hv=>hlt v (L9.1 hv).1;have tA:mE ws l l.length=iL (jM ws l):=by rw[mE,iR]
 have IE:lJ V L R ws l l.length=mF (aq V) l (gT V L R ws):=by rw[lJ,iR]
 have yS:=aa4 h0 hlt hc hl l.length;rw[IE] at yS hP⊢;rw[tA] at hb⊢;have dJ:=Qp IM De;have hpl:(mF (aq V) l (gT V L R ws)).length=ws.length:=by rw[S6,gT,cH]
 have:=af0 s b t q cs cb ct cq (aq V) (jM ws l) Q (mF (aq V) l (gT V L R ws)) _ (gQ R ws) 1 false w aV.fine hs hb hP hQ (by have:=hq.length;omega) IM (by rw[eZ];exact De) (by rw[eZ];exact(PI.net h0 hlt hc).fixes hp hl.nd hl.val) (NN.fixes hp hl.val (PI.net h0 hlt hc).ok (NN.net h0 hlt)) (by rw[eZ];exact yS) (by omega) (hD.pool h0 hn hlt IM De);rw[eZ,adQ h0 hp hn hlt hc hl IJ hq C9] at this;rw[bF];exact this
theorem aiu (a b c q f:Option Addr) (ca cb cc cq cf:Nat) (V:List Vr) (L:List (List Int)) (R:List (List Fr)) (Q:List Int) (l:List (Nat×Nat)) (w:World) (h:jx w a b c V L R) (hN:tJ w b L) (hs:vr V L R) (hw:∀l∈R,fw l<=4200) (h0:bA V L R=0) (hD:vM V R) (hq:aC w q Q) (Mp:Up Q V.length) (hF:ny w f (zF l)) (hl:kB (aq V) V.length l) (hd:∀v∈af Q,¬v∈l.map (·.1)) (tD:∀U:World,jx U a b c V L R ->Calls Tryz.prog 75 #[.agg #[.slice a V.length ca,.slice b L.length cb,.slice c R.length cc]] U fun e w'=>e=.returned (.int .i64 (bA V L R))/\Below U.heap.size U w'):
  Calls Tryz.prog 33 #[.agg #[.slice a V.length ca,.slice b L.length cb,.slice c R.length cc],.slice q Q.length cq,.slice f l.length cf] w fun e w'=>∃x y,e=.returned (.agg #[x,y])/\dM w' x y (Ht V L R Q l)/\Below w.heap.size w w':=by
 have aV:=kL h0;have h8:=aV.n8;have lI:=LS h0;have hgb:=tF lI
 have y9:1<=L.length:=by
  have:=aV.fine.one;rw[bF,rH] at this;rw[aV.len];exact this
 have Jk:L.length<=8:=by rw[aV.len];exact h8
 have dJ:∀x∈L,x.length<=140737488355328:=fun x hx=>by
  obtain⟨i,hi,rfl⟩:=jg hx;have:=(aV.up i hi).length;omega
 have dI:=Mp.length;have jP:=hl.len;have R7:=alR Mp hl hd;have MW:(uZ Q l).length=(r6 Q l).length:=KU _;have hAn:(r6 Q l).length=Q.length+l.length:=by rw[r6,bM,cH,sL]
 have hA:∀v∈af (uZ Q l),v<L.length:=fun v hv=>by rw[aV.len];exact R7.aa v hv
 obtain⟨ws,C0⟩:∃ws,wh L (af (uZ Q l))=ws:=⟨_,rfl⟩;have QT:ws.Nodup:=by rw[<- C0];exact ac6 hgb y9 Jk _
 have hwt:∀v∈ws,v<V.length:=fun v hv=>by rw[<- aV.len];rw[<- C0] at hv;exact ac7 hgb y9 Jk hv
 have hwc:oA L (·∈ws):=by rw[<- C0];exact ac8 lI y9 Jk hA
 have hwl:∀p∈l,p.1∈ws:=fun p hp=>by
  rw[<- C0];exact Vk lI y9 Jk hA ((acb _).2 (.inr (aU.2 ⟨p,hp,rfl⟩)))
 have dS:∀v∈af Q,v∈ws/\¬v∈l.map (·.1):=fun v hv=>⟨by
  rw[<- C0];exact Vk lI y9 Jk hA ((acb _).2 (.inl hv)),hd v hv⟩
 have xW:=hid (fun (U:World) (hU:Below w.heap.size w U)=>PB q cq Q U (hq.aa hU) (by omega));have HST:Hid (∀(d:Option Addr) (n cd B:Nat) (U:World),bD U B (.slice d n cd) (r6 Q l) ->B<=U.heap.size ->Calls Tryz.prog 77 #[.slice d n cd] U fun e w'=>e=.returned (.tuple #[])/\n=(r6 Q l).length/\aC w' d (uZ Q l)/\Below B U w'):=fun d n cd B U h1 h2=>aev d n cd (r6 Q l) U h1 h2 (by omega);obtain⟨vars,Me⟩:∃vars,fL (cZ (aG L) (af (uZ Q l)) L.length)=vars:=⟨_,rfl⟩;have iA:vars.length<=8:=by rw[<- Me,fL,bF,bw];exact aM (l6 ..) (by simp)
 have tV:Hid (∀(d:Option Addr) (cd:Nat) (U:World),Below w.heap.size w U ->aC U d (uZ Q l) ->Calls Tryz.prog 78 #[.slice b L.length cb,.slice d (r6 Q l).length cd] U fun e w'=>∃d cd,e=.returned (.tuple #[.slice d vars.length cd,.int .i64 0])/\aC w' d vars/\Below U.heap.size U w'):=fun d cd U hU hi=>by
  have:=al7 b d cb cd L (uZ Q l) U (h.aa hU).pars dJ hi lI (by rw[aV.len];exact R7) (by omega);rwa [Me,MW] at this
 have N2:Hid (∀(d:Option Addr) (cd:Nat) (U:World),Below w.heap.size w U ->aC U d vars ->Calls Tryz.prog 46 #[.agg #[.slice a V.length ca,.slice b L.length cb,.slice c R.length cc],.slice d vars.length cd] U fun e w'=>∃g d cd t' eI,e=.returned (.agg #[.slice (some ⟨g,0,none⟩) V.length V.length,.slice d (mE ws l 0).length cd,.slice t' (lJ V L R ws l 0).length eI])/\aC w' (some ⟨g,0,none⟩) (iL (aq V))/\aC w' d (mE ws l 0)/\gH w' t' (lJ V L R ws l 0)/\Below U.heap.size U w'):=fun d cd U hU hi=>by
  have:=afP a b c d ca cb cc cd V L R vars U (h.aa hU) (hN.aa h.pars hU) hs hw h0 lI y9 dJ hi (by omega) tD;have e:(gW L).filter (fun v:Nat=>vars.contains (v:Int))=ws:=by rw[<- C0,wh,Me]
  rw[e] at this;have e1:mE ws l 0=iL ws:=rfl;have e2:lJ V L R ws l 0=ws.map fun v=>(gU L v,gL V L R v):=rfl;rw[e1,e2,bF,cH];exact this
 have xT:=hid (fun (i:Nat) (hi:i<l.length) (s b t:Option Addr) (cs cb ct:Nat) (U:World)=>akr (L:=L) h0 hD QT hwt hwc hl hi s b t cs cb ct U);have HON:=hid (fun (s b t:Option Addr) (cs cb ct:Nat) (U:World) (hU:Below w.heap.size w U) h1 h2 h3=>agJ h0 hD QT hwt hwc hl hwl Mp dS s b t q cs cb ct cq U h1 h2 h3 (hq.aa hU))
 have HF:Hid (∀i (hi:i<l.length) (U:World),Below w.heap.size w U ->∃g o,f=some ⟨g,o,none⟩/\g<U.heap.size/\U.cell? ⟨g,o+i*2,none⟩=some (.int .i64 (l[i].1:Nat))/\U.cell? ⟨g,o+i*2+1,none⟩=some (.int .i64 (l[i].2:Nat))):=fun i hi U hU=>by
  have hz:i<(zF l).length:=by rw[sL];exact hi
  obtain⟨g,o,e,hg,h0,h1⟩:=(hF.aa hU) i hz;have e1:(zF l)[i]=((l[i].1:Int),(l[i].2:Int)):=by simp[zF]
  rw[e1] at h0 h1;exact⟨g,o,e,hg,h0,h1⟩
 obtain⟨AK,F5⟩:∃AK:Nat ->List Int,∀k,Q++(l.take k).map (fun p=>(p.1:Int))=AK k:=⟨fun k=>Q++(l.take k).map (fun p=>(p.1:Int)),fun _=>rfl⟩;have OD:Hid (AK 0=Q):=by show _=_;rw[<- F5];simp
 have HAS:Hid (∀k (hk:k<l.length),AK (k+1)=AK k++[((l[k].1:Nat):Int)]):=fun k hk=>by rw[<- F5, <- F5,gh hk,dY,jh];rfl
 have U8:Hid (AK l.length=r6 Q l):=by show _=_;rw[<- F5,iR,r6,zF,Ae];rfl
 have HAL:Hid (∀k,(AK k).length<=16):=fun k=>by
  rw[<- F5,bM,cH,eB];omega
 have cR:=hid (dr.at (w:=w) rfl (.slice a V.length ca) (.slice b L.length cb) (.slice c R.length cc));clear F5 h hN hs hw h0 hD hq Mp hF hl hd tD aV lI hgb dJ R7 MW hAn hA C0 QT hwt hwc hwl dS Me y9;generalize mE ws l=FW at *;generalize lJ V L R ws l=PS at *;generalize Ht V L R Q l=TT at *
 have HA:Hid (Below w.heap.size w ((w.alloc (NC (.slice a V.length ca) (.slice b L.length cb) (.slice c R.length cc))).alloc (TC (.slice none 0 0) (.slice none 0 0)))):=by
  have h1:=(aw w.heap.size w).alloc (ak _) (NC (.slice a V.length ca) (.slice b L.length cb) (.slice c R.length cc));exact h1.alloc h1.size _
 have GL:Hid (dr ((w.alloc (NC (.slice a V.length ca) (.slice b L.length cb) (.slice c R.length cc))).alloc (TC (.slice none 0 0) (.slice none 0 0))) w.heap.size (.slice a V.length ca) (.slice b L.length cb) (.slice c R.length cc)):=cR.o.aa ((aw _ _).alloc (ak _) (TC (.slice none 0 0) (.slice none 0 0))) cR.o.lt;have xI:Hid (bG ((w.alloc (NC (.slice a V.length ca) (.slice b L.length cb) (.slice c R.length cc))).alloc (TC (.slice none 0 0) (.slice none 0 0))) (w.heap.size+1) (.slice none 0 0) (.slice none 0 0)):=bG.at (w:=w.alloc (NC (.slice a V.length ca) (.slice b L.length cb) (.slice c R.length cc))) (by simp) _ _;clear cR;go_enter Tryz.func33,Tryz.ntmps33;go_wp2_with fail
 generalize ((w.alloc (NC (.slice a V.length ca) (.slice b L.length cb) (.slice c R.length cc))).alloc (TC (.slice none 0 0) (.slice none 0 0)))=W0 at *;refine(xW.o W0 HA.o).ae ?_;rintro e w1 ⟨av,rfl,hr1,hb1⟩;have hs0:=xI.o.lt;have acL:=hid hr1;have cP:=hid hb1;clear hr1 hb1 xW;go_wp2_with fail
 go_loopw [7,19] (fun av iv wr=>∃i:Nat,i<=l.length/\iv=.int .i64 i/\Hid (bD wr W0.heap.size av (AK i))/\Hid (Below W0.heap.size W0 wr)) (fun _ iv _=>l.length - (intOf iv).toNat)
 case atStart=>exact⟨0,aX _,rfl,by rw[OD.o];exact acL,cP⟩
 case round=>
  obtain⟨i,hi,rfl,Gu,oz⟩:=hrel;clear acL cP;have HB:=hid (HA.o.trans (oz.o.ae HA.o.size));obtain⟨d,cd,rfl⟩:=sT Gu.o;by_cases hlt:i<l.length
  ·obtain⟨g,o,rfl,hg,k0,k1⟩:=HF.o i hlt wr HB.o;have amR:=hid (HAS.o i hlt);generalize l[i].1=v at *;generalize l[i].2=z at *;have uI:=(aw wr.heap.size wr).alloc (ak _) (.cells #[.int .i64 (v:Nat),.int .i64 (z:Nat)] 90);(have Nf:(wr.alloc (.cells #[.int .i64 (v:Nat),.int .i64 (z:Nat)] 90)).cell? ⟨wr.heap.size,0,none⟩=some (.int .i64 (v:Nat)):=by rw[bE _ _ 0 _ _ (0,0) (fP wr _)];rfl);(have Z5:(wr.alloc (.cells #[.int .i64 (v:Nat),.int .i64 (z:Nat)] 90)).heap.size=wr.heap.size+1:=by simp);have hbG:=(aw _ (wr.alloc (.cells #[.int .i64 (v:Nat),.int .i64 (z:Nat)] 90))).alloc (ak _) (.cells #[.int .i64 (v:Nat)] 3)
   have HC8:Hid (((wr.alloc (.cells #[.int .i64 (v:Nat),.int .i64 (z:Nat)] 90)).alloc (.cells #[.int .i64 (v:Nat)] 3)).cell? ⟨wr.heap.size+1,0,none⟩=some (.int .i64 (v:Nat))):=by
    have:=(aZ (wr.alloc (.cells #[.int .i64 (v:Nat),.int .i64 (z:Nat)] 90)) 3 (.int .i64 (v:Nat))).cell;rwa [Z5] at this
   have gF:=uI.trans (hbG.ae uI.size);have acK:=hid (Fm Gu.o (zq.aa gF));have GW:=hid (oz.o.trans (gF.ae oz.o.size));have hAL:=HAL.o i;have zC:Hid (W0.heap.size<=((wr.alloc (.cells #[.int .i64 (v:Nat),.int .i64 (z:Nat)] 90)).alloc (.cells #[.int .i64 (v:Nat)] 3)).heap.size):=GW.o.size;clear uI hbG gF Z5 Gu oz HB;go_wp2_with (at_builtin;refine adk rfl _ _ rfl W0.heap.size (.slice d (AK i).length cd) (AK i) (v:Int) rfl acK.o (wr.heap.size+1) rfl HC8.o (by omega) zC.o ?_;intro av' w9 pH gX lG;have amE:=hid pH;have KC:=hid (GW.o.grown gX zC.o (fun k e=>(pE acK.o k e).1));obtain⟨n9,d9,c9,rfl⟩:∃n d c,av'=Value.slice d n c:=(sT pH).elim fun d h=>h.elim fun c e=>⟨_,d,c,e⟩;clear pH gX lG)
   go_roundw
   case rel=>exact⟨i+1,by omega,by go_num,by rw[amR.o];exact amE,KC⟩
   case measure=>simp[intOf];omega
  ·obtain rfl:i=l.length:=by omega
   rw[U8.o] at Gu;(have e1:(AK l.length).length=(r6 Q l).length:=by rw[U8.o]);rw[e1];clear e1 U8 HAS HAL OD;have jA:=hid (HST.o d _ cd W0.heap.size wr Gu.o oz.o.size);clear Gu HB HST;go_wp2_with fail
   refine jA.o.ae ?_;rintro e w2 ⟨rfl, -,A3,hb2⟩;have MU:=oz.o.trans hb2;have bq:=hid (HA.o.trans (MU.ae HA.o.size));have tS:=hid (GL.o.aa MU GL.o.lt);have fW:=hid (xI.o.aa MU xI.o.lt);have xB:=hid (tV.o d cd w2 bq.o A3);have n1:=tS.o.cells.2.1;clear A3 hb2 MU oz jA tV GL xI HA;go_wp2_with fail
   refine xB.o.ae ?_;rintro e w3 ⟨d3,cd3,rfl,A2,hb3⟩;have fA:=hid (bq.o.trans (hb3.ae bq.o.size));have HN3:=hid (tS.o.aa hb3 tS.o.lt);have lR:=hid (fW.o.aa hb3 fW.o.lt);have BP:=hid (N2.o d3 cd3 w3 fA.o A2);clear n1;obtain⟨n0,n1,n2⟩:=HN3.o.cells;clear A2 hb3 xB N2 tS fW bq;go_wp2_with fail
   refine BP.o.ae ?_;rintro e w4 ⟨G,d4,uX,t4,JH,rfl,hG4,RA,FE,hb4⟩;have kO:=hb4.alloc hb4.size (.cells #[.slice (some ⟨G,0,none⟩) V.length V.length,.slice d4 (FW 0).length uX,.slice t4 (PS 0).length JH] 87);have Bx:=(aw w4.heap.size w4).alloc (ak _) (.cells #[.slice (some ⟨G,0,none⟩) V.length V.length,.slice d4 (FW 0).length uX,.slice t4 (PS 0).length JH] 87);have fG:=hid (fA.o.trans (kO.ae fA.o.size));have Gv:=hid (lR.o.aa kO lR.o.lt);have GD:Hid (bH (w4.alloc (.cells #[.slice (some ⟨G,0,none⟩) V.length V.length,.slice d4 (FW 0).length uX,.slice t4 (PS 0).length JH] 87)) w4.heap.size (.slice (some ⟨G,0,none⟩) V.length V.length) (.slice d4 (FW 0).length uX) (.slice t4 (PS 0).length JH)):=bH.at (w:=w4) rfl _ _ _;have Ew:=hid (hG4.aa Bx);have xS:=hid (RA.aa Bx);have Gr:=hid (FE.aa Bx);have hlo:w.heap.size+1<w4.heap.size:=(lR.o.aa hb4 lR.o.lt).lt;clear hG4 RA FE hb4 kO Bx BP fA HN3 lR n0 n1 n2;go_wp2_with fail
   generalize (w4.alloc (.cells #[.slice (some ⟨G,0,none⟩) V.length V.length,.slice d4 (FW 0).length uX,.slice t4 (PS 0).length JH] 87))=W5 at *;go_loopw [43] (fun iv wr=>∃(i:Nat) (b' t':Option Addr) (gG eI:Nat),i<=l.length/\iv=.int .i64 i/\Hid (bH wr w4.heap.size (.slice (some ⟨G,0,none⟩) V.length V.length) (.slice b' (FW i).length gG) (.slice t' (PS i).length eI))/\Hid (aC wr (some ⟨G,0,none⟩) (iL (aq V)))/\Hid (aC wr b' (FW i))/\Hid (gH wr t' (PS i))/\Hid (bG wr (w.heap.size+1) (.slice none 0 0) (.slice none 0 0))/\Hid (Below w.heap.size w wr)) (fun iv _=>l.length - (intOf iv).toNat)
   case atStart=>exact⟨0,_,_,_,_,aX _,rfl,GD,Ew,xS,Gr,Gv,fG⟩
   case round=>
    obtain⟨i,b',t',gG,eI,hi,rfl,lS,HG,HI,HT,HR,HB⟩:=hrel;clear GD Ew xS Gr Gv fG;rename World=>W6
    obtain⟨p0,p1,p2⟩:=lS.o.cells;by_cases hlt2:i<l.length
    ·obtain⟨g,o,rfl,hg,k0,k1⟩:=HF.o i hlt2 W6 HB.o;have HFi:=hid (xT.o i hlt2);generalize l[i].1=v at *;generalize l[i].2=z at *;have uI:=(aw W6.heap.size W6).alloc (ak _) (.cells #[.int .i64 (v:Nat),.int .i64 (z:Nat)] 90);(have Nf:(W6.alloc (.cells #[.int .i64 (v:Nat),.int .i64 (z:Nat)] 90)).cell? ⟨W6.heap.size,0,none⟩=some (.int .i64 (v:Nat)):=by rw[bE _ _ 0 _ _ (0,0) (fP W6 _)];rfl);(have S9:(W6.alloc (.cells #[.int .i64 (v:Nat),.int .i64 (z:Nat)] 90)).cell? ⟨W6.heap.size,1,none⟩=some (.int .i64 (z:Nat)):=by rw[bE _ _ 1 _ _ (0,0) (fP W6 _)];rfl);have N3:=hid (lS.o.aa uI lS.o.lt);have Oo:=hid (HG.o.aa uI);have nj:=hid (HR.o.aa uI HR.o.lt);have cP:=hid (HB.o.trans (uI.ae HB.o.size));have HX:=hid (HFi.o (some ⟨G,0,none⟩) b' t' V.length gG eI _ Oo.o (HI.o.aa uI) (HT.o.aa uI));clear p0 p1 p2 lS HG HI HT HR HB HFi uI;obtain⟨p0,p1,p2⟩:=N3.o.cells;go_wp2_with fail
     refine HX.o.ae ?_;rintro e w7 ⟨d7,zl,t7,Gb,rfl,I1,FD,hn7,ed⟩;have y7:=N3.o.aa ed N3.o.lt;have DN:=nj.o.aa ed nj.o.lt;have Bq:=cP.o.trans (ed.ae cP.o.size);have hG7:=Oo.o.aa ed;have Rt:=N3.o.lt;clear p0 p1 p2 Nf S9 k0 k1;obtain⟨p0,p1,p2⟩:=y7.cells;have Lz:=y7.fz 0;have Lx:=y7.fz 1;have Lv:=y7.fz 2;have Un:=hid (y7.put (.slice (some ⟨G,0,none⟩) V.length V.length) (.slice d7 (FW (i+1)).length zl) (.slice t7 (PS (i+1)).length Gb));have HG8:=hid (hG7.putP y7 (slv _ _ _) (slv _ _ _) (slv _ _ _) (.slice (some ⟨G,0,none⟩) V.length V.length) (.slice d7 (FW (i+1)).length zl) (.slice t7 (PS (i+1)).length Gb));have HI8:=hid (I1.putP y7 (slv _ _ _) (slv _ _ _) (slv _ _ _) (.slice (some ⟨G,0,none⟩) V.length V.length) (.slice d7 (FW (i+1)).length zl) (.slice t7 (PS (i+1)).length Gb));have HT8:=hid (FD.putP y7 (slv _ _ _) (slv _ _ _) (slv _ _ _) (fun g' o' e=>by have:=hn7.2 g' o' e;omega) (slv (some ⟨G,0,none⟩) V.length V.length) (slv d7 (FW (i+1)).length zl) (.slice t7 (PS (i+1)).length Gb));have HR8:=hid (((DN.off w4.heap.size 0 (.slice (some ⟨G,0,none⟩) V.length V.length) (by omega)).off w4.heap.size 1 (.slice d7 (FW (i+1)).length zl) (by omega)).off w4.heap.size 2 (.slice t7 (PS (i+1)).length Gb) (by omega));have GW:=hid (df Bq (show w.heap.size<=w4.heap.size by omega) (.slice (some ⟨G,0,none⟩) V.length V.length) (.slice d7 (FW (i+1)).length zl) (.slice t7 (PS (i+1)).length Gb));clear I1 FD hn7 ed y7 DN Bq hG7 HX;go_wp2;go_roundw
     case rel=>exact⟨i+1,_,_,_,_,by omega,by go_num,Un,HG8,HI8,HT8,HR8,GW⟩
     case measure=>simp[intOf];omega
    ·obtain rfl:i=l.length:=by omega
     have Uo:=hid (HON.o (some ⟨G,0,none⟩) b' t' V.length gG eI W6 HB.o HG.o HI.o HT.o);go_wp2_with fail
     refine Uo.o.ae ?_;rintro e w7 ⟨x,y,rfl,Mf,ed⟩;obtain⟨xs,xn,xc,rfl⟩:=Mf.slices.1;obtain⟨ys,yn,yc,rfl⟩:=Mf.slices.2;have DN:=HR.o.aa ed HR.o.lt;have Bq:=HB.o.trans (ed.ae HB.o.size);obtain⟨t0,t1,f0,f1⟩:=DN.facts;have HP9:=hid (DN.put (.slice xs xn xc) (.slice ys yn yc));have T3:=hid (Mf.putT DN (slv _ _ _) (slv _ _ _) (slv xs xn xc) (.slice ys yn yc));have KC:=hid (tI (g:=w.heap.size+1) Bq (by omega) (.slice xs xn xc) (.slice ys yn yc));clear Mf ed DN Bq p0 p1 p2;go_wp2;refine dh (HP9.o.result1 rfl _ rfl) rfl ?_;exact⟨_,_,rfl,T3.o,KC.o⟩
variable {F:List (Int×Int)} {a:Option Addr} {w':World}
structure Gk (w:World) (a b c:Option Addr) (V:List Vr) (L:List (List Int)) (R:List (List Fr)):Prop where
 net:jx w a b c V L R
 ls:tJ w b L
 sm:vr V L R
 wt:∀l∈R,fw l<=4200
 lt:vM V R
 few:bA V L R=0 ->cnt (aq V) (List.range V.length)<=800
theorem Gk.aa {b c:Option Addr} {V:List Vr} (h:Gk w a b c V L R) (hb:Below w.heap.size w w'):Gk w' a b c V L R:=⟨h.net.aa hb,h.ls.aa h.net.pars hb,h.sm,h.wt,h.lt,h.few⟩
def nF (F:List (Int×Int)):List (Nat×Nat):=F.map fun p=>(p.1.toNat,p.2.toNat)
theorem YN (l:List (Nat×Nat)):nF (zF l)=l:=by
 rw[nF,zF,Ae];refine(vT fun p _=>?_).trans (List.map_id l);show (((p.1:Int).toNat),((p.2:Int).toNat))=p;simp
theorem akB {V:List Vr} (h:od V L R F=0):bA V L R=0/\F=zF (nF F)/\kB (aq V) V.length (nF F):=by
 obtain⟨h0,l,rfl,hl⟩:=akA h;rw[YN];exact⟨h0,rfl,hl⟩
def yC (V:List Vr) (L:List (List Int)) (R:List (List Fr)) (F:List (Int×Int)):Fr:=if od V L R F=0 then qF (ei V L R (nF F)) else(false,⟨#[]⟩,⟨#[]⟩)
theorem adR (V:List Vr) (L:List (List Int)) (R:List (List Fr)) (l:List (Nat×Nat)):Ht V L R [] l=([],[qF (ei V L R l)]):=rfl
theorem aiv (a b c f:Option Addr) (ca cb cc cf:Nat) (V:List Vr) (L:List (List Int)) (R:List (List Fr)) (F:List (Int×Int)) (w:World) (h:Gk w a b c V L R) (hF:ny w f F) (hn:F.length<=1000) (hcf:F.length<=cf):
  Calls Tryz.prog 8 #[.agg #[.slice a V.length ca,.slice b L.length cb,.slice c R.length cc],.slice f F.length cf] w fun e w'=>e=.returned (.tuple #[fh (yC V L R F),.int .i64 (od V L R F)])/\Below w.heap.size w w':=by
 have HFK:=hid (fun (U:World) (hU:Below w.heap.size w U)=>aii a b c f ca cb cc cf V L R F U (h.net.aa hU) h.sm (hF.aa hU) hn hcf)
 have vE:Hid (od V L R F=0 ->∀U:World,Below w.heap.size w U ->Calls Tryz.prog 33 #[.agg #[.slice a V.length ca,.slice b L.length cb,.slice c R.length cc],.slice none 0 0,.slice f F.length cf] U fun e w'=>∃(x:Value) (g o cg:Nat),e=.returned (.agg #[x,.slice (some ⟨g,o,none⟩) 1 cg])/\w'.cell? ⟨g,o,none⟩=some (.bool (yC V L R F).1)/\w'.cell? ⟨g,o+1,none⟩=some (.string (yC V L R F).2.1)/\w'.cell? ⟨g,o+2,none⟩=some (.string (yC V L R F).2.2)/\dA x/\Below U.heap.size U w'):=fun e U hU=>by
  obtain⟨h0,hz,hl⟩:=akB e;have h1:=hF.aa hU;rw[hz] at h1;have hU4:=h.aa hU;have:=aiu a b c none f ca cb cc 0 cf V L R [] (nF F) U hU4.net hU4.ls h.sm h.wt h0 h.lt (fun k hk=>absurd hk (by simp)) ⟨fun i hi=>absurd hi (by simp),fun i j hj=>absurd hj (by simp)⟩ h1 hl (fun v hv=>by cases hv) (fun U' hU'=>abX a b c ca cb cc V L R U' hU' h.sm);rw[<- sL, <- hz,adR] at this;refine this.ae fun e' w' hh=>?_;obtain⟨x,y,h2,⟨b',c',gG,r5,h3,h4,_,h5,_⟩,h6⟩:=hh;obtain⟨g,o,h7,_,h8,h9,h10⟩:=h5 0 (by simp);rw[yC,aB e];refine⟨x,g,o,r5,by rw[h2,h4,h7];rfl,?_,?_,?_,⟨_,_,_,h3⟩,h6⟩
  ·rw[mQ,gg] at h8;exact h8
  ·rw[mQ,gg] at h9;exact h9
  ·rw[mQ,gg] at h10;exact h10
 have xV:Hid (od V L R F≠0 ->yC V L R F=(false,⟨#[]⟩,⟨#[]⟩)):=fun e=>aD e;generalize yC V L R F=pf at *;generalize od V L R F=fe at *;clear h hF hcf;have je:=hid (LK.new w (.slice a V.length ca) (.slice b L.length cb) (.slice c R.length cc));obtain⟨c0,c1,c2⟩:=je.o.1.1.cells;go_enter Tryz.func8,Tryz.ntmps8;go_wp2_with fail
 generalize ((w.alloc (NC (.slice a V.length ca) (.slice b L.length cb) (.slice c R.length cc))).alloc (FC false ⟨#[]⟩ ⟨#[]⟩))=w1 at *;refine(HFK.o _ je.o.1.2).ae ?_;rintro e w2 ⟨rfl,hb⟩;have hK:=je.o.step hb;clear hb je c0 c1 c2 HFK;by_cases lH:fe=0
 ·subst lH;have HP:=hid (vE.o rfl);have HK:=hid hK;obtain⟨c0,c1,c2⟩:=hK.1.1.cells;clear xV vE hK;obtain⟨pn,px,py⟩:=pf;go_wp2_with fail
  refine(HP.o _ HK.o.1.2).ae ?_;rintro e w6 ⟨x,g,o,cg,rfl,q0,q1,q2,⟨xa,xn,xc,rfl⟩,hb⟩;have Sv:=HK.o.step hb;obtain⟨k0,k1,k2,f0,f1,f2⟩:=Sv.2.facts;have jt:=Sv.2.put pn px py;have Ja:=df Sv.1.2 (show w.heap.size<=w.heap.size+1 by omega) (.bool pn) (.string px) (.string py);have hfd:∀U:World,(Instr.field 39 (.agg #[.slice xa xn xc,.slice (some ⟨g,o,none⟩) 1 cg]) 1).run Tryz.prog U=.ok (.slice (some ⟨g,o,none⟩) 1 cg) U:=fun _=>by kernel_rfl
  clear hb c0 c1 c2;go_wp2;refine dh (jt.result2 rfl _ rfl) rfl ?_;exact⟨rfl,Ja⟩
 ·have HQ:=hid (xV.o lH);have uA:(fe==0)=false:=by simpa using lH
  obtain⟨k0,k1,k2,f0,f1,f2⟩:=hK.2.facts;have jt:=hK.2.put false ⟨#[]⟩ ⟨#[]⟩;have Ja:=df hK.1.2 (show w.heap.size<=w.heap.size+1 by omega) (.bool false) (.string ⟨#[]⟩) (.string ⟨#[]⟩);clear lH vE xV;go_wp2;refine dh (jt.result2 rfl _ rfl) rfl ?_;exact⟨by rw[HQ.o];rfl,Ja⟩
theorem Ps:∀l:List Fr,l.length+sw l<=fw l
 |[]=>ak _
 |f::l=>by
  have:=Ps l;rw[di,sw,fw];omega
theorem Vx (h:∀l∈R,fw l<=400):∀us:List Nat,wR R us<=400*us.length
 |[]=>ak _
 |v::vs=>by
  have h1:=Vx h vs
  have h2:(R.getD v []).length+sw (R.getD v [])<=400:=by
   by_cases hv:v<R.length
   ·rw[b6,ba hv];exact aM (Ps _) (h _ (bY hv))
   ·rw[b6,ig (by omega)];exact aM (Ps _) (by decide)
  rw[wR,di];omega
theorem NM.lite {V:List Vr} (h:NM V L R):vM V R:=by
 have h1:=abx R (List.range V.length);have h2:=Vx h.light (List.range V.length);have h3:=h.six;rw[Cz] at h2;show (B (gQ R (List.range V.length))).size<=4000;omega
theorem NM.ni4 {V:List Vr} (h:NM V L R) {b c:Option Addr} (hn:jx w a b c V L R) (hl:tJ w b L):Gk w a b c V L R:=
 ⟨hn,hl,h.small,fun l kj=>by have:=h.light l kj;omega,h.lite,fun _=>by have:=ald h;omega⟩
theorem XA {V:List Vr} (h0:bA V L R=0) {l:List (Nat×Nat)} (hl:kB (aq V) V.length l):od V L R (zF l)=0/\yC V L R (zF l)=qF (ei V L R l):=by
 have e:od V L R (zF l)=0:=by
  rw[od,aB h0];refine zj fun j hj=>?_;have hj':j<l.length:=by rw[sL] at hj;exact hj
  have hm:=bY hj';have e1:(zF l)[j]=((l[j].1:Int),(l[j].2:Int)):=by simp[zF]
  have h1:=hl.lt _ hm;have h2:=hl.val _ hm;refine abq hj (by rw[e1];exact⟨KZ _,by show ((l[j].1:Nat):Int)<_;omega⟩) (by rw[e1];exact⟨KZ _,by show ((l[j].2:Nat):Int)<((sz (aq V) ((l[j].1:Nat):Int).toNat:Nat):Int);rw[nH];omega⟩) ?_;rw[List.any_eq_false];intro p hp;obtain⟨i,hi,rfl⟩:=jg hp;rw[eB,sL] at hi;have qD:i<l.length:=by omega
  have e2:((zF l).take j)[i]'(by rw[eB,sL];omega)=((l[i].1:Int),(l[i].2:Int)):=by rw[Af];simp[zF]
  rw[e1,e2];have iC:=vS.1 hl.nd i j (by simpa using qD) (by simpa using hj') (by omega);simp only[nE] at iC;intro he;have he':((l[i].1:Nat):Int)=((l[j].1:Nat):Int):=by simpa using he
  exact iC (by omega)
 refine⟨e,?_⟩;rw[yC,aB e,YN]
def pG (L:List (List Int)) (i:Nat):Nat:=((L.take i).map List.length).sum
theorem Zl (h:i<L.length):pG L (i+1)=pG L i+L[i].length:=by
 rw[pG,pG,gh h,dY,List.sum_append];simp
theorem YX:∀ {l:List Nat} {x:Nat},x∈l ->x<=l.sum
 |y::l,x,h=>by
  rw[List.sum_cons];rcases cT.1 h with rfl |h
  ·omega
  ·have:=YX h;omega
theorem aia (h:pG L L.length<=512):∀l∈L,l.length<=512:=fun l hl=>by
 rw[pG,iR] at h;have:l.length<=(L.map List.length).sum:=YX (aU.2 ⟨l,hl,rfl⟩);omega
theorem Zk (hl:∀l∈L,l.length<=140737488355328):∀i,i<=L.length ->pG L i<=i*140737488355328
 |0,_=>by simp[pG]
 |i+1,hi=>by
  have:=Zk hl i (by omega);have:=hl _ (bY (show i<L.length by omega));rw[Zl (by omega)];omega
theorem V4 (a:Option Addr) (ca:Nat) (L:List (List Int)) (w:World) (h:dT w a L) (hl:∀l∈L,l.length<=140737488355328) (hL:L.length<=8):
  Calls Tryz.prog 29 #[.slice a L.length ca] w fun e w'=>∃q,e=.returned (.bool q)/\(q=false ->∀l∈L,l.length<=512)/\w'=w:=by
 have HF:=hid h;have HL:=hid hl;have zA:Hid (pG L 0=0):=by show _=_;simp[pG]
 have xD:Hid (∀i (h:i<L.length),pG L (i+1)=pG L i+L[i].length):=fun i h=>Zl h;have qW:Hid (pG L L.length<=512 ->∀l∈L,l.length<=512):=fun h=>aia h;have HTU:Hid (∀i,i<=L.length ->pG L i<=i*140737488355328):=Zk hl;clear h hl;generalize pG L=T at *;go_enter Tryz.func29,Tryz.ntmps29;go_wp2_with fail
 go_loopw [3,4] (fun nv iv wr=>∃i:Nat,i<=L.length/\iv=.int .i64 i/\nv=.int .i64 (T i:Nat)/\wr=w) (fun _ iv _=>L.length - (intOf iv).toNat)
 case atStart=>exact⟨0,aX _,rfl,by rw[zA.o];rfl,rfl⟩
 case round=>
  obtain⟨i,hi,rfl,rfl,rfl⟩:=hrel;have yO:=HTU.o i hi;by_cases qD:i<L.length
  ·obtain⟨g,o,b,c,rfl,hg,c0, -⟩:=HF.o i qD;have hli:=HL.o _ (bY qD);have HS:=hid (xD.o i qD);generalize L[i].length=li at *;generalize hT:T i=Ti at *;clear hT;go_wp2_with fail
   go_roundw
   case rel=>exact⟨i+1,by omega,by go_num,by rw[HS.o];go_num,by first |rfl |trivial⟩
   case measure=>simp[intOf];omega
  ·obtain rfl:i=L.length:=by omega
   by_cases ur:T L.length<=512
   ·have HE:=hid (qW.o ur);generalize hT:T L.length=Ti at *;clear hT;go_wp2;go_ret;exact⟨false,by simp<;>omega,fun _=>HE.o,rfl⟩
   ·generalize hT:T L.length=Ti at *;clear hT;go_wp2;go_ret;exact⟨true,by simp<;>omega,(fun h=>by cases h),rfl⟩
theorem akm {bx kS bz bu:Option Addr} {cx cy cz cu:Nat} {x y z u:List Int} (hx:aC U bx x) (hy:aC U kS y) (hz:aC U bz z) (hu:aC U bu u):dT (U.alloc (.cells #[.slice bx x.length cx,.slice kS y.length cy,.slice bz z.length cz,.slice bu u.length cu] 27)) (some ⟨U.heap.size,0,none⟩) [x,y,z,u]:=fun k hk=>by
 have hA:=(aw U.heap.size U).alloc (ak _) (.cells #[.slice bx x.length cx,.slice kS y.length cy,.slice bz z.length cz,.slice bu u.length cu] 27);have hnew:=fP U (.cells #[.slice bx x.length cx,.slice kS y.length cy,.slice bz z.length cz,.slice bu u.length cu] 27);have hlt:=(cV.1 hnew).1;match k,hk with
 |0,_=>exact⟨_,0,bx,cx,rfl,hlt,by rw[bE _ U.heap.size _ _ _ (0,0) hnew];rfl,hx.aa hA⟩
 |1,_=>exact⟨_,0,kS,cy,rfl,hlt,by rw[bE _ U.heap.size _ _ _ (0,0) hnew];rfl,hy.aa hA⟩
 |2,_=>exact⟨_,0,bz,cz,rfl,hlt,by rw[bE _ U.heap.size _ _ _ (0,0) hnew];rfl,hz.aa hA⟩
 |3,_=>exact⟨_,0,bu,cu,rfl,hlt,by rw[bE _ U.heap.size _ _ _ (0,0) hnew];rfl,hu.aa hA⟩
theorem aea (a1 a2 a3:Option Addr) (c1 c2 c3:Nat) (L1 L2 L3:List Int) (bk:Bool) (w:World) (h1:aC w a1 L1) (h2:aC w a2 L2) (h3:aC w a3 L3) (l1:L1.length<=140737488355328) (l2:L2.length<=140737488355328) (l3:L3.length<=140737488355328):
  Calls Tryz.prog 28 #[.agg #[.slice a1 L1.length c1,.slice a2 L2.length c2,.slice a3 L3.length c3,.bool bk]] w fun e w'=>∃q,e=.returned (.bool q)/\Below w.heap.size w w':=by
 have nV:(w.alloc (.cells #[.slice a1 L1.length c1,.slice a2 L2.length c2,.slice a3 L3.length c3,.bool bk] 48)).heap[w.heap.size]? =some (.cells #[.slice a1 L1.length c1,.slice a2 L2.length c2,.slice a3 L3.length c3,.bool bk] 48 (0,0)):=fP w _;have q0:(w.alloc (.cells #[.slice a1 L1.length c1,.slice a2 L2.length c2,.slice a3 L3.length c3,.bool bk] 48)).cell? ⟨w.heap.size,0,none⟩=some (.slice a1 L1.length c1):=by rw[bE _ _ _ _ _ (0,0) nV];rfl
 have q1:(w.alloc (.cells #[.slice a1 L1.length c1,.slice a2 L2.length c2,.slice a3 L3.length c3,.bool bk] 48)).cell? ⟨w.heap.size,1,none⟩=some (.slice a2 L2.length c2):=by rw[bE _ _ _ _ _ (0,0) nV];rfl
 have q2:(w.alloc (.cells #[.slice a1 L1.length c1,.slice a2 L2.length c2,.slice a3 L3.length c3,.bool bk] 48)).cell? ⟨w.heap.size,2,none⟩=some (.slice a3 L3.length c3):=by rw[bE _ _ _ _ _ (0,0) nV];rfl
 have hb0:Below w.heap.size w (w.alloc (.cells #[.slice a1 L1.length c1,.slice a2 L2.length c2,.slice a3 L3.length c3,.bool bk] 48)):=(aw _ w).alloc (ak _) _;have ow:=hid (VU (cx:=c1) (cy:=c2) (cz:=c3) (h1.aa hb0) (h2.aa hb0) (h3.aa hb0));have cP:=hid (hb0.trans (((aw _ _).alloc (ak _) (.cells #[.slice a1 L1.length c1,.slice a2 L2.length c2,.slice a3 L3.length c3] 27)).ae hb0.size))
 have Om:Hid (∀(G:Nat) (U:World),dT U (some ⟨G,0,none⟩) [L1,L2,L3] ->Calls Tryz.prog 29 #[.slice (some ⟨G,0,none⟩) 3 3] U fun e w'=>∃q,e=.returned (.bool q)/\w'=U):=fun G U hU=>(V4 (some ⟨G,0,none⟩) 3 [L1,L2,L3] U hU (fun l hl=>by
  simp only[cT,iT,oC] at hl;rcases hl with rfl |rfl |rfl<;>assumption) (by simp)).ae fun e w' ⟨q,h,_,h'⟩=>⟨q,h,h'⟩
 rw[show (w.alloc (.cells #[.slice a1 L1.length c1,.slice a2 L2.length c2,.slice a3 L3.length c3,.bool bk] 48)).heap.size=w.heap.size+1 by simp] at ow;clear h1 h2 h3 l1 l2 l3 nV hb0;go_enter Tryz.func28,Tryz.ntmps28;go_wp2_with fail
 refine(Om.o _ _ ow.o).ae ?_;rintro e w2 ⟨q,rfl,rfl⟩;clear q0 q1 q2;go_wp2;go_ret;exact⟨q,rfl,cP.o⟩
variable {neg:Bool} {den num:ByteArray} {fx fy:List (Nat×Nat)} {ca cb cc g:Nat} {p q:Rat} {W':World}
structure TS (w W:World) (B:Nat) (a b c:Option Addr) (ca cb cc:Nat) (V:List Vr) (L:List (List Int)) (R:List (List Fr)):Prop where
 box:dr W B (.slice a V.length ca) (.slice b L.length cb) (.slice c R.length cc)
 net:Gk W a b c V L R
 fr:Below w.heap.size w W
theorem TS.step {W:World} {B:Nat} {b c:Option Addr} {V:List Vr} (h:TS w W B a b c ca cb cc V L R) (hb:Below W.heap.size W W'):TS w W' B a b c ca cb cc V L R:=
 ⟨h.box.aa hb h.box.lt,h.net.aa hb,h.fr.trans (hb.ae h.fr.size)⟩
theorem yu {M:List Int} (h:Up l n):Up (gm l M) n:=
 fK.2 ⟨fun x hx=>(fK.1 h).1 x (cJ.1 hx).1,(fK.1 h).2.filter _⟩
theorem VF (h:Up l n) (hn:n<=6):l.length<=6:=by have:=h.length;omega
theorem alY {x y z:List Int} (hx:Up x n) (hy:Up y n) (hz:Up z n):ia n [x,gm y x,gm (gm z x) (gm y x)]=true:=by
 have hr:gR [x,gm y x,gm (gm z x) (gm y x)] n=true:=by
  rw[gR,dN];intro l hl;simp only[cT,iT,oC] at hl;rcases hl with rfl |rfl |rfl
  ·exact Hm hx
  ·exact Hm (yu hy)
  ·exact Hm (yu (yu hz))
 have hmem:∀ {l M:List Int} {v:Int},v∈gm l M ->v∈l/\¬v∈M:=fun {l M v} h=>by
  obtain⟨h1,h2⟩:=cJ.1 h;refine⟨h1,fun hm=>?_⟩;rw[air.2 hm] at h2;cases h2
 rw[ia,hr,Ak,dQ];simp only[List.flatten_cons,List.flatten_nil,l8,ue,bL];refine⟨EW hx,⟨EW (yu hy),EW (yu (yu hz)),fun u hu v hv e=>?_⟩,fun u hu v hv e=>?_⟩
 ·subst e;exact(hmem hv).2 hu
 ·subst e;rcases hv with hv |hv
  ·exact(hmem hv).2 hu
  ·exact(hmem (hmem hv).1).2 hu
theorem ako {V:List Vr} {l:List (Nat×Nat)} {u:List Nat} (e:l.map (·.1)=u) (hn:u.Nodup) (hlt:∀v∈u,v<V.length) (hv:∀p∈l,p.2<sz (aq V) p.1):kB (aq V) V.length l:=
 ⟨by rw[e];exact hn,fun p hp=>hlt p.1 (by rw[<- e];exact aU.2 ⟨p,hp,rfl⟩),hv⟩
theorem kB.sub {l m:List (Nat×Nat)} (h:kB S n l) (hs:m.Sublist l):kB S n m:=⟨h.nd.sublist (hs.map _),fun p hp=>h.lt p (hs.subset hp),fun p hp=>h.val p (hs.subset hp)⟩
theorem akn {V:List Vr} {x y z:List Int} (hap:ia V.length [x,y,z]=true) {fz:List (Nat×Nat)} (ex:fx.map (·.1)=af x) (ey:fy.map (·.1)=af y) (ez:fz.map (·.1)=af z) (vx:∀p∈fx,p.2<sz (aq V) p.1) (vy:∀p∈fy,p.2<sz (aq V) p.1) (vz:∀p∈fz,p.2<sz (aq V) p.1):
  kB (aq V) V.length (fx++fy++fz)/\kB (aq V) V.length (fx++fz)/\kB (aq V) V.length (fy++fz)/\kB (aq V) V.length fz:=by
 rw[ia,fD,dQ] at hap;obtain⟨hr,hn⟩:=hap;have aT:∀l∈[x,y,z],Up l V.length:=fun l hl=>kK (dN.1 hr l hl);have e:(fx++fy++fz).map (·.1)=af (x++(y++z)):=by rw[dY,dY,ex,ey,ez,VT,VT,jh]
 have hn':(x++(y++z)).Nodup:=by simpa using hn
 have hmem:∀v∈x++(y++z),0<=v/\v<V.length:=fun v hv=>by
  rcases bL.1 hv with hv |hv
  ·exact Ap (aT x (by simp)) hv
  ·rcases bL.1 hv with hv |hv
   ·exact Ap (aT y (by simp)) hv
   ·exact Ap (aT z (by simp)) hv
 have h1:kB (aq V) V.length (fx++fy++fz):=by
  refine ako e ?_ (fun v hv=>?_) (fun p hp=>?_)
  ·rw[af];refine yh.2 (hn'.imp_of_mem fun {a b} ha hb hab=>?_);have:=hmem a ha;have:=hmem b hb;omega
  ·obtain⟨u,hu,rfl⟩:=aU.1 hv;have:=hmem u hu;omega
  ·rcases bL.1 hp with hp |hp
   ·rcases bL.1 hp with hp |hp
    ·exact vx p hp
    ·exact vy p hp
   ·exact vz p hp
 refine⟨h1,h1.sub ?_,h1.sub ?_,h1.sub ?_⟩
 ·exact List.Sublist.append_right (List.sublist_append_left _ _) _
 ·exact List.Sublist.append_right (List.sublist_append_right _ _) _
 ·exact List.sublist_append_right _ _
theorem WZ {P:Program} {c:Code} {a:Act} (T:Act ->Exit ->Act ->World ->Prop) (h:c.wp P (T a) a w) (hm:∀e a' w',T a e a' w' ->Q e a' w'):c.wp P Q a w:=Code.wp_mono hm h
theorem aL.three (h:aL w g neg num den):w.cell? ⟨g,0,none⟩=some (.bool neg)/\w.cell? ⟨g,1,none⟩=some (.string num)/\w.cell? ⟨g,2,none⟩=some (.string den):=⟨h.c0,h.c1,h.c2⟩
theorem YQ (hp:qw p<=8003) (hq:qw q<=8003) (U:World):Calls Tryz.prog 26 #[fh (qF p),fh (qF q)] U fun e w'=>e=.returned (fh (qF (p*q)))/\Below U.heap.size U w':=by
 have h:=Xi (cI p) (cI q) (nu p) (de p) (nu q) (de q) U (by rw[sU];omega) (by rw[sU];omega);rw[rF,rF] at h;exact h
theorem vZ (l m:List (Nat×Nat)):zF (l++m)=zF l++zF m:=dY
theorem adP (a1 a2 a3 ax ay az av:Option Addr) (c1 c2 c3 cx cy cz cv:Nat) (L1 L2 L3 x y z K:List Int) (bk:Bool) (w:World) (h1:aC w a1 L1) (h2:aC w a2 L2) (h3:aC w a3 L3) (hx:aC w ax x) (hy:aC w ay y) (hz:aC w az z) (hv:aC w av K) (r1:si L1) (r2:si L2) (r3:si L3) (rx:si x) (ry:si y) (rz:si z) (rv:si K):
  Calls Tryz.prog 6 #[.agg #[.slice a1 L1.length c1,.slice a2 L2.length c2,.slice a3 L3.length c3,.bool bk],.slice ax x.length cx,.slice ay y.length cy,.slice az z.length cz,.slice av K.length cv] w fun e w'=>e=.returned (.bool true)/\Below w.heap.size w w':=by
 have HMD:=hid (fun (U:World) (hB:Below w.heap.size w U)=>ahX a1 a2 a3 c1 c2 c3 L1 L2 L3 bk U (h1.aa hB) (h2.aa hB) (h3.aa hB) r1 r2 r3);have HHR:=hid (fun (U:World) (hB:Below w.heap.size w U)=>aea a1 a2 a3 c1 c2 c3 L1 L2 L3 bk U (h1.aa hB) (h2.aa hB) (h3.aa hB) r1.1 r2.1 r3.1);have ow:Hid (∀U:World,Below w.heap.size w U ->dT (U.alloc (.cells #[.slice ax x.length cx,.slice ay y.length cy,.slice az z.length cz,.slice av K.length cv] 27)) (some ⟨U.heap.size,0,none⟩) [x,y,z,K]):=fun U hU=>akm (hx.aa hU) (hy.aa hU) (hz.aa hU) (hv.aa hU)
 have Om:Hid (∀(G:Nat) (U:World),dT U (some ⟨G,0,none⟩) [x,y,z,K] ->Calls Tryz.prog 29 #[.slice (some ⟨G,0,none⟩) 4 4] U fun e w'=>∃q,e=.returned (.bool q)/\(q=false ->x.length<=512/\y.length<=512/\z.length<=512/\K.length<=512)/\w'=U):=fun G U hU=>(V4 (some ⟨G,0,none⟩) 4 [x,y,z,K] U hU (fun l hl=>by
  simp only[cT,iT,oC] at hl;rcases hl with rfl |rfl |rfl |rfl
  ·exact rx.1
  ·exact ry.1
  ·exact rz.1
  ·exact rv.1) (by simp)).ae fun e w' ⟨q,h,h',h''⟩=>⟨q,h,fun e=>⟨h' e x (by simp),h' e y (by simp),h' e z (by simp),h' e K (by simp)⟩,h''⟩
 have nV:(w.alloc (.cells #[.slice a1 L1.length c1,.slice a2 L2.length c2,.slice a3 L3.length c3,.bool bk] 48)).heap[w.heap.size]? =some (.cells #[.slice a1 L1.length c1,.slice a2 L2.length c2,.slice a3 L3.length c3,.bool bk] 48 (0,0)):=fP w _;have q0:(w.alloc (.cells #[.slice a1 L1.length c1,.slice a2 L2.length c2,.slice a3 L3.length c3,.bool bk] 48)).cell? ⟨w.heap.size,0,none⟩=some (.slice a1 L1.length c1):=by rw[bE _ _ _ _ _ (0,0) nV];rfl
 have q1:(w.alloc (.cells #[.slice a1 L1.length c1,.slice a2 L2.length c2,.slice a3 L3.length c3,.bool bk] 48)).cell? ⟨w.heap.size,1,none⟩=some (.slice a2 L2.length c2):=by rw[bE _ _ _ _ _ (0,0) nV];rfl
 have q2:(w.alloc (.cells #[.slice a1 L1.length c1,.slice a2 L2.length c2,.slice a3 L3.length c3,.bool bk] 48)).cell? ⟨w.heap.size,2,none⟩=some (.slice a3 L3.length c3):=by rw[bE _ _ _ _ _ (0,0) nV];rfl
 have q3:(w.alloc (.cells #[.slice a1 L1.length c1,.slice a2 L2.length c2,.slice a3 L3.length c3,.bool bk] 48)).cell? ⟨w.heap.size,3,none⟩=some (.bool bk):=by rw[bE _ _ _ _ _ (0,0) nV];rfl
 have hb0:Below w.heap.size w (w.alloc (.cells #[.slice a1 L1.length c1,.slice a2 L2.length c2,.slice a3 L3.length c3,.bool bk] 48)):=(aw _ w).alloc (ak _) _;have uC:w.heap.size<(w.alloc (.cells #[.slice a1 L1.length c1,.slice a2 L2.length c2,.slice a3 L3.length c3,.bool bk] 48)).heap.size:=by simp
 have HRX:=hid rx.2;have HRY:=hid ry.2;have Ug:=hid rz.2;have vB:=hid rv.2;have HX:=hid hx;have HY:=hid hy;have HZ:=hid hz;have HV:=hid hv;clear h1 h2 h3 hx hy hz hv r1 r2 r3 rx ry rz rv nV;go_enter Tryz.func6,Tryz.ntmps6;go_wp2_with fail
 generalize (w.alloc (.cells #[.slice a1 L1.length c1,.slice a2 L2.length c2,.slice a3 L3.length c3,.bool bk] 48))=W0 at *;refine(HHR.o _ hb0).ae ?_;rintro e W1 ⟨q,rfl,hb1⟩;have cP:=hid (hb0.trans (hb1.ae hb0.size))
 have HQC:Hid (∀U:World,Below W1.heap.size W1 U ->U.cell? ⟨w.heap.size,0,none⟩=some (.slice a1 L1.length c1)/\U.cell? ⟨w.heap.size,1,none⟩=some (.slice a2 L2.length c2)/\U.cell? ⟨w.heap.size,2,none⟩=some (.slice a3 L3.length c3)/\U.cell? ⟨w.heap.size,3,none⟩=some (.bool bk)):=fun U hU=>by
  have iJ:=aR uC hb1.size;exact⟨(hU.cell (p:=⟨w.heap.size,0,none⟩) iJ).trans ((hb1.cell (p:=⟨w.heap.size,0,none⟩) uC).trans q0),(hU.cell (p:=⟨w.heap.size,1,none⟩) iJ).trans ((hb1.cell (p:=⟨w.heap.size,1,none⟩) uC).trans q1),(hU.cell (p:=⟨w.heap.size,2,none⟩) iJ).trans ((hb1.cell (p:=⟨w.heap.size,2,none⟩) uC).trans q2),(hU.cell (p:=⟨w.heap.size,3,none⟩) iJ).trans ((hb1.cell (p:=⟨w.heap.size,3,none⟩) uC).trans q3)⟩
 clear q0 q1 q2 q3 hb0 hb1 uC HHR;cases q with
 |true=>
  go_wp2;go_ret;exact⟨rfl,cP.o⟩
 |false=>
  have uT:Below W1.heap.size W1 (W1.alloc (.cells #[.slice ax x.length cx,.slice ay y.length cy,.slice az z.length cz,.slice av K.length cv] 27)):=(aw _ W1).alloc (ak _) _;have bq:=hid (cP.o.trans (uT.ae cP.o.size));have mN:=hid (ow.o W1 cP.o);have xJ:=hid (HQC.o _ uT);clear ow cP HQC uT;go_wp2_with fail
  generalize (W1.alloc (.cells #[.slice ax x.length cx,.slice ay y.length cy,.slice az z.length cz,.slice av K.length cv] 27))=W2 at *;refine(Om.o _ _ mN.o).ae ?_;rintro e W3 ⟨q,rfl,hq,rfl⟩;clear mN Om;cases q with
  |true=>
   clear hq;go_wp2;go_ret;exact⟨rfl,bq.o⟩
  |false=>
   obtain⟨lx,ly,lz,lv⟩:=hq rfl;obtain⟨q0,q1,q2,q3⟩:=xJ.o;clear hq xJ;go_wp2_with fail
   refine(HMD.o _ bq.o).ae ?_;rintro e W4 ⟨a,b,c,ca,cb,cc,V,L,R,rfl,hN,hLN,oX,hb4⟩;clear q0 q1 q2 q3 HMD;have eO:=oX.one;have yX:=oX.six;have aV:=kL oX.ok;have dO:=bq.o.trans (hb4.ae bq.o.size);have aO:Below W4.heap.size W4 (W4.alloc (NC (.slice a V.length ca) (.slice b L.length cb) (.slice c R.length cc))):=(aw _ W4).alloc (ak _) _;have bB:=dr.at (w:=W4) rfl (.slice a V.length ca) (.slice b L.length cb) (.slice c R.length cc);have HS:=hid (show TS w _ _ a b c ca cb cc V L R from ⟨bB,(oX.ni4 hN hLN).aa aO,dO.trans (aO.ae dO.size)⟩);obtain⟨b0,b1,b2⟩:=bB.cells;clear hN hLN hb4 dO aO bB bq;go_wp2_with fail
   clear b0 b1 b2;generalize DX:W4.heap.size=B at *;clear DX;generalize (W4.alloc (NC (.slice a V.length ca) (.slice b L.length cb) (.slice c R.length cc)))=W5 at *
   have Oq:Hid (∀(d:Option Addr) (cd:Nat) (U:List Int) (Z:World),TS w Z B a b c ca cb cc V L R ->aC Z d U ->Up U V.length ->Calls Tryz.prog 19 #[.agg #[.slice a V.length ca,.slice b L.length cb,.slice c R.length cc],.slice d U.length cd,.slice av K.length cv] Z fun e w'=>∃x l,e=.returned x/\fp w' Z.heap.size x (zF l)/\l.map (·.1)=af U/\(∀p∈l,p.2<sz (aq V) p.1)/\Below Z.heap.size Z w'):=fun d cd U Z hZ hd hU=>afq a b c d av ca cb cc cd cv V L R U K Z hZ.net.net hd (HV.o.aa hZ.fr) hU (by have:=VF hU yX;omega) vB.o (by omega) (fun v hv=>by
    have h1:=mh (LR oX.ok) v;have h2:=oX.szs v;rw[Pq hv] at h1 h2;omega)
   have lS:Hid (∀(d:Option Addr) (cd:Nat) (l:List (Nat×Nat)) (Z:World),TS w Z B a b c ca cb cc V L R ->ny Z d (zF l) ->(zF l).length<=cd ->kB (aq V) V.length l ->Calls Tryz.prog 8 #[.agg #[.slice a V.length ca,.slice b L.length cb,.slice c R.length cc],.slice d (zF l).length cd] Z fun e w'=>e=.returned (.tuple #[fh (qF (ei V L R l)),.int .i64 0])/\Below Z.heap.size Z w'):=fun d cd l Z hZ hd hc hl=>by
    have h:=aiv a b c d ca cb cc cd V L R (zF l) Z hZ.net hd (by rw[sL];have:=hl.len;omega) hc;rwa [(XA oX.ok hl).1,(XA oX.ok hl).2] at h
   have UQ:Hid (∀(bx kS bz:Option Addr) (cx cy cz:Nat) (x y z:List Int) (Z:World),TS w Z B a b c ca cb cc V L R ->aC Z bx x ->aC Z kS y ->aC Z bz z ->x.length<=6 ->y.length<=6 ->z.length<=6 ->ia V.length [x,y,z]=true ->Calls Tryz.prog 30 #[.slice b L.length cb,.slice bx x.length cx,.slice kS y.length cy,.slice bz z.length cz] Z fun e w'=>e=.returned (.tuple #[.bool (!nR L x y z),.int .i64 0])/\Below Z.heap.size Z w'):=fun bx kS bz cx cy cz x y z Z hZ hx hy hz lx ly lz hap=>by
    refine(ajY b bx kS bz cb cx cy cz L x y z Z hZ.net.net.pars (fun l hl=>by have:=oX.few l hl;omega) hx hy hz (by omega) (by omega) (by omega)).ae fun e w' ⟨hb,hr⟩=>⟨?_,hb⟩;rcases hr with ⟨h,_⟩ |⟨_,h,_⟩ |⟨_,_,h⟩
    ·exact absurd (LS oX.ok) h
    ·rw[aV.len,hap] at h;cases h
    ·exact h
   have fX:Hid (∀x y z:List Int,ia V.length [x,y,z]=true ->nR L y x z=nR L x y z/\(nR L x y z=true ->x≠[]/\y≠[])/\(nR L x y z=false ->∀fx fy fz:List (Nat×Nat),fx.map (·.1)=af x ->fy.map (·.1)=af y ->fz.map (·.1)=af z ->(∀p∈fz,p.2<sz (aq V) p.1) ->ei V L R (fx++fy++fz)*ei V L R fz=ei V L R (fx++fz)*ei V L R (fy++fz))):=fun x y z hap=>by
    have hg:=LS oX.ok;(have h8:L.length<=8:=by rw[aV.len];exact aV.n8);rw[<- aV.len] at hap;exact⟨(alV hg h8 hap).symm,alW hg h8 hap,fun ho fx fy fz ex ey ez hz=>alX oX.ok hg h8 hap ho ex ey ez hz⟩
   have qX:Hid (∀(d:Option Addr) (cd:Nat) (l:List Int) (Z:World),aC Z d l ->l.length<=512 ->(∀x∈l, -9223372036854775808<=x/\x<=9223372036854775807) ->Calls Tryz.prog 18 #[.slice d l.length cd,.int .i64 (V.length:Nat)] Z fun e w'=>∃d' xo U,e=.returned (.slice d' U.length xo)/\aC w' d' U/\Up U V.length/\U.length<=6/\Below Z.heap.size Z w'):=fun d cd l Z hd hl hr=>(aff d cd V.length l Z hd hr (by omega) eO (by omega)).ae fun e w' ⟨x,U,h,hr,hu,hb⟩=>by
    obtain⟨d',xo,rfl,hi⟩:=hr.ints;exact⟨d',xo,U,h,hi,hu,VF hu yX,hb⟩
   have sB:Hid (∀(d f:Option Addr) (cd cf:Nat) (l m:List Int) (Z:World),aC Z d l ->aC Z f m ->l.length<=6 ->m.length<=6 ->Calls Tryz.prog 20 #[.slice d l.length cd,.slice f m.length cf] Z fun e w'=>∃d' xo,e=.returned (.slice d' (gm l m).length xo)/\aC w' d' (gm l m)/\(gm l m).length<=6/\Below Z.heap.size Z w'):=fun d f cd cf l m Z hd hf hl hm=>(afm d f cd cf l m Z hd hf (by omega) (by omega)).ae fun e w' ⟨x,h,hr,hb⟩=>by
    obtain⟨d',xo,rfl,hi⟩:=hr.ints;exact⟨d',xo,h,hi,aM (l6 _ _) hl,hb⟩
   have GP:Hid (∀l,kB (aq V) V.length l ->qw (ei V L R l)<=8003):=fun l _=>ah2 oX.ok (LR oX.ok) oX.lite l (ak _);clear oX aV eO;refine(qX.o ax cx x _ (HX.o.aa HS.o.fr) lx HRX.o).ae ?_;rintro e W6 ⟨d1,k1,A1,rfl,i1,u1,m1,iK⟩;have Kb:=hid (HS.o.step iK);clear HS iK;have ri:=hid i1;have HU1:=hid u1;clear i1 u1;go_wp2_with fail
   refine(qX.o ay cy y _ (HY.o.aa Kb.o.fr) ly HRY.o).ae ?_;rintro e W7 ⟨d2,k2,Y2,rfl,i2,u2,m2,ed⟩;have BX:=hid (Kb.o.step ed);have rh:=hid (ri.o.aa ed);have zQ:=hid i2;have vu:=hid u2;clear Kb ed ri i2 u2;go_wp2_with fail
   refine(sB.o d2 d1 k2 k1 Y2 A1 _ zQ.o rh.o m2 m1).ae ?_;rintro e W8 ⟨d3,k3,rfl,i3,m3,gF⟩;have zC:=hid (BX.o.step gF);have ri:=hid (rh.o.aa gF);have q9:=hid i3;clear BX gF rh i3 zQ;go_wp2_with fail
   refine(qX.o az cz z _ (HZ.o.aa zC.o.fr) lz Ug.o).ae ?_;rintro e W9 ⟨d4,k4,Z4,rfl,i4,u4,m4,rS⟩;have NQ:=hid (zC.o.step rS);have rh:=hid (ri.o.aa rS);have vH:=hid (q9.o.aa rS);have Cf:=hid i4;have tM:=hid u4;clear zC rS ri q9 i4 u4;go_wp2_with fail
   refine(sB.o d4 d1 k4 k1 Z4 A1 _ Cf.o rh.o m4 m1).ae ?_;rintro e W10 ⟨d5,k5,rfl,i5,m5,MD⟩;have acJ:=hid (NQ.o.step MD);have ri:=hid (rh.o.aa MD);have q9:=hid (vH.o.aa MD);have xS:=hid i5;clear NQ MD rh vH Cf i5;go_wp2_with fail
   refine(sB.o d5 d3 k5 k3 (gm Z4 A1) (gm Y2 A1) _ xS.o q9.o m5 m3).ae ?_;rintro e W11 ⟨d6,k6,rfl,i6,m6,MC⟩;have rk:=hid (alY HU1.o vu.o tM.o);have J4:=hid (yu (M:=A1) vu.o);have HU6:=hid (yu (M:=gm Y2 A1) (yu (M:=A1) tM.o));have NX:=hid (acJ.o.step MC);have rh:=hid (ri.o.aa MC);have vH:=hid (q9.o.aa MC);have xR:=hid i6;clear acJ MC ri q9 xS i6 m5 tM vu qX sB;generalize gm (gm Z4 A1) (gm Y2 A1)=C6 at *;generalize gm Y2 A1=B3 at *;have B4:=hid (fX.o A1 B3 C6 rk.o)
   have Cg:Hid (∀Z:World,TS w Z B a b c ca cb cc V L R ->aC Z d1 A1 ->aC Z d3 B3 ->aC Z d6 C6 ->(Calls Tryz.prog 30 #[.slice b L.length cb,.slice d1 A1.length k1,.slice d3 B3.length k3,.slice d6 C6.length k6] Z fun e w'=>e=.returned (.tuple #[.bool (!nR L A1 B3 C6),.int .i64 0])/\Below Z.heap.size Z w')/\Calls Tryz.prog 30 #[.slice b L.length cb,.slice d3 B3.length k3,.slice d1 A1.length k1,.slice d6 C6.length k6] Z fun e w'=>e=.returned (.tuple #[.bool (!nR L A1 B3 C6),.int .i64 0])/\Below Z.heap.size Z w'):=fun Z hZ h1 h3 h6=>by
    refine⟨UQ.o d1 d3 d6 k1 k3 k6 A1 B3 C6 Z hZ h1 h3 h6 m1 m3 m6 rk.o,?_⟩;have h:=UQ.o d3 d1 d6 k3 k1 k6 B3 A1 C6 Z hZ h3 h1 h6 m3 m1 m6 (acj rk.o);rwa [B4.o.1] at h
   clear fX UQ;generalize nR L A1 B3 C6=o at *;obtain⟨b0,b1,b2⟩:=NX.o.box.cells;go_wp2_with fail
   refine(Cg.o _ NX.o rh.o vH.o xR.o).1.ae ?_;rintro e W12 ⟨rfl,y5⟩;have NW:=hid (NX.o.step y5);have ri:=hid (rh.o.aa y5);have q9:=hid (vH.o.aa y5);have UK:=hid (xR.o.aa y5);clear b0 b1 b2 NX y5 rh vH xR;obtain⟨b0,b1,b2⟩:=NW.o.box.cells;go_wp2_with fail
   refine(Cg.o _ NW.o ri.o q9.o UK.o).2.ae ?_;rintro e W13 ⟨rfl,y4⟩;have Kc:=hid (NW.o.step y4);have rh:=hid (ri.o.aa y4);have vH:=hid (q9.o.aa y4);have xR:=hid (UK.o.aa y4);clear b0 b1 b2 NW y4 ri q9 UK Cg;cases o with
   |true=>
    obtain⟨ha,hb⟩:=B4.o.2.1 rfl
    have ha':((A1.length:Int)==0)=false:=by
     have:=KT.2 ha;simp;exact ha
    have hb':((B3.length:Int)==0)=false:=by
     have:=KT.2 hb;simp;exact hb
    clear ha hb B4;go_wp2;go_ret;exact⟨rfl,Kc.o.fr⟩
   |false=>
    have zO:=hid (B4.o.2.2 rfl);clear B4;obtain⟨b0,b1,b2⟩:=Kc.o.box.cells;go_wp2_with fail
    clear b0 b1 b2;refine(Oq.o d1 k1 A1 _ Kc.o rh.o HU1.o).ae ?_;rintro e W14 ⟨x14,fa,rfl,Yq,ea,va,MB⟩;obtain⟨pa,qa,rfl,ga,la,na⟩:=Yq.facts;have sF:=hid ga;have UX:=hid ea;have HWa:=hid va;have HCa:=hid la;have N7:=hid na;have NV:=hid (Kc.o.step MB);replace vH:=hid (vH.o.aa MB);replace xR:=hid (xR.o.aa MB);clear Kc MB Yq ga ea va la na rh;obtain⟨b0,b1,b2⟩:=NV.o.box.cells;go_wp2_with fail
    clear b0 b1 b2;refine(Oq.o d3 k3 B3 _ NV.o vH.o J4.o).ae ?_;rintro e W15 ⟨x15,fb,rfl,Yp,eb,vb,MA⟩;obtain⟨pb,qb,rfl,gb,lb,nb⟩:=Yp.facts;have sD:=hid gb;have UW:=hid eb;have HWb:=hid vb;have HCb:=hid lb;have N6:=hid nb;have NU:=hid (NV.o.step MA);replace xR:=hid (xR.o.aa MA);replace sF:=hid (sF.o.aa MA);clear NV MA Yp gb eb vb lb nb vH;obtain⟨b0,b1,b2⟩:=NU.o.box.cells;go_wp2_with fail
    clear b0 b1 b2;refine(Oq.o d6 k6 C6 _ NU.o xR.o HU6.o).ae ?_;rintro e Gj ⟨x16,fc,rfl,Yo,ec,vc,Mz⟩;obtain⟨pc,qc,rfl,gc,lc,nc⟩:=Yo.facts;have mP:=hid gc;have UU:=hid ec;have HWc:=hid vc;have HCc:=hid lc;have zI:=hid nc;have acI:=hid (NU.o.step Mz);replace sF:=hid (sF.o.aa Mz);replace sD:=hid (sD.o.aa Mz);clear NU Mz Yo gc ec vc lc nc xR;(have xN:Hid ((zF fa).length<=6):=by show _<=_;rw[sL, <- cH (f:=(·.1)),UX.o,dR];exact m1);(have zN:Hid ((zF fb).length<=6):=by show _<=_;rw[sL, <- cH (f:=(·.1)),UW.o,dR];exact m3);(have zM:Hid ((zF fc).length<=6):=by show _<=_;rw[sL, <- cH (f:=(·.1)),UU.o,dR];exact m6);obtain⟨z1,z2,z3,z4⟩:=akn rk.o UX.o UW.o UU.o HWa.o HWb.o HWc.o;rw[jh] at z1;have Og:=hid z1;have GR:=hid z2;have Kt:=hid z3;have UI:=hid z4;have Rm:=zO.o fa fb fc UX.o UW.o UU.o HWc.o;rw[jh] at Rm;have HMU:=hid Rm;clear Rm;clear z1 z2 z3 z4 zO;have GG:=hid (fp.start Gj);have KA:=hid ((aw Gj.heap.size Gj).alloc (ak _) (.cells #[] 90))
    go_wp2_with (at_builtin;first
     |(refine Hh rfl _ _ rfl Gj.heap.size _ [] (zF fa) rfl GG.o pa qa rfl (sF.o.aa KA.o) N7.o (by have:=xN.o;simp;omega) KA.o.size ?_;intro v17 W17 Xn g17;have Uj:=hid Xn;have KD:=hid (KA.o.grown g17 KA.o.size GG.o.own);clear Xn g17)
     |(refine Hh rfl _ _ rfl Gj.heap.size _ (zF fa) (zF fb) rfl Uj.o pb qb rfl (sD.o.aa KD.o) N6.o (by have:=xN.o;have:=zN.o;omega) KD.o.size ?_;intro v18 W18 Xm g18;have NZ:=hid Xm;have EE:=hid (KD.o.grown g18 KD.o.size Uj.o.own);clear Xm g18)
     |(refine Hh rfl _ _ rfl Gj.heap.size _ (zF fa++zF fb) (zF fc) rfl NZ.o pc qc rfl (mP.o.aa EE.o) zI.o (by have:=xN.o;have:=zN.o;have:=zM.o;rw[bM];omega) EE.o.size ?_;intro v19 W19 PQ g19;rw[<- vZ, <- vZ,jh] at PQ;have acM:=hid PQ;have NT:=hid (acI.o.step (EE.o.grown g19 EE.o.size NZ.o.own));have OB:=hid (EE.o.grown g19 EE.o.size NZ.o.own);obtain⟨p4,q4,rfl,h4,l4, -⟩:=acM.o.facts;have HG4:=hid h4;have Oc:=hid l4;obtain⟨b0,b1,b2⟩:=NT.o.box.cells;clear PQ g19 h4 l4))
    clear b0 b1 b2;refine(lS.o p4 q4 (fa++(fb++fc)) _ NT.o HG4.o Oc.o Og.o).ae ?_;rintro e Ec ⟨rfl,Jd⟩;replace sF:=hid ((sF.o.aa OB.o).aa Jd);replace sD:=hid ((sD.o.aa OB.o).aa Jd);replace mP:=hid ((mP.o.aa OB.o).aa Jd);have acH:=hid (NT.o.step Jd);have HQP:=hid (GP.o _ Og.o);clear acI NT OB Jd HG4 Oc acM NZ Uj KD EE GG KA;have HMP:Hid (∀U:World,Calls Tryz.prog 26 #[fh (qF (ei V L R (fa++(fb++fc)))),fh (qF (ei V L R fc))] U fun e w'=>e=.returned (fh (qF (ei V L R (fa++(fb++fc))*ei V L R fc)))/\Below U.heap.size U w'):=fun U=>YQ (GP.o _ Og.o) (GP.o _ UI.o) U
    have HMQ:Hid (∀U:World,Calls Tryz.prog 26 #[fh (qF (ei V L R (fa++fc))),fh (qF (ei V L R (fb++fc)))] U fun e w'=>e=.returned (fh (qF (ei V L R (fa++(fb++fc))*ei V L R fc)))/\Below U.heap.size U w'):=fun U=>by
     rw[HMU.o];exact YQ (GP.o _ GR.o) (GP.o _ Kt.o) U
    have qZ:=hid (fun d cd Z h1 h2 h3=>lS.o d cd (fa++fc) Z h1 h2 h3 GR.o);have Gz:=hid (fun d cd Z h1 h2 h3=>lS.o d cd (fb++fc) Z h1 h2 h3 Kt.o);have acN:=hid (fun d cd Z h1 h2 h3=>lS.o d cd fc Z h1 h2 h3 UI.o);clear GP HQP HMU Og GR Kt UI lS Oq rk;generalize qF (ei V L R (fa++(fb++fc))*ei V L R fc)=mm at *;generalize qF (ei V L R (fa++(fb++fc)))=tp at *;generalize qF (ei V L R (fa++fc))=tq at *;generalize qF (ei V L R (fb++fc))=tr at *;generalize qF (ei V L R fc)=ts at *;obtain⟨mn,mx,my⟩:=mm;obtain⟨pn,px,py⟩:=tp;obtain⟨qn,qx,qy⟩:=tq;obtain⟨rn,rx,ry⟩:=tr;obtain⟨sn,sx,sy⟩:=ts;have Jb:Below Ec.heap.size Ec (Ec.alloc (FC pn px py)):=(aw _ Ec).alloc (ak _) _;have mL:=hid (aL.new Ec pn px py);have B0:=hid (acH.o.step Jb);replace sF:=hid (sF.o.aa Jb);replace sD:=hid (sD.o.aa Jb);replace mP:=hid (mP.o.aa Jb);clear Jb acH;go_upto_region 21 with fail
    generalize fQ:Ec.heap.size=gp at *;generalize (Ec.alloc (FC pn px py))=jT at *;clear fQ;refine WZ (fun a0 e a' w'=>e=.normal/\∃(g:Nat) (u1 u2 u3:Value),a'=((((((((((((a0.put (some 129) (.agg #[.slice a V.length ca,.slice b L.length cb,.slice c R.length cc])).put (some 130) u1).put (some 131) (.slice pa (zF fa).length qa)).put (some 132) u2).put (some 133) (.slice pc (zF fc).length qc)).put (some 134) u3).put (some 135) (.tuple #[.agg #[.bool qn,.string qx,.string qy],.int .i64 0])).put (some 128) (.tuple #[.agg #[.bool qn,.string qx,.string qy],.int .i64 0])).put (some 136) (.agg #[.bool qn,.string qx,.string qy])).put (some 137) (.int .i64 0)).put (some 24) (.pointer (some ⟨g,0,none⟩))).put (some 25) (.int .i64 0))/\aL w' g qn qx qy/\jT.heap.size<=g/\Below jT.heap.size jT w') ?_ ?_
    ·have bR:Hid (∀U:World,Below jT.heap.size jT U ->U.cell? ⟨B,0,none⟩=some (.slice a V.length ca)/\U.cell? ⟨B,1,none⟩=some (.slice b L.length cb)/\U.cell? ⟨B,2,none⟩=some (.slice c R.length cc)):=fun U hU=>(B0.o.step hU).box.cells;have au:Hid (Below jT.heap.size jT jT.drew):=(aw jT.heap.size jT).drew;obtain⟨Y0,uK⟩:∃x,jT.drew=x:=⟨_,rfl⟩;rw[uK] at au;refine kC (S:=fun U=>U.cell? ⟨B,0,none⟩=some (.slice a V.length ca)/\U.cell? ⟨B,1,none⟩=some (.slice b L.length cb)/\U.cell? ⟨B,2,none⟩=some (.slice c R.length cc)) (by kernel_rfl) (by rw[uK];exact bR.o _ au.o) (fun ah=>?_);rw[uK] at ah⊢;clear uK;(try simp only[gE,aP]);refine ar 0 (.agg #[.slice a V.length ca,.slice b L.length cb,.slice c R.length cc]) ?_;(try simp only[gE,aP]);refine ar 2 (.slice pa (zF fa).length qa) ?_;(try simp only[gE,aP]);refine ar 4 (.slice pc (zF fc).length qc) ?_;(try simp only[gE,aP]);refine aI [1,10] (cA ?_ (cA ?_ aH))
     ·intro K' hK';go_simp;have aO:=(aw Y0.heap.size Y0).alloc (ak _) (.cells #[] 90);have HO:=hid ((fp.start Y0).lower au.o.size);replace au:=hid (au.o.trans (aO.ae au.o.size));refine hK'.o _ _ (bR.o _ au.o) (fun ag=>?_);clear aO;clear hK' K' ah;have ah:=ag;clear ag;obtain⟨DY,Dk⟩:∃x,Y0.heap.size=x:=⟨_,rfl⟩;obtain⟨Y2,DC⟩:∃x,Y0.alloc (.cells #[] 90)=x:=⟨_,rfl⟩;rw[Dk] at HO;rw[DC] at HO au;simp only[DC] at ah⊢;simp only[Dk];clear Dk DC;(try simp only[gE,aP]);refine aI [3,10] (cA ?_ (cA ?_ aH))
      ·intro K' hK';rw[aB (by rfl)];refine qh _ _ rfl jT.heap.size (Value.slice (some ⟨DY,0,none⟩) 0 0) [] (zF fa) rfl HO.o pa qa rfl (sF.o.aa au.o) N7.o (by have:=xN.o;simp;omega) au.o.size ?_;intro v4 Y3 ho hg hn;replace au:=hid (au.o.grown hg au.o.size HO.o.own);clear HO hg hn;have HO:=hid ho;clear ho;refine hK'.o _ _ (bR.o _ au.o) (fun ag=>?_);clear hK' K' ah;have ah:=ag;clear ag;(try simp only[gE,aP]);refine aI [5,10] (cA ?_ (cA ?_ aH))
       ·intro K' hK';rw[aB (by rfl)];refine qh _ _ rfl jT.heap.size v4 (zF fa) (zF fc) rfl HO.o pc qc rfl (mP.o.aa au.o) zI.o (by have:=xN.o;have:=zM.o;omega) au.o.size ?_;intro v6 Y5 ho hg hn;replace au:=hid (au.o.grown hg au.o.size HO.o.own);clear HO hg hn;rw[<- vZ] at ho;obtain⟨p3,q3,rfl,hf3,hl3, -⟩:=ho.facts;have eV:=hid hf3;have fO:=hid hl3;clear ho hf3 hl3;refine hK'.o _ _ (bR.o _ au.o) (fun ag=>?_);clear hK' K' ah;have ah:=ag;clear ag;(try simp only[gE,aP]);refine aI [6,10] (cA ?_ (cA ?_ aH))
        ·intro K' hK';go_simp;refine(qZ.o p3 q3 Y5 (B0.o.step au.o) eV.o fO.o).ae ?_;rintro e Y7 ⟨rfl,hb⟩;replace au:=hid (au.o.trans (hb.ae au.o.size));clear hb eV fO;refine hK'.o _ _ (bR.o _ au.o) (fun ag=>?_);clear hK' K' ah;have ah:=ag;clear ag;(try simp only[gE,aP]);refine ar 7 (.tuple #[.agg #[.bool qn,.string qx,.string qy],.int .i64 0]) ?_;(try simp only[gE,aP]);refine ar 8 (.agg #[.bool qn,.string qx,.string qy]) ?_;(try simp only[gE,aP]);refine ar 9 (.int .i64 0) ?_;(try simp only[gE,aP]);refine aI [10] (cA ?_ aH)
         ·intro K' hK';go_simp;have aO:=(aw Y7.heap.size Y7).alloc (ak _) (FC false ⟨#[]⟩ ⟨#[]⟩);have aJ:=hid (aL.new Y7 false ⟨#[]⟩ ⟨#[]⟩);have eE:jT.heap.size<=Y7.heap.size:=au.o.size;replace au:=hid (au.o.trans (aO.ae au.o.size));refine hK'.o _ _ (bR.o _ au.o) (fun ag=>?_);clear aO;clear hK' K' ah;have ah:=ag;clear ag;obtain⟨SY,Dl⟩:∃x,Y7.heap.size=x:=⟨_,rfl⟩;obtain⟨Y9,Dw⟩:∃x,Y7.alloc (FC false ⟨#[]⟩ ⟨#[]⟩)=x:=⟨_,rfl⟩;have Dv:Y7.alloc (.cells #[.bool false,.string ⟨#[]⟩,.string ⟨#[]⟩] 32)=Y9:=Dw;rw[Dl] at aJ eE;rw[Dw] at au;rw[Dv] at aJ;simp only[Dv] at ah⊢;simp only[Dl];clear Dl Dw Dv;(try simp only[gE,aP]);obtain⟨x0,x1,x2⟩:=aJ.o.facts;have f0:=aJ.o.fz 0;have f1:=aJ.o.fz 1;have f2:=aJ.o.fz 2;refine aI [11] (cA ?_ aH)
          ·intro K' hK';go_simp;have mM:=hid (aJ.o.put qn qx qy);have ic:=hid (df au.o eE (.bool qn) (.string qx) (.string qy));refine hK'.o _ _ (bR.o _ ic.o) (fun ag=>?_);clear x0 x1 x2 f0 f1 f2 aJ au;clear hK' K' ah;have ah:=ag;clear ag;(try simp only[gE,aP]);refine ar 12 (.int .i64 0) ?_;(try simp only[gE,aP]);refine dW (by kernel_rfl) ?_ _;exact⟨rfl,SY,_,_,_,rfl,mM.o,eE,ic.o⟩
        ·intro K' hK';go_simp;have aO:=(aw Y5.heap.size Y5).alloc (ak _) (FC false ⟨#[]⟩ ⟨#[]⟩);have aJ:=hid (aL.new Y5 false ⟨#[]⟩ ⟨#[]⟩);have eE:jT.heap.size<=Y5.heap.size:=au.o.size;replace eV:=hid (eV.o.aa aO);replace au:=hid (au.o.trans (aO.ae au.o.size));refine hK'.o _ _ (bR.o _ au.o) (fun ag=>?_);clear aO;clear hK' K' ah;have ah:=ag;clear ag;obtain⟨SZ,Dq⟩:∃x,Y5.heap.size=x:=⟨_,rfl⟩;obtain⟨JQ,DK⟩:∃x,Y5.alloc (FC false ⟨#[]⟩ ⟨#[]⟩)=x:=⟨_,rfl⟩;have DJ:Y5.alloc (.cells #[.bool false,.string ⟨#[]⟩,.string ⟨#[]⟩] 32)=JQ:=DK;rw[Dq] at aJ eE;rw[DK] at au eV;rw[DJ] at aJ;simp only[DJ] at ah⊢;simp only[Dq];clear Dq DK DJ;(try simp only[gE,aP]);refine aI [6] (cA ?_ aH)
         ·intro K' hK';go_simp;refine(qZ.o p3 q3 JQ (B0.o.step au.o) eV.o fO.o).ae ?_;rintro e Y12 ⟨rfl,hb⟩;replace aJ:=hid (aJ.o.aa hb aJ.o.lt);replace au:=hid (au.o.trans (hb.ae au.o.size));clear hb eV fO;refine hK'.o _ _ (bR.o _ au.o) (fun ag=>?_);clear hK' K' ah;have ah:=ag;clear ag;(try simp only[gE,aP]);refine ar 7 (.tuple #[.agg #[.bool qn,.string qx,.string qy],.int .i64 0]) ?_;(try simp only[gE,aP]);refine ar 8 (.agg #[.bool qn,.string qx,.string qy]) ?_;(try simp only[gE,aP]);refine ar 9 (.int .i64 0) ?_;(try simp only[gE,aP]);obtain⟨x0,x1,x2⟩:=aJ.o.facts;have f0:=aJ.o.fz 0;have f1:=aJ.o.fz 1;have f2:=aJ.o.fz 2;refine aI [11] (cA ?_ aH)
          ·intro K' hK';go_simp;have mM:=hid (aJ.o.put qn qx qy);have ic:=hid (df au.o eE (.bool qn) (.string qx) (.string qy));refine hK'.o _ _ (bR.o _ ic.o) (fun ag=>?_);clear x0 x1 x2 f0 f1 f2 aJ au;clear hK' K' ah;have ah:=ag;clear ag;(try simp only[gE,aP]);refine ar 12 (.int .i64 0) ?_;(try simp only[gE,aP]);refine dW (by kernel_rfl) ?_ _;exact⟨rfl,SZ,_,_,_,rfl,mM.o,eE,ic.o⟩
       ·intro K' hK';go_simp;have aO:=(aw Y3.heap.size Y3).alloc (ak _) (FC false ⟨#[]⟩ ⟨#[]⟩);have aJ:=hid (aL.new Y3 false ⟨#[]⟩ ⟨#[]⟩);have eE:jT.heap.size<=Y3.heap.size:=au.o.size;(have cR:Hid (∀k,v4.ownBlock=some k ->k≠Y3.heap.size):=fun k e=>by have:=HO.o.lt k e;omega);replace HO:=hid (HO.o.aa aO);replace au:=hid (au.o.trans (aO.ae au.o.size));refine hK'.o _ _ (bR.o _ au.o) (fun ag=>?_);clear aO;clear hK' K' ah;have ah:=ag;clear ag;obtain⟨DZ,Dp⟩:∃x,Y3.heap.size=x:=⟨_,rfl⟩;obtain⟨TR,DI⟩:∃x,Y3.alloc (FC false ⟨#[]⟩ ⟨#[]⟩)=x:=⟨_,rfl⟩;have DG:Y3.alloc (.cells #[.bool false,.string ⟨#[]⟩,.string ⟨#[]⟩] 32)=TR:=DI;rw[Dp] at aJ eE cR;rw[DI] at au HO;rw[DG] at aJ;simp only[DG] at ah⊢;simp only[Dp];clear Dp DI DG;(try simp only[gE,aP]);refine aI [5] (cA ?_ aH)
        ·intro K' hK';rw[aB (by rfl)];refine qh _ _ rfl jT.heap.size v4 (zF fa) (zF fc) rfl HO.o pc qc rfl (mP.o.aa au.o) zI.o (by have:=xN.o;have:=zM.o;omega) au.o.size ?_;intro v16 TQ ho hg hn;replace aJ:=hid (aJ.o.of_block (hg.block DZ aJ.o.lt (fun e=>cR.o DZ e.symm rfl)));clear cR;replace au:=hid (au.o.grown hg au.o.size HO.o.own);clear HO hg hn;rw[<- vZ] at ho;obtain⟨p3,q3,rfl,hf3,hl3, -⟩:=ho.facts;have eV:=hid hf3;have fO:=hid hl3;clear ho hf3 hl3;refine hK'.o _ _ (bR.o _ au.o) (fun ag=>?_);clear hK' K' ah;have ah:=ag;clear ag;(try simp only[gE,aP]);refine aI [6] (cA ?_ aH)
         ·intro K' hK';go_simp;refine(qZ.o p3 q3 TQ (B0.o.step au.o) eV.o fO.o).ae ?_;rintro e Y17 ⟨rfl,hb⟩;replace aJ:=hid (aJ.o.aa hb aJ.o.lt);replace au:=hid (au.o.trans (hb.ae au.o.size));clear hb eV fO;refine hK'.o _ _ (bR.o _ au.o) (fun ag=>?_);clear hK' K' ah;have ah:=ag;clear ag;(try simp only[gE,aP]);refine ar 7 (.tuple #[.agg #[.bool qn,.string qx,.string qy],.int .i64 0]) ?_;(try simp only[gE,aP]);refine ar 8 (.agg #[.bool qn,.string qx,.string qy]) ?_;(try simp only[gE,aP]);refine ar 9 (.int .i64 0) ?_;(try simp only[gE,aP]);obtain⟨x0,x1,x2⟩:=aJ.o.facts;have f0:=aJ.o.fz 0;have f1:=aJ.o.fz 1;have f2:=aJ.o.fz 2;refine aI [11] (cA ?_ aH)
          ·intro K' hK';go_simp;have mM:=hid (aJ.o.put qn qx qy);have ic:=hid (df au.o eE (.bool qn) (.string qx) (.string qy));refine hK'.o _ _ (bR.o _ ic.o) (fun ag=>?_);clear x0 x1 x2 f0 f1 f2 aJ au;clear hK' K' ah;have ah:=ag;clear ag;(try simp only[gE,aP]);refine ar 12 (.int .i64 0) ?_;(try simp only[gE,aP]);refine dW (by kernel_rfl) ?_ _;exact⟨rfl,DZ,_,_,_,rfl,mM.o,eE,ic.o⟩
      ·intro K' hK';go_simp;have aO:=(aw Y2.heap.size Y2).alloc (ak _) (FC false ⟨#[]⟩ ⟨#[]⟩);have aJ:=hid (aL.new Y2 false ⟨#[]⟩ ⟨#[]⟩);have eE:jT.heap.size<=Y2.heap.size:=au.o.size;(have cR:Hid (∀k,(Value.slice (some ⟨DY,0,none⟩) 0 0).ownBlock=some k ->k≠Y2.heap.size):=fun k e=>by have:=HO.o.lt k e;omega);replace HO:=hid (HO.o.aa aO);replace au:=hid (au.o.trans (aO.ae au.o.size));refine hK'.o _ _ (bR.o _ au.o) (fun ag=>?_);clear aO;clear hK' K' ah;have ah:=ag;clear ag;obtain⟨rX,Dn⟩:∃x,Y2.heap.size=x:=⟨_,rfl⟩;obtain⟨TP,DF⟩:∃x,Y2.alloc (FC false ⟨#[]⟩ ⟨#[]⟩)=x:=⟨_,rfl⟩;have DD:Y2.alloc (.cells #[.bool false,.string ⟨#[]⟩,.string ⟨#[]⟩] 32)=TP:=DF;rw[Dn] at aJ eE cR;rw[DF] at au HO;rw[DD] at aJ;simp only[DD] at ah⊢;simp only[Dn];clear Dn DF DD;(try simp only[gE,aP]);refine aI [3] (cA ?_ aH)
       ·intro K' hK';rw[aB (by rfl)];refine qh _ _ rfl jT.heap.size (Value.slice (some ⟨DY,0,none⟩) 0 0) [] (zF fa) rfl HO.o pa qa rfl (sF.o.aa au.o) N7.o (by have:=xN.o;simp;omega) au.o.size ?_;intro v21 Y20 ho hg hn
        have p7:Hid (∀k,v21.ownBlock=some k ->k≠rX):=fun k e=>by
         rcases hn with hn |hn
         ·exact cR.o k (by rw[<- hn];exact e)
         ·have:=hn k e;have:=aJ.o.lt;omega
        replace aJ:=hid (aJ.o.of_block (hg.block rX aJ.o.lt (fun e=>cR.o rX e.symm rfl)));clear cR;have cR:=p7;clear p7;replace au:=hid (au.o.grown hg au.o.size HO.o.own);clear HO hg hn;have HO:=hid ho;clear ho;refine hK'.o _ _ (bR.o _ au.o) (fun ag=>?_);clear hK' K' ah;have ah:=ag;clear ag;(try simp only[gE,aP]);refine aI [5] (cA ?_ aH)
        ·intro K' hK';rw[aB (by rfl)];refine qh _ _ rfl jT.heap.size v21 (zF fa) (zF fc) rfl HO.o pc qc rfl (mP.o.aa au.o) zI.o (by have:=xN.o;have:=zM.o;omega) au.o.size ?_;intro v23 TN ho hg hn;replace aJ:=hid (aJ.o.of_block (hg.block rX aJ.o.lt (fun e=>cR.o rX e.symm rfl)));clear cR;replace au:=hid (au.o.grown hg au.o.size HO.o.own);clear HO hg hn;rw[<- vZ] at ho;obtain⟨p3,q3,rfl,hf3,hl3, -⟩:=ho.facts;have eV:=hid hf3;have fO:=hid hl3;clear ho hf3 hl3;refine hK'.o _ _ (bR.o _ au.o) (fun ag=>?_);clear hK' K' ah;have ah:=ag;clear ag;(try simp only[gE,aP]);refine aI [6] (cA ?_ aH)
         ·intro K' hK';go_simp;refine(qZ.o p3 q3 TN (B0.o.step au.o) eV.o fO.o).ae ?_;rintro e Y24 ⟨rfl,hb⟩;replace aJ:=hid (aJ.o.aa hb aJ.o.lt);replace au:=hid (au.o.trans (hb.ae au.o.size));clear hb eV fO;refine hK'.o _ _ (bR.o _ au.o) (fun ag=>?_);clear hK' K' ah;have ah:=ag;clear ag;(try simp only[gE,aP]);refine ar 7 (.tuple #[.agg #[.bool qn,.string qx,.string qy],.int .i64 0]) ?_;(try simp only[gE,aP]);refine ar 8 (.agg #[.bool qn,.string qx,.string qy]) ?_;(try simp only[gE,aP]);refine ar 9 (.int .i64 0) ?_;(try simp only[gE,aP]);obtain⟨x0,x1,x2⟩:=aJ.o.facts;have f0:=aJ.o.fz 0;have f1:=aJ.o.fz 1;have f2:=aJ.o.fz 2;refine aI [11] (cA ?_ aH)
          ·intro K' hK';go_simp;have mM:=hid (aJ.o.put qn qx qy);have ic:=hid (df au.o eE (.bool qn) (.string qx) (.string qy));refine hK'.o _ _ (bR.o _ ic.o) (fun ag=>?_);clear x0 x1 x2 f0 f1 f2 aJ au;clear hK' K' ah;have ah:=ag;clear ag;(try simp only[gE,aP]);refine ar 12 (.int .i64 0) ?_;(try simp only[gE,aP]);refine dW (by kernel_rfl) ?_ _;exact⟨rfl,rX,_,_,_,rfl,mM.o,eE,ic.o⟩
     ·intro K' hK';go_simp;have aO:=(aw Y0.heap.size Y0).alloc (ak _) (FC false ⟨#[]⟩ ⟨#[]⟩);have aJ:=hid (aL.new Y0 false ⟨#[]⟩ ⟨#[]⟩);have eE:jT.heap.size<=Y0.heap.size:=au.o.size;replace au:=hid (au.o.trans (aO.ae au.o.size));refine hK'.o _ _ (bR.o _ au.o) (fun ag=>?_);clear aO;clear hK' K' ah;have ah:=ag;clear ag;obtain⟨pS,Dm⟩:∃x,Y0.heap.size=x:=⟨_,rfl⟩;obtain⟨pW,Dz⟩:∃x,Y0.alloc (FC false ⟨#[]⟩ ⟨#[]⟩)=x:=⟨_,rfl⟩;have Dy:Y0.alloc (.cells #[.bool false,.string ⟨#[]⟩,.string ⟨#[]⟩] 32)=pW:=Dz;rw[Dm] at aJ eE;rw[Dz] at au;rw[Dy] at aJ;simp only[Dy] at ah⊢;simp only[Dm];clear Dm Dz Dy;(try simp only[gE,aP]);refine aI [1] (cA ?_ aH)
      ·intro K' hK';go_simp;have aO:=(aw pW.heap.size pW).alloc (ak _) (.cells #[] 90);have HO:=hid ((fp.start pW).lower au.o.size);(have cR:Hid (∀k,(Value.slice (some ⟨pW.heap.size,0,none⟩) 0 0).ownBlock=some k ->k≠pS):=fun k e=>by cases e;exact Nat.ne_of_gt aJ.o.lt);replace aJ:=hid (aJ.o.aa aO aJ.o.lt);replace au:=hid (au.o.trans (aO.ae au.o.size));refine hK'.o _ _ (bR.o _ au.o) (fun ag=>?_);clear aO;clear hK' K' ah;have ah:=ag;clear ag;obtain⟨SR,Dj⟩:∃x,pW.heap.size=x:=⟨_,rfl⟩;obtain⟨Y28,Dx⟩:∃x,pW.alloc (.cells #[] 90)=x:=⟨_,rfl⟩;rw[Dj] at HO cR;rw[Dx] at HO au aJ;simp only[Dx] at ah⊢;simp only[Dj];clear Dj Dx;(try simp only[gE,aP]);refine aI [3] (cA ?_ aH)
       ·intro K' hK';rw[aB (by rfl)];refine qh _ _ rfl jT.heap.size (Value.slice (some ⟨SR,0,none⟩) 0 0) [] (zF fa) rfl HO.o pa qa rfl (sF.o.aa au.o) N7.o (by have:=xN.o;simp;omega) au.o.size ?_;intro v30 Y29 ho hg hn
        have p7:Hid (∀k,v30.ownBlock=some k ->k≠pS):=fun k e=>by
         rcases hn with hn |hn
         ·exact cR.o k (by rw[<- hn];exact e)
         ·have:=hn k e;have:=aJ.o.lt;omega
        replace aJ:=hid (aJ.o.of_block (hg.block pS aJ.o.lt (fun e=>cR.o pS e.symm rfl)));clear cR;have cR:=p7;clear p7;replace au:=hid (au.o.grown hg au.o.size HO.o.own);clear HO hg hn;have HO:=hid ho;clear ho;refine hK'.o _ _ (bR.o _ au.o) (fun ag=>?_);clear hK' K' ah;have ah:=ag;clear ag;(try simp only[gE,aP]);refine aI [5] (cA ?_ aH)
        ·intro K' hK';rw[aB (by rfl)];refine qh _ _ rfl jT.heap.size v30 (zF fa) (zF fc) rfl HO.o pc qc rfl (mP.o.aa au.o) zI.o (by have:=xN.o;have:=zM.o;omega) au.o.size ?_;intro v32 TM ho hg hn;replace aJ:=hid (aJ.o.of_block (hg.block pS aJ.o.lt (fun e=>cR.o pS e.symm rfl)));clear cR;replace au:=hid (au.o.grown hg au.o.size HO.o.own);clear HO hg hn;rw[<- vZ] at ho;obtain⟨p3,q3,rfl,hf3,hl3, -⟩:=ho.facts;have eV:=hid hf3;have fO:=hid hl3;clear ho hf3 hl3;refine hK'.o _ _ (bR.o _ au.o) (fun ag=>?_);clear hK' K' ah;have ah:=ag;clear ag;(try simp only[gE,aP]);refine aI [6] (cA ?_ aH)
         ·intro K' hK';go_simp;refine(qZ.o p3 q3 TM (B0.o.step au.o) eV.o fO.o).ae ?_;rintro e Y33 ⟨rfl,hb⟩;replace aJ:=hid (aJ.o.aa hb aJ.o.lt);replace au:=hid (au.o.trans (hb.ae au.o.size));clear hb eV fO;refine hK'.o _ _ (bR.o _ au.o) (fun ag=>?_);clear hK' K' ah;have ah:=ag;clear ag;(try simp only[gE,aP]);refine ar 7 (.tuple #[.agg #[.bool qn,.string qx,.string qy],.int .i64 0]) ?_;(try simp only[gE,aP]);refine ar 8 (.agg #[.bool qn,.string qx,.string qy]) ?_;(try simp only[gE,aP]);refine ar 9 (.int .i64 0) ?_;(try simp only[gE,aP]);obtain⟨x0,x1,x2⟩:=aJ.o.facts;have f0:=aJ.o.fz 0;have f1:=aJ.o.fz 1;have f2:=aJ.o.fz 2;refine aI [11] (cA ?_ aH)
          ·intro K' hK';go_simp;have mM:=hid (aJ.o.put qn qx qy);have ic:=hid (df au.o eE (.bool qn) (.string qx) (.string qy));refine hK'.o _ _ (bR.o _ ic.o) (fun ag=>?_);clear x0 x1 x2 f0 f1 f2 aJ au;clear hK' K' ah;have ah:=ag;clear ag;(try simp only[gE,aP]);refine ar 12 (.int .i64 0) ?_;(try simp only[gE,aP]);refine dW (by kernel_rfl) ?_ _;exact⟨rfl,pS,_,_,_,rfl,mM.o,eE,ic.o⟩
    rintro e a' jS ⟨rfl,gq,u1,u2,u3,rfl,xq,lq,hb⟩;have BZ:=hid (B0.o.step hb);replace mL:=hid (mL.o.aa hb mL.o.lt);have vt:=hid xq;replace sD:=hid (sD.o.aa hb);replace mP:=hid (mP.o.aa hb);clear hb xq lq B0 sF qZ;(try simp only[aP]);go_upto_region 22 with fail
    refine WZ (fun a0 e a' w'=>e=.normal/\∃(g:Nat) (u1 u2 u3:Value),a'=((((((((((((a0.put (some 139) (.agg #[.slice a V.length ca,.slice b L.length cb,.slice c R.length cc])).put (some 140) u1).put (some 141) (.slice pb (zF fb).length qb)).put (some 142) u2).put (some 143) (.slice pc (zF fc).length qc)).put (some 144) u3).put (some 145) (.tuple #[.agg #[.bool rn,.string rx,.string ry],.int .i64 0])).put (some 138) (.tuple #[.agg #[.bool rn,.string rx,.string ry],.int .i64 0])).put (some 146) (.agg #[.bool rn,.string rx,.string ry])).put (some 147) (.int .i64 0)).put (some 26) (.pointer (some ⟨g,0,none⟩))).put (some 27) (.int .i64 0))/\aL w' g rn rx ry/\jS.heap.size<=g/\Below jS.heap.size jS w') ?_ ?_
    ·have bR:Hid (∀U:World,Below jS.heap.size jS U ->U.cell? ⟨B,0,none⟩=some (.slice a V.length ca)/\U.cell? ⟨B,1,none⟩=some (.slice b L.length cb)/\U.cell? ⟨B,2,none⟩=some (.slice c R.length cc)):=fun U hU=>(BZ.o.step hU).box.cells;have au:Hid (Below jS.heap.size jS jS.drew):=(aw jS.heap.size jS).drew;obtain⟨Y0,uK⟩:∃x,jS.drew=x:=⟨_,rfl⟩;rw[uK] at au;refine kC (S:=fun U=>U.cell? ⟨B,0,none⟩=some (.slice a V.length ca)/\U.cell? ⟨B,1,none⟩=some (.slice b L.length cb)/\U.cell? ⟨B,2,none⟩=some (.slice c R.length cc)) (by kernel_rfl) (by rw[uK];exact bR.o _ au.o) (fun ah=>?_);rw[uK] at ah⊢;clear uK;(try simp only[gE,aP]);refine ar 0 (.agg #[.slice a V.length ca,.slice b L.length cb,.slice c R.length cc]) ?_;(try simp only[gE,aP]);refine ar 2 (.slice pb (zF fb).length qb) ?_;(try simp only[gE,aP]);refine ar 4 (.slice pc (zF fc).length qc) ?_;(try simp only[gE,aP]);refine aI [1,10] (cA ?_ (cA ?_ aH))
     ·intro K' hK';go_simp;have aO:=(aw Y0.heap.size Y0).alloc (ak _) (.cells #[] 90);have HO:=hid ((fp.start Y0).lower au.o.size);replace au:=hid (au.o.trans (aO.ae au.o.size));refine hK'.o _ _ (bR.o _ au.o) (fun ag=>?_);clear aO;clear hK' K' ah;have ah:=ag;clear ag;obtain⟨DY,Dk⟩:∃x,Y0.heap.size=x:=⟨_,rfl⟩;obtain⟨Y2,DC⟩:∃x,Y0.alloc (.cells #[] 90)=x:=⟨_,rfl⟩;rw[Dk] at HO;rw[DC] at HO au;simp only[DC] at ah⊢;simp only[Dk];clear Dk DC;(try simp only[gE,aP]);refine aI [3,10] (cA ?_ (cA ?_ aH))
      ·intro K' hK';rw[aB (by rfl)];refine qh _ _ rfl jS.heap.size (Value.slice (some ⟨DY,0,none⟩) 0 0) [] (zF fb) rfl HO.o pb qb rfl (sD.o.aa au.o) N6.o (by have:=zN.o;simp;omega) au.o.size ?_;intro v4 Y3 ho hg hn;replace au:=hid (au.o.grown hg au.o.size HO.o.own);clear HO hg hn;have HO:=hid ho;clear ho;refine hK'.o _ _ (bR.o _ au.o) (fun ag=>?_);clear hK' K' ah;have ah:=ag;clear ag;(try simp only[gE,aP]);refine aI [5,10] (cA ?_ (cA ?_ aH))
       ·intro K' hK';rw[aB (by rfl)];refine qh _ _ rfl jS.heap.size v4 (zF fb) (zF fc) rfl HO.o pc qc rfl (mP.o.aa au.o) zI.o (by have:=zN.o;have:=zM.o;omega) au.o.size ?_;intro v6 Y5 ho hg hn;replace au:=hid (au.o.grown hg au.o.size HO.o.own);clear HO hg hn;rw[<- vZ] at ho;obtain⟨p3,q3,rfl,hf3,hl3, -⟩:=ho.facts;have eV:=hid hf3;have fO:=hid hl3;clear ho hf3 hl3;refine hK'.o _ _ (bR.o _ au.o) (fun ag=>?_);clear hK' K' ah;have ah:=ag;clear ag;(try simp only[gE,aP]);refine aI [6,10] (cA ?_ (cA ?_ aH))
        ·intro K' hK';go_simp;refine(Gz.o p3 q3 Y5 (BZ.o.step au.o) eV.o fO.o).ae ?_;rintro e Y7 ⟨rfl,hb⟩;replace au:=hid (au.o.trans (hb.ae au.o.size));clear hb eV fO;refine hK'.o _ _ (bR.o _ au.o) (fun ag=>?_);clear hK' K' ah;have ah:=ag;clear ag;(try simp only[gE,aP]);refine ar 7 (.tuple #[.agg #[.bool rn,.string rx,.string ry],.int .i64 0]) ?_;(try simp only[gE,aP]);refine ar 8 (.agg #[.bool rn,.string rx,.string ry]) ?_;(try simp only[gE,aP]);refine ar 9 (.int .i64 0) ?_;(try simp only[gE,aP]);refine aI [10] (cA ?_ aH)
         ·intro K' hK';go_simp;have aO:=(aw Y7.heap.size Y7).alloc (ak _) (FC false ⟨#[]⟩ ⟨#[]⟩);have aJ:=hid (aL.new Y7 false ⟨#[]⟩ ⟨#[]⟩);have eE:jS.heap.size<=Y7.heap.size:=au.o.size;replace au:=hid (au.o.trans (aO.ae au.o.size));refine hK'.o _ _ (bR.o _ au.o) (fun ag=>?_);clear aO;clear hK' K' ah;have ah:=ag;clear ag;obtain⟨SY,Dl⟩:∃x,Y7.heap.size=x:=⟨_,rfl⟩;obtain⟨Y9,Dw⟩:∃x,Y7.alloc (FC false ⟨#[]⟩ ⟨#[]⟩)=x:=⟨_,rfl⟩;have Dv:Y7.alloc (.cells #[.bool false,.string ⟨#[]⟩,.string ⟨#[]⟩] 32)=Y9:=Dw;rw[Dl] at aJ eE;rw[Dw] at au;rw[Dv] at aJ;simp only[Dv] at ah⊢;simp only[Dl];clear Dl Dw Dv;(try simp only[gE,aP]);obtain⟨x0,x1,x2⟩:=aJ.o.facts;have f0:=aJ.o.fz 0;have f1:=aJ.o.fz 1;have f2:=aJ.o.fz 2;refine aI [11] (cA ?_ aH)
          ·intro K' hK';go_simp;have mM:=hid (aJ.o.put rn rx ry);have ic:=hid (df au.o eE (.bool rn) (.string rx) (.string ry));refine hK'.o _ _ (bR.o _ ic.o) (fun ag=>?_);clear x0 x1 x2 f0 f1 f2 aJ au;clear hK' K' ah;have ah:=ag;clear ag;(try simp only[gE,aP]);refine ar 12 (.int .i64 0) ?_;(try simp only[gE,aP]);refine dW (by kernel_rfl) ?_ _;exact⟨rfl,SY,_,_,_,rfl,mM.o,eE,ic.o⟩
        ·intro K' hK';go_simp;have aO:=(aw Y5.heap.size Y5).alloc (ak _) (FC false ⟨#[]⟩ ⟨#[]⟩);have aJ:=hid (aL.new Y5 false ⟨#[]⟩ ⟨#[]⟩);have eE:jS.heap.size<=Y5.heap.size:=au.o.size;replace eV:=hid (eV.o.aa aO);replace au:=hid (au.o.trans (aO.ae au.o.size));refine hK'.o _ _ (bR.o _ au.o) (fun ag=>?_);clear aO;clear hK' K' ah;have ah:=ag;clear ag;obtain⟨SZ,Dq⟩:∃x,Y5.heap.size=x:=⟨_,rfl⟩;obtain⟨JQ,DK⟩:∃x,Y5.alloc (FC false ⟨#[]⟩ ⟨#[]⟩)=x:=⟨_,rfl⟩;have DJ:Y5.alloc (.cells #[.bool false,.string ⟨#[]⟩,.string ⟨#[]⟩] 32)=JQ:=DK;rw[Dq] at aJ eE;rw[DK] at au eV;rw[DJ] at aJ;simp only[DJ] at ah⊢;simp only[Dq];clear Dq DK DJ;(try simp only[gE,aP]);refine aI [6] (cA ?_ aH)
         ·intro K' hK';go_simp;refine(Gz.o p3 q3 JQ (BZ.o.step au.o) eV.o fO.o).ae ?_;rintro e Y12 ⟨rfl,hb⟩;replace aJ:=hid (aJ.o.aa hb aJ.o.lt);replace au:=hid (au.o.trans (hb.ae au.o.size));clear hb eV fO;refine hK'.o _ _ (bR.o _ au.o) (fun ag=>?_);clear hK' K' ah;have ah:=ag;clear ag;(try simp only[gE,aP]);refine ar 7 (.tuple #[.agg #[.bool rn,.string rx,.string ry],.int .i64 0]) ?_;(try simp only[gE,aP]);refine ar 8 (.agg #[.bool rn,.string rx,.string ry]) ?_;(try simp only[gE,aP]);refine ar 9 (.int .i64 0) ?_;(try simp only[gE,aP]);obtain⟨x0,x1,x2⟩:=aJ.o.facts;have f0:=aJ.o.fz 0;have f1:=aJ.o.fz 1;have f2:=aJ.o.fz 2;refine aI [11] (cA ?_ aH)
          ·intro K' hK';go_simp;have mM:=hid (aJ.o.put rn rx ry);have ic:=hid (df au.o eE (.bool rn) (.string rx) (.string ry));refine hK'.o _ _ (bR.o _ ic.o) (fun ag=>?_);clear x0 x1 x2 f0 f1 f2 aJ au;clear hK' K' ah;have ah:=ag;clear ag;(try simp only[gE,aP]);refine ar 12 (.int .i64 0) ?_;(try simp only[gE,aP]);refine dW (by kernel_rfl) ?_ _;exact⟨rfl,SZ,_,_,_,rfl,mM.o,eE,ic.o⟩
       ·intro K' hK';go_simp;have aO:=(aw Y3.heap.size Y3).alloc (ak _) (FC false ⟨#[]⟩ ⟨#[]⟩);have aJ:=hid (aL.new Y3 false ⟨#[]⟩ ⟨#[]⟩);have eE:jS.heap.size<=Y3.heap.size:=au.o.size;(have cR:Hid (∀k,v4.ownBlock=some k ->k≠Y3.heap.size):=fun k e=>by have:=HO.o.lt k e;omega);replace HO:=hid (HO.o.aa aO);replace au:=hid (au.o.trans (aO.ae au.o.size));refine hK'.o _ _ (bR.o _ au.o) (fun ag=>?_);clear aO;clear hK' K' ah;have ah:=ag;clear ag;obtain⟨DZ,Dp⟩:∃x,Y3.heap.size=x:=⟨_,rfl⟩;obtain⟨TR,DI⟩:∃x,Y3.alloc (FC false ⟨#[]⟩ ⟨#[]⟩)=x:=⟨_,rfl⟩;have DG:Y3.alloc (.cells #[.bool false,.string ⟨#[]⟩,.string ⟨#[]⟩] 32)=TR:=DI;rw[Dp] at aJ eE cR;rw[DI] at au HO;rw[DG] at aJ;simp only[DG] at ah⊢;simp only[Dp];clear Dp DI DG;(try simp only[gE,aP]);refine aI [5] (cA ?_ aH)
        ·intro K' hK';rw[aB (by rfl)];refine qh _ _ rfl jS.heap.size v4 (zF fb) (zF fc) rfl HO.o pc qc rfl (mP.o.aa au.o) zI.o (by have:=zN.o;have:=zM.o;omega) au.o.size ?_;intro v16 TQ ho hg hn;replace aJ:=hid (aJ.o.of_block (hg.block DZ aJ.o.lt (fun e=>cR.o DZ e.symm rfl)));clear cR;replace au:=hid (au.o.grown hg au.o.size HO.o.own);clear HO hg hn;rw[<- vZ] at ho;obtain⟨p3,q3,rfl,hf3,hl3, -⟩:=ho.facts;have eV:=hid hf3;have fO:=hid hl3;clear ho hf3 hl3;refine hK'.o _ _ (bR.o _ au.o) (fun ag=>?_);clear hK' K' ah;have ah:=ag;clear ag;(try simp only[gE,aP]);refine aI [6] (cA ?_ aH)
         ·intro K' hK';go_simp;refine(Gz.o p3 q3 TQ (BZ.o.step au.o) eV.o fO.o).ae ?_;rintro e Y17 ⟨rfl,hb⟩;replace aJ:=hid (aJ.o.aa hb aJ.o.lt);replace au:=hid (au.o.trans (hb.ae au.o.size));clear hb eV fO;refine hK'.o _ _ (bR.o _ au.o) (fun ag=>?_);clear hK' K' ah;have ah:=ag;clear ag;(try simp only[gE,aP]);refine ar 7 (.tuple #[.agg #[.bool rn,.string rx,.string ry],.int .i64 0]) ?_;(try simp only[gE,aP]);refine ar 8 (.agg #[.bool rn,.string rx,.string ry]) ?_;(try simp only[gE,aP]);refine ar 9 (.int .i64 0) ?_;(try simp only[gE,aP]);obtain⟨x0,x1,x2⟩:=aJ.o.facts;have f0:=aJ.o.fz 0;have f1:=aJ.o.fz 1;have f2:=aJ.o.fz 2;refine aI [11] (cA ?_ aH)
          ·intro K' hK';go_simp;have mM:=hid (aJ.o.put rn rx ry);have ic:=hid (df au.o eE (.bool rn) (.string rx) (.string ry));refine hK'.o _ _ (bR.o _ ic.o) (fun ag=>?_);clear x0 x1 x2 f0 f1 f2 aJ au;clear hK' K' ah;have ah:=ag;clear ag;(try simp only[gE,aP]);refine ar 12 (.int .i64 0) ?_;(try simp only[gE,aP]);refine dW (by kernel_rfl) ?_ _;exact⟨rfl,DZ,_,_,_,rfl,mM.o,eE,ic.o⟩
      ·intro K' hK';go_simp;have aO:=(aw Y2.heap.size Y2).alloc (ak _) (FC false ⟨#[]⟩ ⟨#[]⟩);have aJ:=hid (aL.new Y2 false ⟨#[]⟩ ⟨#[]⟩);have eE:jS.heap.size<=Y2.heap.size:=au.o.size;(have cR:Hid (∀k,(Value.slice (some ⟨DY,0,none⟩) 0 0).ownBlock=some k ->k≠Y2.heap.size):=fun k e=>by have:=HO.o.lt k e;omega);replace HO:=hid (HO.o.aa aO);replace au:=hid (au.o.trans (aO.ae au.o.size));refine hK'.o _ _ (bR.o _ au.o) (fun ag=>?_);clear aO;clear hK' K' ah;have ah:=ag;clear ag;obtain⟨rX,Dn⟩:∃x,Y2.heap.size=x:=⟨_,rfl⟩;obtain⟨TP,DF⟩:∃x,Y2.alloc (FC false ⟨#[]⟩ ⟨#[]⟩)=x:=⟨_,rfl⟩;have DD:Y2.alloc (.cells #[.bool false,.string ⟨#[]⟩,.string ⟨#[]⟩] 32)=TP:=DF;rw[Dn] at aJ eE cR;rw[DF] at au HO;rw[DD] at aJ;simp only[DD] at ah⊢;simp only[Dn];clear Dn DF DD;(try simp only[gE,aP]);refine aI [3] (cA ?_ aH)
       ·intro K' hK';rw[aB (by rfl)];refine qh _ _ rfl jS.heap.size (Value.slice (some ⟨DY,0,none⟩) 0 0) [] (zF fb) rfl HO.o pb qb rfl (sD.o.aa au.o) N6.o (by have:=zN.o;simp;omega) au.o.size ?_;intro v21 Y20 ho hg hn
        have p7:Hid (∀k,v21.ownBlock=some k ->k≠rX):=fun k e=>by
         rcases hn with hn |hn
         ·exact cR.o k (by rw[<- hn];exact e)
         ·have:=hn k e;have:=aJ.o.lt;omega
        replace aJ:=hid (aJ.o.of_block (hg.block rX aJ.o.lt (fun e=>cR.o rX e.symm rfl)));clear cR;have cR:=p7;clear p7;replace au:=hid (au.o.grown hg au.o.size HO.o.own);clear HO hg hn;have HO:=hid ho;clear ho;refine hK'.o _ _ (bR.o _ au.o) (fun ag=>?_);clear hK' K' ah;have ah:=ag;clear ag;(try simp only[gE,aP]);refine aI [5] (cA ?_ aH)
        ·intro K' hK';rw[aB (by rfl)];refine qh _ _ rfl jS.heap.size v21 (zF fb) (zF fc) rfl HO.o pc qc rfl (mP.o.aa au.o) zI.o (by have:=zN.o;have:=zM.o;omega) au.o.size ?_;intro v23 TN ho hg hn;replace aJ:=hid (aJ.o.of_block (hg.block rX aJ.o.lt (fun e=>cR.o rX e.symm rfl)));clear cR;replace au:=hid (au.o.grown hg au.o.size HO.o.own);clear HO hg hn;rw[<- vZ] at ho;obtain⟨p3,q3,rfl,hf3,hl3, -⟩:=ho.facts;have eV:=hid hf3;have fO:=hid hl3;clear ho hf3 hl3;refine hK'.o _ _ (bR.o _ au.o) (fun ag=>?_);clear hK' K' ah;have ah:=ag;clear ag;(try simp only[gE,aP]);refine aI [6] (cA ?_ aH)
         ·intro K' hK';go_simp;refine(Gz.o p3 q3 TN (BZ.o.step au.o) eV.o fO.o).ae ?_;rintro e Y24 ⟨rfl,hb⟩;replace aJ:=hid (aJ.o.aa hb aJ.o.lt);replace au:=hid (au.o.trans (hb.ae au.o.size));clear hb eV fO;refine hK'.o _ _ (bR.o _ au.o) (fun ag=>?_);clear hK' K' ah;have ah:=ag;clear ag;(try simp only[gE,aP]);refine ar 7 (.tuple #[.agg #[.bool rn,.string rx,.string ry],.int .i64 0]) ?_;(try simp only[gE,aP]);refine ar 8 (.agg #[.bool rn,.string rx,.string ry]) ?_;(try simp only[gE,aP]);refine ar 9 (.int .i64 0) ?_;(try simp only[gE,aP]);obtain⟨x0,x1,x2⟩:=aJ.o.facts;have f0:=aJ.o.fz 0;have f1:=aJ.o.fz 1;have f2:=aJ.o.fz 2;refine aI [11] (cA ?_ aH)
          ·intro K' hK';go_simp;have mM:=hid (aJ.o.put rn rx ry);have ic:=hid (df au.o eE (.bool rn) (.string rx) (.string ry));refine hK'.o _ _ (bR.o _ ic.o) (fun ag=>?_);clear x0 x1 x2 f0 f1 f2 aJ au;clear hK' K' ah;have ah:=ag;clear ag;(try simp only[gE,aP]);refine ar 12 (.int .i64 0) ?_;(try simp only[gE,aP]);refine dW (by kernel_rfl) ?_ _;exact⟨rfl,rX,_,_,_,rfl,mM.o,eE,ic.o⟩
     ·intro K' hK';go_simp;have aO:=(aw Y0.heap.size Y0).alloc (ak _) (FC false ⟨#[]⟩ ⟨#[]⟩);have aJ:=hid (aL.new Y0 false ⟨#[]⟩ ⟨#[]⟩);have eE:jS.heap.size<=Y0.heap.size:=au.o.size;replace au:=hid (au.o.trans (aO.ae au.o.size));refine hK'.o _ _ (bR.o _ au.o) (fun ag=>?_);clear aO;clear hK' K' ah;have ah:=ag;clear ag;obtain⟨pS,Dm⟩:∃x,Y0.heap.size=x:=⟨_,rfl⟩;obtain⟨pW,Dz⟩:∃x,Y0.alloc (FC false ⟨#[]⟩ ⟨#[]⟩)=x:=⟨_,rfl⟩;have Dy:Y0.alloc (.cells #[.bool false,.string ⟨#[]⟩,.string ⟨#[]⟩] 32)=pW:=Dz;rw[Dm] at aJ eE;rw[Dz] at au;rw[Dy] at aJ;simp only[Dy] at ah⊢;simp only[Dm];clear Dm Dz Dy;(try simp only[gE,aP]);refine aI [1] (cA ?_ aH)
      ·intro K' hK';go_simp;have aO:=(aw pW.heap.size pW).alloc (ak _) (.cells #[] 90);have HO:=hid ((fp.start pW).lower au.o.size);(have cR:Hid (∀k,(Value.slice (some ⟨pW.heap.size,0,none⟩) 0 0).ownBlock=some k ->k≠pS):=fun k e=>by cases e;exact Nat.ne_of_gt aJ.o.lt);replace aJ:=hid (aJ.o.aa aO aJ.o.lt);replace au:=hid (au.o.trans (aO.ae au.o.size));refine hK'.o _ _ (bR.o _ au.o) (fun ag=>?_);clear aO;clear hK' K' ah;have ah:=ag;clear ag;obtain⟨SR,Dj⟩:∃x,pW.heap.size=x:=⟨_,rfl⟩;obtain⟨Y28,Dx⟩:∃x,pW.alloc (.cells #[] 90)=x:=⟨_,rfl⟩;rw[Dj] at HO cR;rw[Dx] at HO au aJ;simp only[Dx] at ah⊢;simp only[Dj];clear Dj Dx;(try simp only[gE,aP]);refine aI [3] (cA ?_ aH)
       ·intro K' hK';rw[aB (by rfl)];refine qh _ _ rfl jS.heap.size (Value.slice (some ⟨SR,0,none⟩) 0 0) [] (zF fb) rfl HO.o pb qb rfl (sD.o.aa au.o) N6.o (by have:=zN.o;simp;omega) au.o.size ?_;intro v30 Y29 ho hg hn
        have p7:Hid (∀k,v30.ownBlock=some k ->k≠pS):=fun k e=>by
         rcases hn with hn |hn
         ·exact cR.o k (by rw[<- hn];exact e)
         ·have:=hn k e;have:=aJ.o.lt;omega
        replace aJ:=hid (aJ.o.of_block (hg.block pS aJ.o.lt (fun e=>cR.o pS e.symm rfl)));clear cR;have cR:=p7;clear p7;replace au:=hid (au.o.grown hg au.o.size HO.o.own);clear HO hg hn;have HO:=hid ho;clear ho;refine hK'.o _ _ (bR.o _ au.o) (fun ag=>?_);clear hK' K' ah;have ah:=ag;clear ag;(try simp only[gE,aP]);refine aI [5] (cA ?_ aH)
        ·intro K' hK';rw[aB (by rfl)];refine qh _ _ rfl jS.heap.size v30 (zF fb) (zF fc) rfl HO.o pc qc rfl (mP.o.aa au.o) zI.o (by have:=zN.o;have:=zM.o;omega) au.o.size ?_;intro v32 TM ho hg hn;replace aJ:=hid (aJ.o.of_block (hg.block pS aJ.o.lt (fun e=>cR.o pS e.symm rfl)));clear cR;replace au:=hid (au.o.grown hg au.o.size HO.o.own);clear HO hg hn;rw[<- vZ] at ho;obtain⟨p3,q3,rfl,hf3,hl3, -⟩:=ho.facts;have eV:=hid hf3;have fO:=hid hl3;clear ho hf3 hl3;refine hK'.o _ _ (bR.o _ au.o) (fun ag=>?_);clear hK' K' ah;have ah:=ag;clear ag;(try simp only[gE,aP]);refine aI [6] (cA ?_ aH)
         ·intro K' hK';go_simp;refine(Gz.o p3 q3 TM (BZ.o.step au.o) eV.o fO.o).ae ?_;rintro e Y33 ⟨rfl,hb⟩;replace aJ:=hid (aJ.o.aa hb aJ.o.lt);replace au:=hid (au.o.trans (hb.ae au.o.size));clear hb eV fO;refine hK'.o _ _ (bR.o _ au.o) (fun ag=>?_);clear hK' K' ah;have ah:=ag;clear ag;(try simp only[gE,aP]);refine ar 7 (.tuple #[.agg #[.bool rn,.string rx,.string ry],.int .i64 0]) ?_;(try simp only[gE,aP]);refine ar 8 (.agg #[.bool rn,.string rx,.string ry]) ?_;(try simp only[gE,aP]);refine ar 9 (.int .i64 0) ?_;(try simp only[gE,aP]);obtain⟨x0,x1,x2⟩:=aJ.o.facts;have f0:=aJ.o.fz 0;have f1:=aJ.o.fz 1;have f2:=aJ.o.fz 2;refine aI [11] (cA ?_ aH)
          ·intro K' hK';go_simp;have mM:=hid (aJ.o.put rn rx ry);have ic:=hid (df au.o eE (.bool rn) (.string rx) (.string ry));refine hK'.o _ _ (bR.o _ ic.o) (fun ag=>?_);clear x0 x1 x2 f0 f1 f2 aJ au;clear hK' K' ah;have ah:=ag;clear ag;(try simp only[gE,aP]);refine ar 12 (.int .i64 0) ?_;(try simp only[gE,aP]);refine dW (by kernel_rfl) ?_ _;exact⟨rfl,pS,_,_,_,rfl,mM.o,eE,ic.o⟩
    rintro e a' W23 ⟨rfl,gr,u1,u2,u3,rfl,xr,lr,hb⟩;have NS:=hid (BZ.o.step hb);replace mL:=hid (mL.o.aa hb mL.o.lt);replace vt:=hid (vt.o.aa hb vt.o.lt);have BO:=hid xr;replace mP:=hid (mP.o.aa hb);clear hb xr lr BZ sD Gz;(try simp only[aP]);obtain⟨b0,b1,b2⟩:=NS.o.box.cells;go_wp2_with fail
    clear b0 b1 b2;refine(acN.o pc qc _ NS.o mP.o HCc.o).ae ?_;rintro e Eb ⟨rfl,hb⟩;have acG:=hid (NS.o.step hb);replace mL:=hid (mL.o.aa hb mL.o.lt);replace vt:=hid (vt.o.aa hb vt.o.lt);replace BO:=hid (BO.o.aa hb BO.o.lt);clear hb NS mP acN;have aO:Below Eb.heap.size Eb (Eb.alloc (FC sn sx sy)):=(aw _ Eb).alloc (ak _) _;have HXS:=hid (aL.new Eb sn sx sy);have acF:=hid (acG.o.step aO);replace mL:=hid (mL.o.aa aO mL.o.lt);replace vt:=hid (vt.o.aa aO vt.o.lt);replace BO:=hid (BO.o.aa aO BO.o.lt);clear aO acG;go_upto_region 24 with fail
    generalize mC:Eb.heap.size=gs at *;generalize (Eb.alloc (FC sn sx sy))=BI at *;clear mC;have bR:Hid (∀U:World,Below BI.heap.size BI U ->(U.cell? ⟨gp,0,none⟩=some (.bool pn)/\U.cell? ⟨gp,1,none⟩=some (.string px)/\U.cell? ⟨gp,2,none⟩=some (.string py))/\(U.cell? ⟨gq,0,none⟩=some (.bool qn)/\U.cell? ⟨gq,1,none⟩=some (.string qx)/\U.cell? ⟨gq,2,none⟩=some (.string qy))/\(U.cell? ⟨gr,0,none⟩=some (.bool rn)/\U.cell? ⟨gr,1,none⟩=some (.string rx)/\U.cell? ⟨gr,2,none⟩=some (.string ry))/\(U.cell? ⟨gs,0,none⟩=some (.bool sn)/\U.cell? ⟨gs,1,none⟩=some (.string sx)/\U.cell? ⟨gs,2,none⟩=some (.string sy))):=fun U hU=>⟨(mL.o.aa hU mL.o.lt).three,(vt.o.aa hU vt.o.lt).three,(BO.o.aa hU BO.o.lt).three,(HXS.o.aa hU HXS.o.lt).three⟩;have au:Hid (Below BI.heap.size BI BI.drew):=(aw BI.heap.size BI).drew;obtain⟨X0,MF⟩:∃x,BI.drew=x:=⟨_,rfl⟩;rw[MF] at au;refine kC (S:=fun U=>(U.cell? ⟨gp,0,none⟩=some (.bool pn)/\U.cell? ⟨gp,1,none⟩=some (.string px)/\U.cell? ⟨gp,2,none⟩=some (.string py))/\(U.cell? ⟨gq,0,none⟩=some (.bool qn)/\U.cell? ⟨gq,1,none⟩=some (.string qx)/\U.cell? ⟨gq,2,none⟩=some (.string qy))/\(U.cell? ⟨gr,0,none⟩=some (.bool rn)/\U.cell? ⟨gr,1,none⟩=some (.string rx)/\U.cell? ⟨gr,2,none⟩=some (.string ry))/\(U.cell? ⟨gs,0,none⟩=some (.bool sn)/\U.cell? ⟨gs,1,none⟩=some (.string sx)/\U.cell? ⟨gs,2,none⟩=some (.string sy))) (by kernel_rfl) (by rw[MF];exact bR.o _ au.o) (fun ah=>?_);rw[MF] at ah⊢;clear MF;(try simp only[gE,aP]);refine ar 0 (.int .i64 0) ?_;(try simp only[gE,aP])
    refine ar 1 (.bool true) ?_;(try simp only[gE,aP]);refine ar 2 (.bool true) ?_;(try simp only[gE,aP]);refine ar 3 (.int .i64 0) ?_;(try simp only[gE,aP]);refine ar 4 (.bool true) ?_;(try simp only[gE,aP]);refine ar 5 (.bool true) ?_;(try simp only[gE,aP]);refine ar 6 (.bool true) ?_;(try simp only[gE,aP]);refine ar 7 (.int .i64 0) ?_;(try simp only[gE,aP]);refine ar 8 (.bool true) ?_;(try simp only[gE,aP]);refine ar 9 (.bool true) ?_;(try simp only[gE,aP]);refine ar 10 (.bool true) ?_;(try simp only[gE,aP]);refine ar 11 (.int .i64 0) ?_;(try simp only[gE,aP]);refine ar 12 (.bool true) ?_;(try simp only[gE,aP]);refine ar 13 (.bool true) ?_;(try simp only[gE,aP]);refine ar 14 (.bool true) ?_;(try simp only[gE,aP]);refine dm 15 (.agg #[.bool pn,.string px,.string py]) ?_ ?_
    ·intro u' aS;try simp only[gE];obtain⟨⟨s0,s1,s2⟩,⟨s3,s4,s5⟩,⟨s6,s7,s8⟩,⟨s9,yA,PJ⟩⟩:=aS;go_simp
    (try simp only[gE,aP]);refine dm 16 (.agg #[.bool sn,.string sx,.string sy]) ?_ ?_
    ·intro u' aS;try simp only[gE];obtain⟨⟨s0,s1,s2⟩,⟨s3,s4,s5⟩,⟨s6,s7,s8⟩,⟨s9,yA,PJ⟩⟩:=aS;go_simp
    (try simp only[gE,aP]);refine dm 18 (.agg #[.bool qn,.string qx,.string qy]) ?_ ?_
    ·intro u' aS;try simp only[gE];obtain⟨⟨s0,s1,s2⟩,⟨s3,s4,s5⟩,⟨s6,s7,s8⟩,⟨s9,yA,PJ⟩⟩:=aS;go_simp
    (try simp only[gE,aP]);refine dm 19 (.agg #[.bool rn,.string rx,.string ry]) ?_ ?_
    ·intro u' aS;try simp only[gE];obtain⟨⟨s0,s1,s2⟩,⟨s3,s4,s5⟩,⟨s6,s7,s8⟩,⟨s9,yA,PJ⟩⟩:=aS;go_simp
    (try simp only[gE,aP]);refine aI [17] (cA ?_ aH)
    ·intro K' hK';go_simp;refine(HMP.o _).ae ?_;rintro e X1 ⟨rfl,hb⟩;replace au:=hid (au.o.trans (hb.ae au.o.size));clear hb;refine hK'.o _ _ (bR.o _ au.o) (fun ag=>?_);clear hK' K' ah;have ah:=ag;clear ag;(try simp only[gE,aP]);refine aI [20] (cA ?_ aH)
     ·intro K' hK';go_simp;refine(HMQ.o _).ae ?_;rintro e X2 ⟨rfl,hb⟩;replace au:=hid (au.o.trans (hb.ae au.o.size));clear hb;refine hK'.o _ _ (bR.o _ au.o) (fun ag=>?_);clear hK' K' ah;have ah:=ag;clear ag;(try simp only[gE,aP]);refine ar 21 (.bool true) ?_;(try simp only[gE,aP]);refine ar 22 (.bool true) ?_;(try simp only[gE,aP]);refine ar 23 (.bool true) ?_;(try simp only[gE,aP]);refine dW (by kernel_rfl) ?_ _;go_wp2;go_ret;exact⟨rfl,acF.o.fr.trans (au.o.ae acF.o.fr.size)⟩
open Go.ChangeShapes Go.WideShapes Go.ChangeAt
variable {fn:Func}
theorem ah8 {H:Type} {enc:TypeId×Value ->H} {a:Assume} {C:Checked} {os:Os} {f:FuncId} {s:ChangeSpec} {conds:List PathCond} {apart fresh handsOn again:Bool} {X:World ->Array Value ->Prop}
  (hX:∀(w w':World) (args:Array Value),w.heap=w'.heap ->X w args ->X w' args)
  (own:ownKnob C.prog.godebug=none) (started:os.Started) (agX:C.prog.inits.idxOf? f=none) (hfn:C.prog.funcs[f]? =some fn)
  (witness:∃(w:World) (tape:Tape) (i:Input),w.os=os/\(w.forCall tape i).Shaped C.prog/\i.vars=[]/\Input.okWide C.prog (w.forCall tape i) .any w.heap.size f i/\
   ((s.pre enc C.prog fn conds apart (w.forCall tape i).memory i.args/\X (w.forCall tape i).memory i.args)/\sizedMet enc C.prog fn (OpenSpec.ofChange s) apart (w.forCall tape i).memory i.args)/\a.holds C.prog (lone (Frame.enter C.prog f i.args .normal) [] (w.forCall tape i)))
  (walk:∀(W:World) (base:Nat) (args:Array Value) (ds gs:List (DataW H)) (before:List MemPlace),
   (∀(j:Nat) t v,fn.params[j]? =some t ->args[j]? =some v ->Value.okWide C.prog W .any base t v) ->
   DataW.Whole enc C.prog fn.params.toList s.vars apart W args.toList ds gs before ->
   (DataW.weightsEach C.prog (fn.params.toList++s.plain.varTypes C.prog) (ds++gs)).all (·<=reachBytes)=true ->X W args ->W.ShapedOpen C.prog ->
   Calls C.prog f args W fun e W'=>∃v,e=.returned v/\s.post enc C.prog fn apart fresh handsOn again W args v W'):
  ReturnsInHanded a C os f .any (fun w args=>(s.pre enc C.prog fn conds apart w args/\X w args)/\sizedMet enc C.prog fn (OpenSpec.ofChange s) apart w args) (s.post enc C.prog fn apart fresh handsOn again):=by
 refine returnsInHanded_of_calls own started agX witness ?_;intro w tape i _ uw _ aV hpre _;obtain⟨_,_,_,fn',ajh,_,_,_,_,hval⟩:=aV;obtain rfl:fn'=fn:=k7 (ajh.symm.trans hfn);obtain⟨⟨⟨ds,gs,before,hw,_⟩,hx⟩,hz⟩:=hpre;refine(walk (w.forCall tape i) w.heap.size i.args ds gs before hval (DataW.Whole.of_heap (w':=w.forCall tape i) (by rfl) hw) (hz.weights hw) (hX _ _ _ (by rfl) hx) uw).ae fun e W' ⟨v,he,hp⟩=>?_;subst he;exact ChangeSpec.post_blind hp
theorem alB {a:Addr} {v:Value} (h:w.cell? a=some v):a.block<w.heap.size:=by
 rcases cM a.block w.heap.size with h1 |h1
 ·exact h1
 ·simp[World.cell?,Array.getElem?_eq_none h1] at h
variable {j:Nat}
def sW {H:Type} (x:Int):DataW H:=.lit (.int .i64 x)
theorem alz:Tryz.prog.cellsOf 3=1:=by kernel_rfl
theorem La {H:Type} {enc:TypeId×Value ->H} {W:World} {fuel:Nat} {cs:List Value} {x:DataW H×List MemPlace} (hf:DataW.trod enc Tryz.prog W 0 (fun _=>true) true fuel 27 cs=some x):
  ∃(a:Option Addr) (cap:Nat) (l:List Int),cs=[.slice a l.length cap]/\aC W a l/\(a=none ->cap=0)/\((x.1=.nil/\l=[])∨∃rest,x.1=.slice (l.map sW) rest)/\∀y∈l, -9223372036854775808<=y/\y<=9223372036854775807:=by
 rcases Deep.open_slice Tryz.underlying27 hf with ⟨hcs,hx⟩ |⟨a',len,cap,m,n,D,Pl,hcs,hb,hl,hm,hmm,hx,hel⟩
 ·exact⟨none,0,[],hcs,fun k hk=>absurd hk (by simp),fun _=>rfl,.inl ⟨by rw[hx],rfl⟩,fun _ h=>by cases h⟩
 ·have kj:len<=m:=by rw[hmm];split<;>omega
  rw[alz] at hel
  have each:∀i,i<len ->∃z:Int,(W.cell? (a'.add (i*1))=some (.int .i64 z)/\ -9223372036854775808<=z/\z<=9223372036854775807)/\D i=sW z:=by
   intro i hi;obtain⟨cs',h1,h2⟩:=hel i (by omega);obtain⟨_,hlen,hcell⟩:=World.cells?_some h1;obtain⟨z,e0,ZE,hwf⟩:=DataW.trod_int Tryz.underlying3 h2;subst e0;simp only[Prod.mk.injEq] at ZE;have g0:=hcell 0 (by omega);rw[Deep.add_add] at g0;exact⟨z,⟨by simpa using g0,bounds_i64 hwf⟩,ZE.1⟩
  obtain⟨f,hf2⟩:=Deep.choose_lt (α:=Int) each;refine⟨some a',cap,(List.range len).map f,by rw[hcs];simp,?_,fun e=>by(cases e),.inr ⟨(List.range (m - len)).map fun j=>D (len+j),?_⟩,?_⟩
  ·intro k hk;(have fN:k<len:=by simpa using hk);obtain⟨⟨g0,_⟩,_⟩:=hf2 k fN;obtain⟨⟨z0,_⟩,_⟩:=hf2 0 (by omega);have hsp:=World.cell?_spot z0;obtain⟨bb,oo,sp⟩:=a';rw[mQ] at hsp;simp[Addr.add] at hsp;subst hsp;rw[WideShapes.add_plain] at g0;refine⟨bb,oo,rfl,alB g0,?_⟩;simpa using g0
  ·rw[hx];show DataW.slice _ _=DataW.slice _ _;congr 1
   rw[Ae];exact vT fun i hi=>(hf2 i (ck.1 hi)).2
  ·intro y hy;obtain⟨i,hi,rfl⟩:=aU.1 hy;exact(hf2 i (ck.1 hi)).1.2
theorem open_ints {H:Type} {enc:TypeId×Value ->H} {W:World} {r:Reach} {b0:Nat} {v:Value} {d:DataW H} {p:List MemPlace} (hval:Value.okWide Tryz.prog W r b0 27 v) (h:DataW.Trod enc Tryz.prog W 0 (fun _=>true) true 27 v d p):
  ∃(a:Option Addr) (cap:Nat) (l:List Int),v=.slice a l.length cap/\aC W a l/\(a=none ->cap=0)/\((d=.nil/\l=[])∨∃rest,d=.slice (l.map sW) rest)/\∀x∈l, -9223372036854775808<=x/\x<=9223372036854775807:=by
 obtain⟨a,len,cap,rfl⟩:=okWide_slice Tryz.underlying27 hval;obtain⟨fuel,hf⟩:=h;obtain⟨a',cap',l,hcs,hi,h0,hd,hr⟩:=La hf;simp[Value.cells] at hcs;obtain⟨rfl,rfl,rfl⟩:=hcs;exact⟨a,cap,l,rfl,hi,h0,hd,hr⟩
theorem alF:Tryz.prog.bytesOf 3=8:=by kernel_rfl
theorem CG {H:Type} {ts:List TypeId} {ds:List (DataW H)} (h:(DataW.weightsEach Tryz.prog ts ds).all (·<=reachBytes)=true) {d:DataW H} (ht:ts[j]? =some 27) (hd:ds[j]? =some d) (hl:(d=.nil/\l=[])∨∃rest,d=.slice (l.map sW) rest):
  l.length<=140737488355328:=by
 rcases hl with ⟨_,rfl⟩ |⟨rest,rfl⟩
 ·simp
 have h1:=dN.1 h _ (DataW.weights_mem_each ht hd (((l.map (sW (H:=H))).length+rest.length)*Tryz.prog.bytesOf 3) (by simp[DataW.weights,Tryz.underlying27]));have h1':((l.map (sW (H:=H))).length+rest.length)*Tryz.prog.bytesOf 3<=reachBytes:=by simpa using h1
 rw[alF,cH] at h1';simp only[reachBytes] at h1';omega
theorem alx:Tryz.prog.cellsOf 48=4:=by kernel_rfl
theorem aly:Tryz.prog.cellsOf 27=1:=by kernel_rfl
theorem alA:Tryz.prog.cellsOf 4=1:=by kernel_rfl
theorem agG {H:Type} {enc:TypeId×Value ->H} {W:World} {r:Reach} {b0:Nat} {v:Value} {d:DataW H} {p:List MemPlace} (hval:Value.okWide Tryz.prog W r b0 48 v) (h:DataW.Trod enc Tryz.prog W 0 (fun _=>true) true 48 v d p):
  ∃(a1 a2 a3:Option Addr) (c1 c2 c3:Nat) (L1 L2 L3:List Int) (bk:Bool) (d1 d2 d3 d4:DataW H),v=.agg #[.slice a1 L1.length c1,.slice a2 L2.length c2,.slice a3 L3.length c3,.bool bk]/\d=.agg [d1,d2,d3,d4]/\aC W a1 L1/\aC W a2 L2/\aC W a3 L3/\
   ((d1=.nil/\L1=[])∨∃rest,d1=.slice (L1.map sW) rest)/\((d2=.nil/\L2=[])∨∃rest,d2=.slice (L2.map sW) rest)/\((d3=.nil/\L3=[])∨∃rest,d3=.slice (L3.map sW) rest)/\
   (∀x∈L1, -9223372036854775808<=x/\x<=9223372036854775807)/\(∀x∈L2, -9223372036854775808<=x/\x<=9223372036854775807)/\(∀x∈L3, -9223372036854775808<=x/\x<=9223372036854775807):=by
 obtain⟨cs,rfl,hsz⟩:=okWide_struct Tryz.underlying48 hval;rw[alx] at hsz;obtain⟨l⟩:=cs;match l,hsz with
 |[c0,c1,c2,c3],_=>
  obtain⟨fuel,hf⟩:=h;obtain⟨y0,y1,y2,y3,m,hx,_,sX,hy1,hy2,FA⟩:=Go.Joins.trod_struct4 Tryz.underlying48 hf;simp[Value.cells,aly,alA] at sX hy1 hy2 FA;obtain⟨a1,k1,L1,e0,h0,_,g0,r0⟩:=La sX;obtain⟨a2,k2,L2,e1,h1,_,g1,r1⟩:=La hy1;obtain⟨a3,k3,L3,e2,h2,_,g2,r2⟩:=La hy2;obtain⟨nn,e3,rfl⟩:=DataW.trod_bool Tryz.underlying4 FA;obtain rfl:c0=_:=by simpa using e0
  obtain rfl:c1=_:=by simpa using e1
  obtain rfl:c2=_:=by simpa using e2
  obtain rfl:c3=_:=by simpa using e3
  simp only[Prod.mk.injEq] at hx;exact⟨a1,a2,a3,k1,k2,k3,L1,L2,L3,_,_,_,_,_,rfl,hx.1,h0,h1,h2,g0,g1,g2,r0,r1,r2⟩
theorem aeA {H:Type} {ts:List TypeId} {ds:List (DataW H)} (h:(DataW.weightsEach Tryz.prog ts ds).all (·<=reachBytes)=true) {L1 L2 L3:List Int} {d1 d2 d3 d4:DataW H} (ht:ts[j]? =some 48) (hd:ds[j]? =some (.agg [d1,d2,d3,d4])) (h1:(d1=.nil/\L1=[])∨∃rest,d1=.slice (L1.map sW) rest) (h2:(d2=.nil/\L2=[])∨∃rest,d2=.slice (L2.map sW) rest) (h3:(d3=.nil/\L3=[])∨∃rest,d3=.slice (L3.map sW) rest):
  L1.length<=140737488355328/\L2.length<=140737488355328/\L3.length<=140737488355328:=by
 have h':(DataW.weightsEach Tryz.prog [27,27,27,4] [d1,d2,d3,d4]).all (·<=reachBytes)=true:=by
  rw[dN];intro n hn;refine dN.1 h _ (DataW.weights_mem_each ht hd n ?_);simp only[DataW.weights,Tryz.underlying48];exact hn
 exact⟨CG h' (j:=0) rfl rfl h1,CG h' (j:=1) rfl rfl h2,CG h' (j:=2) rfl rfl h3⟩
theorem aca {H:Type} {enc:TypeId×Value ->H} {P:Program} (hl:laidOutB P=true) {W:World} (hb:Below W.heap.size W W'):∀ {ts:List TypeId} {vs:List Value} {ds:List (DataW H)} {ps:List MemPlace},
  (ts.all fun t=>P.readableRec t&&decide (t<P.types.size))=true ->DataW.TrodAll enc P W 0 (fun _=>true) true ts vs ds ps ->DataW.TrodAll enc P W' 0 (fun b=>decide (b<W.heap.size)) true ts vs ds ps
 |[],[],[],_,_,h=>h
 |t::ts,v::vs,d::ds,_,ht,⟨p,q,h,hr,e⟩=>by
  rw[List.all_cons,fD,fD] at ht;refine⟨p,q,Below.trod hl ht.1.1 (kY ht.1.2) h hb ?_,aca hl hb ht.2 hr,e⟩;obtain⟨m,hm⟩:=h;exact DataW.trod_lt m _ _ _ hm
 |[],_::_,_,_,_,h=>by simp[DataW.TrodAll] at h
 |[],[],_::_,_,_,h=>by simp[DataW.TrodAll] at h
 |_::_,[],_,_,_,h=>by simp[DataW.TrodAll] at h
 |_::_,_::_,[],_,_,h=>by simp[DataW.TrodAll] at h
end Go.Proofs.YtfgkjjlocjmfeaaGreatDoor
