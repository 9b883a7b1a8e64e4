/- Part5: part 5. -/
import Derived.Test.YtdnhgjeihdllbaaGreatDoorSide4
set_option maxRecDepth 100000
set_option maxHeartbeats 4000000
set_option linter.unusedSimpArgs false
set_option linter.unusedVariables false
namespace Go.Proofs.YtdnhgjeihdllbaaGreatDoor
open Go.RowKit Go.Shelf Go.Lib
def Ca (p:Nat):Nat:=[2,2,3,2,1].getD p 2
theorem asE (p:Nat):1<=Ca p/\Ca p<=3:=by
 match p with
 |0=>decide
 |1=>decide
 |2=>decide
 |3=>decide
 |4=>decide
 |p+5=>exact⟨by show 1<=2;omega,by show 2<=3;omega⟩
theorem as7 (W:World) {p:Nat} (hp:p<5):(W.alloc (.cells #[.int .i64 2,.int .i64 2,.int .i64 3,.int .i64 2,.int .i64 1] 3)).cell? ⟨W.heap.size,p,none⟩=some (.int .i64 (Ca p:Nat)):=by
 rw[cC _ _ _ _ _ (0,0) (kd W _)];match p,hp with
 |0,_=>rfl
 |1,_=>rfl
 |2,_=>rfl
 |3,_=>rfl
 |4,_=>rfl
def atp (w:World) (e:Ending) (w':World):Prop:=∃(bk:Bool) (n:Nat) (x y z:Value) (Vs:List PV) (Ls:List PL) (Rs:List PR),e=.returned (.agg #[x,y,z])/\(1<=n/\n<=6)/\VK n Vs/\kC bk n n (ah (eh Vs)) Ls Rs/\fF w' w.heap.size x Vs/\gG w' w.heap.size y Ls/\gw w' w.heap.size z Rs/\Below w.heap.size w w'
def NH (l:List Int):Prop:=l.length<=140737488355328/\∀x∈l, -9223372036854775808<=x/\x<=9223372036854775807
theorem asz (a1 a2 a3:Option Addr) (c1 c2 c3:Nat) (L1 L2 L3:List Int) (bk:Bool) (w:World) (h1:aaK w a1 L1) (h2:aaK w a2 L2) (h3:aaK w a3 L3) (r1:NH L1) (r2:NH L2) (r3:NH L3):
  Calls Tryz.prog 17 #[.agg #[.slice a1 L1.length c1,.slice a2 L2.length c2,.slice a3 L3.length c3,.bool bk]] w fun e w'=>atp w e w':=by
 have pL:=hid h1;have iU:=hid h2;have Qk:=hid h3;have ur:=hid r1.2;have iT:=hid r2.2;have jH:=hid r3.2;have hl1:=r1.1;have hl2:=r2.1;have hl3:=r3.1;have JG:=hid (fun (i:Nat) (hi:i<=1000) (U:World)=>aqM i U hi);have jZ:=hid (fun (i:Nat) (hi:i<=1000) (U:World)=>aqK i U hi);have F9:=hid (fun (k:Nat) (hk:k<=3) (U:World)=>atg k U hk);have Qa:=hid (fun (c:Int) (h: -9223372036854775808<=c/\c<=9223372036854775807) (U:World)=>apy c 5 U h.1 h.2 (by omega) (by omega));have V1:=hid (fun (k:Nat) (hk:k<=100000) (n:Nat) (h1:1<=n) (h3':n<=3) (U:World) (hU:aaK U a3 L3)=>asa a3 c3 k n L3 U hU r3.2 hk h1 h3' r3.1);have LY:=hid (fun (c:Int) (h: -9223372036854775808<=c/\c<=9223372036854775807) (U:World)=>apy c 2 U h.1 h.2 (by omega) (by omega));clear h1 h2 h3 r1 r2 r3;have ap4:((w.alloc (.cells #[.slice a1 L1.length c1,.slice a2 L2.length c2,.slice a3 L3.length c3,.bool bk] 48)).alloc (NC (.slice none 0 0) (.slice none 0 0) (.slice none 0 0))).heap[w.heap.size]? =some (.cells #[.slice a1 L1.length c1,.slice a2 L2.length c2,.slice a3 L3.length c3,.bool bk] 48 (0,0)):=(rY _ _ _ (by simp)).trans (kd w _);have hc0:((w.alloc (.cells #[.slice a1 L1.length c1,.slice a2 L2.length c2,.slice a3 L3.length c3,.bool bk] 48)).alloc (NC (.slice none 0 0) (.slice none 0 0) (.slice none 0 0))).cell? ⟨w.heap.size,0,none⟩=some (.slice a1 L1.length c1):=by rw[cC _ _ _ _ _ (0,0) ap4];rfl
 have V4:Hid (MS w (((w.alloc (.cells #[.slice a1 L1.length c1,.slice a2 L2.length c2,.slice a3 L3.length c3,.bool bk] 48)).alloc (NC (.slice none 0 0) (.slice none 0 0) (.slice none 0 0))).alloc (NC (.slice none 0 0) (.slice none 0 0) (.slice none 0 0))) (.slice a1 L1.length c1) (.slice a2 L2.length c2) (.slice a3 L3.length c3) bk (.slice none 0 0) (.slice none 0 0) (.slice none 0 0) [] [] []):=⟨(rY _ _ _ (by simp;omega)).trans ap4,(gX.at (by simp) _ _ _).aa ((au _ _).alloc (ar _) _) (by simp),gX.at (by simp) _ _ _,fF.nil _ _,gG.nil _ _,gw.nil _ _,(((au _ w).alloc (ar _) _).alloc (by simp) _).alloc (by simp;omega) _⟩;clear ap4;go_enter Tryz.func17,Tryz.ntmps17;go_upto_if 23 with fail
 clear hc0;generalize hW0:((w.alloc (.cells #[.slice a1 L1.length c1,.slice a2 L2.length c2,.slice a3 L3.length c3,.bool bk] 48)).alloc (NC (.slice none 0 0) (.slice none 0 0) (.slice none 0 0)))=W0 at *;go_cut [3] from 19 to 25 (fun s wx=>∃n:Nat,s=.int .i64 (n:Nat)/\1<=n/\n<=140737488355328/\wx=W0)
 case first=>
  by_cases hl:L1.length<1
  ·have hl':(L1.length:Int)<1:=by omega
   go_wp2_with fail
   go_meet
   exact⟨1,rfl,by omega,by omega,rfl⟩
  ·have hl':(1:Int)<=(L1.length:Int):=by omega
   go_wp2_with fail
   go_meet
   exact⟨L1.length,rfl,by omega,by omega,rfl⟩
 case rest=>
 obtain⟨n0,rfl,asQ,asP,hcw⟩:=hcut;rw[hcw];clear hcw;go_upto_if 25 with fail
 go_cut [3] from 19 to 25 (fun s wx=>∃n:Nat,s=.int .i64 (n:Nat)/\1<=n/\n<=6/\wx=W0)
 case first=>
  by_cases hl:6<n0
  ·have hl':(6:Int)<(n0:Int):=by omega
   go_wp2_with fail
   go_meet
   exact⟨6,rfl,by omega,by omega,rfl⟩
  ·have hl':(n0:Int)<=6:=by omega
   go_wp2_with fail
   go_meet
   exact⟨n0,rfl,by omega,by omega,rfl⟩
 case rest=>
 obtain⟨n,rfl,gh,jV,hcw⟩:=hcut;rw[hcw];clear hcw asQ asP;have as1:W0.heap.size=w.heap.size+2:=by rw[<- hW0];simp
 clear hW0;go_upto_region 7 with fail
 generalize (W0.alloc (NC (.slice none 0 0) (.slice none 0 0) (.slice none 0 0)))=W1 at *;clear as1;go_wp2_with fail
 go_loopw [5] (fun iv wr=>∃(v:Nat) (x:Value) (Vs:List PV),v<=n/\iv=.int .i64 v/\Hid (VK v Vs)/\Hid (MS w wr (.slice a1 L1.length c1) (.slice a2 L2.length c2) (.slice a3 L3.length c3) bk x (.slice none 0 0) (.slice none 0 0) Vs [] [])) (fun iv _=>n - (intOf iv).toNat)
 case atStart=>exact⟨0,_,[],aU _,rfl,⟨rfl,fun j hj=>absurd hj (by simp)⟩,V4⟩
 case round=>
  obtain⟨v,x,Vs,hv,rfl,BB,ek⟩:=hrel;clear V4;by_cases hlt:v<n
  ·obtain⟨d0, -, -, -⟩:=ek.o.cells;go_upto_if 36 with fail
   clear d0;go_cut [6] from 27 to 58 (fun s wx=>∃k:Nat,s=.int .i64 (k:Nat)/\1<=k/\k<=3/\Hid (MS w wx (.slice a1 L1.length c1) (.slice a2 L2.length c2) (.slice a3 L3.length c3) bk x (.slice none 0 0) (.slice none 0 0) Vs [] []))
   case first=>
    by_cases hvl:v<L1.length
    ·have asJ:(v:Int)<(L1.length:Int):=by omega
     have aN:Below wr.heap.size wr (wr.alloc (.cells #[.int .i64 2,.int .i64 2,.int .i64 3,.int .i64 2,.int .i64 1] 3)):=(au _ wr).alloc (ar _) _;have km:=ek.o.step aN;obtain⟨d0, -, -, -⟩:=km.cells;obtain⟨g',o',rfl,iK,cs⟩:=(pL.o.aa km.bel) v hvl;have LV:=hid (fun U=>Qa.o L1[v] (ur.o _ (bH hvl)) U);have hp5:=apz L1[v] (n:=5) (by omega);have h5:=as7 wr hp5;have NT:=asE (SM L1[v] 5);generalize L1[v]=lv at *;generalize SM lv 5=pk at *;generalize Ca pk=kk at *;have DI:=hid km;clear km aN;go_wp2_with (go_at_call 60;refine(LV.o _).ae ?_;rintro e w2 ⟨rfl,hb⟩;have h52:=(hb.cell (p:=⟨wr.heap.size,pk,none⟩) (by simp)).trans h5;have Eo:=hid (DI.o.step hb))
     go_meet
     exact⟨kk,rfl,NT.1,NT.2,Eo⟩
    ·have asJ:(L1.length:Int)<=(v:Int):=by omega
     go_wp2_with fail
     go_meet
     exact⟨2,rfl,by omega,by omega,ek⟩
   case rest=>
   obtain⟨k,rfl,yU,hk3,V3⟩:=hcut;clear ek;go_wp2_with fail
   refine(JG.o v (by omega) _).ae ?_;rintro e w1 ⟨rfl,hb1⟩;go_wp2_with fail
   refine(jZ.o v (by omega) _).ae ?_;rintro e RR ⟨rfl,hb2⟩;have hM:=(V3.o.step hb1).step hb2;have hdz:=aqe (i:=v) (by omega);clear hb1 hb2 V3;go_upto_region 14 with fail
   replace hM:=hM.step (au _ _).drew;refine jJ (S:=fun _=>True) (by kernel_rfl) trivial (fun aq=>?_);generalize RR.drew=u0 at *;have hx0:=hM.box.cells.1;refine aw 0 (.pointer (some ⟨w.heap.size+2,0,none⟩)) ?_;refine aw 2 (.string (xN v)) ?_;refine aw 3 (.string (k8 110 v)) ?_;refine aw 4 (.int .i64 (k:Nat)) ?_;refine aF [1,5] (cA ?_ (cA ?_ aD))
   focus
    intro K' hK';go_simp;refine hK'.o _ _ trivial (fun _=>?_);clear hK' K';refine aF [5] (cA ?_ aD);intro K' hK';go_simp;refine(F9.o k hk3 _).ae ?_;rintro e u1 ⟨q,rfl,EO,hb⟩;have hq:Bj u1 w.heap.size q (G9 k):=apg EO hM.bel.size;replace hM:=hM.step hb;(obtain⟨dq,nq,cq,rfl⟩:∃a n c,q=.slice a n c:=by obtain⟨a,c,e,_⟩:=Bc hq;exact⟨_,_,_,e⟩);refine hK'.o _ _ trivial (fun _=>?_);clear hb EO hx0;have hx0:=hM.box.cells.1;clear hK' K';refine aw 6 (.agg #[.string (k8 110 v),.slice dq nq cq]) ?_;refine aF [7] (cA ?_ aD);intro K' hK';go_simp;obtain⟨hb0,hb1⟩:=Q5 u1 (.string (k8 110 v)) (.slice dq nq cq);have aN:=(au _ u1).alloc (ar _) (VC (.string (k8 110 v)) (.slice dq nq cq));replace hM:=hM.step aN;replace hq:=Bj.step hq aN;refine hK'.o _ _ trivial (fun _=>?_);generalize (u1.alloc (VC (.string (k8 110 v)) (.slice dq nq cq)))=u2 at *;generalize u1.heap.size=gq at *;clear aN hx0;have hx0:=hM.box.cells.1
   rotate_left
   focus
    intro K' hK';go_simp;refine(F9.o k hk3 _).ae ?_;rintro e u1 ⟨q,rfl,EO,hb⟩;have hq:Bj u1 w.heap.size q (G9 k):=apg EO hM.bel.size;replace hM:=hM.step hb;(obtain⟨dq,nq,cq,rfl⟩:∃a n c,q=.slice a n c:=by obtain⟨a,c,e,_⟩:=Bc hq;exact⟨_,_,_,e⟩);refine hK'.o _ _ trivial (fun _=>?_);clear hb EO hx0;have hx0:=hM.box.cells.1;clear hK' K';refine aw 6 (.agg #[.string (k8 110 v),.slice dq nq cq]) ?_;refine aF [1,7] (cA ?_ (cA ?_ aD))
    focus
     intro K' hK';go_simp;refine hK'.o _ _ trivial (fun _=>?_);clear hK' K';refine aF [7] (cA ?_ aD);intro K' hK';go_simp;obtain⟨hb0,hb1⟩:=Q5 u1 (.string (k8 110 v)) (.slice dq nq cq);have aN:=(au _ u1).alloc (ar _) (VC (.string (k8 110 v)) (.slice dq nq cq));replace hM:=hM.step aN;replace hq:=Bj.step hq aN;refine hK'.o _ _ trivial (fun _=>?_);generalize (u1.alloc (VC (.string (k8 110 v)) (.slice dq nq cq)))=u2 at *;generalize u1.heap.size=gq at *;clear aN hx0;have hx0:=hM.box.cells.1
    rotate_left
    focus
     intro K' hK';go_simp;obtain⟨hb0,hb1⟩:=Q5 u1 (.string (k8 110 v)) (.slice dq nq cq);have aN:=(au _ u1).alloc (ar _) (VC (.string (k8 110 v)) (.slice dq nq cq));replace hM:=hM.step aN;replace hq:=Bj.step hq aN;refine hK'.o _ _ trivial (fun _=>?_);generalize (u1.alloc (VC (.string (k8 110 v)) (.slice dq nq cq)))=u2 at *;generalize u1.heap.size=gq at *;clear aN hx0;have hx0:=hM.box.cells.1;clear hK' K';refine aF [1] (cA ?_ aD);intro K' hK';go_simp;refine hK'.o _ _ trivial (fun _=>?_)
   all_goals
    clear hK' K';refine aF [8] (cA ?_ aD);intro K' hK';rw[aaf (by rfl)];refine arY _ _ rfl w.heap.size x Vs (k8 110 v) (.slice dq nq cq) ⟨_,_,_,rfl⟩ rfl hM.vs.1 gq rfl hb0 hb1 (by have:=BB.o.len;omega) (by have:=hM.lt;omega) ?_;intro v' u4 hr4 hg4;obtain⟨d4,xE,rfl, -⟩:=Bc hr4;have tx:=hM.pushV hr4 hg4 hq;refine hK'.o _ _ trivial (fun _=>?_);clear hM hr4 hg4 hq hb0 hb1 hx0;clear hK' K';have hm0:=tx.1.cells.1;have Hw:u4.frozen? ⟨w.heap.size+2,0,none⟩=false:=pN _ _ 0 _ _ tx.1;refine aw 9 (.pointer (some ⟨w.heap.size+2,0,none⟩)) ?_;refine aF [10] (cA ?_ aD);intro K' hK';go_simp;refine hK'.o _ _ trivial (fun _=>dW (by kernel_rfl) ?_ _);clear hK' K' hm0 Hw;have DR:=hid tx.2;clear tx;go_wp2;go_roundw
    case rel=>exact⟨v+1,_,_,by omega,by go_num,BB.o.snoc (.slice dq nq cq) yU hk3,DR⟩
    case measure=>simp[intOf];omega
  ·obtain rfl:n=v:=by omega
   obtain⟨ax,cx,rfl,gg⟩:=ek.o.vs.vars;(have Pj:(eh Vs).length=n:=by simp[eh,BB.o.len]);have fT:=hid (fun U hU=>Y6 ax none none cx 0 0 0 0 (eh Vs) U hU (by omega));have PJ:=BB.o.sizes;have uq:=hid gg;have P5:Hid (ah (eh Vs)=ah (eh Vs)):=rfl;rw[Pj] at fT ek;generalize ak:ah (eh Vs)=S at *;have vB:=hid ak;have LM:=hid PJ;clear ak PJ gg P5;obtain⟨e0,e1,e2⟩:=ek.o.box.cells;go_wp2_with fail
   refine(fT.o _ uq.o).ae ?_;rintro e W2 ⟨xv,rfl,vX,hb⟩;(have hSn:(iL S).length=n:=by rw[ba];exact LM.o.len);obtain⟨d10,apb,Pc, -⟩:=Bc vX;rw[hSn] at Pc;subst Pc;have qZ:Hid (cX W2 w.heap.size (.slice d10 n apb) (iL S)):=apg vX ek.o.bel.size;have Eo:=hid (ek.o.step hb);clear vX hb e0 e1 e2 ek fT uq Pj hlt hv;generalize hxg:Value.slice ax n cx=x at *;clear hxg;go_wp2_with fail
   go_loopw [8,9,11] (fun ev av iv wr=>∃(v e at_:Nat) (y z:Value) (Ls:List PL) (Rs:List PR),v<=n/\iv=.int .i64 v/\ev=.int .i64 (e:Nat)/\av=.int .i64 (at_:Nat)/\e<=6*v/\at_<=81*v/\Hid (kC bk n v S Ls Rs)/\Hid (MS w wr (.slice a1 L1.length c1) (.slice a2 L2.length c2) (.slice a3 L3.length c3) bk x y z Vs Ls Rs)/\Hid (cX wr w.heap.size (.slice d10 n apb) (iL S))) (fun _ _ iv _=>n - (intOf iv).toNat)
   case atStart=>exact⟨0,0,0,_,_,[],[],aU _,rfl,rfl,rfl,ar _,ar _,⟨rfl,rfl,fun j hj=>absurd hj (by simp),fun j hj=>absurd hj (by simp)⟩,Eo,qZ⟩
   case round=>
    obtain⟨v,e,at_,y,z,Ls,Rs,hv,rfl,rfl,rfl,he6,atM,IL,ek,HS⟩:=hrel;clear Eo qZ;by_cases hlt:v<n
    ·go_wp2_with fail
     generalize wr=wb at *;go_loopw [8,12,13] (fun ev pv uv BL=>∃(u e':Nat) (pl:List Int),u<=n/\uv=.int .i64 u/\ev=.int .i64 (e':Nat)/\e'<=e+u/\Hid (PP bk n v u pl)/\Hid (cX BL wb.heap.size pv pl)/\Hid (Below wb.heap.size wb BL)) (fun _ _ uv _=>n - (intOf uv).toNat)
     case atStart=>exact⟨0,e,[],aU _,rfl,rfl,ar _,PP.nil bk n v,cX.emptyB _ _,au _ _⟩
     case round=>
      obtain⟨u,e',pl,hu,rfl,rfl,hee,TG,mC,vv⟩:=hrel;by_cases EF:u<n
      ·generalize wr=BL at *;obtain⟨dp,cp,zu, -⟩:=Bc mC.o;subst zu;have kx:=ek.o.step vv.o;obtain⟨-, -, -,d3⟩:=kx.cells;have ap7:=TG.o.ok.few;have he1:e'<=1000:=by omega
       cases bk
       case true=>
        by_cases hs:(u:Int)<=(v:Int)
        ·go_wp2;go_roundw
         case rel=>exact⟨u+1,e',pl,by omega,by go_num,rfl,by omega,TG.o.skip,mC,vv⟩
         case measure=>simp[intOf];omega
        ·have hk:(v:Int)<(u:Int):=by omega
         clear hs;by_cases hl3:pl.length=3
         ·have lD:((pl.length:Int)==3)=true:=by rw[hl3];rfl
          clear hl3;go_wp2;go_roundw
          case rel=>exact⟨u+1,e',pl,by omega,by go_num,rfl,by omega,TG.o.skip,mC,vv⟩
          case measure=>simp[intOf];omega
         ·have lD:((pl.length:Int)==3)=false:=by
           (have:¬(pl.length:Int)=3:=by omega);simpa using this
          (have wH:if true=true then v<u else u<v:=by simp;omega);go_upto_region 26 with fail
          clear d3 lD;have cE:Below BL.heap.size BL BL.drew:=(au _ _).drew;go_cut [109] from 66 to 115 (fun s wx=>∃b:Bool,s=.bool b/\Hid (Below BL.heap.size BL wx))
          case first=>
           by_cases DG:0<L2.length
           ·obtain⟨t,ht⟩:∃t,t=e' % L2.length:=⟨_,rfl⟩;(have EH:t<L2.length:=by rw[ht];exact jL _ DG);(have apj:(e':Int) % (L2.length:Int)=(t:Int):=by rw[ht,Af]);(have hwt:IntKind.i64.wrap (t:Int)=(t:Int):=by rw[eo];omega);(have anZ:IntKind.i64.wrap ((e':Int) % (L2.length:Int))=(t:Int):=by rw[apj];exact hwt);(have apk:(0:Int)<(L2.length:Int):=by omega);(have asT:¬(L2.length:Int)=0:=by omega);have BV:=hid (fun U=>LY.o L2[t] (iT.o _ (bH EH)) U);obtain⟨g2,o2,rfl,hg2,cs⟩:=iU.o t EH;have My:=hid cs;generalize L2[t]=lt at *;generalize SM lt 2=pk at *;obtain⟨b,wP⟩:∃b:Bool,((pk:Int)==0)=b:=⟨_,rfl⟩;(have asN:(pk==0)=b:=by rw[<- wP];cases pk<;>rfl);have aqp:=hid DG;(have Qb:Hid (¬L2=[]):=fun h=>by rw[h] at DG;exact absurd DG (by simp));(have BM:Hid ((e':Int).tmod (L2.length:Int)=(t:Int)):=by rw[ht];rfl);clear cs ht DG;replace kx:=kx.step (au _ _).drew;refine jJ (S:=fun u=>u.cell? ⟨w.heap.size,1,none⟩=some (.slice (some ⟨g2,o2,none⟩) L2.length c2)/\u.cell? ⟨g2,o2+t,none⟩=some (.int .i64 lt)) (by kernel_rfl) ⟨kx.cells.2.1,(kx.bel.cell (p:=⟨g2,o2+t,none⟩) hg2).trans My.o⟩ (fun aq=>?_);generalize BL.drew=u0 at *;refine aw 0 (.pointer (some ⟨w.heap.size,1,none⟩)) ?_;refine aw 1 (.slice (some ⟨g2,o2,none⟩) L2.length c2) ?_;refine aw 2 (.int .i64 (L2.length:Nat)) ?_;(try simp only[gE,aP]);refine cK 3 (.bool true) ?_ ?_
            ·intro u' aL;go_simp;exact aqp.o
            refine aw 4 (.bool true) ?_;refine aw 5 (.pointer (some ⟨w.heap.size,1,none⟩)) ?_;refine aw 6 (.slice (some ⟨g2,o2,none⟩) L2.length c2) ?_;refine aw 7 (.int .i64 (e':Nat)) ?_;refine aw 8 (.pointer (some ⟨w.heap.size,1,none⟩)) ?_;refine aw 9 (.slice (some ⟨g2,o2,none⟩) L2.length c2) ?_;refine aw 10 (.int .i64 (L2.length:Nat)) ?_;(try simp only[gE,aP]);refine cK 11 (.int .i64 (t:Nat)) ?_ ?_
            ·intro u' aL;go_simp;rw[aaO Qb.o,BM.o]
            refine aw 12 (.pointer (some ⟨g2,o2+t,none⟩)) ?_;refine aw 13 (.int .i64 lt) ?_;refine aF [14] (cA ?_ aD);intro K' hK';go_simp;refine(BV.o _).ae ?_;rintro _ u1 ⟨rfl,hb⟩;replace kx:=kx.step hb;replace cE:=cE.trans (hb.ae cE.size);refine hK'.o _ _ ⟨kx.cells.2.1,(kx.bel.cell (p:=⟨g2,o2+t,none⟩) hg2).trans My.o⟩ (fun ak=>?_);clear hb;clear hK' K' aq;have aq:=ak;clear ak;refine aw 15 (.bool b) ?_;refine aw 16 (.bool b) ?_;(try simp only[gE,aP]);refine dW (by kernel_rfl) ?_ _;clear aq;go_wp2_with fail
            go_meet
            exact⟨b,rfl,cE⟩
           ·have apk:¬(0:Int)<(L2.length:Int):=by omega
            have asS:decide ((0:Int)<(L2.length:Int))=false:=abg apk;have asR:¬0<L2.length:=DG;clear DG;replace kx:=kx.step (au _ _).drew;refine jJ (S:=fun u=>u.cell? ⟨w.heap.size,1,none⟩=some (.slice a2 L2.length c2)) (by kernel_rfl) kx.cells.2.1 (fun aq=>?_);generalize BL.drew=u0 at *;refine aw 0 (.pointer (some ⟨w.heap.size,1,none⟩)) ?_;refine aw 1 (.slice a2 L2.length c2) ?_;refine aw 2 (.int .i64 (L2.length:Nat)) ?_;refine aw 3 (.bool false) ?_;refine aw 4 (.bool false) ?_;(try simp only[gE,aP]);refine pF (i:=5) (oi:=_) (v:=undef) rfl (by kernel_rfl) (by kernel_rfl) (by kernel_rfl) (fun _ _ _ h=>h) (Or.inr ⟨by rfl,rfl⟩) (by assumption) ?_;(try simp only[gE,aP]);refine pF (i:=6) (oi:=_) (v:=undef) rfl (by kernel_rfl) (by kernel_rfl) (by kernel_rfl) (fun _ _ _ h=>h) (Or.inr ⟨by rfl,rfl⟩) (by assumption) ?_;(try simp only[gE,aP]);refine pF (i:=7) (oi:=_) (v:=undef) rfl (by kernel_rfl) (by kernel_rfl) (by kernel_rfl) (fun _ _ _ h=>h) (Or.inr ⟨by rfl,rfl⟩) (by assumption) ?_;(try simp only[gE,aP]);refine pF (i:=8) (oi:=_) (v:=undef) rfl (by kernel_rfl) (by kernel_rfl) (by kernel_rfl) (fun _ _ _ h=>h) (Or.inr ⟨by rfl,rfl⟩) (by assumption) ?_;(try simp only[gE,aP]);refine pF (i:=9) (oi:=_) (v:=undef) rfl (by kernel_rfl) (by kernel_rfl) (by kernel_rfl) (fun _ _ _ h=>h) (Or.inr ⟨by rfl,rfl⟩) (by assumption) ?_;(try simp only[gE,aP]);refine pF (i:=10) (oi:=_) (v:=undef) rfl (by kernel_rfl) (by kernel_rfl) (by kernel_rfl) (fun _ _ _ h=>h) (Or.inr ⟨by rfl,rfl⟩) (by assumption) ?_
            (try simp only[gE,aP]);refine pF (i:=11) (oi:=_) (v:=undef) rfl (by kernel_rfl) (by kernel_rfl) (by kernel_rfl) (fun _ _ _ h=>h) (Or.inr ⟨by rfl,rfl⟩) (by assumption) ?_;(try simp only[gE,aP]);refine pF (i:=12) (oi:=_) (v:=undef) rfl (by kernel_rfl) (by kernel_rfl) (by kernel_rfl) (fun _ _ _ h=>h) (Or.inr ⟨by rfl,rfl⟩) (by assumption) ?_;(try simp only[gE,aP]);refine pF (i:=13) (oi:=_) (v:=undef) rfl (by kernel_rfl) (by kernel_rfl) (by kernel_rfl) (fun _ _ _ h=>h) (Or.inr ⟨by rfl,rfl⟩) (by assumption) ?_;refine aF [14] (cA ?_ aD);intro K' hK';go_simp;refine hK'.o _ _ aq (fun ak=>?_);clear hK' K' aq;have aq:=ak;clear ak;(try simp only[gE,aP]);refine pF (i:=15) (oi:=_) (v:=undef) rfl (by kernel_rfl) (by kernel_rfl) (by kernel_rfl) (fun _ _ _ h=>h) (Or.inr ⟨by rfl,rfl⟩) (by assumption) ?_;refine aw 16 (.bool false) ?_;(try simp only[gE,aP]);refine dW (by kernel_rfl) ?_ _;clear aq;go_wp2_with fail
            go_meet
            exact⟨false,rfl,cE⟩
          case rest=>
          obtain⟨b,rfl,Gc⟩:=hcut;have ao4:=hid (mC.o.aa Gc.o);have aoB:=hid (vv.o.trans (Gc.o.ae vv.o.size));clear mC vv kx cE;cases b
          case false=>
           clear Gc;go_wp2;go_roundw
           case rel=>exact⟨u+1,e'+1,pl,by omega,by go_num,by go_num,by omega,TG.o.skip,ao4,aoB⟩
           case measure=>simp[intOf];omega
          case true=>
           clear Gc;have Ik:=hid (ao4.o.aa ((au _ wc).alloc (ar _) (.cells #[.int .i64 (u:Int)] 3)));have dC:=hid (aoB.o.alloc aoB.o.size (.cells #[.int .i64 (u:Int)] 3));have F2:=hid (JS wc (u:Int));have KD:wb.heap.size<=(wc.alloc (.cells #[.int .i64 (u:Int)] 3)).heap.size:=dC.o.size;have HPS:=hid (TG.o.snoc EF hl3 wH);clear ao4 aoB;go_wp2_with (at_builtin;refine GF rfl _ _ rfl wb.heap.size _ pl [(u:Int)] rfl Ik.o (some ⟨wc.heap.size,0,none⟩) 1 rfl F2.o (fun e=>by cases e) (by simp;omega) KD ?_;intro v' w3 hr3 hg3;have dU:=hid (dC.o.grown hg3 KD (fun k e=>apD Ik.o k e)))
           go_roundw
           case rel=>exact⟨u+1,e'+1,pl++[(u:Int)],by omega,by go_num,by go_num,by omega,HPS,hr3,dU⟩
           case measure=>simp[intOf];omega
       case false=>
        by_cases hs:(v:Int)<=(u:Int)
        ·go_wp2;go_roundw
         case rel=>exact⟨u+1,e',pl,by omega,by go_num,rfl,by omega,TG.o.skip,mC,vv⟩
         case measure=>simp[intOf];omega
        ·have hk:(u:Int)<(v:Int):=by omega
         clear hs;by_cases hl3:pl.length=3
         ·have lD:((pl.length:Int)==3)=true:=by rw[hl3];rfl
          clear hl3;go_wp2;go_roundw
          case rel=>exact⟨u+1,e',pl,by omega,by go_num,rfl,by omega,TG.o.skip,mC,vv⟩
          case measure=>simp[intOf];omega
         ·have lD:((pl.length:Int)==3)=false:=by
           (have:¬(pl.length:Int)=3:=by omega);simpa using this
          (have wH:if false=true then v<u else u<v:=by simp;omega);go_upto_region 26 with fail
          clear d3 lD;have cE:Below BL.heap.size BL BL.drew:=(au _ _).drew;go_cut [109] from 66 to 115 (fun s wx=>∃b:Bool,s=.bool b/\Hid (Below BL.heap.size BL wx))
          case first=>
           by_cases DG:0<L2.length
           ·obtain⟨t,ht⟩:∃t,t=e' % L2.length:=⟨_,rfl⟩;(have EH:t<L2.length:=by rw[ht];exact jL _ DG);(have apj:(e':Int) % (L2.length:Int)=(t:Int):=by rw[ht,Af]);(have hwt:IntKind.i64.wrap (t:Int)=(t:Int):=by rw[eo];omega);(have anZ:IntKind.i64.wrap ((e':Int) % (L2.length:Int))=(t:Int):=by rw[apj];exact hwt);(have apk:(0:Int)<(L2.length:Int):=by omega);(have asT:¬(L2.length:Int)=0:=by omega);have BV:=hid (fun U=>LY.o L2[t] (iT.o _ (bH EH)) U);obtain⟨g2,o2,rfl,hg2,cs⟩:=iU.o t EH;have My:=hid cs;generalize L2[t]=lt at *;generalize SM lt 2=pk at *;obtain⟨b,wP⟩:∃b:Bool,((pk:Int)==0)=b:=⟨_,rfl⟩;(have asN:(pk==0)=b:=by rw[<- wP];cases pk<;>rfl);have aqp:=hid DG;(have Qb:Hid (¬L2=[]):=fun h=>by rw[h] at DG;exact absurd DG (by simp));(have BM:Hid ((e':Int).tmod (L2.length:Int)=(t:Int)):=by rw[ht];rfl);clear cs ht DG;replace kx:=kx.step (au _ _).drew;refine jJ (S:=fun u=>u.cell? ⟨w.heap.size,1,none⟩=some (.slice (some ⟨g2,o2,none⟩) L2.length c2)/\u.cell? ⟨g2,o2+t,none⟩=some (.int .i64 lt)) (by kernel_rfl) ⟨kx.cells.2.1,(kx.bel.cell (p:=⟨g2,o2+t,none⟩) hg2).trans My.o⟩ (fun aq=>?_);generalize BL.drew=u0 at *;refine aw 0 (.pointer (some ⟨w.heap.size,1,none⟩)) ?_;refine aw 1 (.slice (some ⟨g2,o2,none⟩) L2.length c2) ?_;refine aw 2 (.int .i64 (L2.length:Nat)) ?_;(try simp only[gE,aP]);refine cK 3 (.bool true) ?_ ?_
            ·intro u' aL;go_simp;exact aqp.o
            refine aw 4 (.bool true) ?_;refine aw 5 (.pointer (some ⟨w.heap.size,1,none⟩)) ?_;refine aw 6 (.slice (some ⟨g2,o2,none⟩) L2.length c2) ?_;refine aw 7 (.int .i64 (e':Nat)) ?_;refine aw 8 (.pointer (some ⟨w.heap.size,1,none⟩)) ?_;refine aw 9 (.slice (some ⟨g2,o2,none⟩) L2.length c2) ?_;refine aw 10 (.int .i64 (L2.length:Nat)) ?_;(try simp only[gE,aP]);refine cK 11 (.int .i64 (t:Nat)) ?_ ?_
            ·intro u' aL;go_simp;rw[aaO Qb.o,BM.o]
            refine aw 12 (.pointer (some ⟨g2,o2+t,none⟩)) ?_;refine aw 13 (.int .i64 lt) ?_;refine aF [14] (cA ?_ aD);intro K' hK';go_simp;refine(BV.o _).ae ?_;rintro _ u1 ⟨rfl,hb⟩;replace kx:=kx.step hb;replace cE:=cE.trans (hb.ae cE.size);refine hK'.o _ _ ⟨kx.cells.2.1,(kx.bel.cell (p:=⟨g2,o2+t,none⟩) hg2).trans My.o⟩ (fun ak=>?_);clear hb;clear hK' K' aq;have aq:=ak;clear ak;refine aw 15 (.bool b) ?_;refine aw 16 (.bool b) ?_;(try simp only[gE,aP]);refine dW (by kernel_rfl) ?_ _;clear aq;go_wp2_with fail
            go_meet
            exact⟨b,rfl,cE⟩
           ·have apk:¬(0:Int)<(L2.length:Int):=by omega
            have asS:decide ((0:Int)<(L2.length:Int))=false:=abg apk;have asR:¬0<L2.length:=DG;clear DG;replace kx:=kx.step (au _ _).drew;refine jJ (S:=fun u=>u.cell? ⟨w.heap.size,1,none⟩=some (.slice a2 L2.length c2)) (by kernel_rfl) kx.cells.2.1 (fun aq=>?_);generalize BL.drew=u0 at *;refine aw 0 (.pointer (some ⟨w.heap.size,1,none⟩)) ?_;refine aw 1 (.slice a2 L2.length c2) ?_;refine aw 2 (.int .i64 (L2.length:Nat)) ?_;refine aw 3 (.bool false) ?_;refine aw 4 (.bool false) ?_;(try simp only[gE,aP]);refine pF (i:=5) (oi:=_) (v:=undef) rfl (by kernel_rfl) (by kernel_rfl) (by kernel_rfl) (fun _ _ _ h=>h) (Or.inr ⟨by rfl,rfl⟩) (by assumption) ?_;(try simp only[gE,aP]);refine pF (i:=6) (oi:=_) (v:=undef) rfl (by kernel_rfl) (by kernel_rfl) (by kernel_rfl) (fun _ _ _ h=>h) (Or.inr ⟨by rfl,rfl⟩) (by assumption) ?_;(try simp only[gE,aP]);refine pF (i:=7) (oi:=_) (v:=undef) rfl (by kernel_rfl) (by kernel_rfl) (by kernel_rfl) (fun _ _ _ h=>h) (Or.inr ⟨by rfl,rfl⟩) (by assumption) ?_;(try simp only[gE,aP]);refine pF (i:=8) (oi:=_) (v:=undef) rfl (by kernel_rfl) (by kernel_rfl) (by kernel_rfl) (fun _ _ _ h=>h) (Or.inr ⟨by rfl,rfl⟩) (by assumption) ?_;(try simp only[gE,aP]);refine pF (i:=9) (oi:=_) (v:=undef) rfl (by kernel_rfl) (by kernel_rfl) (by kernel_rfl) (fun _ _ _ h=>h) (Or.inr ⟨by rfl,rfl⟩) (by assumption) ?_;(try simp only[gE,aP]);refine pF (i:=10) (oi:=_) (v:=undef) rfl (by kernel_rfl) (by kernel_rfl) (by kernel_rfl) (fun _ _ _ h=>h) (Or.inr ⟨by rfl,rfl⟩) (by assumption) ?_
            (try simp only[gE,aP]);refine pF (i:=11) (oi:=_) (v:=undef) rfl (by kernel_rfl) (by kernel_rfl) (by kernel_rfl) (fun _ _ _ h=>h) (Or.inr ⟨by rfl,rfl⟩) (by assumption) ?_;(try simp only[gE,aP]);refine pF (i:=12) (oi:=_) (v:=undef) rfl (by kernel_rfl) (by kernel_rfl) (by kernel_rfl) (fun _ _ _ h=>h) (Or.inr ⟨by rfl,rfl⟩) (by assumption) ?_;(try simp only[gE,aP]);refine pF (i:=13) (oi:=_) (v:=undef) rfl (by kernel_rfl) (by kernel_rfl) (by kernel_rfl) (fun _ _ _ h=>h) (Or.inr ⟨by rfl,rfl⟩) (by assumption) ?_;refine aF [14] (cA ?_ aD);intro K' hK';go_simp;refine hK'.o _ _ aq (fun ak=>?_);clear hK' K' aq;have aq:=ak;clear ak;(try simp only[gE,aP]);refine pF (i:=15) (oi:=_) (v:=undef) rfl (by kernel_rfl) (by kernel_rfl) (by kernel_rfl) (fun _ _ _ h=>h) (Or.inr ⟨by rfl,rfl⟩) (by assumption) ?_;refine aw 16 (.bool false) ?_;(try simp only[gE,aP]);refine dW (by kernel_rfl) ?_ _;clear aq;go_wp2_with fail
            go_meet
            exact⟨false,rfl,cE⟩
          case rest=>
          obtain⟨b,rfl,Gc⟩:=hcut;have ao4:=hid (mC.o.aa Gc.o);have aoB:=hid (vv.o.trans (Gc.o.ae vv.o.size));clear mC vv kx cE;cases b
          case false=>
           clear Gc;go_wp2;go_roundw
           case rel=>exact⟨u+1,e'+1,pl,by omega,by go_num,by go_num,by omega,TG.o.skip,ao4,aoB⟩
           case measure=>simp[intOf];omega
          case true=>
           clear Gc;have Ik:=hid (ao4.o.aa ((au _ wc).alloc (ar _) (.cells #[.int .i64 (u:Int)] 3)));have dC:=hid (aoB.o.alloc aoB.o.size (.cells #[.int .i64 (u:Int)] 3));have F2:=hid (JS wc (u:Int));have KD:wb.heap.size<=(wc.alloc (.cells #[.int .i64 (u:Int)] 3)).heap.size:=dC.o.size;have HPS:=hid (TG.o.snoc EF hl3 wH);clear ao4 aoB;go_wp2_with (at_builtin;refine GF rfl _ _ rfl wb.heap.size _ pl [(u:Int)] rfl Ik.o (some ⟨wc.heap.size,0,none⟩) 1 rfl F2.o (fun e=>by cases e) (by simp;omega) KD ?_;intro v' w3 hr3 hg3;have dU:=hid (dC.o.grown hg3 KD (fun k e=>apD Ik.o k e)))
           go_roundw
           case rel=>exact⟨u+1,e'+1,pl++[(u:Int)],by omega,by go_num,by go_num,by omega,HPS,hr3,dU⟩
           case measure=>simp[intOf];omega
      ·obtain rfl:n=u:=by omega
       obtain⟨dp,cp,zu, -⟩:=Bc mC.o;subst zu;have kx:=ek.o.step vv.o;have Di:=HS.o.aa vv.o;have PZ:cX wr w.heap.size (.slice dp pl.length cp) pl:=apg mC.o ek.o.bel.size;obtain⟨dy,cy,Gl, -⟩:=Bc kx.ls.1;subst Gl;have aN:Below wr.heap.size wr (wr.alloc (.cells #[.slice dp pl.length cp] 27)):=(au _ wr).alloc (ar _) _;have km:=kx.step aN;have PM:=Di.aa aN;have KN:=PZ.aa aN;have Z1:=km.box.cells.2.1;have asI:=kx.box.cells.2.1;have pM:=hid ((a7 wr 27 (.slice dp pl.length cp)).cell);have KD:w.heap.size<=(wr.alloc (.cells #[.slice dp pl.length cp] 27)).heap.size:=km.bel.size;have DI:=hid km;have HSA:=hid PM;have LX:=hid KN;clear kx Di PZ km PM KN ek HS mC vv Z1 aN;go_wp2_with (at_builtin;refine ar0 rfl _ _ rfl w.heap.size _ Ls (.slice dp pl.length cp) ⟨_,_,_,rfl⟩ rfl DI.o.ls.1 wr.heap.size rfl pM.o (by have:=IL.o.len;omega) KD ?_;intro v4 W4 hr4 hg4;obtain⟨d4,xE,rfl, -⟩:=Bc hr4;have tx:=DI.o.pushL hr4 hg4 LX.o;have hm1:=tx.1.cells.2.1;have Hw:W4.frozen? ⟨w.heap.size+2,1,none⟩=false:=pN _ _ 1 _ _ tx.1;have DR:=hid tx.2;have Kw:=hid (aqO (j:=1) (v':=.slice d4 (Ls.length+1) xE) DI.o.ls.1 hg4 tx.1 3 (by decide) (by decide));clear tx hr4 hg4)
       clear hm1 Hw asI;have Ix:Hid (cX (W4.setCell ⟨w.heap.size+2,1,none⟩ (.slice d4 (Ls.length+1) xE)) w.heap.size (.slice d10 n apb) (iL S)):=Bp HSA.o Kw.o;have arT:Hid (cX (W4.setCell ⟨w.heap.size+2,1,none⟩ (.slice d4 (Ls.length+1) xE)) w.heap.size (.slice dp pl.length cp) pl):=Bp LX.o Kw.o;generalize (W4.setCell ⟨w.heap.size+2,1,none⟩ (.slice d4 (Ls.length+1) xE))=W5 at *;clear DI HSA LX Kw pM KD;(have ao1:(iL S).length=n:=by rw[ba];exact LM.o.len)
       have jt:Hid (Calls Tryz.prog 55 #[.slice d10 n apb,.slice dp pl.length cp] W5 fun e w'=>e=.returned (.tuple #[.int .i64 (cnt S (ag pl):Nat),.int .i64 0])/\Below W5.heap.size W5 w'):=by
        have h5:=Ix.o;rw[<- ao1] at h5;have h:=RN d10 dp apb cp (iL S) pl W5 (cX.intS h5) (cX.intS arT.o) (LM.o.fine gh (by omega)) (by rw[ao1];exact TG.o.ok.up);rwa [ao1,ew] at h
       obtain⟨atJ,atI⟩:=arD LM.o (l:=ag pl) (by rw[cS];exact TG.o.ok.few);obtain⟨asL,ap1⟩:=LM.o.sz v;(have ap0:v<S.length:=by rw[LM.o.len];exact hlt);(have arf:S[v]'ap0=sz S v:=by rw[Go.Proofs.YtdnhgjeihdllbaaGreatDoor.sz,af ap0];rfl);have q7:=hid TG.o.ok;generalize E3:cnt S (ag pl)=Dq at *;have DM:=hid E3;clear E3;refine jt.o.ae ?_;rintro e8 yz ⟨rfl,jS⟩;have Wl:=hid (DR.o.step jS);have Ai:=Ix.o.aa jS;rw[<- ao1] at Ai;obtain⟨g10,vU,Pc,dO,aqf⟩:=(cX.intS Ai) v (by rw[ao1];exact hlt);subst Pc;(have ee:(iL S)[v]'(by rw[ao1];exact hlt)=((S[v]'ap0:Nat):Int):=by simp[iL]);rw[ee,arf] at aqf;rw[ao1] at Ai;have arW:=hid aqf;have LN:=hid Ai;clear jS DR Ix arT jt aqf Ai ee arf;generalize ard:sz S v=sv at *;have arL:=hid ard;clear ard;go_wp2_with fail
       go_loopw [9,16,17] (fun av rv kv B7=>∃(k rE:Nat) (r:List Fr),k<=Dq/\kv=.int .i64 k/\av=.int .i64 (rE:Nat)/\rE<=at_+3*k/\Hid (RP sv k r)/\Hid (kq B7 yz.heap.size rv r)/\Hid (Below yz.heap.size yz B7)) (fun _ _ kv _=>Dq - (intOf kv).toNat)
       case atStart=>exact⟨0,at_,[],aU _,rfl,rfl,ar _,RP.nil sv,kq.empty _ _,au _ _⟩
       case round=>
        obtain⟨k,rE,r,hk,rfl,rfl,atL,BO,js,fV⟩:=hrel;obtain⟨d16,apn,as2, -⟩:=Bc js.o;subst as2;generalize wr=B7 at *;by_cases hkc:k<Dq
        ·have asU:k<27:=by omega
         have C3:=Wl.o.step fV.o;have arn:=(fV.o.cell (p:=⟨g10,vU+v,none⟩) dO).trans arW.o;have asY:=arn;have asW:g10<B7.heap.size:=aR dO fV.o.size;(have atK:rE<=100000:=by omega);go_upto_region 35 with fail
         replace C3:=C3.step (au _ _).drew;have rJ:Below B7.heap.size B7 B7.drew:=(au _ _).drew;refine jJ (S:=fun u=>u.cell? ⟨w.heap.size,2,none⟩=some (.slice a3 L3.length c3)/\u.cell? ⟨g10,vU+v,none⟩=some (.int .i64 (sv:Nat))) (by kernel_rfl) ⟨C3.cells.2.2.1,arn⟩ (fun aq=>?_);generalize B7.drew=u0 at *;refine aw 0 (.pointer (some ⟨w.heap.size,2,none⟩)) ?_;refine aw 1 (.slice a3 L3.length c3) ?_;refine aw 2 (.int .i64 (rE:Nat)) ?_;refine aw 3 (.slice (some ⟨g10,vU,none⟩) n apb) ?_;refine aw 4 (.int .i64 (v:Nat)) ?_;refine aw 5 (.pointer (some ⟨g10,vU+v,none⟩)) ?_;refine aw 6 (.int .i64 (sv:Nat)) ?_;refine aF [7] (cA ?_ aD);intro K' hK';go_simp;refine(V1.o rE (by omega) sv asL ap1 _ (Qk.o.aa C3.bel)).ae ?_;rintro e9 u1 ⟨x18,Jg,rfl,vX,hwt,Hl,hb⟩;have ap9:=rJ.trans (hb.ae rJ.size);obtain⟨d18,arE,rfl,ap8⟩:=vX.fr;(have ark:(B0 Jg).length=sv:=by rw[apX];exact hwt.len);rw[ark];obtain⟨g18,KY,e18, -, -⟩:=ap8 0 (by omega);subst e18;have atw:=hid ap8;have Iz:=hid (asc Hl);have atr:=hid (asb hwt.six (by rw[hwt.len];exact ap1) Hl);have aqq:=hid ark;replace C3:=C3.step hb;refine hK'.o _ _ ⟨C3.cells.2.2.1,(ap9.cell (p:=⟨g10,vU+v,none⟩) asW).trans asY⟩ (fun ak=>?_);clear hb vX hwt Hl ap8;clear hK' K' aq;have aq:=ak;clear ak;refine aw 8 (.slice (some ⟨g18,KY,none⟩) sv arE) ?_;(try simp only[gE,aP]);refine dW (by kernel_rfl) ?_ _;clear aq;have Ts:=hid (js.o.aa ap9);have eR:=hid (fV.o.trans (ap9.ae fV.o.size));have KD:yz.heap.size<=u1.heap.size:=eR.o.size;have hrl:=BO.o.len
         have hks:k*sv<=81:=aS (iW (uH asU) ap1) (by omega);(have atD:r.length<=81:=by omega);clear hrl;go_wp2_with (at_builtin;refine ar1 rfl _ _ rfl yz.heap.size _ r (B0 Jg) rfl Ts.o g18 KY arE (by rw[aqq.o];rfl) atw.o (by rw[aqq.o];omega) KD ?_;intro v9 u2 EN jo;have Ih:=eR.o.grown jo KD (fun k e=>apD Ts.o k e);have atG:=(Ih.cell (p:=⟨g10,vU+v,none⟩) dO).trans arW.o;have kV:=hid Ih;clear Ih)
         go_roundw
         case rel=>exact⟨k+1,rE+sv,r++B0 Jg,by omega,by go_num,by go_num,by omega,BO.o.snoc aqq.o Iz.o atr.o,EN,kV⟩
         case measure=>simp[intOf];omega
        ·obtain rfl:Dq=k:=by omega
         have C3:=Wl.o.step fV.o;have Dh:=LN.o.aa fV.o;have vw:kq B7 w.heap.size (.slice d16 r.length apn) r:=apg js.o Wl.o.bel.size;obtain⟨dz,cz,Gd, -⟩:=Bc C3.rs.1;subst Gd;have aN:Below B7.heap.size B7 (B7.alloc (.cells #[.slice d16 r.length apn] 37)):=(au _ B7).alloc (ar _) _;have DI:=hid (C3.step aN);have HSA:=hid (Dh.aa aN);have ky:=hid (vw.aa aN);have atz:=C3.box.cells.2.2;have pM:=hid ((a7 B7 37 (.slice d16 r.length apn)).cell);have KD:w.heap.size<=(B7.alloc (.cells #[.slice d16 r.length apn] 37)).heap.size:=DI.o.bel.size;have Kb:Hid (aqn S v pl r):=⟨by rw[DM.o,arL.o];exact BO.o.len,fun i hi=>by rw[arL.o];exact BO.o.rows i (by rw[<- DM.o];exact hi),BO.o.small⟩;clear C3 Dh vw aN js fV;go_wp2_with (at_builtin;refine arZ rfl _ _ rfl w.heap.size _ Rs (.slice d16 r.length apn) ⟨_,_,_,rfl⟩ rfl DI.o.rs.1 B7.heap.size rfl pM.o (by have:=IL.o.lenR;omega) KD ?_;intro v5 W7 Hj BH;obtain⟨d7,xD,rfl, -⟩:=Bc Hj;have tx:=DI.o.pushR Hj BH ky.o;have bq:=tx.1.cells.2.2;have atE:W7.frozen? ⟨w.heap.size+2,2,none⟩=false:=pN _ _ 2 _ _ tx.1;have att:=hid tx.2;have atv:=hid (aqO (j:=2) (v':=.slice d7 (Rs.length+1) xD) DI.o.rs.1 BH tx.1 3 (by decide) (by decide));clear tx Hj BH)
         go_roundw
         case rel=>exact⟨v+1,e',rE,_,_,_,_,by omega,by go_num,rfl,rfl,by omega,by omega,IL.o.snoc q7.o Kb.o,att,Bp HSA.o atv.o⟩
         case measure=>simp[intOf];omega
    ·obtain rfl:n=v:=by omega
     obtain⟨dx,cx',hxe, -⟩:=Bc ek.o.vs.1;subst hxe;obtain⟨dy,cy,Gl, -⟩:=Bc ek.o.ls.1;subst Gl;obtain⟨dz,cz,Gd, -⟩:=Bc ek.o.rs.1;subst Gd;obtain⟨e0,e1,e2⟩:=ek.o.box.cells;obtain⟨q0,q1,q2⟩:=ek.o.res.cells;have f0:wr.frozen? ⟨w.heap.size+1,0,none⟩=false:=pN _ _ 0 _ _ ek.o.res;have f1:wr.frozen? ⟨w.heap.size+1,1,none⟩=false:=pN _ _ 1 _ _ ek.o.res;have f2:wr.frozen? ⟨w.heap.size+1,2,none⟩=false:=pN _ _ 2 _ _ ek.o.res;obtain⟨o1,o2,o3,o4,o5⟩:=ek.o.out3;have uw:=hid o1;have Dy:=hid o2;have Wc:=hid o3;have L8:=hid o4;have FT:=hid o5;clear o1 o2 o3 o4 o5;go_wp2;refine bB (Gi rfl _ _ (w.heap.size+1) _ _ _ _ rfl uw.o Tryz.underlying26 rfl (by kernel_rfl)) rfl ?_;exact⟨bk,n,_,_,_,Vs,Ls,Rs,rfl,⟨gh,jV⟩,BB.o,by rw[vB.o];exact IL.o,Dy.o,Wc.o,L8.o,FT.o⟩
variable {bk:Bool} {P:List (List Nat)} {l:List Int} {S:List Nat} {Ls:List PL} {Rs:List PR} {Vs:List PV} {n v:Nat}
theorem ad2 (h2:Up l n):dD l n=true:=by
 rw[dD,eJ];intro i hi;have hi':=bG.1 hi;rw[lu,ei,getD_eq hi'];refine⟨(h2.each i hi').1,(h2.each i hi').2,fun h0=>?_⟩;rw[getD_eq (show i - 1<l.length by omega)];exact h2.lt (i - 1) i hi' (by omega)
theorem apY (h:kC bk n n S Ls Rs) (hv:v<(fk Ls).length):am5 bk n v (fk Ls)[v]:=by
 have hv':v<Ls.length:=by simpa [fk] using hv
 simpa [fk] using h.pars v hv'
theorem aqJ:∀(n:Nat) (l:List Nat),(∀v,v< n ->v∈l) ->n<=l.length
 |0,_,_=>aU _
 |n+1,l,h=>by
  have hm:=h n (by omega);have h1:=aqJ n (l.erase n) fun v hv=>(List.mem_erase_of_ne (by omega)).2 (h v (by omega));have h2:=Xg hm;have h3:=List.length_pos_of_mem hm;omega
theorem aqT (r:Nat ->Nat) (h:∀v,v<P.length ->∀u∈P.getD v [],u<P.length/\r u<r v):∀k,k<=P.length ->(aY P k).length=k
 |0,_=>rfl
 |k+1,hk=>by
  have ih:=aqT r h k (by omega);cases e:nj P (aY P k) with
  |some v=>rw[adn e,dM,ih];rfl
  |none=>
   exfalso
   have hno:∀v,v<P.length ->gJ P (aY P k) v=false:=fun v hv=>by
    have:=List.find?_eq_none.1 e v (bG.2 hv);simpa using this
   have hall:∀m v,v<P.length ->r v<=m ->v∈aY P k:=by
    intro m;induction m with
    |zero=>
     intro v hv hr;refine Gz fun hm=>?_;have hf:=hno v hv;rw[gJ,Bool.and_eq_false_iff] at hf;rcases hf with hf |hf
     ·exact absurd hm (by simpa using hf)
     ·have hf':=of_decide_eq_false hf;refine hf' fun u hu=>?_;have:=(h v hv u hu).2;omega
    |succ m FR=>
     intro v hv hr;refine Gz fun hm=>?_;have hf:=hno v hv;rw[gJ,Bool.and_eq_false_iff] at hf;rcases hf with hf |hf
     ·exact absurd hm (by simpa using hf)
     ·have hf':=of_decide_eq_false hf;refine hf' fun u hu=>?_;obtain⟨h1,h2⟩:=h v hv u hu;exact FR u h1 (by omega)
   have hle:=aqJ P.length (aY P k) fun v hv=>hall (r v) v hv (ar _);omega
theorem asy (h:kC bk n n S Ls Rs) (h1:1<=n) (h6:n<=6):bE (fk Ls)=0:=by
 have hl:(fk Ls).length=n:=by simp[fk,h.len]
 have wH:∀v (hv:v<(fk Ls).length),∀x∈(fk Ls)[v],(0<=x/\x<n)/\(if bk=true then(v:Int)<x else x<(v:Int)):=fun v hv x hx=>
  ⟨(pV.1 (apY h hv).up).1 x hx,(apY h hv).rank x hx⟩
 have hgb:gB (fk Ls)=true:=by
  rw[gB,ia,ia];refine⟨⟨cJ ⟨by omega,by omega⟩,?_⟩,?_⟩
  ·rw[ug,eJ];intro l yT;obtain⟨v,hv,rfl⟩:=iE yT;rw[hl];exact ad2 (apY h hv).up
  ·rw[Az,eJ];intro v hv;have hv':v<(fk Ls).length:=bG.1 hv;rw[b7,af hv'];simp only[zV,Bool.not_eq_true',QB];intro hm;obtain⟨x,hx,e⟩:=aaQ.1 hm;obtain⟨⟨h0,_⟩,hr⟩:=wH v hv' x hx;cases bk<;>simp at hr<;>omega
 rw[bE,aaf hgb,aaO];have hp:(aI (fk Ls)).length=n:=by rw[lp,hl]
 have asO:=aqT (P:=aI (fk Ls)) (fun v=>if bk=true then n - v else v) (fun v hv u hu=>by
  have hv':v<(fk Ls).length:=by rw[lp] at hv;exact hv
  rw[NB hv'] at hu;obtain⟨x,hx,rfl⟩:=aaQ.1 hu;obtain⟨⟨h0,hn⟩,hr⟩:=wH v hv' x hx;refine⟨by rw[hp];omega,?_⟩;rw[hl] at hv';cases bk
  ·simp at hr⊢;omega
  ·simp at hr⊢;omega) n (by omega)
 rw[hl,asO];omega
theorem asq (h:VK n Vs):gF (eh Vs)=(List.range n).map (k8 110):=by
 apply pS
 ·simp[gF,eh,h.len]
 ·intro i h1 h2;have hi:i<Vs.length:=by simpa [gF,eh] using h1
  simp[gF,eh,(h.each i hi).1]
theorem asp:∀n,n<=6 ->iw ((List.range n).map (k8 110))=0:=by
 intro n hn;have h:n=0∨n=1∨n=2∨n=3∨n=4∨n=5∨n=6:=by omega
 rcases h with rfl |rfl |rfl |rfl |rfl |rfl |rfl<;>decide+kernel
theorem ar3:∀k,k<=3 ->iw (G9 k)=0:=by
 intro n hn;have h:n=0∨n=1∨n=2∨n=3:=by omega
 rcases h with rfl |rfl |rfl |rfl<;>decide+kernel
theorem asu (h:VK n Vs) (h6:n<=6):jy (eh Vs)=0:=by
 rw[jy,asq h,asp n h6,aaf rfl];refine ac8 fun j hj=>?_;have hj':j<Vs.length:=by simpa [eh] using hj
 obtain⟨_,k,h1,h3,e⟩:=h.each j hj'
 have e2:((eh Vs).getD j (⟨#[]⟩,[])).2=G9 k:=by
  rw[b7,af hj];simp[eh,e]
 rw[mY,e2,apw,aaf ⟨h1,by omega⟩,ar3 k h3]
theorem asw (hV:VK n Vs) (h:kC bk n n (ah (eh Vs)) Ls Rs) (h1:1<=n) (h6:n<=6):aW (eh Vs) (fk Ls) (z6 Rs)=0:=by
 have hv:(eh Vs).length=n:=by simp[eh,hV.len]
 have hl:(fk Ls).length=n:=by simp[fk,h.len]
 have hr:(z6 Rs).length=n:=by simp[z6,h.lenR]
 rw[aW,aaf ⟨by omega,by omega⟩,aaf (asy h h1 h6),aaf (asu hV h6)];refine ac8 fun j hj=>?_;have zK:j<Ls.length:=by have:=h.len;omega
 have Oh:j<Rs.length:=by have:=h.lenR;omega
 have hro:=h.rows j zK Oh;have e1:(fk Ls).getD j []=Ls[j].2:=by rw[b7,af (by simpa [fk] using zK)];simp[fk]
 have e2:(z6 Rs).getD j []=Rs[j].2:=by rw[b7,af (by simpa [z6] using Oh)];simp[z6]
 rw[iI,e1,e2,aaf hro.len,aaf];rw[eJ];intro i hi;exact hro.rows i (bG.1 hi)
structure NM (V:List Vr) (L:List (List Int)) (R:List (List Fr)):Prop where
 ok:aW V L R=0
 one:1<=V.length
 six:V.length<=6
 szs:∀u,sz (ah V) u<=3
 few:∀l∈L,l.length<=3
 aty:∀l∈R,∀f∈l,f.2.1.size+f.2.2.size<=2
 small:sQ V L R
 light:∀l∈R,fw l<=400
theorem arx:∀ {l:List Fr},(∀f∈l,f.2.1.size+f.2.2.size<=2) ->fw l<=4*l.length
 |[],_=>ar _
 |f::l,h=>by
  have h1:=h f dJ;have h2:=arx fun g hg=>h g (eE _ hg);simp only[fw,eU];omega
theorem asv (hV:VK n Vs) (h:kC bk n n (ah (eh Vs)) Ls Rs) (h1:1<=n) (h6:n<=6):NM (eh Vs) (fk Ls) (z6 Rs):=by
 have hv:(eh Vs).length=n:=by simp[eh,hV.len]
 have hl:(fk Ls).length=n:=by simp[fk,h.len]
 have hr:(z6 Rs).length=n:=by simp[z6,h.lenR]
 have hsk:=hV.sizes
 have arb:∀l∈z6 Rs,∀f∈l,f.2.1.size+f.2.2.size<=2:=fun l yT=>by
  obtain⟨p,hp,rfl⟩:=aaQ.1 yT;obtain⟨j,hj,rfl⟩:=iE hp;exact(h.rows j (by have:=h.len;have:=h.lenR;omega) hj).small
 have arj:∀l∈z6 Rs,l.length<=81:=fun l yT=>by
  obtain⟨p,hp,rfl⟩:=aaQ.1 yT;obtain⟨j,hj,rfl⟩:=iE hp;have zK:j<Ls.length:=by have:=h.len;have:=h.lenR;omega
  rw[(h.rows j zK hj).len];have h2:=(arD hsk (l:=ag Ls[j].2) (by rw[cS];exact(h.pars j zK).few)).2;have h3:=(hsk.sz j).2;exact aS (iW h2 h3) (by decide)
 have ap7:∀l∈fk Ls,l.length<=3:=fun l yT=>by
  obtain⟨p,hp,rfl⟩:=aaQ.1 yT;obtain⟨j,hj,rfl⟩:=iE hp;exact(h.pars j hj).few
 have ari:∀l∈z6 Rs,fw l<=400:=fun l yT=>by
  have:=arx (arb l yT);have:=arj l yT;omega
 have Ng:∀c i,i<10 ->(k8 c i).size<=5000:=fun c i hi=>by
  have h1:(k8 c i).size=1+(xN i).size:=by rw[k8,ByteArray.size_append];rfl
  rw[h1,aqe hi];omega
 refine⟨asw hV h h1 h6,by omega,by omega,fun u=>(hsk.sz u).2,ap7,arb,⟨⟨by omega,fun x hx=>?_⟩,⟨by omega,fun l yT=>by have:=ap7 l yT;omega⟩,⟨by omega,fun l yT=>⟨by have:=arj l yT;omega,by have:=ari l yT;omega⟩⟩⟩,ari⟩;obtain⟨p,hp,rfl⟩:=aaQ.1 hx;obtain⟨j,hj,rfl⟩:=iE hp;obtain⟨e1,k,_,h3,e2⟩:=hV.each j hj;have hj6:j<10:=by have:=hV.len;omega
 refine⟨by rw[show (Vs[j].1,Vs[j].2.2).1=Vs[j].1 from rfl,e1];exact Ng 110 j hj6,?_,?_⟩
 ·rw[show (Vs[j].1,Vs[j].2.2).2=Vs[j].2.2 from rfl,e2,apw];omega
 ·rw[show (Vs[j].1,Vs[j].2.2).2=Vs[j].2.2 from rfl,e2];intro s hs;obtain⟨i,hi,rfl⟩:=aaQ.1 hs;have:=bG.1 hi;exact Ng 118 i (by omega)
theorem asx (a1 a2 a3:Option Addr) (c1 c2 c3:Nat) (L1 L2 L3:List Int) (bk:Bool) (w:World) (h1:aaK w a1 L1) (h2:aaK w a2 L2) (h3:aaK w a3 L3) (r1:NH L1) (r2:NH L2) (r3:NH L3):
  Calls Tryz.prog 17 #[.agg #[.slice a1 L1.length c1,.slice a2 L2.length c2,.slice a3 L3.length c3,.bool bk]] w fun e w'=>∃(a b c:Option Addr) (ca cb cc:Nat) (V:List Vr) (L:List (List Int)) (R:List (List Fr)),e=.returned (.agg #[.slice a V.length ca,.slice b L.length cb,.slice c R.length cc])/\gP w' a b c V L R/\vK w' b L/\NM V L R/\Below w.heap.size w w':=by
 refine(asz a1 a2 a3 c1 c2 c3 L1 L2 L3 bk w h1 h2 h3 r1 r2 r3).ae ?_;rintro e w' ⟨bk',n,x,y,z,Vs,Ls,Rs,rfl,⟨gh,jV⟩,hV,hL,oV,oL,oR,hb⟩;obtain⟨a,ca,rfl,gg⟩:=oV.vars;obtain⟨b,cb,rfl,tS,jW⟩:=oL.pars;obtain⟨c,cc,rfl,AV⟩:=oR.rows;exact⟨a,b,c,ca,cb,cc,_,_,_,rfl,⟨gg,tS,AV⟩,jW,asv hV hL gh jV,hb⟩
variable {R:List (List Fr)} {L:List (List Int)}
def pK (V:List Vr) (L:List (List Int)) (R:List (List Fr)) (k:Nat):Rat:=ji V L R (aO (ah V) (List.range V.length) k) V.length
theorem atc {V:List Vr} (h:NM V L R):cnt (ah V) (List.range V.length)<=729:=by
 have h1:=aqh (S:=ah V) h.szs (List.range V.length);rw[lY] at h1;have h2:3^V.length<=3^6:=lW (by decide) h.six;omega
variable {us vs:List Nat} {k:Nat}
theorem JW (hn:us.Nodup) (hlt:∀v∈us,v<n):us.Perm ((List.range n).filter fun v=>us.contains v):=
 (Jd hn (pO.sublist Gt)).2 fun v=>by
  rw[abp,bG,lh];exact⟨fun h=>⟨hlt v h,h⟩,fun h=>h.2⟩
theorem alf {a b:List Nat} (h:a.Perm b):eW R a=eW R b:=by
 induction h with
 |nil=>rfl
 |cons x _ ih=>rw[eW,eW,ih]
 |swap x y l=>simp only[eW];rw[<- il, <- il,abr (vG _) (vG _)]
 |trans _ _ h1 h2=>rw[h1,h2]
theorem ale {a b:List Nat} (h:a.Sublist b):eW R a<=eW R b:=by
 induction h with
 |slnil=>exact ar _
 |cons x _ ih=>rw[eW];exact aS ih (zX _ (lX (Ld _)))
 |cons_cons x _ ih=>rw[eW,eW];exact kZ _ ih
theorem alg (hn:us.Nodup) (hlt:∀v∈us,v<n):eW R us<=eW R (List.range n):=by
 rw[alf (JW hn hlt)];exact ale Gt
theorem Nd (S:List Nat):∀l,jg S l=cnt S l
 |[]=>rfl
 |v::l=>by rw[jg,cnt,Nd S l]
theorem acC (h:∀v,sz S v<=4):∀l:List Nat,cnt S l<=4^l.length
 |[]=>ar _
 |v::l=>by
  rw[cnt,eU,jc,abr];exact iW (acC h l) (h v)
theorem Jy (hf:eH (iL S)) (v:Nat):sz S v<=4:=by
 by_cases hv:v<S.length
 ·have h1:=(hf.each v (by rw[ba];exact hv)).2;have h2:(iL S)[v]'(by rw[ba];exact hv)=(S[v]:Int):=by simp[iL]
  rw[h2] at h1;rw[sz,af hv];show S[v]<=4;omega
 ·rw[sz,iF (by omega)];decide
theorem U6 (hf:eH (iL S)) (hn:us.Nodup) (hlt:∀v∈us,v<S.length):cnt S us<=65536:=by
 have h1:=(JW hn hlt).length_eq;have h2:((List.range S.length).filter fun v=>us.contains v).length<=S.length:=aS (pR ..) (by simp);have h3:=hf.eight;rw[ba] at h3;have h4:=acC (Jy hf) us;have h5:4^us.length<=4^8:=lW (by decide) (by omega);exact aS h4 h5
theorem Qy (h:n<=65536):(B n).size<=3:=by
 have h1:=kj h;have h2:(B 65536).size<=3:=by rw[mK];exact qT 3 65536 (by decide)
 omega
def mJ (V:List Vr) (R:List (List Fr)):Prop:=(B (eW R (List.range V.length))).size<=4000
theorem mJ.at {V:List Vr} (h:mJ V R) (hn:us.Nodup) (hlt:∀v∈us,v<V.length):(B (eW R us)).size<=4000:=aS (kj (alg hn hlt)) h
theorem mJ.pool {V:List Vr} (h:mJ V R) (h0:aW V L R=0) (hn:us.Nodup) (hlt:∀v∈us,v<V.length) (hv:vs.Nodup) (hvl:∀v∈vs,v<V.length):2*(B (eW R us)).size+(B (jg (ah V) vs*1)).size+2<=8192:=by
 have h1:=h.at hn hlt
 have h2:jg (ah V) vs*1<=65536:=by
  rw[mN,Nd];exact U6 (gD h0).fine hv (by rw[gR];exact hvl)
 have h3:=Qy h2;omega
theorem NU {V:List Vr} (h0:aW V L R=0):bE L=0:=by
 rw[aW] at h0;by_cases h1:L.length=V.length/\R.length=V.length
 ·rw[aaf h1] at h0;by_cases h2:bE L=0
  ·exact h2
  ·rw[aaO h2] at h0;exact absurd h0 h2
 ·rw[aaO h1] at h0;exact absurd h0 (by decide)
theorem RD {V:List Vr} (h0:aW V L R=0):lT L (·∈List.range V.length):=fun v _ u hu=>by
 have aM:=gD h0;rw[<- ZA] at hu;have:=(SE (ud (NU h0)) v u hu).1;rw[aM.len] at this;exact bG.2 this
theorem Zu {V:List Vr} (h0:aW V L R=0) (hp:Pos (ah V)) (hk:k<cnt (ah V) (List.range V.length)):eP (eW R (List.range V.length)) (pK V L R k)/\kX 1 (pK V L R k):=by
 have hf:Fit (ah V) (aO (ah V) (List.range V.length) k):=fun u=>nN hp _ _ u hk;have h1:=(PD.net (R:=R) (L:=L) (ws:=List.range V.length) h0 (fun v hv=>bG.1 hv)).prod hf;have h2:=(PI.net h0 (fun v hv=>bG.1 hv) (RD h0)).val _ hf;rw[h2, <- JN] at h1;exact h1
def aK (V:List Vr) (L:List (List Int)) (R:List (List Fr)) (l:List (Nat×Nat)) (k:Nat):Rat:=jX l (aO (ah V) (List.range V.length) k)*pK V L R k
theorem Vx {V:List Vr} (h0:aW V L R=0) (hp:Pos (ah V)) (l:List (Nat×Nat)) (hk:k<cnt (ah V) (List.range V.length)):eP (eW R (List.range V.length)) (aK V L R l k)/\kX 1 (aK V L R l k):=by
 obtain⟨h1,h2⟩:=Zu h0 hp hk;rw[aK,KG];by_cases h:rI l (aO (ah V) (List.range V.length) k)=true
 ·rw[aaf h,vZ];exact⟨h1,h2⟩
 ·rw[aaO h,Rat.zero_mul];exact⟨eP.zero _,by constructor<;>decide⟩
theorem aeH {V:List Vr} (h0:aW V L R=0) (hD:mJ V R) {g:Nat ->Rat} (hn:n<=65536) (hg:∀k,k< n ->eP (eW R (List.range V.length)) (g k)/\kX 1 (g k)):qw (a8 g n)<=8003:=by
 have hz:eW R (List.range V.length)≠0:=(PD.net (V:=V) (L:=L) h0 (fun v hv=>bG.1 hv)).nz.1;have h1:=eP.sum (k:=n) fun x hx=>(hg x hx).1;have h2:=kX.sum (k:=n) fun x hx=>(hg x hx).2;have h3:=h1.size hz h2;have h4:=Qy (n:=n*1) (by omega);have h5:(B (eW R (List.range V.length))).size<=4000:=hD;omega
theorem Pz {V:List Vr} (h0:aW V L R=0):cnt (ah V) (List.range V.length)<=65536:=U6 (gD h0).fine pO fun v hv=>by rw[gR];exact bG.1 hv
theorem SQ {V:List Vr} (h0:aW V L R=0) (hp:Pos (ah V)) (hD:mJ V R) (l:List (Nat×Nat)) (hn:n<=cnt (ah V) (List.range V.length)):qw (a8 (aK V L R l) n)<=8003:=
 aeH h0 hD (aS hn (Pz h0)) fun k hk=>Vx h0 hp l (by omega)
theorem mi {V:List Vr} (h0:aW V L R=0):Pos (ah V):=by have:=(gD h0).fine.pos;rwa [ew] at this
theorem alu (f:Fr):(B (aT f).den).size<=f.2.2.size+1:=by
 have e:aT f=mkRat (sg f.1 (N f.2.1)) (N f.2.2):=rfl;by_cases h:N f.2.2=0
 ·rw[e,h,Rat.mkRat_zero];have:(B ((0:Rat).den)).size<=1:=by rw[mK];exact qT 1 1 (by decide)
  omega
 ·have h1:eP (N f.2.2) (aT f):=⟨_,e⟩;have h2:=Nat.le_of_dvd (lX h) (h1.dvd h);have h3:=kj h2;have h4:=ju f.2.2;omega
theorem aco (y:Nat):∀l:List Fr,(B (vG l*y)).size<=l.length+sw l+(B y).size
 |[]=>by rw[vG,kB];omega
 |f::l=>by
  rw[vG,il];have h1:=ac7 (aT f).den (vG l*y);have h2:=alu f;have h3:=aco y l;rw[eU,sw];omega
def wR (R:List (List Fr)):List Nat ->Nat
 |[]=>0
 |v::vs=>(R.getD v []).length+sw (R.getD v [])+wR R vs
theorem acn (R:List (List Fr)):∀us:List Nat,(B (eW R us)).size<=wR R us+1
 |[]=>by
  show (B 1).size<=0+1;rw[mK];exact qT 1 1 (by decide)
 |v::vs=>by
  rw[eW,wR];have h1:=aco (eW R vs) (R.getD v []);have h2:=acn R vs;omega
variable {fv mq tv mZ u1 u2 x:Value} {V V':World}
structure lN (W:World) (b:Nat) (x fv tv mq mZ:Value) (l:List Int) (Q:List (Value×Value)) (P:List Tb) (V:World):Prop where
 box:bj V b x fv tv
 fo:cX V W.heap.size mq l
 own:kr V W.heap.size mZ Q P
 far:∀R,R<=b ->∀k (h:k<P.length) (h':k<Q.length),fE R P[k] Q[k]
 farF:∀R,mq.ownBlock=some R ->∀k (h:k<P.length) (h':k<Q.length),fE R P[k] Q[k]
 ne:∀R,mq.ownBlock=some R ->mZ.ownBlock≠some R
 fr:W.grownBy V (some b)
theorem lN.start {W:World} {b:Nat} (h:bj W b x (.slice none 0 0) (.slice none 0 0)):lN W b x (.slice none 0 0) (.slice none 0 0) (.slice none 0 0) (.slice none 0 0) [] [] [] W:=
 ⟨h,⟨rfl,.inl ⟨rfl,rfl⟩⟩,kr.nil _ _,(fun R _ k h=>absurd h (by simp)),(fun R e=>by cases e),(fun R e=>by cases e),UF _ _⟩
theorem lN.under {W:World} {b:Nat} {Q:List (Value×Value)} {P:List Tb} (h:lN W b x fv tv mq mZ l Q P V) (hb:Below V.heap.size V V'):lN W b x fv tv mq mZ l Q P V':=
 ⟨h.box.aa hb h.box.lt,JR h.fo (Dn.aa hb),h.own.under hb,h.far,h.farF,h.ne,UG h.fr hb⟩
theorem lN.pushF {W:World} {b:Nat} {De:Value} {l':List Int} {Q:List (Value×Value)} {P:List Tb} (h:lN W b x fv tv mq mZ l Q P V) (hb:b<W.heap.size) (ho:cX V' W.heap.size De l') (hg:V.grownBy V' mq.ownBlock) (hn:De.ownBlock=mq.ownBlock∨∀k,De.ownBlock=some k ->V.heap.size<=k):lN W b x fv tv De mZ l' Q P V':=by
 have hR:∀k,mq.ownBlock=some k ->W.heap.size<=k:=fun k e=>(acH h.fo k e).1;refine⟨(hg.block b h.box.lt (fun e=>by have:=hR b e.symm;omega)).trans h.box,ho,⟨h.own.len,NF h.own.own hg (fun R e e2=>h.ne R e2 e),fun k h1 h2=>(h.own.val k h1 h2).keepR (fun r hr=>h.farF r hr k h1 h2) hg,h.own.far⟩,h.far,fun R e k h1 h2=>?_,fun R e e2=>?_,K2 h.fr hg hR⟩
 ·rcases hn with hn |hn
  ·exact h.farF R (by rw[<- hn];exact e) k h1 h2
  ·exact(h.own.val k h1 h2).lt (hn R e)
 ·rcases hn with hn |hn
  ·exact h.ne R (by rw[<- hn];exact e) e2
  ·have h1:=hn R e;have h2:=(h.own.lt R e2).2;omega
theorem lN.pushT {W:World} {b:Nat} {Ck:Value} {Q:List (Value×Value)} {P:List Tb} {t:Tb} (h:lN W b x fv tv mq mZ l Q P V) (hb:b<W.heap.size) (ht:cR V u1 u2 t) (hf:∀R,mZ.ownBlock=some R ->fE R t (u1,u2)) (hfF:∀R,mq.ownBlock=some R ->fE R t (u1,u2)) (hfb:∀R,R<=b ->fE R t (u1,u2)) (ho:V'.ownsRow W.heap.size 39 2 Ck (P.length+1) (fK Q++[u1,u2])) (hg:V.grownBy V' mZ.ownBlock) (hn:Ck.ownBlock=mZ.ownBlock∨∀k,Ck.ownBlock=some k ->V.heap.size<=k):lN W b x fv tv mq Ck l (Q++[(u1,u2)]) (P++[t]) V':=by
 have hR:∀k,mZ.ownBlock=some k ->W.heap.size<=k:=fun k e=>(h.own.lt k e).1
 have hall:∀R,(∀k (h1:k<P.length) (h2:k<Q.length),fE R P[k] Q[k]) ->fE R t (u1,u2) ->∀k (h1:k<(P++[t]).length) (h2:k<(Q++[(u1,u2)]).length),fE R (P++[t])[k] (Q++[(u1,u2)])[k]:=fun R hP hT k h1 h2=>by
  by_cases dX:k<P.length
  ·have gi:k<Q.length:=by rw[h.own.len];exact dX
   rw[uI gi,uI dX];exact hP k dX gi
  ·have gi:¬k<Q.length:=by rw[h.own.len];exact dX
   rw[Ac (by omega),Ac (by omega)];simp only[MQ];exact hT
 refine⟨(hg.block b h.box.lt (fun e=>by have:=hR b e.symm;omega)).trans h.box,NF h.fo hg (fun R e e2=>h.ne R e e2),h.own.push ht hf ho hg hn,(fun R hR=>hall R (h.far R hR) (hfb R hR)),fun R e=>hall R (h.farF R e) (hfF R e),fun R e e2=>?_,K2 h.fr hg hR⟩;rcases hn with hn |hn
 ·rw[hn] at e2;exact h.ne R e e2
 ·have h1:=hn R e2;have h2:=(acH h.fo R e).2;omega
theorem lN.set1 {W:World} {b:Nat} {Q:List (Value×Value)} {P:List Tb} (h:lN W b x fv tv mq mZ l Q P V) (hb:b<W.heap.size) (u:Value):lN W b x u tv mq mZ l Q P (V.setCell ⟨b,1,none⟩ u):=
 ⟨h.box.set1 u,DY h.fo (fun e=>by have:=(acH h.fo b e).1;omega) u,h.own.off u (h.far b (ar b)) (fun e=>by have:=(h.own.lt b e).1;omega),h.far,h.farF,h.ne,OZ h.fr _ _⟩
theorem lN.set2 {W:World} {b:Nat} {Q:List (Value×Value)} {P:List Tb} (h:lN W b x fv tv mq mZ l Q P V) (hb:b<W.heap.size) (u:Value):lN W b x fv u mq mZ l Q P (V.setCell ⟨b,2,none⟩ u):=
 ⟨h.box.set2 u,DY h.fo (fun e=>by have:=(acH h.fo b e).1;omega) u,h.own.off u (h.far b (ar b)) (fun e=>by have:=(h.own.lt b e).1;omega),h.far,h.farF,h.ne,OZ h.fr _ _⟩
theorem ain (a:Option Addr) (ca:Nat) (L:List (List Int)) (w:World) (h:fh w a L) (hl:∀l∈L,l.length<=140737488355328) (hg:bE L=0):
  Calls Tryz.prog 93 #[.slice a L.length ca] w fun e w'=>∃G,e=.returned (.tuple #[.slice (some ⟨G,0,none⟩) L.length L.length,.int .i64 0])/\fh w' (some ⟨G,0,none⟩) (np L)/\Below w.heap.size w w':=
 (aki a ca L w h hl).ae fun e w' hh=>by
  rcases hh with ⟨⟨h1,_⟩ |⟨_,G,h2,h3⟩,hb⟩
  ·exact absurd hg h1
  ·exact⟨G,h2,h3,hb⟩
theorem akX (a:Option Addr) (ca:Nat) (L:List (List Int)) (w:World) (h:fh w a (np L)) (hg:gB L=true) (h1:1<=L.length) (h8:L.length<=8):
  Calls Tryz.prog 94 #[.slice a L.length ca] w fun e w'=>∃d cd G,e=.returned (.tuple #[.slice d L.length cd,.slice (some ⟨G,0,none⟩) L.length L.length,.int .i64 0])/\aaK w' d (iL (ir L))/\Below w.heap.size w w':=by
 have:=akk a ca (np L) w h (fun l hl=>by
  obtain⟨s,_,rfl⟩:=aaQ.1 hl;rw[gN,ba,fM];exact aS (pR ..) (by simp))
 rw[AA] at this;refine this.ae fun e w' hh=>?_;rcases hh with ⟨⟨_,d,cd,G,h2,h3,_⟩ |⟨h2,_⟩,hb⟩
 ·rw[AA] at h2;exact⟨d,cd,G,h2,h3,hb⟩
 ·rw[aio hg h1 h8] at h2;cases h2
theorem ake (a b c:Option Addr) (ca cb cc v:Nat) (V:List Vr) (L:List (List Int)) (R:List (List Fr)) (w:World) (h:gP w a b c V L R) (hN:vK w b L) (hs:sQ V L R) (hw:∀l∈R,fw l<=4200) (h0:aW V L R=0) (hv:v<V.length) (hCK:∀U:World,gP U a b c V L R ->Calls Tryz.prog 75 #[.agg #[.slice a V.length ca,.slice b L.length cb,.slice c R.length cc]] U fun e w'=>e=.returned (.int .i64 (aW V L R))/\Below U.heap.size U w'):
  Calls Tryz.prog 95 #[.agg #[.slice a V.length ca,.slice b L.length cb,.slice c R.length cc],.int .i64 (v:Nat)] w fun e w'=>Bi w.heap.size (gU L v,gL V L R v) e w'/\Below w.heap.size w w':=
 (ah1 a b c ca cb cc v V L R w h hN hs hw h0 hv hCK).ae fun _ _ hh=>⟨uh.tb (t:=(gU L v,gL V L R v)) hh.1,hh.2⟩
variable {K:Act ->World ->Prop} {Q:Exit ->Act ->World ->Prop} {w:World}
theorem QV {o:Oper} {a:Act} (s x:Operand)
  (ho:o.op=.call {callee:=.builtin .append,args:= #[s,x],argTypes:= #[27,27]}) (base:Nat) (v:Value) (l:List Int) (f:Int) (hs:a.eval s=v) (hown:cX w base v l) (g:Nat) (hx:a.eval x=.slice (some ⟨g,0,none⟩) 1 1) (hg:w.cell? ⟨g,0,none⟩=some (.int .i64 f)) (hlen:l.length+1<=100000) (hbase:base<=w.heap.size)
  (h:∀v' w',cX w' base v' (l++[f]) ->w.grownBy w' v.ownBlock ->(v'.ownBlock=v.ownBlock∨∀k,v'.ownBlock=some k ->w.heap.size<=k) ->K (a.put o.dst v') w'):o.wp Tryz.prog a w K Q:=by
 obtain⟨i0,cU,hz0,hz1,hz2⟩:=eT Tryz.infoInt
 have hnews:∀j u,[Value.int .i64 f][j]? =some u ->w.cell? ((⟨g,0,none⟩:Addr).add j)=some u:=fun j u hj=>by
  match j,hj with
  |0,hj=>cases hj;exact hg
  |j+1,hj=>simp at hj
 have yQ:∀u∈[Value.int .i64 f],u.oneCell'=true:=fun u hu=>by
  simp only[dK,qG,acA] at hu;subst hu;rfl
 have hmax:l.length+1<=maxLen:=by unfold maxLen;omega
 obtain⟨v',w',hr,h2,h3, -⟩:=run_append_own (P:=Tryz.prog) w base 27 o.type 3 i0 (.int .i64 0) 1 8 Tryz.underlying27 cU hz0 hz1 hz2 rfl (by decide) v l.length _ hown ⟨g,0,none⟩ 1 1 [.int .i64 f] rfl hnews yQ hmax (by omega) hbase
 have hnew:v'.ownBlock=v.ownBlock∨∀k,v'.ownBlock=some k ->w.heap.size<=k:=by
  rcases hown.2 with ⟨h4,h5⟩ |⟨g',cap,cur,h4,hbg,iK,CL,hcm,hcs,aaT⟩
  ·right
   have e:=run_append_nil (P:=Tryz.prog) w 27 o.type 3 i0 (.int .i64 0) Tryz.underlying27 cU hz0 ⟨g,0,none⟩ 1 1 [.int .i64 f] (by rw[hz1];rfl) hnews (by decide) (by decide) (by rw[hz2];decide);rw[h4] at hr;rw[hr] at e;cases e;intro k hk;cases hk;exact ar _
  ·rw[h4] at hr;by_cases hroom:l.length+1<=cap
   ·left
    have e:=run_append_room (P:=Tryz.prog) w 27 o.type 3 i0 Tryz.underlying27 cU g' l.length cap cur iK ⟨g,0,none⟩ 1 1 [.int .i64 f] (by rw[hz1];rfl) hnews yQ hroom (by rw[hz1,hcs];simp;omega);rw[hr] at e;cases e;rw[h4];rfl
   ·right
    have hown':=hown;rw[h4] at hown';have e:=run_append_grow (P:=Tryz.prog) w 27 o.type 3 i0 (.int .i64 0) Tryz.underlying27 cU hz0 ⟨g',0,none⟩ l.length cap (l.map (Value.int .i64)) (by rw[hz1];simp) (World.ownsRow.cells hown' rfl) ⟨g,0,none⟩ 1 1 [.int .i64 f] (by rw[hz1];rfl) hnews (by omega) (by omega) (ME (by omega) (by rw[hz2];omega));rw[hr] at e;cases e;intro k hk;cases hk;exact ar _
 unfold Oper.wp execOp;simp only[ho,resolve,invoke,builtin,I8,DZ,zR,Je,gQ,ld,hs,hx,hr];refine h v' w' ?_ h3 hnew;rw[cX,dM,fY];exact h2
theorem QU {o:Oper} {a:Act} (s x:Operand)
  (ho:o.op=.call {callee:=.builtin .append,args:= #[s,x],argTypes:= #[85,85]}) (base:Nat) (v:Value) (n:Nat) (xs:List Value) (u1 u2:Value) (hs:a.eval s=v) (hown:w.ownsRow base 39 2 v n xs) (g:Nat) (hx:a.eval x=.slice (some ⟨g,0,none⟩) 1 1) (h0:w.cell? ⟨g,0,none⟩=some u1) (h1:w.cell? ⟨g,1,none⟩=some u2) (hu1:cM u1) (hu2:cM u2) (hlen:n+1<=100000) (hbase:base<=w.heap.size)
  (h:∀v' w',w'.ownsRow base 39 2 v' (n+1) (xs++[u1,u2]) ->w.grownBy w' v.ownBlock ->(v'.ownBlock=v.ownBlock∨∀k,v'.ownBlock=some k ->w.heap.size<=k) ->K (a.put o.dst v') w'):o.wp Tryz.prog a w K Q:=by
 obtain⟨i0,cU,hz0,hz1,hz2⟩:=eT Tryz.infoTable
 obtain⟨v',w',hr,r1,r2,r3⟩:=YT (P:=Tryz.prog) w base 85 o.type 39 i0 (.agg #[.slice none 0 0,.slice none 0 0]) 2 48 Tryz.underlying85 cU hz0 hz1 hz2 rfl (by decide) v n xs hown ⟨g,0,none⟩ 1 1 [u1,u2] rfl (fun j u hj=>by
  match j,hj with
  |0,hj=>cases hj;exact h0
  |1,hj=>cases hj;exact h1
  |j+2,hj=>simp at hj) (fun u hu=>by
  simp only[dK,qG,acA] at hu;rcases hu with rfl |rfl
  ·obtain⟨_,_,_,rfl⟩:=hu1;rfl
  ·obtain⟨_,_,_,rfl⟩:=hu2;rfl) (by unfold maxLen;omega) (by omega) hbase (by decide)
 unfold Oper.wp execOp;simp only[ho,resolve,invoke,builtin,I8,DZ,zR,Je,gQ,ld,hs,hx,hr];exact h v' w' r1 r2 r3
variable {rs:List Nat} {i:Nat} {oi:Oper}
section
variable {P : Program} {ops : Array Oper} {Q : Exit -> Act -> World -> Prop} {md : Region.Mode} {S : Bool -> World -> Prop} {k : Nat}
def tD (P:Program) (md:Region.Mode) (ops:Array Oper) (Q:Exit ->Act ->World ->Prop) (S:Bool ->World ->Prop) (k:Nat):Nat ->Array Bool ->Act ->World ->Prop
 |0,l,a,w=>Region.ready md ops l=[]/\Q .normal a w
 |n+1,l,a,w=>(Region.ready md ops l=[] ->Q .normal a w)/\∀i∈Region.ready md ops l,wpOp P ops Q i (fun a' w'=>S ((l.setIfInBounds i true).getD k true) w'/\tD P md ops Q S k n (l.setIfInBounds i true) a' w') a w
theorem Xr:∀(n:Nat) (l:Array Bool) (a:Act) (w:World),tD P md ops Q S k n l a w ->wpAny P md ops Q n l a w
 |0,_,_,_,h=>h
 |n+1,_,_,_,h=>⟨h.1,fun i hi=>wpOp_mono (fun a' w' h'=>Xr n _ a' w' h'.2) (h.2 i hi)⟩
theorem adt {l:Array Bool} (h:i∈Region.ready md ops l):l.getD i true=false:=(mem_ready.1 h).1
theorem Xq {v:Value} (W:Bool ->Prop) (hi:ops[i]? =some oi) (aa2:∀(j:Nat) (o:Oper) cs b,ops[j]? =some o ->o.op≠.select cs b)
  (hQ:∀c a w,Q (.panic c) (a.put oi.dst v) w ->Q (.panic c) a w)
  (hW:∀(l:Array Bool) (j:Nat),i∈Region.ready md ops l ->j∈Region.ready md ops l ->j≠i ->W (l.getD k true) ->W ((l.setIfInBounds j true).getD k true)) (hk:k≠i):
  ∀(n:Nat) (l:Array Bool) (a:Act) (w:World),
   (∀j oj,ops[j]? =some oj ->j≠i ->l.getD j true=false ->(∀e∈oj.after,Region.binds md e=true ->e.on≠i) ->oi.apart ops oj=true) ->
   i∈Region.ready md ops l ->YieldsIf P ops (fun u=>∃b,W b/\S b u) oi v a ->W (l.getD k true) ->S (l.getD k true) w ->
   tD P md ops Q S k n (l.setIfInBounds i true) (a.put oi.dst v) w ->tD P md ops Q S k (n+1) l a w:=by
 have abq:∀l:Array Bool,(l.setIfInBounds i true).getD k true=l.getD k true:=fun l=>getD_set_ne true (Ne.symm hk);intro n;induction n with
 |zero=>
  intro l a w _ hr hy hw hS H;refine⟨fun h=>(by rw[h] at hr;cases hr),fun j hj=>?_⟩;by_cases ml:j=i
  ·subst ml;exact hy.wpOp hi ⟨_,hw,hS⟩ ⟨by rw[abq];exact hS,H⟩
  ·have:=ready_mono hj ml;rw[H.1] at this;cases this
 |succ n ih=>
  intro l a w wW hr hy hw hS H;refine⟨fun h=>(by rw[h] at hr;cases hr),fun j hj=>?_⟩;by_cases ml:j=i
  ·subst ml;exact hy.wpOp hi ⟨_,hw,hS⟩ ⟨by rw[abq];exact hS,H⟩
  ·have h1:=H.2 j (ready_mono hj ml);obtain⟨abl,oj,Hn,hall⟩:=mem_ready.1 hj
   have ajn:∀e∈oj.after,Region.binds md e=true ->e.on≠i:=fun e he hb heq=>by
    have h1:=hall e he hb;have h0:=adt hr;rw[heq] at h1;rcases cD i l.size with h' |h'
    ·simp[h'] at h0 h1;rw[h0] at h1;cases h1
    ·simp[Array.getElem?_eq_none h'] at h1
   have h2:=wpOp_putIf Hn (wW j oj Hn ml abl ajn) (fun cs b=>aa2 i oi cs b hi) (fun cs b=>aa2 j oj cs b Hn) hQ hy h1
   have ajF:∀x ox,ops[x]? =some ox ->x≠i ->(l.setIfInBounds j true).getD x true=false ->(∀e∈ox.after,Region.binds md e=true ->e.on≠i) ->oi.apart ops ox=true:=fun x ox hx hxi Oe hno=>by
    refine wW x ox hx hxi ?_ hno;by_cases N4:j=x
    ·subst N4;exact abl
    ·rw[getD_set_ne true N4] at Oe;exact Oe
   have hw':=hW l j hr hj ml hw;have acm:(l.setIfInBounds i true).setIfInBounds j true=(l.setIfInBounds j true).setIfInBounds i true:=Array.setIfInBounds_comm _ _ (Ne.symm ml);refine wpOp_mono (fun a' w' h3=>?_) h2
   have PO:S ((l.setIfInBounds j true).getD k true) w':=by
    have:=h3.2.1;rwa [acm,getD_set_ne true (Ne.symm hk)] at this
   refine⟨PO,ih (l.setIfInBounds j true) a' w' ajF (ready_mono hr (Ne.symm ml)) h3.1 hw' PO ?_⟩;rw[<- acm];exact h3.2.2
theorem l6 {v:Value} {l:Array Bool} {a:Act} (hi:ops[i]? =some oi)
  (hs:Region.noSelect ops=true) (hf:Region.free md ops l i=true) (hr:(Region.ready md ops l).contains i=true) (hk:k≠i)
  (hQ:∀c a w,Q (.panic c) (a.put oi.dst v) w ->Q (.panic c) a w) (hy:YieldsIf P ops (fun u=>∃b,S b u) oi v a) {b:Bool} (hb:l.getD k true=b) (hS:S b w)
  (h:tD P md ops Q S k n (l.setIfInBounds i true) (a.put oi.dst v) w):tD P md ops Q S k (n+1) l a w:=
 Xq (fun _=>True) hi (Region.noSelect_spec hs) hQ (fun _ _ _ _ _ h=>h) hk n l a w (Region.free_spec hi hf) (by simpa using hr) (hy.imp (fun ⟨h1,h2⟩=>⟨h1,fun u ⟨b,_,hu⟩=>h2 u ⟨b,hu⟩⟩) id) trivial (by rw[hb];exact hS) h
theorem GD {ok:Oper} {v:Value} {l:Array Bool} {a:Act} (hi:ops[i]? =some oi)
  (hs:Region.noSelect ops=true) (hf:Region.free md ops l i=true) (hr:(Region.ready md ops l).contains i=true) (hk:k≠i)
  (aM:ops[k]? =some ok) (hw:(ok.after.any fun e=>Region.binds md e&&e.on==i)=true)
  (hQ:∀c a w,Q (.panic c) (a.put oi.dst v) w ->Q (.panic c) a w) (hy:YieldsIf P ops (S false) oi v a) (hb:l.getD k true=false) (hS:S false w)
  (h:tD P md ops Q S k n (l.setIfInBounds i true) (a.put oi.dst v) w):tD P md ops Q S k (n+1) l a w:=by
 refine Xq (fun b=>b=false) hi (Region.noSelect_spec hs) hQ (fun l j hri hj ml e=>?_) hk n l a w (Region.free_spec hi hf) (by simpa using hr) (hy.imp (fun ⟨h1,h2⟩=>⟨h1,fun u ⟨b,hb,hu⟩=>h2 u (by subst hb;exact hu)⟩) id) hb (by rw[hb];exact hS) h;by_cases hjk:j=k
 ·subst hjk;exfalso
  obtain⟨_,oj,Hn,hall⟩:=mem_ready.1 hj;rw[aM] at Hn;cases Hn;obtain⟨e,he,h2⟩:=Array.any_eq_true'.1 hw;obtain⟨h3,h4⟩:=Bool.and_eq_true_iff.1 h2;have h5:=hall e he h3;have h0:=adt hri;rw[eq_of_beq h4] at h5;rcases cD i l.size with h' |h'
  ·simp[h'] at h0 h5;rw[h0] at h5;cases h5
  ·simp[Array.getElem?_eq_none h'] at h5
 ·rw[getD_set_ne true hjk];exact e
def dS (P:Program) (md:Region.Mode) (ops:Array Oper) (Q:Exit ->Act ->World ->Prop) (S:Bool ->World ->Prop) (k n:Nat) (l:Array Bool) (a:Act) (w:World) (rs:List Nat):Prop:=
 ∀i∈rs,wpOp P ops Q i (fun a' w'=>S ((l.setIfInBounds i true).getD k true) w'/\tD P md ops Q S k n (l.setIfInBounds i true) a' w') a w
theorem dS.nil {l:Array Bool} {a:Act}:dS P md ops Q S k n l a w []:=fun _ h=>by cases h
theorem dS.cons {l:Array Bool} {a:Act} {o:Oper} {b:Bool} (ho:ops[i]? =some o) (hb:(l.setIfInBounds i true).getD k true=b)
  (h:∀K':Act ->World ->Prop,Go.Shut (∀a w,S b w ->(S b w ->tD P md ops Q S k n (l.setIfInBounds i true) a w) ->K' a w) ->if Region.wanted o (yielded ops a.tmps)=true then Oper.wp P o a w K' Q else K' (a.put o.dst undef) w)
  (hs:dS P md ops Q S k n l a w rs):dS P md ops Q S k n l a w (i::rs):=fun j hj=>by
 rcases dK.1 hj with rfl |hj
 ·exact wpOp_step ho (fun K' hK=>h K' (fun a w hS hU=>hK a w ⟨by rw[hb];exact hS,hU hS⟩))
 ·exact hs j hj
theorem om {l:Array Bool} {a:Act} (hr:Region.ready md ops l=rs) (hne:rs≠[]) (h:dS P md ops Q S k n l a w rs):tD P md ops Q S k (n+1) l a w:=
 ⟨fun h0=>absurd (hr▸h0) hne,hr▸h⟩
theorem Jk {l:Array Bool} {a:Act} (hr:Region.ready md ops l=[]) (h:Q .normal a w):∀n,tD P md ops Q S k n l a w
 |0=>⟨hr,h⟩
 |_+1=>⟨fun _=>h,by rw[hr];simp⟩
theorem QT {id:Nat} {a:Act} (k:Nat) (S:Bool ->World ->Prop) (hm:P.follows .mixedOrders=true) (hS:S false w.drew) (h:S false w.drew ->tD P .any ops Q S k ops.size (Array.replicate ops.size false) a w.drew):(Code.region id ops true).wp P Q a w:=
 wp_region_any hm (Xr _ _ _ _ (h hS))
end
variable {U U':World}
structure nQ (U:World) (B:Nat) (u1 u2 fv tv:Value):Prop where
 tb:bh U B u1 u2
 nf:fv.ownBlock≠some B
 nt:tv.ownBlock≠some B
theorem nQ.under {B:Nat} (h:nQ U B u1 u2 fv tv) (hb:Below U.heap.size U U'):nQ U' B u1 u2 fv tv:=⟨h.tb.aa hb h.tb.lt,h.nf,h.nt⟩
theorem nQ.pushF {B:Nat} {De:Value} (h:nQ U B u1 u2 fv tv) (hg:U.grownBy U' fv.ownBlock) (hn:De.ownBlock=fv.ownBlock∨∀k,De.ownBlock=some k ->U.heap.size<=k):nQ U' B u1 u2 De tv:=
 ⟨(hg.block B h.tb.lt (fun e=>h.nf e.symm)).trans h.tb,fun e=>by
  rcases hn with hn |hn
  ·exact h.nf (hn▸e)
  ·have:=hn B e;have:=h.tb.lt;omega,h.nt⟩
theorem nQ.pushT {B:Nat} {Ck:Value} (h:nQ U B u1 u2 fv tv) (hg:U.grownBy U' tv.ownBlock) (hn:Ck.ownBlock=tv.ownBlock∨∀k,Ck.ownBlock=some k ->U.heap.size<=k):nQ U' B u1 u2 fv Ck:=
 ⟨(hg.block B h.tb.lt (fun e=>h.nt e.symm)).trans h.tb,h.nf,fun e=>by
  rcases hn with hn |hn
  ·exact h.nt (hn▸e)
  ·have:=hn B e;have:=h.tb.lt;omega⟩
theorem nQ.off {B:Nat} (h:nQ U B u1 u2 fv tv) (b j:Nat) (u:Value) (hne:B≠b):nQ (U.setCell ⟨b,j,none⟩ u) B u1 u2 fv tv:=⟨(je U ⟨b,j,none⟩ u B hne).trans h.tb,h.nf,h.nt⟩
theorem nQ.new {W:World} {b:Nat} {Q:List (Value×Value)} {P:List Tb} (h:lN W b x fv tv mq mZ l Q P V) (u1 u2:Value):nQ (V.alloc (TC u1 u2)) V.heap.size u1 u2 mq mZ:=
 ⟨bh.at rfl u1 u2,fun e=>by have:=(acH h.fo _ e).2;omega,fun e=>by have:=(h.own.lt _ e).2;omega⟩
def kQ (b B:Nat) (fv tv u1 u2:Value) (c:Bool) (U:World):Prop:=(U.cell? ⟨B,0,none⟩=some u1/\U.cell? ⟨B,1,none⟩=some u2)/\(c=false ->U.cell? ⟨b,1,none⟩=some fv/\U.cell? ⟨b,2,none⟩=some tv)
theorem kQ.of {W:World} {b B:Nat} {Q:List (Value×Value)} {P:List Tb} (h:lN W b x fv tv mq mZ l Q P U) (o:nQ U B u1 u2 mq mZ) (c:Bool):kQ b B fv tv u1 u2 c U:=⟨⟨o.tb.c0,o.tb.c1⟩,fun _=>h.box.cells.2⟩
theorem kQ.late {b B:Nat} (o:nQ U B u1 u2 mq mZ):kQ b B fv tv u1 u2 true U:=⟨⟨o.tb.c0,o.tb.c1⟩,fun e=>by cases e⟩
theorem Zo (a b c q:Option Addr) (ca cb cc cq:Nat) (V:List Vr) (L:List (List Int)) (R:List (List Fr)) (vars:List Int) (w:World) (h:gP w a b c V L R) (hN:vK w b L) (hs:sQ V L R) (hw:∀l∈R,fw l<=4200) (h0:aW V L R=0) (nG:bE L=0) (h1:1<=L.length) (dh:∀l∈L,l.length<=140737488355328) (hq:aaK w q vars) (dN:vars.length<=1000) (hCK:∀U:World,gP U a b c V L R ->Calls Tryz.prog 75 #[.agg #[.slice a V.length ca,.slice b L.length cb,.slice c R.length cc]] U fun e w'=>e=.returned (.int .i64 (aW V L R))/\Below U.heap.size U w'):
  Calls Tryz.prog 46 #[.agg #[.slice a V.length ca,.slice b L.length cb,.slice c R.length cc],.slice q vars.length cq] w fun e w'=>∃g d cd t' b9,e=.returned (.agg #[.slice (some ⟨g,0,none⟩) V.length V.length,.slice d ((ir L).filter fun v:Nat=>vars.contains (v:Int)).length cd,.slice t' ((ir L).filter fun v:Nat=>vars.contains (v:Int)).length b9])/\aaK w' (some ⟨g,0,none⟩) (iL (ah V))/\aaK w' d (iL ((ir L).filter fun v:Nat=>vars.contains (v:Int)))/\dQ w' t' (((ir L).filter fun v:Nat=>vars.contains (v:Int)).map fun v=>(gU L v,gL V L R v))/\Below w.heap.size w w'/\eC w.heap.size t' b9:=by
 have aM:=gD h0;have h8:L.length<=8:=by rw[aM.len];exact aM.n8
 have VP:=hid (fun (U:World) (hU:Below w.heap.size w U)=>ain b cb L U (h.aa hU).pars dh nG);have HFI:=hid (fun (x:Option Addr) (cx:Nat) (U:World) (hx:fh U x (np L))=>akX x cx L U hx (ud nG) h1 h8);have fT:=hid (fun (U:World) (hU:Below w.heap.size w U)=>NX a b c ca cb cc L.length R.length V U (h.aa hU).vars hs.vars.1);have Wx:=hid (fun (v:Nat) (hv:v<V.length) (U:World) (hU:Below w.heap.size w U)=>ake a b c ca cb cc v V L R U (h.aa hU) (hN.aa h.pars hU) hs hw h0 hv hCK);have jt:Hid (∀(x:Int) (U:World),Below w.heap.size w U ->Calls Tryz.prog 49 #[.slice q vars.length cq,.int .i64 x] U fun e w'=>e=.returned (.bool (vars.contains x))/\Below U.heap.size U w'):=fun x U hU=>GS q cq vars x U (hq.aa hU) (by omega);have A8:=(au w.heap.size w).alloc (ar _) (NC (.slice a V.length ca) (.slice b L.length cb) (.slice c R.length cc));have Dc:=A8.alloc A8.size (.cells #[.slice none 0 0,.slice none 0 0,.slice none 0 0] 87);have Uj:=gX.at (w:=w) rfl (.slice a V.length ca) (.slice b L.length cb) (.slice c R.length cc);have Hv:=Uj.aa ((au _ _).alloc (ar _) (.cells #[.slice none 0 0,.slice none 0 0,.slice none 0 0] 87)) Uj.lt;have iA:bj ((w.alloc (NC (.slice a V.length ca) (.slice b L.length cb) (.slice c R.length cc))).alloc (.cells #[.slice none 0 0,.slice none 0 0,.slice none 0 0] 87)) (w.heap.size+1) (.slice none 0 0) (.slice none 0 0) (.slice none 0 0):=bj.at (w:=w.alloc (NC (.slice a V.length ca) (.slice b L.length cb) (.slice c R.length cc))) (by simp) _ _ _;have n1:=Hv.cells.2.1
 obtain⟨FL,C8⟩:∃FL:Nat ->List Nat,∀k,((ir L).take k).filter (fun v:Nat=>vars.contains (v:Int))=FL k:=⟨fun k=>((ir L).take k).filter (fun v:Nat=>vars.contains (v:Int)),fun _=>rfl⟩;obtain⟨TL,oK⟩:∃TL:Nat ->List Tb,∀k,(FL k).map (fun v=>(gU L v,gL V L R v))=TL k:=⟨fun k=>(FL k).map (fun v=>(gU L v,gL V L R v)),fun _=>rfl⟩;have ER:(ir L).length=L.length:=by rw[NS];simp
 have uw:Hid (∀i,i<L.length ->∃v:Nat,v<V.length/\(∀(d1:Option Addr) (U:World),aaK U d1 (iL (ir L)) ->∃g o,d1=some ⟨g,o,none⟩/\g<U.heap.size/\U.cell? ⟨g,o+i,none⟩=some (.int .i64 (v:Nat)))/\(vars.contains (v:Int)=true ->FL (i+1)=FL i++[v])/\(vars.contains (v:Int)=false ->FL (i+1)=FL i)):=fun i hi=>by
  have Ox:i<(ir L).length:=by omega
  have zM:i<(iL (ir L)).length:=by rw[ba];exact Ox
  refine⟨(ir L)[i],?_,fun d1 U hU=>?_,fun h=>?_,fun h=>?_⟩
  ·rw[<- aM.len];exact NQ (ud nG) h1 h8 (bH Ox)
  ·obtain⟨g,o,e,hg,hc⟩:=hU i zM;refine⟨g,o,e,hg,?_⟩;rw[hc];simp[iL]
  ·rw[<- C8, <- C8,fR Ox,Ch,Ad (p:=fun v:Nat=>vars.contains (v:Int)) h];rfl
  ·rw[<- C8, <- C8,fR Ox,Ch,Ae (p:=fun v:Nat=>vars.contains (v:Int)) (by rw[h];decide)];simp
 have Mq:Hid (FL 0=[]/\TL 0=[]):=by show _/\_;rw[<- oK, <- C8];exact⟨rfl,rfl⟩
 have kz:Hid (∀k,(FL k).length<=8):=fun k=>by rw[<- C8];exact aS (pR ..) (by rw[eZ];omega)
 have VS:Hid (∀k,(TL k).length<=8):=fun k=>by rw[<- oK,c5];exact kz.o k
 have sU:Hid (∀(k v:Nat),FL (k+1)=FL k++[v] ->iL (FL (k+1))=iL (FL k)++[(v:Int)]/\TL (k+1)=TL k++[(gU L v,gL V L R v)]):=fun k v h=>by rw[<- oK, <- oK,h,fY,iL,fY];exact⟨rfl,rfl⟩
 have LJ:Hid (∀k,FL (k+1)=FL k ->TL (k+1)=TL k):=fun k h=>by rw[<- oK, <- oK,h]
 have Mo:Hid (FL L.length=(ir L).filter (fun v:Nat=>vars.contains (v:Int))):=by show _=_;rw[<- C8, <- ER,fJ]
 have qu:Hid (TL L.length=((ir L).filter (fun v:Nat=>vars.contains (v:Int))).map fun v=>(gU L v,gL V L R v)):=by show _=_;rw[<- oK,Mo.o]
 have abI:(TL L.length).length=(FL L.length).length:=by rw[<- oK,c5]
 rw[<- Mo.o] at qu⊢;rw[<- qu.o];clear C8 oK Mo qu ER;clear h hN hs hw hq hCK A8 Uj;go_enter Tryz.func46,Tryz.ntmps46;go_wp2_with fail
 generalize ((w.alloc (NC (.slice a V.length ca) (.slice b L.length cb) (.slice c R.length cc))).alloc (.cells #[.slice none 0 0,.slice none 0 0,.slice none 0 0] 87))=W0 at *;refine(VP.o W0 Dc).ae ?_;rintro e w1 ⟨G1,rfl,hl1,hb1⟩;have hB1:=Dc.trans (hb1.ae Dc.size);have vA:=Hv.aa hb1 Hv.lt;have hR1:=iA.aa hb1 iA.lt;have x6:=hid (HFI.o _ L.length w1 hl1);clear n1 Hv iA Dc hb1 hl1;go_wp2_with fail
 refine x6.o.ae ?_;rintro e w2 ⟨d1,zh,G2,rfl,jP,hb2⟩;have hB2:=hB1.trans (hb2.ae hB1.size);have E8:=vA.aa hb2 vA.lt;have hR2:=hR1.aa hb2 hR1.lt;obtain⟨n0,n1,n2⟩:=E8.cells;have iR:=hid (fT.o w2 hB2);clear hB1 vA hR1 hb2 x6;go_wp2_with fail
 refine iR.o.ae ?_;rintro e w3 ⟨G,rfl,hG,hsz,hb3⟩;have bU:=hB2.trans (hb3.ae hB2.size);have Ui:=E8.aa hb3 E8.lt;have lH:=hR2.aa hb3 hR2.lt;have Uo:=jP.aa hb3;have hl0:=hR2.lt;have hs3:=hb3.size;have jT:=(au w3.heap.size w3).alloc (ar _) (.cells #[.slice (some ⟨G,0,none⟩) V.length V.length,.slice none 0 0,.slice none 0 0] 87);have eM:(w3.alloc (.cells #[.slice (some ⟨G,0,none⟩) V.length V.length,.slice none 0 0,.slice none 0 0] 87)).heap.size=w3.heap.size+1:=by simp
 have fV:=hid (bU.trans (jT.ae bU.size));have uA:=hid (Ui.aa jT Ui.lt);have js:=hid (lH.alloc (.cells #[.slice (some ⟨G,0,none⟩) V.length V.length,.slice none 0 0,.slice none 0 0] 87));have F4:=hid (Uo.aa jT);have HIS:=hid (hsz.ints.aa jT);have E9:=hsz.lt;have vS:Hid (lN (w3.alloc (.cells #[.slice (some ⟨G,0,none⟩) V.length V.length,.slice none 0 0,.slice none 0 0] 87)) w3.heap.size (.slice (some ⟨G,0,none⟩) V.length V.length) (.slice none 0 0) (.slice none 0 0) (.slice none 0 0) (.slice none 0 0) (iL []) [] [] (w3.alloc (.cells #[.slice (some ⟨G,0,none⟩) V.length V.length,.slice none 0 0,.slice none 0 0] 87))):=lN.start (bj.at (w:=w3) rfl (.slice (some ⟨G,0,none⟩) V.length V.length) (.slice none 0 0) (.slice none 0 0));have mI:=hid jT
 have Wo:Hid (∀U:World,(w3.alloc (.cells #[.slice (some ⟨G,0,none⟩) V.length V.length,.slice none 0 0,.slice none 0 0] 87)).grownBy U (some w3.heap.size) ->aaK U d1 (iL (ir L))):=fun U hU=>Hg F4.o (fun g o e hne e2=>by
  obtain⟨g',o',e',iK,_⟩:=Uo 0 (by cases hl:iL (ir L) with |nil=>exact absurd hl hne |cons x l=>simp);rw[e] at e';cases e';cases e2;omega) hU
 have HIG:Hid (∀U:World,(w3.alloc (.cells #[.slice (some ⟨G,0,none⟩) V.length V.length,.slice none 0 0,.slice none 0 0] 87)).grownBy U (some w3.heap.size) ->aaK U (some ⟨G,0,none⟩) (iL (ah V))):=fun U hU=>Hg HIS.o (fun g o e hne e2=>by
  cases e;cases e2;omega) hU
 clear hB2 bU E8 Ui hR2 lH Uo jP jT hsz hb3 n0 n1 n2 iR fT VP HFI;clear h0 nG aM dh;go_wp2_with fail
 generalize (w3.alloc (.cells #[.slice (some ⟨G,0,none⟩) V.length V.length,.slice none 0 0,.slice none 0 0] 87))=W4 at *;have hb5:w3.heap.size<W4.heap.size:=by omega
 go_loopw [32] (fun iv wr=>∃(i:Nat) (fv tv:Value) (Q:List (Value×Value)),i<=L.length/\iv=.int .i64 i/\Hid (lN W4 w3.heap.size (.slice (some ⟨G,0,none⟩) V.length V.length) fv tv fv tv (iL (FL i)) Q (TL i) wr)) (fun iv _=>L.length - (intOf iv).toNat)
 case atStart=>exact⟨0,_,_,_,aU _,rfl,by rw[Mq.o.1,Mq.o.2];exact vS⟩
 case round=>
  obtain⟨i,fv,tv,Q,hi,rfl,HM⟩:=hrel;have Hq:=HM.o.fr.size;have HB:Hid (Below w.heap.size w wr):=H4 fV.o HM.o.fr (by omega) (by omega);have BS:Hid (Below w3.heap.size w3 wr):=H4 mI.o HM.o.fr (by omega) (by omega);have IE:Hid (gX wr w.heap.size (.slice a V.length ca) (.slice b L.length cb) (.slice c R.length cc)):=(HM.o.fr.block _ uA.o.lt (fun e=>by have:=lV e;omega)).trans uA.o;have lQ:Hid (bj wr (w.heap.size+1) (.slice none 0 0) (.slice none 0 0) (.slice none 0 0)):=(HM.o.fr.block _ js.o.lt (fun e=>by have:=lV e;omega)).trans js.o;by_cases hlt2:i<L.length
  ·obtain⟨v,hv,hcl,hS1,Ue⟩:=uw.o i hlt2;obtain⟨g,o,rfl,hg,hc⟩:=hcl d1 wr (Wo.o wr HM.o.fr);have HX:=hid (jt.o (v:Int) wr HB.o);have WE:=hid (Wx.o v hv);have j5:=hid (fun h=>sU.o i v (hS1 h));have qZ:=hid Ue;clear hcl hS1 Ue js uA lQ;generalize vars.contains (v:Int)=bv at *;go_wp2_with fail
   refine HX.o.ae ?_;rintro e w5 ⟨rfl,KE⟩;have xV:=hid (HM.o.under KE);have BC:=hid (IE.o.aa KE IE.o.lt);have eD:=hid (HB.o.trans (KE.ae HB.o.size));have hs5:=KE.size;have Dx:Hid (∀Z,fv.ownBlock=some Z ->Z<wr.heap.size):=fun Z hZ=>(acH HM.o.fo Z hZ).2;have Dw:Hid (∀Z,tv.ownBlock=some Z ->Z<wr.heap.size):=fun Z hZ=>(HM.o.own.lt Z hZ).2;clear hc HX HM IE HB KE BS;cases bv with
   |false=>
    replace qZ:=hid (qZ.o rfl);replace LJ:=hid (LJ.o i qZ.o);go_wp2;go_roundw
    case rel=>exact⟨i+1,fv,tv,Q,by omega,by go_num,by rw[qZ.o,LJ.o];exact xV⟩
    case measure=>simp[intOf];omega
   |true=>
    obtain⟨n0,n1,n2⟩:=BC.o.cells;have x4:=hid (WE.o w5 eD.o);replace j5:=hid (j5.o rfl);clear WE qZ eD Wx jt LJ sU;go_wp2_with fail
    refine x4.o.ae ?_;rintro e w6 ⟨⟨u1,u2,rfl,yM,jV⟩,bD⟩;have rM:=hid yM.slices;have hs6:=bD.size;have pI:Hid (∀Z,Z<wr.heap.size ->fE Z (gU L v,gL V L R v) (u1,u2)):=fun Z hZ=>jV Z (by omega);have Wl:=hid (xV.o.under bD);have Uf:=hid yM;obtain⟨x1,kf,kh,rfl⟩:=yM.slices.1;obtain⟨x2,ke,kg,rfl⟩:=yM.slices.2;clear yM jV x4 n0 n1 n2 BC xV;go_upto_region 9 with (fail)
    have sL:=(au w6.heap.size w6).alloc (ar _) (TC (.slice x1 kf kh) (.slice x2 ke kg));have HO:=hid (nQ.new Wl.o (.slice x1 kf kh) (.slice x2 ke kg));have HM:=hid (Wl.o.under sL);have HV:=hid (Uf.o.aa sL);(have hne:w6.heap.size≠w3.heap.size:=by omega);clear sL Wl Uf bD;generalize aj0:w6.heap.size=Gh at *;obtain⟨W8,T8⟩:∃W8,w6.alloc (TC (.slice x1 kf kh) (.slice x2 ke kg))=W8:=⟨_,rfl⟩;have abH:w6.alloc (.cells #[.slice x1 kf kh,.slice x2 ke kg] 39)=W8:=T8;rw[T8] at HO HM HV;simp only[abH];clear T8 abH aj0;have iN:Below W8.heap.size W8 W8.drew:=(au W8.heap.size W8).drew;replace HO:=hid (HO.o.under iN);replace HM:=hid (HM.o.under iN);replace HV:=hid (HV.o.aa iN);clear iN;obtain⟨D5,iM⟩:∃D5,W8.drew=D5:=⟨_,rfl⟩;rw[iM] at HO HM HV;refine QT 11 (kQ w3.heap.size Gh fv tv (.slice x1 kf kh) (.slice x2 ke kg)) (by kernel_rfl) (by rw[iM];exact kQ.of HM.o HO.o false) (fun aq=>?_);rw[iM] at aq⊢;clear iM;(try simp only[gE,aP]);refine l6 (i:=0) (oi:=_) (v:=.pointer (some ⟨w3.heap.size,1,none⟩)) (b:=false) rfl (by kernel_rfl) (by kernel_rfl) (by kernel_rfl) (by decide) (fun _ _ _ h=>h) (Or.inl ⟨by rfl,?_⟩) (by kernel_rfl) (by assumption) ?_
    ·intro u' aL;go_simp
    (try simp only[gE,aP]);refine GD (i:=1) (oi:=_) (v:=fv) rfl (by kernel_rfl) (by kernel_rfl) (by kernel_rfl) (by decide) rfl (by kernel_rfl) (fun _ _ _ h=>h) (Or.inl ⟨by rfl,?_⟩) (by kernel_rfl) (by assumption) ?_
    ·intro u' aL;(try simp only[gE]);obtain⟨⟨_,_⟩,Ud⟩:=aL;obtain⟨Di,Dh⟩:=Ud rfl;go_simp
    (try simp only[gE,aP]);refine l6 (i:=2) (oi:=_) (v:=.int .i64 (v:Nat)) (b:=false) rfl (by kernel_rfl) (by kernel_rfl) (by kernel_rfl) (by decide) (fun _ _ _ h=>h) (Or.inl ⟨by rfl,?_⟩) (by kernel_rfl) (by assumption) ?_
    ·intro u' aL;go_simp
    (try simp only[gE,aP]);refine l6 (i:=5) (oi:=_) (v:=.pointer (some ⟨w3.heap.size,2,none⟩)) (b:=false) rfl (by kernel_rfl) (by kernel_rfl) (by kernel_rfl) (by decide) (fun _ _ _ h=>h) (Or.inl ⟨by rfl,?_⟩) (by kernel_rfl) (by assumption) ?_
    ·intro u' aL;go_simp
    (try simp only[gE,aP]);refine GD (i:=6) (oi:=_) (v:=tv) rfl (by kernel_rfl) (by kernel_rfl) (by kernel_rfl) (by decide) rfl (by kernel_rfl) (fun _ _ _ h=>h) (Or.inl ⟨by rfl,?_⟩) (by kernel_rfl) (by assumption) ?_
    ·intro u' aL;(try simp only[gE]);obtain⟨⟨_,_⟩,Ud⟩:=aL;obtain⟨Di,Dh⟩:=Ud rfl;go_simp
    (try simp only[gE,aP]);refine l6 (i:=7) (oi:=_) (v:=.agg #[.slice x1 kf kh,.slice x2 ke kg]) (b:=false) rfl (by kernel_rfl) (by kernel_rfl) (by kernel_rfl) (by decide) (fun _ _ _ h=>h) (Or.inl ⟨by rfl,?_⟩) (by kernel_rfl) (by assumption) ?_
    ·intro u' aL;(try simp only[gE]);obtain⟨_,⟨Ue,hS1⟩,_⟩:=aL;go_simp
    (try simp only[gE,aP]);refine om (rs:=[3,8]) (by kernel_rfl) (by simp) (dS.cons (b:=false) rfl (by kernel_rfl) ?_ (dS.cons (b:=false) rfl (by kernel_rfl) ?_ (dS.nil)))
    ·intro K' hK';go_simp;have aN:=(au D5.heap.size D5).alloc (ar _) (.cells #[.int .i64 (v:Nat)] 3);have pM:=hid (a7 D5 3 (.int .i64 (v:Nat))).cell;replace HM:=hid (HM.o.under aN);replace HO:=hid (HO.o.under aN);replace HV:=hid (HV.o.aa aN);refine hK'.o _ _ (kQ.of HM.o HO.o false) (fun ak=>?_);clear aN;clear hK' K' aq;have aq:=ak;clear ak;obtain⟨ga,wU⟩:∃ga,D5.heap.size=ga:=⟨_,rfl⟩;obtain⟨ua,mj⟩:∃ua,D5.alloc (.cells #[.int .i64 (v:Nat)] 3)=ua:=⟨_,rfl⟩;rw[wU,mj] at pM;rw[mj] at HM HO HV;simp only[mj] at aq⊢;simp only[wU];clear mj wU;(try simp only[gE,aP]);refine om (rs:=[4,8]) (by kernel_rfl) (by simp) (dS.cons (b:=false) rfl (by kernel_rfl) ?_ (dS.cons (b:=false) rfl (by kernel_rfl) ?_ (dS.nil)))
     ·intro K' hK';rw[aaf (by rfl)];refine QV _ _ rfl W4.heap.size fv (iL (FL i)) (v:Int) rfl HM.o.fo ga rfl pM.o (by rw[ba];have:=kz.o i;omega) HM.o.fr.size ?_;intro Df w9 rH jo nC
      have DF:Hid (∀Z,Df.ownBlock=some Z ->fE Z (gU L v,gL V L R v) (.slice x1 kf kh,.slice x2 ke kg)):=fun Z hR=>by
       rcases nC with hn |hn
       ·exact pI.o Z (Dx.o Z (by rw[<- hn];exact hR))
       ·exact HV.o.lt (hn Z hR)
      replace HV:=hid (HV.o.keepR (fun r hr=>pI.o r (Dx.o r hr)) jo);replace HO:=hid (HO.o.pushF jo nC);replace HM:=hid (HM.o.pushF hb5 rH jo nC)
      obtain⟨nf,fa,fc,rfl⟩:∃nf fa fc,Df=Value.slice fa nf fc:=by
       obtain⟨fa,fc,e⟩:=uO rH;exact⟨_,fa,fc,e⟩
      refine hK'.o _ _ (kQ.of HM.o HO.o false) (fun ak=>?_);clear rH jo nC pM;clear hK' K' aq;have aq:=ak;clear ak;(try simp only[gE,aP]);refine l6 (i:=10) (oi:=_) (v:=.pointer (some ⟨w3.heap.size,1,none⟩)) (b:=false) rfl (by kernel_rfl) (by kernel_rfl) (by kernel_rfl) (by decide) (fun _ _ _ h=>h) (Or.inl ⟨by rfl,?_⟩) (by kernel_rfl) (by assumption) ?_
      ·intro u' aL;go_simp
      (try simp only[gE,aP]);refine om (rs:=[8]) (by kernel_rfl) (by simp) (dS.cons (b:=false) rfl (by kernel_rfl) ?_ (dS.nil))
      ·intro K' hK';go_simp;have aN:=(au w9.heap.size w9).alloc (ar _) (TC (.slice x1 kf kh) (.slice x2 ke kg));have mD:=hid (nQ.new HM.o (.slice x1 kf kh) (.slice x2 ke kg));replace HM:=hid (HM.o.under aN);replace HO:=hid (HO.o.under aN);replace HV:=hid (HV.o.aa aN);refine hK'.o _ _ (kQ.of HM.o HO.o false) (fun ak=>?_);clear aN;clear hK' K' aq;have aq:=ak;clear ak;obtain⟨gt,oI⟩:∃gt,w9.heap.size=gt:=⟨_,rfl⟩;obtain⟨ut,oB⟩:∃ut,w9.alloc (TC (.slice x1 kf kh) (.slice x2 ke kg))=ut:=⟨_,rfl⟩;have Cz:w9.alloc (.cells #[.slice x1 kf kh,.slice x2 ke kg] 39)=ut:=oB;rw[oI,oB] at mD;rw[oB] at HM HO HV;simp only[Cz] at aq⊢;simp only[oI];clear oB Cz oI;(try simp only[gE,aP]);refine om (rs:=[9]) (by kernel_rfl) (by simp) (dS.cons (b:=false) rfl (by kernel_rfl) ?_ (dS.nil))
       ·intro K' hK';rw[aaf (by rfl)];refine QU _ _ rfl W4.heap.size tv (TL i).length (fK Q) (.slice x1 kf kh) (.slice x2 ke kg) rfl HM.o.own.own gt rfl mD.o.tb.c0 mD.o.tb.c1 rM.o.1 rM.o.2 (by have:=VS.o i;omega) HM.o.fr.size ?_;intro cP bI dw dO fS;replace HO:=hid (HO.o.pushT dO fS);replace HM:=hid (HM.o.pushT hb5 HV.o (fun Z hZ=>pI.o Z (Dw.o Z hZ)) DF.o (fun Z hZ=>pI.o Z (by omega)) dw dO fS);obtain⟨ta,tc,rfl⟩:=uO dw;refine hK'.o _ _ (kQ.of HM.o HO.o false) (fun ak=>?_);clear dw dO fS mD HV DF;clear hK' K' aq;have aq:=ak;clear ak;have c1:=HM.o.box.cells.2.1;have f1:=HM.o.box.fz 1;refine om (rs:=[11]) (by kernel_rfl) (by simp) (dS.cons (b:=true) rfl (by kernel_rfl) ?_ (dS.nil))
        ·intro K' hK';go_simp;replace HM:=hid (HM.o.set1 hb5 (.slice fa nf fc));replace HO:=hid (HO.o.off w3.heap.size 1 (.slice fa nf fc) hne);refine hK'.o _ _ (kQ.late HO.o) (fun ak=>?_);clear c1 f1;clear hK' K' aq;have aq:=ak;clear ak;(try simp only[gE,aP]);refine l6 (i:=12) (oi:=_) (v:=.pointer (some ⟨w3.heap.size,2,none⟩)) (b:=true) rfl (by kernel_rfl) (by kernel_rfl) (by kernel_rfl) (by decide) (fun _ _ _ h=>h) (Or.inl ⟨by rfl,?_⟩) (by kernel_rfl) (by assumption) ?_
         ·intro u' aL;go_simp
         have c2:=HM.o.box.cells.2.2;have f2:=HM.o.box.fz 2;refine om (rs:=[13]) (by kernel_rfl) (by simp) (dS.cons (b:=true) rfl (by kernel_rfl) ?_ (dS.nil))
         ·intro K' hK';go_simp;replace HM:=hid (HM.o.set2 hb5 (.slice ta ((TL i).length+1) tc));replace HO:=hid (HO.o.off w3.heap.size 2 (.slice ta ((TL i).length+1) tc) hne);refine hK'.o _ _ (kQ.late HO.o) (fun ak=>?_);clear c2 f2;clear hK' K' aq;have aq:=ak;clear ak;(try simp only[gE,aP]);refine Jk (by kernel_rfl) ?_ _;clear aq HO;generalize (((bI.setCell ⟨w3.heap.size,1,none⟩ (.slice fa nf fc))).setCell ⟨w3.heap.size,2,none⟩ (.slice ta ((TL i).length+1) tc))=tE at *;go_wp2;go_roundw
          case rel=>exact⟨i+1,_,_,_,by omega,by go_num,by rw[j5.o.1,j5.o.2];exact HM⟩
          case measure=>simp[intOf];omega
     ·intro K' hK';go_simp;have aN:=(au ua.heap.size ua).alloc (ar _) (TC (.slice x1 kf kh) (.slice x2 ke kg));have mD:=hid (nQ.new HM.o (.slice x1 kf kh) (.slice x2 ke kg));replace HM:=hid (HM.o.under aN);replace HO:=hid (HO.o.under aN);replace HV:=hid (HV.o.aa aN);replace pM:=hid (((aN.cell (p:=⟨ga,0,none⟩) (World.block_lt_of_cell? _ _ pM.o))).trans pM.o);refine hK'.o _ _ (kQ.of HM.o HO.o false) (fun ak=>?_);clear aN;clear hK' K' aq;have aq:=ak;clear ak;obtain⟨gt,oI⟩:∃gt,ua.heap.size=gt:=⟨_,rfl⟩;obtain⟨ut,oB⟩:∃ut,ua.alloc (TC (.slice x1 kf kh) (.slice x2 ke kg))=ut:=⟨_,rfl⟩;have Cz:ua.alloc (.cells #[.slice x1 kf kh,.slice x2 ke kg] 39)=ut:=oB;rw[oI,oB] at mD;rw[oB] at HM HO HV pM;simp only[Cz] at aq⊢;simp only[oI];clear oB Cz oI;(try simp only[gE,aP]);refine om (rs:=[4]) (by kernel_rfl) (by simp) (dS.cons (b:=false) rfl (by kernel_rfl) ?_ (dS.nil))
      ·intro K' hK';rw[aaf (by rfl)];refine QV _ _ rfl W4.heap.size fv (iL (FL i)) (v:Int) rfl HM.o.fo ga rfl pM.o (by rw[ba];have:=kz.o i;omega) HM.o.fr.size ?_;intro Df w9 rH jo nC
       have DF:Hid (∀Z,Df.ownBlock=some Z ->fE Z (gU L v,gL V L R v) (.slice x1 kf kh,.slice x2 ke kg)):=fun Z hR=>by
        rcases nC with hn |hn
        ·exact pI.o Z (Dx.o Z (by rw[<- hn];exact hR))
        ·exact HV.o.lt (hn Z hR)
       replace HV:=hid (HV.o.keepR (fun r hr=>pI.o r (Dx.o r hr)) jo);replace mD:=hid (mD.o.pushF jo nC);replace HO:=hid (HO.o.pushF jo nC);replace HM:=hid (HM.o.pushF hb5 rH jo nC)
       obtain⟨nf,fa,fc,rfl⟩:∃nf fa fc,Df=Value.slice fa nf fc:=by
        obtain⟨fa,fc,e⟩:=uO rH;exact⟨_,fa,fc,e⟩
       refine hK'.o _ _ (kQ.of HM.o HO.o false) (fun ak=>?_);clear rH jo nC pM;clear hK' K' aq;have aq:=ak;clear ak;(try simp only[gE,aP]);refine l6 (i:=10) (oi:=_) (v:=.pointer (some ⟨w3.heap.size,1,none⟩)) (b:=false) rfl (by kernel_rfl) (by kernel_rfl) (by kernel_rfl) (by decide) (fun _ _ _ h=>h) (Or.inl ⟨by rfl,?_⟩) (by kernel_rfl) (by assumption) ?_
       ·intro u' aL;go_simp
       (try simp only[gE,aP]);refine om (rs:=[9]) (by kernel_rfl) (by simp) (dS.cons (b:=false) rfl (by kernel_rfl) ?_ (dS.nil))
       ·intro K' hK';rw[aaf (by rfl)];refine QU _ _ rfl W4.heap.size tv (TL i).length (fK Q) (.slice x1 kf kh) (.slice x2 ke kg) rfl HM.o.own.own gt rfl mD.o.tb.c0 mD.o.tb.c1 rM.o.1 rM.o.2 (by have:=VS.o i;omega) HM.o.fr.size ?_;intro cP bI dw dO fS;replace HO:=hid (HO.o.pushT dO fS);replace HM:=hid (HM.o.pushT hb5 HV.o (fun Z hZ=>pI.o Z (Dw.o Z hZ)) DF.o (fun Z hZ=>pI.o Z (by omega)) dw dO fS);obtain⟨ta,tc,rfl⟩:=uO dw;refine hK'.o _ _ (kQ.of HM.o HO.o false) (fun ak=>?_);clear dw dO fS mD HV DF;clear hK' K' aq;have aq:=ak;clear ak;have c1:=HM.o.box.cells.2.1;have f1:=HM.o.box.fz 1;refine om (rs:=[11]) (by kernel_rfl) (by simp) (dS.cons (b:=true) rfl (by kernel_rfl) ?_ (dS.nil))
        ·intro K' hK';go_simp;replace HM:=hid (HM.o.set1 hb5 (.slice fa nf fc));replace HO:=hid (HO.o.off w3.heap.size 1 (.slice fa nf fc) hne);refine hK'.o _ _ (kQ.late HO.o) (fun ak=>?_);clear c1 f1;clear hK' K' aq;have aq:=ak;clear ak;(try simp only[gE,aP]);refine l6 (i:=12) (oi:=_) (v:=.pointer (some ⟨w3.heap.size,2,none⟩)) (b:=true) rfl (by kernel_rfl) (by kernel_rfl) (by kernel_rfl) (by decide) (fun _ _ _ h=>h) (Or.inl ⟨by rfl,?_⟩) (by kernel_rfl) (by assumption) ?_
         ·intro u' aL;go_simp
         have c2:=HM.o.box.cells.2.2;have f2:=HM.o.box.fz 2;refine om (rs:=[13]) (by kernel_rfl) (by simp) (dS.cons (b:=true) rfl (by kernel_rfl) ?_ (dS.nil))
         ·intro K' hK';go_simp;replace HM:=hid (HM.o.set2 hb5 (.slice ta ((TL i).length+1) tc));replace HO:=hid (HO.o.off w3.heap.size 2 (.slice ta ((TL i).length+1) tc) hne);refine hK'.o _ _ (kQ.late HO.o) (fun ak=>?_);clear c2 f2;clear hK' K' aq;have aq:=ak;clear ak;(try simp only[gE,aP]);refine Jk (by kernel_rfl) ?_ _;clear aq HO;generalize (((bI.setCell ⟨w3.heap.size,1,none⟩ (.slice fa nf fc))).setCell ⟨w3.heap.size,2,none⟩ (.slice ta ((TL i).length+1) tc))=tE at *;go_wp2;go_roundw
          case rel=>exact⟨i+1,_,_,_,by omega,by go_num,by rw[j5.o.1,j5.o.2];exact HM⟩
          case measure=>simp[intOf];omega
    ·intro K' hK';go_simp;have aN:=(au D5.heap.size D5).alloc (ar _) (TC (.slice x1 kf kh) (.slice x2 ke kg));have mD:=hid (nQ.new HM.o (.slice x1 kf kh) (.slice x2 ke kg));replace HM:=hid (HM.o.under aN);replace HO:=hid (HO.o.under aN);replace HV:=hid (HV.o.aa aN);refine hK'.o _ _ (kQ.of HM.o HO.o false) (fun ak=>?_);clear aN;clear hK' K' aq;have aq:=ak;clear ak;obtain⟨gt,oI⟩:∃gt,D5.heap.size=gt:=⟨_,rfl⟩;obtain⟨ut,oB⟩:∃ut,D5.alloc (TC (.slice x1 kf kh) (.slice x2 ke kg))=ut:=⟨_,rfl⟩;have Cz:D5.alloc (.cells #[.slice x1 kf kh,.slice x2 ke kg] 39)=ut:=oB;rw[oI,oB] at mD;rw[oB] at HM HO HV;simp only[Cz] at aq⊢;simp only[oI];clear oB Cz oI;(try simp only[gE,aP]);refine om (rs:=[3]) (by kernel_rfl) (by simp) (dS.cons (b:=false) rfl (by kernel_rfl) ?_ (dS.nil))
     ·intro K' hK';go_simp;have aN:=(au ut.heap.size ut).alloc (ar _) (.cells #[.int .i64 (v:Nat)] 3);have pM:=hid (a7 ut 3 (.int .i64 (v:Nat))).cell;replace HM:=hid (HM.o.under aN);replace HO:=hid (HO.o.under aN);replace mD:=hid (mD.o.under aN);replace HV:=hid (HV.o.aa aN);refine hK'.o _ _ (kQ.of HM.o HO.o false) (fun ak=>?_);clear aN;clear hK' K' aq;have aq:=ak;clear ak;obtain⟨ga,wU⟩:∃ga,ut.heap.size=ga:=⟨_,rfl⟩;obtain⟨ua,mj⟩:∃ua,ut.alloc (.cells #[.int .i64 (v:Nat)] 3)=ua:=⟨_,rfl⟩;rw[wU,mj] at pM;rw[mj] at HM HO HV mD;simp only[mj] at aq⊢;simp only[wU];clear mj wU;(try simp only[gE,aP]);refine om (rs:=[4]) (by kernel_rfl) (by simp) (dS.cons (b:=false) rfl (by kernel_rfl) ?_ (dS.nil))
      ·intro K' hK';rw[aaf (by rfl)];refine QV _ _ rfl W4.heap.size fv (iL (FL i)) (v:Int) rfl HM.o.fo ga rfl pM.o (by rw[ba];have:=kz.o i;omega) HM.o.fr.size ?_;intro Df w9 rH jo nC
       have DF:Hid (∀Z,Df.ownBlock=some Z ->fE Z (gU L v,gL V L R v) (.slice x1 kf kh,.slice x2 ke kg)):=fun Z hR=>by
        rcases nC with hn |hn
        ·exact pI.o Z (Dx.o Z (by rw[<- hn];exact hR))
        ·exact HV.o.lt (hn Z hR)
       replace HV:=hid (HV.o.keepR (fun r hr=>pI.o r (Dx.o r hr)) jo);replace mD:=hid (mD.o.pushF jo nC);replace HO:=hid (HO.o.pushF jo nC);replace HM:=hid (HM.o.pushF hb5 rH jo nC)
       obtain⟨nf,fa,fc,rfl⟩:∃nf fa fc,Df=Value.slice fa nf fc:=by
        obtain⟨fa,fc,e⟩:=uO rH;exact⟨_,fa,fc,e⟩
       refine hK'.o _ _ (kQ.of HM.o HO.o false) (fun ak=>?_);clear rH jo nC pM;clear hK' K' aq;have aq:=ak;clear ak;(try simp only[gE,aP]);refine l6 (i:=10) (oi:=_) (v:=.pointer (some ⟨w3.heap.size,1,none⟩)) (b:=false) rfl (by kernel_rfl) (by kernel_rfl) (by kernel_rfl) (by decide) (fun _ _ _ h=>h) (Or.inl ⟨by rfl,?_⟩) (by kernel_rfl) (by assumption) ?_
       ·intro u' aL;go_simp
       (try simp only[gE,aP]);refine om (rs:=[9]) (by kernel_rfl) (by simp) (dS.cons (b:=false) rfl (by kernel_rfl) ?_ (dS.nil))
       ·intro K' hK';rw[aaf (by rfl)];refine QU _ _ rfl W4.heap.size tv (TL i).length (fK Q) (.slice x1 kf kh) (.slice x2 ke kg) rfl HM.o.own.own gt rfl mD.o.tb.c0 mD.o.tb.c1 rM.o.1 rM.o.2 (by have:=VS.o i;omega) HM.o.fr.size ?_;intro cP bI dw dO fS;replace HO:=hid (HO.o.pushT dO fS);replace HM:=hid (HM.o.pushT hb5 HV.o (fun Z hZ=>pI.o Z (Dw.o Z hZ)) DF.o (fun Z hZ=>pI.o Z (by omega)) dw dO fS);obtain⟨ta,tc,rfl⟩:=uO dw;refine hK'.o _ _ (kQ.of HM.o HO.o false) (fun ak=>?_);clear dw dO fS mD HV DF;clear hK' K' aq;have aq:=ak;clear ak;have c1:=HM.o.box.cells.2.1;have f1:=HM.o.box.fz 1;refine om (rs:=[11]) (by kernel_rfl) (by simp) (dS.cons (b:=true) rfl (by kernel_rfl) ?_ (dS.nil))
        ·intro K' hK';go_simp;replace HM:=hid (HM.o.set1 hb5 (.slice fa nf fc));replace HO:=hid (HO.o.off w3.heap.size 1 (.slice fa nf fc) hne);refine hK'.o _ _ (kQ.late HO.o) (fun ak=>?_);clear c1 f1;clear hK' K' aq;have aq:=ak;clear ak;(try simp only[gE,aP]);refine l6 (i:=12) (oi:=_) (v:=.pointer (some ⟨w3.heap.size,2,none⟩)) (b:=true) rfl (by kernel_rfl) (by kernel_rfl) (by kernel_rfl) (by decide) (fun _ _ _ h=>h) (Or.inl ⟨by rfl,?_⟩) (by kernel_rfl) (by assumption) ?_
         ·intro u' aL;go_simp
         have c2:=HM.o.box.cells.2.2;have f2:=HM.o.box.fz 2;refine om (rs:=[13]) (by kernel_rfl) (by simp) (dS.cons (b:=true) rfl (by kernel_rfl) ?_ (dS.nil))
         ·intro K' hK';go_simp;replace HM:=hid (HM.o.set2 hb5 (.slice ta ((TL i).length+1) tc));replace HO:=hid (HO.o.off w3.heap.size 2 (.slice ta ((TL i).length+1) tc) hne);refine hK'.o _ _ (kQ.late HO.o) (fun ak=>?_);clear c2 f2;clear hK' K' aq;have aq:=ak;clear ak;(try simp only[gE,aP]);refine Jk (by kernel_rfl) ?_ _;clear aq HO;generalize (((bI.setCell ⟨w3.heap.size,1,none⟩ (.slice fa nf fc))).setCell ⟨w3.heap.size,2,none⟩ (.slice ta ((TL i).length+1) tc))=tE at *;go_wp2;go_roundw
          case rel=>exact⟨i+1,_,_,_,by omega,by go_num,by rw[j5.o.1,j5.o.2];exact HM⟩
          case measure=>simp[intOf];omega
  ·obtain rfl:i=L.length:=by omega
   obtain⟨d,cd,rfl,abm⟩:=HM.o.fo.ints;obtain⟨ta,tc,rfl,yO⟩:=HM.o.own.row;obtain⟨x0,x1,x2⟩:=HM.o.box.cells;obtain⟨r0,r1,r2⟩:=lQ.o.cells;have Am:=lQ.o.fz 0;have JE:=lQ.o.fz 1;have JD:=lQ.o.fz 2;have e1:(iL (FL L.length)).length=(FL L.length).length:=ba _;rw[e1] at HM x1;rw[abI] at HM x2;have xR:=hid (lQ.o.put (.slice (some ⟨G,0,none⟩) V.length V.length) (.slice d (FL L.length).length cd) (.slice ta (FL L.length).length tc));have uF:=hid (bF HB.o (show w.heap.size<=w.heap.size+1 by omega) (.slice (some ⟨G,0,none⟩) V.length V.length) (.slice d (FL L.length).length cd) (.slice ta (FL L.length).length tc))
   have eQ:Value.ownBlock (.slice ta (FL L.length).length tc)≠some (w.heap.size+1):=fun e=>by
    have:=(HM.o.own.lt _ e).1;omega
   have hO3:=((HM.o.own.off (g:=w.heap.size+1) (j:=0) (.slice (some ⟨G,0,none⟩) V.length V.length) (HM.o.far _ (by omega)) eQ).off (g:=w.heap.size+1) (j:=1) (.slice d (FL L.length).length cd) (HM.o.far _ (by omega)) eQ).off (g:=w.heap.size+1) (j:=2) (.slice ta (FL L.length).length tc) (HM.o.far _ (by omega)) eQ;obtain⟨Ri,Re,e2,wI⟩:=hO3.row;rw[abI] at e2;injection e2 with e3 e4 e5;subst e3 e5;clear e4;have FB:=hid wI
   have mF:∀g o,d=some ⟨g,o,none⟩ ->iL (FL L.length)≠[] ->g≠w.heap.size+1:=fun g o e _ e2=>by
    subst e;have:=(acH HM.o.fo g rfl).1;omega
   have vV:=hid (((abm.off (g:=w.heap.size+1) (j:=0) (y:=.slice (some ⟨G,0,none⟩) V.length V.length) mF).off (g:=w.heap.size+1) (j:=1) (y:=.slice d (FL L.length).length cd) mF).off (g:=w.heap.size+1) (j:=2) (y:=.slice ta (FL L.length).length tc) mF)
   have uz:∀g o,(some ⟨G,0,none⟩:Option Addr)=some ⟨g,o,none⟩ ->iL (ah V)≠[] ->g≠w.heap.size+1:=fun g o e _ e2=>by
    cases e;omega
   have Ml:=hid ((((HIG.o wr HM.o.fr).off (g:=w.heap.size+1) (j:=0) (y:=.slice (some ⟨G,0,none⟩) V.length V.length) uz).off (g:=w.heap.size+1) (j:=1) (y:=.slice d (FL L.length).length cd) uz).off (g:=w.heap.size+1) (j:=2) (y:=.slice ta (FL L.length).length tc) uz);have FU:=hid ((ND HM.o.own.own).up (show w.heap.size<=W4.heap.size by omega));clear hO3 wI yO abm uz mF eQ HM HB BS IE lQ Wo uw Wx jt sU LJ;go_wp2;refine bB (xR.o.result1 rfl _ rfl) rfl ?_;exact⟨G,d,cd,ta,tc,rfl,Ml.o,vV.o,FB.o,uF.o,FU.o⟩
theorem agy (a b c q:Option Addr) (ca cb cc cq:Nat) (V:List Vr) (L:List (List Int)) (R:List (List Fr)) (vars:List Int) (w:World) (h:gP w a b c V L R) (hN:vK w b L) (hs:sQ V L R) (hw:∀l∈R,fw l<=4200) (h0:aW V L R=0) (nG:bE L=0) (h1:1<=L.length) (dh:∀l∈L,l.length<=140737488355328) (hq:aaK w q vars) (dN:vars.length<=1000) (hCK:∀U:World,gP U a b c V L R ->Calls Tryz.prog 75 #[.agg #[.slice a V.length ca,.slice b L.length cb,.slice c R.length cc]] U fun e w'=>e=.returned (.int .i64 (aW V L R))/\Below U.heap.size U w'):
  Calls Tryz.prog 46 #[.agg #[.slice a V.length ca,.slice b L.length cb,.slice c R.length cc],.slice q vars.length cq] w fun e w'=>∃g d cd t' b9,e=.returned (.agg #[.slice (some ⟨g,0,none⟩) V.length V.length,.slice d ((ir L).filter fun v:Nat=>vars.contains (v:Int)).length cd,.slice t' ((ir L).filter fun v:Nat=>vars.contains (v:Int)).length b9])/\aaK w' (some ⟨g,0,none⟩) (iL (ah V))/\aaK w' d (iL ((ir L).filter fun v:Nat=>vars.contains (v:Int)))/\dQ w' t' (((ir L).filter fun v:Nat=>vars.contains (v:Int)).map fun v=>(gU L v,gL V L R v))/\Below w.heap.size w w':=
 (Zo a b c q ca cb cc cq V L R vars w h hN hs hw h0 nG h1 dh hq dN hCK).ae fun _ _ ⟨g,d,cd,t',b9,e,k1,k2,k3,k4,_⟩=>⟨g,d,cd,t',b9,e,k1,k2,k3,k4⟩
open Go.Sort
theorem ae0 {B:Nat} (d:Option Addr) (n cd:Nat) (l:List Int) (w:World) (h:cX w B (.slice d n cd) l) (hB:B<=w.heap.size) (hn:l.length<=100000):
  Calls Tryz.prog 77 #[.slice d n cd] w fun e w'=>e=.returned (.tuple #[])/\n=l.length/\aaK w' d (l.mergeSort fun x y=>decide (x<=y))/\Below B w w':=by
 rcases h.cases with ⟨e,rfl⟩ |⟨g,cap,e,hg0,hg,hc1,hc2,hh⟩
 ·cases e;refine(Tryz.slices_Sort_int_none none 0 w).ae ?_;rintro e w2 ⟨rfl,rfl⟩;exact⟨rfl,rfl,fun k hk=>absurd hk (by simp),au _ _⟩
 ·cases e;refine(Tryz.slices_Sort_int g 0 cd l w hh hg (by omega)).ae ?_;have hlen:(l.mergeSort fun x y=>decide (x<=y)).length=l.length:=MP _;generalize (l.mergeSort fun x y=>decide (x<=y))=zs at *;rintro e w2 ⟨rfl,q,os,rfl⟩;have hsz:zs.toArray.size=l.toArray.size:=by simp;exact hlen
  have C7:Holds (Value.int .i64) (grow (putRow (Value.int .i64) (Sort.ahead w q) g 0 zs.toArray) os) g 0 zs.toArray:=fun j hj=>by
   obtain⟨h1,h2⟩:=holds_putRow (Value.int .i64) (Sort.ahead w q) g 0 _ zs.toArray hh hsz j hj;(have gj:g<(putRow (Value.int .i64) (Sort.ahead w q) g 0 zs.toArray).heap.size:=by rw[size_putRow];exact hg);refine⟨(cell?_grow _ _ _ gj).trans h1,?_⟩;rw[frozen?_grow _ _ _ gj];exact h2
  have Kr:g<(grow (putRow (Value.int .i64) (Sort.ahead w q) g 0 zs.toArray) os).heap.size:=aR hg (MF (w:=w) (g:=g) (n:=q) (os:=os) zs.toArray).size;exact⟨rfl,rfl,EP C7 Kr (fun j hj=>⟨by simpa using hj,by simp⟩),Vi zs.toArray (au _ _) hB hg0⟩
theorem aeZ (hl:∀x∈l,0<=x/\x<n) (iZ:l.Nodup):Up (l.mergeSort fun x y=>decide (x<=y)) n:=by
 have hs:(l.mergeSort fun x y=>decide (x<=y)).Pairwise (fun x y=>decide (x<=y)=true):=List.pairwise_mergeSort (fun a b c=>by simp;omega) (fun a b=>by simp;omega) _;have hp:=QL l fun x y=>decide (x<=y);have hn:(l.mergeSort fun x y=>decide (x<=y)).Nodup:=hp.nodup_iff.2 iZ;refine pV.2 ⟨fun x hx=>hl x (hp.mem_iff.1 hx),(hs.and hn).imp fun {a b} h=>?_⟩;have h3:=rS h.1;have h4:=h.2;omega
variable {ws:List Nat}
def uf (q:List Int) (l:List (Nat×Nat)):List Int:=q++(zF l).map (·.1)
def xG (q:List Int) (l:List (Nat×Nat)):List Int:=(uf q l).mergeSort fun x y=>decide (x<=y)
theorem acU {q:List Int} {l:List (Nat×Nat)} (v:Nat):v∈ag (xG q l)↔v∈ag q∨v∈l.map (·.1):=by
 have hp:=QL (uf q l) fun x y=>decide (x<=y)
 have hm:v∈ag (xG q l)↔∃x∈uf q l,x.toNat=v:=by
  rw[xG,ag,aaQ];exact⟨fun ⟨x,h,e⟩=>⟨x,hp.mem_iff.1 h,e⟩,fun ⟨x,h,e⟩=>⟨x,hp.mem_iff.2 h,e⟩⟩
 rw[hm];constructor
 ·rintro⟨x,hx,rfl⟩;rcases aa5.1 hx with hx |hx
  ·exact .inl (aaQ.2 ⟨x,hx,rfl⟩)
  ·obtain⟨p,hp',rfl⟩:=aaQ.1 hx;obtain⟨r,hr,rfl⟩:=aaQ.1 hp';exact .inr (aaQ.2 ⟨r,hr,by simp⟩)
 ·rintro(h |h)
  ·obtain⟨x,hx,e⟩:=aaQ.1 h;exact⟨x,aa5.2 (.inl hx),e⟩
  ·obtain⟨r,hr,rfl⟩:=aaQ.1 h;exact⟨(r.1:Int),aa5.2 (.inr (aaQ.2 ⟨_,aaQ.2 ⟨r,hr,rfl⟩,rfl⟩)),by simp⟩
theorem amI {q:List Int} {l:List (Nat×Nat)} (hq:Up q n) (hl:kW S n l) (hd:∀v∈ag q,¬v∈l.map (·.1)):Up (xG q l) n:=by
 refine aeZ (fun x hx=>?_) ?_
 ·rcases aa5.1 hx with hx |hx
  ·exact Ej hq x hx
  ·obtain⟨p,hp',rfl⟩:=aaQ.1 hx;obtain⟨r,hr,rfl⟩:=aaQ.1 hp';have:=hl.lt r hr;show 0<=(r.1:Int)/\(r.1:Int)<n;omega
 ·refine Gq.2 ⟨?_,?_,fun x hx y hy e=>?_⟩
  ·exact(pV.1 hq).2.imp fun h=>by omega
  ·rw[zF,wj];refine(Gp.2 ?_);exact(Gp.1 hl.nd).imp fun {a b} h e=>h (by have e':(a.1:Int)=(b.1:Int):=e;omega)
  ·subst e;obtain⟨p,hp',rfl⟩:=aaQ.1 hy;obtain⟨r,hr,rfl⟩:=aaQ.1 hp';exact hd r.1 (aaQ.2 ⟨_,hx,by simp⟩) (aaQ.2 ⟨r,hr,rfl⟩)
theorem kW.len {l:List (Nat×Nat)} (h:kW S n l):l.length<=n:=by
 have h1:=(JW h.nd (n:=n) fun v hv=>by
  obtain⟨p,hp,rfl⟩:=aaQ.1 hv;exact h.lt p hp).length_eq
 have h2:((List.range n).filter fun v=>(l.map (·.1)).contains v).length<=n:=aS (pR ..) (by simp);rw[c5] at h1;omega
theorem amT (b d:Option Addr) (cb cd:Nat) (L:List (List Int)) (A:List Int) (w:World) (h:fh w b L) (hl:∀l∈L,l.length<=140737488355328) (hA:aaK w d A) (hg:bE L=0) (hu:Up A L.length) (y7:A.length<=1000):
  Calls Tryz.prog 78 #[.slice b L.length cb,.slice d A.length cd] w fun e w'=>∃d cd,e=.returned (.tuple #[.slice d (gN (gV (aI L) (ag A) L.length)).length cd,.int .i64 0])/\aaK w' d (gN (gV (aI L) (ag A) L.length))/\Below w.heap.size w w':=
 (akp b d cb cd L A w h hl hA (by omega)).ae fun e w' hh=>by
  rcases hh with ⟨⟨h1,_⟩ |⟨_,h2,_⟩ |⟨_,_,d,cd,h3,h4⟩,hb⟩
  ·exact absurd hg h1
  ·rw[ad2 hu] at h2;cases h2
  ·exact⟨d,cd,h3,h4,hb⟩
theorem UO (S:List Nat) (p:Nat×Nat):∀(l:List (Nat×Nat)) (P:List Tb),ko S (l++[p]) P=(ko S l P).map (gK S p.1 p.2)
 |[],_=>rfl
 |x::l,P=>by rw[fg,ko,ko,UO S p l]
theorem SV (p:Nat×Nat):∀(l:List (Nat×Nat)) (fr:List Nat),fC fr (l++[p])=(fC fr l).filter fun u=>!(u==p.1)
 |[],_=>rfl
 |x::l,fr=>by rw[fg,fC,fC,SV p l]
theorem aaH (fr:List Nat) (v:Nat):bw (iL fr) (v:Int)=iL (fr.filter fun u=>!(u==v)):=by
 rw[bw,iL,adi];congr 1
 refine List.filter_congr fun x _=>?_;show (!((x:Int)==(v:Int)))=!(x==v);congr 1
 rw[ac6,rp,rp];omega
def oN (ws:List Nat) (l:List (Nat×Nat)) (i:Nat):List Int:=iL (fC ws (l.take i))
def nJ (V:List Vr) (L:List (List Int)) (R:List (List Fr)) (ws:List Nat) (l:List (Nat×Nat)) (i:Nat):List Tb:=ko (ah V) (l.take i) (gT V L R ws)
theorem aks {l:List (Nat×Nat)} (h:i<l.length):oN ws l (i+1)=bw (oN ws l i) (l[i].1:Int):=by
 rw[oN,oN,fR h,SV,aaH]
theorem akq {V:List Vr} {l:List (Nat×Nat)} (h:i<l.length):nJ V L R ws l (i+1)=(nJ V L R ws l i).map (gK (ah V) l[i].1 l[i].2):=by
 rw[nJ,nJ,fR h,UO]
theorem abV {V:List Vr} (h0:aW V L R=0) (hlt:∀v∈ws,v<V.length) (hc:lT L (·∈ws)) {l:List (Nat×Nat)} (hl:kW (ah V) V.length l) (i:Nat):eX (ah V) V.length (nJ V L R ws l i) (eW R ws) 1:=
 eX.fixes (mi h0) (abT h0 hlt hc) fun p hp=>hl.val p (List.mem_of_mem_take hp)
theorem akr (V:List Vr) (L:List (List Int)) (R:List (List Fr)) (ws:List Nat) (l:List (Nat×Nat)) (i:Nat):(nJ V L R ws l i).length=ws.length:=by rw[nJ,K5,gT,c5]
theorem akt (ws:List Nat) (l:List (Nat×Nat)) (i:Nat):(oN ws l i).length<=ws.length:=by rw[oN,ba];exact(N8 _ _).length_le
theorem Et (hn:ws.Nodup) (hlt:∀v∈ws,v<n):ws.length<=n:=by
 have h1:=(JW hn hlt).length_eq;have h2:((List.range n).filter fun v=>ws.contains v).length<=n:=aS (pR ..) (by simp);omega
theorem akQ {V:List Vr} (h0:aW V L R=0) (hD:mJ V R) (hn:ws.Nodup) (hlt:∀v∈ws,v<V.length) (hc:lT L (·∈ws)) {l:List (Nat×Nat)} (hl:kW (ah V) V.length l) (hi:i<l.length) (s b t:Option Addr) (cs cb ct:Nat) (w:World) (hs:aaK w s (iL (ah V))) (hb:aaK w b (oN ws l i)) (hP:dQ w t (nJ V L R ws l i)):
  Calls Tryz.prog 48 #[.agg #[.slice s V.length cs,.slice b (oN ws l i).length cb,.slice t (nJ V L R ws l i).length ct],.agg #[.int .i64 (l[i].1:Nat),.int .i64 (l[i].2:Nat)]] w fun e w'=>∃d cd t' b9,e=.returned (.agg #[.slice s V.length cs,.slice d (oN ws l (i+1)).length cd,.slice t' (nJ V L R ws l (i+1)).length b9])/\aaK w' d (oN ws l (i+1))/\dQ w' t' (nJ V L R ws l (i+1))/\eC w.heap.size t' b9/\Below w.heap.size w w':=by
 have aM:=gD h0;have bJ:(ah V).length=V.length:=gR V;have hwl:=Et hn hlt;have h8:=aM.n8;have h1:=akt ws l i;have h2:=akr V L R ws l i;have qN:=abV h0 hlt hc hl i;have hm:=hD.pool h0 hn hlt (vs:=[]) List.nodup_nil (fun v hv=>by cases hv);have:=agM s b t cs cb ct (ah V) (oN ws l i) (nJ V L R ws l i) (eW R ws) 1 l[i].1 l[i].2 w aM.fine hs hb hP (by rw[bJ];exact qN) (by omega) (by omega) hm (by rw[bJ];exact hl.lt _ (bH hi)) (hl.val _ (bH hi));rw[bJ] at this;rw[aks hi,akq hi,c5];exact this
theorem ahr {V:List Vr} (h0:aW V L R=0) (hD:mJ V R) (hn:ws.Nodup) (hlt:∀v∈ws,v<V.length) (hc:lT L (·∈ws)) {l:List (Nat×Nat)} (hl:kW (ah V) V.length l) (Kj:∀p∈l,p.1∈ws) {Q:List Int} (hq:Up Q V.length) (AW:∀v∈ag Q,v∈ws/\¬v∈l.map (·.1)) (s b t q:Option Addr) (cs cb ct cq:Nat) (w:World) (hs:aaK w s (iL (ah V))) (hb:aaK w b (oN ws l l.length)) (hP:dQ w t (nJ V L R ws l l.length)) (hQ:aaK w q Q):
  Calls Tryz.prog 51 #[.agg #[.slice s V.length cs,.slice b (oN ws l l.length).length cb,.slice t (nJ V L R ws l l.length).length ct],.slice q Q.length cq,.bool false] w fun e w'=>∃x y,e=.returned (.agg #[x,y])/\cR w' x y (dr V L R Q l)/\Below w.heap.size w w':=by
 have aM:=gD h0;have hp:=mi h0;have bJ:(ah V).length=V.length:=gR V;have hwl:=Et hn hlt;have h8:=aM.n8;have wQ:=J4 (l:=l) hn;have tS:∀v∈fC ws l,v<V.length:=fun v hv=>hlt v (yK.1 hv).1;have fN:oN ws l l.length=iL (fC ws l):=by rw[oN,fJ]
 have zu:nJ V L R ws l l.length=ko (ah V) l (gT V L R ws):=by rw[nJ,fJ]
 have qN:=abV h0 hlt hc hl l.length;rw[zu] at qN hP⊢;rw[fN] at hb⊢;have dh:=Et wQ tS;have hpl:(ko (ah V) l (gT V L R ws)).length=ws.length:=by rw[K5,gT,c5]
 have:=Zt s b t q cs cb ct cq (ah V) (fC ws l) Q (ko (ah V) l (gT V L R ws)) _ (eW R ws) 1 false w aM.fine hs hb hP hQ (by have:=hq.length;omega) wQ (by rw[bJ];exact tS) (by rw[bJ];exact(PI.net h0 hlt hc).fixes hp hl.nd hl.val) (NN.fixes hp hl.val (PI.net h0 hlt hc).ok (NN.net h0 hlt)) (by rw[bJ];exact qN) (by omega) (hD.pool h0 hn hlt wQ tS);rw[bJ,ad8 h0 hp hn hlt hc hl Kj hq AW] at this;rw[ba];exact this
theorem aaR (a b c q f:Option Addr) (ca cb cc cq cf:Nat) (V:List Vr) (L:List (List Int)) (R:List (List Fr)) (Q:List Int) (l:List (Nat×Nat)) (w:World) (h:gP w a b c V L R) (hN:vK w b L) (hs:sQ V L R) (hw:∀l∈R,fw l<=4200) (h0:aW V L R=0) (hD:mJ V R) (hq:aaK w q Q) (wO:Up Q V.length) (hF:jI w f (zF l)) (hl:kW (ah V) V.length l) (hd:∀v∈ag Q,¬v∈l.map (·.1)) (hCK:∀U:World,gP U a b c V L R ->Calls Tryz.prog 75 #[.agg #[.slice a V.length ca,.slice b L.length cb,.slice c R.length cc]] U fun e w'=>e=.returned (.int .i64 (aW V L R))/\Below U.heap.size U w'):
  Calls Tryz.prog 33 #[.agg #[.slice a V.length ca,.slice b L.length cb,.slice c R.length cc],.slice q Q.length cq,.slice f l.length cf] w fun e w'=>∃x y,e=.returned (.agg #[x,y])/\cR w' x y (dr V L R Q l)/\Below w.heap.size w w':=by
 have aM:=gD h0;have h8:=aM.n8;have nG:=NU h0;have hgb:=ud nG
 have xo:1<=L.length:=by
  have:=aM.fine.one;rw[ba,gR] at this;rw[aM.len];exact this
 have sJ:L.length<=8:=by rw[aM.len];exact h8
 have dh:∀x∈L,x.length<=140737488355328:=fun x hx=>by
  obtain⟨i,hi,rfl⟩:=iE hx;have:=(aM.up i hi).length;omega
 have dN:=wO.length;have jR:=hl.len;have TX:=amI wO hl hd;have y7:(xG Q l).length=(uf Q l).length:=MP _;have hAn:(uf Q l).length=Q.length+l.length:=by rw[uf,dM,c5,wu]
 have hA:∀v∈ag (xG Q l),v<L.length:=fun v hv=>by rw[aM.len];exact TX.aa v hv
 obtain⟨ws,o8⟩:∃ws,yv L (ag (xG Q l))=ws:=⟨_,rfl⟩;have S7:ws.Nodup:=by rw[<- o8];exact adG hgb xo sJ _
 have hwt:∀v∈ws,v<V.length:=fun v hv=>by rw[<- aM.len];rw[<- o8] at hv;exact adH hgb xo sJ hv
 have hwc:lT L (·∈ws):=by rw[<- o8];exact adI nG xo sJ hA
 have hwl:∀p∈l,p.1∈ws:=fun p hp=>by
  rw[<- o8];exact Xo nG xo sJ hA ((acU _).2 (.inr (aaQ.2 ⟨p,hp,rfl⟩)))
 have S6:∀v∈ag Q,v∈ws/\¬v∈l.map (·.1):=fun v hv=>⟨by
  rw[<- o8];exact Xo nG xo sJ hA ((acU _).2 (.inl hv)),hd v hv⟩
 have F9:=hid (fun (U:World) (hU:Below w.heap.size w U)=>Nf q cq Q U (hq.aa hU) (by omega));have HST:Hid (∀(d:Option Addr) (n cd B:Nat) (U:World),cX U B (.slice d n cd) (uf Q l) ->B<=U.heap.size ->Calls Tryz.prog 77 #[.slice d n cd] U fun e w'=>e=.returned (.tuple #[])/\n=(uf Q l).length/\aaK w' d (xG Q l)/\Below B U w'):=fun d n cd B U h1 h2=>ae0 d n cd (uf Q l) U h1 h2 (by omega);obtain⟨vars,Ob⟩:∃vars,gN (gV (aI L) (ag (xG Q l)) L.length)=vars:=⟨_,rfl⟩;have hvl:vars.length<=8:=by rw[<- Ob,gN,ba,fM];exact aS (pR ..) (by simp)
 have BW:Hid (∀(d:Option Addr) (cd:Nat) (U:World),Below w.heap.size w U ->aaK U d (xG Q l) ->Calls Tryz.prog 78 #[.slice b L.length cb,.slice d (uf Q l).length cd] U fun e w'=>∃d cd,e=.returned (.tuple #[.slice d vars.length cd,.int .i64 0])/\aaK w' d vars/\Below U.heap.size U w'):=fun d cd U hU hi=>by
  have:=amT b d cb cd L (xG Q l) U (h.aa hU).pars dh hi nG (by rw[aM.len];exact TX) (by omega);rwa [Ob,y7] at this
 have q7:Hid (∀(d:Option Addr) (cd:Nat) (U:World),Below w.heap.size w U ->aaK U d vars ->Calls Tryz.prog 46 #[.agg #[.slice a V.length ca,.slice b L.length cb,.slice c R.length cc],.slice d vars.length cd] U fun e w'=>∃g d cd t' b9,e=.returned (.agg #[.slice (some ⟨g,0,none⟩) V.length V.length,.slice d (oN ws l 0).length cd,.slice t' (nJ V L R ws l 0).length b9])/\aaK w' (some ⟨g,0,none⟩) (iL (ah V))/\aaK w' d (oN ws l 0)/\dQ w' t' (nJ V L R ws l 0)/\Below U.heap.size U w'):=fun d cd U hU hi=>by
  have:=agy a b c d ca cb cc cd V L R vars U (h.aa hU) (hN.aa h.pars hU) hs hw h0 nG xo dh hi (by omega) hCK;have e:(ir L).filter (fun v:Nat=>vars.contains (v:Int))=ws:=by rw[<- o8,yv,Ob]
  rw[e] at this;have e1:oN ws l 0=iL ws:=rfl;have e2:nJ V L R ws l 0=ws.map fun v=>(gU L v,gL V L R v):=rfl;rw[e1,e2,ba,c5];exact this
 have qA:=hid (fun (i:Nat) (hi:i<l.length) (s b t:Option Addr) (cs cb ct:Nat) (U:World)=>akQ (L:=L) h0 hD S7 hwt hwc hl hi s b t cs cb ct U);have ID:=hid (fun (s b t:Option Addr) (cs cb ct:Nat) (U:World) (hU:Below w.heap.size w U) h1 h2 h3=>ahr h0 hD S7 hwt hwc hl hwl wO S6 s b t q cs cb ct cq U h1 h2 h3 (hq.aa hU))
 have HF:Hid (∀i (hi:i<l.length) (U:World),Below w.heap.size w U ->∃g o,f=some ⟨g,o,none⟩/\g<U.heap.size/\U.cell? ⟨g,o+i*2,none⟩=some (.int .i64 (l[i].1:Nat))/\U.cell? ⟨g,o+i*2+1,none⟩=some (.int .i64 (l[i].2:Nat))):=fun i hi U hU=>by
  have hz:i<(zF l).length:=by rw[wu];exact hi
  obtain⟨g,o,e,hg,h0,h1⟩:=(hF.aa hU) i hz;have e1:(zF l)[i]=((l[i].1:Int),(l[i].2:Int)):=by simp[zF]
  rw[e1] at h0 h1;exact⟨g,o,e,hg,h0,h1⟩
 obtain⟨AK,Hz⟩:∃AK:Nat ->List Int,∀k,Q++(l.take k).map (fun p=>(p.1:Int))=AK k:=⟨fun k=>Q++(l.take k).map (fun p=>(p.1:Int)),fun _=>rfl⟩;have HA0:Hid (AK 0=Q):=by show _=_;rw[<- Hz];simp
 have HAS:Hid (∀k (hk:k<l.length),AK (k+1)=AK k++[((l[k].1:Nat):Int)]):=fun k hk=>by rw[<- Hz, <- Hz,fR hk,fY,rW];rfl
 have WZ:Hid (AK l.length=uf Q l):=by show _=_;rw[<- Hz,fJ,uf,zF,wj];rfl
 have rO:Hid (∀k,(AK k).length<=16):=fun k=>by
  rw[<- Hz,dM,c5,eZ];omega
 have oX:=hid (gX.at (w:=w) rfl (.slice a V.length ca) (.slice b L.length cb) (.slice c R.length cc));clear Hz h hN hs hw h0 hD hq wO hF hl hd hCK aM nG hgb dh TX y7 hAn hA o8 S7 hwt hwc hwl S6 Ob xo;generalize oN ws l=FW at *;generalize nJ V L R ws l=PS at *;generalize dr V L R Q l=TT at *
 have HA:Hid (Below w.heap.size w ((w.alloc (NC (.slice a V.length ca) (.slice b L.length cb) (.slice c R.length cc))).alloc (TC (.slice none 0 0) (.slice none 0 0)))):=by
  have h1:=(au w.heap.size w).alloc (ar _) (NC (.slice a V.length ca) (.slice b L.length cb) (.slice c R.length cc));exact h1.alloc h1.size _
 have mG:Hid (gX ((w.alloc (NC (.slice a V.length ca) (.slice b L.length cb) (.slice c R.length cc))).alloc (TC (.slice none 0 0) (.slice none 0 0))) w.heap.size (.slice a V.length ca) (.slice b L.length cb) (.slice c R.length cc)):=oX.o.aa ((au _ _).alloc (ar _) (TC (.slice none 0 0) (.slice none 0 0))) oX.o.lt;have nU:Hid (bh ((w.alloc (NC (.slice a V.length ca) (.slice b L.length cb) (.slice c R.length cc))).alloc (TC (.slice none 0 0) (.slice none 0 0))) (w.heap.size+1) (.slice none 0 0) (.slice none 0 0)):=bh.at (w:=w.alloc (NC (.slice a V.length ca) (.slice b L.length cb) (.slice c R.length cc))) (by simp) _ _;clear oX;go_enter Tryz.func33,Tryz.ntmps33;go_wp2_with fail
 generalize ((w.alloc (NC (.slice a V.length ca) (.slice b L.length cb) (.slice c R.length cc))).alloc (TC (.slice none 0 0) (.slice none 0 0)))=W0 at *;refine(F9.o W0 HA.o).ae ?_;rintro e w1 ⟨av,rfl,hr1,hb1⟩;have hs0:=nU.o.lt;have adm:=hid hr1;have eR:=hid hb1;clear hr1 hb1 F9;go_wp2_with fail
 go_loopw [7,19] (fun av iv wr=>∃i:Nat,i<=l.length/\iv=.int .i64 i/\Hid (cX wr W0.heap.size av (AK i))/\Hid (Below W0.heap.size W0 wr)) (fun _ iv _=>l.length - (intOf iv).toNat)
 case atStart=>exact⟨0,aU _,rfl,by rw[HA0.o];exact adm,eR⟩
 case round=>
  obtain⟨i,hi,rfl,fj,Gc⟩:=hrel;clear adm eR;have HB:=hid (HA.o.trans (Gc.o.ae HA.o.size));obtain⟨d,cd,rfl⟩:=uO fj.o;by_cases hlt:i<l.length
  ·obtain⟨g,o,rfl,hg,k0,k1⟩:=HF.o i hlt wr HB.o;have anK:=hid (HAS.o i hlt);generalize l[i].1=v at *;generalize l[i].2=z at *;have sF:=(au wr.heap.size wr).alloc (ar _) (.cells #[.int .i64 (v:Nat),.int .i64 (z:Nat)] 90);(have ze:(wr.alloc (.cells #[.int .i64 (v:Nat),.int .i64 (z:Nat)] 90)).cell? ⟨wr.heap.size,0,none⟩=some (.int .i64 (v:Nat)):=by rw[cC _ _ 0 _ _ (0,0) (kd wr _)];rfl);(have MG:(wr.alloc (.cells #[.int .i64 (v:Nat),.int .i64 (z:Nat)] 90)).heap.size=wr.heap.size+1:=by simp);have OW:=(au _ (wr.alloc (.cells #[.int .i64 (v:Nat),.int .i64 (z:Nat)] 90))).alloc (ar _) (.cells #[.int .i64 (v:Nat)] 3)
   have HC8:Hid (((wr.alloc (.cells #[.int .i64 (v:Nat),.int .i64 (z:Nat)] 90)).alloc (.cells #[.int .i64 (v:Nat)] 3)).cell? ⟨wr.heap.size+1,0,none⟩=some (.int .i64 (v:Nat))):=by
    have:=(a7 (wr.alloc (.cells #[.int .i64 (v:Nat),.int .i64 (z:Nat)] 90)) 3 (.int .i64 (v:Nat))).cell;rwa [MG] at this
   have jS:=sF.trans (OW.ae sF.size);have adl:=hid (JR fj.o (Dn.aa jS));have IX:=hid (Gc.o.trans (jS.ae Gc.o.size));have hAL:=rO.o i;have iQ:Hid (W0.heap.size<=((wr.alloc (.cells #[.int .i64 (v:Nat),.int .i64 (z:Nat)] 90)).alloc (.cells #[.int .i64 (v:Nat)] 3)).heap.size):=IX.o.size;clear sF OW jS MG fj Gc HB;go_wp2_with (at_builtin;refine adN rfl _ _ rfl W0.heap.size (.slice d (AK i).length cd) (AK i) (v:Int) rfl adl.o (wr.heap.size+1) rfl HC8.o (by omega) iQ.o ?_;intro av' w9 rH jo nC;have ans:=hid rH;have kV:=hid (IX.o.grown jo iQ.o (fun k e=>(acH adl.o k e).1));obtain⟨n9,d9,c9,rfl⟩:∃n d c,av'=Value.slice d n c:=(uO rH).elim fun d h=>h.elim fun c e=>⟨_,d,c,e⟩;clear rH jo nC)
   go_roundw
   case rel=>exact⟨i+1,by omega,by go_num,by rw[anK.o];exact ans,kV⟩
   case measure=>simp[intOf];omega
  ·obtain rfl:i=l.length:=by omega
   rw[WZ.o] at fj;(have e1:(AK l.length).length=(uf Q l).length:=by rw[WZ.o]);rw[e1];clear e1 WZ HAS rO HA0;have j5:=hid (HST.o d _ cd W0.heap.size wr fj.o Gc.o.size);clear fj HB HST;go_wp2_with fail
   refine j5.o.ae ?_;rintro e w2 ⟨rfl, -,jP,hb2⟩;have OV:=Gc.o.trans hb2;have bc:=hid (HA.o.trans (OV.ae HA.o.size));have fA:=hid (mG.o.aa OV mG.o.lt);have iT:=hid (nU.o.aa OV nU.o.lt);have sR:=hid (BW.o d cd w2 bc.o jP);have n1:=fA.o.cells.2.1;clear jP hb2 OV Gc j5 BW mG nU HA;go_wp2_with fail
   refine sR.o.ae ?_;rintro e w3 ⟨d3,Fq,rfl,sj,hb3⟩;have dU:=hid (bc.o.trans (hb3.ae bc.o.size));have BD:=hid (fA.o.aa hb3 fA.o.lt);have jH:=hid (iT.o.aa hb3 iT.o.lt);have lO:=hid (q7.o d3 Fq w3 dU.o sj);clear n1;obtain⟨n0,n1,n2⟩:=BD.o.cells;clear sj hb3 sR q7 fA iT bc;go_wp2_with fail
   refine lO.o.ae ?_;rintro e w4 ⟨G,d4,xE,t4,Lf,rfl,QR,Oy,wJ,hb4⟩;have jT:=hb4.alloc hb4.size (.cells #[.slice (some ⟨G,0,none⟩) V.length V.length,.slice d4 (FW 0).length xE,.slice t4 (PS 0).length Lf] 87);have Db:=(au w4.heap.size w4).alloc (ar _) (.cells #[.slice (some ⟨G,0,none⟩) V.length V.length,.slice d4 (FW 0).length xE,.slice t4 (PS 0).length Lf] 87);have eD:=hid (dU.o.trans (jT.ae dU.o.size));have sW:=hid (jH.o.aa jT jH.o.lt);have Qa:Hid (bj (w4.alloc (.cells #[.slice (some ⟨G,0,none⟩) V.length V.length,.slice d4 (FW 0).length xE,.slice t4 (PS 0).length Lf] 87)) w4.heap.size (.slice (some ⟨G,0,none⟩) V.length V.length) (.slice d4 (FW 0).length xE) (.slice t4 (PS 0).length Lf)):=bj.at (w:=w4) rfl _ _ _;have x4:=hid (QR.aa Db);have F3:=hid (Oy.aa Db);have Iq:=hid (wJ.aa Db);have hlo:w.heap.size+1<w4.heap.size:=(jH.o.aa hb4 jH.o.lt).lt;clear QR Oy wJ hb4 jT Db lO dU BD jH n0 n1 n2;go_wp2_with fail
   generalize (w4.alloc (.cells #[.slice (some ⟨G,0,none⟩) V.length V.length,.slice d4 (FW 0).length xE,.slice t4 (PS 0).length Lf] 87))=W5 at *;go_loopw [43] (fun iv wr=>∃(i:Nat) (b' t':Option Addr) (fD b9:Nat),i<=l.length/\iv=.int .i64 i/\Hid (bj wr w4.heap.size (.slice (some ⟨G,0,none⟩) V.length V.length) (.slice b' (FW i).length fD) (.slice t' (PS i).length b9))/\Hid (aaK wr (some ⟨G,0,none⟩) (iL (ah V)))/\Hid (aaK wr b' (FW i))/\Hid (dQ wr t' (PS i))/\Hid (bh wr (w.heap.size+1) (.slice none 0 0) (.slice none 0 0))/\Hid (Below w.heap.size w wr)) (fun iv _=>l.length - (intOf iv).toNat)
   case atStart=>exact⟨0,_,_,_,_,aU _,rfl,Qa,x4,F3,Iq,sW,eD⟩
   case round=>
    obtain⟨i,b',t',fD,b9,hi,rfl,sX,HG,HI,HT,HR,HB⟩:=hrel;clear Qa x4 F3 Iq sW eD;rename World=>W6
    obtain⟨p0,p1,p2⟩:=sX.o.cells;by_cases hlt2:i<l.length
    ·obtain⟨g,o,rfl,hg,k0,k1⟩:=HF.o i hlt2 W6 HB.o;have WJ:=hid (qA.o i hlt2);generalize l[i].1=v at *;generalize l[i].2=z at *;have sF:=(au W6.heap.size W6).alloc (ar _) (.cells #[.int .i64 (v:Nat),.int .i64 (z:Nat)] 90);(have ze:(W6.alloc (.cells #[.int .i64 (v:Nat),.int .i64 (z:Nat)] 90)).cell? ⟨W6.heap.size,0,none⟩=some (.int .i64 (v:Nat)):=by rw[cC _ _ 0 _ _ (0,0) (kd W6 _)];rfl);(have Be:(W6.alloc (.cells #[.int .i64 (v:Nat),.int .i64 (z:Nat)] 90)).cell? ⟨W6.heap.size,1,none⟩=some (.int .i64 (z:Nat)):=by rw[cC _ _ 1 _ _ (0,0) (kd W6 _)];rfl);have P9:=hid (sX.o.aa sF sX.o.lt);have DK:=hid (HG.o.aa sF);have ur:=hid (HR.o.aa sF HR.o.lt);have eR:=hid (HB.o.trans (sF.ae HB.o.size));have HX:=hid (WJ.o (some ⟨G,0,none⟩) b' t' V.length fD b9 _ DK.o (HI.o.aa sF) (HT.o.aa sF));clear p0 p1 p2 sX HG HI HT HR HB WJ sF;obtain⟨p0,p1,p2⟩:=P9.o.cells;go_wp2_with fail
     refine HX.o.ae ?_;rintro e w7 ⟨d7,xD,t7,xB,rfl,wT,tL,Nn,bK⟩;have A4:=P9.o.aa bK P9.o.lt;have tV:=ur.o.aa bK ur.o.lt;have mo:=eR.o.trans (bK.ae eR.o.size);have QP:=DK.o.aa bK;have Hx:=P9.o.lt;clear p0 p1 p2 ze Be k0 k1;obtain⟨p0,p1,p2⟩:=A4.cells;have Av:=A4.fz 0;have Au:=A4.fz 1;have Ar:=A4.fz 2;have gY:=hid (A4.put (.slice (some ⟨G,0,none⟩) V.length V.length) (.slice d7 (FW (i+1)).length xD) (.slice t7 (PS (i+1)).length xB));have HG8:=hid (QP.putP A4 (slv _ _ _) (slv _ _ _) (slv _ _ _) (.slice (some ⟨G,0,none⟩) V.length V.length) (.slice d7 (FW (i+1)).length xD) (.slice t7 (PS (i+1)).length xB));have HI8:=hid (wT.putP A4 (slv _ _ _) (slv _ _ _) (slv _ _ _) (.slice (some ⟨G,0,none⟩) V.length V.length) (.slice d7 (FW (i+1)).length xD) (.slice t7 (PS (i+1)).length xB));have HT8:=hid (tL.putP A4 (slv _ _ _) (slv _ _ _) (slv _ _ _) (fun g' o' e=>by have:=Nn.2 g' o' e;omega) (slv (some ⟨G,0,none⟩) V.length V.length) (slv d7 (FW (i+1)).length xD) (.slice t7 (PS (i+1)).length xB));have LQ:=hid (((tV.off w4.heap.size 0 (.slice (some ⟨G,0,none⟩) V.length V.length) (by omega)).off w4.heap.size 1 (.slice d7 (FW (i+1)).length xD) (by omega)).off w4.heap.size 2 (.slice t7 (PS (i+1)).length xB) (by omega));have IX:=hid (bF mo (show w.heap.size<=w4.heap.size by omega) (.slice (some ⟨G,0,none⟩) V.length V.length) (.slice d7 (FW (i+1)).length xD) (.slice t7 (PS (i+1)).length xB));clear wT tL Nn bK A4 tV mo QP HX;go_wp2;go_roundw
     case rel=>exact⟨i+1,_,_,_,_,by omega,by go_num,gY,HG8,HI8,HT8,LQ,IX⟩
     case measure=>simp[intOf];omega
    ·obtain rfl:i=l.length:=by omega
     have Wb:=hid (ID.o (some ⟨G,0,none⟩) b' t' V.length fD b9 W6 HB.o HG.o HI.o HT.o);go_wp2_with fail
     refine Wb.o.ae ?_;rintro e w7 ⟨x,y,rfl,Oc,bK⟩;obtain⟨xs,xn,xc,rfl⟩:=Oc.slices.1;obtain⟨ys,yn,yc,rfl⟩:=Oc.slices.2;have tV:=HR.o.aa bK HR.o.lt;have mo:=HB.o.trans (bK.ae HB.o.size);obtain⟨t0,t1,f0,f1⟩:=tV.facts;have lR:=hid (tV.put (.slice xs xn xc) (.slice ys yn yc));have FA:=hid (Oc.putT tV (slv _ _ _) (slv _ _ _) (slv xs xn xc) (.slice ys yn yc));have kV:=hid (mr (g:=w.heap.size+1) mo (by omega) (.slice xs xn xc) (.slice ys yn yc));clear Oc bK tV mo p0 p1 p2;go_wp2;refine bB (lR.o.result1 rfl _ rfl) rfl ?_;exact⟨_,_,rfl,FA.o,kV.o⟩
variable {F:List (Int×Int)} {a:Option Addr} {w':World}
structure zk (w:World) (a b c:Option Addr) (V:List Vr) (L:List (List Int)) (R:List (List Fr)):Prop where
 net:gP w a b c V L R
 ls:vK w b L
 sm:sQ V L R
 wt:∀l∈R,fw l<=4200
 lt:mJ V R
 few:aW V L R=0 ->cnt (ah V) (List.range V.length)<=800
theorem zk.aa {b c:Option Addr} {V:List Vr} (h:zk w a b c V L R) (hb:Below w.heap.size w w'):zk w' a b c V L R:=⟨h.net.aa hb,h.ls.aa h.net.pars hb,h.sm,h.wt,h.lt,h.few⟩
def nF (F:List (Int×Int)):List (Nat×Nat):=F.map fun p=>(p.1.toNat,p.2.toNat)
theorem ah2 (l:List (Nat×Nat)):nF (zF l)=l:=by
 rw[nF,zF,wj];refine(rq fun p _=>?_).trans (List.map_id l);show (((p.1:Int).toNat),((p.2:Int).toNat))=p;simp
theorem qh {V:List Vr} (h:bP V L R F=0):aW V L R=0/\F=zF (nF F)/\kW (ah V) V.length (nF F):=by
 obtain⟨h0,l,rfl,hl⟩:=ak0 h;rw[ah2];exact⟨h0,rfl,hl⟩
def qJ (V:List Vr) (L:List (List Int)) (R:List (List Fr)) (F:List (Int×Int)):Fr:=if bP V L R F=0 then qF (AD V L R (nF F)) else(false,⟨#[]⟩,⟨#[]⟩)
theorem aea (V:List Vr) (L:List (List Int)) (R:List (List Fr)) (l:List (Nat×Nat)):dr V L R [] l=([],[qF (AD V L R l)]):=rfl
theorem aiX (a b c f:Option Addr) (ca cb cc cf:Nat) (V:List Vr) (L:List (List Int)) (R:List (List Fr)) (F:List (Int×Int)) (w:World) (h:zk w a b c V L R) (hF:jI w f F) (hn:F.length<=1000) (vt:F.length<=cf):
  Calls Tryz.prog 8 #[.agg #[.slice a V.length ca,.slice b L.length cb,.slice c R.length cc],.slice f F.length cf] w fun e w'=>e=.returned (.tuple #[dP (qJ V L R F),.int .i64 (bP V L R F)])/\Below w.heap.size w w':=by
 have oZ:=hid (fun (U:World) (hU:Below w.heap.size w U)=>SZ a b c f ca cb cc cf V L R F U (h.net.aa hU) h.sm (hF.aa hU) hn vt)
 have rN:Hid (bP V L R F=0 ->∀U:World,Below w.heap.size w U ->Calls Tryz.prog 33 #[.agg #[.slice a V.length ca,.slice b L.length cb,.slice c R.length cc],.slice none 0 0,.slice f F.length cf] U fun e w'=>∃(x:Value) (g o cg:Nat),e=.returned (.agg #[x,.slice (some ⟨g,o,none⟩) 1 cg])/\w'.cell? ⟨g,o,none⟩=some (.bool (qJ V L R F).1)/\w'.cell? ⟨g,o+1,none⟩=some (.string (qJ V L R F).2.1)/\w'.cell? ⟨g,o+2,none⟩=some (.string (qJ V L R F).2.2)/\cM x/\Below U.heap.size U w'):=fun e U hU=>by
  obtain⟨h0,hz,hl⟩:=qh e;have h1:=hF.aa hU;rw[hz] at h1;have CY:=h.aa hU;have:=aaR a b c none f ca cb cc 0 cf V L R [] (nF F) U CY.net CY.ls h.sm h.wt h0 h.lt (fun k hk=>absurd hk (by simp)) ⟨fun i hi=>absurd hi (by simp),fun i j hj=>absurd hj (by simp)⟩ h1 hl (fun v hv=>by cases hv) (fun U' CZ=>Pn a b c ca cb cc V L R U' CZ h.sm);rw[<- wu, <- hz,aea] at this;refine this.ae fun e' w' hh=>?_;obtain⟨x,y,h2,⟨b',c',fD,kp,h3,h4,_,h5,_⟩,h6⟩:=hh;obtain⟨g,o,h7,_,h8,h9,h10⟩:=h5 0 (by simp);rw[qJ,aaf e];refine⟨x,g,o,kp,by rw[h2,h4,h7];rfl,?_,?_,?_,⟨_,_,_,h3⟩,h6⟩
  ·rw[jw,fH] at h8;exact h8
  ·rw[jw,fH] at h9;exact h9
  ·rw[jw,fH] at h10;exact h10
 have fB:Hid (bP V L R F≠0 ->qJ V L R F=(false,⟨#[]⟩,⟨#[]⟩)):=fun e=>aaO e;generalize qJ V L R F=pf at *;generalize bP V L R F=fe at *;clear h hF vt;have bY:=hid (LK.new w (.slice a V.length ca) (.slice b L.length cb) (.slice c R.length cc));obtain⟨c0,c1,c2⟩:=bY.o.1.1.cells;go_enter Tryz.func8,Tryz.ntmps8;go_wp2_with fail
 generalize ((w.alloc (NC (.slice a V.length ca) (.slice b L.length cb) (.slice c R.length cc))).alloc (FC false ⟨#[]⟩ ⟨#[]⟩))=w1 at *;refine(oZ.o _ bY.o.1.2).ae ?_;rintro e w2 ⟨rfl,hb⟩;have hK:=bY.o.step hb;clear hb bY c0 c1 c2 oZ;by_cases iy:fe=0
 ·subst iy;have HP:=hid (rN.o rfl);have HK:=hid hK;obtain⟨c0,c1,c2⟩:=hK.1.1.cells;clear fB rN hK;obtain⟨pn,px,py⟩:=pf;go_wp2_with fail
  refine(HP.o _ HK.o.1.2).ae ?_;rintro e w6 ⟨x,g,o,cg,rfl,q0,q1,q2,⟨xa,xn,xc,rfl⟩,hb⟩;have y4:=HK.o.step hb;obtain⟨k0,k1,k2,f0,f1,f2⟩:=y4.2.facts;have eA:=y4.2.put pn px py;have hbf:=bF y4.1.2 (show w.heap.size<=w.heap.size+1 by omega) (.bool pn) (.string px) (.string py);have hfd:∀U:World,(Instr.field 39 (.agg #[.slice xa xn xc,.slice (some ⟨g,o,none⟩) 1 cg]) 1).run Tryz.prog U=.ok (.slice (some ⟨g,o,none⟩) 1 cg) U:=fun _=>by kernel_rfl
  clear hb c0 c1 c2;go_wp2;refine bB (eA.result2 rfl _ rfl) rfl ?_;exact⟨rfl,hbf⟩
 ·have HQ:=hid (fB.o iy);have jA:(fe==0)=false:=by simpa using iy
  obtain⟨k0,k1,k2,f0,f1,f2⟩:=hK.2.facts;have eA:=hK.2.put false ⟨#[]⟩ ⟨#[]⟩;have hbf:=bF hK.1.2 (show w.heap.size<=w.heap.size+1 by omega) (.bool false) (.string ⟨#[]⟩) (.string ⟨#[]⟩);clear iy rN fB;go_wp2;refine bB (eA.result2 rfl _ rfl) rfl ?_;exact⟨by rw[HQ.o];rfl,hbf⟩
theorem apW:∀l:List Fr,l.length+sw l<=fw l
 |[]=>ar _
 |f::l=>by
  have:=apW l;rw[eU,sw,fw];omega
theorem aqA (h:∀l∈R,fw l<=400):∀us:List Nat,wR R us<=400*us.length
 |[]=>ar _
 |v::vs=>by
  have h1:=aqA h vs
  have h2:(R.getD v []).length+sw (R.getD v [])<=400:=by
   by_cases hv:v<R.length
   ·rw[b7,af hv];exact aS (apW _) (h _ (bH hv))
   ·rw[b7,iF (by omega)];exact aS (apW _) (by decide)
  rw[wR,eU];omega
theorem NM.lite {V:List Vr} (h:NM V L R):mJ V R:=by
 have h1:=acn R (List.range V.length);have h2:=aqA h.light (List.range V.length);have h3:=h.six;rw[lY] at h2;show (B (eW R (List.range V.length))).size<=4000;omega
theorem NM.ni4 {V:List Vr} (h:NM V L R) {b c:Option Addr} (hn:gP w a b c V L R) (hl:vK w b L):zk w a b c V L R:=
 ⟨hn,hl,h.small,fun l yT=>by have:=h.light l yT;omega,h.lite,fun _=>by have:=atc h;omega⟩
theorem aqR {V:List Vr} (h0:aW V L R=0) {l:List (Nat×Nat)} (hl:kW (ah V) V.length l):bP V L R (zF l)=0/\qJ V L R (zF l)=qF (AD V L R l):=by
 have e:bP V L R (zF l)=0:=by
  rw[bP,aaf h0];refine ac8 fun j hj=>?_;have hj':j<l.length:=by rw[wu] at hj;exact hj
  have hm:=bH hj';have e1:(zF l)[j]=((l[j].1:Int),(l[j].2:Int)):=by simp[zF]
  have h1:=hl.lt _ hm;have h2:=hl.val _ hm;refine aca hj (by rw[e1];exact⟨QQ _,by show ((l[j].1:Nat):Int)<_;omega⟩) (by rw[e1];exact⟨QQ _,by show ((l[j].2:Nat):Int)<((sz (ah V) ((l[j].1:Nat):Int).toNat:Nat):Int);rw[pT];omega⟩) ?_;rw[List.any_eq_false];intro p hp;obtain⟨i,hi,rfl⟩:=iE hp;rw[eZ,wu] at hi;have jB:i<l.length:=by omega
  have e2:((zF l).take j)[i]'(by rw[eZ,wu];omega)=((l[i].1:Int),(l[i].2:Int)):=by rw[Aa];simp[zF]
  rw[e1,e2];have iZ:=Cg.1 hl.nd i j (by simpa using jB) (by simpa using hj') (by omega);simp only[acj] at iZ;intro he;have he':((l[i].1:Nat):Int)=((l[j].1:Nat):Int):=by simpa using he
  exact iZ (by omega)
 refine⟨e,?_⟩;rw[qJ,aaf e,ah2]
def C1 (L:List (List Int)) (i:Nat):Nat:=((L.take i).map List.length).sum
theorem aq6 (h:i<L.length):C1 L (i+1)=C1 L i+L[i].length:=by
 rw[C1,C1,fR h,fY,List.sum_append];simp
theorem aq4:∀ {l:List Nat} {x:Nat},x∈l ->x<=l.sum
 |y::l,x,h=>by
  rw[List.sum_cons];rcases dK.1 h with rfl |h
  ·omega
  ·have:=aq4 h;omega
theorem asA (h:C1 L L.length<=512):∀l∈L,l.length<=512:=fun l hl=>by
 rw[C1,fJ] at h;have:l.length<=(L.map List.length).sum:=aq4 (aaQ.2 ⟨l,hl,rfl⟩);omega
theorem aq5 (hl:∀l∈L,l.length<=140737488355328):∀i,i<=L.length ->C1 L i<=i*140737488355328
 |0,_=>by simp[C1]
 |i+1,hi=>by
  have:=aq5 hl i (by omega);have:=hl _ (bH (show i<L.length by omega));rw[aq6 (by omega)];omega
theorem aqG (a:Option Addr) (ca:Nat) (L:List (List Int)) (w:World) (h:fh w a L) (hl:∀l∈L,l.length<=140737488355328) (hL:L.length<=8):
  Calls Tryz.prog 29 #[.slice a L.length ca] w fun e w'=>∃q,e=.returned (.bool q)/\(q=false ->∀l∈L,l.length<=512)/\w'=w:=by
 have HF:=hid h;have HL:=hid hl;have vQ:Hid (C1 L 0=0):=by show _=_;simp[C1]
 have sU:Hid (∀i (h:i<L.length),C1 L (i+1)=C1 L i+L[i].length):=fun i h=>aq6 h;have qu:Hid (C1 L L.length<=512 ->∀l∈L,l.length<=512):=fun h=>asA h;have HTU:Hid (∀i,i<=L.length ->C1 L i<=i*140737488355328):=aq5 hl;clear h hl;generalize C1 L=T at *;go_enter Tryz.func29,Tryz.ntmps29;go_wp2_with fail
 go_loopw [3,4] (fun nv iv wr=>∃i:Nat,i<=L.length/\iv=.int .i64 i/\nv=.int .i64 (T i:Nat)/\wr=w) (fun _ iv _=>L.length - (intOf iv).toNat)
 case atStart=>exact⟨0,aU _,rfl,by rw[vQ.o];rfl,rfl⟩
 case round=>
  obtain⟨i,hi,rfl,rfl,rfl⟩:=hrel;have CB:=HTU.o i hi;by_cases jB:i<L.length
  ·obtain⟨g,o,b,c,rfl,hg,c0, -⟩:=HF.o i jB;have Kn:=HL.o _ (bH jB);have HS:=hid (sU.o i jB);generalize L[i].length=li at *;generalize hT:T i=Ti at *;clear hT;go_wp2_with fail
   go_roundw
   case rel=>exact⟨i+1,by omega,by go_num,by rw[HS.o];go_num,by first |rfl |trivial⟩
   case measure=>simp[intOf];omega
  ·obtain rfl:i=L.length:=by omega
   by_cases AR:T L.length<=512
   ·have HE:=hid (qu.o AR);generalize hT:T L.length=Ti at *;clear hT;go_wp2;go_ret;exact⟨false,by simp<;>omega,fun _=>HE.o,rfl⟩
   ·generalize hT:T L.length=Ti at *;clear hT;go_wp2;go_ret;exact⟨true,by simp<;>omega,(fun h=>by cases h),rfl⟩
theorem as4 {bx vn bz bu:Option Addr} {cx cy cz cu:Nat} {x y z u:List Int} (hx:aaK U bx x) (hy:aaK U vn y) (hz:aaK U bz z) (hu:aaK U bu u):fh (U.alloc (.cells #[.slice bx x.length cx,.slice vn y.length cy,.slice bz z.length cz,.slice bu u.length cu] 27)) (some ⟨U.heap.size,0,none⟩) [x,y,z,u]:=fun k hk=>by
 have hA:=(au U.heap.size U).alloc (ar _) (.cells #[.slice bx x.length cx,.slice vn y.length cy,.slice bz z.length cz,.slice bu u.length cu] 27);have hnew:=kd U (.cells #[.slice bx x.length cx,.slice vn y.length cy,.slice bz z.length cz,.slice bu u.length cu] 27);have hlt:=(eL.1 hnew).1;match k,hk with
 |0,_=>exact⟨_,0,bx,cx,rfl,hlt,by rw[cC _ U.heap.size _ _ _ (0,0) hnew];rfl,hx.aa hA⟩
 |1,_=>exact⟨_,0,vn,cy,rfl,hlt,by rw[cC _ U.heap.size _ _ _ (0,0) hnew];rfl,hy.aa hA⟩
 |2,_=>exact⟨_,0,bz,cz,rfl,hlt,by rw[cC _ U.heap.size _ _ _ (0,0) hnew];rfl,hz.aa hA⟩
 |3,_=>exact⟨_,0,bu,cu,rfl,hlt,by rw[cC _ U.heap.size _ _ _ (0,0) hnew];rfl,hu.aa hA⟩
theorem ar8 (a1 a2 a3:Option Addr) (c1 c2 c3:Nat) (L1 L2 L3:List Int) (bk:Bool) (w:World) (h1:aaK w a1 L1) (h2:aaK w a2 L2) (h3:aaK w a3 L3) (l1:L1.length<=140737488355328) (l2:L2.length<=140737488355328) (l3:L3.length<=140737488355328):
  Calls Tryz.prog 28 #[.agg #[.slice a1 L1.length c1,.slice a2 L2.length c2,.slice a3 L3.length c3,.bool bk]] w fun e w'=>∃q,e=.returned (.bool q)/\Below w.heap.size w w':=by
 have rF:(w.alloc (.cells #[.slice a1 L1.length c1,.slice a2 L2.length c2,.slice a3 L3.length c3,.bool bk] 48)).heap[w.heap.size]? =some (.cells #[.slice a1 L1.length c1,.slice a2 L2.length c2,.slice a3 L3.length c3,.bool bk] 48 (0,0)):=kd w _;have q0:(w.alloc (.cells #[.slice a1 L1.length c1,.slice a2 L2.length c2,.slice a3 L3.length c3,.bool bk] 48)).cell? ⟨w.heap.size,0,none⟩=some (.slice a1 L1.length c1):=by rw[cC _ _ _ _ _ (0,0) rF];rfl
 have q1:(w.alloc (.cells #[.slice a1 L1.length c1,.slice a2 L2.length c2,.slice a3 L3.length c3,.bool bk] 48)).cell? ⟨w.heap.size,1,none⟩=some (.slice a2 L2.length c2):=by rw[cC _ _ _ _ _ (0,0) rF];rfl
 have q2:(w.alloc (.cells #[.slice a1 L1.length c1,.slice a2 L2.length c2,.slice a3 L3.length c3,.bool bk] 48)).cell? ⟨w.heap.size,2,none⟩=some (.slice a3 L3.length c3):=by rw[cC _ _ _ _ _ (0,0) rF];rfl
 have hb0:Below w.heap.size w (w.alloc (.cells #[.slice a1 L1.length c1,.slice a2 L2.length c2,.slice a3 L3.length c3,.bool bk] 48)):=(au _ w).alloc (ar _) _;have vT:=hid (aqF (cx:=c1) (cy:=c2) (cz:=c3) (h1.aa hb0) (h2.aa hb0) (h3.aa hb0));have eR:=hid (hb0.trans (((au _ _).alloc (ar _) (.cells #[.slice a1 L1.length c1,.slice a2 L2.length c2,.slice a3 L3.length c3] 27)).ae hb0.size))
 have Ff:Hid (∀(G:Nat) (U:World),fh U (some ⟨G,0,none⟩) [L1,L2,L3] ->Calls Tryz.prog 29 #[.slice (some ⟨G,0,none⟩) 3 3] U fun e w'=>∃q,e=.returned (.bool q)/\w'=U):=fun G U hU=>(aqG (some ⟨G,0,none⟩) 3 [L1,L2,L3] U hU (fun l hl=>by
  simp only[dK,qG,acA] at hl;rcases hl with rfl |rfl |rfl<;>assumption) (by simp)).ae fun e w' ⟨q,h,_,h'⟩=>⟨q,h,h'⟩
 rw[show (w.alloc (.cells #[.slice a1 L1.length c1,.slice a2 L2.length c2,.slice a3 L3.length c3,.bool bk] 48)).heap.size=w.heap.size+1 by simp] at vT;clear h1 h2 h3 l1 l2 l3 rF hb0;go_enter Tryz.func28,Tryz.ntmps28;go_wp2_with fail
 refine(Ff.o _ _ vT.o).ae ?_;rintro e w2 ⟨q,rfl,rfl⟩;clear q0 q1 q2;go_wp2;go_ret;exact⟨q,rfl,eR.o⟩
variable {neg:Bool} {den num:ByteArray} {fx fy:List (Nat×Nat)} {ca cb cc g:Nat} {p q:Rat} {W':World}
structure TS (w W:World) (B:Nat) (a b c:Option Addr) (ca cb cc:Nat) (V:List Vr) (L:List (List Int)) (R:List (List Fr)):Prop where
 box:gX W B (.slice a V.length ca) (.slice b L.length cb) (.slice c R.length cc)
 net:zk W a b c V L R
 fr:Below w.heap.size w W
theorem TS.step {W:World} {B:Nat} {b c:Option Addr} {V:List Vr} (h:TS w W B a b c ca cb cc V L R) (hb:Below W.heap.size W W'):TS w W' B a b c ca cb cc V L R:=
 ⟨h.box.aa hb h.box.lt,h.net.aa hb,h.fr.trans (hb.ae h.fr.size)⟩
theorem aox {M:List Int} (h:Up l n):Up (eK l M) n:=
 pV.2 ⟨fun x hx=>(pV.1 h).1 x (abp.1 hx).1,(pV.1 h).2.filter _⟩
theorem aqD (h:Up l n) (hn:n<=6):l.length<=6:=by have:=h.length;omega
theorem atl {x y z:List Int} (hx:Up x n) (hy:Up y n) (hz:Up z n):k7 n [x,eK y x,eK (eK z x) (eK y x)]=true:=by
 have hr:ug [x,eK y x,eK (eK z x) (eK y x)] n=true:=by
  rw[ug,eJ];intro l hl;simp only[dK,qG,acA] at hl;rcases hl with rfl |rfl |rfl
  ·exact ad2 hx
  ·exact ad2 (aox hy)
  ·exact ad2 (aox (aox hz))
 have hmem:∀ {l M:List Int} {v:Int},v∈eK l M ->v∈l/\¬v∈M:=fun {l M v} h=>by
  obtain⟨h1,h2⟩:=abp.1 h;refine⟨h1,fun hm=>?_⟩;rw[asH.2 hm] at h2;cases h2
 rw[k7,hr,Jj,ei];simp only[List.flatten_cons,List.flatten_nil,Eg,Gq,aa5];refine⟨ao9 hx,⟨ao9 (aox hy),ao9 (aox (aox hz)),fun u hu v hv e=>?_⟩,fun u hu v hv e=>?_⟩
 ·subst e;exact(hmem hv).2 hu
 ·subst e;rcases hv with hv |hv
  ·exact(hmem hv).2 hu
  ·exact(hmem (hmem hv).1).2 hu
theorem as6 {V:List Vr} {l:List (Nat×Nat)} {u:List Nat} (e:l.map (·.1)=u) (hn:u.Nodup) (hlt:∀v∈u,v<V.length) (hv:∀p∈l,p.2<sz (ah V) p.1):kW (ah V) V.length l:=
 ⟨by rw[e];exact hn,fun p hp=>hlt p.1 (by rw[<- e];exact aaQ.2 ⟨p,hp,rfl⟩),hv⟩
theorem kW.sub {l m:List (Nat×Nat)} (h:kW S n l) (hs:m.Sublist l):kW S n m:=⟨h.nd.sublist (hs.map _),fun p hp=>h.lt p (hs.subset hp),fun p hp=>h.val p (hs.subset hp)⟩
theorem as5 {V:List Vr} {x y z:List Int} (hap:k7 V.length [x,y,z]=true) {fz:List (Nat×Nat)} (ex:fx.map (·.1)=ag x) (ey:fy.map (·.1)=ag y) (ez:fz.map (·.1)=ag z) (vx:∀p∈fx,p.2<sz (ah V) p.1) (vy:∀p∈fy,p.2<sz (ah V) p.1) (vz:∀p∈fz,p.2<sz (ah V) p.1):
  kW (ah V) V.length (fx++fy++fz)/\kW (ah V) V.length (fx++fz)/\kW (ah V) V.length (fy++fz)/\kW (ah V) V.length fz:=by
 rw[k7,ia,ei] at hap;obtain⟨hr,hn⟩:=hap;have aX:∀l∈[x,y,z],Up l V.length:=fun l hl=>Al (eJ.1 hr l hl);have e:(fx++fy++fz).map (·.1)=ag (x++(y++z)):=by rw[fY,fY,ex,ey,ez,aqE,aqE,rW]
 have hn':(x++(y++z)).Nodup:=by simpa using hn
 have hmem:∀v∈x++(y++z),0<=v/\v<V.length:=fun v hv=>by
  rcases aa5.1 hv with hv |hv
  ·exact aoC (aX x (by simp)) hv
  ·rcases aa5.1 hv with hv |hv
   ·exact aoC (aX y (by simp)) hv
   ·exact aoC (aX z (by simp)) hv
 have h1:kW (ah V) V.length (fx++fy++fz):=by
  refine as6 e ?_ (fun v hv=>?_) (fun p hp=>?_)
  ·rw[ag];refine Gp.2 (hn'.imp_of_mem fun {a b} ha hb hab=>?_);have:=hmem a ha;have:=hmem b hb;omega
  ·obtain⟨u,hu,rfl⟩:=aaQ.1 hv;have:=hmem u hu;omega
  ·rcases aa5.1 hp with hp |hp
   ·rcases aa5.1 hp with hp |hp
    ·exact vx p hp
    ·exact vy p hp
   ·exact vz p hp
 refine⟨h1,h1.sub ?_,h1.sub ?_,h1.sub ?_⟩
 ·exact List.Sublist.append_right (List.sublist_append_left _ _) _
 ·exact List.Sublist.append_right (List.sublist_append_right _ _) _
 ·exact List.sublist_append_right _ _
theorem aqH {P:Program} {c:Code} {a:Act} (T:Act ->Exit ->Act ->World ->Prop) (h:c.wp P (T a) a w) (hm:∀e a' w',T a e a' w' ->Q e a' w'):c.wp P Q a w:=Code.wp_mono hm h
theorem aC.three (h:aC w g neg num den):w.cell? ⟨g,0,none⟩=some (.bool neg)/\w.cell? ⟨g,1,none⟩=some (.string num)/\w.cell? ⟨g,2,none⟩=some (.string den):=⟨h.c0,h.c1,h.c2⟩
theorem aq3 (hp:qw p<=8003) (hq:qw q<=8003) (U:World):Calls Tryz.prog 26 #[dP (qF p),dP (qF q)] U fun e w'=>e=.returned (dP (qF (p*q)))/\Below U.heap.size U w':=by
 have h:=Za (aH p) (aH q) (nu p) (de p) (nu q) (de q) U (by rw[ng];omega) (by rw[ng];omega);rw[gC,gC] at h;exact h
theorem aou (l m:List (Nat×Nat)):zF (l++m)=zF l++zF m:=fY
theorem ar7 (a1 a2 a3 ax ay az av:Option Addr) (c1 c2 c3 cx cy cz cv:Nat) (L1 L2 L3 x y z K:List Int) (bk:Bool) (w:World) (h1:aaK w a1 L1) (h2:aaK w a2 L2) (h3:aaK w a3 L3) (hx:aaK w ax x) (hy:aaK w ay y) (hz:aaK w az z) (hv:aaK w av K) (r1:NH L1) (r2:NH L2) (r3:NH L3) (rx:NH x) (ry:NH y) (rz:NH z) (rv:NH K):
  Calls Tryz.prog 6 #[.agg #[.slice a1 L1.length c1,.slice a2 L2.length c2,.slice a3 L3.length c3,.bool bk],.slice ax x.length cx,.slice ay y.length cy,.slice az z.length cz,.slice av K.length cv] w fun e w'=>e=.returned (.bool true)/\Below w.heap.size w w':=by
 have VT:=hid (fun (U:World) (hB:Below w.heap.size w U)=>asx a1 a2 a3 c1 c2 c3 L1 L2 L3 bk U (h1.aa hB) (h2.aa hB) (h3.aa hB) r1 r2 r3);have Wp:=hid (fun (U:World) (hB:Below w.heap.size w U)=>ar8 a1 a2 a3 c1 c2 c3 L1 L2 L3 bk U (h1.aa hB) (h2.aa hB) (h3.aa hB) r1.1 r2.1 r3.1);have vT:Hid (∀U:World,Below w.heap.size w U ->fh (U.alloc (.cells #[.slice ax x.length cx,.slice ay y.length cy,.slice az z.length cz,.slice av K.length cv] 27)) (some ⟨U.heap.size,0,none⟩) [x,y,z,K]):=fun U hU=>as4 (hx.aa hU) (hy.aa hU) (hz.aa hU) (hv.aa hU)
 have Ff:Hid (∀(G:Nat) (U:World),fh U (some ⟨G,0,none⟩) [x,y,z,K] ->Calls Tryz.prog 29 #[.slice (some ⟨G,0,none⟩) 4 4] U fun e w'=>∃q,e=.returned (.bool q)/\(q=false ->x.length<=512/\y.length<=512/\z.length<=512/\K.length<=512)/\w'=U):=fun G U hU=>(aqG (some ⟨G,0,none⟩) 4 [x,y,z,K] U hU (fun l hl=>by
  simp only[dK,qG,acA] at hl;rcases hl with rfl |rfl |rfl |rfl
  ·exact rx.1
  ·exact ry.1
  ·exact rz.1
  ·exact rv.1) (by simp)).ae fun e w' ⟨q,h,h',h''⟩=>⟨q,h,fun e=>⟨h' e x (by simp),h' e y (by simp),h' e z (by simp),h' e K (by simp)⟩,h''⟩
 have rF:(w.alloc (.cells #[.slice a1 L1.length c1,.slice a2 L2.length c2,.slice a3 L3.length c3,.bool bk] 48)).heap[w.heap.size]? =some (.cells #[.slice a1 L1.length c1,.slice a2 L2.length c2,.slice a3 L3.length c3,.bool bk] 48 (0,0)):=kd w _;have q0:(w.alloc (.cells #[.slice a1 L1.length c1,.slice a2 L2.length c2,.slice a3 L3.length c3,.bool bk] 48)).cell? ⟨w.heap.size,0,none⟩=some (.slice a1 L1.length c1):=by rw[cC _ _ _ _ _ (0,0) rF];rfl
 have q1:(w.alloc (.cells #[.slice a1 L1.length c1,.slice a2 L2.length c2,.slice a3 L3.length c3,.bool bk] 48)).cell? ⟨w.heap.size,1,none⟩=some (.slice a2 L2.length c2):=by rw[cC _ _ _ _ _ (0,0) rF];rfl
 have q2:(w.alloc (.cells #[.slice a1 L1.length c1,.slice a2 L2.length c2,.slice a3 L3.length c3,.bool bk] 48)).cell? ⟨w.heap.size,2,none⟩=some (.slice a3 L3.length c3):=by rw[cC _ _ _ _ _ (0,0) rF];rfl
 have q3:(w.alloc (.cells #[.slice a1 L1.length c1,.slice a2 L2.length c2,.slice a3 L3.length c3,.bool bk] 48)).cell? ⟨w.heap.size,3,none⟩=some (.bool bk):=by rw[cC _ _ _ _ _ (0,0) rF];rfl
 have hb0:Below w.heap.size w (w.alloc (.cells #[.slice a1 L1.length c1,.slice a2 L2.length c2,.slice a3 L3.length c3,.bool bk] 48)):=(au _ w).alloc (ar _) _;have Ov:w.heap.size<(w.alloc (.cells #[.slice a1 L1.length c1,.slice a2 L2.length c2,.slice a3 L3.length c3,.bool bk] 48)).heap.size:=by simp
 have HRX:=hid rx.2;have HRY:=hid ry.2;have J8:=hid rz.2;have sV:=hid rv.2;have HX:=hid hx;have HY:=hid hy;have HZ:=hid hz;have HV:=hid hv;clear h1 h2 h3 hx hy hz hv r1 r2 r3 rx ry rz rv rF;go_enter Tryz.func6,Tryz.ntmps6;go_wp2_with fail
 generalize (w.alloc (.cells #[.slice a1 L1.length c1,.slice a2 L2.length c2,.slice a3 L3.length c3,.bool bk] 48))=W0 at *;refine(Wp.o _ hb0).ae ?_;rintro e W1 ⟨q,rfl,hb1⟩;have eR:=hid (hb0.trans (hb1.ae hb0.size))
 have Vy:Hid (∀U:World,Below W1.heap.size W1 U ->U.cell? ⟨w.heap.size,0,none⟩=some (.slice a1 L1.length c1)/\U.cell? ⟨w.heap.size,1,none⟩=some (.slice a2 L2.length c2)/\U.cell? ⟨w.heap.size,2,none⟩=some (.slice a3 L3.length c3)/\U.cell? ⟨w.heap.size,3,none⟩=some (.bool bk)):=fun U hU=>by
  have hl1:=aR Ov hb1.size;exact⟨(hU.cell (p:=⟨w.heap.size,0,none⟩) hl1).trans ((hb1.cell (p:=⟨w.heap.size,0,none⟩) Ov).trans q0),(hU.cell (p:=⟨w.heap.size,1,none⟩) hl1).trans ((hb1.cell (p:=⟨w.heap.size,1,none⟩) Ov).trans q1),(hU.cell (p:=⟨w.heap.size,2,none⟩) hl1).trans ((hb1.cell (p:=⟨w.heap.size,2,none⟩) Ov).trans q2),(hU.cell (p:=⟨w.heap.size,3,none⟩) hl1).trans ((hb1.cell (p:=⟨w.heap.size,3,none⟩) Ov).trans q3)⟩
 clear q0 q1 q2 q3 hb0 hb1 Ov Wp;cases q with
 |true=>
  go_wp2;go_ret;exact⟨rfl,eR.o⟩
 |false=>
  have Dc:Below W1.heap.size W1 (W1.alloc (.cells #[.slice ax x.length cx,.slice ay y.length cy,.slice az z.length cz,.slice av K.length cv] 27)):=(au _ W1).alloc (ar _) _;have bc:=hid (eR.o.trans (Dc.ae eR.o.size));have rh:=hid (vT.o W1 eR.o);have fp:=hid (Vy.o _ Dc);clear vT eR Vy Dc;go_wp2_with fail
  generalize (W1.alloc (.cells #[.slice ax x.length cx,.slice ay y.length cy,.slice az z.length cz,.slice av K.length cv] 27))=W2 at *;refine(Ff.o _ _ rh.o).ae ?_;rintro e W3 ⟨q,rfl,hq,rfl⟩;clear rh Ff;cases q with
  |true=>
   clear hq;go_wp2;go_ret;exact⟨rfl,bc.o⟩
  |false=>
   obtain⟨lx,ly,lz,lv⟩:=hq rfl;obtain⟨q0,q1,q2,q3⟩:=fp.o;clear hq fp;go_wp2_with fail
   refine(VT.o _ bc.o).ae ?_;rintro e W4 ⟨a,b,c,ca,cb,cc,V,L,R,rfl,hN,Qg,B8,hb4⟩;clear q0 q1 q2 q3 VT;have gh:=B8.one;have jV:=B8.six;have aM:=gD B8.ok;have dY:=bc.o.trans (hb4.ae bc.o.size);have aN:Below W4.heap.size W4 (W4.alloc (NC (.slice a V.length ca) (.slice b L.length cb) (.slice c R.length cc))):=(au _ W4).alloc (ar _) _;have bW:=gX.at (w:=W4) rfl (.slice a V.length ca) (.slice b L.length cb) (.slice c R.length cc);have HS:=hid (show TS w _ _ a b c ca cb cc V L R from ⟨bW,(B8.ni4 hN Qg).aa aN,dY.trans (aN.ae dY.size)⟩);obtain⟨b0,b1,b2⟩:=bW.cells;clear hN Qg hb4 dY aN bW bc;go_wp2_with fail
   clear b0 b1 b2;generalize qP:W4.heap.size=B at *;clear qP;generalize (W4.alloc (NC (.slice a V.length ca) (.slice b L.length cb) (.slice c R.length cc)))=W5 at *
   have WG:Hid (∀(d:Option Addr) (cd:Nat) (U:List Int) (Z:World),TS w Z B a b c ca cb cc V L R ->aaK Z d U ->Up U V.length ->Calls Tryz.prog 19 #[.agg #[.slice a V.length ca,.slice b L.length cb,.slice c R.length cc],.slice d U.length cd,.slice av K.length cv] Z fun e w'=>∃x l,e=.returned x/\dV w' Z.heap.size x (zF l)/\l.map (·.1)=ag U/\(∀p∈l,p.2<sz (ah V) p.1)/\Below Z.heap.size Z w'):=fun d cd U Z hZ hd hU=>asi a b c d av ca cb cc cd cv V L R U K Z hZ.net.net hd (HV.o.aa hZ.fr) hU (by have:=aqD hU jV;omega) sV.o (by omega) (fun v hv=>by
    have h1:=im (mi B8.ok) v;have h2:=B8.szs v;rw[Rl hv] at h1 h2;omega)
   have sX:Hid (∀(d:Option Addr) (cd:Nat) (l:List (Nat×Nat)) (Z:World),TS w Z B a b c ca cb cc V L R ->jI Z d (zF l) ->(zF l).length<=cd ->kW (ah V) V.length l ->Calls Tryz.prog 8 #[.agg #[.slice a V.length ca,.slice b L.length cb,.slice c R.length cc],.slice d (zF l).length cd] Z fun e w'=>e=.returned (.tuple #[dP (qF (AD V L R l)),.int .i64 0])/\Below Z.heap.size Z w'):=fun d cd l Z hZ hd hc hl=>by
    have h:=aiX a b c d ca cb cc cd V L R (zF l) Z hZ.net hd (by rw[wu];have:=hl.len;omega) hc;rwa [(aqR B8.ok hl).1,(aqR B8.ok hl).2] at h
   have KH:Hid (∀(bx vn bz:Option Addr) (cx cy cz:Nat) (x y z:List Int) (Z:World),TS w Z B a b c ca cb cc V L R ->aaK Z bx x ->aaK Z vn y ->aaK Z bz z ->x.length<=6 ->y.length<=6 ->z.length<=6 ->k7 V.length [x,y,z]=true ->Calls Tryz.prog 30 #[.slice b L.length cb,.slice bx x.length cx,.slice vn y.length cy,.slice bz z.length cz] Z fun e w'=>e=.returned (.tuple #[.bool (!B4 L x y z),.int .i64 0])/\Below Z.heap.size Z w'):=fun bx vn bz cx cy cz x y z Z hZ hx hy hz lx ly lz hap=>by
    refine(as3 b bx vn bz cb cx cy cz L x y z Z hZ.net.net.pars (fun l hl=>by have:=B8.few l hl;omega) hx hy hz (by omega) (by omega) (by omega)).ae fun e w' ⟨hb,hr⟩=>⟨?_,hb⟩;rcases hr with ⟨h,_⟩ |⟨_,h,_⟩ |⟨_,_,h⟩
    ·exact absurd (NU B8.ok) h
    ·rw[aM.len,hap] at h;cases h
    ·exact h
   have mC:Hid (∀x y z:List Int,k7 V.length [x,y,z]=true ->B4 L y x z=B4 L x y z/\(B4 L x y z=true ->x≠[]/\y≠[])/\(B4 L x y z=false ->∀fx fy fz:List (Nat×Nat),fx.map (·.1)=ag x ->fy.map (·.1)=ag y ->fz.map (·.1)=ag z ->(∀p∈fz,p.2<sz (ah V) p.1) ->AD V L R (fx++fy++fz)*AD V L R fz=AD V L R (fx++fz)*AD V L R (fy++fz))):=fun x y z hap=>by
    have hg:=NU B8.ok;(have h8:L.length<=8:=by rw[aM.len];exact aM.n8);rw[<- aM.len] at hap;exact⟨(ati hg h8 hap).symm,atj hg h8 hap,fun ho fx fy fz ex ey ez hz=>atk B8.ok hg h8 hap ho ex ey ez hz⟩
   have FK:Hid (∀(d:Option Addr) (cd:Nat) (l:List Int) (Z:World),aaK Z d l ->l.length<=512 ->(∀x∈l, -9223372036854775808<=x/\x<=9223372036854775807) ->Calls Tryz.prog 18 #[.slice d l.length cd,.int .i64 (V.length:Nat)] Z fun e w'=>∃d' zi U,e=.returned (.slice d' U.length zi)/\aaK w' d' U/\Up U V.length/\U.length<=6/\Below Z.heap.size Z w'):=fun d cd l Z hd hl hr=>(asf d cd V.length l Z hd hr (by omega) gh (by omega)).ae fun e w' ⟨x,U,h,hr,hu,hb⟩=>by
    obtain⟨d',zi,rfl,hi⟩:=hr.ints;exact⟨d',zi,U,h,hi,hu,aqD hu jV,hb⟩
   have zH:Hid (∀(d f:Option Addr) (cd cf:Nat) (l m:List Int) (Z:World),aaK Z d l ->aaK Z f m ->l.length<=6 ->m.length<=6 ->Calls Tryz.prog 20 #[.slice d l.length cd,.slice f m.length cf] Z fun e w'=>∃d' zi,e=.returned (.slice d' (eK l m).length zi)/\aaK w' d' (eK l m)/\(eK l m).length<=6/\Below Z.heap.size Z w'):=fun d f cd cf l m Z hd hf hl hm=>(ash d f cd cf l m Z hd hf (by omega) (by omega)).ae fun e w' ⟨x,h,hr,hb⟩=>by
    obtain⟨d',zi,rfl,hi⟩:=hr.ints;exact⟨d',zi,h,hi,aS (pR _ _) hl,hb⟩
   have yr:Hid (∀l,kW (ah V) V.length l ->qw (AD V L R l)<=8003):=fun l _=>SQ B8.ok (mi B8.ok) B8.lite l (ar _);clear B8 aM gh;refine(FK.o ax cx x _ (HX.o.aa HS.o.fr) lx HRX.o).ae ?_;rintro e W6 ⟨d1,k1,A1,rfl,i1,u1,m1,bD⟩;have LN:=hid (HS.o.step bD);clear HS bD;have pL:=hid i1;have U5:=hid u1;clear i1 u1;go_wp2_with fail
   refine(FK.o ay cy y _ (HY.o.aa LN.o.fr) ly HRY.o).ae ?_;rintro e W7 ⟨d2,k2,Y2,rfl,i2,u2,m2,bK⟩;have Iw:=hid (LN.o.step bK);have L0:=hid (pL.o.aa bK);have iU:=hid i2;have LH:=hid u2;clear LN bK pL i2 u2;go_wp2_with fail
   refine(zH.o d2 d1 k2 k1 Y2 A1 _ iU.o L0.o m2 m1).ae ?_;rintro e W8 ⟨d3,k3,rfl,i3,m3,jS⟩;have iQ:=hid (Iw.o.step jS);have pL:=hid (L0.o.aa jS);have Qk:=hid i3;clear Iw jS L0 i3 iU;go_wp2_with fail
   refine(FK.o az cz z _ (HZ.o.aa iQ.o.fr) lz J8.o).ae ?_;rintro e W9 ⟨d4,k4,Z4,rfl,i4,u4,m4,vu⟩;have pG:=hid (iQ.o.step vu);have L0:=hid (pL.o.aa vu);have agB:=hid (Qk.o.aa vu);have F4:=hid i4;have Du:=hid u4;clear iQ vu pL Qk i4 u4;go_wp2_with fail
   refine(zH.o d4 d1 k4 k1 Z4 A1 _ F4.o L0.o m4 m1).ae ?_;rintro e W10 ⟨d5,k5,rfl,i5,m5,apH⟩;have FM:=hid (pG.o.step apH);have pL:=hid (L0.o.aa apH);have Qk:=hid (agB.o.aa apH);have F3:=hid i5;clear pG apH L0 agB F4 i5;go_wp2_with fail
   refine(zH.o d5 d3 k5 k3 (eK Z4 A1) (eK Y2 A1) _ F3.o Qk.o m5 m3).ae ?_;rintro e W11 ⟨d6,k6,rfl,i6,m6,OG⟩;have Mx:=hid (atl U5.o LH.o Du.o);have BG:=hid (aox (M:=A1) LH.o);have HU6:=hid (aox (M:=eK Y2 A1) (aox (M:=A1) Du.o));have anq:=hid (FM.o.step OG);have L0:=hid (pL.o.aa OG);have agB:=hid (Qk.o.aa OG);have jG:=hid i6;clear FM OG pL Qk F3 i6 m5 Du LH FK zH;generalize eK (eK Z4 A1) (eK Y2 A1)=C6 at *;generalize eK Y2 A1=B3 at *;have zC:=hid (mC.o A1 B3 C6 Mx.o)
   have Qm:Hid (∀Z:World,TS w Z B a b c ca cb cc V L R ->aaK Z d1 A1 ->aaK Z d3 B3 ->aaK Z d6 C6 ->(Calls Tryz.prog 30 #[.slice b L.length cb,.slice d1 A1.length k1,.slice d3 B3.length k3,.slice d6 C6.length k6] Z fun e w'=>e=.returned (.tuple #[.bool (!B4 L A1 B3 C6),.int .i64 0])/\Below Z.heap.size Z w')/\Calls Tryz.prog 30 #[.slice b L.length cb,.slice d3 B3.length k3,.slice d1 A1.length k1,.slice d6 C6.length k6] Z fun e w'=>e=.returned (.tuple #[.bool (!B4 L A1 B3 C6),.int .i64 0])/\Below Z.heap.size Z w'):=fun Z hZ h1 h3 h6=>by
    refine⟨KH.o d1 d3 d6 k1 k3 k6 A1 B3 C6 Z hZ h1 h3 h6 m1 m3 m6 Mx.o,?_⟩;have h:=KH.o d3 d1 d6 k3 k1 k6 B3 A1 C6 Z hZ h3 h1 h6 m3 m1 m6 (arI Mx.o);rwa [zC.o.1] at h
   clear mC KH;generalize B4 L A1 B3 C6=o at *;obtain⟨b0,b1,b2⟩:=anq.o.box.cells;go_wp2_with fail
   refine(Qm.o _ anq.o L0.o agB.o jG.o).1.ae ?_;rintro e W12 ⟨rfl,kN⟩;have apQ:=hid (anq.o.step kN);have pL:=hid (L0.o.aa kN);have Qk:=hid (agB.o.aa kN);have aqr:=hid (jG.o.aa kN);clear b0 b1 b2 anq kN L0 agB jG;obtain⟨b0,b1,b2⟩:=apQ.o.box.cells;go_wp2_with fail
   refine(Qm.o _ apQ.o pL.o Qk.o aqr.o).2.ae ?_;rintro e W13 ⟨rfl,aoz⟩;have apo:=hid (apQ.o.step aoz);have L0:=hid (pL.o.aa aoz);have agB:=hid (Qk.o.aa aoz);have jG:=hid (aqr.o.aa aoz);clear b0 b1 b2 apQ aoz pL Qk aqr Qm;cases o with
   |true=>
    obtain⟨ha,hb⟩:=zC.o.2.1 rfl
    have ha':((A1.length:Int)==0)=false:=by
     have:=apt.2 ha;simp;exact ha
    have hb':((B3.length:Int)==0)=false:=by
     have:=apt.2 hb;simp;exact hb
    clear ha hb zC;go_wp2;go_ret;exact⟨rfl,apo.o.fr⟩
   |false=>
    have IL:=hid (zC.o.2.2 rfl);clear zC;obtain⟨b0,b1,b2⟩:=apo.o.box.cells;go_wp2_with fail
    clear b0 b1 b2;refine(WG.o d1 k1 A1 _ apo.o L0.o U5.o).ae ?_;rintro e RR ⟨x14,fa,rfl,Li,ea,va,KF⟩;obtain⟨pa,qa,rfl,ga,la,na⟩:=Li.facts;have SC:=hid ga;have KS:=hid ea;have HWa:=hid va;have HCa:=hid la;have Ea:=hid na;have apP:=hid (apo.o.step KF);replace agB:=hid (agB.o.aa KF);replace jG:=hid (jG.o.aa KF);clear apo KF Li ga ea va la na L0;obtain⟨b0,b1,b2⟩:=apP.o.box.cells;go_wp2_with fail
    clear b0 b1 b2;refine(WG.o d3 k3 B3 _ apP.o agB.o BG.o).ae ?_;rintro e W15 ⟨x15,fb,rfl,La,eb,vb,apG⟩;obtain⟨pb,qb,rfl,gb,lb,nb⟩:=La.facts;have PK:=hid gb;have KQ:=hid eb;have HWb:=hid vb;have HCb:=hid lb;have DT:=hid nb;have apO:=hid (apP.o.step apG);replace jG:=hid (jG.o.aa apG);replace SC:=hid (SC.o.aa apG);clear apP apG La gb eb vb lb nb agB;obtain⟨b0,b1,b2⟩:=apO.o.box.cells;go_wp2_with fail
    clear b0 b1 b2;refine(WG.o d6 k6 C6 _ apO.o jG.o HU6.o).ae ?_;rintro e x7 ⟨x16,fc,rfl,K0,ec,vc,OE⟩;obtain⟨pc,qc,rfl,gc,lc,nc⟩:=K0.facts;have z8:=hid gc;have KM:=hid ec;have TP:=hid vc;have HCc:=hid lc;have kP:=hid nc;have arQ:=hid (apO.o.step OE);replace SC:=hid (SC.o.aa OE);replace PK:=hid (PK.o.aa OE);clear apO OE K0 gc ec vc lc nc jG;(have jb:Hid ((zF fa).length<=6):=by show _<=_;rw[wu, <- c5 (f:=(·.1)),KS.o,cS];exact m1);(have lL:Hid ((zF fb).length<=6):=by show _<=_;rw[wu, <- c5 (f:=(·.1)),KQ.o,cS];exact m3);(have lj:Hid ((zF fc).length<=6):=by show _<=_;rw[wu, <- c5 (f:=(·.1)),KM.o,cS];exact m6);obtain⟨z1,z2,z3,z4⟩:=as5 Mx.o KS.o KQ.o KM.o HWa.o HWb.o TP.o;rw[rW] at z1;have F0:=hid z1;have oY:=hid z2;have nW:=hid z3;have HK4:=hid z4;have Hu:=IL.o fa fb fc KS.o KQ.o KM.o TP.o;rw[rW] at Hu;have VJ:=hid Hu;clear Hu;clear z1 z2 z3 z4 IL;have L9:=hid (dV.start x7);have B6:=hid ((au x7.heap.size x7).alloc (ar _) (.cells #[] 90))
    go_wp2_with (at_builtin;first
     |(refine ape rfl _ _ rfl x7.heap.size _ [] (zF fa) rfl L9.o pa qa rfl (SC.o.aa B6.o) Ea.o (by have:=jb.o;simp;omega) B6.o.size ?_;intro v17 W17 KX g17;have aqo:=hid KX;have apr:=hid (B6.o.grown g17 B6.o.size L9.o.own);clear KX g17)
     |(refine ape rfl _ _ rfl x7.heap.size _ (zF fa) (zF fb) rfl aqo.o pb qb rfl (PK.o.aa apr.o) DT.o (by have:=jb.o;have:=lL.o;omega) apr.o.size ?_;intro v18 W18 KW g18;have apR:=hid KW;have ao6:=hid (apr.o.grown g18 apr.o.size aqo.o.own);clear KW g18)
     |(refine ape rfl _ _ rfl x7.heap.size _ (zF fa++zF fb) (zF fc) rfl apR.o pc qc rfl (z8.o.aa ao6.o) kP.o (by have:=jb.o;have:=lL.o;have:=lj.o;rw[dM];omega) ao6.o.size ?_;intro v19 W19 Fp g19;rw[<- aou, <- aou,rW] at Fp;have arR:=hid Fp;have apN:=hid (arQ.o.step (ao6.o.grown g19 ao6.o.size apR.o.own));have apS:=hid (ao6.o.grown g19 ao6.o.size apR.o.own);obtain⟨p4,q4,rfl,h4,l4, -⟩:=arR.o.facts;have WC:=hid h4;have E0:=hid l4;obtain⟨b0,b1,b2⟩:=apN.o.box.cells;clear Fp g19 h4 l4))
    clear b0 b1 b2;refine(sX.o p4 q4 (fa++(fb++fc)) _ apN.o WC.o E0.o F0.o).ae ?_;rintro e vo ⟨rfl,apl⟩;replace SC:=hid ((SC.o.aa apS.o).aa apl);replace PK:=hid ((PK.o.aa apS.o).aa apl);replace z8:=hid ((z8.o.aa apS.o).aa apl);have arP:=hid (apN.o.step apl);have V7:=hid (yr.o _ F0.o);clear arQ apN apS apl WC E0 arR apR aqo apr ao6 L9 B6;have HMP:Hid (∀U:World,Calls Tryz.prog 26 #[dP (qF (AD V L R (fa++(fb++fc)))),dP (qF (AD V L R fc))] U fun e w'=>e=.returned (dP (qF (AD V L R (fa++(fb++fc))*AD V L R fc)))/\Below U.heap.size U w'):=fun U=>aq3 (yr.o _ F0.o) (yr.o _ HK4.o) U
    have HMQ:Hid (∀U:World,Calls Tryz.prog 26 #[dP (qF (AD V L R (fa++fc))),dP (qF (AD V L R (fb++fc)))] U fun e w'=>e=.returned (dP (qF (AD V L R (fa++(fb++fc))*AD V L R fc)))/\Below U.heap.size U w'):=fun U=>by
     rw[VJ.o];exact aq3 (yr.o _ oY.o) (yr.o _ nW.o) U
    have FP:=hid (fun d cd Z h1 h2 h3=>sX.o d cd (fa++fc) Z h1 h2 h3 oY.o);have apc:=hid (fun d cd Z h1 h2 h3=>sX.o d cd (fb++fc) Z h1 h2 h3 nW.o);have arS:=hid (fun d cd Z h1 h2 h3=>sX.o d cd fc Z h1 h2 h3 HK4.o);clear yr V7 VJ F0 oY nW HK4 sX WG Mx;generalize qF (AD V L R (fa++(fb++fc))*AD V L R fc)=mm at *;generalize qF (AD V L R (fa++(fb++fc)))=tp at *;generalize qF (AD V L R (fa++fc))=tq at *;generalize qF (AD V L R (fb++fc))=tr at *;generalize qF (AD V L R fc)=ts at *;obtain⟨mn,mx,my⟩:=mm;obtain⟨pn,px,py⟩:=tp;obtain⟨qn,qx,qy⟩:=tq;obtain⟨rn,rx,ry⟩:=tr;obtain⟨sn,sx,sy⟩:=ts;have Ag:Below vo.heap.size vo (vo.alloc (FC pn px py)):=(au _ vo).alloc (ar _) _;have z7:=hid (aC.new vo pn px py);have aoF:=hid (arP.o.step Ag);replace SC:=hid (SC.o.aa Ag);replace PK:=hid (PK.o.aa Ag);replace z8:=hid (z8.o.aa Ag);clear Ag arP;go_upto_region 21 with fail
    generalize gj:vo.heap.size=gp at *;generalize (vo.alloc (FC pn px py))=oq at *;clear gj;refine aqH (fun a0 e a' w'=>e=.normal/\∃(g:Nat) (u1 u2 u3:Value),a'=((((((((((((a0.put (some 129) (.agg #[.slice a V.length ca,.slice b L.length cb,.slice c R.length cc])).put (some 130) u1).put (some 131) (.slice pa (zF fa).length qa)).put (some 132) u2).put (some 133) (.slice pc (zF fc).length qc)).put (some 134) u3).put (some 135) (.tuple #[.agg #[.bool qn,.string qx,.string qy],.int .i64 0])).put (some 128) (.tuple #[.agg #[.bool qn,.string qx,.string qy],.int .i64 0])).put (some 136) (.agg #[.bool qn,.string qx,.string qy])).put (some 137) (.int .i64 0)).put (some 24) (.pointer (some ⟨g,0,none⟩))).put (some 25) (.int .i64 0))/\aC w' g qn qx qy/\oq.heap.size<=g/\Below oq.heap.size oq w') ?_ ?_
    ·have dT:Hid (∀U:World,Below oq.heap.size oq U ->U.cell? ⟨B,0,none⟩=some (.slice a V.length ca)/\U.cell? ⟨B,1,none⟩=some (.slice b L.length cb)/\U.cell? ⟨B,2,none⟩=some (.slice c R.length cc)):=fun U hU=>(aoF.o.step hU).box.cells;have aG:Hid (Below oq.heap.size oq oq.drew):=(au oq.heap.size oq).drew;obtain⟨Y0,cj⟩:∃x,oq.drew=x:=⟨_,rfl⟩;rw[cj] at aG;refine jJ (S:=fun U=>U.cell? ⟨B,0,none⟩=some (.slice a V.length ca)/\U.cell? ⟨B,1,none⟩=some (.slice b L.length cb)/\U.cell? ⟨B,2,none⟩=some (.slice c R.length cc)) (by kernel_rfl) (by rw[cj];exact dT.o _ aG.o) (fun aq=>?_);rw[cj] at aq⊢;clear cj;refine aw 0 (.agg #[.slice a V.length ca,.slice b L.length cb,.slice c R.length cc]) ?_;refine aw 2 (.slice pa (zF fa).length qa) ?_;refine aw 4 (.slice pc (zF fc).length qc) ?_;refine aF [1,10] (cA ?_ (cA ?_ aD))
     ·intro K' hK';go_simp;have aN:=(au Y0.heap.size Y0).alloc (ar _) (.cells #[] 90);have HO:=hid ((dV.start Y0).lower aG.o.size);replace aG:=hid (aG.o.trans (aN.ae aG.o.size));refine hK'.o _ _ (dT.o _ aG.o) (fun ak=>?_);clear aN;clear hK' K' aq;have aq:=ak;clear ak;obtain⟨uJ,aoL⟩:∃x,Y0.heap.size=x:=⟨_,rfl⟩;obtain⟨Y2,ux⟩:∃x,Y0.alloc (.cells #[] 90)=x:=⟨_,rfl⟩;rw[aoL] at HO;rw[ux] at HO aG;simp only[ux] at aq⊢;simp only[aoL];clear aoL ux;refine aF [3,10] (cA ?_ (cA ?_ aD))
      ·intro K' hK';rw[aaf (by rfl)];refine Ga _ _ rfl oq.heap.size (Value.slice (some ⟨uJ,0,none⟩) 0 0) [] (zF fa) rfl HO.o pa qa rfl (SC.o.aa aG.o) Ea.o (by have:=jb.o;simp;omega) aG.o.size ?_;intro v4 Y3 ho hg hn;replace aG:=hid (aG.o.grown hg aG.o.size HO.o.own);clear HO hg hn;have HO:=hid ho;clear ho;refine hK'.o _ _ (dT.o _ aG.o) (fun ak=>?_);clear hK' K' aq;have aq:=ak;clear ak;refine aF [5,10] (cA ?_ (cA ?_ aD))
       ·intro K' hK';rw[aaf (by rfl)];refine Ga _ _ rfl oq.heap.size v4 (zF fa) (zF fc) rfl HO.o pc qc rfl (z8.o.aa aG.o) kP.o (by have:=jb.o;have:=lj.o;omega) aG.o.size ?_;intro v6 Y5 ho hg hn;replace aG:=hid (aG.o.grown hg aG.o.size HO.o.own);clear HO hg hn;rw[<- aou] at ho;obtain⟨p3,q3,rfl,hf3,hl3, -⟩:=ho.facts;have Mp:=hid hf3;have Me:=hid hl3;clear ho hf3 hl3;refine hK'.o _ _ (dT.o _ aG.o) (fun ak=>?_);clear hK' K' aq;have aq:=ak;clear ak;refine aF [6,10] (cA ?_ (cA ?_ aD))
        ·intro K' hK';go_simp;refine(FP.o p3 q3 Y5 (aoF.o.step aG.o) Mp.o Me.o).ae ?_;rintro e Y7 ⟨rfl,hb⟩;replace aG:=hid (aG.o.trans (hb.ae aG.o.size));clear hb Mp Me;refine hK'.o _ _ (dT.o _ aG.o) (fun ak=>?_);clear hK' K' aq;have aq:=ak;clear ak;refine aw 7 (.tuple #[.agg #[.bool qn,.string qx,.string qy],.int .i64 0]) ?_;refine aw 8 (.agg #[.bool qn,.string qx,.string qy]) ?_;refine aw 9 (.int .i64 0) ?_;refine aF [10] (cA ?_ aD)
         ·intro K' hK';go_simp;have aN:=(au Y7.heap.size Y7).alloc (ar _) (FC false ⟨#[]⟩ ⟨#[]⟩);have zq:=hid (aC.new Y7 false ⟨#[]⟩ ⟨#[]⟩);have dL:oq.heap.size<=Y7.heap.size:=aG.o.size;replace aG:=hid (aG.o.trans (aN.ae aG.o.size));refine hK'.o _ _ (dT.o _ aG.o) (fun ak=>?_);clear aN;clear hK' K' aq;have aq:=ak;clear ak;obtain⟨Ii,aoM⟩:∃x,Y7.heap.size=x:=⟨_,rfl⟩;obtain⟨Y9,uj⟩:∃x,Y7.alloc (FC false ⟨#[]⟩ ⟨#[]⟩)=x:=⟨_,rfl⟩;have aoR:Y7.alloc (.cells #[.bool false,.string ⟨#[]⟩,.string ⟨#[]⟩] 32)=Y9:=uj;rw[aoM] at zq dL;rw[uj] at aG;rw[aoR] at zq;simp only[aoR] at aq⊢;simp only[aoM];clear aoM uj aoR;(try simp only[gE,aP]);obtain⟨x0,x1,x2⟩:=zq.o.facts;have f0:=zq.o.fz 0;have f1:=zq.o.fz 1;have f2:=zq.o.fz 2;refine aF [11] (cA ?_ aD)
          ·intro K' hK';go_simp;have nS:=hid (zq.o.put qn qx qy);have sT:=hid (bF aG.o dL (.bool qn) (.string qx) (.string qy));refine hK'.o _ _ (dT.o _ sT.o) (fun ak=>?_);clear x0 x1 x2 f0 f1 f2 zq aG;clear hK' K' aq;have aq:=ak;clear ak;refine aw 12 (.int .i64 0) ?_;(try simp only[gE,aP]);refine dW (by kernel_rfl) ?_ _;exact⟨rfl,Ii,_,_,_,rfl,nS.o,dL,sT.o⟩
        ·intro K' hK';go_simp;have aN:=(au Y5.heap.size Y5).alloc (ar _) (FC false ⟨#[]⟩ ⟨#[]⟩);have zq:=hid (aC.new Y5 false ⟨#[]⟩ ⟨#[]⟩);have dL:oq.heap.size<=Y5.heap.size:=aG.o.size;replace Mp:=hid (Mp.o.aa aN);replace aG:=hid (aG.o.trans (aN.ae aG.o.size));refine hK'.o _ _ (dT.o _ aG.o) (fun ak=>?_);clear aN;clear hK' K' aq;have aq:=ak;clear ak;obtain⟨aqd,aoQ⟩:∃x,Y5.heap.size=x:=⟨_,rfl⟩;obtain⟨AG,ao0⟩:∃x,Y5.alloc (FC false ⟨#[]⟩ ⟨#[]⟩)=x:=⟨_,rfl⟩;have aoZ:Y5.alloc (.cells #[.bool false,.string ⟨#[]⟩,.string ⟨#[]⟩] 32)=AG:=ao0;rw[aoQ] at zq dL;rw[ao0] at aG Mp;rw[aoZ] at zq;simp only[aoZ] at aq⊢;simp only[aoQ];clear aoQ ao0 aoZ;refine aF [6] (cA ?_ aD)
         ·intro K' hK';go_simp;refine(FP.o p3 q3 AG (aoF.o.step aG.o) Mp.o Me.o).ae ?_;rintro e Y12 ⟨rfl,hb⟩;replace zq:=hid (zq.o.aa hb zq.o.lt);replace aG:=hid (aG.o.trans (hb.ae aG.o.size));clear hb Mp Me;refine hK'.o _ _ (dT.o _ aG.o) (fun ak=>?_);clear hK' K' aq;have aq:=ak;clear ak;refine aw 7 (.tuple #[.agg #[.bool qn,.string qx,.string qy],.int .i64 0]) ?_;refine aw 8 (.agg #[.bool qn,.string qx,.string qy]) ?_;refine aw 9 (.int .i64 0) ?_;(try simp only[gE,aP]);obtain⟨x0,x1,x2⟩:=zq.o.facts;have f0:=zq.o.fz 0;have f1:=zq.o.fz 1;have f2:=zq.o.fz 2;refine aF [11] (cA ?_ aD)
          ·intro K' hK';go_simp;have nS:=hid (zq.o.put qn qx qy);have sT:=hid (bF aG.o dL (.bool qn) (.string qx) (.string qy));refine hK'.o _ _ (dT.o _ sT.o) (fun ak=>?_);clear x0 x1 x2 f0 f1 f2 zq aG;clear hK' K' aq;have aq:=ak;clear ak;refine aw 12 (.int .i64 0) ?_;(try simp only[gE,aP]);refine dW (by kernel_rfl) ?_ _;exact⟨rfl,aqd,_,_,_,rfl,nS.o,dL,sT.o⟩
       ·intro K' hK';go_simp;have aN:=(au Y3.heap.size Y3).alloc (ar _) (FC false ⟨#[]⟩ ⟨#[]⟩);have zq:=hid (aC.new Y3 false ⟨#[]⟩ ⟨#[]⟩);have dL:oq.heap.size<=Y3.heap.size:=aG.o.size;(have oX:Hid (∀k,v4.ownBlock=some k ->k≠Y3.heap.size):=fun k e=>by have:=HO.o.lt k e;omega);replace HO:=hid (HO.o.aa aN);replace aG:=hid (aG.o.trans (aN.ae aG.o.size));refine hK'.o _ _ (dT.o _ aG.o) (fun ak=>?_);clear aN;clear hK' K' aq;have aq:=ak;clear ak;obtain⟨ao2,aoP⟩:∃x,Y3.heap.size=x:=⟨_,rfl⟩;obtain⟨Ja,aoY⟩:∃x,Y3.alloc (FC false ⟨#[]⟩ ⟨#[]⟩)=x:=⟨_,rfl⟩;have aoX:Y3.alloc (.cells #[.bool false,.string ⟨#[]⟩,.string ⟨#[]⟩] 32)=Ja:=aoY;rw[aoP] at zq dL oX;rw[aoY] at aG HO;rw[aoX] at zq;simp only[aoX] at aq⊢;simp only[aoP];clear aoP aoY aoX;refine aF [5] (cA ?_ aD)
        ·intro K' hK';rw[aaf (by rfl)];refine Ga _ _ rfl oq.heap.size v4 (zF fa) (zF fc) rfl HO.o pc qc rfl (z8.o.aa aG.o) kP.o (by have:=jb.o;have:=lj.o;omega) aG.o.size ?_;intro v16 I0 ho hg hn;replace zq:=hid (zq.o.of_block (hg.block ao2 zq.o.lt (fun e=>oX.o ao2 e.symm rfl)));clear oX;replace aG:=hid (aG.o.grown hg aG.o.size HO.o.own);clear HO hg hn;rw[<- aou] at ho;obtain⟨p3,q3,rfl,hf3,hl3, -⟩:=ho.facts;have Mp:=hid hf3;have Me:=hid hl3;clear ho hf3 hl3;refine hK'.o _ _ (dT.o _ aG.o) (fun ak=>?_);clear hK' K' aq;have aq:=ak;clear ak;refine aF [6] (cA ?_ aD)
         ·intro K' hK';go_simp;refine(FP.o p3 q3 I0 (aoF.o.step aG.o) Mp.o Me.o).ae ?_;rintro e Y17 ⟨rfl,hb⟩;replace zq:=hid (zq.o.aa hb zq.o.lt);replace aG:=hid (aG.o.trans (hb.ae aG.o.size));clear hb Mp Me;refine hK'.o _ _ (dT.o _ aG.o) (fun ak=>?_);clear hK' K' aq;have aq:=ak;clear ak;refine aw 7 (.tuple #[.agg #[.bool qn,.string qx,.string qy],.int .i64 0]) ?_;refine aw 8 (.agg #[.bool qn,.string qx,.string qy]) ?_;refine aw 9 (.int .i64 0) ?_;(try simp only[gE,aP]);obtain⟨x0,x1,x2⟩:=zq.o.facts;have f0:=zq.o.fz 0;have f1:=zq.o.fz 1;have f2:=zq.o.fz 2;refine aF [11] (cA ?_ aD)
          ·intro K' hK';go_simp;have nS:=hid (zq.o.put qn qx qy);have sT:=hid (bF aG.o dL (.bool qn) (.string qx) (.string qy));refine hK'.o _ _ (dT.o _ sT.o) (fun ak=>?_);clear x0 x1 x2 f0 f1 f2 zq aG;clear hK' K' aq;have aq:=ak;clear ak;refine aw 12 (.int .i64 0) ?_;(try simp only[gE,aP]);refine dW (by kernel_rfl) ?_ _;exact⟨rfl,ao2,_,_,_,rfl,nS.o,dL,sT.o⟩
      ·intro K' hK';go_simp;have aN:=(au Y2.heap.size Y2).alloc (ar _) (FC false ⟨#[]⟩ ⟨#[]⟩);have zq:=hid (aC.new Y2 false ⟨#[]⟩ ⟨#[]⟩);have dL:oq.heap.size<=Y2.heap.size:=aG.o.size;(have oX:Hid (∀k,(Value.slice (some ⟨uJ,0,none⟩) 0 0).ownBlock=some k ->k≠Y2.heap.size):=fun k e=>by have:=HO.o.lt k e;omega);replace HO:=hid (HO.o.aa aN);replace aG:=hid (aG.o.trans (aN.ae aG.o.size));refine hK'.o _ _ (dT.o _ aG.o) (fun ak=>?_);clear aN;clear hK' K' aq;have aq:=ak;clear ak;obtain⟨MT,aoO⟩:∃x,Y2.heap.size=x:=⟨_,rfl⟩;obtain⟨IZ,aoW⟩:∃x,Y2.alloc (FC false ⟨#[]⟩ ⟨#[]⟩)=x:=⟨_,rfl⟩;have aoV:Y2.alloc (.cells #[.bool false,.string ⟨#[]⟩,.string ⟨#[]⟩] 32)=IZ:=aoW;rw[aoO] at zq dL oX;rw[aoW] at aG HO;rw[aoV] at zq;simp only[aoV] at aq⊢;simp only[aoO];clear aoO aoW aoV;refine aF [3] (cA ?_ aD)
       ·intro K' hK';rw[aaf (by rfl)];refine Ga _ _ rfl oq.heap.size (Value.slice (some ⟨uJ,0,none⟩) 0 0) [] (zF fa) rfl HO.o pa qa rfl (SC.o.aa aG.o) Ea.o (by have:=jb.o;simp;omega) aG.o.size ?_;intro v21 Y20 ho hg hn
        have Wi:Hid (∀k,v21.ownBlock=some k ->k≠MT):=fun k e=>by
         rcases hn with hn |hn
         ·exact oX.o k (by rw[<- hn];exact e)
         ·have:=hn k e;have:=zq.o.lt;omega
        replace zq:=hid (zq.o.of_block (hg.block MT zq.o.lt (fun e=>oX.o MT e.symm rfl)));clear oX;have oX:=Wi;clear Wi;replace aG:=hid (aG.o.grown hg aG.o.size HO.o.own);clear HO hg hn;have HO:=hid ho;clear ho;refine hK'.o _ _ (dT.o _ aG.o) (fun ak=>?_);clear hK' K' aq;have aq:=ak;clear ak;refine aF [5] (cA ?_ aD)
        ·intro K' hK';rw[aaf (by rfl)];refine Ga _ _ rfl oq.heap.size v21 (zF fa) (zF fc) rfl HO.o pc qc rfl (z8.o.aa aG.o) kP.o (by have:=jb.o;have:=lj.o;omega) aG.o.size ?_;intro v23 IQ ho hg hn;replace zq:=hid (zq.o.of_block (hg.block MT zq.o.lt (fun e=>oX.o MT e.symm rfl)));clear oX;replace aG:=hid (aG.o.grown hg aG.o.size HO.o.own);clear HO hg hn;rw[<- aou] at ho;obtain⟨p3,q3,rfl,hf3,hl3, -⟩:=ho.facts;have Mp:=hid hf3;have Me:=hid hl3;clear ho hf3 hl3;refine hK'.o _ _ (dT.o _ aG.o) (fun ak=>?_);clear hK' K' aq;have aq:=ak;clear ak;refine aF [6] (cA ?_ aD)
         ·intro K' hK';go_simp;refine(FP.o p3 q3 IQ (aoF.o.step aG.o) Mp.o Me.o).ae ?_;rintro e Y24 ⟨rfl,hb⟩;replace zq:=hid (zq.o.aa hb zq.o.lt);replace aG:=hid (aG.o.trans (hb.ae aG.o.size));clear hb Mp Me;refine hK'.o _ _ (dT.o _ aG.o) (fun ak=>?_);clear hK' K' aq;have aq:=ak;clear ak;refine aw 7 (.tuple #[.agg #[.bool qn,.string qx,.string qy],.int .i64 0]) ?_;refine aw 8 (.agg #[.bool qn,.string qx,.string qy]) ?_;refine aw 9 (.int .i64 0) ?_;(try simp only[gE,aP]);obtain⟨x0,x1,x2⟩:=zq.o.facts;have f0:=zq.o.fz 0;have f1:=zq.o.fz 1;have f2:=zq.o.fz 2;refine aF [11] (cA ?_ aD)
          ·intro K' hK';go_simp;have nS:=hid (zq.o.put qn qx qy);have sT:=hid (bF aG.o dL (.bool qn) (.string qx) (.string qy));refine hK'.o _ _ (dT.o _ sT.o) (fun ak=>?_);clear x0 x1 x2 f0 f1 f2 zq aG;clear hK' K' aq;have aq:=ak;clear ak;refine aw 12 (.int .i64 0) ?_;(try simp only[gE,aP]);refine dW (by kernel_rfl) ?_ _;exact⟨rfl,MT,_,_,_,rfl,nS.o,dL,sT.o⟩
     ·intro K' hK';go_simp;have aN:=(au Y0.heap.size Y0).alloc (ar _) (FC false ⟨#[]⟩ ⟨#[]⟩);have zq:=hid (aC.new Y0 false ⟨#[]⟩ ⟨#[]⟩);have dL:oq.heap.size<=Y0.heap.size:=aG.o.size;replace aG:=hid (aG.o.trans (aN.ae aG.o.size));refine hK'.o _ _ (dT.o _ aG.o) (fun ak=>?_);clear aN;clear hK' K' aq;have aq:=ak;clear ak;obtain⟨D6,aoN⟩:∃x,Y0.heap.size=x:=⟨_,rfl⟩;obtain⟨FE,aoU⟩:∃x,Y0.alloc (FC false ⟨#[]⟩ ⟨#[]⟩)=x:=⟨_,rfl⟩;have aoT:Y0.alloc (.cells #[.bool false,.string ⟨#[]⟩,.string ⟨#[]⟩] 32)=FE:=aoU;rw[aoN] at zq dL;rw[aoU] at aG;rw[aoT] at zq;simp only[aoT] at aq⊢;simp only[aoN];clear aoN aoU aoT;refine aF [1] (cA ?_ aD)
      ·intro K' hK';go_simp;have aN:=(au FE.heap.size FE).alloc (ar _) (.cells #[] 90);have HO:=hid ((dV.start FE).lower aG.o.size);(have oX:Hid (∀k,(Value.slice (some ⟨FE.heap.size,0,none⟩) 0 0).ownBlock=some k ->k≠D6):=fun k e=>by cases e;exact Nat.ne_of_gt zq.o.lt);replace zq:=hid (zq.o.aa aN zq.o.lt);replace aG:=hid (aG.o.trans (aN.ae aG.o.size));refine hK'.o _ _ (dT.o _ aG.o) (fun ak=>?_);clear aN;clear hK' K' aq;have aq:=ak;clear ak;obtain⟨aqc,aoK⟩:∃x,FE.heap.size=x:=⟨_,rfl⟩;obtain⟨Y28,aoS⟩:∃x,FE.alloc (.cells #[] 90)=x:=⟨_,rfl⟩;rw[aoK] at HO oX;rw[aoS] at HO aG zq;simp only[aoS] at aq⊢;simp only[aoK];clear aoK aoS;refine aF [3] (cA ?_ aD)
       ·intro K' hK';rw[aaf (by rfl)];refine Ga _ _ rfl oq.heap.size (Value.slice (some ⟨aqc,0,none⟩) 0 0) [] (zF fa) rfl HO.o pa qa rfl (SC.o.aa aG.o) Ea.o (by have:=jb.o;simp;omega) aG.o.size ?_;intro v30 Y29 ho hg hn
        have Wi:Hid (∀k,v30.ownBlock=some k ->k≠D6):=fun k e=>by
         rcases hn with hn |hn
         ·exact oX.o k (by rw[<- hn];exact e)
         ·have:=hn k e;have:=zq.o.lt;omega
        replace zq:=hid (zq.o.of_block (hg.block D6 zq.o.lt (fun e=>oX.o D6 e.symm rfl)));clear oX;have oX:=Wi;clear Wi;replace aG:=hid (aG.o.grown hg aG.o.size HO.o.own);clear HO hg hn;have HO:=hid ho;clear ho;refine hK'.o _ _ (dT.o _ aG.o) (fun ak=>?_);clear hK' K' aq;have aq:=ak;clear ak;refine aF [5] (cA ?_ aD)
        ·intro K' hK';rw[aaf (by rfl)];refine Ga _ _ rfl oq.heap.size v30 (zF fa) (zF fc) rfl HO.o pc qc rfl (z8.o.aa aG.o) kP.o (by have:=jb.o;have:=lj.o;omega) aG.o.size ?_;intro v32 Il ho hg hn;replace zq:=hid (zq.o.of_block (hg.block D6 zq.o.lt (fun e=>oX.o D6 e.symm rfl)));clear oX;replace aG:=hid (aG.o.grown hg aG.o.size HO.o.own);clear HO hg hn;rw[<- aou] at ho;obtain⟨p3,q3,rfl,hf3,hl3, -⟩:=ho.facts;have Mp:=hid hf3;have Me:=hid hl3;clear ho hf3 hl3;refine hK'.o _ _ (dT.o _ aG.o) (fun ak=>?_);clear hK' K' aq;have aq:=ak;clear ak;refine aF [6] (cA ?_ aD)
         ·intro K' hK';go_simp;refine(FP.o p3 q3 Il (aoF.o.step aG.o) Mp.o Me.o).ae ?_;rintro e Y33 ⟨rfl,hb⟩;replace zq:=hid (zq.o.aa hb zq.o.lt);replace aG:=hid (aG.o.trans (hb.ae aG.o.size));clear hb Mp Me;refine hK'.o _ _ (dT.o _ aG.o) (fun ak=>?_);clear hK' K' aq;have aq:=ak;clear ak;refine aw 7 (.tuple #[.agg #[.bool qn,.string qx,.string qy],.int .i64 0]) ?_;refine aw 8 (.agg #[.bool qn,.string qx,.string qy]) ?_;refine aw 9 (.int .i64 0) ?_;(try simp only[gE,aP]);obtain⟨x0,x1,x2⟩:=zq.o.facts;have f0:=zq.o.fz 0;have f1:=zq.o.fz 1;have f2:=zq.o.fz 2;refine aF [11] (cA ?_ aD)
          ·intro K' hK';go_simp;have nS:=hid (zq.o.put qn qx qy);have sT:=hid (bF aG.o dL (.bool qn) (.string qx) (.string qy));refine hK'.o _ _ (dT.o _ sT.o) (fun ak=>?_);clear x0 x1 x2 f0 f1 f2 zq aG;clear hK' K' aq;have aq:=ak;clear ak;refine aw 12 (.int .i64 0) ?_;(try simp only[gE,aP]);refine dW (by kernel_rfl) ?_ _;exact⟨rfl,D6,_,_,_,rfl,nS.o,dL,sT.o⟩
    rintro e a' l7 ⟨rfl,gq,u1,u2,u3,rfl,xq,lq,hb⟩;have aoE:=hid (aoF.o.step hb);replace z7:=hid (z7.o.aa hb z7.o.lt);have gM:=hid xq;replace PK:=hid (PK.o.aa hb);replace z8:=hid (z8.o.aa hb);clear hb xq lq aoF SC FP;(try simp only[aP]);go_upto_region 22 with fail
    refine aqH (fun a0 e a' w'=>e=.normal/\∃(g:Nat) (u1 u2 u3:Value),a'=((((((((((((a0.put (some 139) (.agg #[.slice a V.length ca,.slice b L.length cb,.slice c R.length cc])).put (some 140) u1).put (some 141) (.slice pb (zF fb).length qb)).put (some 142) u2).put (some 143) (.slice pc (zF fc).length qc)).put (some 144) u3).put (some 145) (.tuple #[.agg #[.bool rn,.string rx,.string ry],.int .i64 0])).put (some 138) (.tuple #[.agg #[.bool rn,.string rx,.string ry],.int .i64 0])).put (some 146) (.agg #[.bool rn,.string rx,.string ry])).put (some 147) (.int .i64 0)).put (some 26) (.pointer (some ⟨g,0,none⟩))).put (some 27) (.int .i64 0))/\aC w' g rn rx ry/\l7.heap.size<=g/\Below l7.heap.size l7 w') ?_ ?_
    ·have dT:Hid (∀U:World,Below l7.heap.size l7 U ->U.cell? ⟨B,0,none⟩=some (.slice a V.length ca)/\U.cell? ⟨B,1,none⟩=some (.slice b L.length cb)/\U.cell? ⟨B,2,none⟩=some (.slice c R.length cc)):=fun U hU=>(aoE.o.step hU).box.cells;have aG:Hid (Below l7.heap.size l7 l7.drew):=(au l7.heap.size l7).drew;obtain⟨Y0,cj⟩:∃x,l7.drew=x:=⟨_,rfl⟩;rw[cj] at aG;refine jJ (S:=fun U=>U.cell? ⟨B,0,none⟩=some (.slice a V.length ca)/\U.cell? ⟨B,1,none⟩=some (.slice b L.length cb)/\U.cell? ⟨B,2,none⟩=some (.slice c R.length cc)) (by kernel_rfl) (by rw[cj];exact dT.o _ aG.o) (fun aq=>?_);rw[cj] at aq⊢;clear cj;refine aw 0 (.agg #[.slice a V.length ca,.slice b L.length cb,.slice c R.length cc]) ?_;refine aw 2 (.slice pb (zF fb).length qb) ?_;refine aw 4 (.slice pc (zF fc).length qc) ?_;refine aF [1,10] (cA ?_ (cA ?_ aD))
     ·intro K' hK';go_simp;have aN:=(au Y0.heap.size Y0).alloc (ar _) (.cells #[] 90);have HO:=hid ((dV.start Y0).lower aG.o.size);replace aG:=hid (aG.o.trans (aN.ae aG.o.size));refine hK'.o _ _ (dT.o _ aG.o) (fun ak=>?_);clear aN;clear hK' K' aq;have aq:=ak;clear ak;obtain⟨uJ,aoL⟩:∃x,Y0.heap.size=x:=⟨_,rfl⟩;obtain⟨Y2,ux⟩:∃x,Y0.alloc (.cells #[] 90)=x:=⟨_,rfl⟩;rw[aoL] at HO;rw[ux] at HO aG;simp only[ux] at aq⊢;simp only[aoL];clear aoL ux;refine aF [3,10] (cA ?_ (cA ?_ aD))
      ·intro K' hK';rw[aaf (by rfl)];refine Ga _ _ rfl l7.heap.size (Value.slice (some ⟨uJ,0,none⟩) 0 0) [] (zF fb) rfl HO.o pb qb rfl (PK.o.aa aG.o) DT.o (by have:=lL.o;simp;omega) aG.o.size ?_;intro v4 Y3 ho hg hn;replace aG:=hid (aG.o.grown hg aG.o.size HO.o.own);clear HO hg hn;have HO:=hid ho;clear ho;refine hK'.o _ _ (dT.o _ aG.o) (fun ak=>?_);clear hK' K' aq;have aq:=ak;clear ak;refine aF [5,10] (cA ?_ (cA ?_ aD))
       ·intro K' hK';rw[aaf (by rfl)];refine Ga _ _ rfl l7.heap.size v4 (zF fb) (zF fc) rfl HO.o pc qc rfl (z8.o.aa aG.o) kP.o (by have:=lL.o;have:=lj.o;omega) aG.o.size ?_;intro v6 Y5 ho hg hn;replace aG:=hid (aG.o.grown hg aG.o.size HO.o.own);clear HO hg hn;rw[<- aou] at ho;obtain⟨p3,q3,rfl,hf3,hl3, -⟩:=ho.facts;have Mp:=hid hf3;have Me:=hid hl3;clear ho hf3 hl3;refine hK'.o _ _ (dT.o _ aG.o) (fun ak=>?_);clear hK' K' aq;have aq:=ak;clear ak;refine aF [6,10] (cA ?_ (cA ?_ aD))
        ·intro K' hK';go_simp;refine(apc.o p3 q3 Y5 (aoE.o.step aG.o) Mp.o Me.o).ae ?_;rintro e Y7 ⟨rfl,hb⟩;replace aG:=hid (aG.o.trans (hb.ae aG.o.size));clear hb Mp Me;refine hK'.o _ _ (dT.o _ aG.o) (fun ak=>?_);clear hK' K' aq;have aq:=ak;clear ak;refine aw 7 (.tuple #[.agg #[.bool rn,.string rx,.string ry],.int .i64 0]) ?_;refine aw 8 (.agg #[.bool rn,.string rx,.string ry]) ?_;refine aw 9 (.int .i64 0) ?_;refine aF [10] (cA ?_ aD)
         ·intro K' hK';go_simp;have aN:=(au Y7.heap.size Y7).alloc (ar _) (FC false ⟨#[]⟩ ⟨#[]⟩);have zq:=hid (aC.new Y7 false ⟨#[]⟩ ⟨#[]⟩);have dL:l7.heap.size<=Y7.heap.size:=aG.o.size;replace aG:=hid (aG.o.trans (aN.ae aG.o.size));refine hK'.o _ _ (dT.o _ aG.o) (fun ak=>?_);clear aN;clear hK' K' aq;have aq:=ak;clear ak;obtain⟨Ii,aoM⟩:∃x,Y7.heap.size=x:=⟨_,rfl⟩;obtain⟨Y9,uj⟩:∃x,Y7.alloc (FC false ⟨#[]⟩ ⟨#[]⟩)=x:=⟨_,rfl⟩;have aoR:Y7.alloc (.cells #[.bool false,.string ⟨#[]⟩,.string ⟨#[]⟩] 32)=Y9:=uj;rw[aoM] at zq dL;rw[uj] at aG;rw[aoR] at zq;simp only[aoR] at aq⊢;simp only[aoM];clear aoM uj aoR;(try simp only[gE,aP]);obtain⟨x0,x1,x2⟩:=zq.o.facts;have f0:=zq.o.fz 0;have f1:=zq.o.fz 1;have f2:=zq.o.fz 2;refine aF [11] (cA ?_ aD)
          ·intro K' hK';go_simp;have nS:=hid (zq.o.put rn rx ry);have sT:=hid (bF aG.o dL (.bool rn) (.string rx) (.string ry));refine hK'.o _ _ (dT.o _ sT.o) (fun ak=>?_);clear x0 x1 x2 f0 f1 f2 zq aG;clear hK' K' aq;have aq:=ak;clear ak;refine aw 12 (.int .i64 0) ?_;(try simp only[gE,aP]);refine dW (by kernel_rfl) ?_ _;exact⟨rfl,Ii,_,_,_,rfl,nS.o,dL,sT.o⟩
        ·intro K' hK';go_simp;have aN:=(au Y5.heap.size Y5).alloc (ar _) (FC false ⟨#[]⟩ ⟨#[]⟩);have zq:=hid (aC.new Y5 false ⟨#[]⟩ ⟨#[]⟩);have dL:l7.heap.size<=Y5.heap.size:=aG.o.size;replace Mp:=hid (Mp.o.aa aN);replace aG:=hid (aG.o.trans (aN.ae aG.o.size));refine hK'.o _ _ (dT.o _ aG.o) (fun ak=>?_);clear aN;clear hK' K' aq;have aq:=ak;clear ak;obtain⟨aqd,aoQ⟩:∃x,Y5.heap.size=x:=⟨_,rfl⟩;obtain⟨AG,ao0⟩:∃x,Y5.alloc (FC false ⟨#[]⟩ ⟨#[]⟩)=x:=⟨_,rfl⟩;have aoZ:Y5.alloc (.cells #[.bool false,.string ⟨#[]⟩,.string ⟨#[]⟩] 32)=AG:=ao0;rw[aoQ] at zq dL;rw[ao0] at aG Mp;rw[aoZ] at zq;simp only[aoZ] at aq⊢;simp only[aoQ];clear aoQ ao0 aoZ;refine aF [6] (cA ?_ aD)
         ·intro K' hK';go_simp;refine(apc.o p3 q3 AG (aoE.o.step aG.o) Mp.o Me.o).ae ?_;rintro e Y12 ⟨rfl,hb⟩;replace zq:=hid (zq.o.aa hb zq.o.lt);replace aG:=hid (aG.o.trans (hb.ae aG.o.size));clear hb Mp Me;refine hK'.o _ _ (dT.o _ aG.o) (fun ak=>?_);clear hK' K' aq;have aq:=ak;clear ak;refine aw 7 (.tuple #[.agg #[.bool rn,.string rx,.string ry],.int .i64 0]) ?_;refine aw 8 (.agg #[.bool rn,.string rx,.string ry]) ?_;refine aw 9 (.int .i64 0) ?_;(try simp only[gE,aP]);obtain⟨x0,x1,x2⟩:=zq.o.facts;have f0:=zq.o.fz 0;have f1:=zq.o.fz 1;have f2:=zq.o.fz 2;refine aF [11] (cA ?_ aD)
          ·intro K' hK';go_simp;have nS:=hid (zq.o.put rn rx ry);have sT:=hid (bF aG.o dL (.bool rn) (.string rx) (.string ry));refine hK'.o _ _ (dT.o _ sT.o) (fun ak=>?_);clear x0 x1 x2 f0 f1 f2 zq aG;clear hK' K' aq;have aq:=ak;clear ak;refine aw 12 (.int .i64 0) ?_;(try simp only[gE,aP]);refine dW (by kernel_rfl) ?_ _;exact⟨rfl,aqd,_,_,_,rfl,nS.o,dL,sT.o⟩
       ·intro K' hK';go_simp;have aN:=(au Y3.heap.size Y3).alloc (ar _) (FC false ⟨#[]⟩ ⟨#[]⟩);have zq:=hid (aC.new Y3 false ⟨#[]⟩ ⟨#[]⟩);have dL:l7.heap.size<=Y3.heap.size:=aG.o.size;(have oX:Hid (∀k,v4.ownBlock=some k ->k≠Y3.heap.size):=fun k e=>by have:=HO.o.lt k e;omega);replace HO:=hid (HO.o.aa aN);replace aG:=hid (aG.o.trans (aN.ae aG.o.size));refine hK'.o _ _ (dT.o _ aG.o) (fun ak=>?_);clear aN;clear hK' K' aq;have aq:=ak;clear ak;obtain⟨ao2,aoP⟩:∃x,Y3.heap.size=x:=⟨_,rfl⟩;obtain⟨Ja,aoY⟩:∃x,Y3.alloc (FC false ⟨#[]⟩ ⟨#[]⟩)=x:=⟨_,rfl⟩;have aoX:Y3.alloc (.cells #[.bool false,.string ⟨#[]⟩,.string ⟨#[]⟩] 32)=Ja:=aoY;rw[aoP] at zq dL oX;rw[aoY] at aG HO;rw[aoX] at zq;simp only[aoX] at aq⊢;simp only[aoP];clear aoP aoY aoX;refine aF [5] (cA ?_ aD)
        ·intro K' hK';rw[aaf (by rfl)];refine Ga _ _ rfl l7.heap.size v4 (zF fb) (zF fc) rfl HO.o pc qc rfl (z8.o.aa aG.o) kP.o (by have:=lL.o;have:=lj.o;omega) aG.o.size ?_;intro v16 I0 ho hg hn;replace zq:=hid (zq.o.of_block (hg.block ao2 zq.o.lt (fun e=>oX.o ao2 e.symm rfl)));clear oX;replace aG:=hid (aG.o.grown hg aG.o.size HO.o.own);clear HO hg hn;rw[<- aou] at ho;obtain⟨p3,q3,rfl,hf3,hl3, -⟩:=ho.facts;have Mp:=hid hf3;have Me:=hid hl3;clear ho hf3 hl3;refine hK'.o _ _ (dT.o _ aG.o) (fun ak=>?_);clear hK' K' aq;have aq:=ak;clear ak;refine aF [6] (cA ?_ aD)
         ·intro K' hK';go_simp;refine(apc.o p3 q3 I0 (aoE.o.step aG.o) Mp.o Me.o).ae ?_;rintro e Y17 ⟨rfl,hb⟩;replace zq:=hid (zq.o.aa hb zq.o.lt);replace aG:=hid (aG.o.trans (hb.ae aG.o.size));clear hb Mp Me;refine hK'.o _ _ (dT.o _ aG.o) (fun ak=>?_);clear hK' K' aq;have aq:=ak;clear ak;refine aw 7 (.tuple #[.agg #[.bool rn,.string rx,.string ry],.int .i64 0]) ?_;refine aw 8 (.agg #[.bool rn,.string rx,.string ry]) ?_;refine aw 9 (.int .i64 0) ?_;(try simp only[gE,aP]);obtain⟨x0,x1,x2⟩:=zq.o.facts;have f0:=zq.o.fz 0;have f1:=zq.o.fz 1;have f2:=zq.o.fz 2;refine aF [11] (cA ?_ aD)
          ·intro K' hK';go_simp;have nS:=hid (zq.o.put rn rx ry);have sT:=hid (bF aG.o dL (.bool rn) (.string rx) (.string ry));refine hK'.o _ _ (dT.o _ sT.o) (fun ak=>?_);clear x0 x1 x2 f0 f1 f2 zq aG;clear hK' K' aq;have aq:=ak;clear ak;refine aw 12 (.int .i64 0) ?_;(try simp only[gE,aP]);refine dW (by kernel_rfl) ?_ _;exact⟨rfl,ao2,_,_,_,rfl,nS.o,dL,sT.o⟩
      ·intro K' hK';go_simp;have aN:=(au Y2.heap.size Y2).alloc (ar _) (FC false ⟨#[]⟩ ⟨#[]⟩);have zq:=hid (aC.new Y2 false ⟨#[]⟩ ⟨#[]⟩);have dL:l7.heap.size<=Y2.heap.size:=aG.o.size;(have oX:Hid (∀k,(Value.slice (some ⟨uJ,0,none⟩) 0 0).ownBlock=some k ->k≠Y2.heap.size):=fun k e=>by have:=HO.o.lt k e;omega);replace HO:=hid (HO.o.aa aN);replace aG:=hid (aG.o.trans (aN.ae aG.o.size));refine hK'.o _ _ (dT.o _ aG.o) (fun ak=>?_);clear aN;clear hK' K' aq;have aq:=ak;clear ak;obtain⟨MT,aoO⟩:∃x,Y2.heap.size=x:=⟨_,rfl⟩;obtain⟨IZ,aoW⟩:∃x,Y2.alloc (FC false ⟨#[]⟩ ⟨#[]⟩)=x:=⟨_,rfl⟩;have aoV:Y2.alloc (.cells #[.bool false,.string ⟨#[]⟩,.string ⟨#[]⟩] 32)=IZ:=aoW;rw[aoO] at zq dL oX;rw[aoW] at aG HO;rw[aoV] at zq;simp only[aoV] at aq⊢;simp only[aoO];clear aoO aoW aoV;refine aF [3] (cA ?_ aD)
       ·intro K' hK';rw[aaf (by rfl)];refine Ga _ _ rfl l7.heap.size (Value.slice (some ⟨uJ,0,none⟩) 0 0) [] (zF fb) rfl HO.o pb qb rfl (PK.o.aa aG.o) DT.o (by have:=lL.o;simp;omega) aG.o.size ?_;intro v21 Y20 ho hg hn
        have Wi:Hid (∀k,v21.ownBlock=some k ->k≠MT):=fun k e=>by
         rcases hn with hn |hn
         ·exact oX.o k (by rw[<- hn];exact e)
         ·have:=hn k e;have:=zq.o.lt;omega
        replace zq:=hid (zq.o.of_block (hg.block MT zq.o.lt (fun e=>oX.o MT e.symm rfl)));clear oX;have oX:=Wi;clear Wi;replace aG:=hid (aG.o.grown hg aG.o.size HO.o.own);clear HO hg hn;have HO:=hid ho;clear ho;refine hK'.o _ _ (dT.o _ aG.o) (fun ak=>?_);clear hK' K' aq;have aq:=ak;clear ak;refine aF [5] (cA ?_ aD)
        ·intro K' hK';rw[aaf (by rfl)];refine Ga _ _ rfl l7.heap.size v21 (zF fb) (zF fc) rfl HO.o pc qc rfl (z8.o.aa aG.o) kP.o (by have:=lL.o;have:=lj.o;omega) aG.o.size ?_;intro v23 IQ ho hg hn;replace zq:=hid (zq.o.of_block (hg.block MT zq.o.lt (fun e=>oX.o MT e.symm rfl)));clear oX;replace aG:=hid (aG.o.grown hg aG.o.size HO.o.own);clear HO hg hn;rw[<- aou] at ho;obtain⟨p3,q3,rfl,hf3,hl3, -⟩:=ho.facts;have Mp:=hid hf3;have Me:=hid hl3;clear ho hf3 hl3;refine hK'.o _ _ (dT.o _ aG.o) (fun ak=>?_);clear hK' K' aq;have aq:=ak;clear ak;refine aF [6] (cA ?_ aD)
         ·intro K' hK';go_simp;refine(apc.o p3 q3 IQ (aoE.o.step aG.o) Mp.o Me.o).ae ?_;rintro e Y24 ⟨rfl,hb⟩;replace zq:=hid (zq.o.aa hb zq.o.lt);replace aG:=hid (aG.o.trans (hb.ae aG.o.size));clear hb Mp Me;refine hK'.o _ _ (dT.o _ aG.o) (fun ak=>?_);clear hK' K' aq;have aq:=ak;clear ak;refine aw 7 (.tuple #[.agg #[.bool rn,.string rx,.string ry],.int .i64 0]) ?_;refine aw 8 (.agg #[.bool rn,.string rx,.string ry]) ?_;refine aw 9 (.int .i64 0) ?_;(try simp only[gE,aP]);obtain⟨x0,x1,x2⟩:=zq.o.facts;have f0:=zq.o.fz 0;have f1:=zq.o.fz 1;have f2:=zq.o.fz 2;refine aF [11] (cA ?_ aD)
          ·intro K' hK';go_simp;have nS:=hid (zq.o.put rn rx ry);have sT:=hid (bF aG.o dL (.bool rn) (.string rx) (.string ry));refine hK'.o _ _ (dT.o _ sT.o) (fun ak=>?_);clear x0 x1 x2 f0 f1 f2 zq aG;clear hK' K' aq;have aq:=ak;clear ak;refine aw 12 (.int .i64 0) ?_;(try simp only[gE,aP]);refine dW (by kernel_rfl) ?_ _;exact⟨rfl,MT,_,_,_,rfl,nS.o,dL,sT.o⟩
     ·intro K' hK';go_simp;have aN:=(au Y0.heap.size Y0).alloc (ar _) (FC false ⟨#[]⟩ ⟨#[]⟩);have zq:=hid (aC.new Y0 false ⟨#[]⟩ ⟨#[]⟩);have dL:l7.heap.size<=Y0.heap.size:=aG.o.size;replace aG:=hid (aG.o.trans (aN.ae aG.o.size));refine hK'.o _ _ (dT.o _ aG.o) (fun ak=>?_);clear aN;clear hK' K' aq;have aq:=ak;clear ak;obtain⟨D6,aoN⟩:∃x,Y0.heap.size=x:=⟨_,rfl⟩;obtain⟨FE,aoU⟩:∃x,Y0.alloc (FC false ⟨#[]⟩ ⟨#[]⟩)=x:=⟨_,rfl⟩;have aoT:Y0.alloc (.cells #[.bool false,.string ⟨#[]⟩,.string ⟨#[]⟩] 32)=FE:=aoU;rw[aoN] at zq dL;rw[aoU] at aG;rw[aoT] at zq;simp only[aoT] at aq⊢;simp only[aoN];clear aoN aoU aoT;refine aF [1] (cA ?_ aD)
      ·intro K' hK';go_simp;have aN:=(au FE.heap.size FE).alloc (ar _) (.cells #[] 90);have HO:=hid ((dV.start FE).lower aG.o.size);(have oX:Hid (∀k,(Value.slice (some ⟨FE.heap.size,0,none⟩) 0 0).ownBlock=some k ->k≠D6):=fun k e=>by cases e;exact Nat.ne_of_gt zq.o.lt);replace zq:=hid (zq.o.aa aN zq.o.lt);replace aG:=hid (aG.o.trans (aN.ae aG.o.size));refine hK'.o _ _ (dT.o _ aG.o) (fun ak=>?_);clear aN;clear hK' K' aq;have aq:=ak;clear ak;obtain⟨aqc,aoK⟩:∃x,FE.heap.size=x:=⟨_,rfl⟩;obtain⟨Y28,aoS⟩:∃x,FE.alloc (.cells #[] 90)=x:=⟨_,rfl⟩;rw[aoK] at HO oX;rw[aoS] at HO aG zq;simp only[aoS] at aq⊢;simp only[aoK];clear aoK aoS;refine aF [3] (cA ?_ aD)
       ·intro K' hK';rw[aaf (by rfl)];refine Ga _ _ rfl l7.heap.size (Value.slice (some ⟨aqc,0,none⟩) 0 0) [] (zF fb) rfl HO.o pb qb rfl (PK.o.aa aG.o) DT.o (by have:=lL.o;simp;omega) aG.o.size ?_;intro v30 Y29 ho hg hn
        have Wi:Hid (∀k,v30.ownBlock=some k ->k≠D6):=fun k e=>by
         rcases hn with hn |hn
         ·exact oX.o k (by rw[<- hn];exact e)
         ·have:=hn k e;have:=zq.o.lt;omega
        replace zq:=hid (zq.o.of_block (hg.block D6 zq.o.lt (fun e=>oX.o D6 e.symm rfl)));clear oX;have oX:=Wi;clear Wi;replace aG:=hid (aG.o.grown hg aG.o.size HO.o.own);clear HO hg hn;have HO:=hid ho;clear ho;refine hK'.o _ _ (dT.o _ aG.o) (fun ak=>?_);clear hK' K' aq;have aq:=ak;clear ak;refine aF [5] (cA ?_ aD)
        ·intro K' hK';rw[aaf (by rfl)];refine Ga _ _ rfl l7.heap.size v30 (zF fb) (zF fc) rfl HO.o pc qc rfl (z8.o.aa aG.o) kP.o (by have:=lL.o;have:=lj.o;omega) aG.o.size ?_;intro v32 Il ho hg hn;replace zq:=hid (zq.o.of_block (hg.block D6 zq.o.lt (fun e=>oX.o D6 e.symm rfl)));clear oX;replace aG:=hid (aG.o.grown hg aG.o.size HO.o.own);clear HO hg hn;rw[<- aou] at ho;obtain⟨p3,q3,rfl,hf3,hl3, -⟩:=ho.facts;have Mp:=hid hf3;have Me:=hid hl3;clear ho hf3 hl3;refine hK'.o _ _ (dT.o _ aG.o) (fun ak=>?_);clear hK' K' aq;have aq:=ak;clear ak;refine aF [6] (cA ?_ aD)
         ·intro K' hK';go_simp;refine(apc.o p3 q3 Il (aoE.o.step aG.o) Mp.o Me.o).ae ?_;rintro e Y33 ⟨rfl,hb⟩;replace zq:=hid (zq.o.aa hb zq.o.lt);replace aG:=hid (aG.o.trans (hb.ae aG.o.size));clear hb Mp Me;refine hK'.o _ _ (dT.o _ aG.o) (fun ak=>?_);clear hK' K' aq;have aq:=ak;clear ak;refine aw 7 (.tuple #[.agg #[.bool rn,.string rx,.string ry],.int .i64 0]) ?_;refine aw 8 (.agg #[.bool rn,.string rx,.string ry]) ?_;refine aw 9 (.int .i64 0) ?_;(try simp only[gE,aP]);obtain⟨x0,x1,x2⟩:=zq.o.facts;have f0:=zq.o.fz 0;have f1:=zq.o.fz 1;have f2:=zq.o.fz 2;refine aF [11] (cA ?_ aD)
          ·intro K' hK';go_simp;have nS:=hid (zq.o.put rn rx ry);have sT:=hid (bF aG.o dL (.bool rn) (.string rx) (.string ry));refine hK'.o _ _ (dT.o _ sT.o) (fun ak=>?_);clear x0 x1 x2 f0 f1 f2 zq aG;clear hK' K' aq;have aq:=ak;clear ak;refine aw 12 (.int .i64 0) ?_;(try simp only[gE,aP]);refine dW (by kernel_rfl) ?_ _;exact⟨rfl,D6,_,_,_,rfl,nS.o,dL,sT.o⟩
    rintro e a' W23 ⟨rfl,gr,u1,u2,u3,rfl,xr,lr,hb⟩;have apM:=hid (aoE.o.step hb);replace z7:=hid (z7.o.aa hb z7.o.lt);replace gM:=hid (gM.o.aa hb gM.o.lt);have rR:=hid xr;replace z8:=hid (z8.o.aa hb);clear hb xr lr aoE PK apc;(try simp only[aP]);obtain⟨b0,b1,b2⟩:=apM.o.box.cells;go_wp2_with fail
    clear b0 b1 b2;refine(arS.o pc qc _ apM.o z8.o HCc.o).ae ?_;rintro e uY ⟨rfl,hb⟩;have arO:=hid (apM.o.step hb);replace z7:=hid (z7.o.aa hb z7.o.lt);replace gM:=hid (gM.o.aa hb gM.o.lt);replace rR:=hid (rR.o.aa hb rR.o.lt);clear hb apM z8 arS;have aN:Below uY.heap.size uY (uY.alloc (FC sn sx sy)):=(au _ uY).alloc (ar _) _;have TA:=hid (aC.new uY sn sx sy);have arN:=hid (arO.o.step aN);replace z7:=hid (z7.o.aa aN z7.o.lt);replace gM:=hid (gM.o.aa aN gM.o.lt);replace rR:=hid (rR.o.aa aN rR.o.lt);clear aN arO;go_upto_region 24 with fail
    generalize nE:uY.heap.size=gs at *;generalize (uY.alloc (FC sn sx sy))=rK at *;clear nE;have dT:Hid (∀U:World,Below rK.heap.size rK U ->(U.cell? ⟨gp,0,none⟩=some (.bool pn)/\U.cell? ⟨gp,1,none⟩=some (.string px)/\U.cell? ⟨gp,2,none⟩=some (.string py))/\(U.cell? ⟨gq,0,none⟩=some (.bool qn)/\U.cell? ⟨gq,1,none⟩=some (.string qx)/\U.cell? ⟨gq,2,none⟩=some (.string qy))/\(U.cell? ⟨gr,0,none⟩=some (.bool rn)/\U.cell? ⟨gr,1,none⟩=some (.string rx)/\U.cell? ⟨gr,2,none⟩=some (.string ry))/\(U.cell? ⟨gs,0,none⟩=some (.bool sn)/\U.cell? ⟨gs,1,none⟩=some (.string sx)/\U.cell? ⟨gs,2,none⟩=some (.string sy))):=fun U hU=>⟨(z7.o.aa hU z7.o.lt).three,(gM.o.aa hU gM.o.lt).three,(rR.o.aa hU rR.o.lt).three,(TA.o.aa hU TA.o.lt).three⟩;have aG:Hid (Below rK.heap.size rK rK.drew):=(au rK.heap.size rK).drew;obtain⟨X0,CC⟩:∃x,rK.drew=x:=⟨_,rfl⟩;rw[CC] at aG;refine jJ (S:=fun U=>(U.cell? ⟨gp,0,none⟩=some (.bool pn)/\U.cell? ⟨gp,1,none⟩=some (.string px)/\U.cell? ⟨gp,2,none⟩=some (.string py))/\(U.cell? ⟨gq,0,none⟩=some (.bool qn)/\U.cell? ⟨gq,1,none⟩=some (.string qx)/\U.cell? ⟨gq,2,none⟩=some (.string qy))/\(U.cell? ⟨gr,0,none⟩=some (.bool rn)/\U.cell? ⟨gr,1,none⟩=some (.string rx)/\U.cell? ⟨gr,2,none⟩=some (.string ry))/\(U.cell? ⟨gs,0,none⟩=some (.bool sn)/\U.cell? ⟨gs,1,none⟩=some (.string sx)/\U.cell? ⟨gs,2,none⟩=some (.string sy))) (by kernel_rfl) (by rw[CC];exact dT.o _ aG.o) (fun aq=>?_);rw[CC] at aq⊢;clear CC;refine aw 0 (.int .i64 0) ?_;refine aw 1 (.bool true) ?_
    refine aw 2 (.bool true) ?_;refine aw 3 (.int .i64 0) ?_;refine aw 4 (.bool true) ?_;refine aw 5 (.bool true) ?_;refine aw 6 (.bool true) ?_;refine aw 7 (.int .i64 0) ?_;refine aw 8 (.bool true) ?_;refine aw 9 (.bool true) ?_;refine aw 10 (.bool true) ?_;refine aw 11 (.int .i64 0) ?_;refine aw 12 (.bool true) ?_;refine aw 13 (.bool true) ?_;refine aw 14 (.bool true) ?_;(try simp only[gE,aP]);refine cK 15 (.agg #[.bool pn,.string px,.string py]) ?_ ?_
    ·intro u' aL;try simp only[gE];obtain⟨⟨s0,s1,s2⟩,⟨s3,s4,s5⟩,⟨s6,s7,s8⟩,⟨s9,JC,Fj⟩⟩:=aL;go_simp
    (try simp only[gE,aP]);refine cK 16 (.agg #[.bool sn,.string sx,.string sy]) ?_ ?_
    ·intro u' aL;try simp only[gE];obtain⟨⟨s0,s1,s2⟩,⟨s3,s4,s5⟩,⟨s6,s7,s8⟩,⟨s9,JC,Fj⟩⟩:=aL;go_simp
    (try simp only[gE,aP]);refine cK 18 (.agg #[.bool qn,.string qx,.string qy]) ?_ ?_
    ·intro u' aL;try simp only[gE];obtain⟨⟨s0,s1,s2⟩,⟨s3,s4,s5⟩,⟨s6,s7,s8⟩,⟨s9,JC,Fj⟩⟩:=aL;go_simp
    (try simp only[gE,aP]);refine cK 19 (.agg #[.bool rn,.string rx,.string ry]) ?_ ?_
    ·intro u' aL;try simp only[gE];obtain⟨⟨s0,s1,s2⟩,⟨s3,s4,s5⟩,⟨s6,s7,s8⟩,⟨s9,JC,Fj⟩⟩:=aL;go_simp
    refine aF [17] (cA ?_ aD)
    ·intro K' hK';go_simp;refine(HMP.o _).ae ?_;rintro e X1 ⟨rfl,hb⟩;replace aG:=hid (aG.o.trans (hb.ae aG.o.size));clear hb;refine hK'.o _ _ (dT.o _ aG.o) (fun ak=>?_);clear hK' K' aq;have aq:=ak;clear ak;refine aF [20] (cA ?_ aD)
     ·intro K' hK';go_simp;refine(HMQ.o _).ae ?_;rintro e X2 ⟨rfl,hb⟩;replace aG:=hid (aG.o.trans (hb.ae aG.o.size));clear hb;refine hK'.o _ _ (dT.o _ aG.o) (fun ak=>?_);clear hK' K' aq;have aq:=ak;clear ak;refine aw 21 (.bool true) ?_;refine aw 22 (.bool true) ?_;refine aw 23 (.bool true) ?_;(try simp only[gE,aP]);refine dW (by kernel_rfl) ?_ _;go_wp2;go_ret;exact⟨rfl,arN.o.fr.trans (aG.o.ae arN.o.fr.size)⟩
open Go.ChangeShapes Go.WideShapes Go.ChangeAt
variable {fn:Func}
theorem aiG {H:Type} {enc:TypeId×Value ->H} {a:Assume} {C:Checked} {os:Os} {f:FuncId} {s:ChangeSpec} {conds:List PathCond} {apart fresh handsOn again:Bool} {X:World ->Array Value ->Prop}
  (hX:∀(w w':World) (args:Array Value),w.heap=w'.heap ->X w args ->X w' args)
  (own:ownKnob C.prog.godebug=none) (started:os.Started) (ahH:C.prog.inits.idxOf? f=none) (hfn:C.prog.funcs[f]? =some fn)
  (witness:∃(w:World) (tape:Tape) (i:Input),w.os=os/\(w.forCall tape i).Shaped C.prog/\i.vars=[]/\Input.okWide C.prog (w.forCall tape i) .any w.heap.size f i/\
   ((s.pre enc C.prog fn conds apart (w.forCall tape i).memory i.args/\X (w.forCall tape i).memory i.args)/\sizedMet enc C.prog fn (OpenSpec.ofChange s) apart (w.forCall tape i).memory i.args)/\a.holds C.prog (lone (Frame.enter C.prog f i.args .normal) [] (w.forCall tape i)))
  (walk:∀(W:World) (base:Nat) (args:Array Value) (ds gs:List (DataW H)) (before:List MemPlace),
   (∀(j:Nat) t v,fn.params[j]? =some t ->args[j]? =some v ->Value.okWide C.prog W .any base t v) ->
   DataW.Whole enc C.prog fn.params.toList s.vars apart W args.toList ds gs before ->
   (DataW.weightsEach C.prog (fn.params.toList++s.plain.varTypes C.prog) (ds++gs)).all (·<=reachBytes)=true ->X W args ->W.ShapedOpen C.prog ->
   Calls C.prog f args W fun e W'=>∃v,e=.returned v/\s.post enc C.prog fn apart fresh handsOn again W args v W'):
  ReturnsInHanded a C os f .any (fun w args=>(s.pre enc C.prog fn conds apart w args/\X w args)/\sizedMet enc C.prog fn (OpenSpec.ofChange s) apart w args) (s.post enc C.prog fn apart fresh handsOn again):=by
 refine returnsInHanded_of_calls own started ahH witness ?_;intro w tape i _ wL _ aM hpre _;obtain⟨_,_,_,fn',ajG,_,_,_,_,hval⟩:=aM;obtain rfl:fn'=fn:=lV (ajG.symm.trans hfn);obtain⟨⟨⟨ds,gs,before,hw,_⟩,hx⟩,hz⟩:=hpre;refine(walk (w.forCall tape i) w.heap.size i.args ds gs before hval (DataW.Whole.of_heap (w':=w.forCall tape i) (by rfl) hw) (hz.weights hw) (hX _ _ _ (by rfl) hx) wL).ae fun e W' ⟨v,he,hp⟩=>?_;subst he;exact ChangeSpec.post_blind hp
theorem Fo {a:Addr} {v:Value} (h:w.cell? a=some v):a.block<w.heap.size:=by
 rcases cD a.block w.heap.size with h1 |h1
 ·exact h1
 ·simp[World.cell?,Array.getElem?_eq_none h1] at h
variable {j:Nat}
def AH {H:Type} (x:Int):DataW H:=.lit (.int .i64 x)
theorem acI:Tryz.prog.cellsOf 3=1:=by kernel_rfl
theorem XU {H:Type} {enc:TypeId×Value ->H} {W:World} {fuel:Nat} {cs:List Value} {x:DataW H×List MemPlace} (hf:DataW.trod enc Tryz.prog W 0 (fun _=>true) true fuel 27 cs=some x):
  ∃(a:Option Addr) (cap:Nat) (l:List Int),cs=[.slice a l.length cap]/\aaK W a l/\(a=none ->cap=0)/\((x.1=.nil/\l=[])∨∃rest,x.1=.slice (l.map AH) rest)/\∀y∈l, -9223372036854775808<=y/\y<=9223372036854775807:=by
 rcases Deep.open_slice Tryz.underlying27 hf with ⟨hcs,hx⟩ |⟨a',len,cap,m,n,D,Pl,hcs,hb,hl,hm,hmm,hx,hel⟩
 ·exact⟨none,0,[],hcs,fun k hk=>absurd hk (by simp),fun _=>rfl,.inl ⟨by rw[hx],rfl⟩,fun _ h=>by cases h⟩
 ·have yT:len<=m:=by rw[hmm];split<;>omega
  rw[acI] at hel
  have each:∀i,i<len ->∃z:Int,(W.cell? (a'.add (i*1))=some (.int .i64 z)/\ -9223372036854775808<=z/\z<=9223372036854775807)/\D i=AH z:=by
   intro i hi;obtain⟨cs',h1,h2⟩:=hel i (by omega);obtain⟨_,hlen,hcell⟩:=World.cells?_some h1;obtain⟨z,e0,r7,hwf⟩:=DataW.trod_int Tryz.underlying3 h2;subst e0;simp only[Prod.mk.injEq] at r7;have g0:=hcell 0 (by omega);rw[Deep.add_add] at g0;exact⟨z,⟨by simpa using g0,bounds_i64 hwf⟩,r7.1⟩
  obtain⟨f,hf2⟩:=Deep.choose_lt (α:=Int) each;refine⟨some a',cap,(List.range len).map f,by rw[hcs];simp,?_,fun e=>by(cases e),.inr ⟨(List.range (m - len)).map fun j=>D (len+j),?_⟩,?_⟩
  ·intro k hk;(have dH:k<len:=by simpa using hk);obtain⟨⟨g0,_⟩,_⟩:=hf2 k dH;obtain⟨⟨z0,_⟩,_⟩:=hf2 0 (by omega);have hsp:=World.cell?_spot z0;obtain⟨bb,oo,sp⟩:=a';rw[jw] at hsp;simp[Addr.add] at hsp;subst hsp;rw[WideShapes.add_plain] at g0;refine⟨bb,oo,rfl,Fo g0,?_⟩;simpa using g0
  ·rw[hx];show DataW.slice _ _=DataW.slice _ _;congr 1
   rw[wj];exact rq fun i hi=>(hf2 i (bG.1 hi)).2
  ·intro y hy;obtain⟨i,hi,rfl⟩:=aaQ.1 hy;exact(hf2 i (bG.1 hi)).1.2
theorem open_ints {H:Type} {enc:TypeId×Value ->H} {W:World} {r:Reach} {b0:Nat} {v:Value} {d:DataW H} {p:List MemPlace} (hval:Value.okWide Tryz.prog W r b0 27 v) (h:DataW.Trod enc Tryz.prog W 0 (fun _=>true) true 27 v d p):
  ∃(a:Option Addr) (cap:Nat) (l:List Int),v=.slice a l.length cap/\aaK W a l/\(a=none ->cap=0)/\((d=.nil/\l=[])∨∃rest,d=.slice (l.map AH) rest)/\∀x∈l, -9223372036854775808<=x/\x<=9223372036854775807:=by
 obtain⟨a,len,cap,rfl⟩:=okWide_slice Tryz.underlying27 hval;obtain⟨fuel,hf⟩:=h;obtain⟨a',cap',l,hcs,hi,h0,hd,hr⟩:=XU hf;simp[Value.cells] at hcs;obtain⟨rfl,rfl,rfl⟩:=hcs;exact⟨a,cap,l,rfl,hi,h0,hd,hr⟩
theorem aml:Tryz.prog.bytesOf 3=8:=by kernel_rfl
theorem Yy {H:Type} {ts:List TypeId} {ds:List (DataW H)} (h:(DataW.weightsEach Tryz.prog ts ds).all (·<=reachBytes)=true) {d:DataW H} (ht:ts[j]? =some 27) (hd:ds[j]? =some d) (hl:(d=.nil/\l=[])∨∃rest,d=.slice (l.map AH) rest):
  l.length<=140737488355328:=by
 rcases hl with ⟨_,rfl⟩ |⟨rest,rfl⟩
 ·simp
 have h1:=eJ.1 h _ (DataW.weights_mem_each ht hd (((l.map (AH (H:=H))).length+rest.length)*Tryz.prog.bytesOf 3) (by simp[DataW.weights,Tryz.underlying27]));have h1':((l.map (AH (H:=H))).length+rest.length)*Tryz.prog.bytesOf 3<=reachBytes:=by simpa using h1
 rw[aml,c5] at h1';simp only[reachBytes] at h1';omega
theorem atd:Tryz.prog.cellsOf 48=4:=by kernel_rfl
theorem ate:Tryz.prog.cellsOf 27=1:=by kernel_rfl
theorem atf:Tryz.prog.cellsOf 4=1:=by kernel_rfl
theorem asn {H:Type} {enc:TypeId×Value ->H} {W:World} {r:Reach} {b0:Nat} {v:Value} {d:DataW H} {p:List MemPlace} (hval:Value.okWide Tryz.prog W r b0 48 v) (h:DataW.Trod enc Tryz.prog W 0 (fun _=>true) true 48 v d p):
  ∃(a1 a2 a3:Option Addr) (c1 c2 c3:Nat) (L1 L2 L3:List Int) (bk:Bool) (d1 d2 d3 d4:DataW H),v=.agg #[.slice a1 L1.length c1,.slice a2 L2.length c2,.slice a3 L3.length c3,.bool bk]/\d=.agg [d1,d2,d3,d4]/\aaK W a1 L1/\aaK W a2 L2/\aaK W a3 L3/\
   ((d1=.nil/\L1=[])∨∃rest,d1=.slice (L1.map AH) rest)/\((d2=.nil/\L2=[])∨∃rest,d2=.slice (L2.map AH) rest)/\((d3=.nil/\L3=[])∨∃rest,d3=.slice (L3.map AH) rest)/\
   (∀x∈L1, -9223372036854775808<=x/\x<=9223372036854775807)/\(∀x∈L2, -9223372036854775808<=x/\x<=9223372036854775807)/\(∀x∈L3, -9223372036854775808<=x/\x<=9223372036854775807):=by
 obtain⟨cs,rfl,hsz⟩:=okWide_struct Tryz.underlying48 hval;rw[atd] at hsz;obtain⟨l⟩:=cs;match l,hsz with
 |[c0,c1,c2,c3],_=>
  obtain⟨fuel,hf⟩:=h;obtain⟨y0,y1,y2,y3,m,hx,_,oA,hy1,hy2,S3⟩:=Go.Joins.trod_struct4 Tryz.underlying48 hf;simp[Value.cells,ate,atf] at oA hy1 hy2 S3;obtain⟨a1,k1,L1,e0,h0,_,g0,r0⟩:=XU oA;obtain⟨a2,k2,L2,e1,h1,_,g1,r1⟩:=XU hy1;obtain⟨a3,k3,L3,e2,h2,_,g2,r2⟩:=XU hy2;obtain⟨nn,e3,rfl⟩:=DataW.trod_bool Tryz.underlying4 S3;obtain rfl:c0=_:=by simpa using e0
  obtain rfl:c1=_:=by simpa using e1
  obtain rfl:c2=_:=by simpa using e2
  obtain rfl:c3=_:=by simpa using e3
  simp only[Prod.mk.injEq] at hx;exact⟨a1,a2,a3,k1,k2,k3,L1,L2,L3,_,_,_,_,_,rfl,hx.1,h0,h1,h2,g0,g1,g2,r0,r1,r2⟩
theorem ar9 {H:Type} {ts:List TypeId} {ds:List (DataW H)} (h:(DataW.weightsEach Tryz.prog ts ds).all (·<=reachBytes)=true) {L1 L2 L3:List Int} {d1 d2 d3 d4:DataW H} (ht:ts[j]? =some 48) (hd:ds[j]? =some (.agg [d1,d2,d3,d4])) (h1:(d1=.nil/\L1=[])∨∃rest,d1=.slice (L1.map AH) rest) (h2:(d2=.nil/\L2=[])∨∃rest,d2=.slice (L2.map AH) rest) (h3:(d3=.nil/\L3=[])∨∃rest,d3=.slice (L3.map AH) rest):
  L1.length<=140737488355328/\L2.length<=140737488355328/\L3.length<=140737488355328:=by
 have h':(DataW.weightsEach Tryz.prog [27,27,27,4] [d1,d2,d3,d4]).all (·<=reachBytes)=true:=by
  rw[eJ];intro n hn;refine eJ.1 h _ (DataW.weights_mem_each ht hd n ?_);simp only[DataW.weights,Tryz.underlying48];exact hn
 exact⟨Yy h' (j:=0) rfl rfl h1,Yy h' (j:=1) rfl rfl h2,Yy h' (j:=2) rfl rfl h3⟩
theorem acS {H:Type} {enc:TypeId×Value ->H} {P:Program} (hl:laidOutB P=true) {W:World} (hb:Below W.heap.size W W'):∀ {ts:List TypeId} {vs:List Value} {ds:List (DataW H)} {ps:List MemPlace},
  (ts.all fun t=>P.readableRec t&&decide (t<P.types.size))=true ->DataW.TrodAll enc P W 0 (fun _=>true) true ts vs ds ps ->DataW.TrodAll enc P W' 0 (fun b=>decide (b<W.heap.size)) true ts vs ds ps
 |[],[],[],_,_,h=>h
 |t::ts,v::vs,d::ds,_,ht,⟨p,q,h,hr,e⟩=>by
  rw[List.all_cons,ia,ia] at ht;refine⟨p,q,Below.trod hl ht.1.1 (rS ht.1.2) h hb ?_,acS hl hb ht.2 hr,e⟩;obtain⟨m,hm⟩:=h;exact DataW.trod_lt m _ _ _ hm
 |[],_::_,_,_,_,h=>by simp[DataW.TrodAll] at h
 |[],[],_::_,_,_,h=>by simp[DataW.TrodAll] at h
 |_::_,[],_,_,_,h=>by simp[DataW.TrodAll] at h
 |_::_,_::_,[],_,_,h=>by simp[DataW.TrodAll] at h
end Go.Proofs.YtdnhgjeihdllbaaGreatDoor
