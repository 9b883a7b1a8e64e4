/- Part3: part 3. -/
import Derived.Test.YtdnhgjeihdllbaaGreatDoorPart2
set_option maxRecDepth 100000
set_option maxHeartbeats 4000000
set_option linter.unusedSimpArgs false
set_option linter.unusedVariables false
namespace Go.Proofs.YtdnhgjeihdllbaaGreatDoor
open Go.RowKit Go.Shelf
variable {L:List (List Int)}
theorem qg (h:gB L=true):1<=L.length/\L.length<=8/\ug L L.length=true/\Az L=true:=by
 rw[gB,ia,ia,ei] at h;exact⟨h.1.1.1,h.1.1.2,h.1.2,h.2⟩
theorem ako (h:gB L=true):∀p∈aI L,∀u∈p,u<8:=by
 obtain⟨h1,h2,h3,h4⟩:=qg h;intro p hp;obtain⟨l,hl,rfl⟩:=bs.1 hp;exact Y1 h2 (eJ.1 h3 l hl)
theorem UI (a:Option Addr) (ca:Nat) (L:List (List Int)) (w:World) (h:fh w a L) (hl:∀l∈L,l.length<=140737488355328):
  Calls Tryz.prog 72 #[.slice a L.length ca] w fun e w'=>Below w.heap.size w w'/\
   ((bE L=0/\∃G,e=.returned (.tuple #[.slice (some ⟨G,0,none⟩) L.length L.length,.int .i64 0])/\w.heap.size<=G/\cI w' G (jO L))∨(bE L≠0/\e=.returned (.tuple #[.slice none 0 0,.int .i64 (bE L)]))):=by
 have HF:=hid h;have HR:=hid (fun (V:World) (hV:fh V a L)=>Y4 a ca L V hV hl);have DK:Hid (gB L=false ->bE L=11):=fun h=>az (by rw[h];decide);have j8:Hid (gB L=true ->(aY (aI L) L.length).length<L.length ->bE L=10):=fun h1 h2=>by rw[bE,ay h1,ay h2]
 have ri:Hid (gB L=true ->¬(aY (aI L) L.length).length<L.length ->bE L=0):=fun h1 h2=>by rw[bE,ay h1,az h2]
 have HO:Hid (gB L=true ->∀(G c:Nat) (V:World),cI V G (jO L) ->Calls Tryz.prog 124 #[.slice (some ⟨G,0,none⟩) L.length c] V fun e w'=>∃x,e=.returned x/\cX w' V.heap.size x (iL (aY (aI L) L.length))/\Below V.heap.size V w'):=fun hg G c V hV=>by
  have h8:=(qg hg).2.1;have:=ahh G c (aI L) V (by rw[<- Hf];exact hV) (by rw[lp];exact h8) (ako hg);rwa [lp] at this
 generalize bE L=ge at *;generalize jO L=ms at *;clear h hl;go_enter Tryz.func72,Tryz.ntmps72;go_wp2_with fail
 refine(HR.o _ HF.o).af ?_;rintro e w1 ⟨hb,⟨hg,G,rfl,hG,hU⟩ |⟨hg,v,rfl⟩⟩
 ·have oU:=hid hU;have HOG:=hid (HO.o hg G L.length);have HB:=hid hb;have F5:=hid hg;clear hU hb hg HO HR;go_wp2_with fail
  refine(HOG.o _ oU.o).af ?_;rintro e w2 ⟨x,rfl,hx,hb2⟩;obtain⟨d,cd,rfl,_⟩:=hx.ints;have bc:=hid (HB.o.trans (hb2.af HB.o.size));have LH:=hid (oU.o.aa hb2 oU.o.lt);have pJ:Hid ((iL (aY (aI L) L.length)).length=(aY (aI L) L.length).length):=ba _;clear hx hb2;by_cases hlt:(aY (aI L) L.length).length<L.length
  ·have HE:=hid (j8.o F5.o hlt);(have tR:(iL (aY (aI L) L.length)).length<L.length:=by rw[pJ.o];exact hlt);clear hlt;generalize (iL (aY (aI L) L.length)).length=m at *;go_wp2;go_ret2;exact⟨bc.o,.inr ⟨by rw[HE.o];decide,by rw[HE.o];rfl⟩⟩
  ·have HE:=hid (ri.o F5.o hlt);(have tR:¬(iL (aY (aI L) L.length)).length<L.length:=by rw[pJ.o];exact hlt);clear hlt;generalize (iL (aY (aI L) L.length)).length=m at *;go_wp2;go_ret2;exact⟨bc.o,.inl ⟨HE.o,G,rfl,hG,LH.o⟩⟩
 ·have HE:=hid (DK.o hg);have HB:=hid hb;clear hg hb;go_wp2;go_ret2;exact⟨HB.o,.inr ⟨by rw[HE.o];decide,by rw[HE.o];rfl⟩⟩
theorem akl (a:Option Addr) (ca:Nat) (L:List (List Int)) (w:World) (h:fh w a L) (hl:∀l∈L,l.length<=140737488355328):
  Calls Tryz.prog 130 #[.slice a L.length ca] w fun e w'=>e=.returned (.int .i64 (bE L))/\Below w.heap.size w w':=by
 have HF:=hid h;have HR:=hid (fun (V:World) (hV:fh V a L)=>UI a ca L V hV hl);generalize bE L=ge at *;clear h hl;go_enter Tryz.func130,Tryz.ntmps130;go_wp2_with fail
 refine(HR.o _ HF.o).af ?_;rintro e w1 ⟨hb,⟨rfl,G,rfl,hG,hU⟩ |⟨hg,rfl⟩⟩
 ·clear hU;go_wp2;go_ret;exact⟨rfl,hb⟩
 ·clear hg;go_wp2;go_ret;exact⟨rfl,hb⟩
variable {i:Nat} {w:World}
theorem alv {l1 l2:List Nat} (h1:i<l1.length) (h2:i<l2.length) (h:l1[i]≠l2[i]):decide (l1=l2)=false:=cz fun e=>h (by subst e;rfl)
theorem alw {l1 l2:List Nat} (hl:l1.length=l2.length) (h:∀i (h1:i<l1.length) (h2:i<l2.length),l1[i]=l2[i]):decide (l1=l2)=true:=cJ (pS hl h)
theorem afm (G1 G2 n c1 c2:Nat) (l1 l2:List Nat) (w:World) (e1:l1.length=n) (e2:l2.length=n) (hn:n<=5000) (h1:cI w G1 l1) (h2:cI w G2 l2):
  Calls Tryz.prog 194 #[.slice (some ⟨G1,0,none⟩) n c1,.slice (some ⟨G2,0,none⟩) n c2] w fun e w'=>e=.returned (.bool (decide (l1=l2)))/\Below w.heap.size w w':=by
 have H1:=hid h1;have H2:=hid h2;have HN:=hid (fun i (a:i<l1.length) (b:i<l2.length) h=>alv a b h);have HE:=hid (fun h=>alw (l1:=l1) (l2:=l2) (by omega) h);generalize decide (l1=l2)=r at *;clear h1 h2;go_enter Tryz.func194,Tryz.ntmps194;go_wp2_with fail
 go_loopw [13] (fun iv wr=>∃i:Nat,i<=n/\iv=.int .i64 i/\Hid (∀j (a:j<l1.length) (b:j<l2.length),j< i ->l1[j]=l2[j])/\Hid (Below w.heap.size w wr)) (fun iv _=>n - (intOf iv).toNat)
 case atStart=>exact⟨0,aU _,rfl,fun j _ _ h=>absurd h (by omega),au _ _⟩
 case round=>
  obtain⟨i,hi,rfl,HI,HB⟩:=hrel;by_cases hlt:i<n
  ·have a1:=(H1.o.aa HB.o H1.o.lt).cell i (by omega);have a2:=(H2.o.aa HB.o H2.o.lt).cell i (by omega);have j7:=hid (HN.o i (by omega) (by omega))
   have HS:Hid (l1[i]'(by omega)=l2[i]'(by omega) ->∀j (a:j<l1.length) (b:j<l2.length),j<i+1 ->l1[j]=l2[j]):=fun h j a b hj=>by
    rcases cD j i with h3 |h3
    ·exact HI.o j a b h3
    ·obtain rfl:j=i:=by omega
     exact h
   generalize l1[i]'(by omega)=x at *;generalize l2[i]'(by omega)=y at *;go_upto_region 6 with fail
   go_quiet (fail)
   have HBn:=hid (below_drewN HB.o nq);clear a1 a2;generalize wr.drewN nq=w2 at *;by_cases wG:x=y
   ·have iR:=hid (HS.o wG);subst wG;go_wp2;go_roundw
    case rel=>exact⟨i+1,by omega,by go_num,iR,HBn⟩
    case measure=>simp[intOf];omega
   ·have HR:=hid (j7.o wG)
    have hb:((x:Int) !=(y:Int))=true:=by
     (have:¬(x:Int)=(y:Int):=by omega);simpa using this
    clear wG;go_wp2;go_ret;exact⟨by rw[HR.o];rfl,HBn.o⟩
  ·obtain rfl:i=n:=by omega
   have HR:=hid (HE.o fun j a b=>HI.o j a b (by omega));go_wp2;go_ret;exact⟨by rw[HR.o];rfl,HB.o⟩
def tG (L:List (List Int)):Bool:=gB L&&decide (jO L=(lK (aI L) L.length L.length).map aA)
theorem JP (h:gB L=true):∀p∈aI L,∀u∈p,u<L.length:=by
 obtain⟨_,_,hr,_⟩:=qg h;intro p hp u hu;obtain⟨l,hl,rfl⟩:=bs.1 hp;obtain⟨x,hx,rfl⟩:=bs.1 hu;obtain⟨i,hi,rfl⟩:=iE hl;have h2:=Al (PA hr hi);obtain⟨j,hj,rfl⟩:=iE hx;have:=h2.each j hj;omega
theorem Hc (h:gB L=true):sP L.length (aI L):=by
 refine⟨lp L,JP h,fun u hu=>?_⟩;obtain⟨_,_,_,hs⟩:=qg h;by_cases hl:u<L.length
 ·rw[NB hl] at hu;rw[Sv hl hu] at hs;cases hs
 ·rw[List.getD_eq_getElem?_getD,iF (by rw[lp];omega)] at hu;simp at hu
theorem afH (a:Option Addr) (ca:Nat) (L:List (List Int)) (w:World) (h:fh w a L) (hl:∀l∈L,l.length<=140737488355328):
  Calls Tryz.prog 147 #[.slice a L.length ca] w fun e w'=>Below w.heap.size w w'/\
   ((tG L=true/\∃G,e=.returned (.tuple #[.slice (some ⟨G,0,none⟩) L.length L.length,.bool true])/\w.heap.size<=G/\cI w' G (jO L))∨(tG L=false/\e=.returned (.tuple #[.slice none 0 0,.bool false]))):=by
 have HRO:=hid (Y4 a ca L w h hl);have oX:Hid (tG L=(gB L&&decide (jO L=(lK (aI L) L.length L.length).map aA))):=rfl
 have Mw:Hid (gB L=true ->∀(G:Nat) (U:World),cI U G (jO L) ->Calls Tryz.prog 126 #[.slice (some ⟨G,0,none⟩) L.length L.length] U fun e w'=>e=.returned (.slice (some ⟨U.heap.size,0,none⟩) L.length L.length)/\cI w' U.heap.size ((lK (aI L) L.length L.length).map aA)/\Below U.heap.size U w'):=fun hg G U hU=>by
  rw[Hf] at hU;exact alS G L.length L.length (aI L) U (lp L) (qg hg).2.1 hU (JP hg)
 have F8:Hid (gB L=true ->∀(G1 G2:Nat) (U:World),cI U G1 (jO L) ->cI U G2 ((lK (aI L) L.length L.length).map aA) ->Calls Tryz.prog 194 #[.slice (some ⟨G1,0,none⟩) L.length L.length,.slice (some ⟨G2,0,none⟩) L.length L.length] U fun e w'=>e=.returned (.bool (decide (jO L=(lK (aI L) L.length L.length).map aA)))/\Below U.heap.size U w'):=fun hg G1 G2 U h1 h2=>afm G1 G2 L.length L.length L.length _ _ U (aaw L) (by rw[c5,acF]) (by have:=(qg hg).2.1;omega) h1 h2;generalize tG L=nb at *;generalize decide (jO L=(lK (aI L) L.length L.length).map aA)=dq at *;generalize (lK (aI L) L.length L.length).map aA=cm at *;clear h hl;go_enter Tryz.func147,Tryz.ntmps147;go_wp2_with fail
 refine HRO.o.af ?_;rintro e w1 ⟨hb,⟨hg,G,rfl,hG,hU⟩ |⟨hg,v,rfl⟩⟩
 ·have HC:=hid (Mw.o hg G);have HE:=hid (F8.o hg G);rw[hg] at oX;have HU:=hid hU;have HB:=hid hb;clear hU hb Mw F8;go_wp2_with fail
  refine(HC.o _ HU.o).af ?_;rintro e w2 ⟨rfl,hr2,hb2⟩;have LH:=hid (HU.o.aa hb2 HU.o.lt);have iT:=hid hr2;have bc:=hid (HB.o.trans (hb2.af HB.o.size));clear hr2 hb2 HC;go_wp2_with fail
  refine(HE.o _ _ LH.o iT.o).af ?_;rintro e w3 ⟨rfl,hb3⟩;have HU3:=hid (LH.o.aa hb3 LH.o.lt);have dU:=hid (bc.o.trans (hb3.af bc.o.size));clear hb3 HE;cases dq
  ·go_wp2;go_ret2;exact⟨dU.o,.inr ⟨oX.o,rfl⟩⟩
  ·go_wp2;go_ret2;exact⟨dU.o,.inl ⟨oX.o,G,rfl,hG,HU3.o⟩⟩
 ·rw[hg] at oX;have HB:=hid hb;clear hb Mw F8 hg;go_wp2;go_ret2;exact⟨HB.o,.inr ⟨oX.o,rfl⟩⟩
theorem xJ.cells {B:Nat} {v:Value} {l:List Nat} (h:xJ w B v l):∃d cd,v=.slice d l.length cd/\∀k (hk:k<l.length),∃g o,d=some ⟨g,o,none⟩/\g<w.heap.size/\w.cell? ⟨g,o+k,none⟩=some (.int .u32 (l[k]:Nat)):=by
 rcases h.2 with ⟨h1,h2⟩ |⟨g,cap,cur,h1,h2,h3,h4,h5,h6,h7⟩
 ·have:l=[]:=Ee.1 h2;subst this;exact⟨none,0,h1,fun k hk=>absurd hk (by simp)⟩
 ·refine⟨_,_,h1,fun j hj=>⟨g,0,rfl,(eL.1 h3).1,?_⟩⟩;rw[bT,cC w g j _ _ (0,0) h3]
  have e:cur[j]? =(cur.toList.take (l.length*1))[j]?:=by
   rw[rV,ay (by omega),wm]
  rw[e,h7,oh,List.getElem?_eq_getElem hj];rfl
def FlR (L:List (List Int)) (e:Ending) (w':World):Prop:=
 (tG L=true/\∃d cd G,e=.returned (.tuple #[.slice d L.length cd,.slice (some ⟨G,0,none⟩) L.length L.length,.int .i64 0])/\ax w' d (iL (bz (aI L) L.length L.length).ord)/\fh w' (some ⟨G,0,none⟩) ((bz (aI L) L.length L.length).bag.map gN))∨
 (tG L=false/\e=.returned (.tuple #[.slice none 0 0,.slice none 0 0,.int .i64 11]))
theorem akk (a:Option Addr) (ca:Nat) (L:List (List Int)) (w:World) (h:fh w a L) (hl:∀l∈L,l.length<=140737488355328):
  Calls Tryz.prog 94 #[.slice a L.length ca] w fun e w'=>FlR L e w'/\Below w.heap.size w w':=by
 have P6:=hid (afH a ca L w h hl)
 have bC:Hid (tG L=true ->∀(G:Nat) (U:World),cI U G (jO L) ->Calls Tryz.prog 148 #[.slice (some ⟨G,0,none⟩) L.length L.length] U fun e w'=>∃nv bv,e=.returned (.tuple #[nv,bv])/\nY U w' G nv bv (iL (bz (aI L) L.length L.length).ord) ((bz (aI L) L.length L.length).bag.map aA) ((bz (aI L) L.length L.length).nei.map aA)):=fun hn G U hU=>by
  have hg:gB L=true:=by
   rw[tG,ia] at hn;exact hn.1
  rw[Hf] at hU;exact akf G L.length L.length (aI L) U (qg hg).1 (qg hg).2.1 hU (Hc hg)
 have zE:Hid (tG L=true ->(bz (aI L) L.length L.length).ord.length=L.length/\(bz (aI L) L.length L.length).bag.length=L.length/\L.length<=8/\∀p∈(bz (aI L) L.length L.length).bag,∀u∈p,u<8):=fun hn=>by
  have hg:gB L=true:=by
   rw[tG,ia] at hn;exact hn.1
  have h8:=(qg hg).2.1;have h1:=(qg hg).1;have hk:=fun k=>O6 (Hc hg) k;refine⟨(hk L.length).2.2.1,(hk L.length).2.2.2,h8,?_⟩
  have key:∀k,∀p∈(bz (aI L) L.length k).bag,∀u∈p,u<8:=fun k=>by
   induction k with
   |zero=>intro p hp;simp[bz] at hp
   |succ k ih=>
    intro p hp u hu;rw[bz] at hp;rcases dz.1 hp with hp |hp
    ·exact ih p hp u hu
    ·rw[fX.1 hp] at hu;rcases dK.1 hu with rfl |hu
     ·have:=ab9 (P:=(bz (aI L) L.length k).nei) h1 (hk k).2.1;omega
     ·have:=(hk k).1.at _ u hu;omega
  exact key _
 clear h hl;go_enter Tryz.func94,Tryz.ntmps94;go_wp2_with fail
 refine P6.o.af ?_;rintro e w1 ⟨hb,⟨hn,G,rfl,hG,hU⟩ |⟨hn,rfl⟩⟩
 ·have HF:=hid (bC.o hn G _ hU);obtain⟨ho,hbl,h8,jS⟩:=zE.o hn;have HN:=hid hn;have HB:=hid hb;have IX:=hid jS;clear hU hb bC zE hn jS;generalize hS:bz (aI L) L.length L.length=S at *;have HSQ:=hid hS;clear hS;go_wp2_with fail
  refine HF.o.af ?_;rintro e w2 ⟨nv,bv,rfl,hX⟩;obtain⟨d,cd,rfl,hI⟩:=hX.nd.ints;obtain⟨d2,sM,rfl,hC⟩:=hX.bg.cells;have bc:Hid (Below w.heap.size w w2):=⟨hX.grow.os.trans HB.o.os,hX.grow.tape.trans HB.o.tape,hX.grow.output.trans HB.o.output,aS HB.o.size hX.grow.size,fun k hk=>(hX.grow.block k (aR hk HB.o.size) (fun e=>by have:=lV e;omega)).trans (HB.o.block k hk)⟩;have e1:(iL S.ord).length=L.length:=by rw[ba];exact ho
  have e2:(S.bag.map aA).length=L.length:=by rw[c5];exact hbl
  rw[e1,e2]
  have xW:=hid (aaD d2 sM S.bag w2 IX.o (by omega) (fun k hk=>by
   obtain⟨g,o,h1,h2,h3⟩:=hC k (by rw[c5];exact hk);exact⟨g,o,h1,h2,by rw[h3,og]⟩))
  rw[hbl] at xW;have HI:=hid hI;clear hX hI hC e1 e2;go_wp2_with fail
  refine xW.o.af ?_;rintro e w3 ⟨G3,rfl,OO,hL3,hb3⟩;have Qk:=hid (HI.o.aa hb3);have Me:=hid hL3;have dU:=hid (bc.o.trans (hb3.af bc.o.size));clear hb3 hL3;go_wp2;refine bB (results_tmp3 rfl _ _ _) rfl ?_;exact⟨.inl ⟨HN.o,d,cd,G3,rfl,by rw[HSQ.o];exact Qk.o,by rw[HSQ.o];exact Me.o⟩,dU.o⟩
 ·have HN:=hid hn;have HB:=hid hb;clear hn hb;go_wp2;refine bB (results_tmp3 rfl _ _ _) rfl ?_;exact⟨.inr ⟨HN.o,rfl⟩,HB.o⟩
variable {xs:List Value} {n:Nat} {w':World}
def Dn (t:TypeId) (w w':World):Prop:=∀(k:Nat) (c:Array Value) (fr:Nat×Nat),w.heap[k]? =some (Obj.cells c t fr) ->w'.heap[k]? =some (Obj.cells c t fr)
theorem Dn.aa {t:TypeId} (hb:Below w.heap.size w w'):Dn t w w':=fun k _ _ h=>(hb.block k (eL.1 h).1).trans h
theorem JR {B:Nat} {e:TypeId} {s:Nat} {v:Value} (h:w.ownsRow B e s v n xs) (hk:Dn e w w'):w'.ownsRow B e s v n xs:=by
 refine⟨h.1,?_⟩;rcases h.2 with h1 |⟨g,cap,cur,h1,h2,h3,h4⟩
 ·exact .inl h1
 ·exact .inr ⟨g,cap,cur,h1,h2,hk _ _ _ h3,h4⟩
abbrev PK:Type:=Nat×Nat×Value×List Int
variable {l:List Int}
theorem aiS {k:Int}:ie k l=true↔k∈l:=by simp[ie]
theorem aaQ {x:Int} (hx:0<=x) (hl:∀y∈l,0<=y):ie x l=decide (x.toNat∈ag l):=by
 rw[ry,ei,aiS];constructor
 ·intro h;exact bs.2 ⟨x,h,rfl⟩
 ·intro h;obtain⟨y,hy,e⟩:=bs.1 h;have:=hl y hy;obtain rfl:y=x:=by omega
  exact hy
theorem aiT (l:List Nat) {x:Int} (hx:0<=x):ie x (iL l)=decide (x.toNat∈l):=by
 rw[aaQ hx fun y hy=>by obtain⟨z,_,rfl⟩:=bs.1 hy;omega,ew]
theorem Y0 (h:dD l n=true):∀y∈l,0<=y:=fun y hy=>by
 obtain⟨i,hi,rfl⟩:=iE hy;exact((Al h).each i hi).1
theorem akn (h:i<L.length) (e:dD L[i] L.length=false):gB L=false:=by rw[gB,ac3 h e];simp
theorem akm (h:i<L.length) (e:i∈ag L[i]):gB L=false:=by rw[gB,Sv h e];simp
theorem abU (h1:1<=L.length) (h2:L.length<=8) (h:∀i (hi:i<L.length),dD L[i] L.length=true/\¬i∈ag L[i]):gB L=true:=by
 rw[gB,cJ (p:=1<=L.length/\L.length<=8) ⟨h1,h2⟩,aah fun i hi=>(h i hi).2]
 have:ug L L.length=true:=eJ.2 fun l hl=>by
  obtain⟨i,hi,rfl⟩:=iE hl;exact(h i hi).1
 rw[this];rfl
theorem af1 (a:Option Addr) (ca:Nat) (L:List (List Int)) (w:World) (h:fh w a L) (hl:∀l∈L,l.length<=140737488355328) (hL:L.length<=140737488355328):
  Calls Tryz.prog 231 #[.slice a L.length ca] w fun e w'=>e=.returned (.bool (gB L))/\Below w.heap.size w w':=by
 have HF:=hid h;have HL:=hid hl;have HN:Hid (¬(1<=L.length/\L.length<=8) ->gB L=false):=fun h=>by rw[gB,cz h];rfl
 have HR:=hid (fun i h e=>akn (L:=L) (i:=i) h e);have HS:=hid (fun i h e=>akm (L:=L) (i:=i) h e);have HY:=hid (fun h1 h2 h=>abU (L:=L) h1 h2 h);generalize gB L=gb at *;clear h hl;by_cases h1:1<=L.length
 ·by_cases h8:L.length<=8
  ·clear HN;(have e1:(1:Int)<=(L.length:Int):=by omega);(have e2:(L.length:Int)<=8:=by omega);go_enter Tryz.func231,Tryz.ntmps231;go_wp2_with fail
   go_loopw [3] (fun iv wr=>∃i:Nat,i<=L.length/\iv=.int .i64 i/\Hid (∀j (h:j<L.length),j< i ->dD L[j] L.length=true/\¬j∈ag L[j])/\Hid (Below w.heap.size w wr)) (fun iv _=>L.length - (intOf iv).toNat)
   case atStart=>exact⟨0,aU _,rfl,fun j _ h=>absurd h (by omega),au _ _⟩
   case round=>
    obtain⟨i,hi,rfl,HP,HB⟩:=hrel;by_cases hlt:i<L.length
    ·obtain⟨g,o,b,c,rfl,hg,c0,hI⟩:=(HF.o.aa HB.o) i hlt;have dh:=HL.o L[i] (bH hlt);have HI:=hid hI;have LO:=hid (HR.o i hlt);have HSi:=hid (HS.o i hlt)
     have pH:Hid (dD L[i] L.length=true ->¬i∈ag L[i] ->∀j (h:j<L.length),j<i+1 ->dD L[j] L.length=true/\¬j∈ag L[j]):=fun h h' j hj ml=>by
      rcases cD j i with h2 |h2
      ·exact HP.o j hj h2
      ·obtain rfl:j=i:=by omega
       exact⟨h,h'⟩
     clear hI;generalize L[i]=l at *;go_wp2_with fail
     refine(Y7 b c l (L.length:Int) _ HI.o dh).af ?_;rintro e w1 ⟨rfl,hb1⟩;have c1:=(hb1.cell (p:=⟨g,o+i,none⟩) hg).trans c0;have pL:=hid (HI.o.aa hb1);have eR:=hid (HB.o.trans (hb1.af HB.o.size));clear hb1 c0 HI HB;go_wp2_with fail
     refine(RJ (i:Nat) b c l _ pL.o dh).af ?_;rintro e w2 ⟨rfl,rfl⟩;cases hr:dD l L.length with
     |false=>
      have HE:=hid (LO.o hr);clear hr;generalize ie (i:Nat) l=q at *;go_wp2;go_ret;exact⟨by rw[HE.o];rfl,eR.o⟩
     |true=>
      rw[aaQ (by omega) (Y0 hr),pT];by_cases hin:i∈ag l
      ·rw[cJ hin];have HE:=hid (HSi.o hin);clear hin hr;go_wp2;go_ret;exact⟨by rw[HE.o];rfl,eR.o⟩
      ·rw[cz hin];have HE:=hid (pH.o hr hin);clear hin hr;go_wp2;go_roundw
       case rel=>exact⟨i+1,by omega,by go_num,HE,eR⟩
       case measure=>simp[intOf];omega
    ·obtain rfl:i=L.length:=by omega
     have HE:=hid (HY.o h1 h8 fun j hj=>HP.o j hj hj);go_wp2;go_ret;exact⟨by rw[HE.o];rfl,HB.o⟩
  ·have HE:=hid (HN.o fun h=>h8 h.2);(have e1:(1:Int)<=(L.length:Int):=by omega);(have e2:(8:Int)<(L.length:Int):=by omega);clear h8;go_enter Tryz.func231,Tryz.ntmps231;go_wp2;go_ret;exact⟨by rw[HE.o];rfl,au _ _⟩
 ·have HE:=hid (HN.o fun h=>h1 h.1);have e1:(L.length:Int)<1:=by omega
  clear h1;go_enter Tryz.func231,Tryz.ntmps231;go_wp2;go_ret;exact⟨by rw[HE.o];rfl,au _ _⟩
variable {j v:Nat}
def vF (P:List (List Nat)) (out:List Nat) (j:Nat):Option Nat:=(List.range' j (P.length - j)).find? (gJ P out)
def ak9:Option Nat ->Int
 |some v=>(v:Int)
 |none=> -1
theorem akB (P:List (List Nat)) (out:List Nat):vF P out 0=nj P out:=by rw[vF,nj,List.range_eq_range'];rfl
theorem akD (P:List (List Nat)) (out:List Nat):vF P out P.length=none:=by rw[vF,qE];rfl
theorem akC {P:List (List Nat)} {out:List Nat} (h:j<P.length):vF P out j=if gJ P out j=true then some j else vF P out (j+1):=by
 rw[vF,vF,show P.length - j=(P.length - (j+1))+1 by omega,List.range'_succ,List.find?_cons];cases gJ P out j<;>rfl
def rK (P:List (List Nat)) (out:List Nat) (v i:Nat):Bool:=!decide (v∈out)&&decide (∀u∈(P.getD v []).take i,u∈out)
theorem akK (P:List (List Nat)) (out:List Nat) (v:Nat):rK P out v 0=!decide (v∈out):=by simp[rK]
theorem akL {P:List (List Nat)} {out p:List Nat} (hp:P.getD v []=p) (h:i<p.length):rK P out v (i+1)=(rK P out v i&&decide (p[i]∈out)):=by
 rw[rK,rK,hp,fR h,Bool.and_assoc];congr 1
 rw[ry,ia,ei,ei,ei];constructor
 ·intro H;exact⟨fun u hu=>H u (QM _ hu),H _ (List.mem_append_right _ dJ)⟩
 ·rintro⟨H1,H2⟩ u hu;rcases dz.1 hu with hu |hu
  ·exact H1 u hu
  ·rw[fX.1 hu];exact H2
theorem akM {P:List (List Nat)} {out p:List Nat} (hp:P.getD v []=p):rK P out v p.length=gJ P out v:=by
 rw[rK,gJ,hp,fJ]
theorem afV (a:Option Addr) (ca:Nat) (L:List (List Int)) (w:World) (h:fh w a L) (hl:∀l∈L,l.length<=140737488355328) (hL:L.length<=140737488355328):
  Calls Tryz.prog 190 #[.slice a L.length ca] w fun e w'=>Below w.heap.size w w'/\
   ((bE L=0/\∃x,e=.returned (.tuple #[x,.int .i64 0])/\cX w' w.heap.size x (iL (aY (aI L) L.length)))∨(bE L≠0/\e=.returned (.tuple #[.slice none 0 0,.int .i64 (bE L)]))):=by
 obtain⟨i0,cU,hz0,hz1,hz2⟩:=eT Tryz.infoInt;have HF:=hid h;have HK:=hid (fun (V:World) (hV:fh V a L)=>af1 a ca L V hV hl hL);have HL:=hid hl;have DK:Hid (gB L=false ->bE L=11):=fun h=>az (by rw[h];decide);have j8:Hid (gB L=true ->(aY (aI L) L.length).length<L.length ->bE L=10):=fun h1 h2=>by rw[bE,ay h1,ay h2]
 have ri:Hid (gB L=true ->¬(aY (aI L) L.length).length<L.length ->bE L=0):=fun h1 h2=>by rw[bE,ay h1,az h2]
 have hPl:=lp L;have HPG:Hid (∀i (h:i<L.length),(aI L).getD i []=ag L[i]):=fun i h=>NB h;have Ml:Hid (gB L=true ->L.length<=8/\∀i (h:i<L.length),∀y∈L[i],0<=y):=fun h=>⟨(qg h).2.1,fun i hi=>Y0 (PA (qg h).2.2.1 hi)⟩;generalize bE L=ge at *;generalize aI L=P at *;clear h hl;cases hgb:gB L with
 |false=>
  have HE:=hid (DK.o hgb);rw[hgb] at HK;clear hgb DK j8 ri Ml;go_enter Tryz.func190,Tryz.ntmps190;go_wp2_with fail
  refine(HK.o _ HF.o).af ?_;rintro e w1 ⟨rfl,hb1⟩;go_wp2;go_ret2;exact⟨hb1,.inr ⟨by rw[HE.o];decide,by rw[HE.o];rfl⟩⟩
 |true=>
  have dZ:=hid (j8.o hgb);have fQ:=hid (ri.o hgb);obtain⟨h8,nB⟩:=Ml.o hgb;have FW:=hid nB;rw[hgb] at HK;clear hgb DK j8 ri Ml nB;have L9:Hid (aY P 0=[]):=rfl;have HLN:=hid (Ct P);have FK:Hid (∀k v,nj P (aY P k)=some v ->aY P (k+1)=aY P k++[v]):=fun k v h=>NM h
  have HST:Hid (∀k,k<L.length ->nj P (aY P k)=none ->(aY P L.length).length<L.length):=fun k h1 h2=>by
   have:=ahi P h2 (by omega);rwa [hPl] at this
  generalize hFF:aY P=F at *;clear hFF;go_enter Tryz.func190,Tryz.ntmps190;go_wp2_with fail
  refine(HK.o _ HF.o).af ?_;rintro e w1 ⟨rfl,hb1⟩;have eR:=hid hb1;clear hb1 HK;go_wp2_with fail
  go_loopw [5] (fun ov wr=>∃k:Nat,k<=L.length/\Hid ((F k).length=k)/\Hid (cX wr w.heap.size ov (iL (F k)))/\Hid (Below w.heap.size w wr)/\∃d cd,ov=.slice d k cd) (fun ov _=>L.length - (match ov with |.slice _ n _=>n |_=>0))
  case atStart=>exact⟨0,aU _,by rw[L9.o];rfl,by rw[L9.o];exact⟨rfl,.inl ⟨rfl,rfl⟩⟩,eR,none,0,rfl⟩
  case round=>
   obtain⟨k,hk,IL,HR,HB,d,cd,rfl⟩:=hrel;clear eR;by_cases hlt:k<L.length
   ·have hIo:ax wr d (iL (F k)):=by
     obtain⟨d',zi,e,hi⟩:=HR.o.ints;injection e with e1 e2 e3;subst e1;exact hi
    have Qj:=hid hIo;(have jB:(iL (F k)).length=k:=by rw[ba,IL.o])
    have IM:Hid (∀(x:Int) (V:World),ax V d (iL (F k)) ->Calls Tryz.prog 65 #[.int .i64 x,.slice d k cd] V fun e w'=>e=.returned (.bool (ie x (iL (F k))))/\w'=V):=fun x V hV=>by
     have:=RJ x d cd (iL (F k)) V hV (by omega);rwa [jB] at this
    have adr:Hid (∀x:Int,0<=x ->ie x (iL (F k))=decide (x.toNat∈F k)):=fun x hx=>aiT (F k) hx;have anl:=hid (FK.o k);have PZ:=hid (HST.o k hlt);have HFZ:=hid (akB P (F k));(have Mo:Hid (vF P (F k) L.length=none):=by rw[<- hPl];exact akD P (F k));have F7:Hid (∀j,j<L.length ->vF P (F k) j=if gJ P (F k) j=true then some j else vF P (F k) (j+1)):=fun j hj=>akC (by omega);clear hIo jB;go_wp2_with fail
    go_loopw [6,7] (fun nv vv wq=>∃j:Nat,j<=L.length/\vv=.int .i64 ((j:Int) - 1)/\nv=.int .i64 (ak9 (vF P (F k) j))/\wq=wr) (fun _ vv _=>(intOf vv+1).toNat)
    case atStart=>exact⟨L.length,ar _,by first |rfl |go_num,by rw[Mo.o];rfl,rfl⟩
    case round=>
     obtain⟨j,hj,rfl,rfl,rfl⟩:=hrel;cases j with
     |zero=>
      rw[HFZ.o];cases Ot:nj P (F k) with
      |none=>
       have HE:=hid (dZ.o (PZ.o Ot));clear Ot;go_wp2;go_ret2;exact⟨HB.o,.inr ⟨by rw[HE.o];decide,by rw[HE.o];rfl⟩⟩
      |some v=>
       have hS:=anl.o v Ot;(have Ws:Hid (iL (F (k+1))=iL (F k)++[(v:Int)]):=by show _=_;rw[hS,N9];rfl);(have vT:Hid ((F (k+1)).length=k+1):=by show _=_;rw[hS,dM,IL.o];rfl)
       have anA:Hid ((iL (F k)).length<=8):=by
        show (iL (F k)).length<=8;rw[ba,IL.o];omega
       (have hv0:(0:Int)<=(v:Int):=by omega);clear hS Ot;have xS:=hid HR.o.own;have ky:Hid (cX (wr.alloc (.cells #[.int .i64 (v:Nat)] 3)) w.heap.size _ (iL (F k))):=I7 HR.o _;have dC:=hid (HB.o.alloc HB.o.size (.cells #[.int .i64 (v:Nat)] 3));have F2:=hid (JS wr (v:Nat));go_wp2_with (at_builtin;refine GF rfl _ _ rfl w.heap.size _ (iL (F k)) [((v:Nat):Int)] rfl ky.o (some ⟨wr.heap.size,0,none⟩) 1 rfl F2.o (fun e=>by cases e) (by have:=anA.o;simp;omega) dC.o.size ?_;intro v' w5 oC wV)
       have Ke:=oC;rw[<- Ws.o] at Ke;obtain⟨d5,vH,rfl,_⟩:=Ke.ints;(have e5:(iL (F (k+1))).length=k+1:=by rw[ba,vT.o]);rw[e5];rw[e5] at Ke;have sW:=hid Ke;have eD:=hid (dC.o.grown wV dC.o.size xS.o);clear oC Ke wV e5;go_roundw
       case rel=>exact⟨k+1,by omega,vT,sW,eD,d5,vH,rfl⟩
       case measure=>show L.length - (k+1)<L.length - k;omega
     |succ j=>
      (have hjj:(((j+1:Nat):Int) - 1)=(j:Int):=by omega);rw[hjj];obtain⟨g,o,b,c,rfl,hg,c0,hI⟩:=(HF.o.aa HB.o) j (by omega);have dh:=HL.o L[j] (bH (by omega));have HNJ:=hid (FW.o j (by omega));have HPJ:=hid (HPG.o j (by omega));have BK:=hid (adr.o (j:Int) (by omega));have adj:=hid (akK P (F k) j);have Wu:=hid hI;have HFJ:=hid (F7.o j (by omega));have zJ:Hid (∀p,P.getD j []=p ->rK P (F k) j p.length=gJ P (F k) j):=fun p hp=>akM hp;have HFU:Hid (∀p i (h:i<p.length),P.getD j []=p ->rK P (F k) j (i+1)=(rK P (F k) j i&&decide (p[i]∈F k))):=fun p i h hp=>akL hp h;generalize L[j]'(by omega)=l at *;clear hI hjj;go_wp2_with fail
      refine(IM.o (j:Int) _ Qj.o).af ?_;rintro e w2 ⟨rfl,rfl⟩;rw[BK.o,pT];have BR:Hid ((!decide (j∈F k))=rK P (F k) j 0):=adj.o.symm;clear BK adj;generalize decide (j∈F k)=q at *;go_wp2_with fail
      go_loopw [8,9] (fun bv iv wz=>∃i:Nat,i<=l.length/\iv=.int .i64 i/\bv=.bool (rK P (F k) j i)/\wz=w2) (fun _ iv _=>l.length - (intOf iv).toNat)
      case atStart=>exact⟨0,aU _,rfl,by rw[BR.o],rfl⟩
      case round=>
       obtain⟨i,hi,rfl,rfl,rfl⟩:=hrel;by_cases jB:i<l.length
       ·obtain⟨g',o',rfl,iK,c1⟩:=Wu.o i jB;have nB:=HNJ.o l[i] (bH jB);have oU:=HFU.o (ag l) i (by rw[cS];exact jB) HPJ.o;rw[o6 jB] at oU;have HUX:=hid oU;have HBB:=hid (adr.o l[i] nB);clear oU;generalize l[i]=x at *;go_wp2_with fail
        refine(IM.o x _ Qj.o).af ?_;rintro e w3 ⟨rfl,rfl⟩;rw[HBB.o];generalize rG:rK P (F k) j (i+1)=q1 at *;generalize decide (x.toNat∈F k)=q2 at *;generalize rK P (F k) j i=q3 at *;have gA:=hid rG;clear rG;cases q3 with
        |false=>
         have hq:q1=false:=HUX.o;subst hq;go_wp2;go_roundw
         case rel=>exact⟨i+1,by omega,by go_num,by rw[gA.o],trivial⟩
         case measure=>simp[intOf];omega
        |true=>
         have hq:q1=q2:=HUX.o;subst hq;go_wp2;go_roundw
         case rel=>exact⟨i+1,by omega,by go_num,by rw[gA.o],trivial⟩
         case measure=>simp[intOf];omega
       ·obtain rfl:i=l.length:=by omega
        have A0:=zJ.o (ag l) HPJ.o;rw[cS] at A0;rw[A0];have HJ:=HFJ.o;cases hfb:gJ P (F k) j with
        |false=>
         rw[hfb,az (by decide)] at HJ;have Wq:=hid HJ;clear HJ A0 hfb;go_wp2;go_roundw
         case rel=>exact⟨j,by omega,by first |rfl |go_num,by rw[Wq.o],trivial⟩
         case measure=>simp[intOf]
        |true=>
         rw[hfb,ay rfl] at HJ;have Wq:=hid HJ;clear HJ A0 hfb;go_wp2;go_roundw
         case rel=>exact⟨j,by omega,by first |rfl |go_num,by rw[Wq.o];rfl,trivial⟩
         case measure=>simp[intOf]
   ·obtain rfl:k=L.length:=by omega
    have HE:=hid (fQ.o (by rw[IL.o];omega));have j6:=HR;go_wp2;go_ret2;exact⟨HB.o,.inl ⟨HE.o,_,rfl,HR.o⟩⟩
theorem af5 (a:Option Addr) (ca:Nat) (L:List (List Int)) (w:World) (h:fh w a L) (hl:∀l∈L,l.length<=140737488355328) (hL:L.length<=140737488355328):
  Calls Tryz.prog 136 #[.slice a L.length ca] w fun e w'=>e=.returned (.int .i64 (bE L))/\Below w.heap.size w w':=by
 have HF:=hid h;have HR:=hid (fun (V:World) (hV:fh V a L)=>afV a ca L V hV hl hL);generalize bE L=ge at *;clear h hl;go_enter Tryz.func136,Tryz.ntmps136;go_wp2_with fail
 refine(HR.o _ HF.o).af ?_;rintro e w1 ⟨hb,⟨rfl,x,rfl,hU⟩ |⟨hg,rfl⟩⟩
 ·clear hU;go_wp2;go_ret;exact⟨rfl,hb⟩
 ·clear hg;go_wp2;go_ret;exact⟨rfl,hb⟩
variable {ops:Array Oper} {rest:List Oper}
theorem adN {o:Oper} {a:Act} {Q:Exit ->Act ->World ->Prop} (hgd:o.guard=none) (s x:Operand)
  (ho:o.op=.call {callee:=.builtin .append,args:= #[s,x],argTypes:= #[27,27]}) (base:Nat) (v:Value) (l:List Int) (f:Int) (hs:a.eval s=v) (hown:cX w base v l) (g:Nat) (hx:a.eval x=.slice (some ⟨g,0,none⟩) 1 1) (hg:w.cell? ⟨g,0,none⟩=some (.int .i64 f)) (hlen:l.length+1<=100000) (hbase:base<=w.heap.size)
  (h:∀v' w',cX w' base v' (l++[f]) ->w.grownBy w' v.ownBlock ->(v'.ownBlock=v.ownBlock∨∀k,v'.ownBlock=some k ->w.heap.size<=k) ->wpList Tryz.prog ops Q rest (a.put o.dst v') w'):wpList Tryz.prog ops Q (o::rest) a w:=by
 obtain⟨i0,cU,hz0,hz1,hz2⟩:=eT Tryz.infoInt
 have hnews:∀j u,[Value.int .i64 f][j]? =some u ->w.cell? ((⟨g,0,none⟩:Addr).add j)=some u:=fun j u hj=>by
  match j,hj with
  |0,hj=>cases hj;exact hg
  |j+1,hj=>simp at hj
 have yQ:∀u∈[Value.int .i64 f],u.oneCell'=true:=fun u hu=>by
  simp only[dK,qG,B3] at hu;subst hu;rfl
 have hmax:l.length+1<=maxLen:=by unfold maxLen;omega
 obtain⟨v',w',hr,h2,h3, -⟩:=run_append_own (P:=Tryz.prog) w base 27 o.type 3 i0 (.int .i64 0) 1 8 Tryz.underlying27 cU hz0 hz1 hz2 rfl (by decide) v l.length _ hown ⟨g,0,none⟩ 1 1 [.int .i64 f] rfl hnews yQ hmax (by omega) hbase
 have hnew:v'.ownBlock=v.ownBlock∨∀k,v'.ownBlock=some k ->w.heap.size<=k:=by
  rcases hown.2 with ⟨h4,h5⟩ |⟨g',cap,cur,h4,hbg,iK,CL,hcm,hcs,aaT⟩
  ·right
   have e:=run_append_nil (P:=Tryz.prog) w 27 o.type 3 i0 (.int .i64 0) Tryz.underlying27 cU hz0 ⟨g,0,none⟩ 1 1 [.int .i64 f] (by rw[hz1];rfl) hnews (by decide) (by decide) (by rw[hz2];decide);rw[h4] at hr;rw[hr] at e;cases e;intro k hk;cases hk;exact ar _
  ·rw[h4] at hr;by_cases hroom:l.length+1<=cap
   ·left
    have e:=run_append_room (P:=Tryz.prog) w 27 o.type 3 i0 Tryz.underlying27 cU g' l.length cap cur iK ⟨g,0,none⟩ 1 1 [.int .i64 f] (by rw[hz1];rfl) hnews yQ hroom (by rw[hz1,hcs];simp;omega);rw[hr] at e;cases e;rw[h4];rfl
   ·right
    have hown':=hown;rw[h4] at hown';have e:=run_append_grow (P:=Tryz.prog) w 27 o.type 3 i0 (.int .i64 0) Tryz.underlying27 cU hz0 ⟨g',0,none⟩ l.length cap (l.map (Value.int .i64)) (by rw[hz1];simp) (World.ownsRow.cells hown' rfl) ⟨g,0,none⟩ 1 1 [.int .i64 f] (by rw[hz1];rfl) hnews (by omega) (by omega) (ME (by omega) (by rw[hz2];omega));rw[hr] at e;cases e;intro k hk;cases hk;exact ar _
 refine wpList_plain hgd fun _ hK=>?_;unfold Oper.wp execOp;simp only[ho,resolve,invoke,builtin,I8,DZ,zR,Je,gQ,ld,hs,hx,hr];refine hK _ _ (h v' w' ?_ h3 hnew);rw[cX,dM,fY];exact h2
section
attribute [local go_sem] Oper.semAt_some
theorem YT {P:Program} (w:World) (base:Nat) (t ty e:TypeId) (i:TypeInfo) (z:Value) (size bytes:Nat) (ht:P.underlying t=some (.slice e)) (hi:P.info? e=some i) (hz:i.zero=some z) (hsize:i.size=size) (hby:i.bytes=bytes) (hzs:z.cells.size=size) (hsz:0<size)
  (v:Value) (n:Nat) (xs:List Value) (hown:w.ownsRow base e size v n xs) (a:Addr) (m c:Nat) (news:List Value) (hl:news.length=m*size) (hnews:∀j u,news[j]? =some u ->w.cell? (a.add j)=some u) (h1:∀u∈news,u.oneCell'=true)
  (h63:n+m<=maxLen) (hbytes:(n+m)*bytes<=140737488355328) (hbase:base<=w.heap.size) (hm:0<m):
  ∃v' w',(Builtin.append_ #[t,t] ty #[v,.slice (some a) m c]).run P w=.ok v' w'/\w'.ownsRow base e size v' (n+m) (xs++news)/\w.grownBy w' v.ownBlock/\(v'.ownBlock=v.ownBlock∨∀k,v'.ownBlock=some k ->w.heap.size<=k):=by
 obtain⟨v',w',hr,h2,h3, -⟩:=run_append_own (P:=P) w base t ty e i z size bytes ht hi hz hsize hby hzs hsz v n xs hown a m c news hl hnews h1 h63 hbytes hbase;refine⟨v',w',hr,h2,h3,?_⟩;have an3:n+m<=9223372036854775807:=by simp only[maxLen] at h63;omega
 subst hsize;subst hby
 rcases hown.2 with ⟨h4,h5⟩ |⟨g',cap,cur,h4,hbg,iK,CL,hcm,hcs,aaT⟩
 ·right
  have e':=run_append_nil (P:=P) w t ty e i z ht hi hz a m c news hl hnews hm (by omega) (by
   have hb:=hbytes;rw[h5,bT] at hb;omega)
  rw[h4] at hr;rw[hr] at e';cases e';intro k hk;cases hk;exact ar _
 ·rw[h4] at hr;by_cases hroom:n+m<=cap
  ·left
   (have oJ:n*i.size+news.length<=cur.size:=by rw[hl,hcs, <- fW];exact jK _ hroom);have e':=run_append_room (P:=P) w t ty e i ht hi g' n cap cur iK a m c news hl hnews h1 hroom oJ;rw[hr] at e';cases e';rw[h4];rfl
  ·right
   have hown':=hown;rw[h4] at hown';have e':=run_append_grow (P:=P) w t ty e i z ht hi hz ⟨g',0,none⟩ n cap xs hown'.1 (World.ownsRow.cells hown' rfl) a m c news hl hnews (by omega) (by omega) (ME (by omega) hbytes);rw[hr] at e';cases e';intro k hk;cases hk;exact ar _
end
def qM (c:Nat):Bool:=decide (97<=c/\c<=122)
def xA (c:Nat):Bool:=decide (48<=c/\c<=57)
def o5 (c:Nat):Bool:=qM c ||xA c ||decide (c=95)
def pU (s:ByteArray):Bool:=(s.data.toList.all fun c=>o5 c.toNat)&&qM (s.data.toList.headD 0).toNat
def isVar (s:ByteArray):Bool:=s.toList==[118,97,114]
def EA (s:ByteArray):Bool:=s.toList==[101,108,115,101]
def uR (s:ByteArray):Bool:=decide (s.size<=12)&&!isVar s&&!EA s&&pU s
theorem aap (c:Nat) (w:World):Calls Tryz.prog 247 #[.int .u8 (c:Nat)] w fun e w'=>e=.returned (.bool (qM c))/\w'=w:=by
 rw[qM];by_cases h1:97<=c
 ·have HE:Hid (decide ((c:Int)<=122)=decide (97<=c/\c<=122)):=zP.2 ⟨fun h=>⟨h1,by omega⟩,fun h=>by omega⟩;have e1:(97:Int)<=(c:Int):=by omega
  go_enter Tryz.func247,Tryz.ntmps247;go_wp2;go_ret;exact⟨by rw[<- HE.o];rfl,rfl⟩
 ·have HE:Hid (decide (97<=c/\c<=122)=false):=cz fun h=>h1 h.1;rw[HE.o];have e1:(c:Int)<97:=by omega
  clear h1;go_enter Tryz.func247,Tryz.ntmps247;go_wp2;go_ret;exact⟨rfl,rfl⟩
theorem af2 (c:Nat) (w:World):Calls Tryz.prog 250 #[.int .u8 (c:Nat)] w fun e w'=>e=.returned (.bool (qM c))/\w'=w:=by
 rw[qM];by_cases h1:97<=c
 ·have HE:Hid (decide ((c:Int)<=122)=decide (97<=c/\c<=122)):=zP.2 ⟨fun h=>⟨h1,by omega⟩,fun h=>by omega⟩;have e1:(97:Int)<=(c:Int):=by omega
  go_enter Tryz.func250,Tryz.ntmps250;go_wp2;go_ret;exact⟨by rw[<- HE.o];rfl,rfl⟩
 ·have HE:Hid (decide (97<=c/\c<=122)=false):=cz fun h=>h1 h.1;rw[HE.o];have e1:(c:Int)<97:=by omega
  clear h1;go_enter Tryz.func250,Tryz.ntmps250;go_wp2;go_ret;exact⟨rfl,rfl⟩
theorem ah3 (c:Nat) (w:World):Calls Tryz.prog 257 #[.int .u8 (c:Nat)] w fun e w'=>e=.returned (.bool (xA c))/\w'=w:=by
 rw[xA];by_cases h1:48<=c
 ·have HE:Hid (decide ((c:Int)<=57)=decide (48<=c/\c<=57)):=zP.2 ⟨fun h=>⟨h1,by omega⟩,fun h=>by omega⟩;have e1:(48:Int)<=(c:Int):=by omega
  go_enter Tryz.func257,Tryz.ntmps257;go_wp2;go_ret;exact⟨by rw[<- HE.o];rfl,rfl⟩
 ·have HE:Hid (decide (48<=c/\c<=57)=false):=cz fun h=>h1 h.1;rw[HE.o];have e1:(c:Int)<48:=by omega
  clear h1;go_enter Tryz.func257,Tryz.ntmps257;go_wp2;go_ret;exact⟨rfl,rfl⟩
theorem af8 (c:Nat) (w:World):Calls Tryz.prog 251 #[.int .u8 (c:Nat)] w fun e w'=>e=.returned (.bool (xA c))/\w'=w:=by
 rw[xA];by_cases h1:48<=c
 ·have HE:Hid (decide ((c:Int)<=57)=decide (48<=c/\c<=57)):=zP.2 ⟨fun h=>⟨h1,by omega⟩,fun h=>by omega⟩;have e1:(48:Int)<=(c:Int):=by omega
  go_enter Tryz.func251,Tryz.ntmps251;go_wp2;go_ret;exact⟨by rw[<- HE.o];rfl,rfl⟩
 ·have HE:Hid (decide (48<=c/\c<=57)=false):=cz fun h=>h1 h.1;rw[HE.o];have e1:(c:Int)<48:=by omega
  clear h1;go_enter Tryz.func251,Tryz.ntmps251;go_wp2;go_ret;exact⟨rfl,rfl⟩
theorem ah0 (c:Nat) (w:World):Calls Tryz.prog 246 #[.int .u8 (c:Nat)] w fun e w'=>e=.returned (.bool (o5 c))/\w'=w:=by
 have HW:Hid (o5 c=(qM c ||xA c ||decide (c=95))):=rfl;have HL:=hid (aap c);have HF:=hid (ah3 c);generalize o5 c=r at *;go_enter Tryz.func246,Tryz.ntmps246;go_wp2_with fail
 refine(HL.o _).af ?_;rintro e w1 ⟨rfl,rfl⟩;cases hl:qM c with
 |true=>
  rw[hl] at HW;have HE:Hid (r=true):=HW.o;clear hl;go_wp2;go_ret;exact⟨by rw[HE.o];rfl,rfl⟩
 |false=>
  rw[hl] at HW;go_wp2_with fail
  refine(HF.o _).af ?_;rintro e w2 ⟨rfl,rfl⟩;cases hf:xA c with
  |true=>
   rw[hf] at HW;have HE:Hid (r=true):=HW.o;clear hl hf;go_wp2;go_ret;exact⟨by rw[HE.o];rfl,rfl⟩
  |false=>
   rw[hf] at HW
   have HE:Hid (r=((c:Int)==95)):=by
    show _=_;rw[HW.o,Bool.false_or,Bool.false_or,ry,ei,rp];omega
   clear hl hf;go_wp2;go_ret;exact⟨by rw[HE.o];rfl,rfl⟩
variable {c k:Nat}
theorem XY {s:ByteArray} (h:k<s.size):s.data.toList.take (k+1)=s.data.toList.take k++[s[k]]:=by
 have h':k<s.data.toList.length:=by simpa using h
 rw[fR h'];rfl
theorem Xv {s:ByteArray} (h:k<s.size) (e:o5 s[k].toNat=false):pU s=false:=by
 have hm:s[k]∈s.data.toList:=by
  have:s.data.toList[k]'(by simpa using h)=s[k]:=rfl;rw[<- this];exact bH _
 have:(s.data.toList.all fun c=>o5 c.toNat)=false:=by
  rw[Gw];exact⟨_,hm,by rw[e];decide⟩
 rw[pU,this];rfl
theorem abu {s:ByteArray} (h:0<s.size):s.data.toList.headD 0=s[0]:=by
 obtain⟨⟨l⟩⟩:=s;cases l with
 |nil=>exact absurd h (by decide)
 |cons c l=>rfl
theorem Xu {s:ByteArray} (h:0<s.size) (e:(s.data.toList.take s.size).all (fun c=>o5 c.toNat)=true):pU s=qM s[0].toNat:=by
 have e2:s.data.toList.all (fun c=>o5 c.toNat)=true:=by
  rwa [jd (by simp)] at e
 rw[pU,e2,Jj,abu h]
theorem adV (h:qM c=true):o5 c=true:=by rw[o5,h];rfl
theorem ahZ (s:ByteArray) (w:World) (hs:s.size<=140737488355328):
  Calls Tryz.prog 221 #[.string s] w fun e w'=>e=.returned (.bool (uR s))/\w'=w:=by
 have HN:Hid (uR s=(decide (s.size<=12)&&!isVar s&&!EA s&&pU s)):=rfl;have LG:=hid (fun k h e=>Xv (s:=s) (k:=k) h e);have VL:=hid (fun h e=>Xu (s:=s) h e)
 have VM:Hid (s.size=0 ->pU s=false):=fun h=>by
  have:s.data.toList=[]:=Ee.1 (by rw[yu];exact h);rw[pU,this];rfl
 generalize uR s=nb at *;generalize pU s=wb at *;by_cases h0:s.size=0
 ·have HE:Hid (nb=false):=by show _=_;rw[HN.o,VM.o h0];simp
  have e1:(s.size:Int)<1:=by omega
  clear h0 HN;go_enter Tryz.func221,Tryz.ntmps221;go_wp2;go_ret;exact⟨by rw[HE.o];rfl,rfl⟩
 by_cases vE:12<s.size
 ·have HE:Hid (nb=false):=by show _=_;rw[HN.o,cz (show ¬s.size<=12 by omega)];rfl
  have e1:(1:Int)<=(s.size:Int):=by omega
  have e2:(12:Int)<(s.size:Int):=by omega
  clear h0 HN;go_enter Tryz.func221,Tryz.ntmps221;go_wp2;go_ret;exact⟨by rw[HE.o];rfl,rfl⟩
 have e1:(1:Int)<=(s.size:Int):=by omega
 have e2:(s.size:Int)<=12:=by omega
 cases hv:isVar s with
 |true=>
  have HE:Hid (nb=false):=by show _=_;rw[HN.o,hv];simp
  rw[isVar] at hv;clear HN h0 vE;go_enter Tryz.func221,Tryz.ntmps221;go_wp2;go_ret;exact⟨by rw[HE.o];rfl,rfl⟩
 |false=>
  cases he:EA s with
  |true=>
   (have HE:Hid (nb=false):=by show _=_;rw[HN.o,he];simp);rw[isVar] at hv;rw[EA] at he;clear HN h0 vE;go_enter Tryz.func221,Tryz.ntmps221;go_wp2;go_ret;exact⟨by rw[HE.o];rfl,rfl⟩
  |false=>
   (have HE:Hid (nb=wb):=by show _=_;rw[HN.o,hv,he,cJ (show s.size<=12 by omega)];simp);rw[isVar] at hv;rw[EA] at he;(have h1:0<s.size:=by omega);clear HN h0 vE;go_enter Tryz.func221,Tryz.ntmps221;go_wp2_with fail
   go_loopw [22] (fun iv wr=>∃k:Nat,k<=s.size/\iv=.int .i64 k/\Hid ((s.data.toList.take k).all (fun c=>o5 c.toNat)=true)/\wr=w) (fun iv _=>s.size - (intOf iv).toNat)
   case atStart=>exact⟨0,aU _,rfl,rfl,rfl⟩
   case round=>
    obtain⟨k,hk,rfl,HA,rfl⟩:=hrel;by_cases hlt:k<s.size
    ·have HB:=hid (LG.o k hlt)
     have HT:Hid (o5 s[k].toNat=true ->(s.data.toList.take (k+1)).all (fun c=>o5 c.toNat)=true):=fun h=>by
      rw[XY hlt,MU,HA.o];simp[h]
     go_wp2_with fail
     refine(ah0 s[k].toNat _).af ?_;rintro e w1 ⟨rfl,rfl⟩;cases hw:o5 s[k].toNat with
     |false=>
      have HF:=hid (HB.o hw);clear hw;go_wp2;go_ret;exact⟨by rw[HE.o,HF.o];rfl,rfl⟩
     |true=>
      have HS:=hid (HT.o hw);clear hw;go_wp2;go_roundw
      case rel=>exact⟨k+1,by omega,by go_num,HS,trivial⟩
      case measure=>simp[intOf];omega
    ·obtain rfl:k=s.size:=by omega
     have HF:=hid (VL.o h1 HA.o);go_wp2_with fail
     refine(aap s[0].toNat _).af ?_;rintro e w1 ⟨rfl,rfl⟩;go_wp2;go_ret;exact⟨by rw[HE.o,HF.o];rfl,rfl⟩
theorem adT {s:ByteArray} (h:0<s.size) (e:qM s[0].toNat=false):pU s=false:=by rw[pU,abu h,e,MZ]
theorem afJ (s:ByteArray) (w:World) (hs:s.size<=140737488355328):
  Calls Tryz.prog 232 #[.string s] w fun e w'=>e=.returned (.bool (pU s))/\w'=w:=by
 have LG:=hid (fun k h e=>Xv (s:=s) (k:=k) h e);have uo:=hid (fun h e=>adT (s:=s) h e);have VL:=hid (fun h e=>Xu (s:=s) h e)
 have VM:Hid (s.size=0 ->pU s=false):=fun h=>by
  have:s.data.toList=[]:=Ee.1 (by rw[yu];exact h);rw[pU,this];rfl
 generalize pU s=wb at *;go_enter Tryz.func232,Tryz.ntmps232;go_wp2_with fail
 go_loopw [3] (fun iv wr=>∃k:Nat,k<=s.size/\iv=.int .i64 k/\Hid ((s.data.toList.take k).all (fun c=>o5 c.toNat)=true/\(0< k ->∀h:0<s.size,qM s[0].toNat=true))/\wr=w) (fun iv _=>s.size - (intOf iv).toNat)
 case atStart=>exact⟨0,aU _,rfl,⟨rfl,fun h=>absurd h (by omega)⟩,rfl⟩
 case round=>
  obtain⟨k,hk,rfl,HA,rfl⟩:=hrel;by_cases hlt:k<s.size
  ·have HB:=hid (LG.o k hlt)
   have HT:Hid (o5 s[k].toNat=true ->(0<k∨qM s[k].toNat=true) ->(s.data.toList.take (k+1)).all (fun c=>o5 c.toNat)=true/\(0<k+1 ->∀h:0<s.size,qM s[0].toNat=true)):=fun h h'=>⟨by
    rw[XY hlt,MU,HA.o.1]
    simp[h],fun _ h0=>h'.elim (fun h2=>HA.o.2 h2 h0) fun h2=>by
     by_cases e:k=0
     ·subst e;exact h2
     ·exact HA.o.2 (by omega) h0⟩
   have sS:Hid (o5 s[k].toNat=(qM s[k].toNat ||xA s[k].toNat ||decide (s[k].toNat=95))):=rfl;go_wp2_with fail
   refine(af2 s[k].toNat _).af ?_;rintro e w1 ⟨rfl,rfl⟩;go_wp2_with fail
   refine(af8 s[k].toNat _).af ?_;rintro e w2 ⟨rfl,rfl⟩;cases hl:qM s[k].toNat with
   |true=>
    have HS:=hid (HT.o (adV hl) (.inr hl));clear hl;generalize xA s[k].toNat=q at *;go_wp2;go_roundw
    case rel=>exact⟨k+1,by omega,by go_num,HS,trivial⟩
    case measure=>simp[intOf];omega
   |false=>
    rw[hl] at sS;by_cases hk0:k=0
    ·subst hk0;have HF:=hid (uo.o hlt hl);clear hl;generalize xA s[0].toNat=q at *;go_wp2;go_ret;exact⟨by rw[HF.o];rfl,rfl⟩
    ·have hkb:((k:Int)==0)=false:=by
      (have:¬(k:Int)=0:=by omega);simpa using this
     have yU:0<k:=by omega
     cases hf:xA s[k].toNat with
     |true=>
      rw[hf] at sS;have HS:=hid (HT.o sS.o (.inl yU));clear hl hf hk0;go_wp2;go_roundw
      case rel=>exact⟨k+1,by omega,by go_num,HS,trivial⟩
      case measure=>simp[intOf];omega
     |false=>
      rw[hf] at sS;by_cases OW:s[k].toNat=95
      ·have HS:=hid (HT.o (by rw[sS.o,OW];rfl) (.inl yU));(have h9:(((s[k].toNat:Nat):Int) !=95)=false:=by rw[OW];rfl);clear hl hf hk0;go_wp2;go_roundw
       case rel=>exact⟨k+1,by omega,by go_num,HS,trivial⟩
       case measure=>simp[intOf];omega
      ·have HF:=hid (HB.o (by rw[sS.o,cz OW];rfl))
       have h9:(((s[k].toNat:Nat):Int) !=95)=true:=by
        (have:¬((s[k].toNat:Nat):Int)=95:=by omega);simpa using this
       clear hl hf hk0 OW;go_wp2;go_ret;exact⟨by rw[HF.o];rfl,rfl⟩
  ·obtain rfl:k=s.size:=by omega
   by_cases h0:s.size=0
   ·have HF:=hid (VM.o h0)
    have HI:Hid (s.toList.isEmpty=true):=by
     have:s.data.toList=[]:=Ee.1 (by rw[yu];exact h0);show _=_;rw[toList_data,this];rfl
    clear h0 hlt;go_wp2;go_ret;exact⟨by rw[HF.o,HI.o];rfl,rfl⟩
   ·have HF:=hid (VL.o (by omega) HA.o.1);have HL:=hid (HA.o.2 (by omega) (by omega))
    have HI:Hid (s.toList.isEmpty=false):=by
     have:¬s.data.toList=[]:=fun e=>h0 (by have:=bR List.length e;rwa [yu] at this);show _=_;rw[toList_data];simpa using this
    clear hlt;go_wp2;go_ret;exact⟨by rw[HF.o,HL.o,HI.o];rfl,rfl⟩
theorem afX (s:ByteArray) (w:World) (hs:s.size<=140737488355328):
  Calls Tryz.prog 191 #[.string s] w fun e w'=>e=.returned (.bool (uR s))/\w'=w:=by
 have HN:Hid (uR s=(decide (s.size<=12)&&!isVar s&&!EA s&&pU s)):=rfl;have HW:=hid (fun V:World=>afJ s V hs);generalize uR s=nb at *;generalize pU s=wb at *;cases wb with
 |false=>
  have HE:Hid (nb=false):=by show _=_;rw[HN.o,MZ]
  clear HN;go_enter Tryz.func191,Tryz.ntmps191;go_wp2_with fail
  refine(HW.o _).af ?_;rintro e w1 ⟨rfl,rfl⟩;go_wp2;go_ret;exact⟨by rw[HE.o];rfl,rfl⟩
 |true=>
  by_cases vE:12<s.size
  ·have HE:Hid (nb=false):=by show _=_;rw[HN.o,cz (show ¬s.size<=12 by omega)];rfl
   (have e2:(12:Int)<(s.size:Int):=by omega);clear HN;go_enter Tryz.func191,Tryz.ntmps191;go_wp2_with fail
   refine(HW.o _).af ?_;rintro e w1 ⟨rfl,rfl⟩;go_wp2;go_ret;exact⟨by rw[HE.o];rfl,rfl⟩
  have e2:(s.size:Int)<=12:=by omega
  cases hv:isVar s with
  |true=>
   (have HE:Hid (nb=false):=by show _=_;rw[HN.o,hv];simp);rw[isVar] at hv;(have hv':(s.toList !=[118,97,114])=false:=by rw[bne,hv];rfl);clear HN vE;go_enter Tryz.func191,Tryz.ntmps191;go_wp2_with fail
   refine(HW.o _).af ?_;rintro e w1 ⟨rfl,rfl⟩;go_wp2;go_ret;exact⟨by rw[HE.o];rfl,rfl⟩
  |false=>
   (have WH:Hid (nb=(s.toList !=[101,108,115,101])):=by show _=_;rw[HN.o,hv,cJ (show s.size<=12 by omega),Bool.and_true,bne,EA];simp);rw[isVar] at hv;(have hv':(s.toList !=[118,97,114])=true:=by rw[bne,hv];rfl);clear HN vE;go_enter Tryz.func191,Tryz.ntmps191;go_wp2_with fail
   refine(HW.o _).af ?_;rintro e w1 ⟨rfl,rfl⟩;go_wp2;go_ret;exact⟨by rw[WH.o];rfl,rfl⟩
variable {a:Option Addr}
def my (w:World) (a:Option Addr) (l:List ByteArray):Prop:=∀k (h:k<l.length),∃g o,a=some ⟨g,o,none⟩/\g<w.heap.size/\w.cell? ⟨g,o+k,none⟩=some (.string l[k])
theorem my.aa {l:List ByteArray} (h:my w a l) (hb:Below w.heap.size w w'):my w' a l:=fun k hk=>by
 obtain⟨g,o,h1,h2,h3⟩:=h k hk;exact⟨g,o,h1,aR h2 hb.size,(hb.cell (p:=⟨g,o+k,none⟩) h2).trans h3⟩
theorem my.take {l:List ByteArray} (h:my w a l) (i:Nat):my w a (l.take i):=fun k hk=>by
 have dH:k<l.length:=by rw[eZ] at hk;omega
 obtain⟨g,o,h1,h2,h3⟩:=h k dH;refine⟨g,o,h1,h2,?_⟩;rw[Aa];exact h3
def iO (f:Nat ->Int):Nat ->Int
 |0=>0
 |n+1=>if iO f n=0 then f n else iO f n
theorem zb {f:Nat ->Int}:∀ {n:Nat},(∀j,j< n ->f j=0) ->iO f n=0
 |0,_=>rfl
 |n+1,h=>by rw[iO,ay (zb fun j hj=>h j (by omega)),h n (by omega)]
theorem Bd {f:Nat ->Int} (h:∀j,j< i ->f j=0) (hi:f i≠0):∀ {n:Nat},i< n ->iO f n=f i
 |0,hn=>by omega
 |n+1,hn=>by
  rcases cD i n with h1 |h1
  ·rw[iO,Bd h hi h1,az hi]
  ·obtain rfl:i=n:=by omega
   rw[iO,ay (zb h)]
theorem Eh {f:Nat ->Int} (h:∀j,j< i ->f j=0) (hi:f i=0):∀j,j<i+1 ->f j=0:=fun j hj=>by
 rcases cD j i with h1 |h1
 ·exact h j h1
 ·obtain rfl:j=i:=by omega
  exact hi
def uU (l:List ByteArray) (v:ByteArray):Bool:=l.any fun x=>decide (x=v)
def rC (l:List ByteArray) (i:Nat):Int:=if uR (l.getD i ⟨#[]⟩)=true then(if uU (l.take i) (l.getD i ⟨#[]⟩)=true then 7 else 0) else 4
def iw (l:List ByteArray):Int:=iO (rC l) l.length
theorem UE {l:List ByteArray} (h:i<l.length):l.getD i ⟨#[]⟩=l[i]:=by rw[List.getD_eq_getElem?_getD,List.getElem?_eq_getElem h];rfl
def o7 (l:List ByteArray) (v:ByteArray):Int:=match l.findIdx? (fun x=>decide (x=v)) with
 |some i=>(i:Int)
 |none=> -1
theorem Pt {a b:ByteArray}:(a.toList==b.toList)=decide (a=b):=by
 rw[ry,rp,ei];constructor
 ·intro h;rw[toList_data,toList_data] at h;obtain⟨⟨x⟩⟩:=a;obtain⟨⟨y⟩⟩:=b;simp only at h;rw[h]
 ·intro h;rw[h]
theorem Zs {l:List ByteArray} {v:ByteArray} (h:i<l.length) (e:l[i]=v) (hn:∀j (hj:j<l.length),j< i ->¬l[j]=v):o7 l v=i:=by
 have:l.findIdx? (fun x=>decide (x=v))=some i:=Xh.2 ⟨h,cJ e,fun j hj=>by
  rw[ei];exact hn j (by omega) hj⟩
 rw[o7,this]
theorem Zr {l:List ByteArray} {v:ByteArray} (hn:∀j (hj:j<l.length),¬l[j]=v):o7 l v= -1:=by
 have:l.findIdx? (fun x=>decide (x=v))=none:=Xi.2 fun x hx=>by
  obtain⟨j,hj,rfl⟩:=iE hx;exact cz (hn j hj)
 rw[o7,this]
theorem agH (l:List ByteArray) (v:ByteArray):decide (0<=o7 l v)=uU l v:=by
 rw[ry,ei,uU,rX,o7];cases e:l.findIdx? (fun x=>decide (x=v)) with
 |some i=>
  obtain⟨h,hp,_⟩:=Xh.1 e;exact⟨fun _=>⟨l[i],bH h,hp⟩,fun _=>by show (0:Int)<=(i:Int);omega⟩
 |none=>
  have:=Xi.1 e;exact⟨fun h=>by exact absurd (show (0:Int)<= -1 from h) (by decide),fun ⟨x,hx,hp⟩=>by rw[this x hx] at hp;cases hp⟩
theorem agI {l:List ByteArray} (h:i<l.length):decide (o7 l l[i]<(i:Int))=uU (l.take i) l[i]:=by
 rw[ry,ei,uU,rX]
 have hex:∃k,l.findIdx? (fun x=>decide (x=l[i]))=some k:=by
  cases e:l.findIdx? (fun x=>decide (x=l[i])) with
  |some k=>exact⟨k,rfl⟩
  |none=>have:=Xi.1 e l[i] (bH h);simp at this
 obtain⟨k,hk⟩:=hex;obtain⟨h1,h2,h3⟩:=Xh.1 hk;have e:o7 l l[i]=k:=by rw[o7,hk]
 rw[e];constructor
 ·intro hlt;have hki:k<i:=by omega
  refine⟨l[k],?_,h2⟩;rw[List.mem_take_iff_getElem];exact⟨k,by omega,rfl⟩
 ·rintro⟨x,hx,hp⟩;obtain⟨j,hj,rfl⟩:=List.mem_take_iff_getElem.1 hx;rcases cD k i with h4 |h4
  ·omega
  ·exact absurd hp (h3 j (by omega))
theorem ae1 (a:Option Addr) (ca:Nat) (l:List ByteArray) (v:ByteArray) (w:World) (h:my w a l) (hn:l.length<=140737488355328):
  Calls Tryz.prog 248 #[.slice a l.length ca,.string v] w fun e w'=>e=.returned (.int .i64 (o7 l v))/\w'=w:=by
 have HF:=hid h;have HP:=hid (fun i h e hn=>Zs (l:=l) (v:=v) (i:=i) h e hn);have HQ:=hid (fun hn=>Zr (l:=l) (v:=v) hn);generalize o7 l v=r at *;clear h;go_enter Tryz.func248,Tryz.ntmps248;go_wp2_with fail
 go_loopw [8] (fun iv wr=>∃i:Nat,i<=l.length/\iv=.int .i64 i/\Hid (∀j (hj:j<l.length),j< i ->¬l[j]=v)/\wr=w) (fun iv _=>l.length - (intOf iv).toNat)
 case atStart=>exact⟨0,aU _,rfl,fun j _ h=>absurd h (by omega),rfl⟩
 case round=>
  obtain⟨i,hi,rfl,HN,rfl⟩:=hrel;by_cases hlt:i<l.length
  ·obtain⟨g,o,rfl,hg,c0⟩:=HF.o i hlt;have pH:=hid (fun e=>HP.o i hlt e HN.o)
   have j7:Hid (¬l[i]=v ->∀j (hj:j<l.length),j<i+1 ->¬l[j]=v):=fun h j hj ml=>by
    rcases cD j i with h2 |h2
    ·exact HN.o j hj h2
    ·obtain rfl:j=i:=by omega
     exact h
   generalize l[i]=x at *;by_cases e:x=v
   ·have HE:=hid (pH.o e);subst e;go_wp2;go_ret;exact⟨by rw[HE.o];rfl,rfl⟩
   ·have HE:=hid (j7.o e);(have e1:(v.toList==x.toList)=false:=by rw[Pt];exact cz fun h=>e h.symm);clear e;go_wp2;go_roundw
    case rel=>exact⟨i+1,by omega,by go_num,HE,trivial⟩
    case measure=>simp[intOf];omega
  ·obtain rfl:i=l.length:=by omega
   have HE:=hid (HQ.o fun j hj=>HN.o j hj hj);go_wp2;go_ret;exact⟨by rw[HE.o];rfl,rfl⟩
theorem ae3 (a:Option Addr) (ca:Nat) (l:List ByteArray) (v:ByteArray) (w:World) (h:my w a l) (hn:l.length<=140737488355328):
  Calls Tryz.prog 222 #[.slice a l.length ca,.string v] w fun e w'=>e=.returned (.bool (uU l v))/\w'=w:=by
 have HF:=hid h;have HI:=hid (fun (V:World) (hV:my V a l)=>ae1 a ca l v V hV hn);have HM:=hid (agH l v);generalize uU l v=m at *;generalize o7 l v=r at *;clear h;go_enter Tryz.func222,Tryz.ntmps222;go_wp2_with fail
 refine(HI.o _ HF.o).af ?_;rintro e w1 ⟨rfl,rfl⟩;go_wp2;go_ret;exact⟨by rw[<- HM.o];rfl,rfl⟩
theorem af4 (a:Option Addr) (ca:Nat) (l:List ByteArray) (v:ByteArray) (w:World) (h:my w a l) (hn:l.length<=140737488355328):
  Calls Tryz.prog 192 #[.slice a l.length ca,.string v] w fun e w'=>e=.returned (.int .i64 (o7 l v))/\w'=w:=by
 have HF:=hid h;have HP:=hid (fun i h e hn=>Zs (l:=l) (v:=v) (i:=i) h e hn);have HQ:=hid (fun hn=>Zr (l:=l) (v:=v) hn);generalize o7 l v=r at *;clear h;go_enter Tryz.func192,Tryz.ntmps192;go_wp2_with fail
 go_loopw [5] (fun iv wr=>∃i:Nat,i<=l.length/\iv=.int .i64 i/\Hid (∀j (hj:j<l.length),j< i ->¬l[j]=v)/\wr=w) (fun iv _=>l.length - (intOf iv).toNat)
 case atStart=>exact⟨0,aU _,rfl,fun j _ h=>absurd h (by omega),rfl⟩
 case round=>
  obtain⟨i,hi,rfl,HN,rfl⟩:=hrel;by_cases hlt:i<l.length
  ·obtain⟨g,o,rfl,hg,c0⟩:=HF.o i hlt;have pH:=hid (fun e=>HP.o i hlt e HN.o)
   have j7:Hid (¬l[i]=v ->∀j (hj:j<l.length),j<i+1 ->¬l[j]=v):=fun h j hj ml=>by
    rcases cD j i with h2 |h2
    ·exact HN.o j hj h2
    ·obtain rfl:j=i:=by omega
     exact h
   generalize l[i]=x at *;by_cases e:x=v
   ·have HE:=hid (pH.o e);subst e;go_wp2;go_ret;exact⟨by rw[HE.o];rfl,rfl⟩
   ·have HE:=hid (j7.o e);(have e1:(x.toList==v.toList)=false:=by rw[Pt];exact cz fun h=>e h);clear e;go_wp2;go_roundw
    case rel=>exact⟨i+1,by omega,by go_num,HE,trivial⟩
    case measure=>simp[intOf];omega
  ·obtain rfl:i=l.length:=by omega
   have HE:=hid (HQ.o fun j hj=>HN.o j hj hj);go_wp2;go_ret;exact⟨by rw[HE.o];rfl,rfl⟩
theorem aam {l:List ByteArray} (h:i<l.length) (e:uR l[i]=false):rC l i=4:=by rw[rC,UE h,e,az (by decide)]
theorem aao {l:List ByteArray} (h:i<l.length) (e:uR l[i]=true) (e':uU (l.take i) l[i]=true):rC l i=7:=by rw[rC,UE h,e,ay rfl,e',ay rfl]
theorem aan {l:List ByteArray} (h:i<l.length) (e:uR l[i]=true) (e':uU (l.take i) l[i]=false):rC l i=0:=by rw[rC,UE h,e,ay rfl,e',az (by decide)]
theorem acE (a:Option Addr) (ca:Nat) (l:List ByteArray) (w:World) (h:my w a l) (hn:l.length<=140737488355328) (hc:l.length<=ca) (hs:∀s∈l,s.size<=140737488355328):
  Calls Tryz.prog 174 #[.slice a l.length ca] w fun e w'=>e=.returned (.int .i64 (iw l))/\w'=w:=by
 have HF:=hid h;have fT:=hid hs;have HA:Hid (∀i,i<l.length ->(∀j,j< i ->rC l j=0) ->∀k,rC l i=k ->k≠0 ->iw l=k):=fun i hi hz k hk hk0=>by rw[iw,Bd hz (by rw[hk];exact hk0) hi,hk]
 have HZ:Hid ((∀j,j<l.length ->rC l j=0) ->iw l=0):=fun h=>zb h;have HW:=hid (fun i h e=>aam (l:=l) (i:=i) h e);have HD:=hid (fun i h e e'=>aao (l:=l) (i:=i) h e e');have HO:=hid (fun i h e e'=>aan (l:=l) (i:=i) h e e');generalize iw l=r at *;clear h hs;go_enter Tryz.func174,Tryz.ntmps174;go_wp2_with fail
 go_loopw [7] (fun iv wr=>∃i:Nat,i<=l.length/\iv=.int .i64 i/\Hid (∀j,j< i ->rC l j=0)/\wr=w) (fun iv _=>l.length - (intOf iv).toNat)
 case atStart=>exact⟨0,aU _,rfl,fun j h=>absurd h (by omega),rfl⟩
 case round=>
  obtain⟨i,hi,rfl,HN,rfl⟩:=hrel;by_cases hlt:i<l.length
  ·obtain⟨g,o,rfl,hg,c0⟩:=HF.o i hlt;have hsz:=fT.o l[i] (bH hlt);have Im:=hid (fun e=>HA.o i hlt HN.o 4 (HW.o i hlt e) (by decide));have WM:=hid (fun e e'=>HA.o i hlt HN.o 7 (HD.o i hlt e e') (by decide));have IC:=hid (fun e e'=>Eh HN.o (HO.o i hlt e e'));have PW:=hid (HF.o.take i);(have EH:(l.take i).length=i:=by rw[eZ];omega)
   have ye:Hid (∀(v:ByteArray) (V:World),my V (some ⟨g,o,none⟩) (l.take i) ->Calls Tryz.prog 222 #[.slice (some ⟨g,o,none⟩) i ca,.string v] V fun e w'=>e=.returned (.bool (uU (l.take i) v))/\w'=V):=fun v V hV=>by
    have:=ae3 (some ⟨g,o,none⟩) ca (l.take i) v V hV (by omega);rwa [EH] at this
   clear EH;generalize l[i]=x at *;go_wp2_with fail
   refine(ahZ x _ hsz).af ?_;rintro e w1 ⟨rfl,rfl⟩;cases jA:uR x with
   |false=>
    have HE:=hid (Im.o jA);clear jA;go_wp2;go_ret;exact⟨by rw[HE.o];rfl,rfl⟩
   |true=>
    go_wp2_with fail
    refine(ye.o x _ PW.o).af ?_;rintro e w2 ⟨rfl,rfl⟩;cases hm:uU (l.take i) x with
    |true=>
     have HE:=hid (WM.o jA hm);clear jA hm;go_wp2;go_ret;exact⟨by rw[HE.o];rfl,rfl⟩
    |false=>
     have HE:=hid (IC.o jA hm);clear jA hm;go_wp2;go_roundw
     case rel=>exact⟨i+1,by omega,by go_num,HE,trivial⟩
     case measure=>simp[intOf];omega
  ·obtain rfl:i=l.length:=by omega
   have HE:=hid (HZ.o HN.o);go_wp2;go_ret;exact⟨by rw[HE.o];rfl,rfl⟩
theorem Y9 (a:Option Addr) (ca:Nat) (l:List ByteArray) (w:World) (h:my w a l) (hn:l.length<=140737488355328) (hs:∀s∈l,s.size<=140737488355328):
  Calls Tryz.prog 137 #[.slice a l.length ca] w fun e w'=>e=.returned (.int .i64 (iw l))/\w'=w:=by
 have HF:=hid h;have fT:=hid hs;have HA:Hid (∀i,i<l.length ->(∀j,j< i ->rC l j=0) ->∀k,rC l i=k ->k≠0 ->iw l=k):=fun i hi hz k hk hk0=>by rw[iw,Bd hz (by rw[hk];exact hk0) hi,hk]
 have HZ:Hid ((∀j,j<l.length ->rC l j=0) ->iw l=0):=fun h=>zb h;have HW:=hid (fun i h e=>aam (l:=l) (i:=i) h e);have HD:=hid (fun i h e e'=>aao (l:=l) (i:=i) h e e');have HO:=hid (fun i h e e'=>aan (l:=l) (i:=i) h e e');have mC:=hid (fun i h=>agI (l:=l) (i:=i) h);have HH:=hid (fun (v:ByteArray) (V:World) (hV:my V a l)=>af4 a ca l v V hV hn);generalize iw l=r at *;clear h hs;go_enter Tryz.func137,Tryz.ntmps137;go_wp2_with fail
 go_loopw [3] (fun iv wr=>∃i:Nat,i<=l.length/\iv=.int .i64 i/\Hid (∀j,j< i ->rC l j=0)/\wr=w) (fun iv _=>l.length - (intOf iv).toNat)
 case atStart=>exact⟨0,aU _,rfl,fun j h=>absurd h (by omega),rfl⟩
 case round=>
  obtain⟨i,hi,rfl,HN,rfl⟩:=hrel;by_cases hlt:i<l.length
  ·obtain⟨g,o,rfl,hg,c0⟩:=HF.o i hlt;have hsz:=fT.o l[i] (bH hlt);have Im:=hid (fun e=>HA.o i hlt HN.o 4 (HW.o i hlt e) (by decide));have WM:=hid (fun e e'=>HA.o i hlt HN.o 7 (HD.o i hlt e e') (by decide));have IC:=hid (fun e e'=>Eh HN.o (HO.o i hlt e e'));have pH:=hid (mC.o i hlt);generalize l[i]=x at *;go_wp2_with fail
   refine(afX x _ hsz).af ?_;rintro e w1 ⟨rfl,rfl⟩;cases jA:uR x with
   |false=>
    have HE:=hid (Im.o jA);clear jA;go_wp2;go_ret;exact⟨by rw[HE.o];rfl,rfl⟩
   |true=>
    go_wp2_with fail
    refine(HH.o x _ HF.o).af ?_;rintro e w2 ⟨rfl,rfl⟩;cases hm:uU (l.take i) x with
    |true=>
     have HE:=hid (WM.o jA hm);have hlt2:o7 l x<(i:Int):=rS (pH.o.trans hm);clear jA hm;generalize o7 l x=q at *;go_wp2;go_ret;exact⟨by rw[HE.o];rfl,rfl⟩
    |false=>
     have HE:=hid (IC.o jA hm)
     have hlt2:(i:Int)<=o7 l x:=by
      have:=of_decide_eq_false (pH.o.trans hm);omega
     clear jA hm;generalize o7 l x=q at *;go_wp2;go_roundw
     case rel=>exact⟨i+1,by omega,by go_num,HE,trivial⟩
     case measure=>simp[intOf];omega
  ·obtain rfl:i=l.length:=by omega
   have HE:=hid (HZ.o HN.o);go_wp2;go_ret;exact⟨by rw[HE.o];rfl,rfl⟩
variable {g:Nat} {x y z:Value}
abbrev Vr:Type:=ByteArray×List ByteArray
def sO (w:World) (a:Option Addr) (V:List Vr):Prop:=∀k (h:k<V.length),∃g o b c,a=some ⟨g,o,none⟩/\g<w.heap.size/\w.cell? ⟨g,o+k*2,none⟩=some (.string V[k].1)/\w.cell? ⟨g,o+k*2+1,none⟩=some (.slice b V[k].2.length c)/\my w b V[k].2/\V[k].2.length<=c
theorem sO.aa {V:List Vr} (h:sO w a V) (hb:Below w.heap.size w w'):sO w' a V:=fun k hk=>by
 obtain⟨g,o,b,c,h1,h2,h3,h4,h5,h6⟩:=h k hk;exact⟨g,o,b,c,h1,aR h2 hb.size,(hb.cell (p:=⟨g,o+k*2,none⟩) h2).trans h3,(hb.cell (p:=⟨g,o+k*2+1,none⟩) h2).trans h4,h5.aa hb,h6⟩
abbrev NC (x y z:Value):Obj:=.cells #[x,y,z] 26
abbrev VC (x y:Value):Obj:=.cells #[x,y] 69
def gX (w:World) (g:Nat) (x y z:Value):Prop:=w.heap[g]? =some (.cells #[x,y,z] 26 (0,0))
theorem gX.at (hg:w.heap.size=g) (x y z:Value):gX (w.alloc (NC x y z)) g x y z:=by subst hg;exact kd w _
theorem gX.lt (h:gX w g x y z):g<w.heap.size:=(eL.1 h).1
theorem gX.aa {b:Nat} (h:gX w g x y z) (hb:Below b w w') (hg:g<b):gX w' g x y z:=(hb.block g hg).trans h
theorem gX.cells (h:gX w g x y z):w.cell? ⟨g,0,none⟩=some x/\w.cell? ⟨g,1,none⟩=some y/\w.cell? ⟨g,2,none⟩=some z:=by
 refine⟨?_,?_,?_⟩<;>(rw[cC w g _ _ _ (0,0) h];rfl)
theorem Q5 (w:World) (x y:Value):(w.alloc (VC x y)).cell? ⟨w.heap.size,0,none⟩=some x/\(w.alloc (VC x y)).cell? ⟨w.heap.size,1,none⟩=some y:=by
 have h:(w.alloc (VC x y)).heap[w.heap.size]? =some (.cells #[x,y] 69 (0,0)):=kd w _;exact⟨by rw[cC _ _ _ _ _ (0,0) h];rfl,by rw[cC _ _ _ _ _ (0,0) h];rfl⟩
def ah (V:List Vr):List Nat:=V.map fun x=>x.2.length
theorem gR (V:List Vr):(ah V).length=V.length:=by simp[ah]
theorem Co {V:List Vr} (h:i<V.length):(ah V)[i]? =some V[i].2.length:=by simp[ah,h]
theorem NX (a b c:Option Addr) (ca cb cc n m:Nat) (V:List Vr) (w:World) (h:sO w a V) (hV:V.length<=5000):
  Calls Tryz.prog 25 #[.agg #[.slice a V.length ca,.slice b n cb,.slice c m cc]] w fun e w'=>∃G,e=.returned (.slice (some ⟨G,0,none⟩) V.length V.length)/\w.heap.size<=G/\bV w' G (ah V)/\Below w.heap.size w w':=by
 obtain⟨i0,cU,hz0,hz1,hz2⟩:=eT Tryz.infoInt;have HF:=hid h;have HG:Hid (∀i (h:i<V.length),(ah V)[i]? =some V[i].2.length):=fun i h=>Co h;have bJ:=gR V;generalize ah V=ds at *;clear h;have hN:=gX.at (w:=w) rfl (.slice a V.length ca) (.slice b n cb) (.slice c m cc);have hB0:=(au _ w).alloc (ar _) (NC (.slice a V.length ca) (.slice b n cb) (.slice c m cc));obtain⟨c0, -, -⟩:=hN.cells;have Ov:=hN.lt;go_enter Tryz.func25,Tryz.ntmps25;go_upto_region 1 with fail
 generalize (w.alloc (NC (.slice a V.length ca) (.slice b n cb) (.slice c m cc)))=w1 at *
 go_wp2_with (first
  |(at_make;refine mL _ rfl _ _ 27 rfl w1.heap.size 3 i0 (.int .i64 0) 1 Tryz.underlying27 cU hz0 hz1 .i64 .i64 _ _ V.length rfl rfl (by go_num) (by go_num) (by rw[hz2];omega) (by unfold maxLen;omega) (ar _) ?_;intro w2 hown2 hgrow2;have hB2:Below w1.heap.size w1 w2:=(au _ w1).grown hgrow2 (ar _) (fun k e=>by cases e);have c0':=(hN.aa hB2 Ov).cells.1;clear c0))
 have hb2:=pC hown2;rw[AB] at hb2;have HI:Hid (bV w2 w1.heap.size (List.replicate V.length 0)):=hb2;have bc:Hid (Below w.heap.size w w2):=hB0.trans (hB2.af hB0.size);have hG:=hB0.size;clear hown2 hgrow2 hb2 hB2;clear c0';go_loopw [13] (fun iv wr=>∃i:Nat,i<=V.length/\iv=.int .i64 i/\Hid (bV wr w1.heap.size (kD ds i))/\Hid (Below w.heap.size w wr)) (fun iv _=>V.length - (intOf iv).toNat)
 case atStart=>exact⟨0,aU _,rfl,by rw[Ny,bJ];exact HI,bc⟩
 case round=>
  obtain⟨i,hi,rfl,HR,HB⟩:=hrel;clear HI bc;by_cases hlt:i<V.length
  ·obtain⟨g,o,b',c',rfl,hg,c0,c1, -, -⟩:=(HF.o.aa HB.o) i hlt;obtain⟨pj,i7⟩:=o0.1 (HG.o i hlt);have qx:=hid (Nz ds pj);rw[i7] at qx;generalize V[i]=v at *;obtain⟨nm,vs⟩:=v;simp only at c0 c1 qx;obtain⟨d0,d1⟩:=Q5 wr (.string nm) (.slice b' vs.length c');have aN:=(au _ wr).alloc (ar _) (VC (.string nm) (.slice b' vs.length c'));have A3:=HR.o.aa aN HR.o.lt;have k0:=A3.cell i (by rw[Aw _ (by omega)];omega);have f0:=A3.fz i;have hS:=A3.set i vs.length;rw[qx.o] at hS;have HS:=hid hS;have BU:=hid ((HB.o.trans (aN.af HB.o.size)).setCell (p:=⟨w1.heap.size,i,none⟩) hG (.int .i64 (vs.length:Nat)));generalize (kD ds i)[i]'(by rw[Aw _ (by omega)];omega)=z at *;clear pj i7 aN A3 hS;go_wp2;go_roundw
   case rel=>exact⟨i+1,by omega,by go_num,HS,BU⟩
   case measure=>simp[intOf];omega
  ·obtain rfl:i=V.length:=by omega
   have eA:=HR.o;rw[<- bJ,NA] at eA;have bC:=hid eA;clear eA;go_wp2;go_ret;exact⟨w1.heap.size,rfl,hG,bC.o,HB.o⟩
variable {V:List Vr}
theorem aiZ {l:List Nat} {x:Nat} (h:l[i]? =some x):iL (l.take (i+1))=iL (l.take i)++[(x:Int)]:=by
 obtain⟨h1,h2⟩:=o0.1 h;rw[fR h1,h2,N9];rfl
theorem Y6 (a b c:Option Addr) (ca cb cc n m:Nat) (V:List Vr) (w:World) (h:sO w a V) (hV:V.length<=5000):
  Calls Tryz.prog 54 #[.agg #[.slice a V.length ca,.slice b n cb,.slice c m cc]] w fun e w'=>∃x,e=.returned x/\cX w' w.heap.size x (iL (ah V))/\Below w.heap.size w w':=by
 obtain⟨i0,cU,hz0,hz1,hz2⟩:=eT Tryz.infoInt;have HF:=hid h;have HG:Hid (∀i (h:i<V.length),(ah V)[i]? =some V[i].2.length):=fun i h=>Co h;have bJ:=gR V;generalize ah V=ds at *;clear h;have hN:=gX.at (w:=w) rfl (.slice a V.length ca) (.slice b n cb) (.slice c m cc);have Qs:=hid ((au _ w).alloc (ar _) (NC (.slice a V.length ca) (.slice b n cb) (.slice c m cc)));go_enter Tryz.func54,Tryz.ntmps54;go_wp2_with fail
 generalize (w.alloc (NC (.slice a V.length ca) (.slice b n cb) (.slice c m cc)))=w1 at *;have HN:=hid hN;clear hN;go_loopw [3,4] (fun xv iv wr=>∃i:Nat,i<=V.length/\iv=.int .i64 i/\Hid (cX wr (w.heap.size+1) xv (iL (ds.take i)))/\Hid (Below (w.heap.size+1) w1 wr)) (fun _ iv _=>V.length - (intOf iv).toNat)
 case atStart=>exact⟨0,aU _,rfl,⟨rfl,.inl ⟨rfl,rfl⟩⟩,au _ _⟩
 case round=>
  obtain⟨i,hi,rfl,HR,HB⟩:=hrel;have vA:=HN.o.aa HB.o (by omega);obtain⟨c0, -, -⟩:=vA.cells;have hw1:=HN.o.lt;have kT:Hid (Below w.heap.size w wr):=Qs.o.trans (HB.o.af (by omega));by_cases hlt:i<V.length
  ·obtain⟨g,o,b',c',rfl,hg, -,c1, -, -⟩:=(HF.o.aa kT.o) i hlt;have sU:=hid (aiZ (HG.o i hlt))
   have zH:Hid ((iL (ds.take i)).length<=5000):=by
    show (iL (ds.take i)).length<=5000;rw[ba,eZ];omega
   generalize V[i]=v at *;obtain⟨nm,vs⟩:=v;simp only at c1 sU;have xS:=hid HR.o.own;have ky:Hid (cX (wr.alloc (.cells #[.int .i64 (vs.length:Nat)] 3)) (w.heap.size+1) _ (iL (ds.take i))):=I7 HR.o _;have hsz:w.heap.size+1<=wr.heap.size:=vA.lt;have dC:=hid (HB.o.alloc hsz (.cells #[.int .i64 (vs.length:Nat)] 3));have F2:=hid (JS wr (vs.length:Nat));(have EI:w.heap.size+1<=(wr.alloc (.cells #[.int .i64 (vs.length:Nat)] 3)).heap.size:=by simp;omega);clear vA;go_wp2_with (at_builtin;refine GF rfl _ _ rfl (w.heap.size+1) _ (iL (ds.take i)) [((vs.length:Nat):Int)] rfl ky.o (some ⟨wr.heap.size,0,none⟩) 1 rfl F2.o (fun e=>by cases e) (by have:=zH.o;simp;omega) EI ?_;intro v' w3 hr3 hg3)
   have jH:=hid hr3;have dU:=hid (dC.o.grown hg3 EI xS.o);clear hr3 hg3;go_roundw
   case rel=>exact⟨i+1,by omega,by go_num,by rw[sU.o];exact jH,dU⟩
   case measure=>simp[intOf];omega
  ·obtain rfl:i=V.length:=by omega
   have eA:=HR.o;rw[jd (by omega)] at eA;have bC:=hid (show cX wr w.heap.size _ (iL ds) from ⟨eA.1,eA.2.imp id fun ⟨g,cap,cur,h1,h2,h3⟩=>⟨g,cap,cur,h1,by omega,h3⟩⟩);clear eA vA;go_wp2;go_ret;exact⟨_,rfl,bC.o,kT.o⟩
def oQ (w:World) (g:Nat) (l:List ByteArray):Prop:=w.heap[g]? =some (.cells (l.map Value.string).toArray 9 (0,0))
theorem oQ.cell {l:List ByteArray} (h:oQ w g l) (j:Nat) (hj:j<l.length):w.cell? ⟨g,j,none⟩=some (.string l[j]):=by
 rw[cC w g j _ _ (0,0) h];simp[hj]
theorem oQ.fz {l:List ByteArray} (h:oQ w g l) (j:Nat):w.frozen? ⟨g,j,none⟩=false:=pN w g j _ _ h
theorem oQ.lt {l:List ByteArray} (h:oQ w g l):g<w.heap.size:=(eL.1 h).1
theorem oQ.aa {b:Nat} {l:List ByteArray} (h:oQ w g l) (hb:Below b w w') (hg:g<b):oQ w' g l:=(hb.block g hg).trans h
theorem oQ.set {l:List ByteArray} (h:oQ w g l) (j:Nat) (y:ByteArray):oQ (w.setCell ⟨g,j,none⟩ (.string y)) g (l.set j y):=by
 have h2:=mM w g j _ _ (.string y) h;rw[oQ,h2];simp[Gr]
theorem oQ.st {l:List ByteArray} (h:oQ w g l):my w (some ⟨g,0,none⟩) l:=fun k hk=>⟨g,0,rfl,h.lt,by rw[bT];exact h.cell k hk⟩
theorem aiy (n:Nat):(madeCells (Value.string ⟨#[]⟩).cells (n*1)).toList=(List.replicate n (⟨#[]⟩:ByteArray)).map Value.string:=by
 rw[show (Value.string ⟨#[]⟩).cells= #[Value.string ⟨#[]⟩] from rfl,I3,mN,MN]
theorem Tryz.infoStr:(Tryz.prog.info? 9).map (fun i=>(i.zero,i.size,i.bytes))=some (some (.string ⟨#[]⟩),1,16):=by kernel_rfl
def uN (l:List ByteArray) (i:Nat):List ByteArray:=l.take i++List.replicate (l.length - i) ⟨#[]⟩
theorem agR (l:List ByteArray):uN l 0=List.replicate l.length ⟨#[]⟩:=by simp[uN]
theorem Zw (l:List ByteArray) (h:i<=l.length):(uN l i).length=l.length:=by simp[uN];omega
theorem agT (l:List ByteArray):uN l l.length=l:=by simp[uN]
theorem agS (l:List ByteArray) (h:i<l.length):(uN l i).set i l[i]=uN l (i+1):=by
 have h1:l.length - i=(l.length - (i+1))+1:=by omega
 have h2:(l.take i).length=i:=by rw[eZ];omega
 rw[uN,uN,h1,Jc,Ed _ _ (by omega),h2,qE,Ec,fR h,rW];rfl
def gF (V:List Vr):List ByteArray:=V.map fun x=>x.1
theorem SA (V:List Vr):(gF V).length=V.length:=by simp[gF]
theorem aal (h:i<V.length):(gF V)[i]? =some V[i].1:=by simp[gF,h]
theorem ahY (a:Option Addr) (ca:Nat) (V:List Vr) (w:World) (h:sO w a V) (hV:V.length<=5000):
  Calls Tryz.prog 175 #[.slice a V.length ca] w fun e w'=>∃G,e=.returned (.slice (some ⟨G,0,none⟩) V.length V.length)/\oQ w' G (gF V)/\Below w.heap.size w w':=by
 obtain⟨i0,cU,hz0,hz1,hz2⟩:=eT Tryz.infoStr;have HF:=hid h;have HG:Hid (∀i (h:i<V.length),(gF V)[i]? =some V[i].1):=fun i h=>aal h;have bJ:=SA V;generalize gF V=ds at *;clear h;go_enter Tryz.func175,Tryz.ntmps175
 go_wp2_with (first
  |(at_make;refine mL _ rfl _ _ 67 rfl w.heap.size 9 i0 (.string ⟨#[]⟩) 1 Tryz.underlying67 cU hz0 hz1 .i64 .i64 _ _ V.length rfl rfl (by go_num) (by go_num) (by rw[hz2];omega) (by unfold maxLen;omega) (ar _) ?_;intro w2 hown2 hgrow2))
 have hb2:=pC hown2;rw[aiy] at hb2;have bc:Hid (Below w.heap.size w w2):=(au _ w).grown hgrow2 (ar _) (fun k e=>by cases e);have HI:Hid (oQ w2 w.heap.size (List.replicate V.length ⟨#[]⟩)):=hb2;clear hown2 hgrow2 hb2;go_wp2_with fail
 go_loopw [11] (fun iv wr=>∃i:Nat,i<=V.length/\iv=.int .i64 i/\Hid (oQ wr w.heap.size (uN ds i))/\Hid (Below w.heap.size w wr)) (fun iv _=>V.length - (intOf iv).toNat)
 case atStart=>exact⟨0,aU _,rfl,by rw[agR,bJ];exact HI,bc⟩
 case round=>
  obtain⟨i,hi,rfl,HR,HB⟩:=hrel;clear HI bc;by_cases hlt:i<V.length
  ·obtain⟨g,o,b',c',rfl,hg,c0,c1, -, -⟩:=(HF.o.aa HB.o) i hlt;obtain⟨pj,i7⟩:=o0.1 (HG.o i hlt);have qx:=hid (agS ds pj);rw[i7] at qx;generalize V[i]=v at *;obtain⟨nm,vs⟩:=v;simp only at c0 c1 qx;obtain⟨d0,d1⟩:=Q5 wr (.string nm) (.slice b' vs.length c');have aN:=(au _ wr).alloc (ar _) (VC (.string nm) (.slice b' vs.length c'));have A3:=HR.o.aa aN HR.o.lt;have k0:=A3.cell i (by rw[Zw _ (by omega)];omega);have f0:=A3.fz i;have hS:=A3.set i nm;rw[qx.o] at hS;have HS:=hid hS;have BU:=hid ((HB.o.trans (aN.af HB.o.size)).setCell (p:=⟨w.heap.size,i,none⟩) (ar _) (.string nm));generalize (uN ds i)[i]'(by rw[Zw _ (by omega)];omega)=z at *;clear pj i7 aN A3 hS;go_wp2;go_roundw
   case rel=>exact⟨i+1,by omega,by go_num,HS,BU⟩
   case measure=>simp[intOf];omega
  ·obtain rfl:i=V.length:=by omega
   have eA:=HR.o;rw[<- bJ,agT] at eA;have bC:=hid eA;clear eA;go_wp2;go_ret;exact⟨w.heap.size,rfl,bC.o,HB.o⟩
def mY (V:List Vr) (i:Nat):Int:=if 1<=(V.getD i (⟨#[]⟩,[])).2.length/\(V.getD i (⟨#[]⟩,[])).2.length<=4 then iw (V.getD i (⟨#[]⟩,[])).2 else 2
def jy (V:List Vr):Int:=if iw (gF V)=0 then iO (mY V) V.length else iw (gF V)
theorem UD (h:i<V.length):V.getD i (⟨#[]⟩,[])=V[i]:=by rw[List.getD_eq_getElem?_getD,List.getElem?_eq_getElem h];rfl
def VSm (V:List Vr):Prop:=V.length<=5000/\∀x∈V,x.1.size<=5000/\x.2.length<=5000/\∀s∈x.2,s.size<=5000
theorem XD (h:i<V.length) (e:¬(1<=V[i].2.length/\V[i].2.length<=4)):mY V i=2:=by rw[mY,UD h,az e]
theorem XC (h:i<V.length) (e:1<=V[i].2.length/\V[i].2.length<=4):mY V i=iw V[i].2:=by rw[mY,UD h,ay e]
theorem alT (a:Option Addr) (ca:Nat) (V:List Vr) (w:World) (h:sO w a V) (hs:VSm V):
  Calls Tryz.prog 131 #[.slice a V.length ca] w fun e w'=>e=.returned (.int .i64 (jy V))/\Below w.heap.size w w':=by
 have HF:=hid h;have Iu:=hid hs;have hV:=hs.1;have fB:Hid (iw (gF V)≠0 ->jy V=iw (gF V)):=fun h=>az h;have dZ:Hid (iw (gF V)=0 ->jy V=iO (mY V) V.length):=fun h=>ay h;have hnl:=SA V
 have IG:Hid (∀s∈gF V,s.size<=140737488355328):=fun s hs'=>by
  obtain⟨x,hx,rfl⟩:=bs.1 hs';have:=(hs.2 x hx).1;omega
 have eQ:=hid (fun (V':World) (hV':sO V' a V)=>ahY a ca V V' hV' hV)
 have Qq:Hid (∀(G:Nat) (V':World),oQ V' G (gF V) ->Calls Tryz.prog 174 #[.slice (some ⟨G,0,none⟩) V.length V.length] V' fun e w'=>e=.returned (.int .i64 (iw (gF V)))/\w'=V'):=fun G V' hR=>by
  have:=acE (some ⟨G,0,none⟩) V.length (gF V) V' hR.st (by omega) (by omega) IG.o;rwa [hnl] at this
 generalize jy V=ve at *;generalize iw (gF V)=ne at *;clear h hs hnl IG;go_enter Tryz.func131,Tryz.ntmps131;go_wp2_with fail
 refine(eQ.o _ HF.o).af ?_;rintro e w1 ⟨G,rfl,hR,hb1⟩;have HR:=hid hR;have eR:=hid hb1;clear hR hb1 eQ;go_wp2_with fail
 refine(Qq.o G _ HR.o).af ?_;rintro e w2 ⟨rfl,rfl⟩;by_cases h0:ne=0
 ·subst h0;have HE:=hid (dZ.o rfl);clear fB dZ Qq HR;have HA:Hid (∀i,i<V.length ->(∀j,j< i ->mY V j=0) ->∀k,mY V i=k ->k≠0 ->ve=k):=fun i hi hz k hk hk0=>by rw[HE.o,Bd hz (by rw[hk];exact hk0) hi,hk]
  have HZ:Hid ((∀j,j<V.length ->mY V j=0) ->ve=0):=fun h=>by rw[HE.o];exact zb h
  have HL:=hid (fun i h e=>XD (V:=V) (i:=i) h e);have HN:=hid (fun i h e=>XC (V:=V) (i:=i) h e);go_wp2_with fail
  go_loopw [15] (fun iv wr=>∃i:Nat,i<=V.length/\iv=.int .i64 i/\Hid (∀j,j< i ->mY V j=0)/\Hid (Below w.heap.size w wr)) (fun iv _=>V.length - (intOf iv).toNat)
  case atStart=>exact⟨0,aU _,rfl,fun j h=>absurd h (by omega),eR⟩
  case round=>
   obtain⟨i,hi,rfl,xL,HB⟩:=hrel;clear eR;by_cases hlt:i<V.length
   ·obtain⟨g,o,b',c',rfl,hg,c0,c1,A2,sB⟩:=(HF.o.aa HB.o) i hlt;have hsm:=Iu.o.2 V[i] (bH hlt);have uB:=hid (fun e=>HA.o i hlt xL.o 2 (HL.o i hlt e) (by decide));have j7:=hid (fun e k hk hk0=>HA.o i hlt xL.o k ((HN.o i hlt e).trans hk) hk0);have rL:=hid (fun e (hk:iw V[i].2=0)=>Eh xL.o ((HN.o i hlt e).trans hk));generalize V[i]=v at *;obtain⟨nm,vs⟩:=v;simp only at c0 c1 A2 sB hsm uB j7 rL;obtain⟨d0,d1⟩:=Q5 wr (.string nm) (.slice b' vs.length c');have aN:=(au _ wr).alloc (ar _) (VC (.string nm) (.slice b' vs.length c'));have dC:=hid (HB.o.trans (aN.af HB.o.size));have HST:=hid (A2.aa aN);have uq:=hid hsm.2.2;have ly:=hsm.2.1;clear aN hsm A2;by_cases h1:1<=vs.length
    ·by_cases h4:vs.length<=4
     ·have e1:(1:Int)<=(vs.length:Int):=by omega
      (have e2:(vs.length:Int)<=4:=by omega);have FW:=hid (j7.o ⟨h1,h4⟩);have Bo:=hid (rL.o ⟨h1,h4⟩);clear uB j7 rL;go_wp2_with fail
      refine(acE b' c' vs _ HST.o (by omega) sB (fun s hs'=>by have:=uq.o s hs';omega)).af ?_;rintro e w3 ⟨rfl,rfl⟩;generalize iw vs=q at *;by_cases hq:q=0
      ·subst hq;have VF:=hid (Bo.o rfl);go_wp2;go_roundw
       case rel=>exact⟨i+1,by omega,by go_num,VF,dC⟩
       case measure=>simp[intOf];omega
      ·have HQ:=hid (FW.o q rfl hq);(have Tn:(q==0)=false:=by simpa using hq);clear hq;go_wp2;go_ret;exact⟨by rw[HQ.o];rfl,dC.o⟩
     ·have HQ:=hid (uB.o fun h=>h4 h.2);(have e1:(1:Int)<=(vs.length:Int):=by omega);(have e2:(4:Int)<(vs.length:Int):=by omega);clear h4 uB j7 rL;go_wp2;go_ret;exact⟨by rw[HQ.o];rfl,dC.o⟩
    ·have HQ:=hid (uB.o fun h=>h1 h.1);(have e1:(vs.length:Int)<1:=by omega);clear h1 uB j7 rL;go_wp2;go_ret;exact⟨by rw[HQ.o];rfl,dC.o⟩
   ·obtain rfl:i=V.length:=by omega
    have HQ:=hid (HZ.o xL.o);go_wp2;go_ret;exact⟨by rw[HQ.o];rfl,HB.o⟩
 ·have HE:=hid (fB.o h0);have jA:(ne==0)=false:=by simpa using h0
  clear h0 fB dZ;go_wp2;go_ret;exact⟨by rw[HE.o];rfl,eR.o⟩
variable {p:Rat}
def iJ (l:List Fr):Bool:=(l.all fun f=>decide (¬aT f<0))&&decide (aV l=1)
theorem Pk:cQ p 0<0↔p<0:=by
 rw[cQ];by_cases h:p<0
 ·rw[ay h];exact⟨fun _=>h,fun _=>by decide⟩
 ·rw[az h];by_cases e:p=0
  ·rw[ay e];exact⟨fun h=>absurd h (by decide),fun h'=>absurd h' h⟩
  ·rw[az e];exact⟨fun h=>absurd h (by decide),fun h'=>absurd h' h⟩
theorem alI:(cQ p 1==0)=decide (p=1):=by
 rw[ry,rp,ei,cQ];by_cases h:p<1
 ·rw[ay h];exact⟨fun h=>absurd h (by decide),fun e=>by rw[e] at h;exact absurd h (by decide)⟩
 ·rw[az h];by_cases e:p=1
  ·rw[ay e];exact⟨fun _=>e,fun _=>rfl⟩
  ·rw[az e];exact⟨fun h=>absurd h (by decide),fun h'=>absurd h' e⟩
theorem YW {l:List Fr} (h:i<l.length) (e:aT l[i]<0):iJ l=false:=by
 have:(l.all fun f=>decide (¬aT f<0))=false:=by
  rw[Gw];exact⟨l[i],bH h,by simpa using e⟩
 rw[iJ,this];rfl
theorem YX {l:List Fr} (h:∀i (hi:i<l.length),¬aT l[i]<0):iJ l=decide (aV l=1):=by
 have:(l.all fun f=>decide (¬aT f<0))=true:=by
  rw[eJ];intro f hf;obtain⟨i,hi,rfl⟩:=iE hf;exact cJ (h i hi)
 rw[iJ,this,Jj]
theorem Zf:qw 1<=2:=by
 show (B 1).size+(B 1).size<=2;have:=MB;omega
theorem abX {l:List Fr} (h:i<l.length) (hw:fw l<=10000):l[i].2.1.size+l[i].2.2.size<=10000:=by have:=O1 (bH h);omega
theorem aiN (a:Option Addr) (ca:Nat) (l:List Fr) (w:World) (h:bZ w a l) (hw:fw l<=10000) (hn:l.length<=10000):
  Calls Tryz.prog 177 #[.slice a l.length ca] w fun e w'=>e=.returned (.bool (iJ l))/\Below w.heap.size w w':=by
 have HF:=hid h;have HW:=hid hw;have HO:=hid (fun V:World=>Lb (k:=0) (w:=V) 0 0 rfl (by decide) (by rfl));have uw:=hid (fun V:World=>Lb (k:=1) (w:=V) 1 1 rfl (by decide) (by rfl));have HS:=hid (fun (V:World) (hV:bZ V a l)=>ak1 a ca l V hV hw hn);have HN:=hid (fun i h e=>YW (l:=l) (i:=i) h e);have HA:=hid (fun h=>YX (l:=l) h)
 have HQ:Hid (val (aH (aV l)) (nu (aV l)) (de (aV l))=aV l/\(nu (aV l)).size+(de (aV l)).size<=100000):=⟨gC _,by
  have h1:=O7 (UR l);rw[ng];omega⟩
 have HZ:Hid (val (aH 0) (nu 0) (de 0)=0/\(nu 0).size+(de 0).size<=100000):=⟨gC _,by have:=GZ;rw[ng];omega⟩
 have H1:Hid (val (aH 1) (nu 1) (de 1)=1/\(nu 1).size+(de 1).size<=100000):=⟨gC _,by
  have h1:qw 1<=2:=Zf;rw[ng];omega⟩
 generalize iJ l=rb at *;clear h hw;simp only[C] at HO uw HS;generalize aH 0=zn at *;generalize nu 0=zx at *;generalize de 0=zy at *;generalize aH 1=on at *;generalize nu 1=ox at *;generalize de 1=oy at *;go_enter Tryz.func177,Tryz.ntmps177;go_wp2_with fail
 refine(HO.o _).af ?_;rintro e w1 ⟨rfl,hb1⟩;have Qs:=hid (hb1.alloc hb1.size (FC zn zx zy));have HZB:=hid (aC.new w1 zn zx zy);have hw1:=hb1.size;clear hb1;go_wp2_with fail
 generalize (w1.alloc (FC zn zx zy))=w2 at *;generalize w1.heap.size=B at *;go_loopw [9] (fun iv wr=>∃i:Nat,i<=l.length/\iv=.int .i64 i/\Hid (∀j (hj:j<l.length),j< i ->¬aT l[j]<0)/\Hid (aC wr B zn zx zy)/\Hid (Below w.heap.size w wr)) (fun iv _=>l.length - (intOf iv).toNat)
 case atStart=>exact⟨0,aU _,rfl,fun j _ h=>absurd h (by omega),HZB,Qs⟩
 case round=>
  obtain⟨i,hi,rfl,HP,HX,HB⟩:=hrel;clear HZB Qs;by_cases hlt:i<l.length
  ·obtain⟨g,o,rfl,hg,c0,c1,c2⟩:=(HF.o.aa HB.o) i hlt;have fN:=abX hlt HW.o;have j7:=hid (HN.o i hlt)
   have pH:Hid (¬aT l[i]< 0 ->∀j (hj:j<l.length),j<i+1 ->¬aT l[j]<0):=fun h j hj ml=>by
    rcases cD j i with h2 |h2
    ·exact HP.o j hj h2
    ·obtain rfl:j=i:=by omega
     exact h
   generalize l[i]=f at *;obtain⟨fn,fx,fy⟩:=f;simp only at c0 c1 c2 fN;have aN:=(au _ wr).alloc (ar _) (FC fn fx fy);obtain⟨k0,k1,k2, -⟩:=(aC.new wr fn fx fy).facts;have T4:=HX.o.aa aN HX.o.lt;obtain⟨z0,z1,z2, -⟩:=T4.facts;have Ik:=hid T4;have dC:=hid (HB.o.trans (aN.af HB.o.size));clear aN T4;go_wp2_with fail
   generalize (wr.alloc (FC fn fx fy))=w3 at *;refine(O9 (w:=w3) (cQ (val fn fx fy) 0) rfl HZ.o.1 rfl (by omega) HZ.o.2).af ?_;rintro e w4 ⟨rfl,hb4⟩;have Bu:=hid (Ik.o.aa hb4 Ik.o.lt);have fV:=hid (dC.o.trans (hb4.af dC.o.size));clear k0 k1 k2 z0 z1 z2 hb4;by_cases tO:val fn fx fy<0
   ·have HE:=hid (j7.o tO);have hc:cQ (val fn fx fy) 0<0:=Pk.2 tO;clear tO;generalize cQ (val fn fx fy) 0=q at *;go_wp2;go_ret;exact⟨by rw[HE.o];rfl,fV.o⟩
   ·have HE:=hid (pH.o tO)
    have hc:0<=cQ (val fn fx fy) 0:=by
     have:¬cQ (val fn fx fy) 0<0:=fun h=>tO (Pk.1 h);omega
    clear tO;generalize cQ (val fn fx fy) 0=q at *;go_wp2;go_roundw
    case rel=>exact⟨i+1,by omega,by go_num,HE,Bu,fV⟩
    case measure=>simp[intOf];omega
  ·obtain rfl:i=l.length:=by omega
   have HE:=hid (HA.o fun j hj=>HP.o j hj hj);have WQ:=hid (alI (p:=aV l));generalize aV l=s at *;go_wp2_with fail
   refine(HS.o _ (HF.o.aa HB.o)).af ?_;rintro e w5 ⟨rfl,hb5⟩;have eD:=hid (HB.o.trans (hb5.af HB.o.size));clear hb5;go_wp2_with fail
   refine(uw.o _).af ?_;rintro e w6 ⟨rfl,bD⟩;have IY:=hid (eD.o.trans (bD.af eD.o.size));clear bD;go_wp2_with fail
   refine(O9 (w:=w6) (cQ s 1) HQ.o.1 H1.o.1 rfl HQ.o.2 H1.o.2).af ?_;rintro e w7 ⟨rfl,bK⟩;have HB7:=hid (IY.o.trans (bK.af IY.o.size));clear bK;go_wp2;go_ret;exact⟨by rw[HE.o, <- WQ.o];rfl,HB7.o⟩
theorem ahw {α:Type} {s:Rat} {T F:α}:(if aH s=aH 1 then if (nu s).toList=(nu 1).toList then if (de s).toList=(de 1).toList then T else F else F else F)=if s=1 then T else F:=by
 by_cases h:s=1
 ·subst h;simp
 ·rw[az h];by_cases h1:aH s=aH 1
  ·by_cases h2:(nu s).toList=(nu 1).toList
   ·by_cases h3:(de s).toList=(de 1).toList
    ·exfalso
     apply h;have e2:nu s=nu 1:=rS (Pt.symm.trans (rp.2 h2));have e3:de s=de 1:=rS (Pt.symm.trans (rp.2 h3));rw[<- gC s,h1,e2,e3,gC]
    ·rw[ay h1,ay h2,az h3]
   ·rw[ay h1,az h2]
  ·rw[az h1]
theorem JG (w:World):Calls Tryz.prog 22 #[.int .i64 0] w fun e w'=>e=.returned (.agg #[.bool (aH 0),.string (nu 0),.string (de 0)])/\Below w.heap.size w w':=by
 have:=Np 0 w (by omega) (by omega);exact this
theorem Y8 (w:World):Calls Tryz.prog 22 #[.int .i64 1] w fun e w'=>e=.returned (.agg #[.bool (aH 1),.string (nu 1),.string (de 1)])/\Below w.heap.size w w':=by
 have:=Np 1 w (by omega) (by omega);exact this
theorem alY (a:Option Addr) (ca:Nat) (l:List Fr) (w:World) (h:bZ w a l) (hw:fw l<=10000) (hn:l.length<=10000):
  Calls Tryz.prog 138 #[.slice a l.length ca] w fun e w'=>e=.returned (.bool (iJ l))/\Below w.heap.size w w':=by
 have HF:=hid h;have HW:=hid hw;have HO:=hid JG;have uw:=hid Y8;have HS:Hid (∀V:World,bZ V a l ->Calls Tryz.prog 27 #[.slice a l.length ca] V fun e w'=>e=.returned (.agg #[.bool (aH (aV l)),.string (nu (aV l)),.string (de (aV l))])/\Below V.heap.size V w'):=fun V hV=>afO a ca l V hV hw hn;have HN:=hid (fun i h e=>YW (l:=l) (i:=i) h e);have HA:=hid (fun h=>YX (l:=l) h);have HZ:Hid (val (aH 0) (nu 0) (de 0)=0/\(nu 0).size+(de 0).size<=50000):=⟨gC _,by have:=GZ;rw[ng];omega⟩;generalize iJ l=rb at *;clear h hw;go_enter Tryz.func138,Tryz.ntmps138;go_wp2_with fail
 go_loopw [3] (fun iv wr=>∃i:Nat,i<=l.length/\iv=.int .i64 i/\Hid (∀j (hj:j<l.length),j< i ->¬aT l[j]<0)/\Hid (Below w.heap.size w wr)) (fun iv _=>l.length - (intOf iv).toNat)
 case atStart=>exact⟨0,aU _,rfl,fun j _ h=>absurd h (by omega),au _ _⟩
 case round=>
  obtain⟨i,hi,rfl,HP,HB⟩:=hrel;by_cases hlt:i<l.length
  ·obtain⟨g,o,rfl,hg,c0,c1,c2⟩:=(HF.o.aa HB.o) i hlt;have fN:=abX hlt HW.o;have j7:=hid (HN.o i hlt)
   have pH:Hid (¬aT l[i]< 0 ->∀j (hj:j<l.length),j<i+1 ->¬aT l[j]<0):=fun h j hj ml=>by
    rcases cD j i with h2 |h2
    ·exact HP.o j hj h2
    ·obtain rfl:j=i:=by omega
     exact h
   generalize l[i]=f at *;obtain⟨fn,fx,fy⟩:=f;simp only at c0 c1 c2 fN;go_upto_region 4 with fail
   refine jJ (S:=fun u=>u.cell? ⟨g,o+i*3,none⟩=some (.bool fn)/\u.cell? ⟨g,o+i*3+1,none⟩=some (.string fx)/\u.cell? ⟨g,o+i*3+2,none⟩=some (.string fy)) (by kernel_rfl) ⟨c0,c1,c2⟩ (fun aq=>?_);have tU:g<wr.drew.heap.size:=hg;have tk:=hid HB.o.drew;clear c0 c1 c2;generalize wr.drew=u0 at *;refine aw 0 (.slice (some ⟨g,o,none⟩) l.length ca) ?_;refine aw 1 (.int .i64 (i:Nat)) ?_;refine aw 2 (.pointer (some ⟨g,o+i*3,none⟩)) ?_;refine aw 3 (.agg #[.bool fn,.string fx,.string fy]) ?_;refine aF [4] (cA ?_ aD);intro K' hK';go_simp;refine(HO.o _).af ?_;rintro e u1 ⟨rfl,hb⟩;refine hK'.o _ _ ⟨(hb.cell (p:=⟨g,o+i*3,none⟩) tU).trans aq.1,(hb.cell (p:=⟨g,o+i*3+1,none⟩) tU).trans aq.2.1,(hb.cell (p:=⟨g,o+i*3+2,none⟩) tU).trans aq.2.2⟩ (fun ak=>?_);clear hK' K' aq;have aq:=ak;clear ak;have tU:=aR tU hb.size;replace tk:=hid (tk.o.trans (hb.af tk.o.size));clear hb;refine aF [5] (cA ?_ aD);intro K' hK';go_simp;refine(Zc fn (aH 0) fx fy (nu 0) (de 0) _ (by omega) HZ.o.2).af ?_;rintro e u2 ⟨rfl,hb⟩;rw[HZ.o.1];refine hK'.o _ _ ⟨(hb.cell (p:=⟨g,o+i*3,none⟩) tU).trans aq.1,(hb.cell (p:=⟨g,o+i*3+1,none⟩) tU).trans aq.2.1,(hb.cell (p:=⟨g,o+i*3+2,none⟩) tU).trans aq.2.2⟩ (fun ak=>?_);clear hK' K' aq;have aq:=ak;clear ak;have tU:=aR tU hb.size;replace tk:=hid (tk.o.trans (hb.af tk.o.size));clear hb;refine aw 6 (.int .i64 (cQ (val fn fx fy) 0)) ?_;(try simp only[gE,aP]);refine dW (by kernel_rfl) ?_ _;clear aq tU;by_cases tO:val fn fx fy<0
   ·have HE:=hid (j7.o tO);have hc:cQ (val fn fx fy) 0<0:=Pk.2 tO;clear tO;generalize cQ (val fn fx fy) 0=q at *;go_wp2;go_ret;exact⟨by rw[HE.o];rfl,tk.o⟩
   ·have HE:=hid (pH.o tO)
    have hc:0<=cQ (val fn fx fy) 0:=by
     have:¬cQ (val fn fx fy) 0<0:=fun h=>tO (Pk.1 h);omega
    clear tO;generalize cQ (val fn fx fy) 0=q at *;go_wp2;go_roundw
    case rel=>exact⟨i+1,by omega,by go_num,HE,tk⟩
    case measure=>simp[intOf];omega
  ·obtain rfl:i=l.length:=by omega
   have HE:=hid (HA.o fun j hj=>HP.o j hj hj);generalize aV l=s at *;go_wp2_with fail
   refine(HS.o _ (HF.o.aa HB.o)).af ?_;rintro e w5 ⟨rfl,hb5⟩;have eD:=hid (HB.o.trans (hb5.af HB.o.size));have uE:=hid (aC.new w5 (aH s) (nu s) (de s));have dC:=hid (eD.o.alloc eD.o.size (FC (aH s) (nu s) (de s)));clear hb5;go_upto_region 8 with fail
   have rJ:aC (w5.alloc (FC (aH s) (nu s) (de s))).drew w5.heap.size (aH s) (nu s) (de s):=uE.o;have tk:=hid dC.o.drew;generalize w5.heap.size=B5 at *;refine jJ (S:=fun u=>u.cell? ⟨B5,0,none⟩=some (.bool (aH s))/\u.cell? ⟨B5,1,none⟩=some (.string (nu s))/\u.cell? ⟨B5,2,none⟩=some (.string (de s))) (by kernel_rfl) ⟨rJ.c0,rJ.c1,rJ.c2⟩ (fun aq=>?_);generalize (w5.alloc (FC (aH s) (nu s) (de s))).drew=u0 at *;refine aw 0 (.agg #[.bool (aH s),.string (nu s),.string (de s)]) ?_;refine aF [1] (cA ?_ aD);intro K' hK';go_simp;refine(uw.o _).af ?_;rintro e u1 ⟨rfl,hb⟩;replace rJ:=rJ.aa hb rJ.lt;refine hK'.o _ _ ⟨rJ.c0,rJ.c1,rJ.c2⟩ (fun ak=>?_);clear hK' K' aq;have aq:=ak;clear ak;replace tk:=hid (tk.o.trans (hb.af tk.o.size));clear hb;refine aF [2] (cA ?_ aD);intro K' hK';go_simp;rw[ahw];by_cases h1:s=1
   ·rw[ay h1];go_simp;refine hK'.o _ _ ⟨rJ.c0,rJ.c1,rJ.c2⟩ (fun ak=>?_);clear hK' K' ak;have HT:Hid (decide (s=1)=true):=cJ h1;clear h1;refine aw 3 (.bool true) ?_;(try simp only[gE,aP]);refine dW (by kernel_rfl) ?_ _;go_wp2;go_ret;exact⟨by rw[HE.o,HT.o];rfl,tk.o⟩
   ·rw[az h1];go_simp;refine hK'.o _ _ ⟨rJ.c0,rJ.c1,rJ.c2⟩ (fun ak=>?_);clear hK' K' ak;have HT:Hid (decide (s=1)=false):=cz h1;clear h1;refine aw 3 (.bool false) ?_;(try simp only[gE,aP]);refine dW (by kernel_rfl) ?_ _;go_wp2;go_ret;exact⟨by rw[HE.o,HT.o];rfl,tk.o⟩
theorem akS (Bt Bf Bv:Nat) (c:Option Addr) (cc:Nat) (lb:Array Value) (l:List Fr) (k val P:Nat) (hP:P<l.length) (w:World) (ub:Bt<w.heap.size) (xc:w.cell? ⟨Bt,1,none⟩=some (.slice c l.length cc)) (A7:Bf<w.heap.size) (xf:w.cell? ⟨Bf,0,none⟩=some (.func (.func 200) #[] lb)) (y6:Bv<w.heap.size) (xv:w.cell? ⟨Bv,0,none⟩=some (.int .i64 (val:Nat))) (hf:bZ w c l) (h1:Cw 100000 l)
  (hc:∀V,Below w.heap.size w V ->Calls Tryz.prog 200 (#[.int .i64 (k:Nat),.int .i64 (val:Nat)]++lb) V fun e w'=>e=.returned (.int .i64 (P:Nat))/\Below V.heap.size V w'):
  Calls Tryz.prog 157 #[.int .i64 (k:Nat),.pointer (some ⟨Bt,0,none⟩),.pointer (some ⟨Bf,0,none⟩),.pointer (some ⟨Bv,0,none⟩)] w fun e w'=>e=.returned (dP (qF (aT (bA l P))))/\Below w.heap.size w w':=by
 obtain⟨g,o,rfl,hg,a0,a1,a2⟩:=hf P hP;have hsz:=h1 P hP;rw[<- pz hP] at a0 a1 a2;have HW:=hid hc;have HC:=hid (fun V:World=>Qw (w:=V) (aT (bA l P)) rfl (show (bA l P).2.1.size+(bA l P).2.2.size<=100000 by omega));rw[K4];generalize aT (bA l P)=r at *;clear hf hc h1 hsz;generalize bA l P=f at *;obtain⟨fn,fx,fy⟩:=f;simp only at a0 a1 a2 HC;have hb0:aC (w.alloc (FC false ⟨#[]⟩ ⟨#[]⟩)) w.heap.size false ⟨#[]⟩ ⟨#[]⟩:=aC.new w _ _ _;have hB:Below w.heap.size w (w.alloc (FC false ⟨#[]⟩ ⟨#[]⟩)):=(au _ w).alloc (ar _) _;go_enter Tryz.func157,Tryz.ntmps157;go_upto_region 1 with fail
 generalize (w.alloc (FC false ⟨#[]⟩ ⟨#[]⟩))=W at *;replace hb0:=hb0.drew;replace hB:=hB.drew;have held:∀u,Below w.heap.size w u ->u.cell? ⟨Bt,1,none⟩=some (.slice (some ⟨g,o,none⟩) l.length cc)/\u.cell? ⟨Bf,0,none⟩=some (.func (.func 200) #[] lb)/\u.cell? ⟨Bv,0,none⟩=some (.int .i64 (val:Nat))/\u.cell? ⟨g,o+P*3,none⟩=some (.bool fn)/\u.cell? ⟨g,o+P*3+1,none⟩=some (.string fx)/\u.cell? ⟨g,o+P*3+2,none⟩=some (.string fy):=fun u h=>⟨(h.cell (p:=⟨Bt,1,none⟩) ub).trans xc,(h.cell (p:=⟨Bf,0,none⟩) A7).trans xf,(h.cell (p:=⟨Bv,0,none⟩) y6).trans xv,(h.cell (p:=⟨g,_,none⟩) hg).trans a0,(h.cell (p:=⟨g,_,none⟩) hg).trans a1,(h.cell (p:=⟨g,_,none⟩) hg).trans a2⟩;have HELD:=hid held;clear held a0 a1 a2 xc xf xv;refine jJ (S:=fun u=>u.cell? ⟨Bt,1,none⟩=some (.slice (some ⟨g,o,none⟩) l.length cc)/\u.cell? ⟨Bf,0,none⟩=some (.func (.func 200) #[] lb)/\u.cell? ⟨Bv,0,none⟩=some (.int .i64 (val:Nat))/\u.cell? ⟨g,o+P*3,none⟩=some (.bool fn)/\u.cell? ⟨g,o+P*3+1,none⟩=some (.string fx)/\u.cell? ⟨g,o+P*3+2,none⟩=some (.string fy)) (by kernel_rfl) (HELD.o _ hB) (fun aq=>?_);generalize W.drew=u0 at *;refine aw 0 (.pointer (some ⟨Bt,1,none⟩)) ?_;refine aw 1 (.slice (some ⟨g,o,none⟩) l.length cc) ?_;refine aw 2 (.func (.func 200) #[] lb) ?_;refine aw 3 (.int .i64 (k:Nat)) ?_;refine aw 4 (.int .i64 (val:Nat)) ?_;refine aF [5] (cA ?_ aD);intro K' hK';go_simp;refine(HW.o _ hB).af ?_;rintro e u1 ⟨rfl,hb⟩;replace hb0:=hb0.aa hb hb0.lt;replace hB:=hB.trans (hb.af hB.size)
 refine hK'.o _ _ (HELD.o _ hB) (fun ak=>?_);clear hK' K' aq;have aq:=ak;clear ak hb;refine aw 6 (.pointer (some ⟨g,o+P*3,none⟩)) ?_;refine aw 7 (.agg #[.bool fn,.string fx,.string fy]) ?_;refine aF [8] (cA ?_ aD);intro K' hK';go_simp;refine(HC.o _).af ?_;rintro e u2 ⟨rfl,hb⟩;replace hb0:=hb0.aa hb hb0.lt;replace hB:=hB.trans (hb.af hB.size);refine hK'.o _ _ (HELD.o _ hB) (fun ak=>?_);clear hK' K' aq;have aq:=ak;clear ak hb;try simp only[gE,aP]
 obtain⟨k0,k1,k2,f0,f1,f2⟩:=hb0.facts;refine aF [9] (cA ?_ aD);intro K' hK';go_simp;have hput:=hb0.put (aH r) (nu r) (de r);have oL:=bF hB (g:=w.heap.size) (ar _) (.bool (aH r)) (.string (nu r)) (.string (de r));generalize (((u2.setCell ⟨w.heap.size,0,none⟩ (.bool (aH r))).setCell ⟨w.heap.size,1,none⟩ (.string (nu r))).setCell ⟨w.heap.size,2,none⟩ (.string (de r)))=v9 at *;refine hK'.o _ _ (HELD.o _ oL) (fun _=>dW (by kernel_rfl) ?_ _);clear hK' K' aq;go_wp2;refine bB (hput.result rfl _ rfl) rfl ?_;exact⟨rfl,oL⟩
theorem ahg (Bt Bf Bv:Nat) (c:Option Addr) (cc:Nat) (lb:Array Value) (l:List Fr) (k val P:Nat) (hP:P<l.length) (w:World) (ub:Bt<w.heap.size) (xc:w.cell? ⟨Bt,1,none⟩=some (.slice c l.length cc)) (A7:Bf<w.heap.size) (xf:w.cell? ⟨Bf,0,none⟩=some (.func (.func 200) #[] lb)) (y6:Bv<w.heap.size) (xv:w.cell? ⟨Bv,0,none⟩=some (.int .i64 (k:Nat))) (hf:bZ w c l)
  (hc:∀V,Below w.heap.size w V ->Calls Tryz.prog 200 (#[.int .i64 (k:Nat),.int .i64 (val:Nat)]++lb) V fun e w'=>e=.returned (.int .i64 (P:Nat))/\Below V.heap.size V w'):
  Calls Tryz.prog 206 #[.int .i64 (val:Nat),.pointer (some ⟨Bt,0,none⟩),.pointer (some ⟨Bf,0,none⟩),.pointer (some ⟨Bv,0,none⟩)] w fun e w'=>e=.returned (dP (bA l P))/\Below w.heap.size w w':=by
 obtain⟨g,o,rfl,hg,a0,a1,a2⟩:=hf P hP;rw[<- pz hP] at a0 a1 a2;have HW:=hid hc;clear hf hc;generalize bA l P=f at *;obtain⟨fn,fx,fy⟩:=f;simp only at a0 a1 a2;have hb0:aC (w.alloc (FC false ⟨#[]⟩ ⟨#[]⟩)) w.heap.size false ⟨#[]⟩ ⟨#[]⟩:=aC.new w _ _ _;have hB:Below w.heap.size w (w.alloc (FC false ⟨#[]⟩ ⟨#[]⟩)):=(au _ w).alloc (ar _) _;go_enter Tryz.func206,Tryz.ntmps206;go_upto_region 1 with fail
 generalize (w.alloc (FC false ⟨#[]⟩ ⟨#[]⟩))=W at *;replace hb0:=hb0.drew;replace hB:=hB.drew;have held:∀u,Below w.heap.size w u ->u.cell? ⟨Bt,1,none⟩=some (.slice (some ⟨g,o,none⟩) l.length cc)/\u.cell? ⟨Bf,0,none⟩=some (.func (.func 200) #[] lb)/\u.cell? ⟨Bv,0,none⟩=some (.int .i64 (k:Nat))/\u.cell? ⟨g,o+P*3,none⟩=some (.bool fn)/\u.cell? ⟨g,o+P*3+1,none⟩=some (.string fx)/\u.cell? ⟨g,o+P*3+2,none⟩=some (.string fy):=fun u h=>⟨(h.cell (p:=⟨Bt,1,none⟩) ub).trans xc,(h.cell (p:=⟨Bf,0,none⟩) A7).trans xf,(h.cell (p:=⟨Bv,0,none⟩) y6).trans xv,(h.cell (p:=⟨g,_,none⟩) hg).trans a0,(h.cell (p:=⟨g,_,none⟩) hg).trans a1,(h.cell (p:=⟨g,_,none⟩) hg).trans a2⟩;have HELD:=hid held;clear held a0 a1 a2 xc xf xv;refine jJ (S:=fun u=>u.cell? ⟨Bt,1,none⟩=some (.slice (some ⟨g,o,none⟩) l.length cc)/\u.cell? ⟨Bf,0,none⟩=some (.func (.func 200) #[] lb)/\u.cell? ⟨Bv,0,none⟩=some (.int .i64 (k:Nat))/\u.cell? ⟨g,o+P*3,none⟩=some (.bool fn)/\u.cell? ⟨g,o+P*3+1,none⟩=some (.string fx)/\u.cell? ⟨g,o+P*3+2,none⟩=some (.string fy)) (by kernel_rfl) (HELD.o _ hB) (fun aq=>?_);generalize W.drew=u0 at *;refine aw 0 (.pointer (some ⟨Bt,1,none⟩)) ?_;refine aw 1 (.slice (some ⟨g,o,none⟩) l.length cc) ?_;refine aw 2 (.func (.func 200) #[] lb) ?_;refine aw 3 (.int .i64 (k:Nat)) ?_;refine aw 4 (.int .i64 (val:Nat)) ?_;refine aF [5] (cA ?_ aD);intro K' hK';go_simp;refine(HW.o _ hB).af ?_;rintro e u1 ⟨rfl,hb⟩;replace hb0:=hb0.aa hb hb0.lt;replace hB:=hB.trans (hb.af hB.size)
 refine hK'.o _ _ (HELD.o _ hB) (fun ak=>?_);clear hK' K' aq;have aq:=ak;clear ak hb;refine aw 6 (.pointer (some ⟨g,o+P*3,none⟩)) ?_;refine aw 7 (.agg #[.bool fn,.string fx,.string fy]) ?_;try simp only[gE,aP]
 obtain⟨k0,k1,k2,f0,f1,f2⟩:=hb0.facts;refine aF [8] (cA ?_ aD);intro K' hK';go_simp;have hput:=hb0.put (fn) (fx) (fy);have oL:=bF hB (g:=w.heap.size) (ar _) (.bool (fn)) (.string (fx)) (.string (fy));generalize (((u1.setCell ⟨w.heap.size,0,none⟩ (.bool (fn))).setCell ⟨w.heap.size,1,none⟩ (.string (fx))).setCell ⟨w.heap.size,2,none⟩ (.string (fy)))=v9 at *;refine hK'.o _ _ (HELD.o _ oL) (fun _=>dW (by kernel_rfl) ?_ _);clear hK' K' aq;go_wp2;refine bB (hput.result rfl _ rfl) rfl ?_;exact⟨rfl,oL⟩
variable {other sizes vars:List Int} {K T ca cb cc m:Nat} {u:Value} {V':World}
def NR (w V:World) (T R:Nat) (u v:Value):Prop:=bh V T u v/\bh V R (.slice none 0 0) (.slice none 0 0)/\Below w.heap.size w V
theorem NR.step {V:World} {R:Nat} {v:Value} (h:NR w V T R u v) (hb:Below V.heap.size V V'):NR w V' T R u v:=⟨h.1.aa hb h.1.lt,h.2.1.aa hb h.2.1.lt,h.2.2.trans (hb.af h.2.2.size)⟩
theorem NR.off {V:World} {R:Nat} {v:Value} (h:NR w V T R u v) (B j:Nat) (y:Value) (hT:T≠B) (hR:R≠B) (hB:w.heap.size<=B):NR w (V.setCell ⟨B,j,none⟩ y) T R u v:=⟨h.1.off B j y hT,h.2.1.off B j y hR,h.2.2.setCell (p:=⟨B,j,none⟩) hB y⟩
theorem NR.fin {V:World} {R:Nat} {v:Value} (h:NR w V T R u v) (hR:w.heap.size<=R) {b:Option Addr} {l:List Fr} {G:Nat} (kK:eC w.heap.size b cb) (hgn:w.heap.size<=G) (hi:ax V b vars) (hr:jY V G l) (hG:G≠R) (x y:Value) (hx:x=.slice b vars.length cb) (hy:y=.slice (some ⟨G,0,none⟩) l.length cc):
  bh ((V.setCell ⟨R,0,none⟩ x).setCell ⟨R,1,none⟩ y) R x y/\uh w.heap.size vars l 0 (.returned (.tuple #[.agg #[x,y],.int .i64 0])) ((V.setCell ⟨R,0,none⟩ x).setCell ⟨R,1,none⟩ y)/\Below w.heap.size w ((V.setCell ⟨R,0,none⟩ x).setCell ⟨R,1,none⟩ y):=by
 subst hx hy;exact⟨h.2.1.put _ _,⟨b,some ⟨G,0,none⟩,cb,cc,rfl,hi.putT h.2.1 (slv _ _ _) (slv _ _ _) (slv _ _ _) _,((hr.off _ 0 _ hG).off _ 1 _ hG).fr,kK,eC.at hgn⟩,mr h.2.2 hR _ _⟩
theorem pV:Up l n↔(∀x∈l,0<=x/\x<n)/\l.Pairwise (·<·):=by
 constructor
 ·intro h;refine⟨fun x hx=>?_,Cg.2 fun i j hi hj CP=>h.lt i j hj CP⟩;obtain⟨i,hi,rfl⟩:=iE hx;exact h.each i hi
 ·rintro⟨h1,h2⟩;exact⟨fun i hi=>h1 _ (bH hi),fun i j hj hi=>Cg.1 h2 i j (by omega) hj hi⟩
theorem tI (h:Up vars n) (v:Int):Up (bw vars v) n:=by
 rw[pV] at h⊢;exact⟨fun x hx=>h.1 x (c4.1 hx).1,h.2.filter _⟩
theorem N7 (h:Up vars n):¬v∈ag (bw vars (v:Int)):=fun hm=>by
 obtain⟨x,hx,e⟩:=bs.1 hm;have h1:=(pV.1 (tI h v)).1 x hx;have h2:=(c4.1 hx).2;simp at h2;omega
theorem ab7 (S vars rest:List Nat) (v x:Nat) (l:List Fr):(xz S vars rest v x l).length=cnt S rest:=by simp[xz]
theorem akR (S vars rest:List Nat) (v x:Nat) (l:List Fr) (h:k<(xz S vars rest v x l).length):(xz S vars rest v x l)[k]=qF (aT (bA l (pos S (aQ (aO S rest k) v x) vars))):=by simp[xz]
theorem ui.shape {W:World} {f:Value} {b:Option Addr} (h:ui W n m f a b ca cb sizes vars other v):∃lb,f=.func (.func 200) #[] lb:=by
 obtain⟨_,_,_,he,_⟩:=h;exact⟨_,he⟩
theorem ui.top {W:World} {f:Value} {b:Option Addr} (h:ui W n m f a b ca cb sizes vars other v):m<=W.heap.size:=by
 obtain⟨_,_,_,_,_,_,_,_,hm,_⟩:=h;exact hm
theorem ui.aa {W V:World} {f:Value} {b:Option Addr} (h:ui W n m f a b ca cb sizes vars other v) (hb:Below W.heap.size W V):ui V n m f a b ca cb sizes vars other v:=h.kept (zm.of_below hb h.top)
theorem Q3 {rest:List Int} {x:Nat} (hk:jr sizes vars m=0) (hK:K<cnt (ag sizes) (ag rest)) (hx:x<sz (ag sizes) v):pos (ag sizes) (aQ (aO (ag sizes) (ag rest) K) v x) (ag vars)<m:=by
 obtain⟨h1,h2,h3⟩:=xC hk;rw[h3];exact p3 _ (adY (fun u=>nN h1.pos _ _ u hK) hx) _
theorem aeA (a b c:Option Addr) (ca cb cc:Nat) (sizes vars:List Int) (l:List Fr) (v x:Nat) (w:World) (hs:ax w a sizes) (hv:ax w b vars) (hf:bZ w c l) (hn:sizes.length<=140737488355328) (hm:vars.length<=140737488355328) (hk:jr sizes vars l.length=0) (hw:Cw 100000 l) (hv':v<sizes.length) (hx':x<sz (ag sizes) v):
  Calls Tryz.prog 97 #[.slice a sizes.length ca,.agg #[.slice b vars.length cb,.slice c l.length cc],.int .i64 (v:Nat),.int .i64 (x:Nat)] w fun e w'=>uh w.heap.size (bw vars (v:Int)) (xz (ag sizes) (ag vars) (ag (bw vars (v:Int))) v x l) 0 e w'/\Below w.heap.size w w':=by
 obtain⟨aJ,aX,hlc⟩:=xC hk;have td:=hid (fun V h=>aiM a ca sizes v x V h aJ hv');rw[cJ (show 0<=(x:Int)/\(x:Int)<(sz (ag sizes) v:Int) by omega)] at td;have hx4:x<=4:=by have:=aJ.sz_le v;omega
 have ee:=fun V h1 h2=>Cm a b c ca cb cc l.length sizes vars V h1 h2 hn hm;rw[hk] at ee;have HC:=hid ee;clear ee;have h0:(0:Int)<=(v:Int):=by omega
 have h1:(v:Int)<(sizes.length:Int):=by omega
 have hrl:(bw vars (v:Int)).length<=vars.length:=pR _ _;have S9:=aX.length;have nD:=aJ.eight;have bC:=hid aJ;have gz:=hid aX;have Dt:=hid (tI aX (v:Int));have FQ:=hid (N7 (v:=v) aX);have mC:=hid (fun K (hK:K<cnt (ag sizes) (ag (bw vars (v:Int))))=>Q3 hk hK hx');have jR:=ab7 (ag sizes) (ag vars) (ag (bw vars (v:Int))) v x l;have BQ:=hid (fun (k:Nat) (h:k<(xz (ag sizes) (ag vars) (ag (bw vars (v:Int))) v x l).length)=>akR (ag sizes) (ag vars) (ag (bw vars (v:Int))) v x l h);have ku:=hid (fun V h=>Q1 b cb vars (v:Int) V h (by omega));generalize xz (ag sizes) (ag vars) (ag (bw vars (v:Int))) v x l=FL at *;generalize bw vars (v:Int)=rest at *;have HST:=hid (fun V d cd h1 h2=>Rt a d b ca cd cb sizes rest vars v V h1 h2 aJ aX hv');have HF:=hid hf;have HW:=hid hw;have kz:=hid jR;clear hx' hk aJ aX hlc hf hw jR;have HS:=hid hs;have HV:=hid hv;have hH:NR w (((w.alloc (TC (.slice b vars.length cb) (.slice c l.length cc))).alloc (.cells #[.int .i64 (x:Nat)] 3)).alloc (TC (.slice none 0 0) (.slice none 0 0))) w.heap.size (w.heap.size+1+1) (.slice b vars.length cb) (.slice c l.length cc):=⟨((bh.at (w:=w) rfl _ _).alloc _).alloc _,bh.at (by simp) _ _,(((au _ w).alloc (ar _) _).alloc (by simp) _).alloc (by simp;omega) _⟩
 have hX:Boxed (((w.alloc (TC (.slice b vars.length cb) (.slice c l.length cc))).alloc (.cells #[.int .i64 (x:Nat)] 3)).alloc (TC (.slice none 0 0) (.slice none 0 0))) (w.heap.size+1) 3 (.int .i64 (x:Nat)):=by
  have h:=(a7 (w.alloc (TC (.slice b vars.length cb) (.slice c l.length cc))) 3 (.int .i64 (x:Nat))).alloc (TC (.slice none 0 0) (.slice none 0 0));rwa [cN] at h
 have c0:=hH.1.c0;have c1:=hH.1.c1;go_enter Tryz.func97,Tryz.ntmps97;go_wp2_with fail
 generalize (((w.alloc (TC (.slice b vars.length cb) (.slice c l.length cc))).alloc (.cells #[.int .i64 (x:Nat)] 3)).alloc (TC (.slice none 0 0) (.slice none 0 0)))=W at *;refine(HC.o _ (HS.o.aa hH.2.2) (HV.o.aa hH.2.2)).af ?_;rintro e w1 ⟨rfl,hb1⟩;replace hH:=hH.step hb1;replace hX:=aZ hX hb1;clear c0 c1 hb1;have cx:=hX.cell;go_wp2_with fail
 refine(td.o _ (HS.o.aa hH.2.2)).af ?_;rintro e w2 ⟨rfl,hb2⟩;replace hH:=hH.step hb2;replace hX:=aZ hX hb2;clear cx hb2 td HC;have c0:=hH.1.c0;go_wp2_with fail
 refine(ku.o _ (HV.o.aa hH.2.2)).af ?_;rintro e w3 ⟨d,cd,rfl,hi,kK,hb3⟩;have BR:=hid (kK.up hH.2.2.size);clear kK;replace hH:=hH.step hb3;replace hX:=aZ hX hb3;clear c0 hb3 ku;have c0:=hH.1.c0;go_wp2_with fail
 refine(HST.o _ d cd (HS.o.aa hH.2.2) (HV.o.aa hH.2.2)).af ?_;rintro e w4 ⟨f,rfl,sH,hb4⟩;have hl3:=hH.2.1.lt;replace hH:=hH.step hb4;replace hX:=aZ hX hb4;replace hi:=hi.aa hb4;obtain⟨lb,rfl⟩:=sH.shape;have eM:=hb4.size;clear c0 hb4 HST;generalize w3.heap.size=n3 at *;have bD:Below w4.heap.size w4 (w4.alloc (.cells #[.func (.func 200) #[] lb] 100)):=(au _ w4).alloc (ar _) _;have hY:Boxed (w4.alloc (.cells #[.func (.func 200) #[] lb] 100)) w4.heap.size 100 (.func (.func 200) #[] lb):=a7 w4 _ _;replace hH:=hH.step bD;replace hX:=aZ hX bD;replace sH:=sH.aa bD;replace hi:=hi.aa bD;go_wp2_with fail
 clear bD;generalize (w4.alloc (.cells #[.func (.func 200) #[] lb] 100))=w5 at *;generalize w4.heap.size=Xc at *
 have sq:=K8 a d ca cd sizes rest 157 #[.pointer (some ⟨w.heap.size,0,none⟩),.pointer (some ⟨Xc,0,none⟩),.pointer (some ⟨w.heap.size+1,0,none⟩)] (enters_of Tryz.func157 (by kernel_rfl) rfl) FL w5 (HS.o.aa hH.2.2) hi bC.o Dt.o kz.o (fun k hk V hb=>by
  rw[BQ.o k hk];have dH:k<cnt (ag sizes) (ag rest):=by rw[<- kz.o];exact hk
  have hB:=hH.2.2.trans (hb.af hH.2.2.size);refine akS w.heap.size Xc (w.heap.size+1) c cc lb l k x _ (mC.o k dH) V (aR hH.1.lt hb.size) ((hb.cell (p:=⟨w.heap.size,1,none⟩) hH.1.lt).trans hH.1.c1) (aR hY.lt hb.size) (aZ hY hb).cell (aR hX.lt hb.size) (aZ hX hb).cell (HF.o.aa hB) HW.o ?_;intro V' hb';have hb2:=hb.trans (hb'.af hb.size);exact((sH.aa hb2).calls (HS.o.aa (hB.trans (hb'.af hB.size))) (hi.aa hb2) bC.o Dt.o gz.o FQ.o dH hx4))
 have BP:=hid sq;clear sq;refine BP.o.af ?_;rintro e w6 ⟨G,rfl,hG,hrow,bD⟩;have hl6:=hH.2.1.lt;replace hH:=hH.step bD;replace hi:=hi.aa bD;obtain⟨k0,k1,f0,f1⟩:=hH.2.1.facts;obtain⟨e1,e2,e3⟩:=hH.fin (by omega) (cb:=cd) (cc:=FL.length) BR.o (by omega) hi hrow (by omega) (.slice d rest.length cd) (.slice (some ⟨G,0,none⟩) FL.length FL.length) rfl rfl;go_wp2;refine bB (e1.result2 rfl _ rfl) rfl ?_;exact⟨e2,e3⟩
def kq (w:World) (B:Nat) (v:Value) (l:List Fr):Prop:=w.ownsRow B 32 3 v l.length (oO l)
theorem kq.empty (w:World) (B:Nat):kq w B (.slice none 0 0) []:=⟨rfl,.inl ⟨rfl,rfl⟩⟩
theorem kq.aa {B:Nat} {v:Value} {l:List Fr} (h:kq w B v l) (hb:Below w.heap.size w w'):kq w' B v l:=by
 refine⟨h.1,h.2.imp id ?_⟩;rintro⟨g,cap,cur,h1,h2,h3,h4⟩;exact⟨g,cap,cur,h1,h2,(hb.block g (eL.1 h3).1).trans h3,h4⟩
theorem kq.own {B:Nat} {v:Value} {l:List Fr} (h:kq w B v l):∀k,v.ownBlock=some k ->B<=k:=by
 intro k hk;rcases h.2 with ⟨rfl,_⟩ |⟨g,cap,cur,rfl,h2,_⟩
 ·cases hk
 ·cases hk;exact h2
theorem kq.fr {B:Nat} {v:Value} {l:List Fr} (h:kq w B v l):∃d cd,v=.slice d l.length cd/\bZ w d l:=by
 rcases h.2 with ⟨h1,h2⟩ |⟨g,cap,cur,h1,h2,h3,h4,h5,h6,h7⟩
 ·have:l=[]:=Ee.1 h2;subst this;exact⟨none,0,h1,fun k hk=>absurd hk (by simp)⟩
 ·refine⟨_,_,h1,fun k hk=>?_⟩;obtain⟨e1,e2,e3⟩:=O4 l k hk
  have at_:∀j,j<l.length*3 ->cur[j]? =(oO l)[j]?:=fun j hj=>by
   rw[<- h7,rV,ay hj,wm]
  refine⟨g,0,rfl,(eL.1 h3).1,?_,?_,?_⟩
  ·rw[cC w g _ _ _ (0,0) h3,bT,at_ _ (by omega)];exact e1
  ·rw[cC w g _ _ _ (0,0) h3,bT,at_ _ (by omega)];exact e2
  ·rw[cC w g _ _ _ (0,0) h3,bT,at_ _ (by omega)];exact e3
theorem kq.slv {B:Nat} {v:Value} {l:List Fr} (h:kq w B v l):cM v:=by
 obtain⟨d,cd,e,_⟩:=h.fr;exact⟨d,_,cd,e⟩
theorem akO (l:List Fr) (f:Fr):oO (l++[f])=oO l++[.bool f.1,.string f.2.1,.string f.2.2]:=by
 induction l with
 |nil=>rfl
 |cons x l ih=>simp only[fg,oO,ih]
theorem Xs {o:Oper} {a:Act} {Q:Exit ->Act ->World ->Prop} (hgd:o.guard=none) (s x:Operand)
  (ho:o.op=.call {callee:=.builtin .append,args:= #[s,x],argTypes:= #[37,37]}) (base:Nat) (v:Value) (l:List Fr) (f:Fr) (hs:a.eval s=v) (hown:kq w base v l) (g:Nat) (hx:a.eval x=.slice (some ⟨g,0,none⟩) 1 1) (hg:aC w g f.1 f.2.1 f.2.2) (hlen:l.length+1<=100000) (hbase:base<=w.heap.size)
  (h:∀v' w',kq w' base v' (l++[f]) ->w.grownBy w' v.ownBlock ->wpList Tryz.prog ops Q rest (a.put o.dst v') w'):wpList Tryz.prog ops Q (o::rest) a w:=by
 obtain⟨i0,cU,hz0,hz1,hz2⟩:=eT Tryz.infoFrac;refine Qz _ hgd s x 37 ho base 32 i0 (.agg #[.bool false,.string ⟨#[]⟩,.string ⟨#[]⟩]) 3 40 Tryz.underlying37 cU hz0 hz1 hz2 rfl (by decide) v l.length _ hs hown ⟨g,0,none⟩ 1 1 [.bool f.1,.string f.2.1,.string f.2.2] hx rfl ?_ ?_ (by unfold maxLen;omega) (by omega) hbase ?_
 ·intro j u hj;match j,hj with
  |0,hj=>cases hj;exact hg.c0
  |1,hj=>cases hj;exact hg.c1
  |2,hj=>cases hj;exact hg.c2
  |j+3,hj=>simp at hj
 ·intro u hu;simp only[dK,qG,B3] at hu;rcases hu with rfl |rfl |rfl<;>rfl
 ·intro v' w' h1 h2 _;refine h v' w' ?_ h2;rw[kq,dM,akO];exact h1
theorem Fk (h1:eH sizes) (h2:Up vars sizes.length):countB sizes vars=true:=by
 rw[countB,ia];constructor
 ·rw[nK,ia,ei];refine⟨⟨h1.one,h1.eight⟩,eJ.2 fun x hx=>?_⟩;obtain⟨i,hi,rfl⟩:=iE hx;rw[Ax,ei];exact h1.each i hi
 ·rw[dD,eJ];intro i hi;have hi':=bG.1 hi;rw[lu,ei,getD_eq hi'];refine⟨(h2.each i hi').1,(h2.each i hi').2,fun h0=>?_⟩;rw[getD_eq (show i - 1<vars.length by omega)];exact h2.lt (i - 1) i hi' (by omega)
theorem RN (a b:Option Addr) (ca cb:Nat) (sizes vars:List Int) (w:World) (hs:ax w a sizes) (hv:ax w b vars) (aJ:eH sizes) (aX:Up vars sizes.length):
  Calls Tryz.prog 55 #[.slice a sizes.length ca,.slice b vars.length cb] w fun e w'=>e=.returned (.tuple #[.int .i64 (cnt (ag sizes) (ag vars):Nat),.int .i64 0])/\Below w.heap.size w w':=by
 have h8:=aJ.eight;have h9:=aX.length;have h:=RO a b ca cb sizes vars w hs hv (by omega) (by omega);rw[Fl (Fk aJ aX)] at h;exact h
theorem afK (a b:Option Addr) (ca cb K:Nat) (sizes vars:List Int) (w:World) (hs:ax w a sizes) (hv:ax w b vars) (aJ:eH sizes) (aX:Up vars sizes.length) (hK:K<cnt (ag sizes) (ag vars)):
  Calls Tryz.prog 57 #[.slice a sizes.length ca,.slice b vars.length cb,.int .i64 (K:Nat)] w fun e w'=>∃(c:Option Addr) (cc:Nat),e=.returned (.tuple #[.slice c vars.length cc,.int .i64 0])/\ax w' c (iL (bM (ag sizes) (ag vars) K))/\Below w.heap.size w w':=by
 have h8:=aJ.eight;have h9:=aX.length;have hcb:=Fk aJ aX;have h:=afL a b ca cb sizes vars (K:Int) w hs hv (by omega) (by omega);have e1:Ai sizes vars (K:Int)=bM (ag sizes) (ag vars) K:=by rw[Ai,ay ⟨hcb,by omega,by omega⟩,pT]
 have e2:yz sizes vars (K:Int)=0:=by rw[yz,ay hcb,ay ⟨by omega,by omega⟩]
 rw[e1,e2,ue,cS] at h;exact h
variable {R:List (List Fr)}
def MA (w:World) (a:Option Addr) (R:List (List Fr)):Prop:=∀k (h:k<R.length),∃g o b c,a=some ⟨g,o,none⟩/\g<w.heap.size/\w.cell? ⟨g,o+k,none⟩=some (.slice b R[k].length c)/\bZ w b R[k]/\R[k].length<=c
theorem MA.aa (h:MA w a R) (hb:Below w.heap.size w w'):MA w' a R:=fun k hk=>by
 obtain⟨g,o,b,c,h1,h2,h3,h4,h5⟩:=h k hk;exact⟨g,o,b,c,h1,aR h2 hb.size,(hb.cell (p:=⟨g,o+k,none⟩) h2).trans h3,h4.aa hb,h5⟩
def fP (l:List Fr) (k i:Nat):List Fr:=(l.drop (i*k)).take k
def iI (S:List Nat) (L:List (List Int)) (R:List (List Fr)) (v:Nat):Int:=
 if (R.getD v []).length=cnt S (ag (L.getD v []))*sz S v then(if ((List.range (cnt S (ag (L.getD v [])))).all fun i=>iJ (fP (R.getD v []) (sz S v) i))=true then 0 else 9) else 8
def aW (V:List Vr) (L:List (List Int)) (R:List (List Fr)):Int:=
 if L.length=V.length/\R.length=V.length then(if bE L=0 then(if jy V=0 then iO (iI (ah V) L R) V.length else jy V) else bE L) else 8
theorem bZ.chunk {o:Nat} {l:List Fr} (h:bZ w (some ⟨g,o,none⟩) l) (hm:(i+1)*k<=l.length) (hk:m=k):bZ w (some ⟨g,o+i*k*3,none⟩) (fP l k i)/\(fP l k i).length=m:=by
 have hlen:(fP l k i).length=k:=by
  rw[fP,eZ,mR];have:(i+1)*k=i*k+k:=by rw[fW,kB]
  omega
 refine⟨fun j hj=>?_,by rw[hlen,hk]⟩;have e:(i+1)*k=i*k+k:=by rw[fW,kB]
 rw[hlen] at hj;obtain⟨g',o',h1,h2,h3,h4,h5⟩:=h (i*k+j) (by omega);cases h1
 have ej:(fP l k i)[j]'(by rw[hlen];exact hj)=l[i*k+j]'(by omega):=by
  simp only[fP,Aa,Jg]
 refine⟨g,o+i*k*3,rfl,h2,?_,?_,?_⟩
 ·rw[ej,show o+i*k*3+j*3=o+(i*k+j)*3 by rw[fW];omega];exact h3
 ·rw[ej,show o+i*k*3+j*3=o+(i*k+j)*3 by rw[fW];omega];exact h4
 ·rw[ej,show o+i*k*3+j*3=o+(i*k+j)*3 by rw[fW];omega];exact h5
theorem abY (l:List Fr) (k i:Nat):fw (fP l k i)<=fw l:=by
 have h1:=UJ (l.drop (i*k)) k;have h2:=UK (l.take (i*k)) (l.drop (i*k));rw[zZ] at h2;rw[fP];omega
def Bj (w:World) (B:Nat) (v:Value) (l:List ByteArray):Prop:=w.ownsRow B 9 1 v l.length (l.map Value.string)
theorem Bj.own {B:Nat} {v:Value} {l:List ByteArray} (h:Bj w B v l):∀k,v.ownBlock=some k ->B<=k:=by
 intro k hk;rcases h.2 with ⟨rfl,_⟩ |⟨g,cap,cur,rfl,h2,_⟩
 ·cases hk
 ·cases hk;exact h2
theorem Bj.st {B:Nat} {v:Value} {l:List ByteArray} (h:Bj w B v l):∃d cd,v=.slice d l.length cd/\my w d l:=by
 rcases h.2 with ⟨h1,h2⟩ |⟨g,cap,cur,h1,h2,h3,h4,h5,h6,h7⟩
 ·have:l=[]:=Ee.1 h2;subst this;exact⟨none,0,h1,fun k hk=>absurd hk (by simp)⟩
 ·refine⟨_,_,h1,fun j hj=>⟨g,0,rfl,(eL.1 h3).1,?_⟩⟩;rw[bT,cC w g j _ _ (0,0) h3]
  have e:cur[j]? =(cur.toList.take (l.length*1))[j]?:=by
   rw[rV,ay (by omega),wm]
  rw[e,h7,oh,List.getElem?_eq_getElem hj];rfl
theorem adM {o:Oper} {a:Act} {Q:Exit ->Act ->World ->Prop} (hgd:o.guard=none) (s x:Operand)
  (ho:o.op=.call {callee:=.builtin .append,args:= #[s,x],argTypes:= #[67,67]}) (base:Nat) (v:Value) (l:List ByteArray) (f:ByteArray) (hs:a.eval s=v) (hown:Bj w base v l) (g:Nat) (hx:a.eval x=.slice (some ⟨g,0,none⟩) 1 1) (hg:w.cell? ⟨g,0,none⟩=some (.string f)) (hlen:l.length+1<=100000) (hbase:base<=w.heap.size)
  (h:∀v' w',Bj w' base v' (l++[f]) ->w.grownBy w' v.ownBlock ->wpList Tryz.prog ops Q rest (a.put o.dst v') w'):wpList Tryz.prog ops Q (o::rest) a w:=by
 obtain⟨i0,cU,hz0,hz1,hz2⟩:=eT Tryz.infoStr;refine Qz _ hgd s x 67 ho base 9 i0 (.string ⟨#[]⟩) 1 16 Tryz.underlying67 cU hz0 hz1 hz2 rfl (by decide) v l.length _ hs hown ⟨g,0,none⟩ 1 1 [.string f] hx rfl ?_ ?_ (by unfold maxLen;omega) (by omega) hbase ?_
 ·intro j u hj;match j,hj with
  |0,hj=>cases hj;exact hg
  |j+1,hj=>simp at hj
 ·intro u hu;simp only[dK,qG,B3] at hu;subst hu;rfl
 ·intro v' w' h1 h2 _;refine h v' w' ?_ h2;rw[Bj,dM,fY];exact h1
theorem ahu (w:World) (u:ByteArray):(w.alloc (.cells #[.string u] 9)).cell? ⟨w.heap.size,0,none⟩=some (.string u):=(a7 w _ _).cell
variable {wr wr':World}
structure gP (w:World) (a b c:Option Addr) (V:List Vr) (L:List (List Int)) (R:List (List Fr)):Prop where
 vars:sO w a V
 pars:fh w b L
 rows:MA w c R
theorem gP.aa {b c:Option Addr} (h:gP w a b c V L R) (hb:Below w.heap.size w w'):gP w' a b c V L R:=⟨h.vars.aa hb,h.pars.aa hb,h.rows.aa hb⟩
structure sQ (V:List Vr) (L:List (List Int)) (R:List (List Fr)):Prop where
 vars:VSm V
 pars:L.length<=5000/\∀l∈L,l.length<=5000
 rows:R.length<=5000/\∀l∈R,l.length<=5000/\fw l<=10000
def NK (w wr:World) (x y z:Value):Prop:=gX wr w.heap.size x y z/\Below w.heap.size w wr
theorem NK.step (h:NK w wr x y z) (hb:Below wr.heap.size wr wr'):NK w wr' x y z:=⟨h.1.aa hb h.1.lt,h.2.trans (hb.af h.2.size)⟩
theorem NK.grow (h:NK w wr x y z) (hb:Below (w.heap.size+1) wr wr'):NK w wr' x y z:=⟨h.1.aa hb (by omega),h.2.trans (hb.af (by omega))⟩
theorem NK.new (w:World) (x y z:Value):NK w (w.alloc (NC x y z)) x y z:=⟨gX.at rfl x y z,(au _ w).alloc (ar _) _⟩
theorem UU (hl:L.length=V.length) (hg:bE L=0) (hv:jy V=0):eH (iL (ah V))/\L.length<=8/\∀v (h:v<L.length),Up L[v] L.length:=by
 have hgb:gB L=true:=by
  rw[bE] at hg;by_cases h:gB L=true
  ·exact h
  ·rw[az h] at hg;exact absurd hg (by decide)
 obtain⟨h1,h8,h3,_⟩:=qg hgb
 have hf:∀i,i<V.length ->mY V i=0:=by
  rw[jy] at hv;by_cases h:iw (gF V)=0
  ·rw[ay h] at hv;intro i hi
   have key:∀ {n:Nat},iO (mY V) n=0 ->∀j,j< n ->mY V j=0:=by
    intro n;induction n with
    |zero=>intro _ j hj;omega
    |succ n ih=>
     intro hz j hj;rw[iO] at hz;by_cases e:iO (mY V) n=0
     ·rw[ay e] at hz;rcases cD j n with h2 |h2
      ·exact ih e j h2
      ·obtain rfl:j=n:=by omega
       exact hz
     ·rw[az e] at hz;exact absurd hz e
   exact key hv i hi
  ·rw[az h] at hv;exact absurd hv h
 refine⟨⟨by rw[ba,gR];omega,by rw[ba,gR];omega,fun i hi=>?_⟩,h8,fun v hv=>Al (PA h3 hv)⟩;rw[ba,gR] at hi;have h4:=hf i hi;rw[mY,UD hi] at h4
 have h5:1<=V[i].2.length/\V[i].2.length<=4:=by
  by_cases e:1<=V[i].2.length/\V[i].2.length<=4
  ·exact e
  ·rw[az e] at h4;exact absurd h4 (by decide)
 have e:(iL (ah V))[i]'(by rw[ba,gR];exact hi)=(V[i].2.length:Int):=by simp[iL,ah]
 rw[e];omega
theorem ahX (h:i<V.length):(gF V).take (i+1)=(gF V).take i++[V[i].1]:=by
 obtain⟨h1,h2⟩:=o0.1 (aal h);rw[fR h1,h2]
theorem afW (a b c:Option Addr) (ca cb cc:Nat) (V:List Vr) (L:List (List Int)) (R:List (List Fr)) (w:World) (h:gP w a b c V L R) (hs:sQ V L R):
  Calls Tryz.prog 79 #[.agg #[.slice a V.length ca,.slice b L.length cb,.slice c R.length cc]] w fun e w'=>e=.returned (.int .i64 (aW V L R))/\Below w.heap.size w w':=by
 have HI:=hid h;have CX:=hs.vars.1;have Uk:=hs.pars.1;have Ht:=hs.rows.1;have HS:=hid hs;have sY:Hid (¬(L.length=V.length/\R.length=V.length) ->aW V L R=8):=fun h=>az h;have uz:Hid (L.length=V.length ->R.length=V.length ->bE L≠0 ->aW V L R=bE L):=fun h1 h2 h3=>by rw[aW,ay ⟨h1,h2⟩,az h3]
 have uy:Hid (L.length=V.length ->R.length=V.length ->bE L=0 ->jy V≠0 ->aW V L R=jy V):=fun h1 h2 h3 h4=>by rw[aW,ay ⟨h1,h2⟩,ay h3,az h4]
 have II:Hid (L.length=V.length ->R.length=V.length ->bE L=0 ->jy V=0 ->aW V L R=iO (iI (ah V) L R) V.length):=fun h1 h2 h3 h4=>by rw[aW,ay ⟨h1,h2⟩,ay h3,ay h4]
 have F7:Hid (L.length=V.length ->bE L=0 ->jy V=0 ->eH (iL (ah V))/\L.length<=8/\∀v (h:v<L.length),Up L[v] L.length):=fun h1 h2 h3=>UU h1 h2 h3;have Mm:=hid (fun (U:World) (hU:fh U b L)=>af5 b cb L U hU (fun l hl=>by have:=hs.pars.2 l hl;omega) (by omega));generalize aW V L R=ne at *;clear h hs;have bY:=hid (NK.new w (.slice a V.length ca) (.slice b L.length cb) (.slice c R.length cc));obtain⟨c0,c1,c2⟩:=bY.o.1.cells;by_cases lI:L.length=V.length
 ·by_cases qf:R.length=V.length
  ·have hlv:((L.length:Int) !=(V.length:Int))=false:=by rw[lI];simp
   (have Kc:((R.length:Int) !=(V.length:Int))=false:=by rw[qf];simp);have uC:=hid lI;have sV:=hid qf;clear lI qf sY;go_enter Tryz.func79,Tryz.ntmps79;go_wp2_with fail
   generalize (w.alloc (NC (.slice a V.length ca) (.slice b L.length cb) (.slice c R.length cc)))=w1 at *;refine(Mm.o _ (HI.o.aa bY.o.2).pars).af ?_;rintro e w2 ⟨rfl,hb2⟩;have oY:=hid (bY.o.step hb2);clear hb2 bY c0 c1 c2 hlv Kc Mm;by_cases hg:bE L=0
   ·have DD:=hid (uy.o uC.o sV.o hg);have IH:=hid (II.o uC.o sV.o hg);have adt:=hid (F7.o uC.o hg);rw[hg];clear hg uz uy II F7;have sB:(gF V).length=V.length:=SA V;have HNT:=hid (fun i h=>ahX (V:=V) (i:=i) h);have VQ:Hid (iw (gF V)≠0 ->jy V=iw (gF V)):=fun h=>az h;have VP:Hid (iw (gF V)=0 ->jy V=iO (mY V) V.length):=fun h=>ay h
    have IG:Hid (∀s∈gF V,s.size<=140737488355328):=fun s hs'=>by
     obtain⟨x,hx,rfl⟩:=bs.1 hs';have:=(HS.o.vars.2 x hx).1;omega
    go_wp2_with fail
    go_loopw [4,5] (fun lv iv wr=>∃i:Nat,i<=V.length/\iv=.int .i64 i/\Hid (Bj wr (w.heap.size+1) lv ((gF V).take i))/\Hid (NK w wr (.slice a V.length ca) (.slice b L.length cb) (.slice c R.length cc))) (fun _ iv _=>V.length - (intOf iv).toNat)
    case atStart=>exact⟨0,aU _,rfl,⟨rfl,.inl ⟨rfl,rfl⟩⟩,oY⟩
    case round=>
     obtain⟨i,hi,rfl,xP,HK⟩:=hrel;clear oY;obtain⟨c0,c1,c2⟩:=HK.o.1.cells;by_cases hlt:i<V.length
     ·obtain⟨g,o,b',c',rfl,hg,d0,d1, -, -⟩:=(HI.o.aa HK.o.2).vars i hlt;have PW:=hid (HNT.o i hlt)
      have zH:Hid (((gF V).take i).length<=5000):=by
       show ((gF V).take i).length<=5000;rw[eZ];omega
      generalize V[i]=v at *;obtain⟨nm,vs⟩:=v;simp only at d0 d1 PW;have xS:=hid xP.o.own;have hsz:w.heap.size+1<=wr.heap.size:=HK.o.1.lt;have ky:Hid (Bj (wr.alloc (.cells #[.string nm] 9)) (w.heap.size+1) _ ((gF V).take i)):=I7 xP.o _;have HKA:=hid (HK.o.step ((au _ wr).alloc (ar _) (.cells #[.string nm] 9)));(have EI:w.heap.size+1<=(wr.alloc (.cells #[.string nm] 9)).heap.size:=by simp;omega);have HST:=hid (ahu wr nm);go_wp2_with (at_builtin;refine adM rfl _ _ rfl (w.heap.size+1) _ ((gF V).take i) nm rfl ky.o wr.heap.size rfl HST.o (by have:=zH.o;omega) EI ?_;intro v' w3 hr3 hg3)
      have jH:=hid hr3;have nW:=hid (HKA.o.grow ((au _ _).grown hg3 EI xS.o));clear hr3 hg3;go_roundw
      case rel=>exact⟨i+1,by omega,by go_num,by rw[PW.o];exact jH,nW⟩
      case measure=>simp[intOf];omega
     ·obtain rfl:i=V.length:=by omega
      have AV:=xP.o;rw[jd (by omega)] at AV;obtain⟨d,cd,rfl,hst⟩:=AV.st;have HST:=hid hst
      have eQ:Hid (∀U:World,my U d (gF V) ->Calls Tryz.prog 137 #[.slice d V.length cd] U fun e w'=>e=.returned (.int .i64 (iw (gF V)))/\w'=U):=fun U hU=>by
       have:=Y9 d cd (gF V) U hU (by omega) IG.o;rwa [sB] at this
      clear AV hst xP;generalize hnm:iw (gF V)=Sw at *;clear hnm;go_wp2_with fail
      refine(eQ.o _ HST.o).af ?_;rintro e w4 ⟨rfl,rfl⟩;clear HST eQ;by_cases iy:Sw=0
      ·subst iy;have VO:=hid (VP.o rfl);clear VQ VP c0 c1 c2;(have HA:Hid (∀i,i<V.length ->(∀j,j< i ->mY V j=0) ->∀k,mY V i=k ->k≠0 ->jy V=k):=fun i hi hz k hk hk0=>by rw[VO.o,Bd hz (by rw[hk];exact hk0) hi,hk]);(have HZ:Hid ((∀j,j<V.length ->mY V j=0) ->jy V=0):=fun h=>by rw[VO.o];exact zb h);have HL:=hid (fun i h e=>XD (V:=V) (i:=i) h e);have FW:=hid (fun i h e=>XC (V:=V) (i:=i) h e);clear VO;generalize jy V=vse at *;go_wp2_with fail
       go_loopw [6] (fun iv wq=>∃i:Nat,i<=V.length/\iv=.int .i64 i/\Hid (∀j,j< i ->mY V j=0)/\wq=w4) (fun iv _=>V.length - (intOf iv).toNat)
       case atStart=>exact⟨0,aU _,rfl,fun j h=>absurd h (by omega),rfl⟩
       case round=>
        obtain⟨i,hi',rfl,xL,rfl⟩:=hrel;obtain⟨c0,c1,c2⟩:=HK.o.1.cells;by_cases hlt2:i<V.length
        ·obtain⟨g,o,b',c',rfl,hg,d0,d1,A2,hcp⟩:=(HI.o.aa HK.o.2).vars i hlt2;have hsm:=HS.o.vars.2 V[i] (bH hlt2);have uB:=hid (fun e=>DD.o (by rw[HA.o i hlt2 xL.o 2 (HL.o i hlt2 e) (by decide)];decide) |>.trans (HA.o i hlt2 xL.o 2 (HL.o i hlt2 e) (by decide)))
         have j7:Hid (∀(e:1<=V[i].2.length/\V[i].2.length<=4) (k:Int),iw V[i].2=k ->k≠0 ->ne=k):=fun e k hk hk0=>by
          have h1:=HA.o i hlt2 xL.o k ((FW.o i hlt2 e).trans hk) hk0;rw[DD.o (by rw[h1];exact hk0),h1]
         have rL:=hid (fun e (hk:iw V[i].2=0)=>Eh xL.o ((FW.o i hlt2 e).trans hk));have adi:=hid A2;clear A2;generalize V[i]=v at *;obtain⟨nm,vs⟩:=v;simp only at d0 d1 adi hcp hsm uB j7 rL;have ly:=hsm.2.1;have uq:=hid hsm.2.2;clear hsm;by_cases h1:1<=vs.length
         ·by_cases h4:vs.length<=4
          ·have e1:(1:Int)<=(vs.length:Int):=by omega
           (have e2:(vs.length:Int)<=4:=by omega);have fA:=hid (j7.o ⟨h1,h4⟩);have VF:=hid (rL.o ⟨h1,h4⟩);clear uB j7 rL;go_wp2_with fail
           refine(Y9 b' c' vs _ adi.o (by omega) (fun s hs'=>by have:=uq.o s hs';omega)).af ?_;rintro e w5 ⟨rfl,rfl⟩;generalize iw vs=q at *;by_cases hq:q=0
           ·subst hq;have VE:=hid (VF.o rfl);go_wp2;go_roundw
            case rel=>exact⟨i+1,by omega,by go_num,VE,trivial⟩
            case measure=>simp[intOf];omega
           ·have HQ:=hid (fA.o q rfl hq);(have Tn:(q==0)=false:=by simpa using hq);clear hq;go_wp2;go_ret;exact⟨by rw[HQ.o];rfl,HK.o.2⟩
          ·have HQ:=hid (uB.o fun h=>h4 h.2);(have e1:(1:Int)<=(vs.length:Int):=by omega);(have e2:(4:Int)<(vs.length:Int):=by omega);clear h4 uB j7 rL;go_wp2;go_ret;exact⟨by rw[HQ.o];rfl,HK.o.2⟩
         ·have HQ:=hid (uB.o fun h=>h1 h.1);(have e1:(vs.length:Int)<1:=by omega);clear h1 uB j7 rL;go_wp2;go_ret;exact⟨by rw[HQ.o];rfl,HK.o.2⟩
        ·obtain rfl:i=V.length:=by omega
         have hv0:=HZ.o xL.o;have FV:=hid (IH.o hv0);obtain⟨aJ,h8,aX⟩:=adt.o hv0;have bC:=hid aJ;have gz:=hid aX;(have bJ:(iL (ah V)).length=V.length:=by rw[ba,gR])
         have jt:Hid (∀(U:World) (d6 bl:Option Addr) (Fp cl:Nat) (l:List Int),Up l L.length ->ax U d6 (iL (ah V)) ->ax U bl l ->Calls Tryz.prog 55 #[.slice d6 V.length Fp,.slice bl l.length cl] U fun e w'=>e=.returned (.tuple #[.int .i64 (cnt (ah V) (ag l):Nat),.int .i64 0])/\Below U.heap.size U w'):=fun U d6 bl Fp cl l hl h1 h2=>by
          have:=RN d6 bl Fp cl (iL (ah V)) l U h1 h2 bC.o (by rw[bJ, <- uC.o];exact hl);rwa [bJ,ew] at this
         have WQ:Hid (∀l:List Int,Up l L.length ->cnt (ah V) (ag l)<=65536):=fun l hl=>by
          have h1:=bC.o.sz_le;rw[ew] at h1;have h2:=hl.length;exact pw h1 (by rw[cS];omega)
         have ani:Hid (∀v,v<V.length ->1<=sz (ah V) v/\sz (ah V) v<=4/\(iL (ah V))[v]? =some ((sz (ah V) v:Nat):Int)):=fun v hv=>by
          have h1:=bC.o.sz_le v;have h2:=im bC.o.pos v;rw[ew] at h1 h2;refine⟨h2,h1,?_⟩;rw[sz,Co hv];simp[iL,ah,hv]
         (have Ms:Hid ((∀j,j<V.length ->iI (ah V) L R j=0) ->ne=0):=fun h=>by rw[FV.o];exact zb h);(have HEA:Hid (∀v,v<V.length ->(∀j,j< v ->iI (ah V) L R j=0) ->∀q,iI (ah V) L R v=q ->q≠0 ->ne=q):=fun v hv hz q hq EO=>by rw[FV.o,Bd hz (by rw[hq];exact EO) hv,hq]);clear aJ aX HZ HA HL FW DD IH adt hv0 xL FV;go_wp2_with fail
         refine(Y6 a b c ca cb cc L.length R.length V _ (HI.o.aa HK.o.2).vars CX).af ?_;rintro e w6 ⟨xv,rfl,hrw,bD⟩;obtain⟨d6,Fp,rfl,si⟩:=hrw.ints;rw[bJ];have xZ:=hid (HK.o.step bD);have HI6:=hid si;clear hrw bD si c0 c1 c2 HK;go_wp2_with fail
         go_loopw [9] (fun iv wr=>∃v:Nat,v<=V.length/\iv=.int .i64 v/\Hid (∀j,j< v ->iI (ah V) L R j=0)/\Hid (NK w wr (.slice a V.length ca) (.slice b L.length cb) (.slice c R.length cc))/\Hid (ax wr d6 (iL (ah V)))) (fun iv _=>V.length - (intOf iv).toNat)
         case atStart=>exact⟨0,aU _,rfl,fun j h=>absurd h (by omega),xZ,HI6⟩
         case round=>
          obtain⟨v,hv,rfl,PM,Mg,BI⟩:=hrel;clear xZ HI6;obtain⟨c0,c1,c2⟩:=Mg.o.1.cells;by_cases hlt3:v<V.length
          ·have dG:v<L.length:=by rw[uC.o];exact hlt3
           (have kn:v<R.length:=by rw[sV.o];exact hlt3);obtain⟨gp,dE,bl,cl,rfl,gj,p1,eN⟩:=HI.o.pars v dG;obtain⟨gr,dt,br,cr,rfl,hgr,r1,sf,CG⟩:=HI.o.rows v kn;obtain⟨hs1,eM,CD⟩:=ani.o v hlt3;obtain⟨Tg,Tf⟩:=o0.1 CD;obtain⟨gs,uP,rfl,nE,t1⟩:=BI.o v Tg;rw[Tf] at t1;have OI:=gz.o v dG;have hcs:=WQ.o L[v] OI;(have vA:1<=cnt (ah V) (ag L[v]):=by have:=zg bC.o.pos (ag L[v]);rwa [ew] at this);have AV:=HS.o.rows.2 R[v] (bH kn);have q8:=hid eN;have zB:=hid sf;have lS:=hid p1;have ur:=hid r1
           have LQ:Hid (¬R[v].length=cnt (ah V) (ag L[v])*sz (ah V) v ->ne=8):=fun h=>HEA.o v hlt3 PM.o 8 (by
            rw[iI,List.getD_eq_getElem?_getD,List.getElem?_eq_getElem kn,List.getD_eq_getElem?_getD,List.getElem?_eq_getElem dG];exact az h) (by decide)
           have V4:Hid (R[v].length=cnt (ah V) (ag L[v])*sz (ah V) v ->∀i,i<cnt (ah V) (ag L[v]) ->iJ (fP R[v] (sz (ah V) v) i)=false ->ne=9):=fun h i hi hr=>HEA.o v hlt3 PM.o 9 (by
            rw[iI,List.getD_eq_getElem?_getD,List.getElem?_eq_getElem kn,List.getD_eq_getElem?_getD,List.getElem?_eq_getElem dG];refine(ay h).trans (az fun h2=>?_);have:=eJ.1 h2 i (bG.2 hi);rw[zV,hr] at this;cases this) (by decide)
           have V6:Hid (R[v].length=cnt (ah V) (ag L[v])*sz (ah V) v ->(∀i,i<cnt (ah V) (ag L[v]) ->iJ (fP R[v] (sz (ah V) v) i)=true) ->∀j,j<v+1 ->iI (ah V) L R j=0):=fun h hr=>Eh PM.o (by
            rw[iI,List.getD_eq_getElem?_getD,List.getElem?_eq_getElem kn,List.getD_eq_getElem?_getD,List.getElem?_eq_getElem dG];exact(ay h).trans (ay (eJ.2 fun i hi=>hr i (bG.1 hi))))
           have anE:=hid (fun (U:World) (h1:ax U (some ⟨gs,uP,none⟩) (iL (ah V))) (h2:ax U bl (L[v]'dG))=>jt.o U (some ⟨gs,uP,none⟩) bl Fp cl L[v] OI h1 h2);generalize R[v]=rl at *;generalize L[v]=pl at *;generalize sz (ah V) v=k at *;generalize cnt (ah V) (ag pl)=N at *;have y6:=Mg.o.2;have p1':=(y6.cell (p:=⟨gp,dE+v,none⟩) gj).trans p1;have P5:Hid (∃h:v<(iL (ah V)).length,(iL (ah V))[v]=((k:Nat):Int)):=⟨Tg,Tf⟩;clear eN sf p1 r1 CD Tg Tf OI;go_wp2_with fail
           refine(anE.o _ BI.o (q8.o.aa y6)).af ?_;rintro e w7 ⟨rfl,bK⟩;have Mf:=hid (Mg.o.step bK);have t1':=(bK.cell (p:=⟨gs,uP+v,none⟩) nE).trans t1;have HIs:=hid (BI.o.aa bK);have yX:=aR nE bK.size;clear bK p1' t1 c0 c1 c2 y6 nE;obtain⟨c0,c1,c2⟩:=Mf.o.1.cells;have r1':=(Mf.o.2.cell (p:=⟨gr,dt+v,none⟩) hgr).trans ur.o
           have hmul:IntKind.i64.wrap ((N:Int)*(k:Int))=((N*k:Nat):Int):=by
            have h1:N*k<=65536*4:=iW hcs eM;rw[eo, <- iH];omega
           generalize KP:N*k=T at *;go_upto_region 28 with fail
           go_quiet (fail)
           have Wo:Hid (NK w (w7.drewN nq) (.slice a V.length ca) (.slice (some ⟨gp,dE,none⟩) L.length cb) (.slice (some ⟨gr,dt,none⟩) R.length cc)):=⟨Mf.o.1,below_drewN Mf.o.2 nq⟩;have HIt:Hid (ax (w7.drewN nq) (some ⟨gs,uP,none⟩) (iL (ah V))):=HIs.o;clear Mf HIs c0 c1 c2 r1' t1' yX Mg BI hmul;generalize w7.drewN nq=w8 at *;by_cases hlen:rl.length=T
           ·have lD:((rl.length:Int) !=(T:Int))=false:=by rw[hlen];simp
            have HR9:=hid (V4.o hlen);have nU:=hid (V6.o hlen);(have hT1:1<=T:=by rw[<- KP];exact iW vA hs1);obtain⟨gf,cT,rfl,AZ, -⟩:=zB.o 0 (by omega);have HLEN:=hid hlen;have HNK:=hid KP;have xP:=hid AV;clear V4 V6 LQ hlen KP AV;rw[lD];clear lD;go_wp2_with fail
            go_loopw [12] (fun iv wz=>∃i:Nat,i<=N/\iv=.int .i64 i/\Hid (∀j,j< i ->iJ (fP rl k j)=true)/\Hid (NK w wz (.slice a V.length ca) (.slice (some ⟨gp,dE,none⟩) L.length cb) (.slice (some ⟨gr,dt,none⟩) R.length cc))/\Hid (ax wz (some ⟨gs,uP,none⟩) (iL (ah V)))) (fun iv _=>N - (intOf iv).toNat)
            case atStart=>exact⟨0,aU _,rfl,fun j h=>absurd h (by omega),Wo,HIt⟩
            case round=>
             obtain⟨i,Oy,rfl,Iz,FZ,Qh⟩:=hrel;clear Wo HIt;by_cases abg:i<N
             ·have hT:(i+1)*k<=rl.length:=by rw[HLEN.o, <- HNK.o];exact jK k abg
              have yU:k<=(i+1)*k:=zX k (by omega);have HFz:=hid (zB.o.aa FZ.o.2);obtain⟨c0,c1,c2⟩:=FZ.o.1.cells;have r1:=(FZ.o.2.cell (p:=⟨gr,dt+v,none⟩) hgr).trans ur.o;obtain⟨hx1,hx2⟩:=P5.o;obtain⟨gs',os',e',ajx,t1⟩:=Qh.o v hx1;cases e';rw[hx2] at t1;clear hx1 hx2
              have Mw:Hid (∀U:World,bZ U (some ⟨gf,cT,none⟩) rl ->Calls Tryz.prog 138 #[.slice (some ⟨gf,cT+i*k*3,none⟩) k (cr - i*k)] U fun e w'=>e=.returned (.bool (iJ (fP rl k i)))/\Below U.heap.size U w'):=fun U hU=>by
               obtain⟨h1,h2⟩:=hU.chunk hT rfl;have h3:=alY (some ⟨gf,cT+i*k*3,none⟩) (cr - i*k) (fP rl k i) U h1 (aS (abY rl k i) xP.o.2) (by omega);rwa [h2] at h3
              have HRX:Hid (∀i,(∀j,j< i ->iJ (fP rl k j)=true) ->iJ (fP rl k i)=true ->∀j,j<i+1 ->iJ (fP rl k j)=true):=fun i h h' j hj=>by
               rcases cD j i with h2 |h2
               ·exact h j h2
               ·obtain rfl:j=i:=by omega
                exact h'
              have oC:=xP.o.1;(have e2:(i+1)*k=i*k+k:=by rw[fW,kB])
              have hm1:IntKind.i64.wrap ((i:Int)*(k:Int))=((i*k:Nat):Int):=by
               rw[eo, <- iH];omega
              have bq:IntKind.i64.wrap (((i:Int)+1)*(k:Int))=(((i+1)*k:Nat):Int):=by
               (have:((i:Int)+1)=((i+1:Nat):Int):=by omega);rw[eo,this, <- iH];omega
              generalize hlo:i*k=lo at *;generalize Oz:(i+1)*k=AY at *;(have jQ:IntKind.i64.wrap ((i:Int)+1)=(i:Int)+1:=by rw[eo];omega);(have hc1:(AY:Int)<=(cr:Int):=by omega);(have hc2:lo<=AY:=by omega);(have hc3:¬cr=lo:=by omega);(have hc4:AY - lo=k:=by omega);clear hlo Oz e2 hT yU;go_upto_region 33 with fail
              refine jJ (S:=fun u=>u.cell? ⟨w.heap.size,2,none⟩=some (.slice (some ⟨gr,dt,none⟩) R.length cc)/\u.cell? ⟨gr,dt+v,none⟩=some (.slice (some ⟨gf,cT,none⟩) rl.length cr)/\u.cell? ⟨gs,uP+v,none⟩=some (.int .i64 (k:Nat))) (by kernel_rfl) ⟨c2,r1,t1⟩ (fun aq=>?_);have Wp:Hid (NK w wr.drew (.slice a V.length ca) (.slice (some ⟨gp,dE,none⟩) L.length cb) (.slice (some ⟨gr,dt,none⟩) R.length cc)):=⟨FZ.o.1,FZ.o.2.drew⟩;have HId:Hid (ax wr.drew (some ⟨gs,uP,none⟩) (iL (ah V))):=Qh.o;have HFd:Hid (bZ wr.drew (some ⟨gf,cT,none⟩) rl):=HFz.o;have tU:gs<wr.drew.heap.size:=ajx;clear c0 c1 c2 r1 t1 FZ Qh HFz;generalize wr.drew=u0 at *;refine aw 0 (.pointer (some ⟨w.heap.size,2,none⟩)) ?_;refine aw 1 (.slice (some ⟨gr,dt,none⟩) R.length cc) ?_;refine aw 2 (.int .i64 (v:Nat)) ?_;refine aw 3 (.pointer (some ⟨gr,dt+v,none⟩)) ?_;refine aw 4 (.slice (some ⟨gf,cT,none⟩) rl.length cr) ?_;refine aw 5 (.int .i64 (i:Nat)) ?_;refine aw 6 (.slice (some ⟨gs,uP,none⟩) V.length Fp) ?_;refine aw 7 (.int .i64 (v:Nat)) ?_;refine aw 8 (.pointer (some ⟨gs,uP+v,none⟩)) ?_;refine aw 9 (.int .i64 (k:Nat)) ?_;refine aw 10 (.int .i64 (lo:Nat)) ?_;refine aw 11 (.int .i64 (i:Nat)) ?_;refine aw 12 (.int .i64 ((i:Int)+1)) ?_;refine aw 13 (.slice (some ⟨gs,uP,none⟩) V.length Fp) ?_;refine aw 14 (.int .i64 (v:Nat)) ?_;refine aw 15 (.pointer (some ⟨gs,uP+v,none⟩)) ?_;refine aw 16 (.int .i64 (k:Nat)) ?_;refine aw 17 (.int .i64 (AY:Nat)) ?_;refine aw 18 (.slice (some ⟨gf,cT+lo*3,none⟩) k (cr - lo)) ?_
              refine aF [19] (cA ?_ aD);intro K' hK';go_simp;refine(Mw.o _ HFd.o).af ?_;rintro e u1 ⟨rfl,hb⟩;have hKn:=Wp.o.step hb;refine hK'.o _ _ ⟨hKn.1.cells.2.2,(hb.cell (p:=⟨gr,dt+v,none⟩) (by have:=Wp.o.2.size;show gr<_;omega)).trans aq.2.1,(hb.cell (p:=⟨gs,uP+v,none⟩) tU).trans aq.2.2⟩ (fun ak=>?_);clear hK' K' aq;have aq:=ak;clear ak;have xX:=hid hKn;have HIn:=hid (HId.o.aa hb);clear hKn hb Wp HId HFd;refine aw 20 (.bool (iJ (fP rl k i))) ?_;(try simp only[gE,aP]);refine dW (by kernel_rfl) ?_ _;cases rF:iJ (fP rl k i) with
              |false=>
               have HQ:=hid (HR9.o i abg rF);clear rF;go_wp2;go_ret;exact⟨by rw[HQ.o];rfl,xX.o.2⟩
              |true=>
               have HX:=hid (HRX.o i Iz.o rF);clear rF;clear jQ hc1 hc2 hc3 hc4 hm1 bq;go_wp2;go_roundw
               case rel=>exact⟨i+1,by omega,by go_num,HX,xX,HIn⟩
               case measure=>simp[intOf];omega
             ·obtain rfl:i=N:=by omega
              have HX:=hid (nU.o Iz.o);go_wp2;go_roundw
              case rel=>exact⟨v+1,by omega,by go_num,HX,FZ,Qh⟩
              case measure=>simp[intOf];omega
           ·have HQ:=hid (LQ.o hlen)
            have lD:((rl.length:Int) !=(T:Int))=true:=by
             (have:¬(rl.length:Int)=(T:Int):=by omega);simpa using this
            clear hlen V4 V6 LQ;go_wp2;go_ret;exact⟨by rw[HQ.o];rfl,Wo.o.2⟩
          ·obtain rfl:v=V.length:=by omega
           have HQ:=hid (Ms.o PM.o);go_wp2;go_ret;exact⟨by rw[HQ.o];rfl,Mg.o.2⟩
      ·have HQ:Hid (ne=Sw):=by
        have h1:=VQ.o iy;show _=_;rw[DD.o (by rw[h1];exact iy),h1]
       (have Tn:(Sw==0)=false:=by simpa using iy);clear iy VQ VP;go_wp2;go_ret;exact⟨by rw[HQ.o];rfl,HK.o.2⟩
   ·have HQ:=hid (uz.o uC.o sV.o hg);(have Tn:(bE L==0)=false:=by simpa using hg);clear hg uz uy II F7;generalize bE L=q at *;go_wp2;go_ret;exact⟨by rw[HQ.o];rfl,oY.o.2⟩
  ·have HQ:=hid (sY.o fun h=>qf h.2);(have hlv:((L.length:Int) !=(V.length:Int))=false:=by rw[lI];simp)
   have Kc:((R.length:Int) !=(V.length:Int))=true:=by
    (have:¬(R.length:Int)=(V.length:Int):=by omega);simpa using this
   clear lI qf sY;go_enter Tryz.func79,Tryz.ntmps79;go_wp2;go_ret;exact⟨by rw[HQ.o];rfl,bY.o.2⟩
 ·have HQ:=hid (sY.o fun h=>lI h.1)
  have hlv:((L.length:Int) !=(V.length:Int))=true:=by
   (have:¬(L.length:Int)=(V.length:Int):=by omega);simpa using this
  clear lI sY;go_enter Tryz.func79,Tryz.ntmps79;go_wp2;go_ret;exact⟨by rw[HQ.o];rfl,bY.o.2⟩
variable {S:List Nat} {f:Nat ->Nat}
def LK (w wr:World) (x y z:Value):Prop:=NK w wr x y z/\aC wr (w.heap.size+1) false ⟨#[]⟩ ⟨#[]⟩
theorem LK.new (w:World) (x y z:Value):LK w ((w.alloc (NC x y z)).alloc (FC false ⟨#[]⟩ ⟨#[]⟩)) x y z:=⟨(NK.new w x y z).step ((au _ _).alloc (ar _) _),aC.at (by simp) _ _ _⟩
theorem LK.drewN (h:LK w wr x y z) (k:Nat):LK w (wr.drewN k) x y z:=⟨⟨h.1.1,below_drewN h.1.2 k⟩,h.2⟩
theorem RZ (hp:∀v,sz S v<=4) (f:Nat ->Nat) (hf:∀u,f u<sz S u) {P:List Nat} (hl:P.length<=8) (i:Nat):pos S f (P.take i)<=65536:=by
 have h1:=p3 f hf (P.take i);have h2:=pw hp (vs:=P.take i) (by rw[eZ];omega);omega
def p6 (S:List Nat) (P:List Nat) (f:Nat ->Nat) (v:Nat):Nat:=pos S f P*sz S v+f v
theorem SR {P:List Nat} (hf:∀u,f u<sz S u) (v:Nat):p6 S P f v<cnt S P*sz S v:=by
 have h1:=p3 f hf P;have h2:=hf v;rw[p6]
 calc pos S f P*sz S v+f v<pos S f P*sz S v+sz S v:=by omega
  _=(pos S f P+1)*sz S v:=by rw[fW,kB]
  _<=cnt S P*sz S v:=jK _ h1
theorem aiB (a b c d:Option Addr) (ca cb cc cd v:Nat) (V:List Vr) (L:List (List Int)) (R:List (List Fr)) (A:List Nat) (w:World) (h:gP w a b c V L R) (hA:ax w d (iL A)) (y7:A.length=V.length) (E6:V.length<=8) (hv:v<V.length) (dG:v<L.length) (kn:v<R.length) (hS:eH (iL (ah V))) (hU:Up L[v] V.length) (hlen:R[v].length=cnt (ah V) (ag L[v])*sz (ah V) v) (f:Nat ->Nat) (hf:∀u,f u<sz (ah V) u) (yY:∀u,u<V.length ->A[u]? =some (f u)):
  Calls Tryz.prog 151 #[.agg #[.slice a V.length ca,.slice b L.length cb,.slice c R.length cc],.int .i64 (v:Nat),.slice d A.length cd] w fun e w'=>e=.returned (dP (bA R[v] (p6 (ah V) (ag L[v]) f v)))/\Below w.heap.size w w':=by
 have hT:=SR (S:=ah V) (P:=ag L[v]) hf v;rw[<- hlen] at hT;rw[pz hT];have eM:∀u,sz (ah V) u<=4:=fun u=>by have:=hS.sz_le u;rwa [ew] at this
 have hpl:(ag L[v]).length<=8:=by rw[cS];have:=hU.length;omega
 have ajk:L[v].length<=8:=by have:=hU.length;omega
 have mC:=hid (fun i=>RZ eM f hf hpl i);have qx:=hid (fun i (hi:i<(ag L[v]).length)=>R1 (ah V) f hi)
 have LX:Hid (pos (ah V) f ((ag L[v]).take L[v].length)=pos (ah V) f (ag L[v])):=by
  show _=_;rw[jd (by rw[cS];omega)]
 have nX:Hid (∀u,f u<4):=fun u=>aR (hf u) (eM u);have LA:=hid eM;have gz:=hid hU;have HSG:=hid (fun u (hu:u<V.length)=>Co hu);have fT:Hid (∀u (hu:u<V.length),sz (ah V) u=V[u].2.length):=fun u hu=>by rw[sz,Co hu];rfl
 have zJ:=hid yY;have HI:=hid h;have HA:=hid hA;have T9:p6 (ah V) (ag L[v]) f v=pos (ah V) f (ag L[v])*sz (ah V) v+f v:=rfl;obtain⟨gp,dE,bp,cp,rfl,gj,p1,eN⟩:=h.pars v dG;obtain⟨gr,dt,br,cr,rfl,hgr,r1,sf,CG⟩:=h.rows v kn;obtain⟨gf,cT,rfl,AZ,m0,m1,m2⟩:=sf _ hT;obtain⟨gv,ov,bv,cv,rfl,yV, -,n1, -, -⟩:=h.vars v hv;obtain⟨ga,oa,rfl,wU,a1⟩:=hA v (by rw[ba];omega)
 have ea:(iL A)[v]'(by rw[ba];omega)=((f v:Nat):Int):=by
  obtain⟨h1,h2⟩:=o0.1 (yY v hv);simp only[iL,og,h2]
 rw[ea] at a1;rw[<- fT.o v hv] at n1;have q8:=hid eN;have HM:=hid (show _/\_/\_/\_/\_/\_/\_ from ⟨p1,r1,n1,a1,m0,m1,m2⟩);have OB:=nX.o v;have tJ:=LA.o v;have CH:=mC.o (ag L[v]).length;rw[fJ] at CH
 have hrl:R[v].length<=262144:=by
  rw[hlen];have h1:=pw eM hpl;exact aS (iW h1 tJ) (by decide)
 have HRC:=hid CG;generalize Ua:p6 (ah V) (ag L[v]) f v=T at *;generalize hfr:R[v][T]=fr at *;obtain⟨fn,fx,fy⟩:=fr;simp only at HM;clear h hA yY eN sf p1 r1 n1 a1 m0 m1 m2 hlen hf eM hS hU ea Ua hfr CG;generalize R[v]=rl at *;generalize L[v]=pl at *;have bY:=hid (LK.new w (.slice (some ⟨gv,ov,none⟩) V.length ca) (.slice (some ⟨gp,dE,none⟩) L.length cb) (.slice (some ⟨gr,dt,none⟩) R.length cc));obtain⟨c0,c1,c2⟩:=bY.o.1.1.cells;have p1:=(bY.o.1.2.cell (p:=⟨gp,dE+v,none⟩) gj).trans HM.o.1;go_enter Tryz.func151,Tryz.ntmps151;go_wp2_with fail
 generalize ((w.alloc (NC (.slice (some ⟨gv,ov,none⟩) V.length ca) (.slice (some ⟨gp,dE,none⟩) L.length cb) (.slice (some ⟨gr,dt,none⟩) R.length cc))).alloc (FC false ⟨#[]⟩ ⟨#[]⟩))=w1 at *;clear c0 c1 c2 p1;go_loopw [7,16] (fun kv iv wr=>∃i:Nat,i<=pl.length/\iv=.int .i64 i/\kv=.int .i64 (pos (ah V) f ((ag pl).take i):Nat)/\Hid (LK w wr (.slice (some ⟨gv,ov,none⟩) V.length ca) (.slice (some ⟨gp,dE,none⟩) L.length cb) (.slice (some ⟨gr,dt,none⟩) R.length cc))) (fun _ iv _=>pl.length - (intOf iv).toNat)
 case atStart=>exact⟨0,aU _,rfl,rfl,bY⟩
 case round=>
  obtain⟨i,hi,rfl,rfl,HK⟩:=hrel;clear bY;obtain⟨c0,c1,c2⟩:=HK.o.1.1.cells;have p1:=(HK.o.1.2.cell (p:=⟨gp,dE+v,none⟩) gj).trans HM.o.1;by_cases hlt:i<pl.length
  ·obtain⟨gl,ol,rfl,cH,l1⟩:=(q8.o.aa HK.o.1.2) i hlt;obtain⟨gO,gH⟩:=gz.o.nat hlt;(have jB:i<(ag pl).length:=by rw[cS];exact hlt);have df:=qx.o i jB;rw[o6 hlt] at df;have vr:=mC.o i;rw[<- gO] at l1;generalize pl[i].toNat=u at *;obtain⟨gv',ov',bu,cu,ev,ajw, -,n2, -, -⟩:=(HI.o.aa HK.o.1.2).vars u gH;cases ev;rw[<- fT.o u gH] at n2;obtain⟨ga',oa',U3,ajD,a2⟩:=(HA.o.aa HK.o.1.2) u (by rw[ba];omega);cases U3
   have eu:(iL A)[u]'(by rw[ba];omega)=((f u:Nat):Int):=by
    obtain⟨h1,h2⟩:=o0.1 (zJ.o u gH);simp only[iL,og,h2]
   rw[eu] at a2;have hfu:=nX.o u;have S2:=LA.o u;have zC:Hid (pos (ah V) f ((ag pl).take (i+1))=pos (ah V) f ((ag pl).take i)*sz (ah V) u+f u):=df;clear df eu jB gO;generalize tY:pos (ah V) f ((ag pl).take (i+1))=P1 at *;generalize pos (ah V) f ((ag pl).take i)=P0 at *;generalize sz (ah V) u=su at *;generalize f u=fu at *;have h1:P0*su<=65536*4:=iW vr S2
   have hm1:IntKind.i64.wrap ((P0:Int)*(su:Int))=((P0*su:Nat):Int):=by
    rw[eo, <- iH];omega
   have bq:IntKind.i64.wrap (((P0*su:Nat):Int)+(fu:Int))=(P1:Int):=by
    rw[eo];have:=zC.o;omega
   generalize P0*su=Q0 at *;have lS:=hid tY;clear tY h1 zC;go_upto_region 5 with fail
   go_quiet (fail)
   have xX:=hid (HK.o.drewN nq);generalize wr.drewN nq=w2 at *;go_wp2;go_roundw
   case rel=>exact⟨i+1,by omega,by go_num,by rw[lS.o],xX⟩
   case measure=>simp[intOf];omega
  ·obtain rfl:i=pl.length:=by omega
   rw[LX.o];have r1:=(HK.o.1.2.cell (p:=⟨gr,dt+v,none⟩) hgr).trans HM.o.2.1;have n1:=(HK.o.1.2.cell (p:=⟨gv,ov+v*2+1,none⟩) yV).trans HM.o.2.2.1;have a1:=(HK.o.1.2.cell (p:=⟨ga,oa+v,none⟩) wU).trans HM.o.2.2.2.1;have m0:=(HK.o.1.2.cell (p:=⟨gf,cT+T*3,none⟩) AZ).trans HM.o.2.2.2.2.1;have m1:=(HK.o.1.2.cell (p:=⟨gf,cT+T*3+1,none⟩) AZ).trans HM.o.2.2.2.2.2.1;have m2:=(HK.o.1.2.cell (p:=⟨gf,cT+T*3+2,none⟩) AZ).trans HM.o.2.2.2.2.2.2;have h1:pos (ah V) f (ag pl)*sz (ah V) v<=65536*4:=iW CH tJ;generalize pos (ah V) f (ag pl)=p at *;generalize sz (ah V) v=k at *;generalize f v=x at *
   have hm1:IntKind.i64.wrap ((p:Int)*(k:Int))=((p*k:Nat):Int):=by
    rw[eo, <- iH];omega
   have bq:IntKind.i64.wrap (((p*k:Nat):Int)+(x:Int))=(T:Int):=by
    rw[eo];omega
   generalize p*k=pk at *;clear T9 h1;go_upto_region 7 with fail
   have A5:=HK.o;refine jJ (S:=fun u=>u.cell? ⟨w.heap.size,2,none⟩=some (.slice (some ⟨gr,dt,none⟩) R.length cc)/\u.cell? ⟨gr,dt+v,none⟩=some (.slice (some ⟨gf,cT,none⟩) rl.length cr)/\u.cell? ⟨w.heap.size,0,none⟩=some (.slice (some ⟨gv,ov,none⟩) V.length ca)/\u.cell? ⟨gv,ov+v*2+1,none⟩=some (.slice bv k cv)/\u.cell? ⟨ga,oa+v,none⟩=some (.int .i64 (x:Nat))/\u.cell? ⟨gf,cT+T*3,none⟩=some (.bool fn)/\u.cell? ⟨gf,cT+T*3+1,none⟩=some (.string fx)/\u.cell? ⟨gf,cT+T*3+2,none⟩=some (.string fy)) (by kernel_rfl) ⟨c2,r1,c0,n1,a1,m0,m1,m2⟩ (fun aq=>?_);have A5:LK w wr.drew (.slice (some ⟨gv,ov,none⟩) V.length ca) (.slice (some ⟨gp,dE,none⟩) L.length cb) (.slice (some ⟨gr,dt,none⟩) R.length cc):=⟨⟨HK.o.1.1,HK.o.1.2.drew⟩,HK.o.2⟩;clear c0 c1 c2 p1 r1 n1 a1 m0 m1 m2;generalize wr.drew=u0 at *;refine aw 0 (.pointer (some ⟨w.heap.size,2,none⟩)) ?_;refine aw 1 (.slice (some ⟨gr,dt,none⟩) R.length cc) ?_;refine aw 2 (.int .i64 (v:Nat)) ?_;refine aw 3 (.pointer (some ⟨gr,dt+v,none⟩)) ?_;refine aw 4 (.slice (some ⟨gf,cT,none⟩) rl.length cr) ?_;refine aw 5 (.int .i64 (p:Nat)) ?_;refine aw 6 (.pointer (some ⟨w.heap.size,0,none⟩)) ?_;refine aw 7 (.slice (some ⟨gv,ov,none⟩) V.length ca) ?_;refine aw 8 (.int .i64 (v:Nat)) ?_;refine aw 9 (.pointer (some ⟨gv,ov+v*2,none⟩)) ?_;refine aw 10 (.pointer (some ⟨gv,ov+v*2+1,none⟩)) ?_;refine aw 11 (.slice bv k cv) ?_;refine aw 12 (.int .i64 (k:Nat)) ?_;refine aw 13 (.int .i64 (pk:Nat)) ?_;refine aw 14 (.slice (some ⟨ga,oa,none⟩) A.length cd) ?_
   refine aw 15 (.int .i64 (v:Nat)) ?_;refine aw 16 (.pointer (some ⟨ga,oa+v,none⟩)) ?_;refine aw 17 (.int .i64 (x:Nat)) ?_;refine aw 18 (.int .i64 (T:Nat)) ?_;refine aw 19 (.pointer (some ⟨gf,cT+T*3,none⟩)) ?_;refine aw 20 (.agg #[.bool fn,.string fx,.string fy]) ?_;(try simp only[gE,aP]);obtain⟨k0,k1,k2,f0,f1,f2⟩:=A5.2.facts;(have tP:w.heap.size≠w.heap.size+1:=by omega);(have ET:gr≠w.heap.size+1:=by omega);(have ES:gv≠w.heap.size+1:=by omega);(have EU:ga≠w.heap.size+1:=by omega);(have oF:gf≠w.heap.size+1:=by omega);refine aF [21] (cA ?_ aD);intro K' hK';go_simp;have eA:=A5.2.put fn fx fy;have qb:=bF A5.1.2 (show w.heap.size<=w.heap.size+1 by omega) (.bool fn) (.string fx) (.string fy)
   refine hK'.o _ _ ⟨((bX _ _ _ _ (fun e=>tP (bR Addr.block e).symm)).trans ((bX _ _ _ _ (fun e=>tP (bR Addr.block e).symm)).trans ((bX _ _ _ _ (fun e=>tP (bR Addr.block e).symm)).trans aq.1))),((bX _ _ _ _ (fun e=>ET (bR Addr.block e).symm)).trans ((bX _ _ _ _ (fun e=>ET (bR Addr.block e).symm)).trans ((bX _ _ _ _ (fun e=>ET (bR Addr.block e).symm)).trans aq.2.1))),((bX _ _ _ _ (fun e=>tP (bR Addr.block e).symm)).trans ((bX _ _ _ _ (fun e=>tP (bR Addr.block e).symm)).trans ((bX _ _ _ _ (fun e=>tP (bR Addr.block e).symm)).trans aq.2.2.1))),((bX _ _ _ _ (fun e=>ES (bR Addr.block e).symm)).trans ((bX _ _ _ _ (fun e=>ES (bR Addr.block e).symm)).trans ((bX _ _ _ _ (fun e=>ES (bR Addr.block e).symm)).trans aq.2.2.2.1))),((bX _ _ _ _ (fun e=>EU (bR Addr.block e).symm)).trans ((bX _ _ _ _ (fun e=>EU (bR Addr.block e).symm)).trans ((bX _ _ _ _ (fun e=>EU (bR Addr.block e).symm)).trans aq.2.2.2.2.1))),((bX _ _ _ _ (fun e=>oF (bR Addr.block e).symm)).trans ((bX _ _ _ _ (fun e=>oF (bR Addr.block e).symm)).trans ((bX _ _ _ _ (fun e=>oF (bR Addr.block e).symm)).trans aq.2.2.2.2.2.1))),((bX _ _ _ _ (fun e=>oF (bR Addr.block e).symm)).trans ((bX _ _ _ _ (fun e=>oF (bR Addr.block e).symm)).trans ((bX _ _ _ _ (fun e=>oF (bR Addr.block e).symm)).trans aq.2.2.2.2.2.2.1))),((bX _ _ _ _ (fun e=>oF (bR Addr.block e).symm)).trans ((bX _ _ _ _ (fun e=>oF (bR Addr.block e).symm)).trans ((bX _ _ _ _ (fun e=>oF (bR Addr.block e).symm)).trans aq.2.2.2.2.2.2.2)))⟩ (fun ak=>?_)
   clear hK' K' aq ak k0 k1 k2 f0 f1 f2;generalize (((u0.setCell ⟨w.heap.size+1,0,none⟩ (.bool fn)).setCell ⟨w.heap.size+1,1,none⟩ (.string fx)).setCell ⟨w.heap.size+1,2,none⟩ (.string fy))=u9 at *;(try simp only[gE,aP]);refine dW (by kernel_rfl) ?_ _;go_wp2;refine bB (eA.result rfl _ rfl) rfl ?_;exact⟨rfl,qb⟩
theorem afR (a b c d:Option Addr) (ca cb cc cd v:Nat) (V:List Vr) (L:List (List Int)) (R:List (List Fr)) (A:List Nat) (w:World) (h:gP w a b c V L R) (hA:ax w d (iL A)) (y7:A.length=V.length) (E6:V.length<=8) (hv:v<V.length) (dG:v<L.length) (kn:v<R.length) (hS:eH (iL (ah V))) (hU:Up L[v] V.length) (hlen:R[v].length=cnt (ah V) (ag L[v])*sz (ah V) v) (f:Nat ->Nat) (hf:∀u,f u<sz (ah V) u) (yY:∀u,u<V.length ->A[u]? =some (f u)):
  Calls Tryz.prog 114 #[.agg #[.slice a V.length ca,.slice b L.length cb,.slice c R.length cc],.int .i64 (v:Nat),.slice d A.length cd] w fun e w'=>e=.returned (dP (bA R[v] (p6 (ah V) (ag L[v]) f v)))/\Below w.heap.size w w':=by
 have hT:=SR (S:=ah V) (P:=ag L[v]) hf v;rw[<- hlen] at hT;rw[pz hT];have eM:∀u,sz (ah V) u<=4:=fun u=>by have:=hS.sz_le u;rwa [ew] at this
 have hpl:(ag L[v]).length<=8:=by rw[cS];have:=hU.length;omega
 have ajk:L[v].length<=8:=by have:=hU.length;omega
 have mC:=hid (fun i=>RZ eM f hf hpl i);have qx:=hid (fun i (hi:i<(ag L[v]).length)=>R1 (ah V) f hi)
 have LX:Hid (pos (ah V) f ((ag L[v]).take L[v].length)=pos (ah V) f (ag L[v])):=by
  show _=_;rw[jd (by rw[cS];omega)]
 have nX:Hid (∀u,f u<4):=fun u=>aR (hf u) (eM u);have LA:=hid eM;have gz:=hid hU;have HSG:=hid (fun u (hu:u<V.length)=>Co hu);have fT:Hid (∀u (hu:u<V.length),sz (ah V) u=V[u].2.length):=fun u hu=>by rw[sz,Co hu];rfl
 have zJ:=hid yY;have HI:=hid h;have HA:=hid hA;have T9:p6 (ah V) (ag L[v]) f v=pos (ah V) f (ag L[v])*sz (ah V) v+f v:=rfl;obtain⟨gp,dE,bp,cp,rfl,gj,p1,eN⟩:=h.pars v dG;obtain⟨gr,dt,br,cr,rfl,hgr,r1,sf,CG⟩:=h.rows v kn;obtain⟨gf,cT,rfl,AZ,m0,m1,m2⟩:=sf _ hT;obtain⟨gv,ov,bv,cv,rfl,yV, -,n1, -, -⟩:=h.vars v hv;obtain⟨ga,oa,rfl,wU,a1⟩:=hA v (by rw[ba];omega)
 have ea:(iL A)[v]'(by rw[ba];omega)=((f v:Nat):Int):=by
  obtain⟨h1,h2⟩:=o0.1 (yY v hv);simp only[iL,og,h2]
 rw[ea] at a1;rw[<- fT.o v hv] at n1;have q8:=hid eN;have HM:=hid (show _/\_/\_/\_/\_/\_/\_ from ⟨p1,r1,n1,a1,m0,m1,m2⟩);have OB:=nX.o v;have tJ:=LA.o v;have CH:=mC.o (ag L[v]).length;rw[fJ] at CH
 have hrl:R[v].length<=262144:=by
  rw[hlen];have h1:=pw eM hpl;exact aS (iW h1 tJ) (by decide)
 have HRC:=hid CG;generalize Ua:p6 (ah V) (ag L[v]) f v=T at *;generalize hfr:R[v][T]=fr at *;obtain⟨fn,fx,fy⟩:=fr;simp only at HM;clear h hA yY eN sf p1 r1 n1 a1 m0 m1 m2 hlen hf eM hS hU ea Ua hfr CG;generalize R[v]=rl at *;generalize L[v]=pl at *;have bY:=hid (LK.new w (.slice (some ⟨gv,ov,none⟩) V.length ca) (.slice (some ⟨gp,dE,none⟩) L.length cb) (.slice (some ⟨gr,dt,none⟩) R.length cc));obtain⟨c0,c1,c2⟩:=bY.o.1.1.cells;have p1:=(bY.o.1.2.cell (p:=⟨gp,dE+v,none⟩) gj).trans HM.o.1;go_enter Tryz.func114,Tryz.ntmps114;go_wp2_with fail
 generalize ((w.alloc (NC (.slice (some ⟨gv,ov,none⟩) V.length ca) (.slice (some ⟨gp,dE,none⟩) L.length cb) (.slice (some ⟨gr,dt,none⟩) R.length cc))).alloc (FC false ⟨#[]⟩ ⟨#[]⟩))=w1 at *;clear c0 c1 c2 p1;go_loopw [7,8] (fun kv iv wr=>∃i:Nat,i<=pl.length/\iv=.int .i64 i/\kv=.int .i64 (pos (ah V) f ((ag pl).take i):Nat)/\Hid (LK w wr (.slice (some ⟨gv,ov,none⟩) V.length ca) (.slice (some ⟨gp,dE,none⟩) L.length cb) (.slice (some ⟨gr,dt,none⟩) R.length cc))) (fun _ iv _=>pl.length - (intOf iv).toNat)
 case atStart=>exact⟨0,aU _,rfl,rfl,bY⟩
 case round=>
  obtain⟨i,hi,rfl,rfl,HK⟩:=hrel;clear bY;obtain⟨c0,c1,c2⟩:=HK.o.1.1.cells;have p1:=(HK.o.1.2.cell (p:=⟨gp,dE+v,none⟩) gj).trans HM.o.1;by_cases hlt:i<pl.length
  ·obtain⟨gl,ol,rfl,cH,l1⟩:=(q8.o.aa HK.o.1.2) i hlt;obtain⟨gO,gH⟩:=gz.o.nat hlt;(have jB:i<(ag pl).length:=by rw[cS];exact hlt);have df:=qx.o i jB;rw[o6 hlt] at df;have vr:=mC.o i;rw[<- gO] at l1;generalize pl[i].toNat=u at *;obtain⟨gv',ov',bu,cu,ev,ajw, -,n2, -, -⟩:=(HI.o.aa HK.o.1.2).vars u gH;cases ev;rw[<- fT.o u gH] at n2;obtain⟨ga',oa',U3,ajD,a2⟩:=(HA.o.aa HK.o.1.2) u (by rw[ba];omega);cases U3
   have eu:(iL A)[u]'(by rw[ba];omega)=((f u:Nat):Int):=by
    obtain⟨h1,h2⟩:=o0.1 (zJ.o u gH);simp only[iL,og,h2]
   rw[eu] at a2;have hfu:=nX.o u;have S2:=LA.o u;have zC:Hid (pos (ah V) f ((ag pl).take (i+1))=pos (ah V) f ((ag pl).take i)*sz (ah V) u+f u):=df;clear df eu jB gO;generalize tY:pos (ah V) f ((ag pl).take (i+1))=P1 at *;generalize pos (ah V) f ((ag pl).take i)=P0 at *;generalize sz (ah V) u=su at *;generalize f u=fu at *;have h1:P0*su<=65536*4:=iW vr S2
   have hm1:IntKind.i64.wrap ((P0:Int)*(su:Int))=((P0*su:Nat):Int):=by
    rw[eo, <- iH];omega
   have bq:IntKind.i64.wrap (((P0*su:Nat):Int)+(fu:Int))=(P1:Int):=by
    rw[eo];have:=zC.o;omega
   generalize P0*su=Q0 at *;have lS:=hid tY;clear tY h1 zC;go_upto_region 6 with fail
   go_quiet (fail)
   have xX:=hid (HK.o.drewN nq);generalize wr.drewN nq=w2 at *;go_wp2;go_roundw
   case rel=>exact⟨i+1,by omega,by go_num,by rw[lS.o],xX⟩
   case measure=>simp[intOf];omega
  ·obtain rfl:i=pl.length:=by omega
   rw[LX.o];have r1:=(HK.o.1.2.cell (p:=⟨gr,dt+v,none⟩) hgr).trans HM.o.2.1;have n1:=(HK.o.1.2.cell (p:=⟨gv,ov+v*2+1,none⟩) yV).trans HM.o.2.2.1;have a1:=(HK.o.1.2.cell (p:=⟨ga,oa+v,none⟩) wU).trans HM.o.2.2.2.1;have m0:=(HK.o.1.2.cell (p:=⟨gf,cT+T*3,none⟩) AZ).trans HM.o.2.2.2.2.1;have m1:=(HK.o.1.2.cell (p:=⟨gf,cT+T*3+1,none⟩) AZ).trans HM.o.2.2.2.2.2.1;have m2:=(HK.o.1.2.cell (p:=⟨gf,cT+T*3+2,none⟩) AZ).trans HM.o.2.2.2.2.2.2;have h1:pos (ah V) f (ag pl)*sz (ah V) v<=65536*4:=iW CH tJ;generalize pos (ah V) f (ag pl)=p at *;generalize sz (ah V) v=k at *;generalize f v=x at *
   have hm1:IntKind.i64.wrap ((p:Int)*(k:Int))=((p*k:Nat):Int):=by
    rw[eo, <- iH];omega
   have bq:IntKind.i64.wrap (((p*k:Nat):Int)+(x:Int))=(T:Int):=by
    rw[eo];omega
   generalize p*k=pk at *;clear T9 h1;go_upto_region 7 with fail
   have A5:=HK.o;refine jJ (S:=fun u=>u.cell? ⟨w.heap.size,2,none⟩=some (.slice (some ⟨gr,dt,none⟩) R.length cc)/\u.cell? ⟨gr,dt+v,none⟩=some (.slice (some ⟨gf,cT,none⟩) rl.length cr)/\u.cell? ⟨w.heap.size,0,none⟩=some (.slice (some ⟨gv,ov,none⟩) V.length ca)/\u.cell? ⟨gv,ov+v*2+1,none⟩=some (.slice bv k cv)/\u.cell? ⟨ga,oa+v,none⟩=some (.int .i64 (x:Nat))/\u.cell? ⟨gf,cT+T*3,none⟩=some (.bool fn)/\u.cell? ⟨gf,cT+T*3+1,none⟩=some (.string fx)/\u.cell? ⟨gf,cT+T*3+2,none⟩=some (.string fy)) (by kernel_rfl) ⟨c2,r1,c0,n1,a1,m0,m1,m2⟩ (fun aq=>?_);have A5:LK w wr.drew (.slice (some ⟨gv,ov,none⟩) V.length ca) (.slice (some ⟨gp,dE,none⟩) L.length cb) (.slice (some ⟨gr,dt,none⟩) R.length cc):=⟨⟨HK.o.1.1,HK.o.1.2.drew⟩,HK.o.2⟩;clear c0 c1 c2 p1 r1 n1 a1 m0 m1 m2;generalize wr.drew=u0 at *;refine aw 0 (.pointer (some ⟨w.heap.size,2,none⟩)) ?_;refine aw 1 (.slice (some ⟨gr,dt,none⟩) R.length cc) ?_;refine aw 2 (.int .i64 (v:Nat)) ?_;refine aw 3 (.pointer (some ⟨gr,dt+v,none⟩)) ?_;refine aw 4 (.slice (some ⟨gf,cT,none⟩) rl.length cr) ?_;refine aw 5 (.int .i64 (p:Nat)) ?_;refine aw 6 (.pointer (some ⟨w.heap.size,0,none⟩)) ?_;refine aw 7 (.slice (some ⟨gv,ov,none⟩) V.length ca) ?_;refine aw 8 (.int .i64 (v:Nat)) ?_;refine aw 9 (.pointer (some ⟨gv,ov+v*2,none⟩)) ?_;refine aw 10 (.pointer (some ⟨gv,ov+v*2+1,none⟩)) ?_;refine aw 11 (.slice bv k cv) ?_;refine aw 12 (.int .i64 (k:Nat)) ?_;refine aw 13 (.int .i64 (pk:Nat)) ?_;refine aw 14 (.slice (some ⟨ga,oa,none⟩) A.length cd) ?_
   refine aw 15 (.int .i64 (v:Nat)) ?_;refine aw 16 (.pointer (some ⟨ga,oa+v,none⟩)) ?_;refine aw 17 (.int .i64 (x:Nat)) ?_;refine aw 18 (.int .i64 (T:Nat)) ?_;refine aw 19 (.pointer (some ⟨gf,cT+T*3,none⟩)) ?_;refine aw 20 (.agg #[.bool fn,.string fx,.string fy]) ?_;(try simp only[gE,aP]);obtain⟨k0,k1,k2,f0,f1,f2⟩:=A5.2.facts;(have tP:w.heap.size≠w.heap.size+1:=by omega);(have ET:gr≠w.heap.size+1:=by omega);(have ES:gv≠w.heap.size+1:=by omega);(have EU:ga≠w.heap.size+1:=by omega);(have oF:gf≠w.heap.size+1:=by omega);refine aF [21] (cA ?_ aD);intro K' hK';go_simp;have eA:=A5.2.put fn fx fy;have qb:=bF A5.1.2 (show w.heap.size<=w.heap.size+1 by omega) (.bool fn) (.string fx) (.string fy)
   refine hK'.o _ _ ⟨((bX _ _ _ _ (fun e=>tP (bR Addr.block e).symm)).trans ((bX _ _ _ _ (fun e=>tP (bR Addr.block e).symm)).trans ((bX _ _ _ _ (fun e=>tP (bR Addr.block e).symm)).trans aq.1))),((bX _ _ _ _ (fun e=>ET (bR Addr.block e).symm)).trans ((bX _ _ _ _ (fun e=>ET (bR Addr.block e).symm)).trans ((bX _ _ _ _ (fun e=>ET (bR Addr.block e).symm)).trans aq.2.1))),((bX _ _ _ _ (fun e=>tP (bR Addr.block e).symm)).trans ((bX _ _ _ _ (fun e=>tP (bR Addr.block e).symm)).trans ((bX _ _ _ _ (fun e=>tP (bR Addr.block e).symm)).trans aq.2.2.1))),((bX _ _ _ _ (fun e=>ES (bR Addr.block e).symm)).trans ((bX _ _ _ _ (fun e=>ES (bR Addr.block e).symm)).trans ((bX _ _ _ _ (fun e=>ES (bR Addr.block e).symm)).trans aq.2.2.2.1))),((bX _ _ _ _ (fun e=>EU (bR Addr.block e).symm)).trans ((bX _ _ _ _ (fun e=>EU (bR Addr.block e).symm)).trans ((bX _ _ _ _ (fun e=>EU (bR Addr.block e).symm)).trans aq.2.2.2.2.1))),((bX _ _ _ _ (fun e=>oF (bR Addr.block e).symm)).trans ((bX _ _ _ _ (fun e=>oF (bR Addr.block e).symm)).trans ((bX _ _ _ _ (fun e=>oF (bR Addr.block e).symm)).trans aq.2.2.2.2.2.1))),((bX _ _ _ _ (fun e=>oF (bR Addr.block e).symm)).trans ((bX _ _ _ _ (fun e=>oF (bR Addr.block e).symm)).trans ((bX _ _ _ _ (fun e=>oF (bR Addr.block e).symm)).trans aq.2.2.2.2.2.2.1))),((bX _ _ _ _ (fun e=>oF (bR Addr.block e).symm)).trans ((bX _ _ _ _ (fun e=>oF (bR Addr.block e).symm)).trans ((bX _ _ _ _ (fun e=>oF (bR Addr.block e).symm)).trans aq.2.2.2.2.2.2.2)))⟩ (fun ak=>?_)
   clear hK' K' aq ak k0 k1 k2 f0 f1 f2;generalize (((u0.setCell ⟨w.heap.size+1,0,none⟩ (.bool fn)).setCell ⟨w.heap.size+1,1,none⟩ (.string fx)).setCell ⟨w.heap.size+1,2,none⟩ (.string fy))=u9 at *;(try simp only[gE,aP]);refine dW (by kernel_rfl) ?_ _;go_wp2;refine bB (eA.result rfl _ rfl) rfl ?_;exact⟨rfl,qb⟩
structure PE (V:List Vr) (L:List (List Int)) (R:List (List Fr)):Prop where
 len:L.length=V.length
 lenR:R.length=V.length
 n8:V.length<=8
 fine:eH (iL (ah V))
 up:∀v (h:v<L.length),Up L[v] V.length
 rows:∀v (h:v<L.length) (h':v<R.length),R[v].length=cnt (ah V) (ag L[v])*sz (ah V) v
theorem K7 {f:Nat ->Int}:∀ {n:Nat},iO f n=0 ->∀j,j< n ->f j=0
 |0,_,j,hj=>by omega
 |n+1,hz,j,hj=>by
  rw[iO] at hz;by_cases e:iO f n=0
  ·rw[ay e] at hz;rcases cD j n with h2 |h2
   ·exact K7 e j h2
   ·obtain rfl:j=n:=by omega
    exact hz
  ·rw[az e] at hz;exact absurd hz e
theorem gD (h:aW V L R=0):PE V L R:=by
 rw[aW] at h;by_cases h1:L.length=V.length/\R.length=V.length
 ·rw[ay h1] at h;by_cases h2:bE L=0
  ·rw[ay h2] at h;by_cases h3:jy V=0
   ·rw[ay h3] at h;obtain⟨hf,h8,hu⟩:=UU h1.1 h2 h3;refine⟨h1.1,h1.2,by omega,hf,fun v hv=>by rw[<- h1.1];exact hu v hv,fun v hv hr=>?_⟩;have h4:=K7 h v (by omega);rw[iI,List.getD_eq_getElem?_getD,List.getElem?_eq_getElem hr,List.getD_eq_getElem?_getD,List.getElem?_eq_getElem hv] at h4;by_cases h5:R[v].length=cnt (ah V) (ag L[v])*sz (ah V) v
    ·exact h5
    ·simp only[zV] at h4;rw[az h5] at h4;exact absurd h4 (by decide)
   ·rw[az h3] at h;exact absurd h h3
  ·rw[az h2] at h;exact absurd h h2
 ·rw[az h1] at h;exact absurd h (by decide)
def dF (V:List Vr) (L:List (List Int)) (R:List (List Fr)) (f:Nat ->Nat) (v:Nat):Fr:=bA (R.getD v []) (p6 (ah V) (ag (L.getD v [])) f v)
def ji (V:List Vr) (L:List (List Int)) (R:List (List Fr)) (f:Nat ->Nat):Nat ->Rat
 |0=>1
 |k+1=>ji V L R f k*aT (dF V L R f k)
theorem JZ (hL:v<L.length) (hR:v<R.length):dF V L R f v=bA R[v] (p6 (ah V) (ag L[v]) f v):=by
 rw[dF,List.getD_eq_getElem?_getD,List.getElem?_eq_getElem hR,List.getD_eq_getElem?_getD,List.getElem?_eq_getElem hL];rfl
theorem Zj (h:aT (dF V L R f v)=0):∀n,v< n ->ji V L R f n=0
 |0,hn=>by omega
 |n+1,hn=>by
  rw[ji];rcases cD v n with h1 |h1
  ·rw[Zj h n h1,Gm]
  ·obtain rfl:v=n:=by omega
   rw[h,Rat.mul_zero]
theorem SS (aM:PE V L R) (hf:∀u,f u<sz (ah V) u) (hw:∀l∈R,fw l<=4200) (hv:v<V.length):(dF V L R f v).2.1.size+(dF V L R f v).2.2.size<=4200:=by
 have hL:v<L.length:=by rw[aM.len];exact hv
 have hR:v<R.length:=by rw[aM.lenR];exact hv
 rw[JZ hL hR];have h1:=SR (S:=ah V) (P:=ag L[v]) hf v;rw[<- aM.rows v hL hR] at h1;have h2:=amh h1;have h3:=hw R[v] (bH hR);omega
theorem Zk (aM:PE V L R) (hf:∀u,f u<sz (ah V) u) (hw:∀l∈R,fw l<=4200):∀k,k<=V.length ->qw (ji V L R f k)<=2+k*4201
 |0,_=>Zf
 |k+1,hk=>by
  have h1:=Zk aM hf hw k (by omega);have h2:=SS aM hf hw (v:=k) (by omega);have h3:=Cq (dF V L R f k).1 (dF V L R f k).2.1 (dF V L R f k).2.2;have h4:=agj (ji V L R f k) (aT (dF V L R f k));rw[ji,fW,kB]
  have h5:qw (aT (dF V L R f k))<=4201:=by
   show qw (val _ _ _)<=4201;omega
  omega
theorem anR (q:Rat):C q=.agg #[.bool (aH q),.string (nu q),.string (de q)]:=rfl
theorem LK.step {V:World} (h:LK w V x y z) (hb:Below V.heap.size V V'):LK w V' x y z:=⟨h.1.step hb,h.2.aa hb h.2.lt⟩
theorem LK.put {V:World} (h:LK w V x y z) {B:Nat} (hB:w.heap.size+1<B) (n:Bool) (p q:ByteArray):LK w (((V.setCell ⟨B,0,none⟩ (.bool n)).setCell ⟨B,1,none⟩ (.string p)).setCell ⟨B,2,none⟩ (.string q)) x y z:=by
 have hblk:∀k,k≠B ->(((V.setCell ⟨B,0,none⟩ (.bool n)).setCell ⟨B,1,none⟩ (.string p)).setCell ⟨B,2,none⟩ (.string q)).heap[k]? =V.heap[k]?:=fun k hk=>
  (je _ ⟨B,2,none⟩ _ k hk).trans ((je _ ⟨B,1,none⟩ _ k hk).trans (je _ ⟨B,0,none⟩ _ k hk))
 exact⟨⟨(hblk _ (by omega)).trans h.1.1,bF h.1.2 (by omega) _ _ _⟩,(hblk _ (by omega)).trans h.2⟩
theorem af3 (a b c d:Option Addr) (ca cb cc cd:Nat) (V:List Vr) (L:List (List Int)) (R:List (List Fr)) (A:List Nat) (w:World) (h:gP w a b c V L R) (aM:PE V L R) (hw:∀l∈R,fw l<=4200) (hA:ax w d (iL A)) (y7:A.length=V.length) (f:Nat ->Nat) (hf:∀u,f u<sz (ah V) u) (yY:∀u,u<V.length ->A[u]? =some (f u)):
  Calls Tryz.prog 59 #[.agg #[.slice a V.length ca,.slice b L.length cb,.slice c R.length cc],.slice d A.length cd] w fun e w'=>e=.returned (dP (qF (ji V L R f V.length)))/\Below w.heap.size w w':=by
 rw[y7];have E6:=aM.n8
 have ky:Hid (∀(v:Nat) (U:World),v<V.length ->gP U a b c V L R ->ax U d (iL A) ->Calls Tryz.prog 114 #[.agg #[.slice a V.length ca,.slice b L.length cb,.slice c R.length cc],.int .i64 (v:Nat),.slice d V.length cd] U fun e w'=>e=.returned (dP (dF V L R f v))/\Below U.heap.size U w'):=fun v U hv h1 h2=>by
  have hL:v<L.length:=by rw[aM.len];exact hv
  have hR:v<R.length:=by rw[aM.lenR];exact hv
  rw[JZ hL hR];have:=afR a b c d ca cb cc cd v V L R A U h1 h2 y7 E6 hv hL hR aM.fine (aM.up v hL) (aM.rows v hL hR) f hf yY;rwa [y7] at this
 have vT:Hid (∀v,v<V.length ->(dF V L R f v).2.1.size+(dF V L R f v).2.2.size<=4200):=fun v hv=>SS aM hf hw hv
 have qx:Hid (∀k,k<=V.length ->(nu (ji V L R f k)).size+(de (ji V L R f k)).size<=50000):=fun k hk=>by
  have:=Zk aM hf hw k hk;have h2:k*4201<=8*4201:=jK _ (by omega);rw[ng];omega
 have HPZ:Hid (∀v,v<V.length ->aT (dF V L R f v)=0 ->ji V L R f V.length=0):=fun v hv h=>Zj h _ hv;have zC:Hid (∀k,ji V L R f (k+1)=ji V L R f k*aT (dF V L R f k)):=fun k=>rfl;have zD:Hid (ji V L R f 0=1):=rfl;have HI:=hid h;have HA:=hid hA;generalize hPV:ji V L R f=PV at *;generalize xm:dF V L R f=LF at *;clear hPV xm h hA yY hf hw aM y7;have bY:=hid (LK.new w (.slice a V.length ca) (.slice b L.length cb) (.slice c R.length cc));go_enter Tryz.func59,Tryz.ntmps59;go_wp2_with fail
 generalize ((w.alloc (NC (.slice a V.length ca) (.slice b L.length cb) (.slice c R.length cc))).alloc (FC false ⟨#[]⟩ ⟨#[]⟩))=w1 at *;refine(Y8 _).af ?_;rintro e w2 ⟨rfl,hb2⟩;have hB2:w.heap.size+1<w2.heap.size:=(bY.o.step hb2).2.lt;have oY:=hid ((bY.o.step hb2).step ((au _ w2).alloc (ar _) (FC (aH 1) (nu 1) (de 1))));have uE:=hid (aC.new w2 (aH 1) (nu 1) (de 1));clear hb2 bY;go_wp2_with fail
 generalize (w2.alloc (FC (aH 1) (nu 1) (de 1)))=w3 at *;generalize w2.heap.size=Bp at *;go_loopw [6] (fun iv wr=>∃v:Nat,v<=V.length/\iv=.int .i64 v/\Hid (LK w wr (.slice a V.length ca) (.slice b L.length cb) (.slice c R.length cc))/\Hid (aC wr Bp (aH (PV v)) (nu (PV v)) (de (PV v)))) (fun iv _=>V.length - (intOf iv).toNat)
 case atStart=>exact⟨0,aU _,rfl,oY,by rw[zD.o];exact uE⟩
 case round=>
  obtain⟨v,hv,rfl,HK,HP⟩:=hrel;clear oY uE;obtain⟨c0,c1,c2⟩:=HK.o.1.1.cells;by_cases hlt:v<V.length
  ·go_wp2_with fail
   refine(ky.o v _ hlt (HI.o.aa HK.o.1.2) (HA.o.aa HK.o.1.2)).af ?_;rintro e w4 ⟨rfl,hb4⟩;have tS:=vT.o v hlt;have HPv:=hid (zC.o v);have Om:=HPZ.o v hlt;have df:=qx.o v hv;generalize LF v=lf at *;obtain⟨fn,fx,fy⟩:=lf;simp only at tS;have LU:=hid Om;have aN:=(au _ w4).alloc (ar _) (FC fn fx fy);have qy:=hid ((HK.o.step hb4).step aN);have q9:=hid ((HP.o.aa hb4 HP.o.lt).aa aN (HP.o.aa hb4 HP.o.lt).lt);have y5:=aC.new w4 fn fx fy;obtain⟨k0,k1,k2, -⟩:=y5.facts;clear hb4 aN HK HP c0 c1 c2 Om;go_wp2_with fail
   generalize (w4.alloc (FC fn fx fy))=w5 at *;generalize w4.heap.size=Bf at *;refine(RF fn fx fy w5 (by omega)).af ?_;rintro e w6 ⟨rfl,bD⟩;have xZ:=hid (qy.o.step bD);have Ug:=q9.o.aa bD q9.o.lt;have hF6:=y5.aa bD y5.lt;clear bD qy q9 k0 k1 k2 y5;by_cases hz:val fn fx fy=0
   ·rw[cJ hz];have HZ:=hid (LU.o hz);clear hz;go_wp2_with fail
    refine(JG _).af ?_;rintro e w7 ⟨rfl,bK⟩;have KS:=xZ.o.step bK;obtain⟨k0,k1,k2,f0,f1,f2⟩:=KS.2.facts;have eA:=KS.2.put (aH 0) (nu 0) (de 0);have qb:=bF KS.1.2 (show w.heap.size<=w.heap.size+1 by omega) (.bool (aH 0)) (.string (nu 0)) (.string (de 0));go_wp2;refine bB (eA.result rfl _ rfl) rfl ?_;exact⟨by rw[HZ.o];rfl,qb⟩
   ·rw[cz hz];clear hz;obtain⟨k0,k1,k2, -⟩:=hF6.facts;obtain⟨q0,q1,q2, -⟩:=Ug.facts;go_wp2_with fail
    refine(Za (aH (PV v)) fn (nu (PV v)) (de (PV v)) fx fy w6 df (by omega)).af ?_;rintro e w7 ⟨rfl,bK⟩;rw[gC,show val fn fx fy=aT (fn,fx,fy) from rfl, <- HPv.o];have KS:=xZ.o.step bK;have hP7:=Ug.aa bK Ug.lt;clear k0 k1 k2 q0 q1 q2 bK;obtain⟨k0,k1,k2,f0,f1,f2⟩:=hP7.facts;have HPU:=hid (hP7.put (aH (PV (v+1))) (nu (PV (v+1))) (de (PV (v+1))));have uD:=hid (KS.put hB2 (aH (PV (v+1))) (nu (PV (v+1))) (de (PV (v+1))));simp only[anR];go_wp2;go_roundw
    case rel=>exact⟨v+1,by omega,by go_num,uD,HPU⟩
    case measure=>simp[intOf];omega
  ·obtain rfl:v=V.length:=by omega
   obtain⟨k0,k1,k2,f0,f1,f2⟩:=HK.o.2.facts;obtain⟨q0,q1,q2, -⟩:=HP.o.facts;have eA:=HK.o.2.put (aH (PV V.length)) (nu (PV V.length)) (de (PV V.length));have qb:=bF HK.o.1.2 (show w.heap.size<=w.heap.size+1 by omega) (.bool (aH (PV V.length))) (.string (nu (PV V.length))) (.string (de (PV V.length)));go_wp2;refine bB (eA.result rfl _ rfl) rfl ?_;exact⟨rfl,qb⟩
variable {q:Rat}
theorem K6 (h:Fits m q) (hm:m<=n):Fits n q:=by
 obtain⟨A,D,h1,h2,h3,h4⟩:=h;exact⟨A,D,h1,h2,aR h3 (G6 hm),aR h4 (G6 hm)⟩
theorem abQ (f g:Fr):great f g=f∨great f g=g:=by
 rw[great];by_cases h:cQ (aT f) (aT g)<0
 ·rw[ay h];exact .inr rfl
 ·rw[az h];exact .inl rfl
theorem RU (q:Rat):(qF q).2.1.size+(qF q).2.2.size=qw q:=rfl
theorem ZO (most:Bool) (T:Nat ->Fr):∀k,(∀x,x<=k ->(T x).2.1.size+(T x).2.2.size+2<=8192) ->Fits ((k+1)*8192) (aT (lr most T k))
 |0,h=>K6 (UQ _ _ _) (by have:=h 0 (ar _);show (T 0).2.1.size+(T 0).2.2.size+1<=_;omega)
 |k+1,h=>by
  have h1:=ZO most T k fun x hx=>h x (by omega);have h2:Fits 8191 (aT (T (k+1))):=K6 (UQ _ _ _) (by have:=h (k+1) (ar _);omega);rw[lr];cases most with
  |true=>
   rw[ay rfl];rcases abQ (lr true T k) (T (k+1)) with e |e
   ·rw[e];exact K6 h1 (by omega)
   ·rw[e];exact K6 h2 (by omega)
  |false=>
   rw[az (by decide),qQ];exact K6 (ab8 h1 h2) (by omega)
theorem ag9 (k:Nat):2*((k+1)*8192)<=2*((k+1+1)*8192):=by omega
theorem ag8 (k:Nat):8192<=2*((k+1+1)*8192):=by omega
theorem akc {f g:Fr} {A:Nat} (h1:f.2.1.size+f.2.2.size<=A) (h2:g.2.1.size+g.2.2.size<=A):(great f g).2.1.size+(great f g).2.2.size<=A:=by
 rcases abQ f g with e |e
 ·rw[e];exact h1
 ·rw[e];exact h2
theorem Sg (most:Bool) (T:Nat ->Fr):∀k,(∀x,x<=k ->(T x).2.1.size+(T x).2.2.size+2<=8192) ->(lr most T k).2.1.size+(lr most T k).2.2.size<=2*((k+1)*8192)
 |0,h=>by have:=h 0 (ar _);rw[lr];omega
 |k+1,h=>by
  have h1:=Sg most T k fun x hx=>h x (by omega);have h2:=h (k+1) (ar _);have h3:=ZO most T (k+1) h;rw[lr] at h3⊢;cases most with
  |true=>
   rw[ay rfl];exact akc (aS h1 (ag9 k)) (aS (aS (MJ _ 2) h2) (ag8 k))
  |false=>
   rw[az (by decide)] at h3⊢;rw[qQ] at h3;have h4:=O7 h3;rw[RU];exact h4
def VA (most:Bool) (pf:Nat):Prop:=(∀args w,(callFunc pf args).run Tryz.prog w=.ok (.enter pf args) w)/\∀(f g:Fr) (V:World),f.2.1.size+f.2.2.size<=100000 ->g.2.1.size+g.2.2.size<=100000 ->Calls Tryz.prog pf #[dP f,dP g] V fun e w'=>e=.returned (dP (if most then great f g else qF (aT f+aT g)))/\Below V.heap.size V w'
theorem agU:VA false 141:=⟨enters_of Tryz.func141 (by kernel_rfl) rfl,fun f g V h1 h2=>ak7 (n:=f.1) (m:=g.1) (x:=f.2.1) (y:=f.2.2) (u:=g.2.1) (v:=g.2.2) (w:=V) (aT f+aT g) rfl rfl rfl h1 h2⟩
theorem agV:VA true 235:=⟨enters_of Tryz.func235 (by kernel_rfl) rfl,fun f g V h1 h2=>akb f g V h1 h2⟩
theorem ZQ (most:Bool) (pf:Nat) (Tq:VA most pf) (Bh Bs Bv Bt Bf:Nat) (a c:Option Addr) (ca cc:Nat) (sizes:List Int) (lb:Array Value) (l:List Fr) (k v n:Nat) (P:Nat ->Nat) (hP:∀x,x< n ->P x<l.length) (gh:1<=n) (CM:n<=4) (gg:v<sizes.length) (yR:sizes[v]=(n:Int)) (w:World)
  (hBh:Bh<w.heap.size) (xh:w.cell? ⟨Bh,0,none⟩=some (.func (.func pf) #[] #[])) (xq:Bs<w.heap.size) (xs:w.cell? ⟨Bs,0,none⟩=some (.slice a sizes.length ca)) (y6:Bv<w.heap.size) (xv:w.cell? ⟨Bv,0,none⟩=some (.int .i64 (v:Nat))) (ub:Bt<w.heap.size) (xc:w.cell? ⟨Bt,1,none⟩=some (.slice c l.length cc)) (A7:Bf<w.heap.size) (xf:w.cell? ⟨Bf,0,none⟩=some (.func (.func 200) #[] lb)) (hs:ax w a sizes) (hf:bZ w c l) (h1:Cw 8192 l)
  (hc:∀x,x< n ->∀V,Below w.heap.size w V ->Calls Tryz.prog 200 (#[.int .i64 (k:Nat),.int .i64 (x:Nat)]++lb) V fun e w'=>e=.returned (.int .i64 (P x:Nat))/\Below V.heap.size V w'):
  Calls Tryz.prog 204 #[.int .i64 (k:Nat),.pointer (some ⟨Bh,0,none⟩),.pointer (some ⟨Bs,0,none⟩),.pointer (some ⟨Bv,0,none⟩),.pointer (some ⟨Bt,0,none⟩),.pointer (some ⟨Bf,0,none⟩)] w fun e w'=>e=.returned (dP (qF (aT (lr most (fun x=>bA l (P x)) (n - 1)))))/\Below w.heap.size w w':=by
 obtain⟨g,o,rfl,hg,cs⟩:=hs v gg;rw[yR] at cs;have yO:∀x,x< n ->(bA l (P x)).2.1.size+(bA l (P x)).2.2.size+2<=8192:=fun x hx=>h1 _ (hP x hx);have Hk:=Sg most (fun x=>bA l (P x)) (n - 1) fun x hx=>yO x (by omega)
 have hJ:∀W,Below w.heap.size w W ->∀Bk,Bk<W.heap.size ->W.cell? ⟨Bk,0,none⟩=some (.int .i64 (k:Nat)) ->Calls Tryz.prog 205 #[.agg #[.func (.func pf) #[] #[]],.int .i64 (n:Nat),.func (.func 206) #[] #[.pointer (some ⟨Bt,0,none⟩),.pointer (some ⟨Bf,0,none⟩),.pointer (some ⟨Bk,0,none⟩)]] W fun e w'=>e=.returned (dP (lr most (fun x=>bA l (P x)) (n - 1)))/\Below W.heap.size W w':=by
  intro W hW Bk Hy xk;refine aiL pf 206 #[] _ Tq.1 (enters_of Tryz.func206 (by kernel_rfl) rfl) n (fun x=>bA l (P x)) (lr most (fun x=>bA l (P x))) W gh (by omega) ?_ ?_ rfl
  ·intro x hx V hb;have hB:=hW.trans (hb.af hW.size);exact ahg Bt Bf Bk c cc lb l k x (P x) (hP x hx) V (aR ub hB.size) ((hB.cell (p:=⟨Bt,1,none⟩) ub).trans xc) (aR A7 hB.size) ((hB.cell (p:=⟨Bf,0,none⟩) A7).trans xf) (aR Hy hb.size) ((hb.cell (p:=⟨Bk,0,none⟩) Hy).trans xk) (hf.aa hB) fun V' hb'=>hc x hx V' (hB.trans (hb'.af hB.size))
  ·intro x hx V hb;have e1:=Sg most (fun x=>bA l (P x)) x fun y hy=>yO y (by omega);have e2:=yO (x+1) hx;exact Tq.2 _ _ V (by omega) (by show (bA l (P (x+1))).2.1.size+(bA l (P (x+1))).2.2.size<=_;omega)
 have HJ:=hid hJ;have HC:=hid (fun V:World=>Qw (w:=V) (aT (lr most (fun x=>bA l (P x)) (n - 1))) rfl (show (lr most (fun x=>bA l (P x)) (n - 1)).2.1.size+(lr most (fun x=>bA l (P x)) (n - 1)).2.2.size<=100000 by omega));rw[K4];generalize aT (lr most (fun x=>bA l (P x)) (n - 1))=r at *;generalize lr most (fun x=>bA l (P x)) (n - 1)=f at *;clear hJ Hk yO hc hf hs hP Tq xc xf;obtain⟨fn,fx,fy⟩:=f;simp only at HC HJ;have hv0:(0:Int)<=(v:Int):=by omega
 have ny:(v:Int)<(sizes.length:Int):=by omega
 have hb0:aC ((w.alloc (.cells #[.int .i64 (k:Nat)] 3)).alloc (FC false ⟨#[]⟩ ⟨#[]⟩)) (w.heap.size+1) false ⟨#[]⟩ ⟨#[]⟩:=aC.at (by simp) _ _ _;have hk0:Boxed ((w.alloc (.cells #[.int .i64 (k:Nat)] 3)).alloc (FC false ⟨#[]⟩ ⟨#[]⟩)) w.heap.size 3 (.int .i64 (k:Nat)):=(a7 w _ _).alloc _;have hB:Below w.heap.size w ((w.alloc (.cells #[.int .i64 (k:Nat)] 3)).alloc (FC false ⟨#[]⟩ ⟨#[]⟩)):=((au _ w).alloc (ar _) _).alloc (by simp) _;go_enter Tryz.func204,Tryz.ntmps204;go_upto_region 1 with fail
 generalize ((w.alloc (.cells #[.int .i64 (k:Nat)] 3)).alloc (FC false ⟨#[]⟩ ⟨#[]⟩))=W at *;replace hb0:=hb0.drew;replace hB:=hB.drew;replace hk0:Boxed W.drew w.heap.size 3 (.int .i64 (k:Nat)):=hk0;have held:∀u,Below w.heap.size w u ->u.cell? ⟨Bh,0,none⟩=some (.func (.func pf) #[] #[])/\u.cell? ⟨Bs,0,none⟩=some (.slice (some ⟨g,o,none⟩) sizes.length ca)/\u.cell? ⟨Bv,0,none⟩=some (.int .i64 (v:Nat))/\u.cell? ⟨g,o+v,none⟩=some (.int .i64 (n:Nat)):=fun u h=>⟨(h.cell (p:=⟨Bh,0,none⟩) hBh).trans xh,(h.cell (p:=⟨Bs,0,none⟩) xq).trans xs,(h.cell (p:=⟨Bv,0,none⟩) y6).trans xv,(h.cell (p:=⟨g,_,none⟩) hg).trans cs⟩;have HELD:=hid held;clear held xh xs xv cs;refine jJ (S:=fun u=>u.cell? ⟨Bh,0,none⟩=some (.func (.func pf) #[] #[])/\u.cell? ⟨Bs,0,none⟩=some (.slice (some ⟨g,o,none⟩) sizes.length ca)/\u.cell? ⟨Bv,0,none⟩=some (.int .i64 (v:Nat))/\u.cell? ⟨g,o+v,none⟩=some (.int .i64 (n:Nat))) (by kernel_rfl) (HELD.o _ hB) (fun aq=>?_);generalize W.drew=u0 at *;refine aw 0 (.agg #[.func (.func pf) #[] #[]]) ?_;refine aw 1 (.slice (some ⟨g,o,none⟩) sizes.length ca) ?_;refine aw 2 (.int .i64 (v:Nat)) ?_;refine aw 3 (.pointer (some ⟨g,o+v,none⟩)) ?_;refine aw 4 (.int .i64 (n:Nat)) ?_;refine aw 5 (.func (.func 206) #[] #[.pointer (some ⟨Bt,0,none⟩),.pointer (some ⟨Bf,0,none⟩),.pointer (some ⟨w.heap.size,0,none⟩)]) ?_;refine aF [6] (cA ?_ aD);intro K' hK';go_simp;refine(HJ.o _ hB _ hk0.lt hk0.cell).af ?_;rintro e u1 ⟨rfl,hb⟩;replace hb0:=hb0.aa hb hb0.lt;clear hk0
 replace hB:=hB.trans (hb.af hB.size);refine hK'.o _ _ (HELD.o _ hB) (fun ak=>?_);clear hK' K' aq;have aq:=ak;clear ak hb;refine aF [7] (cA ?_ aD);intro K' hK';go_simp;refine(HC.o _).af ?_;rintro e u2 ⟨rfl,hb⟩;replace hb0:=hb0.aa hb hb0.lt;replace hB:=hB.trans (hb.af hB.size);refine hK'.o _ _ (HELD.o _ hB) (fun ak=>?_);clear hK' K' aq;have aq:=ak;clear ak hb;try simp only[gE,aP]
 obtain⟨k0,k1,k2,f0,f1,f2⟩:=hb0.facts;refine aF [8] (cA ?_ aD);intro K' hK';go_simp;have hput:=hb0.put (aH r) (nu r) (de r);have oL:=bF hB (g:=w.heap.size+1) (by omega) (.bool (aH r)) (.string (nu r)) (.string (de r));generalize (((u2.setCell ⟨w.heap.size+1,0,none⟩ (.bool (aH r))).setCell ⟨w.heap.size+1,1,none⟩ (.string (nu r))).setCell ⟨w.heap.size+1,2,none⟩ (.string (de r)))=v9 at *;refine hK'.o _ _ (HELD.o _ oL) (fun _=>dW (by kernel_rfl) ?_ _);clear hK' K' aq;go_wp2;refine bB (hput.result rfl _ rfl) rfl ?_;exact⟨rfl,oL⟩
def OH (w V:World) (s u v x:Value):Prop:=Boxed V w.heap.size 27 s/\NR w V (w.heap.size+1) (w.heap.size+1+1+1) u v/\Boxed V (w.heap.size+1+1) 3 x
theorem OH.step {V:World} {s v:Value} (h:OH w V s u v x) (hb:Below V.heap.size V V'):OH w V' s u v x:=⟨aZ h.1 hb,h.2.1.step hb,aZ h.2.2 hb⟩
theorem OH.new (w:World) (s u v x:Value):OH w ((((w.alloc (.cells #[s] 27)).alloc (TC u v)).alloc (.cells #[x] 3)).alloc (TC (.slice none 0 0) (.slice none 0 0))) s u v x:=by
 have h2:Boxed (((w.alloc (.cells #[s] 27)).alloc (TC u v)).alloc (.cells #[x] 3)) (w.heap.size+1+1) 3 x:=by
  have h:=a7 ((w.alloc (.cells #[s] 27)).alloc (TC u v)) 3 x;rwa [cN,cN] at h
 exact⟨(((a7 w _ _).alloc _).alloc _).alloc _,⟨((bh.at (by simp) _ _).alloc _).alloc _,bh.at (by simp) _ _,((((au _ w).alloc (ar _) _).alloc (by simp) _).alloc (by simp;omega) _).alloc (by simp;omega) _⟩,h2.alloc _⟩
theorem OH.off {V:World} {s v:Value} (h:OH w V s u v x) (B j:Nat) (y:Value) (hB:w.heap.size+1+1+1<B):OH w (V.setCell ⟨B,j,none⟩ y) s u v x:=⟨eO h.1 B j y (by omega),h.2.1.off B j y (by omega) (by omega) (by omega),eO h.2.2 B j y (by omega)⟩
theorem OH.top {V:World} {s v:Value} (h:OH w V s u v x):w.heap.size+1+1+1<V.heap.size:=h.2.1.2.1.lt
theorem Sh (S vars rest:List Nat) (v:Nat) (most:Bool) (l:List Fr):(qL S vars rest v most l).length=cnt S rest:=by simp[qL]
theorem ZP (S vars rest:List Nat) (v:Nat) (most:Bool) (l:List Fr) (h:k<(qL S vars rest v most l).length):(qL S vars rest v most l)[k]=qF (aT (lr most (fun x=>bA l (pos S (aQ (aO S rest k) v x) vars)) (sz S v - 1))):=by simp[qL]
theorem aew (a b c:Option Addr) (ca cb cc:Nat) (sizes vars:List Int) (l:List Fr) (v:Nat) (w:World) (hs:ax w a sizes) (hv:ax w b vars) (hf:bZ w c l) (hn:sizes.length<=140737488355328) (hm:vars.length<=140737488355328) (hk:jr sizes vars l.length=0) (hw:Cw 8192 l) (hv':vars.contains (v:Int)=true) (gg:v<sizes.length):
  Calls Tryz.prog 160 #[.slice a sizes.length ca,.agg #[.slice b vars.length cb,.slice c l.length cc],.int .i64 (v:Nat),.bool false] w fun e w'=>uh w.heap.size (bw vars (v:Int)) (qL (ag sizes) (ag vars) (ag (bw vars (v:Int))) v false l) 0 e w'/\Below w.heap.size w w':=by
 obtain⟨aJ,aX,hlc⟩:=xC hk;have ye:=hid (fun V h=>GS b cb vars (v:Int) V h hm);rw[hv'] at ye;have ee:=fun V h1 h2=>Cm a b c ca cb cc l.length sizes vars V h1 h2 hn hm;rw[hk] at ee;have HC:=hid ee;clear ee;have hrl:(bw vars (v:Int)).length<=vars.length:=pR _ _;have S9:=aX.length;have nD:=aJ.eight;have bC:=hid aJ;have gz:=hid aX;have Dt:=hid (tI aX (v:Int));have FQ:=hid (N7 (v:=v) aX);have mC:=hid (fun K (hK:K<cnt (ag sizes) (ag (bw vars (v:Int)))) x (hx:x<sz (ag sizes) v)=>Q3 hk hK hx);have jR:=Sh (ag sizes) (ag vars) (ag (bw vars (v:Int))) v false l;have BQ:=hid (fun (k:Nat) (h:k<(qL (ag sizes) (ag vars) (ag (bw vars (v:Int))) v false l).length)=>ZP (ag sizes) (ag vars) (ag (bw vars (v:Int))) v false l h);have ku:=hid (fun V h=>Q1 b cb vars (v:Int) V h (by omega));generalize qL (ag sizes) (ag vars) (ag (bw vars (v:Int))) v false l=FL at *;generalize bw vars (v:Int)=rest at *;have HST:=hid (fun V d cd h1 h2=>Rt a d b ca cd cb sizes rest vars v V h1 h2 aJ aX gg);have HF:=hid hf;have HW:=hid hw;have kz:=hid jR;have HN:=hid (aJ.sz_eq gg);have uA:=hid (aJ.sz_le v);have sZ:=hid (im aJ.pos v);have uq:=hid gg;clear hv' hk aJ aX hlc hf hw jR;have HS:=hid hs;have HV:=hid hv;have hH:=OH.new w (.slice a sizes.length ca) (.slice b vars.length cb) (.slice c l.length cc) (.int .i64 (v:Nat));have c0:=hH.2.1.1.c0;have c1:=hH.2.1.1.c1;have cs:=hH.1.cell;go_enter Tryz.func160,Tryz.ntmps160;go_wp2_with fail
 generalize ((((w.alloc (.cells #[.slice a sizes.length ca] 27)).alloc (TC (.slice b vars.length cb) (.slice c l.length cc))).alloc (.cells #[.int .i64 (v:Nat)] 3)).alloc (TC (.slice none 0 0) (.slice none 0 0)))=W at *;refine(HC.o _ (HS.o.aa hH.2.1.2.2) (HV.o.aa hH.2.1.2.2)).af ?_;rintro e w1 ⟨rfl,hb1⟩;replace hH:=hH.step hb1;clear c0 c1 cs hb1;have c0:=hH.2.1.1.c0;have cx:=hH.2.2.cell;go_wp2_with fail
 refine(ye.o _ (HV.o.aa hH.2.1.2.2)).af ?_;rintro e w2 ⟨rfl,hb2⟩;replace hH:=hH.step hb2;clear c0 cx hb2 ye;go_wp2_with fail
 refine(X9 _).af ?_;rintro e w3 ⟨rfl,hb3⟩;replace hH:=hH.step hb3;clear hb3;have hb4:Below w3.heap.size w3 (w3.alloc (.cells #[.func (.func 141) #[] #[]] 224)):=(au _ w3).alloc (ar _) _;have hJ:Boxed (w3.alloc (.cells #[.func (.func 141) #[] #[]] 224)) w3.heap.size 224 (.func (.func 141) #[] #[]):=a7 w3 _ _;have bU:=hH.top;replace hH:=hH.step hb4;clear hb4;have c0:=hH.2.1.1.c0;have cx:=hH.2.2.cell;go_wp2_with fail
 clear c0 cx;generalize (w3.alloc (.cells #[.func (.func 141) #[] #[]] 224))=w5 at *;generalize w3.heap.size=BJ at *;refine(ku.o _ (HV.o.aa hH.2.1.2.2)).af ?_;rintro e w6 ⟨d,cd,rfl,hi,kK,bD⟩;have BR:=hid (kK.up hH.2.1.2.2.size);clear kK;replace hH:=hH.step bD;replace hJ:=aZ hJ bD;clear bD ku;have c0:=hH.2.1.1.c0;have cx:=hH.2.2.cell;have cs:=hH.1.cell;go_wp2_with fail
 refine(HST.o _ d cd (HS.o.aa hH.2.1.2.2) (HV.o.aa hH.2.1.2.2)).af ?_;rintro e w7 ⟨f,rfl,sH,bK⟩;replace hH:=hH.step bK;replace hJ:=aZ hJ bK;replace hi:=hi.aa bK;obtain⟨lb,rfl⟩:=sH.shape;clear c0 cx cs bK HST;generalize w6.heap.size=n3 at *;have jS:Below w7.heap.size w7 (w7.alloc (.cells #[.func (.func 200) #[] lb] 100)):=(au _ w7).alloc (ar _) _;have hY:Boxed (w7.alloc (.cells #[.func (.func 200) #[] lb] 100)) w7.heap.size 100 (.func (.func 200) #[] lb):=a7 w7 _ _;replace hH:=hH.step jS;replace hJ:=aZ hJ jS;replace sH:=sH.aa jS;replace hi:=hi.aa jS;have cs:=hH.1.cell;go_wp2_with fail
 clear jS cs;generalize (w7.alloc (.cells #[.func (.func 200) #[] lb] 100))=w8 at *;generalize w7.heap.size=Gh at *
 have sq:=K8 a d ca cd sizes rest 204 #[.pointer (some ⟨BJ,0,none⟩),.pointer (some ⟨w.heap.size,0,none⟩),.pointer (some ⟨w.heap.size+1+1,0,none⟩),.pointer (some ⟨w.heap.size+1,0,none⟩),.pointer (some ⟨Gh,0,none⟩)] (enters_of Tryz.func204 (by kernel_rfl) rfl) FL w8 (HS.o.aa hH.2.1.2.2) hi bC.o Dt.o kz.o (fun k hk V hb=>by
  rw[BQ.o k hk];have dH:k<cnt (ag sizes) (ag rest):=by rw[<- kz.o];exact hk
  have hB:=hH.2.1.2.2.trans (hb.af hH.2.1.2.2.size);refine ZQ false 141 agU BJ w.heap.size (w.heap.size+1+1) (w.heap.size+1) Gh a c ca cc sizes lb l k v (sz (ag sizes) v) (fun x=>pos (ag sizes) (aQ (aO (ag sizes) (ag rest) k) v x) (ag vars)) (fun x hx=>mC.o k dH x hx) sZ.o uA.o uq.o HN.o.symm V (aR hJ.lt hb.size) (aZ hJ hb).cell (aR hH.1.lt hb.size) (aZ hH.1 hb).cell (aR hH.2.2.lt hb.size) (aZ hH.2.2 hb).cell (aR hH.2.1.1.lt hb.size) ((hb.cell (p:=⟨w.heap.size+1,1,none⟩) hH.2.1.1.lt).trans hH.2.1.1.c1) (aR hY.lt hb.size) (aZ hY hb).cell (HS.o.aa hB) (HF.o.aa hB) HW.o ?_;intro x hx V' hb';have hb2:=hb.trans (hb'.af hb.size);have h4:=uA.o;exact((sH.aa hb2).calls (HS.o.aa (hB.trans (hb'.af hB.size))) (hi.aa hb2) bC.o Dt.o gz.o FQ.o dH (by omega)))
 have BP:=hid sq;clear sq;refine BP.o.af ?_;rintro e w9 ⟨G,rfl,hG,hrow,vu⟩;have Ho:=hH.top;replace hH:=hH.step vu;replace hi:=hi.aa vu;obtain⟨k0,k1,f0,f1⟩:=hH.2.1.2.1.facts;obtain⟨e1,e2,e3⟩:=hH.2.1.fin (by omega) (cb:=cd) (cc:=FL.length) BR.o (by omega) hi hrow (by omega) (.slice d rest.length cd) (.slice (some ⟨G,0,none⟩) FL.length FL.length) rfl rfl;go_wp2;refine bB (e1.result2 rfl _ rfl) rfl ?_;exact⟨e2,e3⟩
theorem aex (a b c:Option Addr) (ca cb cc:Nat) (sizes vars:List Int) (l:List Fr) (v:Nat) (w:World) (hs:ax w a sizes) (hv:ax w b vars) (hf:bZ w c l) (hn:sizes.length<=140737488355328) (hm:vars.length<=140737488355328) (hk:jr sizes vars l.length=0) (hw:Cw 8192 l) (hv':vars.contains (v:Int)=true) (gg:v<sizes.length):
  Calls Tryz.prog 160 #[.slice a sizes.length ca,.agg #[.slice b vars.length cb,.slice c l.length cc],.int .i64 (v:Nat),.bool true] w fun e w'=>uh w.heap.size (bw vars (v:Int)) (qL (ag sizes) (ag vars) (ag (bw vars (v:Int))) v true l) 0 e w'/\Below w.heap.size w w':=by
 obtain⟨aJ,aX,hlc⟩:=xC hk;have ye:=hid (fun V h=>GS b cb vars (v:Int) V h hm);rw[hv'] at ye;have ee:=fun V h1 h2=>Cm a b c ca cb cc l.length sizes vars V h1 h2 hn hm;rw[hk] at ee;have HC:=hid ee;clear ee;have hrl:(bw vars (v:Int)).length<=vars.length:=pR _ _;have S9:=aX.length;have nD:=aJ.eight;have bC:=hid aJ;have gz:=hid aX;have Dt:=hid (tI aX (v:Int));have FQ:=hid (N7 (v:=v) aX);have mC:=hid (fun K (hK:K<cnt (ag sizes) (ag (bw vars (v:Int)))) x (hx:x<sz (ag sizes) v)=>Q3 hk hK hx);have jR:=Sh (ag sizes) (ag vars) (ag (bw vars (v:Int))) v true l;have BQ:=hid (fun (k:Nat) (h:k<(qL (ag sizes) (ag vars) (ag (bw vars (v:Int))) v true l).length)=>ZP (ag sizes) (ag vars) (ag (bw vars (v:Int))) v true l h);have ku:=hid (fun V h=>Q1 b cb vars (v:Int) V h (by omega));generalize qL (ag sizes) (ag vars) (ag (bw vars (v:Int))) v true l=FL at *;generalize bw vars (v:Int)=rest at *;have HST:=hid (fun V d cd h1 h2=>Rt a d b ca cd cb sizes rest vars v V h1 h2 aJ aX gg);have HF:=hid hf;have HW:=hid hw;have kz:=hid jR;have HN:=hid (aJ.sz_eq gg);have uA:=hid (aJ.sz_le v);have sZ:=hid (im aJ.pos v);have uq:=hid gg;clear hv' hk aJ aX hlc hf hw jR;have HS:=hid hs;have HV:=hid hv;have hH:=OH.new w (.slice a sizes.length ca) (.slice b vars.length cb) (.slice c l.length cc) (.int .i64 (v:Nat));have c0:=hH.2.1.1.c0;have c1:=hH.2.1.1.c1;have cs:=hH.1.cell;go_enter Tryz.func160,Tryz.ntmps160;go_wp2_with fail
 generalize ((((w.alloc (.cells #[.slice a sizes.length ca] 27)).alloc (TC (.slice b vars.length cb) (.slice c l.length cc))).alloc (.cells #[.int .i64 (v:Nat)] 3)).alloc (TC (.slice none 0 0) (.slice none 0 0)))=W at *;refine(HC.o _ (HS.o.aa hH.2.1.2.2) (HV.o.aa hH.2.1.2.2)).af ?_;rintro e w1 ⟨rfl,hb1⟩;replace hH:=hH.step hb1;clear c0 c1 cs hb1;have c0:=hH.2.1.1.c0;have cx:=hH.2.2.cell;go_wp2_with fail
 refine(ye.o _ (HV.o.aa hH.2.1.2.2)).af ?_;rintro e w2 ⟨rfl,hb2⟩;replace hH:=hH.step hb2;clear c0 cx hb2 ye;go_wp2_with fail
 refine(X9 _).af ?_;rintro e w3 ⟨rfl,hb3⟩;replace hH:=hH.step hb3;clear hb3;have hb4:Below w3.heap.size w3 (w3.alloc (.cells #[.func (.func 141) #[] #[]] 224)):=(au _ w3).alloc (ar _) _;have hJ:Boxed (w3.alloc (.cells #[.func (.func 141) #[] #[]] 224)) w3.heap.size 224 (.func (.func 141) #[] #[]):=a7 w3 _ _;have bU:=hH.top;replace hH:=hH.step hb4;clear hb4;go_wp2_with fail
 generalize (w3.alloc (.cells #[.func (.func 141) #[] #[]] 224))=w3' at *;generalize w3.heap.size=BJ at *;refine(aka _).af ?_;rintro e w4 ⟨rfl,hb4⟩;replace hH:=hH.step hb4;replace hJ:=aZ hJ hb4;clear hb4;have j0:=hJ.cell;have j1:=hJ.frozen;replace hH:=hH.off BJ 0 (.func (.func 235) #[] #[]) bU;have c0:=hH.2.1.1.c0;have cx:=hH.2.2.cell;replace hJ:=hJ.set (.func (.func 235) #[] #[]);go_wp2_with fail
 clear j0 j1 c0 cx;generalize (w4.setCell ⟨BJ,0,none⟩ (.func (.func 235) #[] #[]))=w5 at *;refine(ku.o _ (HV.o.aa hH.2.1.2.2)).af ?_;rintro e w6 ⟨d,cd,rfl,hi,kK,bD⟩;have BR:=hid (kK.up hH.2.1.2.2.size);clear kK;replace hH:=hH.step bD;replace hJ:=aZ hJ bD;clear bD ku;have c0:=hH.2.1.1.c0;have cx:=hH.2.2.cell;have cs:=hH.1.cell;go_wp2_with fail
 refine(HST.o _ d cd (HS.o.aa hH.2.1.2.2) (HV.o.aa hH.2.1.2.2)).af ?_;rintro e w7 ⟨f,rfl,sH,bK⟩;replace hH:=hH.step bK;replace hJ:=aZ hJ bK;replace hi:=hi.aa bK;obtain⟨lb,rfl⟩:=sH.shape;clear c0 cx cs bK HST;generalize w6.heap.size=n3 at *;have jS:Below w7.heap.size w7 (w7.alloc (.cells #[.func (.func 200) #[] lb] 100)):=(au _ w7).alloc (ar _) _;have hY:Boxed (w7.alloc (.cells #[.func (.func 200) #[] lb] 100)) w7.heap.size 100 (.func (.func 200) #[] lb):=a7 w7 _ _;replace hH:=hH.step jS;replace hJ:=aZ hJ jS;replace sH:=sH.aa jS;replace hi:=hi.aa jS;have cs:=hH.1.cell;go_wp2_with fail
 clear jS cs;generalize (w7.alloc (.cells #[.func (.func 200) #[] lb] 100))=w8 at *;generalize w7.heap.size=Gh at *
 have sq:=K8 a d ca cd sizes rest 204 #[.pointer (some ⟨BJ,0,none⟩),.pointer (some ⟨w.heap.size,0,none⟩),.pointer (some ⟨w.heap.size+1+1,0,none⟩),.pointer (some ⟨w.heap.size+1,0,none⟩),.pointer (some ⟨Gh,0,none⟩)] (enters_of Tryz.func204 (by kernel_rfl) rfl) FL w8 (HS.o.aa hH.2.1.2.2) hi bC.o Dt.o kz.o (fun k hk V hb=>by
  rw[BQ.o k hk];have dH:k<cnt (ag sizes) (ag rest):=by rw[<- kz.o];exact hk
  have hB:=hH.2.1.2.2.trans (hb.af hH.2.1.2.2.size);refine ZQ true 235 agV BJ w.heap.size (w.heap.size+1+1) (w.heap.size+1) Gh a c ca cc sizes lb l k v (sz (ag sizes) v) (fun x=>pos (ag sizes) (aQ (aO (ag sizes) (ag rest) k) v x) (ag vars)) (fun x hx=>mC.o k dH x hx) sZ.o uA.o uq.o HN.o.symm V (aR hJ.lt hb.size) (aZ hJ hb).cell (aR hH.1.lt hb.size) (aZ hH.1 hb).cell (aR hH.2.2.lt hb.size) (aZ hH.2.2 hb).cell (aR hH.2.1.1.lt hb.size) ((hb.cell (p:=⟨w.heap.size+1,1,none⟩) hH.2.1.1.lt).trans hH.2.1.1.c1) (aR hY.lt hb.size) (aZ hY hb).cell (HS.o.aa hB) (HF.o.aa hB) HW.o ?_;intro x hx V' hb';have hb2:=hb.trans (hb'.af hb.size);have h4:=uA.o;exact((sH.aa hb2).calls (HS.o.aa (hB.trans (hb'.af hB.size))) (hi.aa hb2) bC.o Dt.o gz.o FQ.o dH (by omega)))
 have BP:=hid sq;clear sq;refine BP.o.af ?_;rintro e w9 ⟨G,rfl,hG,hrow,vu⟩;have Ho:=hH.top;replace hH:=hH.step vu;replace hi:=hi.aa vu;obtain⟨k0,k1,f0,f1⟩:=hH.2.1.2.1.facts;obtain⟨e1,e2,e3⟩:=hH.2.1.fin (by omega) (cb:=cd) (cc:=FL.length) BR.o (by omega) hi hrow (by omega) (.slice d rest.length cd) (.slice (some ⟨G,0,none⟩) FL.length FL.length) rfl rfl;go_wp2;refine bB (e1.result2 rfl _ rfl) rfl ?_;exact⟨e2,e3⟩
open Go.Sort Go.Lib
variable {la:List Int}
theorem YY:∀ {a b:List Int},a.Pairwise (·<·) ->b.Pairwise (·<·) ->(∀x,x∈a↔x∈b) ->a=b
 |[],[],_,_,_=>rfl
 |[],y::b,_,_,h=>absurd ((h y).2 dJ) (by simp)
 |x::a,[],_,_,h=>absurd ((h x).1 dJ) (by simp)
 |x::a,y::b,ha,hb,h=>by
  rw[List.pairwise_cons] at ha hb
  have e:x=y:=by
   have h1:=(h x).1 dJ;have h2:=(h y).2 dJ;rw[dK] at h1 h2;rcases h1 with h1 |h1
   ·exact h1
   ·rcases h2 with h2 |h2
    ·exact h2.symm
    ·have:=hb.1 x h1;have:=ha.1 y h2;omega
  subst e;rw[YY ha.2 hb.2 fun z=>?_];constructor
  ·intro hz;have h1:=(h z).1 (eE _ hz);have:=ha.1 z hz;rw[dK] at h1;rcases h1 with h1 |h1
   ·omega
   ·exact h1
  ·intro hz;have h1:=(h z).2 (eE _ hz);have:=hb.1 z hz;rw[dK] at h1;rcases h1 with h1 |h1
   ·omega
   ·exact h1
theorem acy {d:Array Int} (hs:∀i j,i<=j ->j<d.size ->d[i]!<=d[j]!):∀m,m<=d.size ->(compactUpTo d m).Pairwise (·<·)/\∀x,x∈compactUpTo d m↔∃j,j<m/\d[j]! =x
 |0,_=>⟨by simp[compactUpTo],fun x=>by simp[compactUpTo]⟩
 |m+1,hm=>by
  obtain⟨h1,h2⟩:=acy hs m (by omega);rw[compactUpTo_succ];by_cases hk:keeps d m=true
  ·rw[ay hk];constructor
   ·rw[List.pairwise_append];refine⟨h1,by simp,fun x hx y hy=>?_⟩;obtain⟨j,hj,rfl⟩:=(h2 x).1 hx;rw[fX] at hy;subst hy;rw[keeps,ei] at hk;rcases hk with hk |hk
    ·omega
    ·have e1:=hs j (m - 1) (by omega) (by omega);have e2:=hs (m - 1) m (by omega) (by omega);omega
   ·intro x;rw[dz,h2,fX];constructor
    ·rintro(⟨j,hj,rfl⟩ |rfl)
     ·exact⟨j,by omega,rfl⟩
     ·exact⟨m,by omega,rfl⟩
    ·rintro⟨j,hj,rfl⟩;by_cases e:j=m
     ·exact .inr (by rw[e])
     ·exact .inl ⟨j,by omega,rfl⟩
  ·rw[az hk,Eg];refine⟨h1,fun x=>?_⟩;rw[h2];have dH:¬(m=0∨d[m]!≠d[m - 1]!):=fun h=>hk (by rw[keeps,ei];exact h);have hm0:m≠0:=fun h=>dH (.inl h);have hmm:d[m]! =d[m - 1]!:=Gz fun h=>dH (.inr h);constructor
   ·rintro⟨j,hj,rfl⟩;exact⟨j,by omega,rfl⟩
   ·rintro⟨j,hj,rfl⟩;by_cases e:j=m
    ·exact⟨m - 1,by omega,by rw[e,hmm]⟩
    ·exact⟨j,by omega,rfl⟩
def ki (la lb:List Int):List Int:=Lib.compact ((la++lb).mergeSort fun x y=>decide (x<=y))
theorem Jv (la lb:List Int):(ki la lb).Pairwise (·<·)/\∀x,x∈ki la lb↔x∈la∨x∈lb:=by
 have hp:((la++lb).mergeSort fun x y=>decide (x<=y)).Pairwise (fun x y=>decide (x<=y)=true):=List.pairwise_mergeSort (fun a b c h1 h2=>by simp at h1 h2⊢;omega) (fun a b=>by simp;omega) _;have hm:∀x,x∈((la++lb).mergeSort fun x y=>decide (x<=y))↔x∈la∨x∈lb:=fun x=>by rw[List.mem_mergeSort,dz]
 rw[ki];generalize ((la++lb).mergeSort fun x y=>decide (x<=y))=zs at hp hm
 have hs:∀i j,i<=j ->j<zs.toArray.size ->zs.toArray[i]!<=zs.toArray[j]!:=fun i j CP hj=>by
  have hj':j<zs.length:=by simpa using hj
  rw[I6 zs.toArray i (by omega),I6 zs.toArray j hj];by_cases e:i=j
  ·subst e;exact Int.le_refl _
  ·have:=Cg.1 hp i j (by omega) hj' (by omega);simpa using this
 obtain⟨h1,h2⟩:=acy hs zs.toArray.size (ar _);have e:Lib.compact zs=compactUpTo zs.toArray zs.toArray.size:=by rw[Lib.compact];simp
 rw[e];refine⟨h1,fun x=>?_⟩;rw[h2, <- hm];constructor
 ·rintro⟨j,hj,rfl⟩;rw[I6 zs.toArray j hj];simp
 ·intro hx;obtain⟨j,hj,rfl⟩:=iE hx;exact⟨j,by simpa using hj,by rw[I6 zs.toArray j (by simpa using hj)];simp⟩
theorem aeb:ki [] []=[]:=List.eq_nil_iff_forall_not_mem.2 fun x hx=>by have:=((Jv [] []).2 x).1 hx;simp at this
theorem GI {lb:List Int} (ha:Up la n) (hb:Up lb n):Up (ki la lb) n:=by
 obtain⟨h1,h2⟩:=Jv la lb;exact pV.2 ⟨fun x hx=>((h2 x).1 hx).elim ((pV.1 ha).1 x) ((pV.1 hb).1 x),h1⟩
theorem aes (a b:Option Addr) (ca cb:Nat) (la lb:List Int) (w:World) (ha:ax w a la) (hb:ax w b lb) (ha0:a=none ->ca=0) (hb0:b=none ->cb=0) (lF:la.length<=1000) (lD:lb.length<=1000):
  Calls Tryz.prog 207 #[.slice a la.length ca,.slice b lb.length cb] w fun e w'=>∃(d:Option Addr) (cd:Nat),e=.returned (.slice d (ki la lb).length cd)/\ax w' d (ki la lb)/\eC w.heap.size d cd/\Below w.heap.size w w':=by
 obtain⟨L,hL⟩:∃L,L=ki la lb:=⟨_,rfl⟩;rw[<- hL];have HL:=hid hL;have CV:Below w.heap.size w (w.alloc (.cells #[.slice a la.length ca,.slice b lb.length cb] 27)):=(au _ w).alloc (ar _) _;have hrow:(w.alloc (.cells #[.slice a la.length ca,.slice b lb.length cb] 27)).heap[w.heap.size]? =some (.cells #[.slice a la.length ca,.slice b lb.length cb] 27 (0,0)):=kd _ _;have Mv:=hid (ae4 w.heap.size a b ca cb la lb (w.alloc (.cells #[.slice a la.length ca,.slice b lb.length cb] 27)) (by simp) (by rw[cC _ _ _ _ _ (0,0) hrow];rfl) (by rw[cC _ _ _ _ _ (0,0) hrow];rfl) (ha.aa CV) (hb.aa CV) ha0 hb0 lF lD);clear hL ha hb ha0 hb0 hrow;go_enter Tryz.func207,Tryz.ntmps207;go_wp2_with fail
 generalize (w.alloc (.cells #[.slice a la.length ca,.slice b lb.length cb] 27))=W at *;refine Mv.o.af ?_;rintro e w1 ⟨v,rfl,hr,hb1⟩;have hB1:=CV.trans (hb1.af CV.size);have hs0:=CV.size;rcases hr.cases with ⟨rfl,hnil⟩ |⟨g,cap,rfl,hg0,hg,hc1,hc2,hh⟩
 ·have KR:L=[]:=by
   have h1:la=[]:=(List.append_eq_nil_iff.1 hnil).1;have h2:lb=[]:=(List.append_eq_nil_iff.1 hnil).2;rw[HL.o,h1,h2,aeb]
  subst KR;go_wp2_with fail
  refine(Tryz.slices_Sort_int_none none 0 _).af ?_;rintro e w2 ⟨rfl,rfl⟩;go_wp2_with fail
  refine(Tryz.slices_Compact_int_empty none 0 _).af ?_;rintro e w3 ⟨rfl,rfl⟩;go_wp2;go_ret;exact⟨none,0,rfl,fun k hk=>absurd hk (by simp),eC.nil _,hB1⟩
 ·have dh:(la++lb).length<=2000:=by rw[dM];omega
  have aaX:=Tryz.slices_Sort_int g 0 cap (la++lb) w1 hh hg (by omega);have hlen:((la++lb).mergeSort fun x y=>decide (x<=y)).length=(la++lb).length:=MP _;have hcl:=Lib.compact_length_le ((la++lb).mergeSort fun x y=>decide (x<=y));rw[<- show ki la lb=Lib.compact ((la++lb).mergeSort fun x y=>decide (x<=y)) from rfl, <- HL.o] at hcl;have VY:=hid aaX;have anh:Hid (Lib.compact ((la++lb).mergeSort fun x y=>decide (x<=y))=L):=HL.o.symm;generalize ((la++lb).mergeSort fun x y=>decide (x<=y))=zs at *;have HH:=hid hh;clear aaX hh hr hc2 hb1;generalize hLL:(la++lb).length=n at *;go_wp2_with fail
  refine VY.o.af ?_;rintro e w2 ⟨rfl,q,os,rfl⟩;have hsz:zs.toArray.size=(la++lb).toArray.size:=by simp;rw[hlen, <- hLL];simp
  have C7:Holds (Value.int .i64) (grow (putRow (Value.int .i64) (Sort.ahead w1 q) g 0 zs.toArray) os) g 0 zs.toArray:=fun j hj=>by
   obtain⟨h1,h2⟩:=holds_putRow (Value.int .i64) (Sort.ahead w1 q) g 0 _ zs.toArray HH.o hsz j hj;(have gj:g<(putRow (Value.int .i64) (Sort.ahead w1 q) g 0 zs.toArray).heap.size:=by rw[size_putRow];exact hg);refine⟨(cell?_grow _ _ _ gj).trans h1,?_⟩;rw[frozen?_grow _ _ _ gj];exact h2
  have Kr:g<(grow (putRow (Value.int .i64) (Sort.ahead w1 q) g 0 zs.toArray) os).heap.size:=aR hg (MF (w:=w1) (g:=g) (n:=q) (os:=os) zs.toArray).size;have hB2:=Vi (n:=q) (os:=os) zs.toArray hB1 hB1.size (show w.heap.size<=g by omega);generalize grow (putRow (Value.int .i64) (Sort.ahead w1 q) g 0 zs.toArray) os=w2 at *;have TM:=Tryz.slices_Compact_int g 0 cap zs w2 C7 (by omega) (by omega);rw[hlen,anh.o] at TM;have anG:=hid TM;have Ww:=hid C7;clear TM C7 hsz;go_wp2_with fail
  refine anG.o.af ?_;rintro e w3 ⟨rfl,q2,rfl⟩;go_wp2;go_ret
  have Hl:(L++List.replicate (n - L.length) 0).toArray.size=zs.toArray.size:=by
   simp;omega
  exact⟨some ⟨g,0,none⟩,cap,rfl,EP (holds_putRow (Value.int .i64) (Sort.ahead w2 q2) g 0 zs.toArray _ Ww.o Hl) (by rw[size_putRow];exact Kr) (fun j hj=>⟨by simp;omega,by simp[uI,hj]⟩),eC.at (by omega),Vj _ hB2 hB2.size (by omega)⟩
theorem agp (Ba Fa Bb Fb:Nat) (c d:Option Addr) (ca cb:Nat) (fa fb:Array Value) (la lb:List Fr) (k P Q:Nat) (hP:P<la.length) (hQ:Q<lb.length) (w:World)
  (hBa:Ba<w.heap.size) (xa:w.cell? ⟨Ba,1,none⟩=some (.slice c la.length ca)) (bL:Fa<w.heap.size) (ya:w.cell? ⟨Fa,0,none⟩=some (.func (.func 234) #[] fa)) (hBb:Bb<w.heap.size) (xb:w.cell? ⟨Bb,1,none⟩=some (.slice d lb.length cb)) (b6:Fb<w.heap.size) (yb:w.cell? ⟨Fb,0,none⟩=some (.func (.func 234) #[] fb)) (ha:bZ w c la) (hb:bZ w d lb) (wa:Cw 100000 la) (wb:Cw 100000 lb)
  (h1:∀V,Below w.heap.size w V ->Calls Tryz.prog 234 (#[.int .i64 (k:Nat)]++fa) V fun e w'=>e=.returned (.int .i64 (P:Nat))/\Below V.heap.size V w')
  (h2:∀V,Below w.heap.size w V ->Calls Tryz.prog 234 (#[.int .i64 (k:Nat)]++fb) V fun e w'=>e=.returned (.int .i64 (Q:Nat))/\Below V.heap.size V w'):
  Calls Tryz.prog 208 #[.int .i64 (k:Nat),.pointer (some ⟨Ba,0,none⟩),.pointer (some ⟨Fa,0,none⟩),.pointer (some ⟨Bb,0,none⟩),.pointer (some ⟨Fb,0,none⟩)] w fun e w'=>e=.returned (dP (qF (aT (bA la P)*aT (bA lb Q))))/\Below w.heap.size w w':=by
 obtain⟨g,o,rfl,hg,a0,a1,a2⟩:=ha P hP;obtain⟨h,p,rfl,hh,b0,b1,b2⟩:=hb Q hQ;have EJ:=wa P hP;have hsb:=wb Q hQ;rw[<- pz hP] at a0 a1 a2;rw[<- pz hQ] at b0 b1 b2;have HC:=hid (fun V:World=>acd (w:=V) (aT (bA la P)*aT (bA lb Q)) rfl rfl rfl (show (bA la P).2.1.size+(bA la P).2.2.size<=100000 by omega) (show (bA lb Q).2.1.size+(bA lb Q).2.2.size<=100000 by omega));rw[K4];have H1:=hid h1;have H2:=hid h2;generalize aT (bA la P)*aT (bA lb Q)=r at *;clear ha hb h1 h2 EJ hsb wa wb;generalize bA la P=f at *;generalize bA lb Q=f' at *;obtain⟨xn,xx,xy⟩:=f;obtain⟨yn,yx,yy⟩:=f';simp only at a0 a1 a2 b0 b1 b2 HC;have hb0:aC (w.alloc (FC false ⟨#[]⟩ ⟨#[]⟩)) w.heap.size false ⟨#[]⟩ ⟨#[]⟩:=aC.new w _ _ _;have hB:Below w.heap.size w (w.alloc (FC false ⟨#[]⟩ ⟨#[]⟩)):=(au _ w).alloc (ar _) _;go_enter Tryz.func208,Tryz.ntmps208;go_upto_region 1 with fail
 generalize (w.alloc (FC false ⟨#[]⟩ ⟨#[]⟩))=W at *;replace hb0:=hb0.drew;replace hB:=hB.drew;have held:∀u,Below w.heap.size w u ->u.cell? ⟨Ba,1,none⟩=some (.slice (some ⟨g,o,none⟩) la.length ca)/\u.cell? ⟨Fa,0,none⟩=some (.func (.func 234) #[] fa)/\u.cell? ⟨Bb,1,none⟩=some (.slice (some ⟨h,p,none⟩) lb.length cb)/\u.cell? ⟨Fb,0,none⟩=some (.func (.func 234) #[] fb)/\u.cell? ⟨g,o+P*3,none⟩=some (.bool xn)/\u.cell? ⟨g,o+P*3+1,none⟩=some (.string xx)/\u.cell? ⟨g,o+P*3+2,none⟩=some (.string xy)/\u.cell? ⟨h,p+Q*3,none⟩=some (.bool yn)/\u.cell? ⟨h,p+Q*3+1,none⟩=some (.string yx)/\u.cell? ⟨h,p+Q*3+2,none⟩=some (.string yy):=fun u e=>⟨(e.cell (p:=⟨Ba,1,none⟩) hBa).trans xa,(e.cell (p:=⟨Fa,0,none⟩) bL).trans ya,(e.cell (p:=⟨Bb,1,none⟩) hBb).trans xb,(e.cell (p:=⟨Fb,0,none⟩) b6).trans yb,(e.cell (p:=⟨g,_,none⟩) hg).trans a0,(e.cell (p:=⟨g,_,none⟩) hg).trans a1,(e.cell (p:=⟨g,_,none⟩) hg).trans a2,(e.cell (p:=⟨h,_,none⟩) hh).trans b0,(e.cell (p:=⟨h,_,none⟩) hh).trans b1,(e.cell (p:=⟨h,_,none⟩) hh).trans b2⟩;have HELD:=hid held;clear held a0 a1 a2 b0 b1 b2 xa ya xb yb
 refine jJ (S:=fun u=>u.cell? ⟨Ba,1,none⟩=some (.slice (some ⟨g,o,none⟩) la.length ca)/\u.cell? ⟨Fa,0,none⟩=some (.func (.func 234) #[] fa)/\u.cell? ⟨Bb,1,none⟩=some (.slice (some ⟨h,p,none⟩) lb.length cb)/\u.cell? ⟨Fb,0,none⟩=some (.func (.func 234) #[] fb)/\u.cell? ⟨g,o+P*3,none⟩=some (.bool xn)/\u.cell? ⟨g,o+P*3+1,none⟩=some (.string xx)/\u.cell? ⟨g,o+P*3+2,none⟩=some (.string xy)/\u.cell? ⟨h,p+Q*3,none⟩=some (.bool yn)/\u.cell? ⟨h,p+Q*3+1,none⟩=some (.string yx)/\u.cell? ⟨h,p+Q*3+2,none⟩=some (.string yy)) (by kernel_rfl) (HELD.o _ hB) (fun aq=>?_);generalize W.drew=u0 at *;refine aw 0 (.pointer (some ⟨Ba,1,none⟩)) ?_;try simp only[gE,aP]
 refine cK 1 (.slice (some ⟨g,o,none⟩) la.length ca) ?_ ?_
 ·intro u' aL;obtain⟨s1,s2,s3,s4,s5,s6,s7,s8,s9,JC⟩:=aL;go_simp
 try simp only[gE,aP]
 refine cK 2 (.func (.func 234) #[] fa) ?_ ?_
 ·intro u' aL;obtain⟨s1,s2,s3,s4,s5,s6,s7,s8,s9,JC⟩:=aL;go_simp
 refine aw 3 (.int .i64 (k:Nat)) ?_;refine aw 7 (.pointer (some ⟨Bb,1,none⟩)) ?_;try simp only[gE,aP]
 refine cK 8 (.slice (some ⟨h,p,none⟩) lb.length cb) ?_ ?_
 ·intro u' aL;obtain⟨s1,s2,s3,s4,s5,s6,s7,s8,s9,JC⟩:=aL;go_simp
 try simp only[gE,aP]
 refine cK 9 (.func (.func 234) #[] fb) ?_ ?_
 ·intro u' aL;obtain⟨s1,s2,s3,s4,s5,s6,s7,s8,s9,JC⟩:=aL;go_simp
 refine aw 10 (.int .i64 (k:Nat)) ?_;refine aF [4] (cA ?_ aD);intro K' hK';go_simp;refine(H1.o _ hB).af ?_;rintro e u1 ⟨rfl,hb⟩;replace hb0:=hb0.aa hb hb0.lt;replace hB:=hB.trans (hb.af hB.size);refine hK'.o _ _ (HELD.o _ hB) (fun ak=>?_);clear hK' K' aq;have aq:=ak;clear ak hb;refine aw 5 (.pointer (some ⟨g,o+P*3,none⟩)) ?_;try simp only[gE,aP]
 refine cK 6 (.agg #[.bool xn,.string xx,.string xy]) ?_ ?_
 ·intro u' aL;obtain⟨s1,s2,s3,s4,s5,s6,s7,s8,s9,JC⟩:=aL;go_simp
 refine aF [11] (cA ?_ aD);intro K' hK';go_simp;refine(H2.o _ hB).af ?_;rintro e u2 ⟨rfl,hb⟩;replace hb0:=hb0.aa hb hb0.lt;replace hB:=hB.trans (hb.af hB.size);refine hK'.o _ _ (HELD.o _ hB) (fun ak=>?_);clear hK' K' aq;have aq:=ak;clear ak hb;refine aw 12 (.pointer (some ⟨h,p+Q*3,none⟩)) ?_;try simp only[gE,aP]
 refine cK 13 (.agg #[.bool yn,.string yx,.string yy]) ?_ ?_
 ·intro u' aL;obtain⟨s1,s2,s3,s4,s5,s6,s7,s8,s9,JC⟩:=aL;go_simp
 refine aF [14] (cA ?_ aD);intro K' hK';go_simp;refine(HC.o _).af ?_;rintro e u3 ⟨rfl,hb⟩;replace hb0:=hb0.aa hb hb0.lt;replace hB:=hB.trans (hb.af hB.size);refine hK'.o _ _ (HELD.o _ hB) (fun ak=>?_);clear hK' K' aq;have aq:=ak;clear ak hb;try simp only[gE,aP]
 obtain⟨k0,k1,k2,f0,f1,f2⟩:=hb0.facts;refine aF [15] (cA ?_ aD);intro K' hK';go_simp;have hput:=hb0.put (aH r) (nu r) (de r);have oL:=bF hB (g:=w.heap.size) (ar _) (.bool (aH r)) (.string (nu r)) (.string (de r));generalize (((u3.setCell ⟨w.heap.size,0,none⟩ (.bool (aH r))).setCell ⟨w.heap.size,1,none⟩ (.string (nu r))).setCell ⟨w.heap.size,2,none⟩ (.string (de r)))=v9 at *;refine hK'.o _ _ (HELD.o _ oL) (fun _=>dW (by kernel_rfl) ?_ _);clear hK' K' aq;go_wp2;refine bB (hput.result rfl _ rfl) rfl ?_;exact⟨rfl,oL⟩
def Vz (w:World) (g:Nat) (x y z t:Value):Prop:=w.heap[g]? =some (.cells #[x,y,z,t] 39 (0,0))
theorem Vz.lt {t:Value} (h:Vz w g x y z t):g<w.heap.size:=(eL.1 h).1
def PH (w V:World) (x y z t:Value):Prop:=bh V w.heap.size x y/\bh V (w.heap.size+1) z t/\bh V (w.heap.size+1+1) (.slice none 0 0) (.slice none 0 0)/\Vz V (w.heap.size+1+1+1) x y z t/\Below w.heap.size w V
theorem PH.step {V:World} {t:Value} (h:PH w V x y z t) (hb:Below V.heap.size V V'):PH w V' x y z t:=⟨h.1.aa hb h.1.lt,h.2.1.aa hb h.2.1.lt,h.2.2.1.aa hb h.2.2.1.lt,(hb.block _ h.2.2.2.1.lt).trans h.2.2.2.1,h.2.2.2.2.trans (hb.af h.2.2.2.2.size)⟩
theorem PH.drew {V:World} {t:Value} (h:PH w V x y z t):PH w V.drew x y z t:=⟨h.1,h.2.1,h.2.2.1,h.2.2.2.1,h.2.2.2.2.drew⟩
theorem PH.new (w:World) (x y z t:Value):PH w ((((w.alloc (TC x y)).alloc (TC z t)).alloc (TC (.slice none 0 0) (.slice none 0 0))).alloc (.cells #[x,y,z,t] 39)) x y z t:=by
 refine⟨((bh.at rfl _ _).alloc _ |>.alloc _).alloc _,((bh.at (by simp) _ _).alloc _).alloc _,(bh.at (by simp) _ _).alloc _,?_,((((au _ w).alloc (ar _) _).alloc (by simp) _).alloc (by simp;omega) _).alloc (by simp;omega) _⟩;have h:=kd (((w.alloc (TC x y)).alloc (TC z t)).alloc (TC (.slice none 0 0) (.slice none 0 0))) (.cells #[x,y,z,t] 39);rw[cN,cN,cN] at h;exact h
theorem PH.row {V:World} {t:Value} (h:PH w V x y z t):(V.cell? ⟨w.heap.size+1+1+1,0,none⟩=some x/\V.cell? ⟨w.heap.size+1+1+1,1,none⟩=some y)/\V.cell? ⟨w.heap.size+1+1+1,2,none⟩=some z/\V.cell? ⟨w.heap.size+1+1+1,3,none⟩=some t:=by
 refine⟨⟨?_,?_⟩,?_,?_⟩<;>(rw[cC _ _ _ _ _ (0,0) h.2.2.2.1];rfl)
theorem Hb {V:World} {B b:Nat} {t:TypeId} (h:Boxed V B t .nilFunc) (hx:V.cell? ⟨b,j,none⟩=some x) (hn:x≠.nilFunc):b≠B:=fun e=>by
 subst e;rw[cC V b j _ _ (0,0) h] at hx;match j with
 |0=>simp at hx;exact hn hx.symm
 |j+1=>simp at hx
theorem S0 {V:World} {B:Nat} {t:TypeId} {c:Option Addr} (h:Boxed V B t .nilFunc) (hi:ax V c l) (y:Value):ax (V.setCell ⟨B,0,none⟩ y) c l:=fun k hk=>by
 obtain⟨g,o,rfl,hlt,hc⟩:=hi k hk;have hne:=Hb h hc (by simp);exact⟨g,o,rfl,aR hlt (iG V _ _).size,(bX _ _ _ _ (fun e=>hne (bR Addr.block e).symm)).trans hc⟩
theorem nO.nil {V:World} {B:Nat} {t:TypeId} {f:Value} {b:Option Addr} (h:nO V n m f a b ca cb sizes vars other) (hb:Boxed V B t .nilFunc) (y:Value):nO (V.setCell ⟨B,0,none⟩ y) n m f a b ca cb sizes vars other:=by
 obtain⟨Bv,Bs,Bt,g,ct,h0,hn,hm,hM,h4,h5,h6,h7⟩:=h;have far:∀(b j:Nat) (x:Value),V.cell? ⟨b,j,none⟩=some x ->x≠.nilFunc ->(V.setCell ⟨B,0,none⟩ y).cell? ⟨b,j,none⟩=some x:=fun b j x hx hn=>(bX _ _ _ _ (fun e=>Hb hb hx hn (bR Addr.block e).symm)).trans hx;exact⟨Bv,Bs,Bt,g,ct,h0,hn,hm,aS hM (iG V _ _).size,far _ _ _ h4 (by simp),far _ _ _ h5 (by simp),far _ _ _ h6 (by simp),S0 hb h7 y⟩
theorem PH.nil {V:World} {t:Value} {B:Nat} {ty:TypeId} (h:PH w V x y z t) (hx:cM x) (hz:cM z) (hb:Boxed V B ty .nilFunc) (hB:w.heap.size<=B) (u:Value):PH w (V.setCell ⟨B,0,none⟩ u) x y z t:=by
 obtain⟨a1,n1,c1,rfl⟩:=hx;obtain⟨a2,n2,c2,rfl⟩:=hz;have h4:=h.row.1.1;exact⟨h.1.off B 0 u (Hb hb h.1.c0 (by simp)),h.2.1.off B 0 u (Hb hb h.2.1.c0 (by simp)),h.2.2.1.off B 0 u (Hb hb h.2.2.1.c0 (by simp)),(je V ⟨B,0,none⟩ u _ (Hb hb h4 (by simp))).trans h.2.2.2.1,h.2.2.2.2.setCell (p:=⟨B,0,none⟩) hB u⟩
theorem Zl (S va vb U:List Nat) (la lb:List Fr):(uM S va vb U la lb).length=cnt S U:=by simp[uM]
theorem ago (S va vb U:List Nat) (la lb:List Fr) (h:k<(uM S va vb U la lb).length):(uM S va vb U la lb)[k]=qF (aT (bA la (pos S (aO S U k) va))*aT (bA lb (pos S (aO S U k) vb))):=by simp[uM]
theorem Yr {U:List Int} (hk:jr sizes vars m=0) (hK:K<cnt (ag sizes) (ag U)):pos (ag sizes) (aO (ag sizes) (ag U) K) (ag vars)<m:=by
 obtain⟨h1,h2,h3⟩:=xC hk;rw[h3];exact p3 _ (fun u=>nN h1.pos _ _ u hK) _
theorem aev (a b c b' c':Option Addr) (ca cb cc fD kp:Nat) (sizes va vb:List Int) (la lb:List Fr) (w:World) (hs:ax w a sizes) (uW:ax w b va) (tK:ax w b' vb) (A0:bZ w c la) (hfb:bZ w c' lb) (hn:sizes.length<=140737488355328) (hma:va.length<=140737488355328) (hmb:vb.length<=140737488355328) (hb0:b=none ->cb=0) (CV:b'=none ->fD=0) (hka:jr sizes va la.length=0) (hkb:jr sizes vb lb.length=0) (S8:Cw 100000 la) (hwb:Cw 100000 lb):
  Calls Tryz.prog 161 #[.slice a sizes.length ca,.agg #[.slice b va.length cb,.slice c la.length cc],.agg #[.slice b' vb.length fD,.slice c' lb.length kp]] w fun e w'=>uh w.heap.size (ki va vb) (uM (ag sizes) (ag va) (ag vb) (ag (ki va vb)) la lb) 0 e w'/\Below w.heap.size w w':=by
 obtain⟨aJ,mj, -⟩:=xC hka;obtain⟨-,EG, -⟩:=xC hkb;obtain⟨R,iA,hR1⟩:∃R:Nat ->Int,R 0=jr sizes va la.length/\R 1=jr sizes vb lb.length:=⟨fun i=>if i=0 then jr sizes va la.length else jr sizes vb lb.length,rfl,rfl⟩
 have HKZ:Hid (∀i,i< 2 ->R i=0):=by
  intro i hi;by_cases h:i=0
  ·subst h;rw[iA];exact hka
  ·obtain rfl:i=1:=by omega
   rw[hR1];exact hkb
 have nD:=aJ.eight;have lF:=mj.length;have lD:=EG.length;have xM:=hid (fun V h1 h2=>aes b b' cb fD va vb V h1 h2 hb0 CV (by omega) (by omega));have LX:=hid (fun K (hK:K<cnt (ag sizes) (ag (ki va vb)))=>Yr hka hK);have sX:=hid (fun K (hK:K<cnt (ag sizes) (ag (ki va vb)))=>Yr hkb hK);have kz:=hid (Zl (ag sizes) (ag va) (ag vb) (ag (ki va vb)) la lb);have BQ:=hid (fun (k:Nat) (h:k<(uM (ag sizes) (ag va) (ag vb) (ag (ki va vb)) la lb).length)=>ago (ag sizes) (ag va) (ag vb) (ag (ki va vb)) la lb h);have oU:=hid (GI mj EG);generalize uM (ag sizes) (ag va) (ag vb) (ag (ki va vb)) la lb=FL at *;generalize ki va vb=U at *;have LL:=hid (fun V d cd h1 h2=>Rs a d b ca cd cb sizes U va V h1 h2 aJ mj);have xO:=hid (fun V d cd h1 h2=>Rs a d b' ca cd fD sizes U vb V h1 h2 aJ EG);have bC:=hid aJ;have HUA:=hid mj;have HUB:=hid EG;have zJ:=hid A0;have HFB:=hid hfb;have HWA:=hid S8;have LG:=hid hwb;clear hka hkb aJ mj EG A0 hfb S8 hwb hb0 CV
 have one:∀i,i< 2 ->∃(p q:Option Addr) (n m cp cq:Nat) (r:Int),(∀V,PH w V (.slice b va.length cb) (.slice c la.length cc) (.slice b' vb.length fD) (.slice c' lb.length kp) ->V.cell? ⟨w.heap.size+1+1+1,i*2,none⟩=some (.slice p n cp)/\V.cell? ⟨w.heap.size+1+1+1,i*2+1,none⟩=some (.slice q m cq))/\(∀V,Below w.heap.size w V ->Calls Tryz.prog 86 #[.slice a sizes.length ca,.agg #[.slice p n cp,.slice q m cq]] V fun e w'=>e=.returned (.int .i64 r)/\Below V.heap.size V w')/\R i=r:=by
  intro i hi;by_cases h:i=0
  ·subst h;exact⟨b,c,va.length,la.length,cb,cc,_,fun V h=>h.row.1,fun V h=>Cm a b c ca cb cc la.length sizes va V (hs.aa h) (uW.aa h) hn hma,iA⟩
  ·obtain rfl:i=1:=by omega
   exact⟨b',c',vb.length,lb.length,fD,kp,_,fun V h=>h.row.2,fun V h=>Cm a b' c' ca fD kp lb.length sizes vb V (hs.aa h) (tK.aa h) hn hmb,hR1⟩
 have L6:=hid one;have HS:=hid hs;have Ip:=hid uW;have vL:=hid tK;clear one iA hR1 hs uW tK;have hH:=PH.new w (.slice b va.length cb) (.slice c la.length cc) (.slice b' vb.length fD) (.slice c' lb.length kp);have c0:=hH.1.c0;have c1:=hH.1.c1;have c2:=hH.2.1.c0;have c3:=hH.2.1.c1;go_enter Tryz.func161,Tryz.ntmps161;go_wp2_with fail
 generalize ((((w.alloc (TC (.slice b va.length cb) (.slice c la.length cc))).alloc (TC (.slice b' vb.length fD) (.slice c' lb.length kp))).alloc (TC (.slice none 0 0) (.slice none 0 0))).alloc (.cells #[.slice b va.length cb,.slice c la.length cc,.slice b' vb.length fD,.slice c' lb.length kp] 39))=W at *;have HPH:=hid hH;clear c0 c1 c2 c3 hH;go_loopw [18] (fun iv wr=>∃i:Nat,i<=2/\iv=.int .i64 i/\Hid (∀j,j< i ->R j=0)/\Hid (PH w wr (.slice b va.length cb) (.slice c la.length cc) (.slice b' vb.length fD) (.slice c' lb.length kp))) (fun iv _=>2 - (intOf iv).toNat)
 case atStart=>exact⟨0,by omega,rfl,fun j hj=>absurd hj (by omega),HPH⟩
 case round=>
  obtain⟨i,hi,rfl,HZ,HP⟩:=hrel;clear HPH;by_cases hlt:i<2
  ·obtain⟨p,q,n,m,cp,cq,r,hcl,hck,hr⟩:=L6.o i hlt;obtain⟨d0,d1⟩:=hcl _ HP.o;have ee:=hid hck;have HR:=hid hr;clear hcl hck hr;have hb1:Below wr.heap.size wr (wr.alloc (TC (.slice p n cp) (.slice q m cq))):=(au _ wr).alloc (ar _) _;have hx:=bh.at (w:=wr) rfl (.slice p n cp) (.slice q m cq);have e0:=hx.c0;have e1:=hx.c1;go_wp2_with fail
   replace HP:=hid (HP.o.step hb1);clear d0 d1 e0 e1 hb1;generalize (wr.alloc (TC (.slice p n cp) (.slice q m cq)))=w2 at *;refine(ee.o _ HP.o.2.2.2.2).af ?_;rintro e w3 ⟨rfl,hb3⟩;replace HP:=hid (HP.o.step hb3);clear hb3 hx;by_cases Kf:r=0
   ·subst Kf;go_wp2;go_roundw
    case rel=>exact⟨i+1,by omega,by go_num,fun j hj=>by
      by_cases e:j=i
      ·rw[e];exact HR.o
      ·exact HZ.o j (by omega),HP⟩
    case measure=>simp[intOf];omega
   ·have tZ:=HKZ.o i hlt;rw[HR.o] at tZ;exact absurd tZ Kf
  ·obtain rfl:i=2:=by omega
   have hH:=HP.o;have c0:=hH.1.c0;have c2:=hH.2.1.c0;clear HP HZ L6;go_wp2_with fail
   refine(xM.o _ (Ip.o.aa hH.2.2.2.2) (vL.o.aa hH.2.2.2.2)).af ?_;rintro e w1 ⟨d,cd,rfl,hi,kK,hb1⟩;have BR:=hid (kK.up hH.2.2.2.2.size);clear kK;replace hH:=hH.step hb1;clear c0 c2 hb1;go_upto_region 9 with fail
   replace hH:=hH.drew;replace hi:ax w1.drew d U:=hi;refine jJ (S:=fun u=>u.cell? ⟨w.heap.size,0,none⟩=some (.slice b va.length cb)/\u.cell? ⟨w.heap.size+1,0,none⟩=some (.slice b' vb.length fD)) (by kernel_rfl) ⟨hH.1.c0,hH.2.1.c0⟩ (fun aq=>?_);generalize w1.drew=u0 at *;refine aw 0 (.slice a sizes.length ca) ?_;refine aw 1 (.slice d U.length cd) ?_;refine aw 2 (.pointer (some ⟨w.heap.size,0,none⟩)) ?_;refine aw 3 (.slice b va.length cb) ?_;refine aw 5 (.slice a sizes.length ca) ?_;refine aw 6 (.slice d U.length cd) ?_;refine aw 7 (.pointer (some ⟨w.heap.size+1,0,none⟩)) ?_;refine aw 8 (.slice b' vb.length fD) ?_;refine aF [4,10,11] (cA ?_ (cA ?_ (cA ?_ aD)))
   focus
    intro K' hK';go_simp;refine(LL.o _ d cd (HS.o.aa hH.2.2.2.2) (Ip.o.aa hH.2.2.2.2)).af ?_;rintro e u1 ⟨f,rfl,bL,hb⟩;obtain⟨fa,rfl⟩:=bL.shape;replace hH:=hH.step hb;replace hi:=hi.aa hb;refine hK'.o _ _ ⟨hH.1.c0,hH.2.1.c0⟩ (fun ak=>?_);clear hK' K' aq;have aq:=ak;clear ak hb;generalize u0.heap.size=na at bL;generalize u1.heap.size=ma at bL;refine aF [9,10,11] (cA ?_ (cA ?_ (cA ?_ aD)))
    focus
     intro K' hK';go_simp;refine(xO.o _ d cd (HS.o.aa hH.2.2.2.2) (vL.o.aa hH.2.2.2.2)).af ?_;rintro e u2 ⟨f,rfl,b6,hb⟩;obtain⟨fb,rfl⟩:=b6.shape;replace hH:=hH.step hb;replace hi:=hi.aa hb;replace bL:=bL.aa hb;refine hK'.o _ _ ⟨hH.1.c0,hH.2.1.c0⟩ (fun ak=>?_);clear hK' K' aq;have aq:=ak;clear ak hb;generalize u1.heap.size=nb at b6;generalize u2.heap.size=mb at b6;refine aF [10,11] (cA ?_ (cA ?_ aD))
     focus
      intro K' hK';go_simp;have hb:Below u2.heap.size u2 (u2.alloc (.cells #[.nilFunc] 140)):=(au _ u2).alloc (ar _) _;have h10:Boxed (u2.alloc (.cells #[.nilFunc] 140)) u2.heap.size 140 .nilFunc:=a7 u2 _ _;have bI:=hH.2.2.2.2.size;replace hH:=hH.step hb;replace hi:=hi.aa hb;replace bL:=bL.aa hb;replace b6:=b6.aa hb;refine hK'.o _ _ ⟨hH.1.c0,hH.2.1.c0⟩ (fun ak=>?_);clear hK' K' aq;have aq:=ak;clear ak hb;generalize (u2.alloc (.cells #[.nilFunc] 140))=u3 at *;generalize u2.heap.size=cV at *;refine aF [11] (cA ?_ aD);intro K' hK';go_simp;have hb:Below u3.heap.size u3 (u3.alloc (.cells #[.nilFunc] 140)):=(au _ u3).alloc (ar _) _;have h11:Boxed (u3.alloc (.cells #[.nilFunc] 140)) u3.heap.size 140 .nilFunc:=a7 u3 _ _;have tE:=hH.2.2.2.2.size;(have ne:cV≠u3.heap.size:=by have:=h10.lt;omega);replace hH:=hH.step hb;replace hi:=hi.aa hb;replace bL:=bL.aa hb;replace b6:=b6.aa hb;replace h10:=aZ h10 hb;refine hK'.o _ _ ⟨hH.1.c0,hH.2.1.c0⟩ (fun ak=>?_);clear hK' K' aq;have aq:=ak;clear ak hb;generalize (u3.alloc (.cells #[.nilFunc] 140))=u4 at *;generalize u3.heap.size=od at *
     rotate_left
     focus
      intro K' hK';go_simp;have hb:Below u2.heap.size u2 (u2.alloc (.cells #[.nilFunc] 140)):=(au _ u2).alloc (ar _) _;have h11:Boxed (u2.alloc (.cells #[.nilFunc] 140)) u2.heap.size 140 .nilFunc:=a7 u2 _ _;have tE:=hH.2.2.2.2.size;replace hH:=hH.step hb;replace hi:=hi.aa hb;replace bL:=bL.aa hb;replace b6:=b6.aa hb;refine hK'.o _ _ ⟨hH.1.c0,hH.2.1.c0⟩ (fun ak=>?_);clear hK' K' aq;have aq:=ak;clear ak hb;generalize (u2.alloc (.cells #[.nilFunc] 140))=u3 at *;generalize u2.heap.size=od at *;refine aF [10] (cA ?_ aD);intro K' hK';go_simp;have hb:Below u3.heap.size u3 (u3.alloc (.cells #[.nilFunc] 140)):=(au _ u3).alloc (ar _) _;have h10:Boxed (u3.alloc (.cells #[.nilFunc] 140)) u3.heap.size 140 .nilFunc:=a7 u3 _ _;have bI:=hH.2.2.2.2.size;(have ne:od≠u3.heap.size:=by have:=h11.lt;omega);replace hH:=hH.step hb;replace hi:=hi.aa hb;replace bL:=bL.aa hb;replace b6:=b6.aa hb;replace h11:=aZ h11 hb;refine hK'.o _ _ ⟨hH.1.c0,hH.2.1.c0⟩ (fun ak=>?_);clear hK' K' aq;have aq:=ak;clear ak hb;generalize (u3.alloc (.cells #[.nilFunc] 140))=u4 at *;generalize u3.heap.size=cV at *
    rotate_left 2
    focus
     intro K' hK';go_simp;have hb:Below u1.heap.size u1 (u1.alloc (.cells #[.nilFunc] 140)):=(au _ u1).alloc (ar _) _;have h10:Boxed (u1.alloc (.cells #[.nilFunc] 140)) u1.heap.size 140 .nilFunc:=a7 u1 _ _;have bI:=hH.2.2.2.2.size;replace hH:=hH.step hb;replace hi:=hi.aa hb;replace bL:=bL.aa hb;refine hK'.o _ _ ⟨hH.1.c0,hH.2.1.c0⟩ (fun ak=>?_);clear hK' K' aq;have aq:=ak;clear ak hb;generalize (u1.alloc (.cells #[.nilFunc] 140))=u2 at *;generalize u1.heap.size=cV at *;refine aF [9,11] (cA ?_ (cA ?_ aD))
     focus
      intro K' hK';go_simp;refine(xO.o _ d cd (HS.o.aa hH.2.2.2.2) (vL.o.aa hH.2.2.2.2)).af ?_;rintro e u3 ⟨f,rfl,b6,hb⟩;obtain⟨fb,rfl⟩:=b6.shape;replace hH:=hH.step hb;replace hi:=hi.aa hb;replace bL:=bL.aa hb;replace h10:=aZ h10 hb;refine hK'.o _ _ ⟨hH.1.c0,hH.2.1.c0⟩ (fun ak=>?_);clear hK' K' aq;have aq:=ak;clear ak hb;generalize u2.heap.size=nb at b6;generalize u3.heap.size=mb at b6;refine aF [11] (cA ?_ aD);intro K' hK';go_simp;have hb:Below u3.heap.size u3 (u3.alloc (.cells #[.nilFunc] 140)):=(au _ u3).alloc (ar _) _;have h11:Boxed (u3.alloc (.cells #[.nilFunc] 140)) u3.heap.size 140 .nilFunc:=a7 u3 _ _;have tE:=hH.2.2.2.2.size;(have ne:cV≠u3.heap.size:=by have:=h10.lt;omega);replace hH:=hH.step hb;replace hi:=hi.aa hb;replace bL:=bL.aa hb;replace b6:=b6.aa hb;replace h10:=aZ h10 hb;refine hK'.o _ _ ⟨hH.1.c0,hH.2.1.c0⟩ (fun ak=>?_);clear hK' K' aq;have aq:=ak;clear ak hb;generalize (u3.alloc (.cells #[.nilFunc] 140))=u4 at *;generalize u3.heap.size=od at *
     rotate_left
     focus
      intro K' hK';go_simp;have hb:Below u2.heap.size u2 (u2.alloc (.cells #[.nilFunc] 140)):=(au _ u2).alloc (ar _) _;have h11:Boxed (u2.alloc (.cells #[.nilFunc] 140)) u2.heap.size 140 .nilFunc:=a7 u2 _ _;have tE:=hH.2.2.2.2.size;(have ne:cV≠u2.heap.size:=by have:=h10.lt;omega);replace hH:=hH.step hb;replace hi:=hi.aa hb;replace bL:=bL.aa hb;replace h10:=aZ h10 hb;refine hK'.o _ _ ⟨hH.1.c0,hH.2.1.c0⟩ (fun ak=>?_);clear hK' K' aq;have aq:=ak;clear ak hb;generalize (u2.alloc (.cells #[.nilFunc] 140))=u3 at *;generalize u2.heap.size=od at *;refine aF [9] (cA ?_ aD);intro K' hK';go_simp;refine(xO.o _ d cd (HS.o.aa hH.2.2.2.2) (vL.o.aa hH.2.2.2.2)).af ?_;rintro e u4 ⟨f,rfl,b6,hb⟩;obtain⟨fb,rfl⟩:=b6.shape;replace hH:=hH.step hb;replace hi:=hi.aa hb;replace bL:=bL.aa hb;replace h10:=aZ h10 hb;replace h11:=aZ h11 hb;refine hK'.o _ _ ⟨hH.1.c0,hH.2.1.c0⟩ (fun ak=>?_);clear hK' K' aq;have aq:=ak;clear ak hb;generalize u3.heap.size=nb at b6;generalize u4.heap.size=mb at b6
    rotate_left 2
    focus
     intro K' hK';go_simp;have hb:Below u1.heap.size u1 (u1.alloc (.cells #[.nilFunc] 140)):=(au _ u1).alloc (ar _) _;have h11:Boxed (u1.alloc (.cells #[.nilFunc] 140)) u1.heap.size 140 .nilFunc:=a7 u1 _ _;have tE:=hH.2.2.2.2.size;replace hH:=hH.step hb;replace hi:=hi.aa hb;replace bL:=bL.aa hb;refine hK'.o _ _ ⟨hH.1.c0,hH.2.1.c0⟩ (fun ak=>?_);clear hK' K' aq;have aq:=ak;clear ak hb;generalize (u1.alloc (.cells #[.nilFunc] 140))=u2 at *;generalize u1.heap.size=od at *;refine aF [9,10] (cA ?_ (cA ?_ aD))
     focus
      intro K' hK';go_simp;refine(xO.o _ d cd (HS.o.aa hH.2.2.2.2) (vL.o.aa hH.2.2.2.2)).af ?_;rintro e u3 ⟨f,rfl,b6,hb⟩;obtain⟨fb,rfl⟩:=b6.shape;replace hH:=hH.step hb;replace hi:=hi.aa hb;replace bL:=bL.aa hb;replace h11:=aZ h11 hb;refine hK'.o _ _ ⟨hH.1.c0,hH.2.1.c0⟩ (fun ak=>?_);clear hK' K' aq;have aq:=ak;clear ak hb;generalize u2.heap.size=nb at b6;generalize u3.heap.size=mb at b6;refine aF [10] (cA ?_ aD);intro K' hK';go_simp;have hb:Below u3.heap.size u3 (u3.alloc (.cells #[.nilFunc] 140)):=(au _ u3).alloc (ar _) _;have h10:Boxed (u3.alloc (.cells #[.nilFunc] 140)) u3.heap.size 140 .nilFunc:=a7 u3 _ _;have bI:=hH.2.2.2.2.size;(have ne:od≠u3.heap.size:=by have:=h11.lt;omega);replace hH:=hH.step hb;replace hi:=hi.aa hb;replace bL:=bL.aa hb;replace b6:=b6.aa hb;replace h11:=aZ h11 hb;refine hK'.o _ _ ⟨hH.1.c0,hH.2.1.c0⟩ (fun ak=>?_);clear hK' K' aq;have aq:=ak;clear ak hb;generalize (u3.alloc (.cells #[.nilFunc] 140))=u4 at *;generalize u3.heap.size=cV at *
     rotate_left
     focus
      intro K' hK';go_simp;have hb:Below u2.heap.size u2 (u2.alloc (.cells #[.nilFunc] 140)):=(au _ u2).alloc (ar _) _;have h10:Boxed (u2.alloc (.cells #[.nilFunc] 140)) u2.heap.size 140 .nilFunc:=a7 u2 _ _;have bI:=hH.2.2.2.2.size;(have ne:od≠u2.heap.size:=by have:=h11.lt;omega);replace hH:=hH.step hb;replace hi:=hi.aa hb;replace bL:=bL.aa hb;replace h11:=aZ h11 hb;refine hK'.o _ _ ⟨hH.1.c0,hH.2.1.c0⟩ (fun ak=>?_);clear hK' K' aq;have aq:=ak;clear ak hb;generalize (u2.alloc (.cells #[.nilFunc] 140))=u3 at *;generalize u2.heap.size=cV at *;refine aF [9] (cA ?_ aD);intro K' hK';go_simp;refine(xO.o _ d cd (HS.o.aa hH.2.2.2.2) (vL.o.aa hH.2.2.2.2)).af ?_;rintro e u4 ⟨f,rfl,b6,hb⟩;obtain⟨fb,rfl⟩:=b6.shape;replace hH:=hH.step hb;replace hi:=hi.aa hb;replace bL:=bL.aa hb;replace h10:=aZ h10 hb;replace h11:=aZ h11 hb;refine hK'.o _ _ ⟨hH.1.c0,hH.2.1.c0⟩ (fun ak=>?_);clear hK' K' aq;have aq:=ak;clear ak hb;generalize u3.heap.size=nb at b6;generalize u4.heap.size=mb at b6
   rotate_left 6
   focus
    intro K' hK';go_simp;have hb:Below u0.heap.size u0 (u0.alloc (.cells #[.nilFunc] 140)):=(au _ u0).alloc (ar _) _;have h10:Boxed (u0.alloc (.cells #[.nilFunc] 140)) u0.heap.size 140 .nilFunc:=a7 u0 _ _;have bI:=hH.2.2.2.2.size;replace hH:=hH.step hb;replace hi:=hi.aa hb;refine hK'.o _ _ ⟨hH.1.c0,hH.2.1.c0⟩ (fun ak=>?_);clear hK' K' aq;have aq:=ak;clear ak hb;generalize (u0.alloc (.cells #[.nilFunc] 140))=u1 at *;generalize u0.heap.size=cV at *;refine aF [4,11] (cA ?_ (cA ?_ aD))
    focus
     intro K' hK';go_simp;refine(LL.o _ d cd (HS.o.aa hH.2.2.2.2) (Ip.o.aa hH.2.2.2.2)).af ?_;rintro e u2 ⟨f,rfl,bL,hb⟩;obtain⟨fa,rfl⟩:=bL.shape;replace hH:=hH.step hb;replace hi:=hi.aa hb;replace h10:=aZ h10 hb;refine hK'.o _ _ ⟨hH.1.c0,hH.2.1.c0⟩ (fun ak=>?_);clear hK' K' aq;have aq:=ak;clear ak hb;generalize u1.heap.size=na at bL;generalize u2.heap.size=ma at bL;refine aF [9,11] (cA ?_ (cA ?_ aD))
     focus
      intro K' hK';go_simp;refine(xO.o _ d cd (HS.o.aa hH.2.2.2.2) (vL.o.aa hH.2.2.2.2)).af ?_;rintro e u3 ⟨f,rfl,b6,hb⟩;obtain⟨fb,rfl⟩:=b6.shape;replace hH:=hH.step hb;replace hi:=hi.aa hb;replace bL:=bL.aa hb;replace h10:=aZ h10 hb;refine hK'.o _ _ ⟨hH.1.c0,hH.2.1.c0⟩ (fun ak=>?_);clear hK' K' aq;have aq:=ak;clear ak hb;generalize u2.heap.size=nb at b6;generalize u3.heap.size=mb at b6;refine aF [11] (cA ?_ aD);intro K' hK';go_simp;have hb:Below u3.heap.size u3 (u3.alloc (.cells #[.nilFunc] 140)):=(au _ u3).alloc (ar _) _;have h11:Boxed (u3.alloc (.cells #[.nilFunc] 140)) u3.heap.size 140 .nilFunc:=a7 u3 _ _;have tE:=hH.2.2.2.2.size;(have ne:cV≠u3.heap.size:=by have:=h10.lt;omega);replace hH:=hH.step hb;replace hi:=hi.aa hb;replace bL:=bL.aa hb;replace b6:=b6.aa hb;replace h10:=aZ h10 hb;refine hK'.o _ _ ⟨hH.1.c0,hH.2.1.c0⟩ (fun ak=>?_);clear hK' K' aq;have aq:=ak;clear ak hb;generalize (u3.alloc (.cells #[.nilFunc] 140))=u4 at *;generalize u3.heap.size=od at *
     rotate_left
     focus
      intro K' hK';go_simp;have hb:Below u2.heap.size u2 (u2.alloc (.cells #[.nilFunc] 140)):=(au _ u2).alloc (ar _) _;have h11:Boxed (u2.alloc (.cells #[.nilFunc] 140)) u2.heap.size 140 .nilFunc:=a7 u2 _ _;have tE:=hH.2.2.2.2.size;(have ne:cV≠u2.heap.size:=by have:=h10.lt;omega);replace hH:=hH.step hb;replace hi:=hi.aa hb;replace bL:=bL.aa hb;replace h10:=aZ h10 hb;refine hK'.o _ _ ⟨hH.1.c0,hH.2.1.c0⟩ (fun ak=>?_);clear hK' K' aq;have aq:=ak;clear ak hb;generalize (u2.alloc (.cells #[.nilFunc] 140))=u3 at *;generalize u2.heap.size=od at *;refine aF [9] (cA ?_ aD);intro K' hK';go_simp;refine(xO.o _ d cd (HS.o.aa hH.2.2.2.2) (vL.o.aa hH.2.2.2.2)).af ?_;rintro e u4 ⟨f,rfl,b6,hb⟩;obtain⟨fb,rfl⟩:=b6.shape;replace hH:=hH.step hb;replace hi:=hi.aa hb;replace bL:=bL.aa hb;replace h10:=aZ h10 hb;replace h11:=aZ h11 hb;refine hK'.o _ _ ⟨hH.1.c0,hH.2.1.c0⟩ (fun ak=>?_);clear hK' K' aq;have aq:=ak;clear ak hb;generalize u3.heap.size=nb at b6;generalize u4.heap.size=mb at b6
    rotate_left 2
    focus
     intro K' hK';go_simp;have hb:Below u1.heap.size u1 (u1.alloc (.cells #[.nilFunc] 140)):=(au _ u1).alloc (ar _) _;have h11:Boxed (u1.alloc (.cells #[.nilFunc] 140)) u1.heap.size 140 .nilFunc:=a7 u1 _ _;have tE:=hH.2.2.2.2.size;(have ne:cV≠u1.heap.size:=by have:=h10.lt;omega);replace hH:=hH.step hb;replace hi:=hi.aa hb;replace h10:=aZ h10 hb;refine hK'.o _ _ ⟨hH.1.c0,hH.2.1.c0⟩ (fun ak=>?_);clear hK' K' aq;have aq:=ak;clear ak hb;generalize (u1.alloc (.cells #[.nilFunc] 140))=u2 at *;generalize u1.heap.size=od at *;refine aF [4] (cA ?_ aD);intro K' hK';go_simp;refine(LL.o _ d cd (HS.o.aa hH.2.2.2.2) (Ip.o.aa hH.2.2.2.2)).af ?_;rintro e u3 ⟨f,rfl,bL,hb⟩;obtain⟨fa,rfl⟩:=bL.shape;replace hH:=hH.step hb;replace hi:=hi.aa hb;replace h10:=aZ h10 hb;replace h11:=aZ h11 hb;refine hK'.o _ _ ⟨hH.1.c0,hH.2.1.c0⟩ (fun ak=>?_);clear hK' K' aq;have aq:=ak;clear ak hb;generalize u2.heap.size=na at bL;generalize u3.heap.size=ma at bL;refine aF [9] (cA ?_ aD);intro K' hK';go_simp;refine(xO.o _ d cd (HS.o.aa hH.2.2.2.2) (vL.o.aa hH.2.2.2.2)).af ?_;rintro e u4 ⟨f,rfl,b6,hb⟩;obtain⟨fb,rfl⟩:=b6.shape;replace hH:=hH.step hb;replace hi:=hi.aa hb;replace bL:=bL.aa hb;replace h10:=aZ h10 hb;replace h11:=aZ h11 hb;refine hK'.o _ _ ⟨hH.1.c0,hH.2.1.c0⟩ (fun ak=>?_);clear hK' K' aq;have aq:=ak;clear ak hb;generalize u3.heap.size=nb at b6;generalize u4.heap.size=mb at b6
   rotate_left 3
   focus
    intro K' hK';go_simp;have hb:Below u0.heap.size u0 (u0.alloc (.cells #[.nilFunc] 140)):=(au _ u0).alloc (ar _) _;have h11:Boxed (u0.alloc (.cells #[.nilFunc] 140)) u0.heap.size 140 .nilFunc:=a7 u0 _ _;have tE:=hH.2.2.2.2.size;replace hH:=hH.step hb;replace hi:=hi.aa hb;refine hK'.o _ _ ⟨hH.1.c0,hH.2.1.c0⟩ (fun ak=>?_);clear hK' K' aq;have aq:=ak;clear ak hb;generalize (u0.alloc (.cells #[.nilFunc] 140))=u1 at *;generalize u0.heap.size=od at *;refine aF [4,10] (cA ?_ (cA ?_ aD))
    focus
     intro K' hK';go_simp;refine(LL.o _ d cd (HS.o.aa hH.2.2.2.2) (Ip.o.aa hH.2.2.2.2)).af ?_;rintro e u2 ⟨f,rfl,bL,hb⟩;obtain⟨fa,rfl⟩:=bL.shape;replace hH:=hH.step hb;replace hi:=hi.aa hb;replace h11:=aZ h11 hb;refine hK'.o _ _ ⟨hH.1.c0,hH.2.1.c0⟩ (fun ak=>?_);clear hK' K' aq;have aq:=ak;clear ak hb;generalize u1.heap.size=na at bL;generalize u2.heap.size=ma at bL;refine aF [9,10] (cA ?_ (cA ?_ aD))
     focus
      intro K' hK';go_simp;refine(xO.o _ d cd (HS.o.aa hH.2.2.2.2) (vL.o.aa hH.2.2.2.2)).af ?_;rintro e u3 ⟨f,rfl,b6,hb⟩;obtain⟨fb,rfl⟩:=b6.shape;replace hH:=hH.step hb;replace hi:=hi.aa hb;replace bL:=bL.aa hb;replace h11:=aZ h11 hb;refine hK'.o _ _ ⟨hH.1.c0,hH.2.1.c0⟩ (fun ak=>?_);clear hK' K' aq;have aq:=ak;clear ak hb;generalize u2.heap.size=nb at b6;generalize u3.heap.size=mb at b6;refine aF [10] (cA ?_ aD);intro K' hK';go_simp;have hb:Below u3.heap.size u3 (u3.alloc (.cells #[.nilFunc] 140)):=(au _ u3).alloc (ar _) _;have h10:Boxed (u3.alloc (.cells #[.nilFunc] 140)) u3.heap.size 140 .nilFunc:=a7 u3 _ _;have bI:=hH.2.2.2.2.size;(have ne:od≠u3.heap.size:=by have:=h11.lt;omega);replace hH:=hH.step hb;replace hi:=hi.aa hb;replace bL:=bL.aa hb;replace b6:=b6.aa hb;replace h11:=aZ h11 hb;refine hK'.o _ _ ⟨hH.1.c0,hH.2.1.c0⟩ (fun ak=>?_);clear hK' K' aq;have aq:=ak;clear ak hb;generalize (u3.alloc (.cells #[.nilFunc] 140))=u4 at *;generalize u3.heap.size=cV at *
     rotate_left
     focus
      intro K' hK';go_simp;have hb:Below u2.heap.size u2 (u2.alloc (.cells #[.nilFunc] 140)):=(au _ u2).alloc (ar _) _;have h10:Boxed (u2.alloc (.cells #[.nilFunc] 140)) u2.heap.size 140 .nilFunc:=a7 u2 _ _;have bI:=hH.2.2.2.2.size;(have ne:od≠u2.heap.size:=by have:=h11.lt;omega);replace hH:=hH.step hb;replace hi:=hi.aa hb;replace bL:=bL.aa hb;replace h11:=aZ h11 hb;refine hK'.o _ _ ⟨hH.1.c0,hH.2.1.c0⟩ (fun ak=>?_);clear hK' K' aq;have aq:=ak;clear ak hb;generalize (u2.alloc (.cells #[.nilFunc] 140))=u3 at *;generalize u2.heap.size=cV at *;refine aF [9] (cA ?_ aD);intro K' hK';go_simp;refine(xO.o _ d cd (HS.o.aa hH.2.2.2.2) (vL.o.aa hH.2.2.2.2)).af ?_;rintro e u4 ⟨f,rfl,b6,hb⟩;obtain⟨fb,rfl⟩:=b6.shape;replace hH:=hH.step hb;replace hi:=hi.aa hb;replace bL:=bL.aa hb;replace h10:=aZ h10 hb;replace h11:=aZ h11 hb;refine hK'.o _ _ ⟨hH.1.c0,hH.2.1.c0⟩ (fun ak=>?_);clear hK' K' aq;have aq:=ak;clear ak hb;generalize u3.heap.size=nb at b6;generalize u4.heap.size=mb at b6
    rotate_left 2
    focus
     intro K' hK';go_simp;have hb:Below u1.heap.size u1 (u1.alloc (.cells #[.nilFunc] 140)):=(au _ u1).alloc (ar _) _;have h10:Boxed (u1.alloc (.cells #[.nilFunc] 140)) u1.heap.size 140 .nilFunc:=a7 u1 _ _;have bI:=hH.2.2.2.2.size;(have ne:od≠u1.heap.size:=by have:=h11.lt;omega);replace hH:=hH.step hb;replace hi:=hi.aa hb;replace h11:=aZ h11 hb;refine hK'.o _ _ ⟨hH.1.c0,hH.2.1.c0⟩ (fun ak=>?_);clear hK' K' aq;have aq:=ak;clear ak hb;generalize (u1.alloc (.cells #[.nilFunc] 140))=u2 at *;generalize u1.heap.size=cV at *;refine aF [4] (cA ?_ aD);intro K' hK';go_simp;refine(LL.o _ d cd (HS.o.aa hH.2.2.2.2) (Ip.o.aa hH.2.2.2.2)).af ?_;rintro e u3 ⟨f,rfl,bL,hb⟩;obtain⟨fa,rfl⟩:=bL.shape;replace hH:=hH.step hb;replace hi:=hi.aa hb;replace h10:=aZ h10 hb;replace h11:=aZ h11 hb;refine hK'.o _ _ ⟨hH.1.c0,hH.2.1.c0⟩ (fun ak=>?_);clear hK' K' aq;have aq:=ak;clear ak hb;generalize u2.heap.size=na at bL;generalize u3.heap.size=ma at bL;refine aF [9] (cA ?_ aD);intro K' hK';go_simp;refine(xO.o _ d cd (HS.o.aa hH.2.2.2.2) (vL.o.aa hH.2.2.2.2)).af ?_;rintro e u4 ⟨f,rfl,b6,hb⟩;obtain⟨fb,rfl⟩:=b6.shape;replace hH:=hH.step hb;replace hi:=hi.aa hb;replace bL:=bL.aa hb;replace h10:=aZ h10 hb;replace h11:=aZ h11 hb;refine hK'.o _ _ ⟨hH.1.c0,hH.2.1.c0⟩ (fun ak=>?_);clear hK' K' aq;have aq:=ak;clear ak hb;generalize u3.heap.size=nb at b6;generalize u4.heap.size=mb at b6
   all_goals
    have c10:=h10.cell;have f10:=h10.frozen;refine aF [12] (cA ?_ aD);intro K' hK';go_simp;replace hH:=hH.nil (slv _ _ _) (slv _ _ _) h10 bI (.func (.func 234) #[] fa);replace hi:=S0 h10 hi (.func (.func 234) #[] fa);replace bL:=bL.nil h10 (.func (.func 234) #[] fa);replace b6:=b6.nil h10 (.func (.func 234) #[] fa);replace h11:=eO h11 cV 0 (.func (.func 234) #[] fa) (by omega);replace h10:=h10.set (.func (.func 234) #[] fa);clear c10 f10;generalize (u4.setCell ⟨cV,0,none⟩ (.func (.func 234) #[] fa))=v1 at *;refine hK'.o _ _ ⟨hH.1.c0,hH.2.1.c0⟩ (fun ak=>?_);clear hK' K' aq;have aq:=ak;clear ak;have c11:=h11.cell;have f11:=h11.frozen;refine aF [13] (cA ?_ aD);intro K' hK';go_simp;replace hH:=hH.nil (slv _ _ _) (slv _ _ _) h11 tE (.func (.func 234) #[] fb);replace hi:=S0 h11 hi (.func (.func 234) #[] fb);replace bL:=bL.nil h11 (.func (.func 234) #[] fb);replace b6:=b6.nil h11 (.func (.func 234) #[] fb);replace h10:=eO h10 od 0 (.func (.func 234) #[] fb) (by omega);replace h11:=h11.set (.func (.func 234) #[] fb);clear c11 f11;generalize (v1.setCell ⟨od,0,none⟩ (.func (.func 234) #[] fb))=v2 at *;refine hK'.o _ _ ⟨hH.1.c0,hH.2.1.c0⟩ (fun _=>dW (by kernel_rfl) ?_ _);clear hK' K' aq;go_wp2_with fail
    have sq:=K8 a d ca cd sizes U 208 #[.pointer (some ⟨w.heap.size,0,none⟩),.pointer (some ⟨cV,0,none⟩),.pointer (some ⟨w.heap.size+1,0,none⟩),.pointer (some ⟨od,0,none⟩)] (enters_of Tryz.func208 (by kernel_rfl) rfl) FL v2 (HS.o.aa hH.2.2.2.2) hi bC.o oU.o kz.o (fun k hk V hb=>by
     rw[BQ.o k hk];(have dH:k<cnt (ag sizes) (ag U):=by rw[<- kz.o];exact hk);have hB:=hH.2.2.2.2.trans (hb.af hH.2.2.2.2.size);refine agp w.heap.size cV (w.heap.size+1) od c c' cc kp fa fb la lb k _ _ (LX.o k dH) (sX.o k dH) V (aR hH.1.lt hb.size) ((hb.cell (p:=⟨w.heap.size,1,none⟩) hH.1.lt).trans hH.1.c1) (aR h10.lt hb.size) (aZ h10 hb).cell (aR hH.2.1.lt hb.size) ((hb.cell (p:=⟨w.heap.size+1,1,none⟩) hH.2.1.lt).trans hH.2.1.c1) (aR h11.lt hb.size) (aZ h11 hb).cell (zJ.o.aa hB) (HFB.o.aa hB) HWA.o LG.o ?_ ?_
     ·intro V' hb';have hb2:=hb.trans (hb'.af hb.size);exact(bL.aa hb2).calls (HS.o.aa (hB.trans (hb'.af hB.size))) (hi.aa hb2) bC.o oU.o HUA.o dH
     ·intro V' hb';have hb2:=hb.trans (hb'.af hb.size);exact(b6.aa hb2).calls (HS.o.aa (hB.trans (hb'.af hB.size))) (hi.aa hb2) bC.o oU.o HUB.o dH)
    have BP:=hid sq;clear sq;refine BP.o.af ?_;rintro e w9 ⟨G,rfl,hG,hrow,vu⟩;have Ho:=hH.2.2.1.lt;replace hH:=hH.step vu;replace hi:=hi.aa vu;have hNR:NR w w9 w.heap.size (w.heap.size+1+1) (.slice b va.length cb) (.slice c la.length cc):=⟨hH.1,hH.2.2.1,hH.2.2.2.2⟩;obtain⟨k0,k1,f0,f1⟩:=hH.2.2.1.facts;obtain⟨e1,e2,e3⟩:=hNR.fin (by omega) (cb:=cd) (cc:=FL.length) BR.o (by omega) hi hrow (by omega) (.slice d U.length cd) (.slice (some ⟨G,0,none⟩) FL.length FL.length) rfl rfl;go_wp2;refine bB (e1.result2 rfl _ rfl) rfl ?_;exact⟨e2,e3⟩
theorem yD (S:List Nat) {g:Nat ->Nat}:∀ {vs:List Nat},(∀u∈vs,f u=g u) ->pos S f vs=pos S g vs:=by
 intro vs h
 have key:∀(vs:List Nat) (k:Nat),(∀u∈vs,f u=g u) ->vs.foldl (fun k v=>k*sz S v+f v) k=vs.foldl (fun k v=>k*sz S v+g v) k:=by
  intro vs;induction vs with
  |nil=>intro k _;rfl
  |cons v vs ih=>
   intro k h;rw[Ef,Ef,h v dJ,ih _ fun u hu=>h u (eE _ hu)]
 exact key vs 0 h
theorem G7 (S:List Nat) (f:Nat ->Nat) (v:Nat) (vs:List Nat):pos S f (v::vs)=f v*cnt S vs+pos S f vs:=by
 show vs.foldl (fun k v=>k*sz S v+f v) (0*sz S v+f v)=_;rw[O5 S f vs,jw,bT]
theorem Dl (hp:Pos S) (hf:∀u,f u<sz S u):∀ {vs:List Nat},vs.Nodup ->∀u∈vs,aO S vs (pos S f vs) u=f u
 |[],_,u,hu=>by cases hu
 |v::vs,hn,u,hu=>by
  rw[pP] at hn;have hlt:=p3 f hf vs;have hc:=zg hp vs;rw[G7,aO];by_cases e:u=v
  ·rw[ay e,e,dp,Nat.mul_add_div hc,ym hlt,fH]
  ·rw[az e,dp,Nat.mul_add_mod,jM hlt];exact Dl hp hf hn.2 u ((dK.1 hu).resolve_left e)
theorem Pr (g:Nat ->Fr) (h:k<n):bA ((List.range n).map g) k=g k:=by
 rw[pz (by simpa using h)];simp
def Er (most:Bool) (p q:Rat):Rat:=if most then(if p<q then q else p) else p+q
def jz (most:Bool) (g:Nat ->Rat):Nat ->Rat
 |0=>g 0
 |k+1=>Er most (jz most g k) (g (k+1))
theorem Pm:cQ p q<0↔p<q:=by
 rw[cQ];by_cases h:p<q
 ·rw[ay h];exact⟨fun _=>h,fun _=>by decide⟩
 ·rw[az h];by_cases e:p=q
  ·rw[ay e];exact⟨fun h=>absurd h (by decide),fun h'=>absurd h' h⟩
  ·rw[az e];exact⟨fun h=>absurd h (by decide),fun h'=>absurd h' h⟩
theorem ab1 (most:Bool) (T:Nat ->Fr):∀k,aT (lr most T k)=jz most (fun x=>aT (T x)) k
 |0=>rfl
 |k+1=>by
  rw[lr,jz, <- ab1 most T k];cases most with
  |false=>simp only[Er,Bool.false_eq_true,if_false];exact qQ _
  |true=>
   simp only[Er,if_true,great];by_cases h:cQ (aT (lr true T k)) (aT (T (k+1)))<0
   ·rw[ay h,ay (Pm.1 h)]
   ·rw[az h,az fun e=>h (Pm.2 e)]
theorem NJ (most:Bool) {g h:Nat ->Rat}:∀ {k:Nat},(∀x,x<=k ->g x=h x) ->jz most g k=jz most h k
 |0,e=>e 0 (ar _)
 |k+1,e=>by rw[jz,jz,NJ most fun x hx=>e x (by omega),e (k+1) (ar _)]
theorem M7 (f:Nat ->Nat) {u:Nat} (x y:Nat) (h:u≠v):aQ (aQ f v x) u y=aQ (aQ f u y) v x:=by
 funext z
 simp only[aQ];by_cases e:z=u
 ·rw[ay e,az (by omega),ay e]
 ·rw[az e,az e]
theorem ZK {vars rest:List Nat} (hp:Pos S) (hr:rest.Nodup) (hv:∀u∈vars,u=v∨u∈rest) (most:Bool) (l:List Fr) (hf:∀u,f u<sz S u):
  aT (bA (qL S vars rest v most l) (pos S f rest))=jz most (fun x=>aT (bA l (pos S (aQ f v x) vars))) (sz S v - 1):=by
 rw[qL,Pr _ (p3 f hf rest),qQ,ab1];refine NJ most fun x _=>?_;rw[yD S (f:=aQ (aO S rest (pos S f rest)) v x) (g:=aQ f v x)];intro u hu;simp only[aQ];by_cases e:u=v
 ·rw[ay e,ay e]
 ·rw[az e,az e];exact Dl hp hf hr u ((hv u hu).resolve_left e)
theorem agn {va vb U:List Nat} (hp:Pos S) (hr:U.Nodup) (uW:∀u∈va,u∈U) (tK:∀u∈vb,u∈U) (la lb:List Fr) (hf:∀u,f u<sz S u):
  aT (bA (uM S va vb U la lb) (pos S f U))=aT (bA la (pos S f va))*aT (bA lb (pos S f vb)):=by
 rw[uM,Pr _ (p3 f hf U),qQ,yD S (f:=aO S U (pos S f U)) (g:=f) fun u hu=>Dl hp hf hr u (uW u hu),yD S (f:=aO S U (pos S f U)) (g:=f) fun u hu=>Dl hp hf hr u (tK u hu)]
def Sml (s:Nat) (l:List Fr):Prop:=∀f∈l,∃q,f=qF q/\qw q<=s
structure TL (sizes vars:List Int) (l:List Fr) (s:Nat):Prop where
 up:Up vars sizes.length
 len:l.length=cnt (ag sizes) (ag vars)
 sml:Sml s l
def PC (a:Option Addr) (ca:Nat) (sizes V:List Int) (L:List Fr) (U:List Int) (M:List Fr) (V':List Int) (L':List Fr):Prop:=
 ∀(W:World) (b c b' c':Option Addr) (cb cc fD kp:Nat),ax W a sizes ->ax W b V ->bZ W c L ->ax W b' U ->bZ W c' M ->(b=none ->cb=0) ->(b'=none ->fD=0) ->
  Calls Tryz.prog 161 #[.slice a sizes.length ca,.agg #[.slice b V.length cb,.slice c L.length cc],.agg #[.slice b' U.length fD,.slice c' M.length kp]] W fun e w'=>qU V' L' 0 e w'/\Below W.heap.size W w'
theorem aiw {x v:Int}:x∈bw l v↔x∈l/\x≠v:=by simp[bw]
theorem Cy (h:Up vars n) (u:Nat):∀x∈ag vars,x=u∨x∈ag (bw vars (u:Int)):=by
 intro x hx;obtain⟨y,hy,rfl⟩:=bs.1 hx;have h1:=(pV.1 h).1 y hy;by_cases e:y=(u:Int)
 ·left;omega
 ·exact .inr (bs.2 ⟨y,aiw.2 ⟨hy,e⟩,rfl⟩)
theorem ahG (Bt Bs:Nat) (c:Option Addr) (cc:Nat) (l:List Fr) (s:Rat) (k:Nat) (hk:k<l.length) (w:World) (ub:Bt<w.heap.size) (xc:w.cell? ⟨Bt,1,none⟩=some (.slice c l.length cc)) (hs:aC w Bs (aH s) (nu s) (de s)) (hf:bZ w c l) (h1:l[k].2.1.size+l[k].2.2.size<=100000) (h2:(nu s).size+(de s).size<=100000):
  Calls Tryz.prog 90 #[.int .i64 (k:Nat),.pointer (some ⟨Bt,0,none⟩),.pointer (some ⟨Bs,0,none⟩)] w fun e w'=>e=.returned (dP (qF (aT l[k]*s)))/\Below w.heap.size w w':=by
 obtain⟨g,o,rfl,hg,a0,a1,a2⟩:=hf k hk;have HC:=hid (fun V:World=>acd (w:=V) (aT l[k]*s) rfl (gC s) rfl h1 h2);rw[K4];generalize aT l[k]*s=r at *;clear hf h1 h2;generalize l[k]=f at *;obtain⟨fn,fx,fy⟩:=f;simp only at a0 a1 a2 HC;obtain⟨z0,z1,z2, -⟩:=hs.facts;have xq:=hs.lt;clear hs;have hb0:aC (w.alloc (FC false ⟨#[]⟩ ⟨#[]⟩)) w.heap.size false ⟨#[]⟩ ⟨#[]⟩:=aC.new w _ _ _;have hB:Below w.heap.size w (w.alloc (FC false ⟨#[]⟩ ⟨#[]⟩)):=(au _ w).alloc (ar _) _;go_enter Tryz.func90,Tryz.ntmps90;go_upto_region 1 with fail
 generalize (w.alloc (FC false ⟨#[]⟩ ⟨#[]⟩))=W at *;replace hb0:=hb0.drew;replace hB:=hB.drew;have held:∀u,Below w.heap.size w u ->u.cell? ⟨Bt,1,none⟩=some (.slice (some ⟨g,o,none⟩) l.length cc)/\u.cell? ⟨g,o+k*3,none⟩=some (.bool fn)/\u.cell? ⟨g,o+k*3+1,none⟩=some (.string fx)/\u.cell? ⟨g,o+k*3+2,none⟩=some (.string fy)/\u.cell? ⟨Bs,0,none⟩=some (.bool (aH s))/\u.cell? ⟨Bs,1,none⟩=some (.string (nu s))/\u.cell? ⟨Bs,2,none⟩=some (.string (de s)):=fun u h=>⟨(h.cell (p:=⟨Bt,1,none⟩) ub).trans xc,(h.cell (p:=⟨g,_,none⟩) hg).trans a0,(h.cell (p:=⟨g,_,none⟩) hg).trans a1,(h.cell (p:=⟨g,_,none⟩) hg).trans a2,(h.cell (p:=⟨Bs,0,none⟩) xq).trans z0,(h.cell (p:=⟨Bs,1,none⟩) xq).trans z1,(h.cell (p:=⟨Bs,2,none⟩) xq).trans z2⟩;have HELD:=hid held;clear held a0 a1 a2 z0 z1 z2 xc;refine jJ (S:=fun u=>u.cell? ⟨Bt,1,none⟩=some (.slice (some ⟨g,o,none⟩) l.length cc)/\u.cell? ⟨g,o+k*3,none⟩=some (.bool fn)/\u.cell? ⟨g,o+k*3+1,none⟩=some (.string fx)/\u.cell? ⟨g,o+k*3+2,none⟩=some (.string fy)/\u.cell? ⟨Bs,0,none⟩=some (.bool (aH s))/\u.cell? ⟨Bs,1,none⟩=some (.string (nu s))/\u.cell? ⟨Bs,2,none⟩=some (.string (de s))) (by kernel_rfl) (HELD.o _ hB) (fun aq=>?_);generalize W.drew=u0 at *;refine aw 0 (.pointer (some ⟨Bt,1,none⟩)) ?_;refine aw 1 (.slice (some ⟨g,o,none⟩) l.length cc) ?_;refine aw 2 (.int .i64 (k:Nat)) ?_;refine aw 3 (.pointer (some ⟨g,o+k*3,none⟩)) ?_;refine aw 4 (.agg #[.bool fn,.string fx,.string fy]) ?_;refine aw 5 (.agg #[.bool (aH s),.string (nu s),.string (de s)]) ?_
 refine aF [6] (cA ?_ aD);intro K' hK';go_simp;refine(HC.o _).af ?_;rintro e u1 ⟨rfl,hb⟩;replace hb0:=hb0.aa hb hb0.lt;replace hB:=hB.trans (hb.af hB.size);refine hK'.o _ _ (HELD.o _ hB) (fun ak=>?_);clear hK' K' aq;have aq:=ak;clear ak hb;try simp only[gE,aP]
 obtain⟨k0,k1,k2,f0,f1,f2⟩:=hb0.facts;refine aF [7] (cA ?_ aD);intro K' hK';go_simp;have hput:=hb0.put (aH r) (nu r) (de r);have oL:=bF hB (g:=w.heap.size) (ar _) (.bool (aH r)) (.string (nu r)) (.string (de r));generalize (((u1.setCell ⟨w.heap.size,0,none⟩ (.bool (aH r))).setCell ⟨w.heap.size,1,none⟩ (.string (nu r))).setCell ⟨w.heap.size,2,none⟩ (.string (de r)))=v9 at *;refine hK'.o _ _ (HELD.o _ oL) (fun _=>dW (by kernel_rfl) ?_ _);clear hK' K' aq;go_wp2;refine bB (hput.result rfl _ rfl) rfl ?_;exact⟨rfl,oL⟩
theorem aaf (l:List Fr):(iu l).length=l.length:=by simp[iu]
theorem ahF (l:List Fr) (h:k<(iu l).length):(iu l)[k]=qF (aT (l[k]'(by rw[aaf] at h;exact h))*(1/aV l)):=by simp[iu]
theorem agk (h:q≠0):qw (1/q)<=qw q+1:=by
 have e:val (aH q) (nu q) (de q)≠0:=by rw[gC];exact h
 have h0:=fun h=>e (Jn.2 h);have e1:1/q=val (aH q) (de q) (nu q):=by rw[Q6 _ _ _ (fun h=>h0 (.inl h)) (fun h=>h0 (.inr h)),gC,D8,vZ]
 rw[e1];refine aS (Cq _ _ _) ?_;show (B q.den).size+(B q.num.natAbs).size+1<=qw q+1;rw[qw];omega
theorem aey (a b c:Option Addr) (ca cb cc:Nat) (sizes vars:List Int) (l:List Fr) (w:World) (hs:ax w a sizes) (hv:ax w b vars) (hf:bZ w c l) (hn:sizes.length<=140737488355328) (hm:vars.length<=140737488355328) (hk:jr sizes vars l.length=0) (hw:∀k (h:k<l.length),l[k].2.1.size+l[k].2.2.size<=40000) (o8:∀k,k<=l.length ->qw (aV (l.take k))<=40000) (dh:l.length<=10000) (hz:aV l=0):
  Calls Tryz.prog 41 #[.slice a sizes.length ca,.agg #[.slice b vars.length cb,.slice c l.length cc]] w fun e w'=>qU [] [] 3 e w'/\Below w.heap.size w w':=by
 obtain⟨aJ,aX,hlc⟩:=xC hk;have hq:=o8 l.length (ar _);rw[fJ] at hq;have ee:=fun V h1 h2=>Cm a b c ca cb cc l.length sizes vars V h1 h2 hn hm;rw[hk] at ee;have ee:=hid ee;have kR:=hid (fun V h=>UZ c cc l V h hw o8 dh);have HO:=hid (fun V:World=>Lb (k:=1) (w:=V) 1 1 rfl (by decide) (by rfl));have HS:=hid hs;have HV:=hid hv;have HF:=hid hf;have HD:=hid (fun V:World=>ak3 (n:=aH 1) (x:=nu 1) (y:=de 1) (w:=V) ((gC (aV l)).trans hz));clear hs hv hf hn hm hk hw o8 hlc aX aJ hz;obtain⟨dn,EZ⟩:∃d,false=d:=⟨_,rfl⟩;obtain⟨dx,Ky⟩:∃d:ByteArray,⟨#[]⟩=d:=⟨_,rfl⟩;obtain⟨dy,Kw⟩:∃d:ByteArray,⟨#[]⟩=d:=⟨_,rfl⟩
 have vW:Hid (∀V:World,Calls Tryz.prog 87 #[.agg #[.bool (aH 1),.string (nu 1),.string (de 1)],.agg #[.bool (aH (aV l)),.string (nu (aV l)),.string (de (aV l))]] V fun e w'=>e=.returned (.tuple #[.agg #[.bool dn,.string dx,.string dy],.int .i64 3])/\Below V.heap.size V w'):=by
  rw[<- EZ, <- Ky, <- Kw];exact HD
 clear HD EZ Ky Kw;have HD:=vW;clear vW;obtain⟨dk,E0⟩:∃d:Int,3=d:=⟨_,rfl⟩;rw[E0] at HD;have KA:(dk==0)=false:=by rw[<- E0];rfl
 have kK:¬dk=0:=by omega
 have hH:=NH.new w (.slice b vars.length cb) (.slice c l.length cc);have c0:=hH.1.c0;have c1:=hH.1.c1;go_enter Tryz.func41,Tryz.ntmps41;go_wp2_with fail
 generalize ((w.alloc (TC (.slice b vars.length cb) (.slice c l.length cc))).alloc (TC (.slice none 0 0) (.slice none 0 0)))=W at *;refine(ee.o _ (HS.o.aa hH.2.2) (HV.o.aa hH.2.2)).af ?_;rintro e w1 ⟨rfl,hb1⟩;replace hH:=hH.step hb1;clear c0 c1 hb1 ee;go_upto_region 4 with fail
 replace hH:=hH.drew;refine jJ (S:=fun u=>u.cell? ⟨w.heap.size,1,none⟩=some (.slice c l.length cc)) (by kernel_rfl) hH.1.c1 (fun aq=>?_);generalize w1.drew=u0 at *;refine aw 1 (.pointer (some ⟨w.heap.size,1,none⟩)) ?_;refine aw 2 (.slice c l.length cc) ?_;refine aF [0,8] (cA ?_ (cA ?_ aD))
 focus
  intro K' hK';go_simp;refine(HO.o _).af ?_;rintro e u1 ⟨rfl,hb⟩;replace hH:=hH.step hb;refine hK'.o _ _ hH.1.c1 (fun ak=>?_);clear hK' K' aq;have aq:=ak;clear ak hb;refine aF [3,8] (cA ?_ (cA ?_ aD))
  focus
   intro K' hK';go_simp;refine(kR.o _ (HF.o.aa hH.2.2)).af ?_;rintro e u2 ⟨rfl,hb⟩;replace hH:=hH.step hb;refine hK'.o _ _ hH.1.c1 (fun ak=>?_);clear hK' K' aq;have aq:=ak;clear ak hb;refine aF [4,8] (cA ?_ (cA ?_ aD))
   focus
    intro K' hK';go_simp;refine(HD.o _).af ?_;rintro e u3 ⟨rfl,hb⟩;replace hH:=hH.step hb;refine hK'.o _ _ hH.1.c1 (fun ak=>?_);clear hK' K' aq;have aq:=ak;clear ak hb;refine aw 5 (.tuple #[.agg #[.bool dn,.string dx,.string dy],.int .i64 dk]) ?_;refine aw 6 (.agg #[.bool dn,.string dx,.string dy]) ?_;refine aw 7 (.int .i64 dk) ?_;refine aF [8] (cA ?_ aD);intro K' hK';go_simp;have hb:Below u3.heap.size u3 (u3.alloc (FC false ⟨#[]⟩ ⟨#[]⟩)):=(au _ u3).alloc (ar _) _;have h7:aC (u3.alloc (FC false ⟨#[]⟩ ⟨#[]⟩)) u3.heap.size false ⟨#[]⟩ ⟨#[]⟩:=aC.new u3 _ _ _;have l7:=hH.lt;replace hH:=hH.step hb;refine hK'.o _ _ hH.1.c1 (fun ak=>?_);clear hK' K' aq;have aq:=ak;clear ak hb;generalize (u3.alloc (FC false ⟨#[]⟩ ⟨#[]⟩))=u4 at *;generalize u3.heap.size=B7 at *
   rotate_left
   focus
    intro K' hK';go_simp;have hb:Below u2.heap.size u2 (u2.alloc (FC false ⟨#[]⟩ ⟨#[]⟩)):=(au _ u2).alloc (ar _) _;have h7:aC (u2.alloc (FC false ⟨#[]⟩ ⟨#[]⟩)) u2.heap.size false ⟨#[]⟩ ⟨#[]⟩:=aC.new u2 _ _ _;have l7:=hH.lt;replace hH:=hH.step hb;refine hK'.o _ _ hH.1.c1 (fun ak=>?_);clear hK' K' aq;have aq:=ak;clear ak hb;generalize (u2.alloc (FC false ⟨#[]⟩ ⟨#[]⟩))=u3 at *;generalize u2.heap.size=B7 at *;refine aF [4] (cA ?_ aD);intro K' hK';go_simp;refine(HD.o _).af ?_;rintro e u4 ⟨rfl,hb⟩;replace hH:=hH.step hb;replace h7:=h7.aa hb h7.lt;refine hK'.o _ _ hH.1.c1 (fun ak=>?_);clear hK' K' aq;have aq:=ak;clear ak hb;refine aw 5 (.tuple #[.agg #[.bool dn,.string dx,.string dy],.int .i64 dk]) ?_;refine aw 6 (.agg #[.bool dn,.string dx,.string dy]) ?_;refine aw 7 (.int .i64 dk) ?_
  rotate_left 2
  focus
   intro K' hK';go_simp;have hb:Below u1.heap.size u1 (u1.alloc (FC false ⟨#[]⟩ ⟨#[]⟩)):=(au _ u1).alloc (ar _) _;have h7:aC (u1.alloc (FC false ⟨#[]⟩ ⟨#[]⟩)) u1.heap.size false ⟨#[]⟩ ⟨#[]⟩:=aC.new u1 _ _ _;have l7:=hH.lt;replace hH:=hH.step hb;refine hK'.o _ _ hH.1.c1 (fun ak=>?_);clear hK' K' aq;have aq:=ak;clear ak hb;generalize (u1.alloc (FC false ⟨#[]⟩ ⟨#[]⟩))=u2 at *;generalize u1.heap.size=B7 at *;refine aF [3] (cA ?_ aD);intro K' hK';go_simp;refine(kR.o _ (HF.o.aa hH.2.2)).af ?_;rintro e u3 ⟨rfl,hb⟩;replace hH:=hH.step hb;replace h7:=h7.aa hb h7.lt;refine hK'.o _ _ hH.1.c1 (fun ak=>?_);clear hK' K' aq;have aq:=ak;clear ak hb;refine aF [4] (cA ?_ aD);intro K' hK';go_simp;refine(HD.o _).af ?_;rintro e u4 ⟨rfl,hb⟩;replace hH:=hH.step hb;replace h7:=h7.aa hb h7.lt;refine hK'.o _ _ hH.1.c1 (fun ak=>?_);clear hK' K' aq;have aq:=ak;clear ak hb;refine aw 5 (.tuple #[.agg #[.bool dn,.string dx,.string dy],.int .i64 dk]) ?_;refine aw 6 (.agg #[.bool dn,.string dx,.string dy]) ?_;refine aw 7 (.int .i64 dk) ?_
 rotate_left 3
 focus
  intro K' hK';go_simp;have hb:Below u0.heap.size u0 (u0.alloc (FC false ⟨#[]⟩ ⟨#[]⟩)):=(au _ u0).alloc (ar _) _;have h7:aC (u0.alloc (FC false ⟨#[]⟩ ⟨#[]⟩)) u0.heap.size false ⟨#[]⟩ ⟨#[]⟩:=aC.new u0 _ _ _;have l7:=hH.lt;replace hH:=hH.step hb;refine hK'.o _ _ hH.1.c1 (fun ak=>?_);clear hK' K' aq;have aq:=ak;clear ak hb;generalize (u0.alloc (FC false ⟨#[]⟩ ⟨#[]⟩))=u1 at *;generalize u0.heap.size=B7 at *;refine aF [0] (cA ?_ aD);intro K' hK';go_simp;refine(HO.o _).af ?_;rintro e u2 ⟨rfl,hb⟩;replace hH:=hH.step hb;replace h7:=h7.aa hb h7.lt;refine hK'.o _ _ hH.1.c1 (fun ak=>?_);clear hK' K' aq;have aq:=ak;clear ak hb;refine aF [3] (cA ?_ aD);intro K' hK';go_simp;refine(kR.o _ (HF.o.aa hH.2.2)).af ?_;rintro e u3 ⟨rfl,hb⟩;replace hH:=hH.step hb;replace h7:=h7.aa hb h7.lt;refine hK'.o _ _ hH.1.c1 (fun ak=>?_);clear hK' K' aq;have aq:=ak;clear ak hb;refine aF [4] (cA ?_ aD);intro K' hK';go_simp;refine(HD.o _).af ?_;rintro e u4 ⟨rfl,hb⟩;replace hH:=hH.step hb;replace h7:=h7.aa hb h7.lt;refine hK'.o _ _ hH.1.c1 (fun ak=>?_);clear hK' K' aq;have aq:=ak;clear ak hb;refine aw 5 (.tuple #[.agg #[.bool dn,.string dx,.string dy],.int .i64 dk]) ?_;refine aw 6 (.agg #[.bool dn,.string dx,.string dy]) ?_;refine aw 7 (.int .i64 dk) ?_
 all_goals
  try simp only[gE,aP]
  obtain⟨k0,k1,k2,f0,f1,f2⟩:=h7.facts;refine aF [9] (cA ?_ aD);intro K' hK';go_simp;have h8:=h7.put dn dx dy;replace hH:=((hH.off B7 0 (.bool dn) l7).off B7 1 (.string dx) l7).off B7 2 (.string dy) l7;clear k0 k1 k2 f0 f1 f2 h7;generalize (((u4.setCell ⟨B7,0,none⟩ (.bool dn)).setCell ⟨B7,1,none⟩ (.string dx)).setCell ⟨B7,2,none⟩ (.string dy))=v9 at *;refine hK'.o _ _ hH.1.c1 (fun ak=>?_);clear hK' K' aq;have aq:=ak;clear ak;refine aw 10 (.int .i64 dk) ?_;try simp only[gE,aP]
  refine dW (by kernel_rfl) ?_ _;obtain⟨k0,k1,f0,f1⟩:=hH.2.1.facts;go_wp2;refine bB ((hH.2.1.put _ _).result2 rfl _ rfl) rfl ?_;exact⟨by rw[<- E0];exact qU.empty 3 _,mr hH.2.2 (by omega) _ _⟩
theorem aez (a b c:Option Addr) (ca cb cc:Nat) (sizes vars:List Int) (l:List Fr) (w:World) (hs:ax w a sizes) (hv:ax w b vars) (hf:bZ w c l) (hn:sizes.length<=140737488355328) (hm:vars.length<=140737488355328) (hk:jr sizes vars l.length=0) (hw:∀k (h:k<l.length),l[k].2.1.size+l[k].2.2.size<=40000) (o8:∀k,k<=l.length ->qw (aV (l.take k))<=40000) (dh:l.length<=10000) (hz:aV l≠0):
  Calls Tryz.prog 41 #[.slice a sizes.length ca,.agg #[.slice b vars.length cb,.slice c l.length cc]] w fun e w'=>qU vars (iu l) 0 e w'/\Below w.heap.size w w':=by
 obtain⟨aJ,aX,hlc⟩:=xC hk;have hq:=o8 l.length (ar _);rw[fJ] at hq;have ee:=fun V h1 h2=>Cm a b c ca cb cc l.length sizes vars V h1 h2 hn hm;rw[hk] at ee;have ee:=hid ee;have kR:=hid (fun V h=>UZ c cc l V h hw o8 dh);have HO:=hid (fun V:World=>Lb (k:=1) (w:=V) 1 1 rfl (by decide) (by rfl));have HS:=hid hs;have HV:=hid hv;have HF:=hid hf;have HN:=hid (fun V Bs (k:Nat) (hk:k<l.length) (h1:w.heap.size<V.heap.size) (h2:V.cell? ⟨w.heap.size,1,none⟩=some (.slice c l.length cc)) (h3:aC V Bs (aH (1/aV l)) (nu (1/aV l)) (de (1/aV l))) (h4:bZ V c l)=>ahG w.heap.size Bs c cc l (1/aV l) k hk V h1 h2 h3 h4 (aS (hw k hk) (by decide)) (by have:=agk hz;show qw (1/aV l)<=100000;omega));have HD:=hid (fun V:World=>ak5 (n:=aH 1) (x:=nu 1) (y:=de 1) (w:=V) (1/aV l) (gC 1) (gC (aV l)) hz rfl (show qw 1<=100000 by have:=Cq false (B 1) (B 1);exact aS (by decide+kernel) (ar 100000)) (show qw (aV l)<=100000 by omega));have IJ:Hid (∀(k:Nat) (h:k<(iu l).length) (h':k<l.length),(iu l)[k]=qF (aT l[k]*(1/aV l))):=fun k h _=>ahF l h;have hnl:=aaf l;clear hs hv hf hn hm hk hw o8 hz hq;have bC:=hid aJ;have gz:=hid aX;have HLC:=hid hlc;have S9:=aX.length;have nD:=aJ.eight;clear hlc aX aJ;generalize iu l=NL at *;generalize 1/aV l=r at *;obtain⟨dn,EZ⟩:∃d,aH r=d:=⟨_,rfl⟩;obtain⟨dx,Ky⟩:∃d:ByteArray,nu r=d:=⟨_,rfl⟩;obtain⟨dy,Kw⟩:∃d:ByteArray,de r=d:=⟨_,rfl⟩;rw[EZ,Ky,Kw] at HD HN;clear EZ Ky Kw;obtain⟨dk,E0⟩:∃d:Int,0=d:=⟨_,rfl⟩;rw[E0] at HD;have KA:(dk==0)=true:=by rw[<- E0];rfl
 clear E0;have hH:=NH.new w (.slice b vars.length cb) (.slice c l.length cc);have c0:=hH.1.c0;have c1:=hH.1.c1;go_enter Tryz.func41,Tryz.ntmps41;go_wp2_with fail
 generalize ((w.alloc (TC (.slice b vars.length cb) (.slice c l.length cc))).alloc (TC (.slice none 0 0) (.slice none 0 0)))=W at *;refine(ee.o _ (HS.o.aa hH.2.2) (HV.o.aa hH.2.2)).af ?_;rintro e w1 ⟨rfl,hb1⟩;replace hH:=hH.step hb1;clear c0 c1 hb1 ee;go_upto_region 4 with fail
 replace hH:=hH.drew;refine jJ (S:=fun u=>u.cell? ⟨w.heap.size,1,none⟩=some (.slice c l.length cc)) (by kernel_rfl) hH.1.c1 (fun aq=>?_);generalize w1.drew=u0 at *;refine aw 1 (.pointer (some ⟨w.heap.size,1,none⟩)) ?_;refine aw 2 (.slice c l.length cc) ?_;refine aF [0,8] (cA ?_ (cA ?_ aD))
 focus
  intro K' hK';go_simp;refine(HO.o _).af ?_;rintro e u1 ⟨rfl,hb⟩;replace hH:=hH.step hb;refine hK'.o _ _ hH.1.c1 (fun ak=>?_);clear hK' K' aq;have aq:=ak;clear ak hb;refine aF [3,8] (cA ?_ (cA ?_ aD))
  focus
   intro K' hK';go_simp;refine(kR.o _ (HF.o.aa hH.2.2)).af ?_;rintro e u2 ⟨rfl,hb⟩;replace hH:=hH.step hb;refine hK'.o _ _ hH.1.c1 (fun ak=>?_);clear hK' K' aq;have aq:=ak;clear ak hb;refine aF [4,8] (cA ?_ (cA ?_ aD))
   focus
    intro K' hK';go_simp;refine(HD.o _).af ?_;rintro e u3 ⟨rfl,hb⟩;replace hH:=hH.step hb;refine hK'.o _ _ hH.1.c1 (fun ak=>?_);clear hK' K' aq;have aq:=ak;clear ak hb;refine aw 5 (.tuple #[.agg #[.bool dn,.string dx,.string dy],.int .i64 dk]) ?_;refine aw 6 (.agg #[.bool dn,.string dx,.string dy]) ?_;refine aw 7 (.int .i64 dk) ?_;refine aF [8] (cA ?_ aD);intro K' hK';go_simp;have hb:Below u3.heap.size u3 (u3.alloc (FC false ⟨#[]⟩ ⟨#[]⟩)):=(au _ u3).alloc (ar _) _;have h7:aC (u3.alloc (FC false ⟨#[]⟩ ⟨#[]⟩)) u3.heap.size false ⟨#[]⟩ ⟨#[]⟩:=aC.new u3 _ _ _;have l7:=hH.lt;replace hH:=hH.step hb;refine hK'.o _ _ hH.1.c1 (fun ak=>?_);clear hK' K' aq;have aq:=ak;clear ak hb;generalize (u3.alloc (FC false ⟨#[]⟩ ⟨#[]⟩))=u4 at *;generalize u3.heap.size=B7 at *
   rotate_left
   focus
    intro K' hK';go_simp;have hb:Below u2.heap.size u2 (u2.alloc (FC false ⟨#[]⟩ ⟨#[]⟩)):=(au _ u2).alloc (ar _) _;have h7:aC (u2.alloc (FC false ⟨#[]⟩ ⟨#[]⟩)) u2.heap.size false ⟨#[]⟩ ⟨#[]⟩:=aC.new u2 _ _ _;have l7:=hH.lt;replace hH:=hH.step hb;refine hK'.o _ _ hH.1.c1 (fun ak=>?_);clear hK' K' aq;have aq:=ak;clear ak hb;generalize (u2.alloc (FC false ⟨#[]⟩ ⟨#[]⟩))=u3 at *;generalize u2.heap.size=B7 at *;refine aF [4] (cA ?_ aD);intro K' hK';go_simp;refine(HD.o _).af ?_;rintro e u4 ⟨rfl,hb⟩;replace hH:=hH.step hb;replace h7:=h7.aa hb h7.lt;refine hK'.o _ _ hH.1.c1 (fun ak=>?_);clear hK' K' aq;have aq:=ak;clear ak hb;refine aw 5 (.tuple #[.agg #[.bool dn,.string dx,.string dy],.int .i64 dk]) ?_;refine aw 6 (.agg #[.bool dn,.string dx,.string dy]) ?_;refine aw 7 (.int .i64 dk) ?_
  rotate_left 2
  focus
   intro K' hK';go_simp;have hb:Below u1.heap.size u1 (u1.alloc (FC false ⟨#[]⟩ ⟨#[]⟩)):=(au _ u1).alloc (ar _) _;have h7:aC (u1.alloc (FC false ⟨#[]⟩ ⟨#[]⟩)) u1.heap.size false ⟨#[]⟩ ⟨#[]⟩:=aC.new u1 _ _ _;have l7:=hH.lt;replace hH:=hH.step hb;refine hK'.o _ _ hH.1.c1 (fun ak=>?_);clear hK' K' aq;have aq:=ak;clear ak hb;generalize (u1.alloc (FC false ⟨#[]⟩ ⟨#[]⟩))=u2 at *;generalize u1.heap.size=B7 at *;refine aF [3] (cA ?_ aD);intro K' hK';go_simp;refine(kR.o _ (HF.o.aa hH.2.2)).af ?_;rintro e u3 ⟨rfl,hb⟩;replace hH:=hH.step hb;replace h7:=h7.aa hb h7.lt;refine hK'.o _ _ hH.1.c1 (fun ak=>?_);clear hK' K' aq;have aq:=ak;clear ak hb;refine aF [4] (cA ?_ aD);intro K' hK';go_simp;refine(HD.o _).af ?_;rintro e u4 ⟨rfl,hb⟩;replace hH:=hH.step hb;replace h7:=h7.aa hb h7.lt;refine hK'.o _ _ hH.1.c1 (fun ak=>?_);clear hK' K' aq;have aq:=ak;clear ak hb;refine aw 5 (.tuple #[.agg #[.bool dn,.string dx,.string dy],.int .i64 dk]) ?_;refine aw 6 (.agg #[.bool dn,.string dx,.string dy]) ?_;refine aw 7 (.int .i64 dk) ?_
 rotate_left 3
 focus
  intro K' hK';go_simp;have hb:Below u0.heap.size u0 (u0.alloc (FC false ⟨#[]⟩ ⟨#[]⟩)):=(au _ u0).alloc (ar _) _;have h7:aC (u0.alloc (FC false ⟨#[]⟩ ⟨#[]⟩)) u0.heap.size false ⟨#[]⟩ ⟨#[]⟩:=aC.new u0 _ _ _;have l7:=hH.lt;replace hH:=hH.step hb;refine hK'.o _ _ hH.1.c1 (fun ak=>?_);clear hK' K' aq;have aq:=ak;clear ak hb;generalize (u0.alloc (FC false ⟨#[]⟩ ⟨#[]⟩))=u1 at *;generalize u0.heap.size=B7 at *;refine aF [0] (cA ?_ aD);intro K' hK';go_simp;refine(HO.o _).af ?_;rintro e u2 ⟨rfl,hb⟩;replace hH:=hH.step hb;replace h7:=h7.aa hb h7.lt;refine hK'.o _ _ hH.1.c1 (fun ak=>?_);clear hK' K' aq;have aq:=ak;clear ak hb;refine aF [3] (cA ?_ aD);intro K' hK';go_simp;refine(kR.o _ (HF.o.aa hH.2.2)).af ?_;rintro e u3 ⟨rfl,hb⟩;replace hH:=hH.step hb;replace h7:=h7.aa hb h7.lt;refine hK'.o _ _ hH.1.c1 (fun ak=>?_);clear hK' K' aq;have aq:=ak;clear ak hb;refine aF [4] (cA ?_ aD);intro K' hK';go_simp;refine(HD.o _).af ?_;rintro e u4 ⟨rfl,hb⟩;replace hH:=hH.step hb;replace h7:=h7.aa hb h7.lt;refine hK'.o _ _ hH.1.c1 (fun ak=>?_);clear hK' K' aq;have aq:=ak;clear ak hb;refine aw 5 (.tuple #[.agg #[.bool dn,.string dx,.string dy],.int .i64 dk]) ?_;refine aw 6 (.agg #[.bool dn,.string dx,.string dy]) ?_;refine aw 7 (.int .i64 dk) ?_
 all_goals
  try simp only[gE,aP]
  obtain⟨k0,k1,k2,f0,f1,f2⟩:=h7.facts;refine aF [9] (cA ?_ aD);intro K' hK';go_simp;have h8:=h7.put dn dx dy;replace hH:=((hH.off B7 0 (.bool dn) l7).off B7 1 (.string dx) l7).off B7 2 (.string dy) l7;clear k0 k1 k2 f0 f1 f2 h7;generalize (((u4.setCell ⟨B7,0,none⟩ (.bool dn)).setCell ⟨B7,1,none⟩ (.string dx)).setCell ⟨B7,2,none⟩ (.string dy))=v9 at *;refine hK'.o _ _ hH.1.c1 (fun ak=>?_);clear hK' K' aq;have aq:=ak;clear ak;refine aw 10 (.int .i64 dk) ?_;try simp only[gE,aP]
  refine dW (by kernel_rfl) ?_ _;have c0:=hH.1.c0;go_wp2_with fail
  refine(Nf b cb vars _ (HV.o.aa hH.2.2) (by omega)).af ?_;rintro e w2 ⟨x,rfl,hr2,hb2⟩;obtain⟨d,cd,rfl,jP⟩:=hr2.ints;clear c0 hr2;replace hH:=hH.step hb2;replace h8:=h8.aa hb2 h8.lt;clear hb2;have hlt:=hH.1.lt;have sq:=K8 a d ca cd sizes vars 90 #[.pointer (some ⟨w.heap.size,0,none⟩),.pointer (some ⟨B7,0,none⟩)] (enters_of Tryz.func90 (by kernel_rfl) rfl) NL w2 (HS.o.aa hH.2.2) jP bC.o gz.o (by rw[hnl];exact HLC.o) (fun k hk V hb=>by rw[IJ.o k hk (by omega)];exact HN.o V B7 k (by omega) (aR hlt hb.size) ((hb.cell (p:=⟨w.heap.size,1,none⟩) hlt).trans hH.1.c1) (h8.aa hb h8.lt) (HF.o.aa (hH.2.2.trans (hb.af hH.2.2.size))));have BP:=hid sq;clear sq;go_wp2_with fail
  refine BP.o.af ?_;rintro e w3 ⟨G,rfl,hG,hrow,hb3⟩;have hl3:=hH.lt;replace hH:=hH.step hb3;replace jP:=jP.aa hb3;obtain⟨k0,k1,f0,f1⟩:=hH.2.1.facts;obtain⟨e1,e2,e3⟩:=hH.fin (cb:=cd) (cc:=l.length) jP hrow (by omega) (.slice d vars.length cd) (.slice (some ⟨G,0,none⟩) l.length l.length) rfl (by rw[hnl]);go_wp2;refine bB (e1.result2 rfl _ rfl) rfl ?_;exact⟨e2,e3⟩
theorem ahK (w:World) (u:Int):ax (w.alloc (.cells #[.int .i64 u] 3)) (some ⟨w.heap.size,0,none⟩) [u]:=fun k hk=>by
 obtain rfl:k=0:=by simp at hk;omega
 exact⟨w.heap.size,0,rfl,by simp,(a7 w _ _).cell⟩
theorem agh (a:Option Addr) (ca n:Nat) (w:World) (hn:n<=1000):
  Calls Tryz.prog 56 #[.slice a n ca] w fun e w'=>∃x,e=.returned x/\cX w' w.heap.size x (iL (List.range n))/\Below w.heap.size w w':=by
 obtain⟨i0,cU,hz0,hz1,hz2⟩:=eT Tryz.infoInt;have HT:=hid (fun i:Nat=>show iL (List.range (i+1))=iL (List.range i)++[(i:Int)] by rw[rT,iL,iL,fY];rfl);have zH:=hid (fun i:Nat=>show (iL (List.range i)).length=i by simp[iL]);have hnil:iL (List.range 0)=[]:=rfl;generalize hg:(fun i:Nat=>iL (List.range i))=F at *;have hF:∀i:Nat,iL (List.range i)=F i:=fun i=>by rw[<- hg]
 simp only[hF] at HT zH hnil⊢;clear hg hF;go_enter Tryz.func56,Tryz.ntmps56;go_wp2_with fail
 go_loopw [3,4] (fun xv iv wr=>∃i:Nat,i<=n/\iv=.int .i64 i/\Hid (cX wr w.heap.size xv (F i))/\Hid (Below w.heap.size w wr)) (fun _ iv _=>n - (intOf iv).toNat)
 case atStart=>exact⟨0,aU _,rfl,by rw[hnil];exact⟨rfl,.inl ⟨rfl,rfl⟩⟩,au _ _⟩
 case round=>
  obtain⟨i,hi,rfl,HR,HB⟩:=hrel;by_cases hlt:i<n
  ·have xW:=hid (zH.o i);have xS:=hid HR.o.own;have ky:Hid (cX (wr.alloc (.cells #[.int .i64 (i:Nat)] 3)) w.heap.size _ (F i)):=I7 HR.o _;have dC:=hid (HB.o.alloc HB.o.size (.cells #[.int .i64 (i:Nat)] 3));have F2:=hid (ahK wr (i:Nat));go_wp2_with (at_builtin;refine GF rfl _ _ rfl w.heap.size _ (F i) [((i:Nat):Int)] rfl ky.o (some ⟨wr.heap.size,0,none⟩) 1 rfl F2.o (fun e=>by cases e) (by rw[xW.o];simp;omega) dC.o.size ?_;intro v' w3 hr3 hg3)
   have jH:=hid hr3;have dU:=hid (dC.o.grown hg3 dC.o.size xS.o);clear hr3 hg3;go_roundw
   case rel=>exact⟨i+1,by omega,by go_num,by rw[HT.o];exact jH,dU⟩
   case measure=>simp[intOf];omega
  ·obtain rfl:i=n:=by omega
   go_wp2;go_ret;exact⟨_,rfl,HR.o,HB.o⟩
def gU (L:List (List Int)) (v:Nat):List Int:=ki (L.getD v []) [(v:Int)]
def gL (V:List Vr) (L:List (List Int)) (R:List (List Fr)) (v:Nat):List Fr:=(List.range (cnt (ah V) (ag (gU L v)))).map fun K=>qF (aT (dF V L R (aO (ah V) (ag (gU L v)) K) v))
theorem Q7 (h:v<n):Up [(v:Int)] n:=pV.2 ⟨fun x hx=>by have:=fX.1 hx;omega,List.pairwise_singleton _ _⟩
def GK (w V:World) (x y z:Value):Prop:=NK w V x y z/\bh V (w.heap.size+1) (.slice none 0 0) (.slice none 0 0)
theorem GK.new (w:World) (x y z:Value):GK w ((w.alloc (NC x y z)).alloc (TC (.slice none 0 0) (.slice none 0 0))) x y z:=⟨(NK.new w x y z).step ((au _ _).alloc (ar _) _),bh.at (by simp) _ _⟩
theorem GK.step {V:World} (h:GK w V x y z) (hb:Below V.heap.size V V'):GK w V' x y z:=⟨h.1.step hb,h.2.aa hb h.2.lt⟩
variable {vs:List Nat}
theorem alC {a b:List Nat} (h:a.Perm b):cnt S a=cnt S b:=by
 induction h with
 |nil=>rfl
 |cons x _ ih=>simp only[cnt,ih]
 |swap x y l=>simp only[cnt];rw[zW]
 |trans _ _ h1 h2=>exact h1.trans h2
theorem aag (h:aW V L R=0) (hv:v<L.length):¬v∈ag L[v]:=by
 rw[aW] at h;by_cases h1:L.length=V.length/\R.length=V.length
 ·rw[ay h1] at h;by_cases h2:bE L=0
  ·rw[bE] at h2;by_cases h3:gB L=true
   ·rw[gB,ia,ia,Az,eJ] at h3;have:=h3.2 v (bG.2 hv);rw[List.getD_eq_getElem?_getD,List.getElem?_eq_getElem hv] at this;simpa using this
   ·rw[az h3] at h2;cases h2
  ·rw[az h2] at h;exact absurd h h2
 ·rw[az h1] at h;cases h
theorem Yu (dG:v<L.length) (aX:Up L[v] n) (hno:¬v∈ag L[v]):(([(v:Int)]++L[v]).mergeSort fun x y=>decide (x<=y))=gU L v:=by
 have Lc:L.getD v []=L[v]:=by rw[List.getD_eq_getElem?_getD,List.getElem?_eq_getElem dG];rfl
 obtain⟨h1,h2⟩:=Jv L[v] [(v:Int)];rw[gU,Lc];have yR:¬(v:Int)∈L[v]:=fun h=>hno (by rw[ag];exact bs.2 ⟨_,h,pT v⟩);have hp:(([(v:Int)]++L[v]).mergeSort fun x y=>decide (x<=y)).Pairwise (fun x y=>decide (x<=y)=true):=List.pairwise_mergeSort (fun a b c h1 h2=>by simp at h1 h2⊢;omega) (fun a b=>by simp;omega) _
 have iy:([(v:Int)]++L[v]).Nodup:=by
  rw[List.singleton_append,pP];exact⟨yR,(pV.1 aX).2.imp fun h=>by omega⟩
 have hn:(([(v:Int)]++L[v]).mergeSort fun x y=>decide (x<=y)).Nodup:=(QL _ _).nodup_iff.2 iy;refine YY ?_ h1 fun x=>?_
 ·rw[Cg];intro i j hi hj CP;have q1:=Cg.1 hp i j hi hj CP;have q2:=Cg.1 hn i j hi hj CP;have q1':=rS q1;omega
 ·rw[List.mem_mergeSort,h2,dz];exact Or.comm
theorem alE (S:List Nat) (dG:v<L.length) (aX:Up L[v] n) (hno:¬v∈ag L[v]):cnt S (ag (gU L v))=cnt S (ag L[v])*sz S v:=by
 rw[<- Yu dG aX hno];have h:(([(v:Int)]++L[v]).mergeSort fun x y=>decide (x<=y)).Perm ([(v:Int)]++L[v]):=QL _ _;have h2:=alC (S:=S) (h.map Int.toNat);rw[ag,h2,fY,gQ,ld,List.singleton_append,cnt,pT,dp];rfl
def yJ (A f:Nat ->Nat) (vs:List Nat) (i:Nat):Nat ->Nat:=fun u=>if u∈vs.take i then f u else A u
theorem ait (A f:Nat ->Nat) (vs:List Nat):yJ A f vs 0=A:=by funext u;simp[yJ]
theorem aiu (A f:Nat ->Nat) (n:Nat) (h:i<vs.length):(pZ n (yJ A f vs i)).set vs[i] (f vs[i])=pZ n (yJ A f vs (i+1)):=by
 rw[aeX];refine aeY fun u _=>?_;rw[aQ,yJ,yJ,fR h];by_cases e:u=vs[i]
 ·rw[ay e,ay (dz.2 (.inr (fX.2 e))),e]
 ·rw[az e];by_cases e2:u∈vs.take i
  ·rw[ay e2,ay (dz.2 (.inl e2))]
  ·rw[az e2,az (fun hh=>by rcases dz.1 hh with hh |hh;exact e2 hh;exact e (fX.1 hh))]
theorem aiv {A:Nat ->Nat} (hA:∀u,¬u∈vs ->A u=0) (hf:∀u,¬u∈vs ->f u=0):yJ A f vs vs.length=f:=by
 funext u
 rw[yJ,fJ];by_cases e:u∈vs
 ·rw[ay e]
 ·rw[az e,hA u e,hf u e]
variable {F:(Nat ->Nat) ->Rat}
def a8 (g:Nat ->Rat):Nat ->Rat
 |0=>0
 |n+1=>a8 g n+g n
theorem l8 {g h:Nat ->Rat}:∀ {n:Nat},(∀x,x< n ->g x=h x) ->a8 g n=a8 h n
 |0,_=>rfl
 |n+1,e=>by rw[a8,a8,l8 fun x hx=>e x (by omega),e n (by omega)]
theorem Rn:∀n,a8 (fun _=>0) n=0
 |0=>rfl
 |n+1=>by rw[a8,Rn n,Ea]
theorem Yg (g h:Nat ->Rat):∀n,a8 (fun x=>g x+h x) n=a8 g n+a8 h n
 |0=>by simp[a8,Ea]
 |n+1=>by
  rw[a8,a8,a8,Yg g h n];rw[MI,MI, <- MI (a8 h n),Rat.add_comm (a8 h n) (g n),MI]
theorem El (c:Rat) (g:Nat ->Rat):∀n,a8 (fun x=>c*g x) n=c*a8 g n
 |0=>by simp[a8,Rat.mul_zero]
 |n+1=>by rw[a8,a8,El c g n,Rat.mul_add]
theorem Yc (g:Nat ->Nat ->Rat) (m:Nat):∀n,a8 (fun x=>a8 (fun y=>g x y) m) n=a8 (fun y=>a8 (fun x=>g x y) n) m
 |0=>by simp only[a8];rw[Rn]
 |n+1=>by
  rw[a8,Yc g m n, <- Yg];rfl
theorem Yd (g:Nat ->Rat) (m:Nat):∀n,a8 g (m+n)=a8 g m+a8 (fun y=>g (m+y)) n
 |0=>by simp[a8,Ea]
 |n+1=>by rw[<- yo,a8,Yd g m n,a8,MI]
theorem Ye (g:Nat ->Rat) (b:Nat):∀a,a8 g (a*b)=a8 (fun x=>a8 (fun y=>g (x*b+y)) b) a
 |0=>by rw[jw];rfl
 |a+1=>by rw[fW,kB,Yd,Ye g b a,a8]
def eV (S:List Nat):List Nat ->((Nat ->Nat) ->Rat) ->(Nat ->Nat) ->Rat
 |[],F,f=>F f
 |v::vs,F,f=>a8 (fun x=>eV S vs F (aQ f v x)) (sz S v)
def over (vs:List Nat) (f g:Nat ->Nat):Nat ->Nat:=fun u=>if u∈vs then g u else f u
theorem ag4 (f g:Nat ->Nat):over [] f g=f:=by funext u;simp[over]
theorem aae (F:(Nat ->Nat) ->Rat):∀(vs:List Nat) (f:Nat ->Nat),vs.Nodup ->a8 (fun k=>F (over vs f (aO S vs k))) (cnt S vs)=eV S vs F f
 |[],f,_=>by
  show 0+F (over [] f _)=F f;rw[ag4,Rat.zero_add]
 |v::vs,f,hn=>by
  rw[pP] at hn;rw[cnt,Ye,eV];refine l8 fun x hx=>?_;rw[<- aae F vs (aQ f v x) hn.2];refine l8 fun y hy=>?_;congr 1
  funext u
  have h1:(x*cnt S vs+y)/cnt S vs=x:=by rw[dp,Nat.mul_add_div (by omega),ym hy,fH]
  have h2:(x*cnt S vs+y) % cnt S vs=y:=by rw[dp,Nat.mul_add_mod,jM hy]
  simp only[over,aO,h1,h2,aQ,dK];by_cases e:u=v
  ·subst e;rw[ay (.inl rfl),ay rfl,az hn.1,ay rfl]
  ·rw[az e];by_cases e2:u∈vs
   ·rw[ay (.inr e2),ay e2]
   ·rw[az (fun h=>h.elim e e2),az e2,az e]
theorem Es {G:(Nat ->Nat) ->Rat} (h:∀g,(∀u,g u<sz S u) ->F g=G g):∀(vs:List Nat) (f:Nat ->Nat),(∀u,f u<sz S u) ->eV S vs F f=eV S vs G f
 |[],f,hf=>h f hf
 |v::vs,f,hf=>by
  rw[eV,eV];refine l8 fun x hx=>Es h vs _ fun u=>?_;rw[aQ];by_cases e:u=v
  ·rw[ay e,e];exact hx
  ·rw[az e];exact hf u
theorem JU (F:(Nat ->Nat) ->Rat) (v:Nat):∀(vs:List Nat) (f:Nat ->Nat),eV S (vs++[v]) F f=eV S vs (fun g=>a8 (fun x=>F (aQ g v x)) (sz S v)) f
 |[],f=>rfl
 |u::vs,f=>by
  rw[fg,eV,eV];exact l8 fun x _=>JU F v vs _
theorem JV (F:(Nat ->Nat) ->Rat) {a b:List Nat} (h:a.Perm b):a.Nodup ->∀f,eV S a F f=eV S b F f:=by
 induction h with
 |nil=>intro _ f;rfl
 |cons x _ ih=>
  intro hn f;rw[pP] at hn;rw[eV,eV];exact l8 fun y _=>ih hn.2 _
 |swap x y l=>
  intro hn f
  have hne:y≠x:=by
   rw[pP] at hn;exact fun e=>hn.1 (by rw[e];exact dJ)
  simp only[eV];rw[Yc];refine l8 fun p _=>l8 fun q _=>?_;rw[M7 f q p (Ne.symm hne)]
 |trans h1 _ ih1 S1=>
  intro hn f;rw[ih1 hn f,S1 (h1.nodup_iff.1 hn) f]
def dA (V:List Vr) (L:List (List Int)) (R:List (List Fr)) (f:Nat ->Nat):List Nat ->Rat
 |[]=>1
 |v::vs=>aT (dF V L R f v)*dA V L R f vs
theorem G4 (V:List Vr) (L:List (List Int)) (R:List (List Fr)) (f:Nat ->Nat) (b:List Nat):∀a,dA V L R f (a++b)=dA V L R f a*dA V L R f b
 |[]=>by rw[iD,dA,vZ]
 |v::a=>by rw[fg,dA,dA,G4 V L R f b a,yj]
theorem JN (V:List Vr) (L:List (List Int)) (R:List (List Fr)) (f:Nat ->Nat):∀n,ji V L R f n=dA V L R f (List.range n)
 |0=>rfl
 |n+1=>by rw[ji,JN V L R f n,rT,G4,dA,dA,zS]
theorem RX {a b:List Nat} (h:a.Perm b):dA V L R f a=dA V L R f b:=by
 induction h with
 |nil=>rfl
 |cons x _ ih=>rw[dA,dA,ih]
 |swap x y l=>simp only[dA];rw[<- yj, <- yj,Rat.mul_comm (aT (dF V L R f y))]
 |trans _ _ h1 h2=>exact h1.trans h2
theorem aaF {u x:Nat} (h1:u≠v) (h2:¬v∈ag (L.getD u [])):dF V L R (aQ f v x) u=dF V L R f u:=by
 rw[dF,dF,p6,p6]
 have e:pos (ah V) (aQ f v x) (ag (L.getD u []))=pos (ah V) f (ag (L.getD u [])):=yD _ fun z hz=>by
  rw[aQ,az];intro e;exact h2 (e▸hz)
 rw[e,aQ,az h1]
theorem JM {x:Nat}:∀ {o:List Nat},(∀u∈o,u≠v/\¬v∈ag (L.getD u [])) ->dA V L R (aQ f v x) o=dA V L R f o
 |[],_=>rfl
 |u::o,h=>by
  obtain⟨h1,h2⟩:=h u dJ;rw[dA,dA,aaF h1 h2,JM fun z hz=>h z (eE _ hz)]
theorem aky:∀(l:List Fr),aV l=a8 (fun x=>aT (bA l x)) l.length:=by
 intro l
 have key:∀n,n<=l.length ->aV (l.take n)=a8 (fun x=>aT (bA l x)) n:=by
  intro n;induction n with
  |zero=>intro _;rfl
  |succ n ih=>
   intro hn;rw[fR (by omega),O3,ih (by omega),a8,pz (by omega)];rfl
 have:=key l.length (ar _);rwa [fJ] at this
theorem row_one (h0:aW V L R=0) (hv:v<V.length) (hf:∀u,f u<sz (ah V) u):a8 (fun x=>aT (dF V L R (aQ f v x) v)) (sz (ah V) v)=1:=by
 have aM:=gD h0;have dG:v<L.length:=by rw[aM.len];exact hv
 have kn:v<R.length:=by rw[aM.lenR];exact hv
 have hno:=aag h0 dG;have hlen:=aM.rows v dG kn;have hp:=p3 f hf (ag L[v])
 have hrow:iJ (fP R[v] (sz (ah V) v) (pos (ah V) f (ag L[v])))=true:=by
  have h1:iO (iI (ah V) L R) V.length=0:=by
   rw[aW] at h0;by_cases h1:L.length=V.length/\R.length=V.length
   ·rw[ay h1] at h0;by_cases h2:bE L=0
    ·rw[ay h2] at h0;by_cases h3:jy V=0
     ·rwa [ay h3] at h0
     ·rw[az h3] at h0;exact absurd h0 h3
    ·rw[az h2] at h0;exact absurd h0 h2
   ·rw[az h1] at h0;exact absurd h0 (by decide)
  have h2:=K7 h1 v hv;rw[iI,List.getD_eq_getElem?_getD,List.getElem?_eq_getElem kn,List.getD_eq_getElem?_getD,List.getElem?_eq_getElem dG] at h2;simp only[zV] at h2;rw[ay hlen] at h2;by_cases h3:((List.range (cnt (ah V) (ag L[v]))).all fun i=>iJ (fP R[v] (sz (ah V) v) i))=true
  ·rw[eJ] at h3;exact h3 _ (bG.2 hp)
  ·rw[az h3] at h2;exact absurd h2 (by decide)
 rw[iJ,ia] at hrow;have hs:aV (fP R[v] (sz (ah V) v) (pos (ah V) f (ag L[v])))=1:=rS hrow.2;have hmul:(pos (ah V) f (ag L[v])+1)*sz (ah V) v<=R[v].length:=by rw[hlen];exact jK _ hp
 have e1:(pos (ah V) f (ag L[v])+1)*sz (ah V) v=pos (ah V) f (ag L[v])*sz (ah V) v+sz (ah V) v:=by rw[fW,kB]
 have hcl:(fP R[v] (sz (ah V) v) (pos (ah V) f (ag L[v]))).length=sz (ah V) v:=by
  rw[fP,eZ,mR];omega
 rw[aky,hcl] at hs;rw[<- hs];refine l8 fun x hx=>?_;rw[JZ dG kn,p6]
 have e2:pos (ah V) (aQ f v x) (ag L[v])=pos (ah V) f (ag L[v]):=yD _ fun z hz=>by
  rw[aQ,az];intro e;exact hno (e▸hz)
 rw[e2,aQ,ay rfl,pz (by omega),pz (by omega)];simp only[fP,Aa,Jg]
theorem NP (P:List (List Nat)):∀k,∀u∈aY P k,∀z∈P.getD u [],z∈aY P k
 |0,u,hu=>by cases hu
 |k+1,u,hu=>by
  rw[aY] at hu⊢;cases e:nj P (aY P k) with
  |none=>
   rw[e] at hu;exact NP P k u hu
  |some v=>
   rw[e] at hu;intro z hz;refine dz.2 (.inl ?_);rcases dz.1 hu with h |h
   ·exact NP P k u h z hz
   ·obtain rfl:=fX.1 h;have wW:gJ P (aY P k) u=true:=List.find?_some e;rw[gJ,ia] at wW;exact rS wW.2 z hz
theorem aab (h0:aW V L R=0):∀k,(aY (aI L) k).length=k ->k<=L.length ->(aY (aI L) k).Nodup/\∀f,(∀u,f u<sz (ah V) u) ->eV (ah V) (aY (aI L) k) (fun g=>dA V L R g (aY (aI L) k)) f=1
 |0,_,_=>⟨List.nodup_nil,fun _ _=>rfl⟩
 |k+1,hl,hk=>by
  have aM:=gD h0;have hln:=Ct (aI L) k;cases e:nj (aI L) (aY (aI L) k) with
  |none=>
   rw[aY,e] at hl;exact absurd hl (by show (aY (aI L) k).length≠_;omega)
  |some v=>
   have e1:=NM e;rw[e1] at hl⊢;rw[dM,MO] at hl;obtain⟨hn,hs⟩:=aab h0 k (by omega) (by omega);have wW:gJ (aI L) (aY (aI L) k) v=true:=List.find?_some e;rw[gJ,ia] at wW;(have yR:¬v∈aY (aI L) k:=by simpa using wW.1);(have ly:v<L.length:=by have:=bG.1 (Xf e);rwa [lp] at this);refine⟨?_,fun f hf=>?_⟩
   ·rw[Gq];refine⟨hn,by simp,fun a ha b hb=>?_⟩;rw[fX.1 hb];exact fun e=>yR (e▸ha)
   ·rw[JU, <- hs f hf];refine Es (fun g hg=>?_) _ f hf;rw[l8 (h:=fun x=>dA V L R g (aY (aI L) k)*aT (dF V L R (aQ g v x) v))]
    ·rw[El,row_one h0 (by rw[<- aM.len];exact ly) hg,zS]
    ·intro x _;rw[G4,dA,dA,zS,JM];intro u hu;refine⟨fun e=>yR (e▸hu),fun hp=>?_⟩
     exact yR (NP (aI L) k u hu v (by
      have EF:=Ep (aI L) k u hu;rw[lp] at EF;rw[NB EF];rw[List.getD_eq_getElem?_getD,List.getElem?_eq_getElem EF] at hp;exact hp))
theorem Su:∀(n:Nat) (l:List Nat),l.Nodup ->(∀x∈l,x<n) ->l.length<=n
 |0,l,_,h=>by
  cases l with
  |nil=>exact ar _
  |cons a l=>exact absurd (h a dJ) (by omega)
 |n+1,l,hn,h=>by
  by_cases hm:n∈l
  ·have h1:=Xg hm
   have h2:=Su n (l.erase n) (hn.erase n) (fun x hx=>by
    have h3:=h x (List.mem_of_mem_erase hx);(have hne:x≠n:=fun e=>by subst e;exact hn.not_mem_erase hx);omega)
   have h4:=List.length_pos_of_mem hm;omega
  ·have h2:=Su n l hn (fun x hx=>by
    have h3:=h x hx;have hne:x≠n:=fun e=>hm (e▸hx);omega)
   omega
theorem Zv:∀(n:Nat) (l:List Nat),l.Nodup ->(∀x∈l,x<n) ->l.length=n ->l.Perm (List.range n)
 |0,l,_,_,h=>by
  have:=Ee.1 h;subst this;exact List.Perm.refl _
 |n+1,l,hn,h,hl=>by
  have hm:n∈l:=Gz fun hm=>by
   have:=Su n l hn (fun x hx=>by
    have h3:=h x hx;have hne:x≠n:=fun e=>hm (e▸hx);omega)
   omega
  have h1:=Xg hm
  have h2:=Zv n (l.erase n) (hn.erase n) (fun x hx=>by
   have h3:=h x (List.mem_of_mem_erase hx);(have hne:x≠n:=fun e=>by subst e;exact hn.not_mem_erase hx);omega) (by omega)
  rw[rT];exact(List.perm_cons_erase hm).trans ((h2.cons n).trans (List.perm_append_singleton n (List.range n)).symm)
theorem Sl (h:aW V L R=0):(aY (aI L) L.length).length=L.length:=by
 rw[aW] at h;by_cases h1:L.length=V.length/\R.length=V.length
 ·rw[ay h1] at h;by_cases h2:bE L=0
  ·rw[bE] at h2;by_cases h3:gB L=true
   ·rw[ay h3] at h2;by_cases h4:(aY (aI L) L.length).length<L.length
    ·rw[ay h4] at h2;cases h2
    ·have:=Ct (aI L) L.length;omega
   ·rw[az h3] at h2;cases h2
  ·rw[az h2] at h;exact absurd h h2
 ·rw[az h1] at h;cases h
theorem ag5 (k:Nat):over vs (fun _=>0) (aO S vs k)=aO S vs k:=by
 funext u
 rw[over];by_cases e:u∈vs
 ·rw[ay e]
 ·rw[az e,Bg e]
theorem ZL (g:Nat ->Rat):∀m,jz false g m=a8 g (m+1)
 |0=>by show g 0=0+g 0;rw[Rat.zero_add]
 |m+1=>by
  rw[jz,ZL g m];rfl
theorem aiF {g:Nat ->Nat} (h:∀u,u=v∨u∈ag (L.getD v []) ->f u=g u):dF V L R f v=dF V L R g v:=by
 rw[dF,dF,p6,p6,yD (ah V) (f:=f) (g:=g) fun u hu=>h u (.inr hu),h v (.inl rfl)]
def xK (A:Nat ->Prop) (G:(Nat ->Nat) ->Rat):Prop:=∀v,¬A v ->∀g x,G (aQ g v x)=G g
def lT (L:List (List Int)) (A:Nat ->Prop):Prop:=∀v,A v ->∀u∈ag (L.getD v []),A u
theorem aiD {A:Nat ->Prop} (hA:lT L A) (hv:A v):xK A (fun g=>aT (dF V L R g v)):=fun u hu g x=>by
 show aT (dF V L R (aQ g u x) v)=aT (dF V L R g v);have h1:v≠u:=fun e=>hu (by rw[<- e];exact hv);rw[aaF h1 (fun hm=>hu (hA v hv u hm))]
theorem Xy (f:Nat ->Nat) (v x y:Nat):aQ (aQ f v x) v y=aQ f v y:=by
 funext u
 simp only[aQ];by_cases e:u=v
 ·rw[ay e,ay e]
 ·rw[az e,az e,az e]
theorem xK.sum {A:Nat ->Prop} {G:(Nat ->Nat) ->Rat} (hG:xK A G) (v n:Nat):xK A (fun g=>a8 (fun x=>G (aQ g v x)) n):=fun u hu g y=>by
 refine l8 fun x _=>?_;by_cases e:u=v
 ·subst e;rw[Xy]
 ·rw[M7 g y x (fun h=>e h.symm)];exact hG u hu _ _
theorem xK.mul {A:Nat ->Prop} {G H:(Nat ->Nat) ->Rat} (hG:xK A G) (hH:xK A H):xK A (fun g=>G g*H g):=fun u hu g x=>by
 show G (aQ g u x)*H (aQ g u x)=G g*H g;rw[hG u hu,hH u hu]
theorem Vp (h0:aW V L R=0) {b:Nat ->Bool} (hA:lT L fun v=>b v=true):∀k,(aY (aI L) k).length=k ->k<=L.length ->∀(G:(Nat ->Nat) ->Rat),xK (fun v=>b v=true) G ->∀f,(∀u,f u<sz (ah V) u) ->
  eV (ah V) (aY (aI L) k) (fun g=>G g*dA V L R g (aY (aI L) k)) f=eV (ah V) ((aY (aI L) k).filter b) (fun g=>G g*dA V L R g ((aY (aI L) k).filter b)) f
 |0,_,_,_,_,_,_=>rfl
 |k+1,hl,hk,G,hG,f,hf=>by
  have aM:=gD h0;have hln:=Ct (aI L) k;cases e:nj (aI L) (aY (aI L) k) with
  |none=>
   rw[aY,e] at hl;exact absurd hl (by show (aY (aI L) k).length≠_;omega)
  |some v=>
   have e1:=NM e;rw[e1] at hl⊢;rw[dM,MO] at hl;have wW:gJ (aI L) (aY (aI L) k) v=true:=List.find?_some e;rw[gJ,ia] at wW;(have yR:¬v∈aY (aI L) k:=by simpa using wW.1);(have ly:v<L.length:=by have:=bG.1 (Xf e);rwa [lp] at this)
   have nH:∀u∈aY (aI L) k,u≠v/\¬v∈ag (L.getD u []):=fun u hu=>by
    refine⟨fun e=>yR (e▸hu),fun hp=>?_⟩
    exact yR (NP (aI L) k u hu v (by
     have EF:=Ep (aI L) k u hu;rw[lp] at EF;rw[NB EF];rw[List.getD_eq_getElem?_getD,List.getElem?_eq_getElem EF] at hp;exact hp))
   rw[JU,Ch];by_cases hv:b v=true
   ·have ih:=Vp h0 hA k (by omega) (by omega) (fun g=>a8 (fun x=>G (aQ g v x)*aT (dF V L R (aQ g v x) v)) (sz (ah V) v)) ((hG.mul (aiD hA hv)).sum v _) f hf;rw[show ([v].filter b)=[v] by simp[hv],JU];rw[Es (F:=fun g=>a8 (fun x=>G (aQ g v x)*dA V L R (aQ g v x) (aY (aI L) k++[v])) (sz (ah V) v)) (G:=fun g=>a8 (fun x=>G (aQ g v x)*aT (dF V L R (aQ g v x) v)) (sz (ah V) v)*dA V L R g (aY (aI L) k)) ?_ _ f hf,ih]
    ·refine Es ?_ _ f hf;intro g _;rw[Rat.mul_comm, <- El];refine l8 fun x _=>?_;rw[G4,dA,dA,zS,JM fun u hu=>nH u (c4.1 hu).1];grind
    ·intro g _;rw[Rat.mul_comm, <- El];refine l8 fun x _=>?_;rw[G4,dA,dA,zS,JM nH];grind
   ·have ih:=Vp h0 hA k (by omega) (by omega) G hG f hf;rw[show ([v].filter b)=[] by simp[hv],Eg, <- ih];refine Es ?_ _ f hf;intro g hg;rw[l8 (h:=fun x=>(G g*dA V L R g (aY (aI L) k))*aT (dF V L R (aQ g v x) v))]
    ·rw[El,row_one h0 (by rw[<- aM.len];exact ly) hg,zS]
    ·intro x _;rw[G4,dA,dA,zS,JM nH,hG v hv];grind
def Fit (S:List Nat) (f:Nat ->Nat):Prop:=∀u,f u<sz S u
theorem Fit.with (h:Fit S f) {x:Nat} (hx:x<sz S v):Fit S (aQ f v x):=fun u=>by
 rw[aQ];by_cases e:u=v
 ·rw[ay e,e];exact hx
 ·rw[az e];exact h u
def tQ (S:List Nat) (t:List Nat×List Fr) (f:Nat ->Nat):Rat:=aT (bA t.2 (pos S f t.1))
theorem aeu {t:List Nat×List Fr} {x:Nat} (h:¬v∈t.1):tQ S t (aQ f v x)=tQ S t f:=by
 rw[tQ,tQ,yD S (f:=aQ f v x) (g:=f)];intro u hu;rw[aQ,az];intro e;exact h (e▸hu)
theorem aet {va vb U:List Nat} (hp:Pos S) (hr:U.Nodup) (uW:∀u∈va,u∈U) (tK:∀u∈vb,u∈U) (la lb:List Fr) (hf:Fit S f):tQ S (U,uM S va vb U la lb) f=tQ S (va,la) f*tQ S (vb,lb) f:=agn hp hr uW tK la lb hf
theorem X1 {vars rest:List Nat} (hp:Pos S) (hr:rest.Nodup) (hv:∀u∈vars,u=v∨u∈rest) (l:List Fr) (hf:Fit S f):tQ S (rest,qL S vars rest v false l) f=a8 (fun x=>tQ S (vars,l) (aQ f v x)) (sz S v):=by
 have h:=ZK hp hr hv false l hf;rw[ZL,show sz S v - 1+1=sz S v by have:=im hp v;omega] at h;exact h
theorem X3 {vars rest:List Nat} (hp:Pos S) (hr:rest.Nodup) (hv:∀u∈vars,u=v∨u∈rest) (l:List Fr) (hf:Fit S f):tQ S (rest,qL S vars rest v true l) f=jz true (fun x=>tQ S (vars,l) (aQ f v x)) (sz S v - 1):=ZK hp hr hv true l hf
theorem Rk {vars rest:List Nat} (hp:Pos S) (hr:rest.Nodup) {x:Nat} (hv:∀u∈vars,u=v∨u∈rest) (l:List Fr) (hf:Fit S f):tQ S (rest,xz S vars rest v x l) f=tQ S (vars,l) (aQ f v x):=by
 rw[tQ,tQ,xz,Pr _ (p3 f hf rest),qQ];rw[yD S (f:=aQ (aO S rest (pos S f rest)) v x) (g:=aQ f v x)];intro u hu;simp only[aQ];by_cases e:u=v
 ·rw[ay e,ay e]
 ·rw[az e,az e];exact Dl hp hf hr u ((hv u hu).resolve_left e)
theorem Rj (h0:aW V L R=0) (hv:v<V.length) (hf:Fit (ah V) f):tQ (ah V) (ag (gU L v),gL V L R v) f=aT (dF V L R f v):=by
 have aM:=gD h0;have dG:v<L.length:=by rw[aM.len];exact hv
 have df:Pos (ah V):=by have:=aM.fine.pos;rwa [ew] at this
 have Lc:L.getD v []=L[v]:=by rw[List.getD_eq_getElem?_getD,List.getElem?_eq_getElem dG];rfl
 have aX:Up (gU L v) V.length:=by rw[gU,Lc];exact GI (aM.up v dG) (Q7 hv)
 have hmem:∀u,u=v∨u∈ag (L.getD v []) ->u∈ag (gU L v):=fun u hu=>by
  obtain⟨_,h2⟩:=Jv (L.getD v []) [(v:Int)];rcases hu with rfl |hu
  ·exact bs.2 ⟨(u:Int),(h2 _).2 (.inr (fX.2 rfl)),pT u⟩
  ·obtain⟨z,hz,rfl⟩:=bs.1 hu;exact bs.2 ⟨z,(h2 _).2 (.inl hz),rfl⟩
 rw[tQ,gL,Pr _ (p3 f hf _),qQ];congr 1
 exact aiF fun u hu=>Dl df hf aX.nodup u (hmem u hu)
def pQ (S:List Nat) (f:Nat ->Nat):List (List Nat×List Fr) ->Rat
 |[]=>1
 |t::P=>tQ S t f*pQ S f P
theorem Sc (S:List Nat) (f:Nat ->Nat) (Q:List (List Nat×List Fr)):∀P,pQ S f (P++Q)=pQ S f P*pQ S f Q
 |[]=>by rw[iD,pQ,vZ]
 |t::P=>by rw[fg,pQ,pQ,Sc S f Q P,yj]
theorem Sb {x:Nat}:∀ {P:List (List Nat×List Fr)},(∀t∈P,¬v∈t.1) ->pQ S (aQ f v x) P=pQ S f P
 |[],_=>rfl
 |t::P,h=>by rw[pQ,pQ,aeu (h t dJ),Sb fun s hs=>h s (eE _ hs)]
theorem Sa (S:List Nat) (f:Nat ->Nat) (p:List Nat×List Fr ->Bool):∀P:List (List Nat×List Fr),pQ S f P=pQ S f (P.filter fun t=>!p t)*pQ S f (P.filter p)
 |[]=>by simp[pQ]
 |t::P=>by
  rw[pQ,Sa S f p P];cases h:p t
  ·rw[Ad (by simp[h]),Ae (by simp[h]),pQ,yj]
  ·rw[Ae (by simp[h]),Ad h,pQ, <- yj, <- yj,Rat.mul_comm (tQ S t f)]
theorem ag0 {P:List (List Nat×List Fr)} {q r:List Nat×List Fr} (hq:∀g,Fit S g ->tQ S q g=pQ S g (P.filter fun t=>decide (v∈t.1))) (hr:∀g,Fit S g ->tQ S r g=a8 (fun x=>tQ S q (aQ g v x)) (sz S v)) (hf:Fit S f):
  pQ S f ((P.filter fun t=>!decide (v∈t.1))++[r])=a8 (fun x=>pQ S (aQ f v x) P) (sz S v):=by
 rw[Sc,pQ,pQ,zS,hr f hf, <- El];refine l8 fun x hx=>?_;have nH:=Sb (S:=S) (f:=f) (v:=v) (x:=x) (P:=P.filter fun t=>!decide (v∈t.1)) (fun t ht=>by simpa using (c4.1 ht).2);rw[Sa S (aQ f v x) (fun t=>decide (v∈t.1)) P,hq _ (hf.with hx),nH]
variable {ws:List Nat}
def H6 (S:List Nat):List Nat ->((Nat ->Nat) ->Rat) ->(Nat ->Nat) ->Rat
 |[],F=>F
 |v::vs,F=>H6 S vs fun f=>a8 (fun x=>F (aQ f v x)) (sz S v)
theorem ack (S:List Nat):∀(vs:List Nat) (F:(Nat ->Nat) ->Rat) (f:Nat ->Nat),H6 S vs F f=eV S vs.reverse F f
 |[],F,f=>rfl
 |v::vs,F,f=>by rw[H6,ack S vs,List.reverse_cons,JU]
theorem ala (h:vs.Perm ws) (hn:vs.Nodup) (F:(Nat ->Nat) ->Rat) (f:Nat ->Nat):H6 S vs F f=eV S ws F f:=by
 rw[ack];exact JV F ((List.reverse_perm vs).trans h) ((List.reverse_perm vs).nodup_iff.2 hn) f
def AE (v x:Nat) (g:Nat ->Nat):Rat:=if g v=x then 1 else 0
theorem aac {x y:Nat} (F:(Nat ->Nat) ->Rat):∀(vs:List Nat) (f:Nat ->Nat),¬v∈vs ->f v=y ->eV S vs (fun g=>AE v x g*F g) f=(if y=x then 1 else 0)*eV S vs F f
 |[],f,_,hf=>by
  show AE v x f*F f=_;rw[AE,hf];rfl
 |u::vs,f,hv,hf=>by
  rw[eV,eV, <- El];refine l8 fun z _=>?_;refine aac F vs _ (fun h=>hv (eE _ h)) ?_;rw[aQ,az (fun e=>hv (by rw[e];exact dJ)),hf]
theorem Sr {x:Nat} (F:(Nat ->Nat) ->Rat):∀(vs:List Nat) (f:Nat ->Nat),¬v∈vs ->eV S vs F (aQ f v x)=eV S vs (fun g=>F (aQ g v x)) f
 |[],f,_=>rfl
 |u::vs,f,hv=>by
  rw[eV,eV];refine l8 fun z _=>?_;have hne:v≠u:=fun e=>hv (by rw[e];exact dJ);rw[M7 f x z (fun e=>hne e.symm),Sr F vs _ fun h=>hv (eE _ h)]
theorem Yf {g:Nat ->Rat} {x:Nat}:∀ {n:Nat},x< n ->a8 (fun y=>(if y=x then 1 else 0)*g y) n=g x
 |0,h=>by omega
 |n+1,h=>by
  rw[a8];rcases cD x n with h1 |h1
  ·rw[Yf h1,az (by omega),Gm,Ea]
  ·obtain rfl:x=n:=by omega
   rw[ay rfl,vZ,l8 (h:=fun _=>0) fun y hy=>by rw[az (by omega),Gm],Rn,Rat.zero_add]
theorem ahD {x:Nat} (F:(Nat ->Nat) ->Rat) (h:vs.Perm (v::ws)) (hn:vs.Nodup) (hx:x<sz S v) (f:Nat ->Nat):eV S vs (fun g=>AE v x g*F g) f=eV S ws (fun g=>F (aQ g v x)) f:=by
 have dm:=h.nodup_iff.1 hn;rw[pP] at dm;rw[JV _ h hn f,eV, <- Sr F ws f dm.1];rw[l8 (h:=fun y=>(if y=x then 1 else 0)*eV S ws F (aQ f v y)) fun y _=>aac F ws _ dm.1 (by rw[aQ,ay rfl])];exact Yf hx
def jX:List (Nat×Nat) ->(Nat ->Nat) ->Rat
 |[],_=>1
 |p::l,g=>AE p.1 p.2 g*jX l g
def cY:List (Nat×Nat) ->(Nat ->Nat) ->Nat ->Nat
 |[],g=>g
 |p::l,g=>cY l (aQ g p.1 p.2)
theorem Vn {x:Nat}:∀ {l:List (Nat×Nat)},(∀p∈l,p.1≠v) ->∀g,jX l (aQ g v x)=jX l g
 |[],_,_=>rfl
 |p::l,h,g=>by
  rw[jX,jX,Vn (fun q hq=>h q (eE _ hq)),AE,AE,aQ,az (h p dJ)]
theorem Ns {x:Nat}:∀ {l:List (Nat×Nat)},(∀p∈l,p.1≠v) ->∀g,cY l (aQ g v x)=aQ (cY l g) v x
 |[],_,_=>rfl
 |p::l,h,g=>by
  rw[cY,cY,M7 g x p.2 (h p dJ),Ns fun q hq=>h q (eE _ hq)]
theorem aad:∀(l:List (Nat×Nat)) (F:(Nat ->Nat) ->Rat) {vs ws:List Nat},vs.Perm (l.map (·.1)++ws) ->vs.Nodup ->(∀p∈l,p.2<sz S p.1) ->∀f,eV S vs (fun g=>jX l g*F g) f=eV S ws (fun g=>F (cY l g)) f
 |[],F,vs,ws,h,hn,_,f=>by
  rw[JV _ h hn f];show eV S ws (fun g=>1*F g) f=_;simp only[vZ,cY]
 |p::l,F,vs,ws,h,hn,hx,f=>by
  have dm:=h.nodup_iff.1 hn;rw[gQ,fg] at dm h;rw[pP] at dm;have nH:∀q∈l,q.1≠p.1:=fun q hq e=>dm.1 (dz.2 (.inl (by rw[<- e];exact bs.2 ⟨q,hq,rfl⟩)))
  have e1:(fun g=>jX (p::l) g*F g)=fun g=>AE p.1 p.2 g*(jX l g*F g):=by
   funext g
   rw[jX,yj]
  rw[e1,ahD (fun g=>jX l g*F g) h hn (hx p dJ) f]
  have e2:(fun g=>jX l (aQ g p.1 p.2)*F (aQ g p.1 p.2))=fun g=>jX l g*F (aQ g p.1 p.2):=by
   funext g
   rw[Vn nH]
  rw[e2,aad l (fun g=>F (aQ g p.1 p.2)) (List.Perm.refl _) dm.2 (fun q hq=>hx q (eE _ hq)) f];congr 1
  funext g
  rw[show cY (p::l) g=cY l (aQ g p.1 p.2) from rfl];congr 1
  exact(Ns nH g).symm
end Go.Proofs.YtdnhgjeihdllbaaGreatDoor
