/- Part2: part 2. -/
import Derived.Test.YtfgkjjlocjmfeaaGreatDoorSide1
set_option maxRecDepth 100000
set_option maxHeartbeats 400000000
set_option linter.unusedSimpArgs false
set_option linter.unusedVariables false
namespace Go.Proofs.YtfgkjjlocjmfeaaGreatDoor
open Go.RowKit
variable {L:List (List Int)} {l:List Int} {g i n:Nat} {a:Option Addr} {w w':World}
def dT (w:World) (a:Option Addr) (L:List (List Int)):Prop:=∀k (h:k<L.length),∃g o b c,a=some ⟨g,o,none⟩/\g<w.heap.size/\w.cell? ⟨g,o+k,none⟩=some (.slice b L[k].length c)/\aC w b L[k]
theorem dT.aa (h:dT w a L) (hb:Below w.heap.size w w'):dT w' a L:=fun k hk=>by
 obtain⟨g,o,b,c,h1,h2,h3,h4⟩:=h k hk;exact⟨g,o,b,c,h1,aR h2 hb.size,(hb.cell (p:=⟨g,o+k,none⟩) h2).trans h3,h4.aa hb⟩
def tJ (w:World) (a:Option Addr) (L:List (List Int)):Prop:=∀k,k<L.length ->∀g o b n c,a=some ⟨g,o,none⟩ ->w.cell? ⟨g,o+k,none⟩=some (.slice b n c) ->b=none ->c=0
theorem tJ.aa (h:tJ w a L) (hl:dT w a L) (hb:Below w.heap.size w w'):tJ w' a L:=fun k hk g o b n c ha hc hn=>by
 obtain⟨g',o',_,_,e,hg,_⟩:=hl k hk;rw[ha] at e;cases e;exact h k hk g o b n c ha ((hb.cell (p:=⟨g,o+k,none⟩) hg).symm.trans hc) hn
abbrev uv (x:Nat):Value:=.int .u32 (x:Int)
def bW (w:World) (g:Nat) (l:List Nat):Prop:=w.heap[g]? =some (.cells (l.map uv).toArray 115 (0,0))
theorem bW.cell {l:List Nat} (h:bW w g l) (j:Nat) (hj:j<l.length):w.cell? ⟨g,j,none⟩=some (.int .u32 (l[j]:Nat)):=by
 rw[bE w g j _ _ (0,0) h];simp[uv,hj]
theorem bW.fz {l:List Nat} (h:bW w g l) (j:Nat):w.frozen? ⟨g,j,none⟩=false:=kZ w g j _ _ h
theorem bW.lt {l:List Nat} (h:bW w g l):g<w.heap.size:=(cV.1 h).1
theorem bW.aa {b:Nat} {l:List Nat} (h:bW w g l) (hb:Below b w w') (hg:g<b):bW w' g l:=(hb.block g hg).trans h
theorem bW.set {l:List Nat} (h:bW w g l) (j y:Nat):bW (w.setCell ⟨g,j,none⟩ (.int .u32 (y:Int))) g (l.set j y):=by
 have h2:=jX w g j _ _ (.int .u32 (y:Int)) h;rw[bW,h2];simp[Cy,uv]
theorem Qx (n:Nat):(madeCells (Value.int .u32 0).cells (n*1)).toList=(List.replicate n (0:Nat)).map uv:=by
 rw[show (Value.int .u32 0).cells= #[Value.int .u32 0] from rfl,GY,oF,KS];rfl
theorem Tryz.infoSet:(Tryz.prog.info? 115).map (fun i=>(i.zero,i.size,i.bytes))=some (some (.int .u32 0),1,4):=by kernel_rfl
def gR (L:List (List Int)) (n:Nat):Bool:=L.all fun l=>dZ l n
def gM (L:List (List Int)):List Nat:=L.map fun l=>aA (af l)
theorem Y1 (L:List (List Int)):(gM L).length=L.length:=by simp[gM]
theorem al0 (h:i<L.length) (e:dZ L[i] n=false):gR L n=false:=by
 rw[gR,Hg];exact⟨L[i],bY h,by rw[e];decide⟩
theorem WO (h:dZ l n=true):setA l n=aA (af l):=aB h
theorem WM (a:Option Addr) (ca n:Nat) (L:List (List Int)) (w:World) (h:dT w a L) (hL:L.length<=8) (hn:n<=8) (hl:∀l∈L,l.length<=140737488355328):
  Calls Tryz.prog 73 #[.slice a L.length ca,.int .i64 (n:Nat)] w fun e w'=>Below w.heap.size w w'/\
   ((gR L n=true/\∃G,e=.returned (.tuple #[.slice (some ⟨G,0,none⟩) L.length L.length,.bool true])/\w.heap.size<=G/\bW w' G (gM L))∨(gR L n=false/\e=.returned (.tuple #[.slice none 0 0,.bool false]))):=by
 obtain⟨i0,bS,hz0,hz1,hz2⟩:=dK Tryz.infoSet;have HF:=hid h;have HB:=hid (fun i h e=>al0 (L:=L) (n:=n) (i:=i) h e)
 have HT:Hid ((∀i (h:i<L.length),dZ L[i] n=true) ->gR L n=true):=fun h=>dN.2 fun l hl=>by
  obtain⟨i,hi,rfl⟩:=jg hl;exact h i hi
 have HM:Hid (∀i (h:i<L.length),(gM L)[i]? =some (aA (af L[i]))):=fun i h=>by simp[gM,h]
 have iP:=hid hl;have qC:=Y1 L;generalize gR L n=rb at *;generalize gM L=ms at *;clear h hl;go_enter Tryz.func73,Tryz.ntmps73
 go_wp2_with (first
  |(at_make;refine nC _ rfl _ _ 109 rfl w.heap.size 115 i0 (.int .u32 0) 1 Tryz.underlying109 bS hz0 hz1 .i64 .i64 _ _ L.length rfl rfl (by go_num) (by go_num) (by rw[hz2];omega) (by unfold maxLen;omega) (ak _) ?_;intro w2 hown2 hgrow2))
 have hb2:=pV hown2;rw[Qx] at hb2;have bq:Hid (Below w.heap.size w w2):=(aw _ w).grown hgrow2 (ak _) (fun k e=>by cases e);have HI:Hid (bW w2 w.heap.size (List.replicate L.length 0)):=hb2;clear hown2 hgrow2 hb2;go_wp2_with fail
 go_loopw [15] (fun iv wr=>∃i:Nat,i<=L.length/\iv=.int .i64 i/\Hid (∀j (h:j<L.length),j< i ->dZ L[j] n=true)/\Hid (bW wr w.heap.size (oM ms i))/\Hid (Below w.heap.size w wr)) (fun iv _=>L.length - (intOf iv).toNat)
 case atStart=>exact⟨0,aX _,rfl,fun j _ h=>absurd h (by omega),by rw[XM,qC];exact HI,bq⟩
 case round=>
  obtain⟨i,hi,rfl,HR,HU,xX⟩:=hrel;clear HI bq;by_cases hlt:i<L.length
  ·obtain⟨g,o,b,c,rfl,hg,c0,hI⟩:=(HF.o.aa xX.o) i hlt;have dJ:=iP.o L[i] (bY hlt);have HII:=hid hI;clear hI;have HBi:=hid (HB.o i hlt);have HMi:=hid (HM.o i hlt)
   have Uf:Hid (dZ L[i] n=true ->∀j (h:j<L.length),j<i+1 ->dZ L[j] n=true):=fun h j hj pL=>by
    rcases cM j i with h2 |h2
    ·exact HR.o j hj h2
    ·obtain rfl:j=i:=by omega
     exact h
   have kA:Hid (dZ L[i] n=true ->setA L[i] n=aA (af L[i])):=WO;generalize L[i]=l at *;go_wp2_with fail
   refine(WN b c l n _ HII.o dJ hn).ae ?_;rintro e w3 ⟨rfl,rfl⟩;cases hr:dZ l n with
   |false=>
    have HE:=hid (HBi.o hr);generalize setA l n=s at *;go_wp2;go_ret2;exact⟨xX.o,.inr ⟨HE.o,rfl⟩⟩
   |true=>
    rw[kA.o hr];have vE:=hid (Uf.o hr);have k0:=HU.o.cell i (by rw[LB _ (by omega)];omega);have f0:=HU.o.fz i;have NP:=hid (HU.o.set i (aA (af l)))
    have pZ:Hid ((oM ms i).set i (aA (af l))=oM ms (i+1)):=by
     show _=_;obtain⟨h1,h2⟩:=nG.1 HMi.o;rw[<- h2];exact XN ms h1
    rw[pZ.o] at NP;have ED:=hid (xX.o.setCell (p:=⟨w.heap.size,i,none⟩) (ak _) (.int .u32 (aA (af l):Nat)));clear hr;generalize aA (af l)=s at *;generalize (oM ms i)[i]'(by rw[LB _ (by omega)];omega)=z at *;go_wp2;go_roundw
    case rel=>exact⟨i+1,by omega,by go_num,vE,NP,ED⟩
    case measure=>simp[intOf];omega
  ·obtain rfl:i=L.length:=by omega
   have HE:=hid (HT.o fun j hj=>HR.o j hj hj);have hU:=HU.o;rw[<- qC,XO] at hU;have pX:=hid hU;clear hU;go_wp2;go_ret2;exact⟨xX.o,.inl ⟨HE.o,_,rfl,ak _,pX.o⟩⟩
def wF (L:List (List Int)):Bool:=(List.range L.length).all fun v=>!decide (v∈af (L.getD v []))
def gB (L:List (List Int)):Bool:=decide (1<=L.length/\L.length<=8)&&gR L L.length&&wF L
theorem YZ (n:Nat) (w:World):
  Calls Tryz.prog 172 #[.int .i64 (n:Nat)] w fun e w'=>e=.returned (.bool (decide (1<=n/\n<=8)))/\w'=w:=by
 by_cases h1:1<=n
 ·by_cases h2:n<=8
  ·rw[bT (p:=1<=n/\n<=8) ⟨h1,h2⟩];(have e1:(1:Int)<=(n:Int):=by omega);(have e2:(n:Int)<=8:=by omega);go_enter Tryz.func172,Tryz.ntmps172;go_wp2;go_ret;exact⟨rfl,rfl⟩
  ·rw[cj (p:=1<=n/\n<=8) (fun h=>h2 h.2)];(have e1:(1:Int)<=(n:Int):=by omega);have HE:Hid (decide ((n:Int)<=8)=false):=cj (by omega);clear h2;go_enter Tryz.func172,Tryz.ntmps172;go_wp2;go_ret;exact⟨by rw[HE.o];rfl,rfl⟩
 ·rw[cj (p:=1<=n/\n<=8) (fun h=>h1 h.1)];obtain rfl:n=0:=by omega
  clear h1;go_enter Tryz.func172,Tryz.ntmps172;go_wp2;go_ret;exact⟨rfl,rfl⟩
theorem WY (hn:n<=8) (h:dZ l n=true):∀u∈af l,u<8:=by
 have:=WX (l:=l) (n:=n) (i:=l.length) hn h (ak _);rwa [iR] at this
theorem TD (h:gR L n=true) (hi:i<L.length):dZ L[i] n=true:=dN.1 h _ (bY hi)
theorem YF (h:i<L.length) (e:i∈af L[i]):wF L=false:=by
 rw[wF,Hg];refine⟨i,ck.2 h,?_⟩;rw[b6,ba h];simpa using e
theorem YE (h:∀i (hi:i<L.length),¬i∈af L[i]):wF L=true:=by
 rw[wF,dN];intro i hi;have hi':=ck.1 hi;rw[b6,ba hi'];simpa using h i hi'
theorem Xb (a:Option Addr) (ca:Nat) (L:List (List Int)) (w:World) (h:dT w a L) (hl:∀l∈L,l.length<=140737488355328):
  Calls Tryz.prog 123 #[.slice a L.length ca] w fun e w'=>Below w.heap.size w w'/\
   ((gB L=true/\∃G,e=.returned (.tuple #[.slice (some ⟨G,0,none⟩) L.length L.length,.bool true])/\w.heap.size<=G/\bW w' G (gM L))∨(gB L=false/\∃v,e=.returned (.tuple #[v,.bool false]))):=by
 have HF:=hid h;have HL:=hid hl;have HG:Hid (gB L=(decide (1<=L.length/\L.length<=8)&&gR L L.length&&wF L)):=rfl;generalize gB L=gb at *;clear h hl;cases hm:decide (1<=L.length/\L.length<=8) with
 |false=>
  have HC:=hid (fun V:World=>YZ L.length V);rw[hm] at HG HC;have HGF:Hid (gb=false):=by show _=_;rw[HG.o];rfl
  clear hm HG;go_enter Tryz.func123,Tryz.ntmps123;go_wp2_with fail
  refine(HC.o _).ae ?_;rintro e w1 ⟨rfl,rfl⟩;go_wp2;go_ret2;exact⟨aw _ _,.inr ⟨HGF.o,_,rfl⟩⟩
 |true=>
  have HC:=hid (fun V:World=>YZ L.length V);rw[hm] at HG HC;obtain⟨h1,h8⟩:=kY hm;have HS:=hid (fun (V:World) (hV:dT V a L)=>WM a ca L.length L V hV h8 h8 HL.o);have pg:Hid (gR L L.length=true ->∀i (hi:i<L.length),∀u∈af L[i],u<8):=fun h i hi=>WY h8 (TD h hi);have cR:=hid (fun i h e=>YF (L:=L) (i:=i) h e);have zK:=hid (fun h=>YE (L:=L) h);have HM:Hid (∀i (h:i<L.length),(gM L)[i]? =some (aA (af L[i]))):=fun i h=>by simp[gM,h]
  clear hm;generalize gR L L.length=ra at *;generalize wF L=rn at *;generalize gM L=ms at *;go_enter Tryz.func123,Tryz.ntmps123;go_wp2_with fail
  refine(HC.o _).ae ?_;rintro e w1 ⟨rfl,rfl⟩;go_wp2_with fail
  refine(HS.o _ HF.o).ae ?_;rintro e w2 ⟨hb,⟨FN,G,rfl,hG,hU⟩ |⟨FN,rfl⟩⟩
  ·have HU:=hid hU;have HB:=hid hb;have HAT:=hid (pg.o FN);(have Cg:Hid (gb=rn):=by show _=_;rw[HG.o,FN];rfl);clear hU hb FN HG;go_wp2_with fail
   go_loopw [21] (fun iv wr=>∃i:Nat,i<=L.length/\iv=.int .i64 i/\Hid (∀j (h:j<L.length),j< i ->¬j∈af L[j])/\wr=w2) (fun iv _=>L.length - (intOf iv).toNat)
   case atStart=>exact⟨0,aX _,rfl,fun j _ h=>absurd h (by omega),rfl⟩
   case round=>
    obtain⟨i,hi,rfl,HR,rfl⟩:=hrel;by_cases hlt:i<L.length
    ·have hmi:=HM.o i hlt;obtain⟨hm1,a7⟩:=nG.1 hmi;have c0:=HU.o.cell i hm1;rw[a7] at c0;have sq:=hid (cR.o i hlt)
     have Uf:Hid (¬i∈af L[i] ->∀j (h:j<L.length),j<i+1 ->¬j∈af L[j]):=fun h j hj pL=>by
      rcases cM j i with h2 |h2
      ·exact HR.o j hj h2
      ·obtain rfl:j=i:=by omega
       exact h
     have HH:=hid (fun V:World=>Fe (af L[i]) i V (HAT.o i hlt) (by omega));clear hmi hm1 a7;generalize af L[i]=l at *;go_wp2_with fail
     refine(HH.o _).ae ?_;rintro e w3 ⟨rfl,rfl⟩;by_cases hin:i∈l
     ·rw[bT hin];have HE:=hid (sq.o hin);clear hin;go_wp2;go_ret2;exact⟨HB.o,.inr ⟨by rw[Cg.o];exact HE.o,_,rfl⟩⟩
     ·rw[cj hin];have HE:=hid (Uf.o hin);clear hin;go_wp2;go_roundw
      case rel=>exact⟨i+1,by omega,by go_num,HE,trivial⟩
      case measure=>simp[intOf];omega
    ·obtain rfl:i=L.length:=by omega
     have HE:=hid (zK.o fun j hj=>HR.o j hj hj);go_wp2;go_ret2;exact⟨HB.o,.inl ⟨by rw[Cg.o];exact HE.o,G,rfl,hG,HU.o⟩⟩
  ·have Cg:Hid (gb=false):=by show _=_;rw[HG.o,FN];rfl
   have HB:=hid hb;clear FN hb HG;go_wp2_with fail
   go_loopw [21] (fun iv wr=>iv=.int .i64 0/\wr=w2) (fun _ _=>0)
   case atStart=>exact⟨rfl,rfl⟩
   case round=>
    obtain⟨rfl,rfl⟩:=hrel;go_wp2;go_ret2;exact⟨HB.o,.inr ⟨Cg.o,_,rfl⟩⟩
section
open Go.Shelf
attribute [local go_sem] Oper.semAt_some
variable {Q:Exit ->Act ->World ->Prop}
theorem akL (n:Nat) (hn:1<=n) (l:Nat) (s:List Nat) (hs:∀u∈s,u<8) (J:Nat ->World ->Prop)
  (hY:∀k V,k< 8 ->k∈s ->J k V ->YieldAt Fence.wide (n - 1) Tryz.prog l #[.int .i64 (k:Nat)] V fun e V'=>e=.returned (.bool true)/\J (k+1) V')
  (hN:∀k V,k< 8 ->¬k∈s ->J k V ->J (k+1) V) (V:World) (h0:J 0 V):
  CallsIn Fence.wide n Tryz.prog 144 #[.int .u32 (aA s:Nat),.func (.yield l) #[] #[]] V fun e V'=>(∃v,e=.returned v)/\J 8 V':=by
 refine EK Tryz.func144 rfl trivial ?_ rfl;simp only[Tryz.ntmps144,k9,di,jG,Nat.reduceAdd,Nat.reduceSub,lh,lg,ld,kF,gi,eC];have HH:=hid (fun (k:Nat) (hk:k<8) (U:World)=>Fe s k U hs hk);generalize aA s=m at *;gi_wp2
 gi_loopw [5] (fun i wr=>∃k:Nat,k<=8/\i=.int .i64 k/\J k wr) (fun i _=>8 - (intOf i).toNat)
 case atStart=>exact⟨0,aX _,rfl,h0⟩
 case round=>
  obtain⟨k,hk,rfl,hJ⟩:=hrel;by_cases hlt:k<8
  ·have wV:(k:Int)<8:=by omega
   have Ol:=hid (HH.o k hlt);by_cases hm:k∈s
   ·rw[bT hm] at Ol;obtain⟨fn,tmps,assign,body,hy,hR⟩:=hY k wr hlt hm hJ;have HR:=hid hR;clear hR;gi_wp2_with (refine⟨trivial,?_⟩;gi_at_call 129;refine(fZ.2 (Ol.o _)).ae ?_;rintro e w' ⟨rfl,hw'⟩;subst hw')
    refine HR.o.ae ?_;rintro e W3 ⟨rfl,hJ3⟩;gi_wp2
    go_roundw
    case rel=>exact⟨k+1,by omega,by go_num,hJ3⟩
    case measure=>simp[intOf];omega
   ·rw[cj hm] at Ol;have hJ3:=hN k wr hlt hm hJ;gi_wp2_with (refine⟨trivial,?_⟩;gi_at_call 129;refine(fZ.2 (Ol.o _)).ae ?_;rintro e w' ⟨rfl,hw'⟩;subst hw')
    refine⟨fun f h=>(by cases h),?_⟩;gi_wp2
    go_roundw
    case rel=>exact⟨k+1,by omega,by go_num,hJ3⟩
    case measure=>simp[intOf];omega
  ·obtain rfl:k=8:=by omega
   gi_wp2
   go_end0
   exact⟨⟨_,rfl⟩,hJ⟩
def akM (B:Nat) (I:Nat ->World ->Prop) (k:Nat) (W:World):Exit ->Act ->World ->Prop
 |.normal,_,W'=>KeepsFrom B W W'/\I (k+1) W'
 |_,_,_=>False
theorem Am {g:Operand} {ps:Array Tmp} {assign body:Code} {a:Act} (h1:2<=n) (s:List Nat) (hs:∀u∈s,u<8)
  (hg:a.eval g=.func (.func 144) #[.int .u32 (aA s:Nat)] #[]) (eo:ps.size=1) (I:Nat ->World ->Prop) (hI:OwnFrom w.heap.size I) (h0:I 0 w) (a₁:Nat ->Act)
  (ajx:∀(l k:Nat) (W:World) (K:Act ->World ->Prop),K (a₁ k) W ->
   assign.wpIn (Fence.wide.inRound l) (n - 1 - 1) Tryz.prog (Exit.then K (fun _ _ _=>False)) {tmps:=(ps.zip #[.int .i64 (k:Nat)]).foldl (fun t (p,v)=>t.setIfInBounds p v) a.tmps,defers:=[]} W)
  (aju:∀(l k:Nat) (W:World),k< 8 ->k∈s ->I k W ->body.wpIn (Fence.wide.inRound l) (n - 1 - 1) Tryz.prog (akM w.heap.size I k W) (a₁ k) W)
  (aiM:∀k W,k< 8 ->¬k∈s ->I k W ->I (k+1) W)
  (hdone:∀(D:Nat) (W:World),w.heap.size<=D ->I 8 W ->W.heap[D]? =some (.deferred (some [])) ->Q .normal {a with defers:= {target:=.collected D,args:= #[]}::a.defers} W):
  (Code.rangeFunc g ps assign body).wpIn Fence.wide n Tryz.prog Q a w:=by
 refine wpIn_rangeFunc fun fn hfn=>?_;rw[show Fence.wide.round=none from rfl];obtain⟨rec,C7⟩:∃rec:LoopState ->Option Code ->Loop,rec=fun st pe=> {state:=st,pending:=pe,fn,tmps:=a.tmps,params:=ps,assign,body,defers:=w.heap.size}:=⟨_,rfl⟩;obtain⟨W1,hW1⟩:∃W1,(w.alloc (.deferred (some []))).alloc (.loop (rec .ready none))=W1:=⟨_,rfl⟩
 have y9:W1.heap[w.heap.size+1]? =some (.loop (rec .ready none)):=by
  rw[<- hW1];have h:=World.alloc_heap_new (w.alloc (.deferred (some []))) (.loop (rec .ready none));rwa [dE] at h
 have hK1:W1.heap[w.heap.size]? =some (.deferred (some [])):=by
  rw[<- hW1];exact(qg _ _ _ (by simp)).trans (World.alloc_heap_new w _)
 have Sx:I 0 W1:=by
  rw[<- hW1];exact hI.alloc _ (hI.alloc _ h0)
 refine⟨w.heap.size+1,[{target:=.collected w.heap.size,args:= #[]}],W1, {target:=.fn (.func 144) #[],args:= #[.int .u32 (aA s:Nat),.func (.yield (w.heap.size+1)) #[] #[]]},W1,144, #[.int .u32 (aA s:Nat),.func (.yield (w.heap.size+1)) #[] #[]],W1,?_,?_,?_,?_,fun _=>by omega,?_⟩
 ·rw[<- hW1,C7];exact run_enterLoop_outer _ _ _ _ _
 ·simp only[resolve,hg];simp[go_sem]
 ·intro f' hf';simp[Target.leads] at hf';subst hf';trivial
 ·have eg:∀args w,(callFunc 144 args).run Tryz.prog w=.ok (.enter 144 args) w:=enters_of Tryz.func144 (by kernel_rfl) rfl;simp[invoke,go_sem,eg]
 ·refine(akL (n - 1) (by omega) (w.heap.size+1) s hs (fun k W=>I k W/\W.heap[w.heap.size+1]? =some (.loop (rec .ready none))/\W.heap[w.heap.size]? =some (.deferred (some []))) ?_ (fun k W hk hm h=>⟨aiM k W hk hm h.1,h.2⟩) W1 ⟨Sx,y9,hK1⟩).ae ?_
  ·rintro k W hk hm ⟨hi,hl,hd⟩;have hlt:w.heap.size+1<W.heap.size:=(cV.1 hl).1;have hy:=run_yield (P:=Tryz.prog) (args:= #[.int .i64 (k:Nat)]) hl (by rw[C7];exact eo.symm);rw[C7] at hy;refine⟨fn,_,assign,body,hy,roundIn_of_wpIn hfn (ajx _ k W _ ⟨_,run_beginRound hl (by rw[C7]),?_⟩)⟩;have hl2:(W.putObj (w.heap.size+1) (.loop {rec .ready none with state:=.busy})).heap[w.heap.size+1]? =some (.loop {rec .ready none with state:=.busy}):=World.putObj_heap_same hlt;have pN:(W.putObj (w.heap.size+1) (.loop {rec .ready none with state:=.busy})).heap[w.heap.size]? =some (.deferred (some [])):=(tX (by omega)).trans hd;refine wpIn_mono (aju _ k _ hk hm (hI.putObj _ hi (by omega) hl rfl)) ?_;rintro e a3 W3 hp;cases e with
   |normal=>
    obtain⟨hk3,A2⟩:=hp;have hl3:=hk3.same _ _ (by omega) hl2 rfl;have hr:=run_endRound (P:=Tryz.prog) none hl3;have RS:=hk3.same _ _ (ak _) pN rfl;refine⟨_,_,hr,rfl,hI.putObj _ A2 (by omega) hl3 rfl,?_,(tX (by omega)).trans RS⟩;rw[C7];exact World.putObj_heap_same (cV.1 hl3).1
   |ret=>exact hp.elim
   |exit id=>exact hp.elim
   |goto t=>exact hp.elim
   |panic ch=>exact hp.elim
   |outgrown=>exact hp.elim
  ·rintro e W2 ⟨⟨v,rfl⟩,hi,hl,hd⟩;have h:=run_endLoop (P:=Tryz.prog) hl (by rw[C7];simp);rw[C7] at h;exact⟨none,_,h,hdone _ _ (ak _) (hI.putObj _ hi (by omega) hl rfl) ((tX (by omega)).trans hd)⟩
end
open Go.Shelf
variable {s:List Nat} {k m v:Nat}
def yE:ByteArray:=⟨(([0,1,1,2,1,2,2,3,1,2,2,3,2,3,3,4,1,2,2,3,2,3,3,4,2,3,3,4,3,4,4,5,1,2,2,3,2,3,3,4,2,3,3,4,3,4,4,5,2,3,3,4,3,4,4,5,3,4,4,5,4,5,5,6].append [1,2,2,3,2,3,3,4,2,3,3,4,3,4,4,5,2,3,3,4,3,4,4,5,3,4,4,5,4,5,5,6,2,3,3,4,3,4,4,5,3,4,4,5,4,5,5,6,3,4,4,5,4,5,5,6,4,5,5,6,5,6,6,7]).append ([1,2,2,3,2,3,3,4,2,3,3,4,3,4,4,5,2,3,3,4,3,4,4,5,3,4,4,5,4,5,5,6,2,3,3,4,3,4,4,5,3,4,4,5,4,5,5,6,3,4,4,5,4,5,5,6,4,5,5,6,5,6,6,7].append [2,3,3,4,3,4,4,5,3,4,4,5,4,5,5,6,3,4,4,5,4,5,5,6,4,5,5,6,5,6,6,7,3,4,4,5,4,5,5,6,4,5,5,6,5,6,6,7,4,5,5,6,5,6,6,7,5,6,6,7,6,7,7,8])).toArray⟩
def bw (s:List Nat) (k:Nat):List Nat:=(List.range k).filter fun v=>decide (v∈s)
theorem LZ (h:k∈s):bw s (k+1)=bw s k++[k]:=by rw[bw,ud,vW,bw];simp[h]
theorem Ii (h:¬k∈s):bw s (k+1)=bw s k:=by rw[bw,ud,vW,bw];simp[h]
theorem qu:v∈bw s k↔v<k/\v∈s:=by simp[bw]
theorem jL (s:List Nat) (k:Nat):(bw s k).length<=k:=by
 have:=l6 (fun v=>decide (v∈s)) (List.range k);simpa [bw] using this
def yF (m:Nat):Nat:=((List.range 8).filter fun v=>m.testBit v).length
theorem afK (s:List Nat):yF (aA s)=(bw s 8).length:=by
 rw[yF,bw];congr 1
 exact List.filter_congr fun v _=>mo s v
theorem afN:((List.range 256).all fun m=>decide (yE.data.toList[m]? =some (UInt8.ofNat (yF m))))=true:=by decide+kernel
theorem afM (h:m<256):yE.data.toList[m]? =some (UInt8.ofNat (yF m)):=kY (dN.1 afN m (ck.2 h))
theorem afL:yE.size=256:=by decide+kernel
theorem XD (m:Nat):yF m<=8:=by
 have:=l6 (fun v=>m.testBit v) (List.range 8);simpa [yF] using this
theorem agK (m:Nat) (w:World) (hm:m<256):
  Calls Tryz.prog 230 #[.int .u32 (m:Nat)] w fun e w'=>e=.returned (.int .i64 (yF m:Nat))/\∃k,w'=w.drewN k:=by
 have h24:(m:Int)/16777216=0:=by omega
 have h16:(m:Int)/65536=0:=by omega
 have h8:(m:Int)/256=0:=by omega
 have ha:bits BinOp.and IntKind.u32 (m:Nat) 255=((m:Nat):Int):=by
  have e:(255:Int)=((255:Nat):Int):=rfl;rw[e,u32_and_nat _ _ (by omega) (by omega),show (255:Nat)=2^8 - 1 from rfl,Nat.and_two_pow_sub_one_eq_mod];omega
 have hz:bits BinOp.and IntKind.u32 0 255=0:=by decide
 have hsz:=afL;have hlt:m<yE.size:=by omega
 have hat:∀i (h:i<yE.size),yE[i]=UInt8.ofNat (yF i):=fun i h=>by
  have h1:=afM (m:=i) (by omega);rw[vY] at h1;obtain⟨h2,h3⟩:=cV.1 h1;exact h3
 have h0:yE[0]'(by omega)=0:=hat 0 (by omega)
 obtain⟨q,Da,oQ⟩:∃q:UInt8,yE[m]'hlt=q/\q.toNat=yF m:=⟨_,hat m hlt,by
  have:=XD m;rw[UInt8.toNat_ofNat'];omega⟩
 have hw0:IntKind.u8.wrap 0=0:=by decide
 have dI:=XD m;rw[<- oQ] at dI
 have dS:IntKind.u8.wrap ((q.toNat:Nat):Int)=((q.toNat:Nat):Int):=by
  have:(q.toNat:Int)<256:=by omega
  rw[IntKind.wrap_u8];omega
 have xJ:=hid oQ;clear hat oQ;have hp:yE=⟨(([0,1,1,2,1,2,2,3,1,2,2,3,2,3,3,4,1,2,2,3,2,3,3,4,2,3,3,4,3,4,4,5,1,2,2,3,2,3,3,4,2,3,3,4,3,4,4,5,2,3,3,4,3,4,4,5,3,4,4,5,4,5,5,6].append [1,2,2,3,2,3,3,4,2,3,3,4,3,4,4,5,2,3,3,4,3,4,4,5,3,4,4,5,4,5,5,6,2,3,3,4,3,4,4,5,3,4,4,5,4,5,5,6,3,4,4,5,4,5,5,6,4,5,5,6,5,6,6,7]).append ([1,2,2,3,2,3,3,4,2,3,3,4,3,4,4,5,2,3,3,4,3,4,4,5,3,4,4,5,4,5,5,6,2,3,3,4,3,4,4,5,3,4,4,5,4,5,5,6,3,4,4,5,4,5,5,6,4,5,5,6,5,6,6,7].append [2,3,3,4,3,4,4,5,3,4,4,5,4,5,5,6,3,4,4,5,4,5,5,6,4,5,5,6,5,6,6,7,3,4,4,5,4,5,5,6,4,5,5,6,5,6,6,7,4,5,5,6,5,6,6,7,5,6,6,7,6,7,7,8])).toArray⟩:=rfl;go_enter Tryz.func230,Tryz.ntmps230;go_upto_region 1 with fail
 rw[<- hp];clear hp;go_quiet (fail)
 go_wp2;go_ret;exact⟨by rw[<- xJ.o];rfl,_,rfl⟩
variable {P:List (List Nat)}
def gY (P:List (List Nat)) (out:List Nat) (v:Nat):Bool:=!decide (v∈out)&&decide (∀u∈P.getD v [],u∈out)
def pF (P:List (List Nat)) (out:List Nat):Option Nat:=(List.range P.length).find? (gY P out)
def aW (P:List (List Nat)):Nat ->List Nat
 |0=>[]
 |k+1=>match pF P (aW P k) with
  |some v=>aW P k++[v]
  |none=>aW P k
theorem find_range {p:Nat ->Bool}:∀ {n v:Nat},v< n ->p v=true ->(∀u,u< v ->p u=false) ->(List.range n).find? p=some v:=by
 intro n;induction n with
 |zero=>intro v h;omega
 |succ n ih=>
  intro v hv hp hu;rw[ud,List.find?_append];rcases cM v n with h |h
  ·rw[ih h hp hu];rfl
  ·obtain rfl:v=n:=by omega
   (have:(List.range v).find? p=none:=List.find?_eq_none.2 fun u uq=>by rw[hu u (ck.1 uq)];decide);rw[this];simp[hp]
theorem agY {out:List Nat} (hv:v<P.length) (hp:gY P out v=true) (hu:∀u,u< v ->gY P out u=false):pF P out=some v:=find_range hv hp hu
theorem agZ {out:List Nat} (hu:∀u,u<P.length ->gY P out u=false):pF P out=none:=List.find?_eq_none.2 fun u uq=>by rw[hu u (ck.1 uq)];decide
theorem LM (h:pF P (aW P k)=some v):aW P (k+1)=aW P k++[v]:=by rw[aW,h]
theorem Ya (h:pF P (aW P k)=none):∀j,aW P (k+j)=aW P k
 |0=>rfl
 |j+1=>by
  have ih:=Ya h j;show aW P (k+j+1)=_;rw[aW,ih,h]
theorem agC (h:pF P (aW P k)=none) (hk:k<=n):aW P n=aW P k:=by
 have:=Ya h (n - k);rwa [show k+(n - k)=n by omega] at this
theorem Fo (P:List (List Nat)):∀k,(aW P k).length<=k
 |0=>ak _
 |k+1=>by
  have:=Fo P k;rw[aW];cases pF P (aW P k) with
  |none=>show (aW P k).length<=_;omega
  |some v=>show (aW P k++[v]).length<=_;rw[bM];simp;omega
theorem CH (P:List (List Nat)):∀k,∀v∈aW P k,v<P.length
 |0,v,hv=>by cases hv
 |k+1,v,hv=>by
  rw[aW] at hv;cases e:pF P (aW P k) with
  |none=>rw[e] at hv;exact CH P k v hv
  |some u=>
   rw[e] at hv;rcases bL.1 hv with h |h
   ·exact CH P k v h
   ·obtain rfl:=eA.1 h;exact ck.1 (Vf e)
def aG (L:List (List Int)):List (List Nat):=L.map af
theorem iX (L:List (List Int)):(aG L).length=L.length:=by simp[aG]
theorem H7 (h:i<L.length):(aG L).getD i []=af L[i]:=by simp[aG,b6,h]
theorem CQ (L:List (List Int)):gM L=(aG L).map aA:=by simp[gM,aG]
theorem QK (a b:List Nat):iL (a++b)=iL a++iL b:=by simp[iL]
def bh (L:List (List Int)):Int:=if gB L=true then(if (aW (aG L) L.length).length<L.length then 10 else 0) else 11
section
attribute [local go_sem] Oper.semAt_some
variable {Bn:Nat}
def Ed (B:Nat) (w:World) (a:Option Addr) (l:List Int):Prop:=∀k (h:k<l.length),∃g o,a=some ⟨g,o,none⟩/\g<B/\w.cell? ⟨g,o+k,none⟩=some (.int .i64 l[k])
theorem Ed.aa {B:Nat} (h:Ed B w a l) (hb:Below B w w'):Ed B w' a l:=fun k hk=>by
 obtain⟨g,o,h1,h2,h3⟩:=h k hk;exact⟨g,o,h1,h2,(hb.cell (p:=⟨g,_,none⟩) h2).trans h3⟩
theorem aC.toB (h:aC w a l):Ed w.heap.size w a l:=h
def qU (Bn B:Nat) (V V':World):Prop:=mK Bn V V'/\Below B V V'
theorem qU.t {B:Nat} {X Y Z:World} (h:qU Bn B X Y) (k:qU Bn B Y Z):qU Bn B X Z:=⟨h.1.t k.1,h.2.trans k.2⟩
theorem qU.b {B:Nat} (hn:Bn<w.heap.size) (hB:B<=w.heap.size) (V:World) (l:Nat) (o o':Obj) (hl:w.heap.size<=l) (h1:V.heap[l]? =some o) (h2:o.isCells=false) (h3:o.isWalk=false):qU Bn B V (V.putObj l o'):=
 ⟨mK.b hn V l o o' hl h1 h2 h3,sK hB V l o o' hl h1 h2 h3⟩
def lM (n k:Nat):List Nat:=(List.range k).map fun j=>n - 1 - j
theorem Nv (n k:Nat):lM n (k+1)=lM n k++[n - 1 - k]:=by simp[lM,ud]
theorem alP (n k:Nat):(lM n k).length=k:=by simp[lM]
abbrev At (l:List Int):Type:= {i:Nat//i<l.length}
abbrev Tw (l:List Int) (x:At l):Array Value:= #[.int .i64 (x.1:Nat),.int .i64 (l[x.1]'x.2)]
theorem alO (n:Nat) (hn:1<=n) (l Bn B:Nat) (a:Option Addr) (cap:Nat) (xs:List Int) (hl:xs.length<=140737488355328) (J Jx:List (At xs) ->World ->Prop)
  (hY:∀pre x V,J pre V ->pre.length<xs.length ->YieldAt Fence.wide (n - 1) Tryz.prog l (Tw xs x) V fun e V'=>
   (e=.returned (.bool true)/\J (pre++[x]) V'/\qU Bn B V V')∨(e=.returned (.bool false)/\Jx (pre++[x]) V'))
  (V:World) (DW:V.cell? ⟨Bn,0,none⟩=some (.slice a xs.length cap)) (hx:Ed B V a xs) (h0:J [] V):
  CallsIn Fence.wide n Tryz.prog 201 #[.func (.yield l) #[] #[],.pointer (some ⟨Bn,0,none⟩)] V fun e V'=>(∃v,e=.returned v)/\
   ((∃ys:List (At xs),ys.map (·.1)=lM xs.length xs.length/\J ys V')∨(∃pre:List (At xs),(∃k,k<=xs.length/\pre.map (·.1)=lM xs.length k)/\Jx pre V')):=by
 have HX:=hid hx;clear hx;refine EK Tryz.func201 rfl trivial ?_ rfl;simp only[Tryz.ntmps201,k9,di,jG,Nat.reduceAdd,Nat.reduceSub,lh,lg,ld,kF,gi,eC];gi_wp2
 gi_loopw [3] (fun i wr=>∃(k:Nat) (pre:List (At xs)),k<=xs.length/\i=.int .i64 ((xs.length:Int) - 1 - (k:Int))/\Hid (pre.map (·.1)=lM xs.length k)/\J pre wr/\wr.cell? ⟨Bn,0,none⟩=some (.slice a xs.length cap)/\Hid (Ed B wr a xs))
  (fun i _=>(intOf i+1).toNat)
 case atStart=>exact⟨0,[],aX _,by simp,rfl,h0,DW,HX⟩
 case round=>
  obtain⟨k,pre,hk,rfl,HP,hJs,bB,HB⟩:=hrel;by_cases hlt:k<xs.length
  ·have hpl:pre.length=k:=by have:=dt List.length HP.o;rwa [cH,alP] at this
   (have hi:xs.length - 1 - k<xs.length:=by omega);obtain⟨fn,tmps,assign,body,hy,hR⟩:=hY pre ⟨xs.length - 1 - k,hi⟩ wr hJs (by omega);obtain⟨g,o,rfl,hg,c0⟩:=HB.o (xs.length - 1 - k) hi;(have HS:Hid ((pre++[(⟨xs.length - 1 - k,hi⟩:At xs)]).map (·.1)=lM xs.length (k+1)):=by show _=_;rw[dY,HP.o,Nv];rfl);have HR:=hid hR;clear hR;rw[Tw] at hy;simp only at hy;(have EA:Hid ((xs.length:Int) - 1 - ((k+1:Nat):Int)=(xs.length:Int) - 1 - (k:Int) - 1):=by show _=_;omega);(have SB:(xs.length:Int) - 1 - (k:Int)=((xs.length - 1 - k:Nat):Int):=by omega);rw[SB];have HEE:=hid SB;clear SB;have MR:xs.length - 1 - k<xs.length:=hi;generalize hEn:xs[xs.length - 1 - k]=xv at *;generalize SA:xs.length - 1 - k=E at *;gi_wp2
   refine HR.o.ae ?_;rintro e W3 (⟨rfl,hJ3,hk3⟩ |⟨rfl,hJx3⟩)
   ·have RY:=Eq.trans hk3.1 bB;have bV:=HB.o.aa hk3.2;gi_wp2
    go_roundw
    case rel=>exact⟨k+1,_,by omega,by rw[EA.o,HEE.o],HS,hJ3,RY,bV⟩
    case measure=>simp[intOf]
   ·gi_wp2
    refine dh (results_none rfl _ _ _) rfl ?_;exact⟨⟨_,rfl⟩,.inr ⟨_,⟨k+1,by omega,HS.o⟩,hJx3⟩⟩
  ·obtain rfl:k=xs.length:=by omega
   (have he:(xs.length:Int) - 1 - (xs.length:Int)= -1:=by omega);rw[he];gi_wp2
   go_end0
   exact⟨⟨_,rfl⟩,.inl ⟨_,HP.o,hJs⟩⟩
end
variable {K:Act ->World ->Prop} {ops:Array Oper} {Q:Exit ->Act ->World ->Prop}
def H6 (ops:Array Oper):Bool:=ops.all fun o=>match o.op with |.defer _=>false |_=>true
theorem afV (h:H6 ops=true) {o:Oper} (ho:ops[i]? =some o):∀c,o.op≠.defer c:=by
 intro c e;rw[H6,Array.all_eq_true] at h;obtain⟨hi,he⟩:=cV.1 ho;have:=h i hi;rw[he,e] at this;cases this
theorem agH {l:Nat} {P:Program} (iC:H6 ops=true) (hlo:¬LetsOut Q) {K':Act ->World ->Prop} {a:Act} (hK:∀a w,K a w ->K' a w)
  (h:wpOp P ops Q i K a w):wpOpIn (Fence.wide.inRound l) n P ops Q i K' a w:=by
 unfold wpOp at h;unfold wpOpIn;cases ho:ops[i]? with
 |none=>rw[ho] at h;exact hK _ _ h
 |some o=>
  rw[ho] at h;simp only at h⊢;by_cases hw:Region.wanted o (yielded ops a.tmps)=true
  ·rw[aB hw] at h⊢;rcases h with h |h
   ·refine⟨fun _ _=>trivial,?_⟩;rw[Oper.semAt_eq _ _ _ (afV iC ho)];unfold Oper.wp at h;generalize (execOp a.eval o).run P w=r at *;cases r with
    |ok nx w'=>
     cases nx with
     |value v=>exact hK _ _ h
     |skip=>exact hK _ _ h
     |defer d=>exact hK _ _ h
     |enter f args=>
      refine⟨fun hd=>absurd hd (show ¬Fence.wide.depth.isSome=true by decide),(fZ (n:=n - 1)).2 (Calls.ae h ?_)⟩;intro e w'' he;cases e with
      |returned v=>exact hK _ _ he
      |panicked c=>exact he
      |outgrown=>exact he
     |row r args=>exact⟨fun hd=>absurd hd (show ¬Fence.wide.depth.isSome=true by decide),fun c cs _=>let ⟨v,w2,r,s⟩:=h c cs;⟨v,w2,hK _ _ r,stepsIn_wide.2 s⟩⟩
     |_=>exact h.elim
    |halt hl w'=>
     cases hl with
     |panic v=>exact h
     |_=>exact h.elim
   ·exact absurd h.2 hlo
  ·rw[aD hw] at h⊢;exact⟨fun _ _=>trivial,hK _ _ h⟩
theorem ack {l:Nat} {P:Program} {md:Region.Mode} (iC:H6 ops=true) (hlo:¬LetsOut Q):∀(fuel:Nat) (listed:Array Bool) (a:Act) (w:World),wpAny P md ops Q fuel listed a w ->wpAnyIn (Fence.wide.inRound l) n P md ops Q fuel listed a w
 |0,_,_,_,h=>h
 |fuel+1,_,_,_,h=>⟨h.1,fun i hi=>agH iC hlo (fun a w=>ack iC hlo fuel _ a w) (h.2 i hi)⟩
theorem wC {l id:Nat} {P:Program} {a:Act} (S:World ->Prop) (hm:P.follows .mixedOrders=true) (iC:H6 ops=true) (hlo:¬LetsOut Q) (hS:S w.drew)
  (h:S w.drew ->wpAnyH P .any ops Q S ops.size (Array.replicate ops.size false) a w.drew):(Code.region id ops true).wpIn (Fence.wide.inRound l) n P Q a w:=
 wpIn_region_any hm (ack iC hlo _ _ _ _ (wpAny_of_held _ _ _ _ (h hS)))
section
attribute [local go_sem] Oper.semAt_some
variable {S vs:List Nat} {V:World}
def D9 (S vs:List Nat) (st:Nat×List Nat) (i:Nat):Nat×List Nat:=(st.1/sz S (vs.getD i 0),st.2.set i (st.1 % sz S (vs.getD i 0)))
def oq (S vs:List Nat) (K n:Nat) (pre:List Nat):Nat×List Nat:=pre.foldl (D9 S vs) (K,List.replicate n 0)
theorem ace (S vs:List Nat) (K n:Nat) (pre:List Nat) (i:Nat):oq S vs K n (pre++[i])=D9 S vs (oq S vs K n pre) i:=by simp[oq]
theorem alT (S vs:List Nat) (K n:Nat) (pre:List Nat):(oq S vs K n pre).1<=K/\(oq S vs K n pre).2.length=n:=by
 have key:∀(l:List Nat) (st:Nat×List Nat),st.1<=K ->st.2.length=n ->(l.foldl (D9 S vs) st).1<=K/\(l.foldl (D9 S vs) st).2.length=n:=by
  intro l;induction l with
  |nil=>intro st h1 h2;exact⟨h1,h2⟩
  |cons i l ih=>
   intro st h1 h2;exact ih _ (aM (vQ _ _) h1) (by simp[D9,h2])
 exact key pre _ (ak _) (by simp)
theorem acf (S vs:List Nat) (K:Nat):∀m,m<=vs.length ->oq S vs K vs.length (lM vs.length m)=(K/cnt S (vs.drop (vs.length - m)),List.replicate (vs.length - m) 0++kR S (vs.drop (vs.length - m)) (K % cnt S (vs.drop (vs.length - m))))
 |0,_=>by simp[oq,lM,cnt,kR]
 |m+1,h=>by
  rw[Nv,ace,acf S vs K m (by omega)];have hj:vs.length - 1 - m<vs.length:=by omega
  have e1:vs.length - (m+1)=vs.length - 1 - m:=by omega
  have e2:vs.length - m=(vs.length - 1 - m)+1:=by omega
  have hd:vs.drop (vs.length - 1 - m)=vs[vs.length - 1 - m]::vs.drop ((vs.length - 1 - m)+1):=mU hj;rw[e1,e2,hd,D9,Bz hj];generalize vs.drop ((vs.length - 1 - m)+1)=rest;generalize vs[vs.length - 1 - m]=v;generalize vs.length - 1 - m=j;simp only[cnt,kR];rw[YV,YU,OS,dC (cnt S rest),List.replicate_succ',jh,Cu _ _ (by simp)];simp
theorem alU {K:Nat} (h:K<cnt S vs):oq S vs K vs.length (lM vs.length vs.length)=(0,kR S vs K):=by
 rw[acf S vs K _ (ak _),nD];simp[iQ h,vR h]
theorem Tv (n:Nat) (a:Option Addr) (len cap:Nat) (w:World):
  CallsIn Fence.wide n Tryz.prog 159 #[.slice a len cap] w fun e w'=>e=.returned (.func (.func 201) #[] #[.pointer (some ⟨w.heap.size,0,none⟩)])/\w'=w.alloc (.cells #[.slice a len cap] 27):=by
 refine EK Tryz.func159 rfl trivial ?_ rfl;simp only[Tryz.ntmps159,k9,di,jG,Nat.reduceAdd,Nat.reduceSub,lh,lg,ld,kF,gi,eC];gi_wp2
 go_ret;exact⟨rfl,rfl⟩
theorem Tu (n:Nat) (hn:1<=n) (Bn B:Nat) (a:Option Addr) (cap:Nat) (xs:List Int) (hl:xs.length<=140737488355328) (w:World) (DW:Bn<w.heap.size) (hB:B<=w.heap.size) (hc:w.cell? ⟨Bn,0,none⟩=some (.slice a xs.length cap)) (hx:Ed B w a xs):
  SeqStopsK Fence.wide n Tryz.prog 201 #[.pointer (some ⟨Bn,0,none⟩)] (Tw xs) (qU Bn B) (fun ys=>ys.map (·.1)=lM xs.length xs.length) (fun pre=>∃k,k<=xs.length/\pre.map (·.1)=lM xs.length k) xs.length w:=fun l J Jx V hV _ _ hY h0=>
 alO n hn l Bn B a cap xs hl J Jx hY V ((hV.cell (p:=⟨Bn,0,none⟩) DW).trans hc) (hx.aa (hV.ae hB)) h0
theorem Lh {β:Type} (g:Nat) (f:β ->List Nat):Own (fun s W=>cN W g (f s)):=fun s X Y row hs hg hrow=>by
 refine(hg.block g hs.lt fun e'=>?_).trans hs;obtain⟨o,ho,hc⟩:=hrow g e'.symm;rw[show X.heap[g]? =_ from hs] at ho;cases ho;cases hc
theorem Y4 (w:World) (n:Nat):cN (w.alloc (.cells (madeCells #[Value.int .i64 0] n) 3)) w.heap.size (List.replicate n 0):=by
 have h:(madeCells #[Value.int .i64 0] n).toList=(List.replicate n (0:Nat)).map iv:=by
  have:=Fy n;rwa [oF,show (Value.int .i64 0).cells= #[Value.int .i64 0] from rfl] at this
 have e:madeCells #[Value.int .i64 0] n=((List.replicate n (0:Nat)).map iv).toArray:=by rw[<- h]
 rw[cN, <- e];exact fP _ _
theorem cN.alloc {l:List Nat} (h:cN w g l) (o:Obj):cN (w.alloc o) g l:=(qg w o g h.lt).trans h
theorem fS {t:TypeId} {v:Value} (h:Boxed V k t v) (b j:Nat) (y:Value) (hne:k≠b):Boxed (V.setCell ⟨b,j,none⟩ y) k t v:=(iU V ⟨b,j,none⟩ y k hne).trans h
theorem cN.off {l:List Nat} (h:cN V g l) (b j:Nat) (y:Value) (hne:g≠b):cN (V.setCell ⟨b,j,none⟩ y) g l:=(iU V ⟨b,j,none⟩ y g hne).trans h
end
section
attribute [local go_sem] Oper.semAt_some
variable {S:List Nat}
def kI (S:List Nat) (n:Nat) (vs:List Nat):List Nat:=(List.range n).map (cC S vs)
theorem nL (S:List Nat) (n:Nat) (vs:List Nat):(kI S n vs).length=n:=by simp[kI]
theorem aei (S:List Nat) (n:Nat):kI S n []=List.replicate n 0:=by
 apply rC<;>simp[kI,cC]
theorem aek (S:List Nat) (n u:Nat) (vs:List Nat):(kI S n vs).set u (cnt S vs)=kI S n (u::vs):=by
 apply rC
 ·simp[kI]
 ·intro i h1 h2;simp only[kI,List.getElem_set,nE,Hd,cC];by_cases e:u=i
  ·rw[aB e,aB e.symm]
  ·rw[aD e,aD (fun h=>e h.symm)]
theorem aej (S:List Nat) (n:Nat) (vs:List Nat) (h:v<n):(kI S n vs)[v]'(by rw[nL];exact h)=cC S vs v:=by simp[kI]
def Au (S vs:List Nat) (st:Nat×List Nat) (i:Nat):Nat×List Nat:=(st.1*sz S (vs.getD i 0),st.2.set (vs.getD i 0) st.1)
def nM (S vs:List Nat) (n:Nat) (pre:List Nat):Nat×List Nat:=pre.foldl (Au S vs) (1,List.replicate n 0)
theorem Wp (S vs:List Nat) (n:Nat) (pre:List Nat) (i:Nat):nM S vs n (pre++[i])=Au S vs (nM S vs n pre) i:=by simp[nM]
theorem Wq (S vs:List Nat) (n:Nat):∀m,m<=vs.length ->nM S vs n (lM vs.length m)=(cnt S (vs.drop (vs.length - m)),kI S n (vs.drop (vs.length - m)))
 |0,_=>by simp[nM,lM,cnt,aei]
 |m+1,h=>by
  rw[Nv,Wp,Wq S vs n m (by omega)];have hj:vs.length - 1 - m<vs.length:=by omega
  have e1:vs.length - (m+1)=vs.length - 1 - m:=by omega
  have e2:vs.length - m=(vs.length - 1 - m)+1:=by omega
  have hd:vs.drop (vs.length - 1 - m)=vs[vs.length - 1 - m]::vs.drop ((vs.length - 1 - m)+1):=mU hj;rw[e1,e2,hd,Au,Bz hj];simp only[cnt,aek];rw[dC]
theorem ael (hs:∀v,sz S v<=4) (vs:List Nat) (n:Nat) (pre:List Nat):(nM S vs n pre).1<=4^pre.length/\(nM S vs n pre).2.length=n:=by
 have key:∀(l:List Nat) (st:Nat×List Nat),st.2.length=n ->(l.foldl (Au S vs) st).1<=st.1*4^l.length/\(l.foldl (Au S vs) st).2.length=n:=by
  intro l;induction l with
  |nil=>intro st h2;exact⟨by simp,h2⟩
  |cons i l ih=>
   intro st h2;obtain⟨h3,h4⟩:=ih (Au S vs st i) (by simp[Au,h2]);refine⟨aM h3 ?_,h4⟩;show st.1*sz S (vs.getD i 0)*4^l.length<=st.1*4^(l.length+1);rw[gS,dC (4^l.length), <- ie];exact jD _ (kE _ (hs _))
 have h:=key pre (1,List.replicate n 0) (by simp);rwa [jZ] at h
theorem aem (S vs:List Nat) (n:Nat):nM S vs n (lM vs.length vs.length)=(cnt S vs,kI S n vs):=by
 rw[Wq S vs n _ (ak _),nD,CA]
theorem Ws (a b:Option Addr) (ca cb:Nat) (sizes vars:List Int) (w:World) (hs:aC w a sizes) (hv:aC w b vars) (aN:eK sizes) (aT:Up vars sizes.length):
  Calls Tryz.prog 199 #[.slice a sizes.length ca,.slice b vars.length cb] w fun e w'=>∃(c cc:Nat),e=.returned (.slice (some ⟨c,0,none⟩) sizes.length cc)/\w.heap.size<=c/\aC w' (some ⟨c,0,none⟩) (iL (kI (af sizes) sizes.length (af vars)))/\Below w.heap.size w w':=by
 refine(fZ (n:=6)).1 ?_;have pI:=aN.eight;have iA:=aT.length;have hsm:cnt (af sizes) (af vars)<=65536:=rY aN.sz_le (by rw[dR];omega);have hmk:=fun V=>run_make_row' (P:=Tryz.prog) 27 3 (.int .i64 0) 8 Tryz.underlying27 Tryz.infoInt rfl .i64 .i64 sizes.length (by omega) (by omega) V;have HS:=hid hs;have HV:=hid hv;have cU:=hid aN;have kz:=hid aT;have sI:=hid (aem (af sizes) (af vars) sizes.length);rw[dR] at sI;clear hs hv aN aT;refine rq Tryz.func199 rfl trivial ?_ rfl;simp only[Tryz.ntmps199,k9,di,jG,Nat.reduceAdd,Nat.reduceSub,lh,lg,ld,kF,gi,eC];gi_wp2_with ((refine⟨trivial,?_⟩;gi_at_call 159;refine(Tv _ _ _ _ _).ae ?_;rintro e w2 ⟨rfl,rfl⟩))
 obtain⟨W0,hW0⟩:∃W0,W0=(((((w.alloc (.cells #[.slice a sizes.length ca] 27)).alloc (.cells #[.int .i64 1] 3)).alloc (.cells (madeCells #[.int .i64 0] sizes.length) 3)).alloc (.cells #[.slice (some ⟨w.heap.size+1+1,0,none⟩) sizes.length sizes.length] 27)).alloc (.cells #[.slice b vars.length cb] 27)):=⟨_,rfl⟩;have wQ:W0.heap.size=w.heap.size+1+1+1+1+1:=by rw[hW0];simp
 have b0:Boxed W0 w.heap.size 27 (.slice a sizes.length ca):=by rw[hW0];exact((((aZ w _ _).alloc _).alloc _).alloc _).alloc _
 have b1:Boxed W0 (w.heap.size+1) 3 (.int .i64 1):=by
  have h:=((((aZ (w.alloc (.cells #[.slice a sizes.length ca] 27)) 3 (.int .i64 1)).alloc (.cells (madeCells #[.int .i64 0] sizes.length) 3)).alloc (.cells #[.slice (some ⟨w.heap.size+1+1,0,none⟩) sizes.length sizes.length] 27)).alloc (.cells #[.slice b vars.length cb] 27));rw[dE] at h;rw[hW0];exact h
 have r2:cN W0 (w.heap.size+1+1) (List.replicate sizes.length 0):=by
  have h:=((Y4 ((w.alloc (.cells #[.slice a sizes.length ca] 27)).alloc (.cells #[.int .i64 1] 3)) sizes.length).alloc (.cells #[.slice (some ⟨w.heap.size+1+1,0,none⟩) sizes.length sizes.length] 27)).alloc (.cells #[.slice b vars.length cb] 27);rw[dE,dE] at h;rw[hW0];exact h
 have b3:Boxed W0 (w.heap.size+1+1+1) 27 (.slice (some ⟨w.heap.size+1+1,0,none⟩) sizes.length sizes.length):=by
  have h:=(aZ (((w.alloc (.cells #[.slice a sizes.length ca] 27)).alloc (.cells #[.int .i64 1] 3)).alloc (.cells (madeCells #[.int .i64 0] sizes.length) 3)) 27 (.slice (some ⟨w.heap.size+1+1,0,none⟩) sizes.length sizes.length)).alloc (.cells #[.slice b vars.length cb] 27);rw[dE,dE,dE] at h;rw[hW0];exact h
 have b4:Boxed W0 (w.heap.size+1+1+1+1) 27 (.slice b vars.length cb):=by
  have h:=aZ ((((w.alloc (.cells #[.slice a sizes.length ca] 27)).alloc (.cells #[.int .i64 1] 3)).alloc (.cells (madeCells #[.int .i64 0] sizes.length) 3)).alloc (.cells #[.slice (some ⟨w.heap.size+1+1,0,none⟩) sizes.length sizes.length] 27)) 27 (.slice b vars.length cb);rw[dE,dE,dE,dE] at h;rw[hW0];exact h
 have hB0:Below w.heap.size w W0:=by
  rw[hW0];exact(((((aw _ w).alloc (ak _) _).alloc (by simp) _).alloc (by simp;omega) _).alloc (by simp;omega) _).alloc (by simp;omega) _
 rw[<- hW0];clear hW0
 refine KG (α:=At vars) rfl (by omega) (gf:=201) (lb:= #[.pointer (some ⟨w.heap.size+1+1+1+1,0,none⟩)]) rfl trivial (enters_of Tryz.func201 (by kernel_rfl) rfl)
  (Tu 5 (by omega) (w.heap.size+1+1+1+1) w.heap.size b cb vars (by omega) W0 (by omega) (by omega) b4.cell (HV.o.toB.aa hB0)) qU.t (qU.b (by omega) (by omega)) (aw _ _) (fun _=>rfl)
  (fun (pre:List (At vars)) V=>Boxed V w.heap.size 27 (.slice a sizes.length ca)/\Boxed V (w.heap.size+1) 3 (.int .i64 ((nM (af sizes) (af vars) sizes.length (pre.map (·.1))).1:Nat))/\cN V (w.heap.size+1+1) (nM (af sizes) (af vars) sizes.length (pre.map (·.1))).2/\Boxed V (w.heap.size+1+1+1) 27 (.slice (some ⟨w.heap.size+1+1,0,none⟩) sizes.length sizes.length)/\Boxed V (w.heap.size+1+1+1+1) 27 (.slice b vars.length cb)/\Below w.heap.size w V)
  (fun _ _ _=>False)
  (eG (fB (iH _ _ (fun _=>_)) _) (eG (fB (iH _ _ (fun pre:List (At vars)=>.int .i64 ((nM (af sizes) (af vars) sizes.length (pre.map (·.1))).1:Nat))) _) (eG (fB (Lh _ (fun pre:List (At vars)=>(nM (af sizes) (af vars) sizes.length (pre.map (·.1))).2)) _) (eG (fB (iH _ _ (fun _=>_)) _) (eG (fB (iH _ _ (fun _=>_)) _) (x7 (ak _) (by omega)))))))
  (fun _ _ _ _ _ hs _ _=>hs)
  ⟨b0,b1,r2,b3,b4,hB0⟩
  (fun x=> {tmps:= #[.slice a sizes.length ca,.slice b vars.length cb,.pointer (some ⟨w.heap.size,0,none⟩),undef,.slice none 0 0,.pointer (some ⟨w.heap.size+1,0,none⟩),.pointer (some ⟨w.heap.size+1+1+1,0,none⟩),undef,.int .i64 (vars[x.1]'x.2),.slice a sizes.length ca,.int .i64 (sizes.length:Nat),.slice (some ⟨w.heap.size+1+1,0,none⟩) sizes.length sizes.length,.slice b vars.length cb,.func (.func 201) #[] #[.pointer (some ⟨w.heap.size+1+1+1+1,0,none⟩)],.int .i64 (x.1:Nat),.int .i64 (vars[x.1]'x.2),undef,undef,undef,undef,undef,undef,undef,undef,undef,undef,undef],defers:=[]}) ?assign ?body ?done ?stop
 case assign=>
  intro l x V K hK;gi_wp2
  exact hK
 case body=>
  rintro l pre ⟨i,hi⟩ V ⟨h0,h1,h2,h3,h4,hB⟩ hlt;obtain⟨jq,jN⟩:=kz.o.nat hi
  have HST:Hid (nM (af sizes) (af vars) sizes.length ((pre++[(⟨i,hi⟩:At vars)]).map (·.1))=((nM (af sizes) (af vars) sizes.length (pre.map (·.1))).1*sz (af sizes) vars[i].toNat,(nM (af sizes) (af vars) sizes.length (pre.map (·.1))).2.set vars[i].toNat (nM (af sizes) (af vars) sizes.length (pre.map (·.1))).1)):=by
   show _=_;rw[dY,fH,j5,Wp,Au,Bz (show i<(af vars).length by rw[dR];exact hi),rG hi]
  obtain⟨i7,hpl⟩:=ael cU.o.sz_le (af vars) sizes.length (pre.map (·.1));have hp7:(4:Nat)^(pre.map (·.1)).length<=16384:=aM (jf (by omega) (show (pre.map (·.1)).length<=7 by rw[cH];omega)) (by decide);have aac:=aM i7 hp7;have hz:=mh cU.o.pos vars[i].toNat;have Fz:=cU.o.sz_le vars[i].toNat;clear i7 hp7;generalize hV:vars[i].toNat=v at *;rw[<- jq];obtain⟨g',o',rfl,gD,c1⟩:=(HS.o.aa hB) v jN;rw[<- cU.o.sz_eq jN] at c1
  have hg2:g'<w.heap.size:=by
   obtain⟨g3,o3,e3,h3,_⟩:=HS.o v jN;cases e3;exact h3
  clear jq hV;generalize nM (af sizes) (af vars) sizes.length (pre.map (·.1))=st at *;obtain⟨p,Ea⟩:=st;simp only at h1 h2 aac hpl HST;generalize sz (af sizes) v=s0 at *;have hrow:=h2.cell v (by omega);have hfz:=h2.fz v;have k0:=h0.cell;have k1:=h1.cell;have k3:=h3.cell;have eo:p*s0<=65536:=aM (jE aac Fz) (by decide);have ID:(p:Int)*(s0:Int)=((p*s0:Nat):Int):=(j6 _ _).symm;have jr:v<Ea.length:=by omega
  generalize Ea[v]=z at *;have hw2:IntKind.i64.wrap ((p:Int)*(s0:Int))=(p:Int)*(s0:Int):=by rw[ID,gV];omega
  have HPM:=hid ID;clear ID;clear hmk b0 b1 r2 b3 b4 hB0 wQ sI kz cU HV hsm hpl;gi_wp2_with fail
  have far:∀(b j:Nat),¬w.heap.size+1+1=b ->(V.setCell ⟨w.heap.size+1+1,v,none⟩ (.int .i64 (p:Int))).cell? ⟨b,j,none⟩=V.cell? ⟨b,j,none⟩:=fun b j hb=>dX _ _ _ _ (fun e=>hb (by cases e;rfl));have m2:=(far g' (o'+v) (by omega)).trans c1;have q0:Boxed (V.setCell ⟨w.heap.size+1+1,v,none⟩ (.int .i64 (p:Int))) w.heap.size 27 (.slice (some ⟨g',o',none⟩) sizes.length ca):=fS h0 _ v _ (by omega);have q1:Boxed (V.setCell ⟨w.heap.size+1+1,v,none⟩ (.int .i64 (p:Int))) (w.heap.size+1) 3 (.int .i64 (p:Nat)):=fS h1 _ v _ (by omega);have q3:Boxed (V.setCell ⟨w.heap.size+1+1,v,none⟩ (.int .i64 (p:Int))) (w.heap.size+1+1+1) 27 (.slice (some ⟨w.heap.size+1+1,0,none⟩) sizes.length sizes.length):=fS h3 _ v _ (by omega);have q4:Boxed (V.setCell ⟨w.heap.size+1+1,v,none⟩ (.int .i64 (p:Int))) (w.heap.size+1+1+1+1) 27 (.slice b vars.length cb):=fS h4 _ v _ (by omega);have q2:cN (V.setCell ⟨w.heap.size+1+1,v,none⟩ (.int .i64 (p:Int))) (w.heap.size+1+1) (Ea.set v p):=h2.set v p;have qB:Below w.heap.size w (V.setCell ⟨w.heap.size+1+1,v,none⟩ (.int .i64 (p:Int))):=hB.setCell (p:=⟨w.heap.size+1+1,v,none⟩) (by simp;omega) _;have qK:Below w.heap.size V (V.setCell ⟨w.heap.size+1+1,v,none⟩ (.int .i64 (p:Int))):=(aw w.heap.size V).setCell (p:=⟨w.heap.size+1+1,v,none⟩) (by simp;omega) _;have qO:KeepsOthers V (V.setCell ⟨w.heap.size+1+1,v,none⟩ (.int .i64 (p:Int))):=ji V _ _;have j4:mK (w.heap.size+1+1+1+1) V (V.setCell ⟨w.heap.size+1+1,v,none⟩ (.int .i64 (p:Int))):=q4.cell.trans h4.cell.symm;have m0:=q0.cell
  have m1:=q1.cell;have fU:=q1.frozen;clear far;generalize (V.setCell ⟨w.heap.size+1+1,v,none⟩ (.int .i64 (p:Int)))=U at *;refine wC (fun u=>u.cell? ⟨w.heap.size,0,none⟩=some (.slice (some ⟨g',o',none⟩) sizes.length ca)/\u.cell? ⟨g',o'+v,none⟩=some (.int .i64 (s0:Nat))) (by kernel_rfl) (by kernel_rfl) (fun ⟨_,_,h⟩=>h) ⟨m0,m2⟩ ?_;intro ah;refine dm 1 (.slice (some ⟨g',o',none⟩) sizes.length ca) ?_ ?_
  ·intro u aS;obtain⟨s3,s4⟩:=aS;simp only[gE];go_simp
  simp only[gE,aP];refine dm 2 (.int .i64 (v:Nat)) ?_ ?_
  ·intro u aS;obtain⟨s3,s4⟩:=aS;simp only[gE];go_simp
  simp only[gE,aP];refine dm 3 (.pointer (some ⟨g',o'+v,none⟩)) ?_ ?_
  ·intro u aS;obtain⟨s3,s4⟩:=aS;simp only[gE];go_simp
  simp only[gE,aP];refine dm 4 (.int .i64 (s0:Nat)) ?_ ?_
  ·intro u aS;obtain⟨s3,s4⟩:=aS;simp only[gE];go_simp
  simp only[gE,aP];refine aI [0] (cA ?_ aH);intro K' hK';simp only[gE];go_simp;refine hK'.o _ _ ah (fun _=>?_);clear hK' K';refine dm 5 (.int .i64 ((p:Int)*(s0:Int))) ?_ ?_
  ·intro u aS;obtain⟨s3,s4⟩:=aS;simp only[gE];go_simp
  simp only[gE,aP];refine aI [6] (cA ?_ aH);intro K' hK';simp only[gE];go_simp;refine hK'.o _ _ ⟨(fS q0 (w.heap.size+1) 0 _ (by omega)).cell,(dX _ _ _ _ (fun e=>(show ¬w.heap.size+1=g' by omega) (dt Addr.block e))).trans m2⟩ (fun _=>dW (by kernel_rfl) ?_ _);clear hK' K' ah;gi_wp2
  rw[HPM.o];refine⟨(qO.trans ((ji U _ _).trans (ym _))).from _,⟨j4.t ((fS q4 (w.heap.size+1) 0 (.int .i64 ((p*s0:Nat):Int)) (by omega)).cell.trans q4.cell.symm),(qK.setCell (p:=⟨w.heap.size+1,0,none⟩) (by simp) _).drew⟩,?_⟩;refine⟨fS q0 _ 0 _ (by omega),?_,?_,fS q3 _ 0 _ (by omega),fS q4 _ 0 _ (by omega),(qB.setCell (p:=⟨w.heap.size+1,0,none⟩) (by simp) _).drew⟩
  ·rw[HST.o];exact q1.set _
  ·rw[HST.o];exact q2.off _ 0 _ (by omega)
 case done=>
  rintro D ys V hD AG ⟨h0,h1,h2,h3,h4,hB⟩ hK;rw[AG,sI.o] at h2;have hc:=h3.cell;gi_wp2
  refine⟨by simp,.inl ⟨_,_,rfl,x5 hK,?_⟩⟩;refine⟨_,x6 rfl _ _ _,?_⟩;refine⟨w.heap.size+1+1,⟨sizes.length,rfl⟩,by omega,?_,hB.trans (sK (w:=w) (ak _) V D _ _ (by omega) hK rfl rfl)⟩;have h2':cN (V.putObj D (.deferred none)) (w.heap.size+1+1) (kI (af sizes) sizes.length (af vars)):=Lh (w.heap.size+1+1) (fun (_:Unit)=>kI (af sizes) sizes.length (af vars)) () V _ (some D) h2 (grownBy_putObj' V D _) (fun r e=>by cases e;exact⟨_,hK,rfl⟩);exact h2'.ints
 case stop=>
  rintro D c pre V _ _ h _;exact h.elim
end
section
attribute [local go_sem] Oper.semAt_some
variable {S vs:List Nat}
def CD (S vs ts:List Nat) (st:Nat×Nat) (i:Nat):Nat×Nat:=(st.1/sz S (vs.getD i 0),st.2+st.1 % sz S (vs.getD i 0)*ts.getD (vs.getD i 0) 0)
def nN (S vs ts:List Nat) (K:Nat) (pre:List Nat):Nat×Nat:=pre.foldl (CD S vs ts) (K,0)
theorem Wu (S vs ts:List Nat) (K:Nat) (pre:List Nat) (i:Nat):nN S vs ts K (pre++[i])=CD S vs ts (nN S vs ts K pre) i:=by simp[nN]
theorem aen (hp:Pos S) (hs:∀v,sz S v<=4) (vs ts:List Nat) (ht:∀v,ts.getD v 0<=65536) (K:Nat) (pre:List Nat):(nN S vs ts K pre).1<=K/\(nN S vs ts K pre).2<=262144*pre.length:=by
 have key:∀(l:List Nat) (st:Nat×Nat),(l.foldl (CD S vs ts) st).1<=st.1/\(l.foldl (CD S vs ts) st).2<=st.2+262144*l.length:=by
  intro l;induction l with
  |nil=>intro st;exact⟨ak _,by simp⟩
  |cons i l ih=>
   intro st;obtain⟨h3,h4⟩:=ih (CD S vs ts st i);refine⟨aM h3 (vQ _ _),aM h4 ?_⟩;have h1:=gJ st.1 (show 0<sz S (vs.getD i 0) from mh hp _);have h2:st.1 % sz S (vs.getD i 0)*ts.getD (vs.getD i 0) 0<=4*65536:=jE (by have:=hs (vs.getD i 0);omega) (ht _);show st.2+st.1 % sz S (vs.getD i 0)*ts.getD (vs.getD i 0) 0+_<=_;rw[di];omega
 have h:=key pre (K,0);rwa [bI] at h
theorem Wv (hn:vs.Nodup) (ts:List Nat) (K:Nat):∀m,m<=vs.length ->nN S vs ts K (lM vs.length m)=(K/cnt S (vs.drop (vs.length - m)),eM (fun v=>a8 S (vs.drop (vs.length - m)) (K % cnt S (vs.drop (vs.length - m))) v*ts.getD v 0) (vs.drop (vs.length - m)))
 |0,_=>by simp[nN,lM,cnt,eM]
 |m+1,h=>by
  rw[Nv,Wu,Wv hn ts K m (by omega)];have hj:vs.length - 1 - m<vs.length:=by omega
  have e1:vs.length - (m+1)=vs.length - 1 - m:=by omega
  have e2:vs.length - m=(vs.length - 1 - m)+1:=by omega
  have hd:vs.drop (vs.length - 1 - m)=vs[vs.length - 1 - m]::vs.drop ((vs.length - 1 - m)+1):=mU hj;have iC:(vs.drop (vs.length - 1 - m)).Nodup:=hn.sublist (List.drop_sublist _ _);rw[hd,mR] at iC;rw[e1,e2,hd,CD,Bz hj];generalize vs.drop ((vs.length - 1 - m)+1)=rest at iC⊢;generalize vs[vs.length - 1 - m]=u at iC⊢;simp only[alS];rw[cnt,OS,dC (cnt S rest),eM,aB rfl,z8];congr 2
  refine E6 fun v hv=>?_;rw[aD (fun e=>iC.1 (by rw[<- e];exact hv))]
theorem aeo (hn:vs.Nodup) (ts:List Nat) {K:Nat} (h:K<cnt S vs):nN S vs ts K (lM vs.length vs.length)=(0,eM (fun v=>a8 S vs K v*ts.getD v 0) vs):=by
 rw[Wv hn ts K _ (ak _),nD,CA,iQ h,vR h]
theorem aeq (Bv Bs Bt:Nat) (a b t:Option Addr) (ca cb ct:Nat) (sizes vars:List Int) (ts:List Nat) (K:Nat) (w:World) (F3:Bv<w.heap.size) (DV:Bs<w.heap.size) (uP:Bt<w.heap.size) (xv:w.cell? ⟨Bv,0,none⟩=some (.slice b vars.length cb)) (xs:w.cell? ⟨Bs,0,none⟩=some (.slice a sizes.length ca)) (xt:w.cell? ⟨Bt,0,none⟩=some (.slice t sizes.length ct))
  (hs:aC w a sizes) (hv:aC w b vars) (ht:aC w t (iL ts)) (nT:ts.length=sizes.length) (yO:∀v,ts.getD v 0<=65536) (aN:eK sizes) (aT:Up vars sizes.length) (hK:K<cnt (af sizes) (af vars)) (iC:(af vars).Nodup):
  Calls Tryz.prog 234 #[.int .i64 (K:Nat),.pointer (some ⟨Bv,0,none⟩),.pointer (some ⟨Bs,0,none⟩),.pointer (some ⟨Bt,0,none⟩)] w fun e w'=>e=.returned (.int .i64 (eM (fun v=>a8 (af sizes) (af vars) K v*ts.getD v 0) (af vars):Nat))/\Below w.heap.size w w':=by
 refine(fZ (n:=6)).1 ?_;have pI:=aN.eight;have iA:=aT.length;have hsm:cnt (af sizes) (af vars)<=65536:=rY aN.sz_le (by rw[dR];omega);have HS:=hid hs;have HV:=hid hv;have HT:=hid ht;have cU:=hid aN;have kz:=hid aT;have dU:=hid yO;have sI:=hid (aeo iC ts hK);rw[dR] at sI;clear hs hv aN aT ht yO;refine rq Tryz.func234 rfl trivial ?_ rfl;simp only[Tryz.ntmps234,k9,di,jG,Nat.reduceAdd,Nat.reduceSub,lh,lg,ld,kF,gi,eC];gi_wp2_with ((refine⟨trivial,?_⟩;gi_at_call 159;refine(Tv _ _ _ _ _).ae ?_;rintro e w2 ⟨rfl,rfl⟩))
 obtain⟨W0,hW0⟩:∃W0,W0=(((w.alloc (.cells #[.int .i64 (K:Nat)] 3)).alloc (.cells #[.int .i64 0] 3)).alloc (.cells #[.slice b vars.length cb] 27)):=⟨_,rfl⟩;have wQ:W0.heap.size=w.heap.size+1+1+1:=by rw[hW0];simp
 have b0:Boxed W0 w.heap.size 3 (.int .i64 (K:Nat)):=by rw[hW0];exact((aZ w _ _).alloc _).alloc _
 have b1:Boxed W0 (w.heap.size+1) 3 (.int .i64 0):=by
  have h:=(aZ (w.alloc (.cells #[.int .i64 (K:Nat)] 3)) 3 (.int .i64 0)).alloc (.cells #[.slice b vars.length cb] 27);rw[dE] at h;rw[hW0];exact h
 have b4:Boxed W0 (w.heap.size+1+1) 27 (.slice b vars.length cb):=by
  have h:=aZ ((w.alloc (.cells #[.int .i64 (K:Nat)] 3)).alloc (.cells #[.int .i64 0] 3)) 27 (.slice b vars.length cb);rw[dE,dE] at h;rw[hW0];exact h
 have hB0:Below w.heap.size w W0:=by
  rw[hW0];exact(((aw _ w).alloc (ak _) _).alloc (by simp) _).alloc (by simp;omega) _
 rw[<- hW0];clear hW0
 refine KG (α:=At vars) rfl (by omega) (gf:=201) (lb:= #[.pointer (some ⟨w.heap.size+1+1,0,none⟩)]) rfl trivial (enters_of Tryz.func201 (by kernel_rfl) rfl)
  (Tu 5 (by omega) (w.heap.size+1+1) w.heap.size b cb vars (by omega) W0 (by omega) (by omega) b4.cell (HV.o.toB.aa hB0)) qU.t (qU.b (by omega) (by omega)) (aw _ _) (fun _=>rfl)
  (fun (pre:List (At vars)) V=>Boxed V w.heap.size 3 (.int .i64 ((nN (af sizes) (af vars) ts K (pre.map (·.1))).1:Nat))/\Boxed V (w.heap.size+1) 3 (.int .i64 ((nN (af sizes) (af vars) ts K (pre.map (·.1))).2:Nat))/\Boxed V (w.heap.size+1+1) 27 (.slice b vars.length cb)/\Below w.heap.size w V)
  (fun _ _ _=>False)
  (eG (fB (iH _ _ (fun pre:List (At vars)=>.int .i64 ((nN (af sizes) (af vars) ts K (pre.map (·.1))).1:Nat))) _) (eG (fB (iH _ _ (fun pre:List (At vars)=>.int .i64 ((nN (af sizes) (af vars) ts K (pre.map (·.1))).2:Nat))) _) (eG (fB (iH _ _ (fun _=>_)) _) (x7 (ak _) (by omega)))))
  (fun _ _ _ _ _ hs _ _=>hs)
  ⟨b0,b1,b4,hB0⟩
  (fun x=> {tmps:= #[.int .i64 (K:Nat),.pointer (some ⟨Bv,0,none⟩),.pointer (some ⟨Bs,0,none⟩),.pointer (some ⟨Bt,0,none⟩),.pointer (some ⟨w.heap.size,0,none⟩),.int .i64 0,.pointer (some ⟨w.heap.size+1,0,none⟩),undef,.int .i64 (vars[x.1]'x.2),.slice b vars.length cb,.func (.func 201) #[] #[.pointer (some ⟨w.heap.size+1+1,0,none⟩)],.int .i64 (x.1:Nat),.int .i64 (vars[x.1]'x.2),undef,undef,undef,undef,undef,undef,undef,undef,undef,undef,undef,undef,undef,undef,undef,undef,undef,undef,undef,undef],defers:=[]}) ?assign ?body ?done ?stop
 case assign=>
  intro l x V K hK;gi_wp2
  exact hK
 case body=>
  rintro l pre ⟨i,hi⟩ V ⟨h0,h1,h4,hB⟩ hlt;obtain⟨jq,jN⟩:=kz.o.nat hi
  have HST:Hid (nN (af sizes) (af vars) ts K ((pre++[(⟨i,hi⟩:At vars)]).map (·.1))=((nN (af sizes) (af vars) ts K (pre.map (·.1))).1/sz (af sizes) vars[i].toNat,(nN (af sizes) (af vars) ts K (pre.map (·.1))).2+(nN (af sizes) (af vars) ts K (pre.map (·.1))).1 % sz (af sizes) vars[i].toNat*ts.getD vars[i].toNat 0)):=by
   show _=_;rw[dY,fH,j5,Wu,CD,Bz (show i<(af vars).length by rw[dR];exact hi),rG hi]
  obtain⟨i7,hpl⟩:=aen cU.o.pos cU.o.sz_le (af vars) ts dU.o K (pre.map (·.1));rw[cH] at hpl;have hz:=mh cU.o.pos vars[i].toNat;have Fz:=cU.o.sz_le vars[i].toNat;have yO:=dU.o vars[i].toNat;generalize hV:vars[i].toNat=v at *;rw[<- jq];obtain⟨g',o',rfl,gD,c1⟩:=(HS.o.aa hB) v jN;rw[<- cU.o.sz_eq jN] at c1
  have hg2:g'<w.heap.size:=by
   obtain⟨g3,o3,e3,h3,_⟩:=HS.o v jN;cases e3;exact h3
  have C1:v<(iL ts).length:=by rw[bF];omega
  obtain⟨gt,ot,rfl,anp,c2⟩:=(HT.o.aa hB) v C1
  have ai7:gt<w.heap.size:=by
   obtain⟨g3,o3,e3,h3,_⟩:=HT.o v C1;cases e3;exact h3
  have ZL:(iL ts)[v]=((ts.getD v 0:Nat):Int):=by rw[Bz (by omega)];simp[iL]
  rw[ZL] at c2;clear ZL jq hV;generalize nN (af sizes) (af vars) ts K (pre.map (·.1))=st at *;obtain⟨p,r0⟩:=st;simp only at h0 h1 i7 hpl HST;generalize sz (af sizes) v=s0 at *;generalize ts.getD v 0=t0 at *;have k0:=h0.cell;have k1:=h1.cell;have ks:=(hB.cell (p:=⟨Bs,0,none⟩) DV).trans xs;have kt:=(hB.cell (p:=⟨Bt,0,none⟩) uP).trans xt;have f1:=h1.frozen;have Da:(p:Int) % (s0:Int)=((p % s0:Nat):Int):=(rD _ _).symm;have oQ:(p:Int)/(s0:Int)=((p/s0:Nat):Int):=(vX _ _).symm;have hm1:p % s0<=3:=by have:=gJ p (show 0<s0 by omega);omega
  have a7:p/s0<=65536:=aM (vQ _ _) (by omega);generalize p % s0=mm at *;generalize p/s0=dd at *;have Rn:mm*t0<=196608:=aM (jE hm1 yO) (by decide);have hmc:(mm:Int)*(t0:Int)=((mm*t0:Nat):Int):=(j6 _ _).symm;have hw2:IntKind.i64.wrap ((p:Int)/(s0:Int))=(p:Int)/(s0:Int):=by rw[oQ,gV];omega
  have hw3:IntKind.i64.wrap ((mm:Int)*(t0:Int))=(mm:Int)*(t0:Int):=by rw[hmc,gV];omega
  have hw4:IntKind.i64.wrap ((r0:Int)+(mm:Int)*(t0:Int))=(r0:Int)+(mm:Int)*(t0:Int):=by rw[hmc,gV];omega
  have Gx:=hid Da;have xJ:=hid oQ;have vv:Hid ((r0:Int)+(mm:Int)*(t0:Int)=((r0+mm*t0:Nat):Int)):=by show _=_;rw[hmc];exact(Aj _ _).symm
  clear Da oQ hmc;clear b0 b1 b4 hB0 wQ sI kz cU HV dU hsm hK;gi_wp2_with fail
  refine wC (fun u=>u.cell? ⟨w.heap.size,0,none⟩=some (.int .i64 (p:Nat))/\u.cell? ⟨Bs,0,none⟩=some (.slice (some ⟨g',o',none⟩) sizes.length ca)/\u.cell? ⟨g',o'+v,none⟩=some (.int .i64 (s0:Nat))/\u.cell? ⟨Bt,0,none⟩=some (.slice (some ⟨gt,ot,none⟩) sizes.length ct)/\u.cell? ⟨gt,ot+v,none⟩=some (.int .i64 (t0:Nat))) (by kernel_rfl) (by kernel_rfl) (fun ⟨_,_,h⟩=>h) ⟨k0,ks,c1,kt,c2⟩ ?_;intro ah;refine dm 1 (.int .i64 (p:Nat)) ?_ ?_
  ·intro u aS;obtain⟨s1,s2,s3,s4,s5⟩:=aS;simp only[gE];go_simp
  simp only[gE,aP];refine dm 2 (.slice (some ⟨g',o',none⟩) sizes.length ca) ?_ ?_
  ·intro u aS;obtain⟨s1,s2,s3,s4,s5⟩:=aS;simp only[gE];go_simp
  simp only[gE,aP];refine dm 3 (.int .i64 (v:Nat)) ?_ ?_
  ·intro u aS;obtain⟨s1,s2,s3,s4,s5⟩:=aS;simp only[gE];go_simp
  simp only[gE,aP];refine dm 4 (.pointer (some ⟨g',o'+v,none⟩)) ?_ ?_
  ·intro u aS;obtain⟨s1,s2,s3,s4,s5⟩:=aS;simp only[gE];go_simp
  simp only[gE,aP];refine dm 5 (.int .i64 (s0:Nat)) ?_ ?_
  ·intro u aS;obtain⟨s1,s2,s3,s4,s5⟩:=aS;simp only[gE];go_simp
  simp only[gE,aP];refine dm 6 (.int .i64 (mm:Nat)) ?_ ?_
  ·intro u aS;obtain⟨s1,s2,s3,s4,s5⟩:=aS;simp only[gE];go_simp;rw[aD (show ¬s0=0 by omega),Int.tmod_eq_emod_of_nonneg (KZ _),Gx.o]
  simp only[gE,aP];refine dm 7 (.slice (some ⟨gt,ot,none⟩) sizes.length ct) ?_ ?_
  ·intro u aS;obtain⟨s1,s2,s3,s4,s5⟩:=aS;simp only[gE];go_simp
  simp only[gE,aP];refine dm 8 (.int .i64 (v:Nat)) ?_ ?_
  ·intro u aS;obtain⟨s1,s2,s3,s4,s5⟩:=aS;simp only[gE];go_simp
  simp only[gE,aP];refine dm 9 (.pointer (some ⟨gt,ot+v,none⟩)) ?_ ?_
  ·intro u aS;obtain⟨s1,s2,s3,s4,s5⟩:=aS;simp only[gE];go_simp
  simp only[gE,aP];refine dm 10 (.int .i64 (t0:Nat)) ?_ ?_
  ·intro u aS;obtain⟨s1,s2,s3,s4,s5⟩:=aS;simp only[gE];go_simp
  simp only[gE,aP];refine dm 11 (.int .i64 ((mm:Int)*(t0:Int))) ?_ ?_
  ·intro u aS;obtain⟨s1,s2,s3,s4,s5⟩:=aS;simp only[gE];go_simp
  simp only[gE,aP];refine aI [0] (cA ?_ aH);intro K' hK';simp only[gE];go_simp;refine hK'.o _ _ ah (fun _=>?_);clear hK' K';refine dm 12 (.int .i64 ((r0:Int)+(mm:Int)*(t0:Int))) ?_ ?_
  ·intro u aS;obtain⟨s1,s2,s3,s4,s5⟩:=aS;simp only[gE];go_simp
  simp only[gE,aP];refine aI [13] (cA ?_ aH);intro K' hK';simp only[gE];go_simp;have far:∀(b j:Nat),¬w.heap.size+1=b ->(V.setCell ⟨w.heap.size+1,0,none⟩ (.int .i64 ((r0:Int)+(mm:Int)*(t0:Int)))).drew.cell? ⟨b,j,none⟩=V.cell? ⟨b,j,none⟩:=fun b j hb=>dX _ _ _ _ (fun e=>hb (by cases e;rfl));have m0:=(far w.heap.size 0 (by omega)).trans k0;have ms:=(far Bs 0 (by omega)).trans ks;have mc:=(far g' (o'+v) (by omega)).trans c1;refine hK'.o _ _ ⟨m0,ms,mc,(far Bt 0 (by omega)).trans kt,(far gt (ot+v) (by omega)).trans c2⟩ (fun _=>dW (by kernel_rfl) ?_ _);clear hK' K' ah far;have q0:Boxed (V.setCell ⟨w.heap.size+1,0,none⟩ (.int .i64 ((r0:Int)+(mm:Int)*(t0:Int)))).drew w.heap.size 3 (.int .i64 (p:Nat)):=fS h0 _ 0 _ (by omega);have q1:Boxed (V.setCell ⟨w.heap.size+1,0,none⟩ (.int .i64 ((r0:Int)+(mm:Int)*(t0:Int)))).drew (w.heap.size+1) 3 (.int .i64 ((r0:Int)+(mm:Int)*(t0:Int))):=h1.set _;have q4:Boxed (V.setCell ⟨w.heap.size+1,0,none⟩ (.int .i64 ((r0:Int)+(mm:Int)*(t0:Int)))).drew (w.heap.size+1+1) 27 (.slice b vars.length cb):=fS h4 _ 0 _ (by omega);have qB:Below w.heap.size w (V.setCell ⟨w.heap.size+1,0,none⟩ (.int .i64 ((r0:Int)+(mm:Int)*(t0:Int)))).drew:=(hB.setCell (p:=⟨w.heap.size+1,0,none⟩) (by simp) _).drew;have qK:Below w.heap.size V (V.setCell ⟨w.heap.size+1,0,none⟩ (.int .i64 ((r0:Int)+(mm:Int)*(t0:Int)))).drew:=((aw w.heap.size V).setCell (p:=⟨w.heap.size+1,0,none⟩) (by simp) _).drew
  have qO:KeepsOthers V (V.setCell ⟨w.heap.size+1,0,none⟩ (.int .i64 ((r0:Int)+(mm:Int)*(t0:Int)))).drew:=(ji V _ _).trans (ym _);have j4:mK (w.heap.size+1+1) V (V.setCell ⟨w.heap.size+1,0,none⟩ (.int .i64 ((r0:Int)+(mm:Int)*(t0:Int)))).drew:=q4.cell.trans h4.cell.symm;have fU:=q0.frozen;generalize (V.setCell ⟨w.heap.size+1,0,none⟩ (.int .i64 ((r0:Int)+(mm:Int)*(t0:Int)))).drew=U at *;gi_wp2_with fail
  refine wC (fun u=>u.cell? ⟨Bs,0,none⟩=some (.slice (some ⟨g',o',none⟩) sizes.length ca)/\u.cell? ⟨g',o'+v,none⟩=some (.int .i64 (s0:Nat))) (by kernel_rfl) (by kernel_rfl) (fun ⟨_,_,h⟩=>h) ⟨ms,mc⟩ ?_;intro ah;refine dm 1 (.slice (some ⟨g',o',none⟩) sizes.length ca) ?_ ?_
  ·intro u aS;obtain⟨s3,s4⟩:=aS;simp only[gE];go_simp
  simp only[gE,aP];refine dm 2 (.int .i64 (v:Nat)) ?_ ?_
  ·intro u aS;obtain⟨s3,s4⟩:=aS;simp only[gE];go_simp
  simp only[gE,aP];refine dm 3 (.pointer (some ⟨g',o'+v,none⟩)) ?_ ?_
  ·intro u aS;obtain⟨s3,s4⟩:=aS;simp only[gE];go_simp
  simp only[gE,aP];refine dm 4 (.int .i64 (s0:Nat)) ?_ ?_
  ·intro u aS;obtain⟨s3,s4⟩:=aS;simp only[gE];go_simp
  simp only[gE,aP];refine aI [0] (cA ?_ aH);intro K' hK';simp only[gE];go_simp;refine hK'.o _ _ ah (fun _=>?_);clear hK' K';refine dm 5 (.int .i64 ((p:Int)/(s0:Int))) ?_ ?_
  ·intro u aS;obtain⟨s3,s4⟩:=aS;simp only[gE];go_simp;omega
  simp only[gE,aP];refine aI [6] (cA ?_ aH);intro K' hK';simp only[gE];go_simp;refine hK'.o _ _ ⟨(dX _ _ _ _ (fun e=>(show ¬w.heap.size=Bs by omega) (dt Addr.block e))).trans ms,(dX _ _ _ _ (fun e=>(show ¬w.heap.size=g' by omega) (dt Addr.block e))).trans mc⟩ (fun _=>dW (by kernel_rfl) ?_ _);clear hK' K' ah;gi_wp2
  rw[xJ.o];rw[vv.o] at q1;refine⟨(qO.trans ((ji U _ _).trans (ym _))).from _,⟨j4.t ((fS q4 w.heap.size 0 (.int .i64 (dd:Nat)) (by omega)).cell.trans q4.cell.symm),(qK.setCell (p:=⟨w.heap.size,0,none⟩) (by simp) _).drew⟩,?_⟩;refine⟨?_,?_,fS q4 _ 0 _ (by omega),(qB.setCell (p:=⟨w.heap.size,0,none⟩) (by simp) _).drew⟩
  ·rw[HST.o];exact q0.set _
  ·rw[HST.o];exact fS q1 _ 0 _ (by omega)
 case done=>
  rintro D ys V hD AG ⟨h0,h1,h4,hB⟩ hK;rw[AG,sI.o] at h1;have hc:=h1.cell;gi_wp2
  refine⟨by simp,.inl ⟨_,_,rfl,x5 hK,?_⟩⟩;refine⟨_,x6 rfl _ _ _,?_⟩;exact⟨rfl,hB.trans (sK (w:=w) (ak _) V D _ _ (by omega) hK rfl rfl)⟩
 case stop=>
  rintro D c pre V _ _ h _;exact h.elim
end
variable {other:List Int} {S:List Nat} {ca cb:Nat} {V:World}
theorem Px (hs:∀v,sz S v<=4):∀(vs:List Nat) (v:Nat),vs.length<=8 ->cC S vs v<=65536
 |[],_,_=>by simp[cC]
 |u::vs,v,h=>by
  rw[cC];have h':vs.length<=8:=by simp at h;omega
  by_cases e:v=u
  ·rw[aB e];exact rY hs h'
  ·rw[aD e];exact Px hs vs v h'
theorem Wo (S:List Nat) (n:Nat) (vs:List Nat) (v:Nat):(kI S n vs).getD v 0=if v<n then cC S vs v else 0:=by
 by_cases h:v<n
 ·rw[aB h,Bz (by rw[nL];exact h),aej S n vs h]
 ·rw[aD h,b6,ig (by rw[nL];omega)];rfl
def lN (W:World) (n m:Nat) (f:Value) (a b:Option Addr) (ca cb:Nat) (sizes vars other:List Int):Prop:=
 ∃(Bv Bs Bt g ct:Nat),f=.func (.func 234) #[] #[.pointer (some ⟨Bv,0,none⟩),.pointer (some ⟨Bs,0,none⟩),.pointer (some ⟨Bt,0,none⟩)]/\(n<=Bv/\n<=Bs/\n<=Bt/\n<=g)/\(Bv<m/\Bs<m/\Bt<m/\g<m)/\m<=W.heap.size/\
  W.cell? ⟨Bv,0,none⟩=some (.slice b vars.length cb)/\W.cell? ⟨Bs,0,none⟩=some (.slice a sizes.length ca)/\W.cell? ⟨Bt,0,none⟩=some (.slice (some ⟨g,0,none⟩) sizes.length ct)/\aC W (some ⟨g,0,none⟩) (iL (kI (af sizes) sizes.length (af other)))
def xz (n m:Nat) (W V:World):Prop:=m<=V.heap.size/\∀k,n<=k ->k< m ->V.heap[k]? =W.heap[k]?
theorem xz.of_below {W:World} (h:Below W.heap.size W V) (hm:m<=W.heap.size):xz n m W V:=⟨aM hm h.size,fun k _ hk=>h.block k (aR hk hm)⟩
theorem xz.set (W:World) {B:Nat} (j:Nat) (y:Value) (hm:m<=W.heap.size) (hB:B<n∨m<=B):xz n m W (W.setCell ⟨B,j,none⟩ y):=⟨aM hm (ji W _ _).size,fun k h1 h2=>iU W ⟨B,j,none⟩ y k (by show k≠B;omega)⟩
theorem lN.kept {W:World} {f:Value} {b:Option Addr} {sizes vars:List Int} (h:lN W n m f a b ca cb sizes vars other) (hk:xz n m W V):lN V n m f a b ca cb sizes vars other:=by
 obtain⟨Bv,Bs,Bt,g,ct,h0,⟨n1,n2,n3,n4⟩,⟨m1,m2,m3,m4⟩,hm,h4,h5,h6,h7⟩:=h;refine⟨Bv,Bs,Bt,g,ct,h0,⟨n1,n2,n3,n4⟩,⟨m1,m2,m3,m4⟩,hk.1,(l5 (hk.2 Bv n1 m1)).trans h4,(l5 (hk.2 Bs n2 m2)).trans h5,(l5 (hk.2 Bt n3 m3)).trans h6,fun k fN=>?_⟩;obtain⟨g',o',e,h1,h2⟩:=h7 k fN;cases e;exact⟨g,0,rfl,aR m4 hk.1,(l5 (hk.2 g n4 m4)).trans h2⟩
theorem lN.top {W:World} {f:Value} {b:Option Addr} {sizes vars:List Int} (h:lN W n m f a b ca cb sizes vars other):m<=W.heap.size:=by
 obtain⟨_,_,_,_,_,_,_,_,hm,_⟩:=h;exact hm
theorem lN.wider {W:World} {n' m':Nat} {f:Value} {b:Option Addr} {sizes vars:List Int} (h:lN W n m f a b ca cb sizes vars other) (hn:n'<=n) (hm':m<=m') (hW:m'<=W.heap.size):lN W n' m' f a b ca cb sizes vars other:=by
 obtain⟨Bv,Bs,Bt,g,ct,h0,⟨n1,n2,n3,n4⟩,⟨m1,m2,m3,m4⟩,hm,h4,h5,h6,h7⟩:=h;exact⟨Bv,Bs,Bt,g,ct,h0,⟨by omega,by omega,by omega,by omega⟩,⟨by omega,by omega,by omega,by omega⟩,hW,h4,h5,h6,h7⟩
theorem lN.aa {W:World} {f:Value} {b:Option Addr} {sizes vars:List Int} (h:lN W n m f a b ca cb sizes vars other) (hb:Below W.heap.size W V):lN V n m f a b ca cb sizes vars other:=h.kept (xz.of_below hb h.top)
theorem lN.shape {W:World} {f:Value} {b:Option Addr} {sizes vars:List Int} (h:lN W n m f a b ca cb sizes vars other):∃lb,f=.func (.func 234) #[] lb:=by
 obtain⟨Bv,Bs,Bt,g,ct,he,_⟩:=h;exact⟨_,he⟩
theorem lN.calls {lb:Array Value} {b:Option Addr} {sizes vars:List Int} (h:lN V n m (.func (.func 234) #[] lb) a b ca cb sizes vars other) (hs:aC V a sizes) (hv:aC V b vars) (aN:eK sizes) (aT:Up vars sizes.length) (td:Up other sizes.length) {K:Nat} (hK:K<cnt (af sizes) (af vars)):
  Calls Tryz.prog 234 (#[.int .i64 (K:Nat)]++lb) V fun e w'=>e=.returned (.int .i64 (pos (af sizes) (a8 (af sizes) (af vars) K) (af other):Nat))/\Below V.heap.size V w':=by
 obtain⟨Bv,Bs,Bt,g,ct,he,_,⟨h1,h2,h3,_⟩,hm,h4,h5,h6,h7⟩:=h;simp only[Value.func.injEq,true_and] at he;rw[he];have Db:=td.length;have pI:=aN.eight
 have e1:=aeq Bv Bs Bt a b _ ca cb ct sizes vars (kI (af sizes) sizes.length (af other)) K V (by omega) (by omega) (by omega) h4 h5 h6 hs hv h7 (nL _ _ _) (fun v=>by
  rw[Wo];by_cases hv:v<sizes.length
  ·rw[aB hv];exact Px aN.sz_le _ _ (by rw[dR];omega)
  ·rw[aD hv];omega) aN aT hK aT.nodup
 have e2:eM (fun v=>a8 (af sizes) (af vars) K v*(kI (af sizes) sizes.length (af other)).getD v 0) (af vars)=pos (af sizes) (a8 (af sizes) (af vars) K) (af other):=by
  rw[<- stand sizes.length K aT.nodup td.nodup aT.aa td.aa];exact E6 fun v hv=>by rw[Wo,aB (aT.aa v hv)]
 rw[e2] at e1;exact e1
theorem Py (a b c:Option Addr) (ca cb cc:Nat) (sizes vars other:List Int) (w:World) (hs:aC w a sizes) (ho:aC w c other) (aN:eK sizes) (td:Up other sizes.length):
  Calls Tryz.prog 198 #[.slice a sizes.length ca,.slice b vars.length cb,.slice c other.length cc] w fun e w'=>∃f,e=.returned f/\lN w' w.heap.size w'.heap.size f a b ca cb sizes vars other/\Below w.heap.size w w':=by
 have HS:=hid hs;have HO:=hid ho;have HA:=hid (fun V h1 h2=>Ws a c ca cc sizes other V h1 h2 aN td);clear hs ho;go_enter Tryz.func198,Tryz.ntmps198;go_wp2_with fail
 have hb0:Below w.heap.size w ((w.alloc (.cells #[.slice a sizes.length ca] 27)).alloc (.cells #[.slice b vars.length cb] 27)):=((aw _ w).alloc (ak _) _).alloc (by simp) _;have b0:Boxed ((w.alloc (.cells #[.slice a sizes.length ca] 27)).alloc (.cells #[.slice b vars.length cb] 27)) w.heap.size 27 (.slice a sizes.length ca):=(aZ w _ _).alloc _
 have b1:Boxed ((w.alloc (.cells #[.slice a sizes.length ca] 27)).alloc (.cells #[.slice b vars.length cb] 27)) (w.heap.size+1) 27 (.slice b vars.length cb):=by
  have h:=aZ (w.alloc (.cells #[.slice a sizes.length ca] 27)) 27 (.slice b vars.length cb);rwa [dE] at h
 have hsz:((w.alloc (.cells #[.slice a sizes.length ca] 27)).alloc (.cells #[.slice b vars.length cb] 27)).heap.size=w.heap.size+1+1:=by simp
 generalize ((w.alloc (.cells #[.slice a sizes.length ca] 27)).alloc (.cells #[.slice b vars.length cb] 27))=W at *;refine(HA.o _ (HS.o.aa hb0) (HO.o.aa hb0)).ae ?_;rintro e w1 ⟨t,ct,rfl,ht1,A4,hb1⟩;have hs1:=hb1.size
 have nT:t<w1.heap.size:=by
  obtain⟨g3,o3,e3,h3,_⟩:=A4 0 (by rw[bF,nL];exact aN.one);cases e3;exact h3
 go_wp2;go_ret;have hb2:Below w1.heap.size w1 (w1.alloc (.cells #[.slice (some ⟨t,0,none⟩) sizes.length ct] 27)):=(aw _ w1).alloc (ak _) _;have R1:Below W.heap.size W (w1.alloc (.cells #[.slice (some ⟨t,0,none⟩) sizes.length ct] 27)):=hb1.trans (hb2.ae hs1);refine⟨_,rfl,⟨w.heap.size+1,w.heap.size,w1.heap.size,t,ct,rfl,⟨by omega,by omega,by omega,by omega⟩,⟨by simp;omega,by simp;omega,by simp,by simp;omega⟩,ak _,(R1.cell (p:=⟨w.heap.size+1,0,none⟩) (by simp;omega)).trans b1.cell,(R1.cell (p:=⟨w.heap.size,0,none⟩) (by simp;omega)).trans b0.cell,(aZ w1 27 _).cell,A4.aa hb2⟩,hb0.trans (R1.ae (by omega))⟩
variable {f:Nat ->Nat} {x y:Value}
theorem rI (f:Nat ->Nat) (hf:∀u,f u<sz S u):∀vs:List Nat,pos S f vs<cnt S vs:=by
 intro vs
 have key:∀(vs:List Nat) (k c:Nat),k< c ->vs.foldl (fun k v=>k*sz S v+f v) k<c*cnt S vs:=by
  intro vs;induction vs with
  |nil=>intro k c h;simpa [cnt] using h
  |cons u vs ih=>
   intro k c h
   have h1:k*sz S u+f u<c*sz S u:=by
    have h2:(k+1)*sz S u<=c*sz S u:=jD _ h;have h3:=hf u;rw[fC,jZ] at h2;omega
   have:=ih _ _ h1;rwa [ie] at this
 have:=key vs 0 1 (by omega);rwa [jZ] at this
theorem vd (hp:Pos S):∀(vs:List Nat) (k v:Nat),k<cnt S vs ->a8 S vs k v<sz S v
 |[],_,v,_=>mh hp v
 |u::vs,k,v,h=>by
  rw[a8];by_cases e:v=u
  ·rw[aB e,e];exact(Nat.div_lt_iff_lt_mul (Nn hp vs)).2 h
  ·rw[aD e];exact vd hp vs _ v (gJ _ (Nn hp vs))
def aQ (f:Nat ->Nat) (v x:Nat):Nat ->Nat:=fun u=>if u=v then x else f u
theorem Wj {g h:Nat ->Nat} (hv:g v=0) (he:∀u,¬u=v ->h u=g u):∀ {l:List Nat},l.Nodup ->eM h l=eM g l+if v∈l then h v else 0
 |[],_=>by simp[eM]
 |u::l,hn=>by
  rw[mR] at hn;rw[eM,eM,Wj hv he hn.2];by_cases e:u=v
  ·subst e;rw[aD hn.1,aB c5,hv];omega
  ·rw[he u e];(have:v∈u::l↔v∈l:=by rw[cT];exact⟨fun h=>h.elim (fun h=>absurd h.symm e) id,.inr⟩);simp only[this];omega
theorem afG (x:Nat) (hf:f v=0) {other:List Nat} (hn:other.Nodup):pos S f other+x*cC S other v=pos S (aQ f v x) other:=by
 rw[Lt S f hn,Lt S (aQ f v x) hn,Wj (g:=fun u=>f u*cC S other u) (h:=fun u=>aQ f v x u*cC S other u) (v:=v) (by show f v*_=0;rw[hf,mQ]) (fun u hu=>by show aQ f v x u*_=f u*_;rw[aQ,aD hu]) hn];congr 1
 by_cases h:v∈other
 ·rw[aB h];show _=aQ f v x v*_;rw[aQ,aB rfl]
 ·rw[aD h,Pv h,j3]
def sf (W:World) (n m:Nat) (f:Value) (a b:Option Addr) (ca cb:Nat) (sizes vars other:List Int) (v:Nat):Prop:=
 ∃(Bf Bt:Nat) (g:Value),f=.func (.func 200) #[] #[.pointer (some ⟨Bf,0,none⟩),.pointer (some ⟨Bt,0,none⟩)]/\n<=Bf/\n<=Bt/\Bf<m/\Bt<m/\m<=W.heap.size/\
  W.cell? ⟨Bf,0,none⟩=some g/\W.cell? ⟨Bt,0,none⟩=some (.int .i64 (cC (af sizes) (af other) v:Nat))/\lN W n m g a b ca cb sizes vars other
theorem sf.kept {W:World} {f:Value} {b:Option Addr} {sizes vars:List Int} (h:sf W n m f a b ca cb sizes vars other v) (hk:xz n m W V):sf V n m f a b ca cb sizes vars other v:=by
 obtain⟨Bf,Bt,g,h0,n1,n2,h1,h2,_,h3,h4,h5⟩:=h;exact⟨Bf,Bt,g,h0,n1,n2,h1,h2,hk.1,(l5 (hk.2 Bf n1 h1)).trans h3,(l5 (hk.2 Bt n2 h2)).trans h4,h5.kept hk⟩
theorem aay {u:World} {p q:Addr} (hb:Below w.heap.size w u) (hp:p.block<w.heap.size) (hq:q.block<w.heap.size) (h1:w.cell? p=some x) (h2:w.cell? q=some y):(u.cell? p=some x/\u.cell? q=some y)/\Hid (Below w.heap.size w u):=⟨⟨(hb.cell hp).trans h1,(hb.cell hq).trans h2⟩,hb⟩
theorem aep (Bf Bt:Nat) (lb:Array Value) (K val P st:Nat) (w:World) (zh:Bf<w.heap.size) (h1:w.cell? ⟨Bf,0,none⟩=some (.func (.func 234) #[] lb)) (uP:Bt<w.heap.size) (h2:w.cell? ⟨Bt,0,none⟩=some (.int .i64 (st:Nat))) (hc:∀V,Below w.heap.size w V ->Calls Tryz.prog 234 (#[.int .i64 (K:Nat)]++lb) V fun e w'=>e=.returned (.int .i64 (P:Nat))/\Below V.heap.size V w') (hP:P<=65536) (hval:val<=4) (hst:st<=65536):
  Calls Tryz.prog 200 #[.int .i64 (K:Nat),.int .i64 (val:Nat),.pointer (some ⟨Bf,0,none⟩),.pointer (some ⟨Bt,0,none⟩)] w fun e w'=>e=.returned (.int .i64 (P+val*st:Nat))/\Below w.heap.size w w':=by
 have HC:=hid hc;have h0:val*st<=262144:=aM (jE hval hst) (by decide);have hmc:(val:Int)*(st:Int)=((val*st:Nat):Int):=(j6 _ _).symm;have hw3:IntKind.i64.wrap ((val:Int)*(st:Int))=(val:Int)*(st:Int):=by rw[hmc,gV];omega
 have hw4:IntKind.i64.wrap ((P:Int)+(val:Int)*(st:Int))=(P:Int)+(val:Int)*(st:Int):=by rw[hmc,gV];omega
 have vv:Hid ((P:Int)+(val:Int)*(st:Int)=((P+val*st:Nat):Int)):=by show _=_;rw[hmc];exact(Aj _ _).symm
 have hB0:Below w.heap.size w w.drew:=(aw w.heap.size w).drew;clear hc hmc;go_enter Tryz.func200,Tryz.ntmps200;go_upto_region 1 with fail
 go_region_held3 (fun u=>(u.cell? ⟨Bf,0,none⟩=some (.func (.func 234) #[] lb)/\u.cell? ⟨Bt,0,none⟩=some (.int .i64 (st:Nat)))/\Hid (Below w.heap.size w u))
  (first |exact aay hB1 zh uP h1 h2 |exact aay hB0 zh uP h1 h2)
  (first
   |(go_at_call 234;refine(HC.o _ hB0).ae ?_;rintro e w1 ⟨rfl,hb1⟩;have hB1:=hB0.trans (hb1.ae hB0.size)))
 go_wp2;go_ret;exact⟨by rw[vv.o];rfl,hB1⟩
theorem sf.calls {lb:Array Value} {b:Option Addr} {sizes vars:List Int} (h:sf V n m (.func (.func 200) #[] lb) a b ca cb sizes vars other v) (hs:aC V a sizes) (hv:aC V b vars) (aN:eK sizes) (aT:Up vars sizes.length) (td:Up other sizes.length) (AH:¬v∈af vars) {K val:Nat} (hK:K<cnt (af sizes) (af vars)) (hval:val<=4):
  Calls Tryz.prog 200 (#[.int .i64 (K:Nat),.int .i64 (val:Nat)]++lb) V fun e w'=>e=.returned (.int .i64 (pos (af sizes) (aQ (a8 (af sizes) (af vars) K) v val) (af other):Nat))/\Below V.heap.size V w':=by
 obtain⟨Bf,Bt,g,he,_,_,h1,h2,hm,h3,h4,h5⟩:=h;simp only[Value.func.injEq,true_and] at he;rw[he];obtain⟨lb',rfl⟩:=h5.shape;have Db:=td.length;have pI:=aN.eight;have hP:=rI (S:=af sizes) (a8 (af sizes) (af vars) K) (fun u=>vd aN.pos (af vars) K u hK) (af other);have hc:=rY aN.sz_le (vs:=af other) (by rw[dR];omega);rw[<- afG val (Gf AH) td.nodup];exact aep Bf Bt lb' K val _ _ V (by omega) h3 (by omega) h4 (fun V' hb=>(h5.aa hb).calls (hs.aa hb) (hv.aa hb) aN aT td hK) (by omega) hval (Px aN.sz_le _ _ (by rw[dR];omega))
theorem sM {P:Program} {md:Region.Mode} {S S':World ->Prop} (hS:∀w,S' w ->S w):∀(fuel:Nat) (listed:Array Bool) (a:Act) (w:World),wpAnyH P md ops Q S' fuel listed a w ->wpAnyH P md ops Q S fuel listed a w
 |0,_,_,_,h=>h
 |fuel+1,_,_,_,h=>⟨h.1,fun i hi=>wpOp_mono (fun a' w' h'=>⟨hS _ h'.1,sM hS fuel _ a' w' h'.2⟩) (h.2 i hi)⟩
theorem ab8 {u:World} (h:Below w.heap.size w u) (B j:Nat) (y:Value) (hB:w.heap.size<=B):Below w.heap.size w (u.setCell ⟨B,j,none⟩ y):=h.setCell (p:=⟨B,j,none⟩) hB y
theorem aY {W:World} {B:Nat} {t:TypeId} (h:Boxed W B t x) (hb:Below W.heap.size W V):Boxed V B t x:=(hb.block B h.lt).trans h
theorem uo {other:List Nat} (h:v<n):(iL (kI S n other))[v]'(by rw[bF,nL];exact h)=((cC S other v:Nat):Int):=by simp[iL,kI]
theorem Pz (a b c:Option Addr) (ca cb cc:Nat) (sizes vars other:List Int) (v:Nat) (w:World) (hs:aC w a sizes) (ho:aC w c other) (aN:eK sizes) (td:Up other sizes.length) (ek:v<sizes.length):
  Calls Tryz.prog 156 #[.slice a sizes.length ca,.slice b vars.length cb,.slice c other.length cc,.int .i64 (v:Nat)] w fun e w'=>∃f,e=.returned f/\sf w' w.heap.size w'.heap.size f a b ca cb sizes vars other v/\Below w.heap.size w w':=by
 have HS:=hid hs;have HO:=hid ho;have HA:=hid (fun V h1 h2=>Ws a c ca cc sizes other V h1 h2 aN td);have HB:=hid (fun V h1 h2=>Py a b c ca cb cc sizes vars other V h1 h2 aN td);have pI:=aN.eight;have hv0:(0:Int)<=(v:Int):=by omega
 have lD:(v:Int)<(sizes.length:Int):=by omega
 clear hs ho;go_enter Tryz.func156,Tryz.ntmps156;go_upto_region 1 with fail
 have hB:Below w.heap.size w w.drew:=(aw w.heap.size w).drew;refine kC (S:=fun u=>Hid (Below w.heap.size w u)) (by kernel_rfl) hB (fun ah=>?_);generalize w.drew=u0 at *;refine ar 0 (.slice a sizes.length ca) ?_;refine ar 1 (.slice b vars.length cb) ?_;refine ar 2 (.slice c other.length cc) ?_;refine ar 4 (.slice a sizes.length ca) ?_;refine ar 5 (.slice c other.length cc) ?_;refine ar 7 (.int .i64 (v:Nat)) ?_;refine aI [3,10,11] (cA ?_ (cA ?_ (cA ?_ aH)))
 focus
  intro K' hK';go_simp;refine(HB.o _ (HS.o.aa hB) (HO.o.aa hB)).ae ?_;rintro e u1 ⟨f,rfl,hF,hb⟩;obtain⟨lb,rfl⟩:=hF.shape;have eO:=hB.size;replace hB:=hB.trans (hb.ae hB.size);refine hK'.o _ _ hB (fun ag=>?_);clear hK' K' ah;have ah:=ag;clear ag;have lH:w.heap.size<=u0.heap.size:=eO;have qM:=hF.top;generalize u0.heap.size=n1 at hF eO lH⊢;generalize hm1:u1.heap.size=m1 at hF qM;rw[<- hm1] at qM;have a7:m1<=u1.heap.size:=by omega
  clear hb hm1;refine aI [6,10,11] (cA ?_ (cA ?_ (cA ?_ aH)))
  focus
   intro K' hK';go_simp;refine(HA.o _ (HS.o.aa hB) (HO.o.aa hB)).ae ?_;rintro e u2 ⟨g,ct,rfl,hg1,hi,hb⟩;replace hB:=hB.trans (hb.ae hB.size);replace hF:=hF.aa hb;replace a7:=aM a7 hb.size;refine hK'.o _ _ hB (fun ag=>?_);clear hK' K' ah;have ah:=ag;clear ag;obtain⟨g3,o3,e3,cK,cv⟩:=hi v (by rw[bF,nL];exact ek);cases e3;rw[uo ek,bI] at cv;clear hb hi hg1 ah;(try simp only[gE,aP]);refine sM (S':=fun u=>Hid (Below w.heap.size w u)/\u.cell? ⟨g,v,none⟩=some (.int .i64 (cC (af sizes) (af other) v:Nat))) (fun _ h=>h.1) _ _ _ _ ?_;have ah:Hid (Below w.heap.size w u2)/\u2.cell? ⟨g,v,none⟩=some (.int .i64 (cC (af sizes) (af other) v:Nat)):=⟨hB,cv⟩;refine ar 8 (.pointer (some ⟨g,v,none⟩)) ?_;refine ar 9 (.int .i64 (cC (af sizes) (af other) v:Nat)) ?_;refine aI [10,11] (cA ?_ (cA ?_ aH))
   focus
    intro K' hK';go_simp;have hb:Below u2.heap.size u2 (u2.alloc (.cells #[.nilFunc] 140)):=(aw _ u2).alloc (ak _) _;have h9:Boxed (u2.alloc (.cells #[.nilFunc] 140)) u2.heap.size 140 (.nilFunc):=aZ u2 _ _;(have l9:u2.heap.size<(u2.alloc (.cells #[.nilFunc] 140)).heap.size:=by simp);have w9:=hB.size;replace hB:=hB.trans (hb.ae hB.size);replace hF:=hF.aa hb;have r9:u2.heap.size<n1∨m1<=u2.heap.size:=.inr a7;replace a7:=aM a7 hb.size;(have g9:¬u2.heap.size=g:=by omega);replace cv:=(hb.cell (p:=⟨g,v,none⟩) cK).trans cv;replace cK:=aR cK hb.size;refine hK'.o _ _ ⟨hB,cv⟩ (fun ah=>?_);clear hK' K' hb;generalize (u2.alloc (.cells #[.nilFunc] 140))=u3 at *;generalize u2.heap.size=B9 at *;refine aI [11] (cA ?_ aH);intro K' hK';go_simp;have hb:Below u3.heap.size u3 (u3.alloc (.cells #[.int .i64 0] 3)):=(aw _ u3).alloc (ak _) _;have h10:Boxed (u3.alloc (.cells #[.int .i64 0] 3)) u3.heap.size 3 (.int .i64 0):=aZ u3 _ _;(have l10:u3.heap.size<(u3.alloc (.cells #[.int .i64 0] 3)).heap.size:=by simp);have b7:=hB.size;replace hB:=hB.trans (hb.ae hB.size);replace h9:=aY h9 hb;(have ne:¬B9=u3.heap.size:=by omega);replace l9:=aR l9 hb.size;replace hF:=hF.aa hb;have oK:u3.heap.size<n1∨m1<=u3.heap.size:=.inr a7;replace a7:=aM a7 hb.size;(have g10:¬u3.heap.size=g:=by omega);replace cv:=(hb.cell (p:=⟨g,v,none⟩) cK).trans cv;replace cK:=aR cK hb.size;refine hK'.o _ _ ⟨hB,cv⟩ (fun ah=>?_);clear hK' K' hb;generalize (u3.alloc (.cells #[.int .i64 0] 3))=u4 at *;generalize u3.heap.size=cS at *
   rotate_left
   focus
    intro K' hK';go_simp;have hb:Below u2.heap.size u2 (u2.alloc (.cells #[.int .i64 0] 3)):=(aw _ u2).alloc (ak _) _;have h10:Boxed (u2.alloc (.cells #[.int .i64 0] 3)) u2.heap.size 3 (.int .i64 0):=aZ u2 _ _;(have l10:u2.heap.size<(u2.alloc (.cells #[.int .i64 0] 3)).heap.size:=by simp);have b7:=hB.size;replace hB:=hB.trans (hb.ae hB.size);replace hF:=hF.aa hb;have oK:u2.heap.size<n1∨m1<=u2.heap.size:=.inr a7;replace a7:=aM a7 hb.size;(have g10:¬u2.heap.size=g:=by omega);replace cv:=(hb.cell (p:=⟨g,v,none⟩) cK).trans cv;replace cK:=aR cK hb.size;refine hK'.o _ _ ⟨hB,cv⟩ (fun ah=>?_);clear hK' K' hb;generalize (u2.alloc (.cells #[.int .i64 0] 3))=u3 at *;generalize u2.heap.size=cS at *;refine aI [10] (cA ?_ aH);intro K' hK';go_simp;have hb:Below u3.heap.size u3 (u3.alloc (.cells #[.nilFunc] 140)):=(aw _ u3).alloc (ak _) _;have h9:Boxed (u3.alloc (.cells #[.nilFunc] 140)) u3.heap.size 140 (.nilFunc):=aZ u3 _ _;(have l9:u3.heap.size<(u3.alloc (.cells #[.nilFunc] 140)).heap.size:=by simp);have w9:=hB.size;replace hB:=hB.trans (hb.ae hB.size);replace h10:=aY h10 hb;(have ne:¬cS=u3.heap.size:=by omega);replace l10:=aR l10 hb.size;replace hF:=hF.aa hb;have r9:u3.heap.size<n1∨m1<=u3.heap.size:=.inr a7;replace a7:=aM a7 hb.size;(have g9:¬u3.heap.size=g:=by omega);replace cv:=(hb.cell (p:=⟨g,v,none⟩) cK).trans cv;replace cK:=aR cK hb.size;refine hK'.o _ _ ⟨hB,cv⟩ (fun ah=>?_);clear hK' K' hb;generalize (u3.alloc (.cells #[.nilFunc] 140))=u4 at *;generalize u3.heap.size=B9 at *
  rotate_left 2
  focus
   intro K' hK';go_simp;have hb:Below u1.heap.size u1 (u1.alloc (.cells #[.nilFunc] 140)):=(aw _ u1).alloc (ak _) _;have h9:Boxed (u1.alloc (.cells #[.nilFunc] 140)) u1.heap.size 140 (.nilFunc):=aZ u1 _ _;(have l9:u1.heap.size<(u1.alloc (.cells #[.nilFunc] 140)).heap.size:=by simp);have w9:=hB.size;replace hB:=hB.trans (hb.ae hB.size);replace hF:=hF.aa hb;have r9:u1.heap.size<n1∨m1<=u1.heap.size:=.inr a7;replace a7:=aM a7 hb.size;refine hK'.o _ _ hB (fun ah=>?_);clear hK' K' hb;generalize (u1.alloc (.cells #[.nilFunc] 140))=u2 at *;generalize u1.heap.size=B9 at *;refine aI [6,11] (cA ?_ (cA ?_ aH))
   focus
    intro K' hK';go_simp;refine(HA.o _ (HS.o.aa hB) (HO.o.aa hB)).ae ?_;rintro e u3 ⟨g,ct,rfl,hg1,hi,hb⟩;replace hB:=hB.trans (hb.ae hB.size);replace hF:=hF.aa hb;replace a7:=aM a7 hb.size;refine hK'.o _ _ hB (fun ag=>?_);clear hK' K' ah;have ah:=ag;clear ag;obtain⟨g3,o3,e3,cK,cv⟩:=hi v (by rw[bF,nL];exact ek);cases e3;rw[uo ek,bI] at cv;replace h9:=aY h9 hb;(have g9:¬B9=g:=by omega);replace l9:=aR l9 hb.size;clear hb hi hg1 ah;(try simp only[gE,aP]);refine sM (S':=fun u=>Hid (Below w.heap.size w u)/\u.cell? ⟨g,v,none⟩=some (.int .i64 (cC (af sizes) (af other) v:Nat))) (fun _ h=>h.1) _ _ _ _ ?_;have ah:Hid (Below w.heap.size w u3)/\u3.cell? ⟨g,v,none⟩=some (.int .i64 (cC (af sizes) (af other) v:Nat)):=⟨hB,cv⟩;refine ar 8 (.pointer (some ⟨g,v,none⟩)) ?_;refine ar 9 (.int .i64 (cC (af sizes) (af other) v:Nat)) ?_;refine aI [11] (cA ?_ aH);intro K' hK';go_simp;have hb:Below u3.heap.size u3 (u3.alloc (.cells #[.int .i64 0] 3)):=(aw _ u3).alloc (ak _) _;have h10:Boxed (u3.alloc (.cells #[.int .i64 0] 3)) u3.heap.size 3 (.int .i64 0):=aZ u3 _ _;(have l10:u3.heap.size<(u3.alloc (.cells #[.int .i64 0] 3)).heap.size:=by simp);have b7:=hB.size;replace hB:=hB.trans (hb.ae hB.size);replace h9:=aY h9 hb;(have ne:¬B9=u3.heap.size:=by omega);replace l9:=aR l9 hb.size;replace hF:=hF.aa hb;have oK:u3.heap.size<n1∨m1<=u3.heap.size:=.inr a7;replace a7:=aM a7 hb.size;(have g10:¬u3.heap.size=g:=by omega);replace cv:=(hb.cell (p:=⟨g,v,none⟩) cK).trans cv;replace cK:=aR cK hb.size
    refine hK'.o _ _ ⟨hB,cv⟩ (fun ah=>?_);clear hK' K' hb;generalize (u3.alloc (.cells #[.int .i64 0] 3))=u4 at *;generalize u3.heap.size=cS at *
   rotate_left
   focus
    intro K' hK';go_simp;have hb:Below u2.heap.size u2 (u2.alloc (.cells #[.int .i64 0] 3)):=(aw _ u2).alloc (ak _) _;have h10:Boxed (u2.alloc (.cells #[.int .i64 0] 3)) u2.heap.size 3 (.int .i64 0):=aZ u2 _ _;(have l10:u2.heap.size<(u2.alloc (.cells #[.int .i64 0] 3)).heap.size:=by simp);have b7:=hB.size;replace hB:=hB.trans (hb.ae hB.size);replace h9:=aY h9 hb;(have ne:¬B9=u2.heap.size:=by omega);replace l9:=aR l9 hb.size;replace hF:=hF.aa hb;have oK:u2.heap.size<n1∨m1<=u2.heap.size:=.inr a7;replace a7:=aM a7 hb.size;refine hK'.o _ _ hB (fun ah=>?_);clear hK' K' hb;generalize (u2.alloc (.cells #[.int .i64 0] 3))=u3 at *;generalize u2.heap.size=cS at *;refine aI [6] (cA ?_ aH);intro K' hK';go_simp;refine(HA.o _ (HS.o.aa hB) (HO.o.aa hB)).ae ?_;rintro e u4 ⟨g,ct,rfl,hg1,hi,hb⟩;replace hB:=hB.trans (hb.ae hB.size);replace hF:=hF.aa hb;replace a7:=aM a7 hb.size;refine hK'.o _ _ hB (fun ag=>?_);clear hK' K' ah;have ah:=ag;clear ag;obtain⟨g3,o3,e3,cK,cv⟩:=hi v (by rw[bF,nL];exact ek);cases e3;rw[uo ek,bI] at cv;replace h9:=aY h9 hb;(have g9:¬B9=g:=by omega);replace l9:=aR l9 hb.size;replace h10:=aY h10 hb;(have g10:¬cS=g:=by omega);replace l10:=aR l10 hb.size;clear hb hi hg1 ah;(try simp only[gE,aP]);refine sM (S':=fun u=>Hid (Below w.heap.size w u)/\u.cell? ⟨g,v,none⟩=some (.int .i64 (cC (af sizes) (af other) v:Nat))) (fun _ h=>h.1) _ _ _ _ ?_;have ah:Hid (Below w.heap.size w u4)/\u4.cell? ⟨g,v,none⟩=some (.int .i64 (cC (af sizes) (af other) v:Nat)):=⟨hB,cv⟩
    refine ar 8 (.pointer (some ⟨g,v,none⟩)) ?_;refine ar 9 (.int .i64 (cC (af sizes) (af other) v:Nat)) ?_
  rotate_left 2
  focus
   intro K' hK';go_simp;have hb:Below u1.heap.size u1 (u1.alloc (.cells #[.int .i64 0] 3)):=(aw _ u1).alloc (ak _) _;have h10:Boxed (u1.alloc (.cells #[.int .i64 0] 3)) u1.heap.size 3 (.int .i64 0):=aZ u1 _ _;(have l10:u1.heap.size<(u1.alloc (.cells #[.int .i64 0] 3)).heap.size:=by simp);have b7:=hB.size;replace hB:=hB.trans (hb.ae hB.size);replace hF:=hF.aa hb;have oK:u1.heap.size<n1∨m1<=u1.heap.size:=.inr a7;replace a7:=aM a7 hb.size;refine hK'.o _ _ hB (fun ah=>?_);clear hK' K' hb;generalize (u1.alloc (.cells #[.int .i64 0] 3))=u2 at *;generalize u1.heap.size=cS at *;refine aI [6,10] (cA ?_ (cA ?_ aH))
   focus
    intro K' hK';go_simp;refine(HA.o _ (HS.o.aa hB) (HO.o.aa hB)).ae ?_;rintro e u3 ⟨g,ct,rfl,hg1,hi,hb⟩;replace hB:=hB.trans (hb.ae hB.size);replace hF:=hF.aa hb;replace a7:=aM a7 hb.size;refine hK'.o _ _ hB (fun ag=>?_);clear hK' K' ah;have ah:=ag;clear ag;obtain⟨g3,o3,e3,cK,cv⟩:=hi v (by rw[bF,nL];exact ek);cases e3;rw[uo ek,bI] at cv;replace h10:=aY h10 hb;(have g10:¬cS=g:=by omega);replace l10:=aR l10 hb.size;clear hb hi hg1 ah;(try simp only[gE,aP]);refine sM (S':=fun u=>Hid (Below w.heap.size w u)/\u.cell? ⟨g,v,none⟩=some (.int .i64 (cC (af sizes) (af other) v:Nat))) (fun _ h=>h.1) _ _ _ _ ?_;have ah:Hid (Below w.heap.size w u3)/\u3.cell? ⟨g,v,none⟩=some (.int .i64 (cC (af sizes) (af other) v:Nat)):=⟨hB,cv⟩;refine ar 8 (.pointer (some ⟨g,v,none⟩)) ?_;refine ar 9 (.int .i64 (cC (af sizes) (af other) v:Nat)) ?_;refine aI [10] (cA ?_ aH);intro K' hK';go_simp;have hb:Below u3.heap.size u3 (u3.alloc (.cells #[.nilFunc] 140)):=(aw _ u3).alloc (ak _) _;have h9:Boxed (u3.alloc (.cells #[.nilFunc] 140)) u3.heap.size 140 (.nilFunc):=aZ u3 _ _;(have l9:u3.heap.size<(u3.alloc (.cells #[.nilFunc] 140)).heap.size:=by simp);have w9:=hB.size;replace hB:=hB.trans (hb.ae hB.size);replace h10:=aY h10 hb;(have ne:¬cS=u3.heap.size:=by omega);replace l10:=aR l10 hb.size;replace hF:=hF.aa hb;have r9:u3.heap.size<n1∨m1<=u3.heap.size:=.inr a7;replace a7:=aM a7 hb.size;(have g9:¬u3.heap.size=g:=by omega);replace cv:=(hb.cell (p:=⟨g,v,none⟩) cK).trans cv;replace cK:=aR cK hb.size
    refine hK'.o _ _ ⟨hB,cv⟩ (fun ah=>?_);clear hK' K' hb;generalize (u3.alloc (.cells #[.nilFunc] 140))=u4 at *;generalize u3.heap.size=B9 at *
   rotate_left
   focus
    intro K' hK';go_simp;have hb:Below u2.heap.size u2 (u2.alloc (.cells #[.nilFunc] 140)):=(aw _ u2).alloc (ak _) _;have h9:Boxed (u2.alloc (.cells #[.nilFunc] 140)) u2.heap.size 140 (.nilFunc):=aZ u2 _ _;(have l9:u2.heap.size<(u2.alloc (.cells #[.nilFunc] 140)).heap.size:=by simp);have w9:=hB.size;replace hB:=hB.trans (hb.ae hB.size);replace h10:=aY h10 hb;(have ne:¬cS=u2.heap.size:=by omega);replace l10:=aR l10 hb.size;replace hF:=hF.aa hb;have r9:u2.heap.size<n1∨m1<=u2.heap.size:=.inr a7;replace a7:=aM a7 hb.size;refine hK'.o _ _ hB (fun ah=>?_);clear hK' K' hb;generalize (u2.alloc (.cells #[.nilFunc] 140))=u3 at *;generalize u2.heap.size=B9 at *;refine aI [6] (cA ?_ aH);intro K' hK';go_simp;refine(HA.o _ (HS.o.aa hB) (HO.o.aa hB)).ae ?_;rintro e u4 ⟨g,ct,rfl,hg1,hi,hb⟩;replace hB:=hB.trans (hb.ae hB.size);replace hF:=hF.aa hb;replace a7:=aM a7 hb.size;refine hK'.o _ _ hB (fun ag=>?_);clear hK' K' ah;have ah:=ag;clear ag;obtain⟨g3,o3,e3,cK,cv⟩:=hi v (by rw[bF,nL];exact ek);cases e3;rw[uo ek,bI] at cv;replace h9:=aY h9 hb;(have g9:¬B9=g:=by omega);replace l9:=aR l9 hb.size;replace h10:=aY h10 hb;(have g10:¬cS=g:=by omega);replace l10:=aR l10 hb.size;clear hb hi hg1 ah;(try simp only[gE,aP]);refine sM (S':=fun u=>Hid (Below w.heap.size w u)/\u.cell? ⟨g,v,none⟩=some (.int .i64 (cC (af sizes) (af other) v:Nat))) (fun _ h=>h.1) _ _ _ _ ?_;have ah:Hid (Below w.heap.size w u4)/\u4.cell? ⟨g,v,none⟩=some (.int .i64 (cC (af sizes) (af other) v:Nat)):=⟨hB,cv⟩
    refine ar 8 (.pointer (some ⟨g,v,none⟩)) ?_;refine ar 9 (.int .i64 (cC (af sizes) (af other) v:Nat)) ?_
 rotate_left 6
 focus
  intro K' hK';go_simp;have hb:Below u0.heap.size u0 (u0.alloc (.cells #[.nilFunc] 140)):=(aw _ u0).alloc (ak _) _;have h9:Boxed (u0.alloc (.cells #[.nilFunc] 140)) u0.heap.size 140 (.nilFunc):=aZ u0 _ _;have l9:u0.heap.size<(u0.alloc (.cells #[.nilFunc] 140)).heap.size:=by simp
  have w9:=hB.size;replace hB:=hB.trans (hb.ae hB.size);refine hK'.o _ _ hB (fun ah=>?_);clear hK' K' hb;generalize (u0.alloc (.cells #[.nilFunc] 140))=u1 at *;generalize u0.heap.size=B9 at *;refine aI [3,11] (cA ?_ (cA ?_ aH))
  focus
   intro K' hK';go_simp;refine(HB.o _ (HS.o.aa hB) (HO.o.aa hB)).ae ?_;rintro e u2 ⟨f,rfl,hF,hb⟩;obtain⟨lb,rfl⟩:=hF.shape;have eO:=hB.size;replace hB:=hB.trans (hb.ae hB.size);refine hK'.o _ _ hB (fun ag=>?_);clear hK' K' ah;have ah:=ag;clear ag;replace h9:=aY h9 hb;have r9:B9<u1.heap.size∨u2.heap.size<=B9:=.inl l9;replace l9:=aR l9 hb.size;have lH:w.heap.size<=u1.heap.size:=eO;have qM:=hF.top;generalize u1.heap.size=n1 at hF eO lH r9⊢;generalize hm1:u2.heap.size=m1 at hF qM r9;rw[<- hm1] at qM;(have a7:m1<=u2.heap.size:=by omega);clear hb hm1;refine aI [6,11] (cA ?_ (cA ?_ aH))
   focus
    intro K' hK';go_simp;refine(HA.o _ (HS.o.aa hB) (HO.o.aa hB)).ae ?_;rintro e u3 ⟨g,ct,rfl,hg1,hi,hb⟩;replace hB:=hB.trans (hb.ae hB.size);replace hF:=hF.aa hb;replace a7:=aM a7 hb.size;refine hK'.o _ _ hB (fun ag=>?_);clear hK' K' ah;have ah:=ag;clear ag;obtain⟨g3,o3,e3,cK,cv⟩:=hi v (by rw[bF,nL];exact ek);cases e3;rw[uo ek,bI] at cv;replace h9:=aY h9 hb;(have g9:¬B9=g:=by omega);replace l9:=aR l9 hb.size;clear hb hi hg1 ah;(try simp only[gE,aP]);refine sM (S':=fun u=>Hid (Below w.heap.size w u)/\u.cell? ⟨g,v,none⟩=some (.int .i64 (cC (af sizes) (af other) v:Nat))) (fun _ h=>h.1) _ _ _ _ ?_;have ah:Hid (Below w.heap.size w u3)/\u3.cell? ⟨g,v,none⟩=some (.int .i64 (cC (af sizes) (af other) v:Nat)):=⟨hB,cv⟩;refine ar 8 (.pointer (some ⟨g,v,none⟩)) ?_;refine ar 9 (.int .i64 (cC (af sizes) (af other) v:Nat)) ?_;refine aI [11] (cA ?_ aH);intro K' hK';go_simp;have hb:Below u3.heap.size u3 (u3.alloc (.cells #[.int .i64 0] 3)):=(aw _ u3).alloc (ak _) _;have h10:Boxed (u3.alloc (.cells #[.int .i64 0] 3)) u3.heap.size 3 (.int .i64 0):=aZ u3 _ _;(have l10:u3.heap.size<(u3.alloc (.cells #[.int .i64 0] 3)).heap.size:=by simp);have b7:=hB.size;replace hB:=hB.trans (hb.ae hB.size);replace h9:=aY h9 hb;(have ne:¬B9=u3.heap.size:=by omega);replace l9:=aR l9 hb.size;replace hF:=hF.aa hb;have oK:u3.heap.size<n1∨m1<=u3.heap.size:=.inr a7;replace a7:=aM a7 hb.size;(have g10:¬u3.heap.size=g:=by omega);replace cv:=(hb.cell (p:=⟨g,v,none⟩) cK).trans cv;replace cK:=aR cK hb.size
    refine hK'.o _ _ ⟨hB,cv⟩ (fun ah=>?_);clear hK' K' hb;generalize (u3.alloc (.cells #[.int .i64 0] 3))=u4 at *;generalize u3.heap.size=cS at *
   rotate_left
   focus
    intro K' hK';go_simp;have hb:Below u2.heap.size u2 (u2.alloc (.cells #[.int .i64 0] 3)):=(aw _ u2).alloc (ak _) _;have h10:Boxed (u2.alloc (.cells #[.int .i64 0] 3)) u2.heap.size 3 (.int .i64 0):=aZ u2 _ _;(have l10:u2.heap.size<(u2.alloc (.cells #[.int .i64 0] 3)).heap.size:=by simp);have b7:=hB.size;replace hB:=hB.trans (hb.ae hB.size);replace h9:=aY h9 hb;(have ne:¬B9=u2.heap.size:=by omega);replace l9:=aR l9 hb.size;replace hF:=hF.aa hb;have oK:u2.heap.size<n1∨m1<=u2.heap.size:=.inr a7;replace a7:=aM a7 hb.size;refine hK'.o _ _ hB (fun ah=>?_);clear hK' K' hb;generalize (u2.alloc (.cells #[.int .i64 0] 3))=u3 at *;generalize u2.heap.size=cS at *;refine aI [6] (cA ?_ aH);intro K' hK';go_simp;refine(HA.o _ (HS.o.aa hB) (HO.o.aa hB)).ae ?_;rintro e u4 ⟨g,ct,rfl,hg1,hi,hb⟩;replace hB:=hB.trans (hb.ae hB.size);replace hF:=hF.aa hb;replace a7:=aM a7 hb.size;refine hK'.o _ _ hB (fun ag=>?_);clear hK' K' ah;have ah:=ag;clear ag;obtain⟨g3,o3,e3,cK,cv⟩:=hi v (by rw[bF,nL];exact ek);cases e3;rw[uo ek,bI] at cv;replace h9:=aY h9 hb;(have g9:¬B9=g:=by omega);replace l9:=aR l9 hb.size;replace h10:=aY h10 hb;(have g10:¬cS=g:=by omega);replace l10:=aR l10 hb.size;clear hb hi hg1 ah;(try simp only[gE,aP]);refine sM (S':=fun u=>Hid (Below w.heap.size w u)/\u.cell? ⟨g,v,none⟩=some (.int .i64 (cC (af sizes) (af other) v:Nat))) (fun _ h=>h.1) _ _ _ _ ?_;have ah:Hid (Below w.heap.size w u4)/\u4.cell? ⟨g,v,none⟩=some (.int .i64 (cC (af sizes) (af other) v:Nat)):=⟨hB,cv⟩
    refine ar 8 (.pointer (some ⟨g,v,none⟩)) ?_;refine ar 9 (.int .i64 (cC (af sizes) (af other) v:Nat)) ?_
  rotate_left 2
  focus
   intro K' hK';go_simp;have hb:Below u1.heap.size u1 (u1.alloc (.cells #[.int .i64 0] 3)):=(aw _ u1).alloc (ak _) _;have h10:Boxed (u1.alloc (.cells #[.int .i64 0] 3)) u1.heap.size 3 (.int .i64 0):=aZ u1 _ _;(have l10:u1.heap.size<(u1.alloc (.cells #[.int .i64 0] 3)).heap.size:=by simp);have b7:=hB.size;replace hB:=hB.trans (hb.ae hB.size);replace h9:=aY h9 hb;(have ne:¬B9=u1.heap.size:=by omega);replace l9:=aR l9 hb.size;refine hK'.o _ _ hB (fun ah=>?_);clear hK' K' hb;generalize (u1.alloc (.cells #[.int .i64 0] 3))=u2 at *;generalize u1.heap.size=cS at *;refine aI [3] (cA ?_ aH);intro K' hK';go_simp;refine(HB.o _ (HS.o.aa hB) (HO.o.aa hB)).ae ?_;rintro e u3 ⟨f,rfl,hF,hb⟩;obtain⟨lb,rfl⟩:=hF.shape;have eO:=hB.size;replace hB:=hB.trans (hb.ae hB.size);refine hK'.o _ _ hB (fun ag=>?_);clear hK' K' ah;have ah:=ag;clear ag;replace h9:=aY h9 hb;have r9:B9<u2.heap.size∨u3.heap.size<=B9:=.inl l9;replace l9:=aR l9 hb.size;replace h10:=aY h10 hb;have oK:cS<u2.heap.size∨u3.heap.size<=cS:=.inl l10;replace l10:=aR l10 hb.size;have lH:w.heap.size<=u2.heap.size:=eO;have qM:=hF.top;generalize u2.heap.size=n1 at hF eO lH r9 oK⊢;generalize hm1:u3.heap.size=m1 at hF qM r9 oK;rw[<- hm1] at qM;(have a7:m1<=u3.heap.size:=by omega);clear hb hm1;refine aI [6] (cA ?_ aH);intro K' hK';go_simp;refine(HA.o _ (HS.o.aa hB) (HO.o.aa hB)).ae ?_;rintro e u4 ⟨g,ct,rfl,hg1,hi,hb⟩;replace hB:=hB.trans (hb.ae hB.size);replace hF:=hF.aa hb;replace a7:=aM a7 hb.size;refine hK'.o _ _ hB (fun ag=>?_)
   clear hK' K' ah;have ah:=ag;clear ag;obtain⟨g3,o3,e3,cK,cv⟩:=hi v (by rw[bF,nL];exact ek);cases e3;rw[uo ek,bI] at cv;replace h9:=aY h9 hb;(have g9:¬B9=g:=by omega);replace l9:=aR l9 hb.size;replace h10:=aY h10 hb;(have g10:¬cS=g:=by omega);replace l10:=aR l10 hb.size;clear hb hi hg1 ah;(try simp only[gE,aP]);refine sM (S':=fun u=>Hid (Below w.heap.size w u)/\u.cell? ⟨g,v,none⟩=some (.int .i64 (cC (af sizes) (af other) v:Nat))) (fun _ h=>h.1) _ _ _ _ ?_;have ah:Hid (Below w.heap.size w u4)/\u4.cell? ⟨g,v,none⟩=some (.int .i64 (cC (af sizes) (af other) v:Nat)):=⟨hB,cv⟩;refine ar 8 (.pointer (some ⟨g,v,none⟩)) ?_;refine ar 9 (.int .i64 (cC (af sizes) (af other) v:Nat)) ?_
 rotate_left 3
 focus
  intro K' hK';go_simp;have hb:Below u0.heap.size u0 (u0.alloc (.cells #[.int .i64 0] 3)):=(aw _ u0).alloc (ak _) _;have h10:Boxed (u0.alloc (.cells #[.int .i64 0] 3)) u0.heap.size 3 (.int .i64 0):=aZ u0 _ _;have l10:u0.heap.size<(u0.alloc (.cells #[.int .i64 0] 3)).heap.size:=by simp
  have b7:=hB.size;replace hB:=hB.trans (hb.ae hB.size);refine hK'.o _ _ hB (fun ah=>?_);clear hK' K' hb;generalize (u0.alloc (.cells #[.int .i64 0] 3))=u1 at *;generalize u0.heap.size=cS at *;refine aI [3,10] (cA ?_ (cA ?_ aH))
  focus
   intro K' hK';go_simp;refine(HB.o _ (HS.o.aa hB) (HO.o.aa hB)).ae ?_;rintro e u2 ⟨f,rfl,hF,hb⟩;obtain⟨lb,rfl⟩:=hF.shape;have eO:=hB.size;replace hB:=hB.trans (hb.ae hB.size);refine hK'.o _ _ hB (fun ag=>?_);clear hK' K' ah;have ah:=ag;clear ag;replace h10:=aY h10 hb;have oK:cS<u1.heap.size∨u2.heap.size<=cS:=.inl l10;replace l10:=aR l10 hb.size;have lH:w.heap.size<=u1.heap.size:=eO;have qM:=hF.top;generalize u1.heap.size=n1 at hF eO lH oK⊢;generalize hm1:u2.heap.size=m1 at hF qM oK;rw[<- hm1] at qM;(have a7:m1<=u2.heap.size:=by omega);clear hb hm1;refine aI [6,10] (cA ?_ (cA ?_ aH))
   focus
    intro K' hK';go_simp;refine(HA.o _ (HS.o.aa hB) (HO.o.aa hB)).ae ?_;rintro e u3 ⟨g,ct,rfl,hg1,hi,hb⟩;replace hB:=hB.trans (hb.ae hB.size);replace hF:=hF.aa hb;replace a7:=aM a7 hb.size;refine hK'.o _ _ hB (fun ag=>?_);clear hK' K' ah;have ah:=ag;clear ag;obtain⟨g3,o3,e3,cK,cv⟩:=hi v (by rw[bF,nL];exact ek);cases e3;rw[uo ek,bI] at cv;replace h10:=aY h10 hb;(have g10:¬cS=g:=by omega);replace l10:=aR l10 hb.size;clear hb hi hg1 ah;(try simp only[gE,aP]);refine sM (S':=fun u=>Hid (Below w.heap.size w u)/\u.cell? ⟨g,v,none⟩=some (.int .i64 (cC (af sizes) (af other) v:Nat))) (fun _ h=>h.1) _ _ _ _ ?_;have ah:Hid (Below w.heap.size w u3)/\u3.cell? ⟨g,v,none⟩=some (.int .i64 (cC (af sizes) (af other) v:Nat)):=⟨hB,cv⟩;refine ar 8 (.pointer (some ⟨g,v,none⟩)) ?_;refine ar 9 (.int .i64 (cC (af sizes) (af other) v:Nat)) ?_;refine aI [10] (cA ?_ aH);intro K' hK';go_simp;have hb:Below u3.heap.size u3 (u3.alloc (.cells #[.nilFunc] 140)):=(aw _ u3).alloc (ak _) _;have h9:Boxed (u3.alloc (.cells #[.nilFunc] 140)) u3.heap.size 140 (.nilFunc):=aZ u3 _ _;(have l9:u3.heap.size<(u3.alloc (.cells #[.nilFunc] 140)).heap.size:=by simp);have w9:=hB.size;replace hB:=hB.trans (hb.ae hB.size);replace h10:=aY h10 hb;(have ne:¬cS=u3.heap.size:=by omega);replace l10:=aR l10 hb.size;replace hF:=hF.aa hb;have r9:u3.heap.size<n1∨m1<=u3.heap.size:=.inr a7;replace a7:=aM a7 hb.size;(have g9:¬u3.heap.size=g:=by omega);replace cv:=(hb.cell (p:=⟨g,v,none⟩) cK).trans cv;replace cK:=aR cK hb.size
    refine hK'.o _ _ ⟨hB,cv⟩ (fun ah=>?_);clear hK' K' hb;generalize (u3.alloc (.cells #[.nilFunc] 140))=u4 at *;generalize u3.heap.size=B9 at *
   rotate_left
   focus
    intro K' hK';go_simp;have hb:Below u2.heap.size u2 (u2.alloc (.cells #[.nilFunc] 140)):=(aw _ u2).alloc (ak _) _;have h9:Boxed (u2.alloc (.cells #[.nilFunc] 140)) u2.heap.size 140 (.nilFunc):=aZ u2 _ _;(have l9:u2.heap.size<(u2.alloc (.cells #[.nilFunc] 140)).heap.size:=by simp);have w9:=hB.size;replace hB:=hB.trans (hb.ae hB.size);replace h10:=aY h10 hb;(have ne:¬cS=u2.heap.size:=by omega);replace l10:=aR l10 hb.size;replace hF:=hF.aa hb;have r9:u2.heap.size<n1∨m1<=u2.heap.size:=.inr a7;replace a7:=aM a7 hb.size;refine hK'.o _ _ hB (fun ah=>?_);clear hK' K' hb;generalize (u2.alloc (.cells #[.nilFunc] 140))=u3 at *;generalize u2.heap.size=B9 at *;refine aI [6] (cA ?_ aH);intro K' hK';go_simp;refine(HA.o _ (HS.o.aa hB) (HO.o.aa hB)).ae ?_;rintro e u4 ⟨g,ct,rfl,hg1,hi,hb⟩;replace hB:=hB.trans (hb.ae hB.size);replace hF:=hF.aa hb;replace a7:=aM a7 hb.size;refine hK'.o _ _ hB (fun ag=>?_);clear hK' K' ah;have ah:=ag;clear ag;obtain⟨g3,o3,e3,cK,cv⟩:=hi v (by rw[bF,nL];exact ek);cases e3;rw[uo ek,bI] at cv;replace h9:=aY h9 hb;(have g9:¬B9=g:=by omega);replace l9:=aR l9 hb.size;replace h10:=aY h10 hb;(have g10:¬cS=g:=by omega);replace l10:=aR l10 hb.size;clear hb hi hg1 ah;(try simp only[gE,aP]);refine sM (S':=fun u=>Hid (Below w.heap.size w u)/\u.cell? ⟨g,v,none⟩=some (.int .i64 (cC (af sizes) (af other) v:Nat))) (fun _ h=>h.1) _ _ _ _ ?_;have ah:Hid (Below w.heap.size w u4)/\u4.cell? ⟨g,v,none⟩=some (.int .i64 (cC (af sizes) (af other) v:Nat)):=⟨hB,cv⟩
    refine ar 8 (.pointer (some ⟨g,v,none⟩)) ?_;refine ar 9 (.int .i64 (cC (af sizes) (af other) v:Nat)) ?_
  rotate_left 2
  focus
   intro K' hK';go_simp;have hb:Below u1.heap.size u1 (u1.alloc (.cells #[.nilFunc] 140)):=(aw _ u1).alloc (ak _) _;have h9:Boxed (u1.alloc (.cells #[.nilFunc] 140)) u1.heap.size 140 (.nilFunc):=aZ u1 _ _;(have l9:u1.heap.size<(u1.alloc (.cells #[.nilFunc] 140)).heap.size:=by simp);have w9:=hB.size;replace hB:=hB.trans (hb.ae hB.size);replace h10:=aY h10 hb;(have ne:¬cS=u1.heap.size:=by omega);replace l10:=aR l10 hb.size;refine hK'.o _ _ hB (fun ah=>?_);clear hK' K' hb;generalize (u1.alloc (.cells #[.nilFunc] 140))=u2 at *;generalize u1.heap.size=B9 at *;refine aI [3] (cA ?_ aH);intro K' hK';go_simp;refine(HB.o _ (HS.o.aa hB) (HO.o.aa hB)).ae ?_;rintro e u3 ⟨f,rfl,hF,hb⟩;obtain⟨lb,rfl⟩:=hF.shape;have eO:=hB.size;replace hB:=hB.trans (hb.ae hB.size);refine hK'.o _ _ hB (fun ag=>?_);clear hK' K' ah;have ah:=ag;clear ag;replace h9:=aY h9 hb;have r9:B9<u2.heap.size∨u3.heap.size<=B9:=.inl l9;replace l9:=aR l9 hb.size;replace h10:=aY h10 hb;have oK:cS<u2.heap.size∨u3.heap.size<=cS:=.inl l10;replace l10:=aR l10 hb.size;have lH:w.heap.size<=u2.heap.size:=eO;have qM:=hF.top;generalize u2.heap.size=n1 at hF eO lH r9 oK⊢;generalize hm1:u3.heap.size=m1 at hF qM r9 oK;rw[<- hm1] at qM;(have a7:m1<=u3.heap.size:=by omega);clear hb hm1;refine aI [6] (cA ?_ aH);intro K' hK';go_simp;refine(HA.o _ (HS.o.aa hB) (HO.o.aa hB)).ae ?_;rintro e u4 ⟨g,ct,rfl,hg1,hi,hb⟩;replace hB:=hB.trans (hb.ae hB.size);replace hF:=hF.aa hb;replace a7:=aM a7 hb.size;refine hK'.o _ _ hB (fun ag=>?_);clear hK' K' ah
   have ah:=ag;clear ag;obtain⟨g3,o3,e3,cK,cv⟩:=hi v (by rw[bF,nL];exact ek);cases e3;rw[uo ek,bI] at cv;replace h9:=aY h9 hb;(have g9:¬B9=g:=by omega);replace l9:=aR l9 hb.size;replace h10:=aY h10 hb;(have g10:¬cS=g:=by omega);replace l10:=aR l10 hb.size;clear hb hi hg1 ah;(try simp only[gE,aP]);refine sM (S':=fun u=>Hid (Below w.heap.size w u)/\u.cell? ⟨g,v,none⟩=some (.int .i64 (cC (af sizes) (af other) v:Nat))) (fun _ h=>h.1) _ _ _ _ ?_;have ah:Hid (Below w.heap.size w u4)/\u4.cell? ⟨g,v,none⟩=some (.int .i64 (cC (af sizes) (af other) v:Nat)):=⟨hB,cv⟩;refine ar 8 (.pointer (some ⟨g,v,none⟩)) ?_;refine ar 9 (.int .i64 (cC (af sizes) (af other) v:Nat)) ?_
 all_goals
  refine aI [12] (cA ?_ aH);have c9:=h9.cell;have f9:=h9.frozen;intro K' hK';go_simp;have e9:Boxed (u4.setCell ⟨B9,0,none⟩ (.func (.func 234) #[] lb)) B9 140 (.func (.func 234) #[] lb):=h9.set _;have zk:Boxed (u4.setCell ⟨B9,0,none⟩ (.func (.func 234) #[] lb)) cS 3 (.int .i64 0):=fS h10 B9 0 _ (by omega);replace hF:=hF.kept (xz.set u4 0 (.func (.func 234) #[] lb) a7 r9);replace hB:=ab8 hB B9 0 (.func (.func 234) #[] lb) w9;replace cv:(u4.setCell ⟨B9,0,none⟩ (.func (.func 234) #[] lb)).cell? ⟨g,v,none⟩=_:=(dX _ _ _ _ (fun e=>g9 (dt Addr.block e))).trans cv;have lz:u4.heap.size<=(u4.setCell ⟨B9,0,none⟩ (.func (.func 234) #[] lb)).heap.size:=(ji u4 _ _).size;replace l9:=aR l9 lz;replace l10:=aR l10 lz;replace a7:=aM a7 lz;refine hK'.o _ _ ⟨hB,cv⟩ (fun ag=>?_);clear hK' K' ah h9 h10 c9 f9 lz;have ah:=ag;clear ag;generalize (u4.setCell ⟨B9,0,none⟩ (.func (.func 234) #[] lb))=v1 at *;have c10:=zk.cell;have f10:=zk.frozen;refine aI [13] (cA ?_ aH);intro K' hK';go_simp;have x9:Boxed (v1.setCell ⟨cS,0,none⟩ (.int .i64 (cC (af sizes) (af other) v:Nat))) B9 140 (.func (.func 234) #[] lb):=fS e9 cS 0 _ (by omega);have x10:=zk.set (.int .i64 (cC (af sizes) (af other) v:Nat));replace hF:=hF.kept (xz.set v1 0 (.int .i64 (cC (af sizes) (af other) v:Nat)) a7 oK);replace hB:=ab8 hB cS 0 (.int .i64 (cC (af sizes) (af other) v:Nat)) b7;replace cv:(v1.setCell ⟨cS,0,none⟩ (.int .i64 (cC (af sizes) (af other) v:Nat))).cell? ⟨g,v,none⟩=_:=(dX _ _ _ _ (fun e=>g10 (dt Addr.block e))).trans cv
  have lz:v1.heap.size<=(v1.setCell ⟨cS,0,none⟩ (.int .i64 (cC (af sizes) (af other) v:Nat))).heap.size:=(ji v1 _ _).size;replace l9:=aR l9 lz;replace l10:=aR l10 lz;replace a7:=aM a7 lz;refine hK'.o _ _ ⟨hB,cv⟩ (fun _=>dW (by kernel_rfl) ?_ _);clear hK' K' ah e9 zk c10 f10 lz;generalize (v1.setCell ⟨cS,0,none⟩ (.int .i64 (cC (af sizes) (af other) v:Nat)))=v2 at *;go_wp2;go_ret;exact⟨_,rfl,⟨B9,cS,_,rfl,w9,b7,l9,l10,ak _,x9.cell,x10.cell,hF.wider lH a7 (ak _)⟩,hB⟩
variable {pv:Value} {V':World}
abbrev fh (f:Fr):Value:=.agg #[.bool f.1,.string f.2.1,.string f.2.2]
structure JF (w V:World) (pv:Value) (B:Nat) (n:Bool) (x y:ByteArray):Prop where
 how:Boxed V w.heap.size 224 pv
 res:aL V (w.heap.size+1) false ⟨#[]⟩ ⟨#[]⟩
 left:aL V B n x y
 aa:Below w.heap.size w V
 lt:w.heap.size+1<B
theorem JF.step {B:Nat} {n:Bool} {x y:ByteArray} (h:JF w V pv B n x y) (hb:Below V.heap.size V V'):JF w V' pv B n x y:=
 ⟨(hb.block _ h.how.lt).trans h.how,h.res.aa hb h.res.lt,h.left.aa hb h.left.lt,h.aa.trans (hb.ae h.aa.size),h.lt⟩
theorem JF.drew {B:Nat} {n:Bool} {x y:ByteArray} (h:JF w V pv B n x y):JF w V.drew pv B n x y:=⟨h.how,h.res,h.left,h.aa.drew,h.lt⟩
theorem JF.put {B:Nat} {n:Bool} {x y:ByteArray} (h:JF w V pv B n x y) (n':Bool) (x' y':ByteArray):JF w (((V.setCell ⟨B,0,none⟩ (.bool n')).setCell ⟨B,1,none⟩ (.string x')).setCell ⟨B,2,none⟩ (.string y')) pv B n' x' y':=by
 have h1:=h.lt;exact⟨fS (fS (fS h.how B 0 _ (by omega)) B 1 _ (by omega)) B 2 _ (by omega),((h.res.far (by omega) _).far (by omega) _).far (by omega) _,h.left.put n' x' y',df h.aa (by omega) _ _ _,h.lt⟩
theorem aij (pf tf:Nat) (rJ Pj:Array Value) (ep:∀args w,(callFunc pf args).run Tryz.prog w=.ok (.enter pf args) w) (et:∀args w,(callFunc tf args).run Tryz.prog w=.ok (.enter tf args) w) (n:Nat) (T L:Nat ->Fr) (w:World) (h1:1<=n) (hn:n<=65536)
  (ht:∀k,k< n ->∀V,Below w.heap.size w V ->Calls Tryz.prog tf (#[.int .i64 (k:Nat)]++Pj) V fun e w'=>e=.returned (fh (T k))/\Below V.heap.size V w')
  (hp:∀k,k+1< n ->∀V,Below w.heap.size w V ->Calls Tryz.prog pf (#[fh (L k),fh (T (k+1))]++rJ) V fun e w'=>e=.returned (fh (L (k+1)))/\Below V.heap.size V w')
  (h0:L 0=T 0):
  Calls Tryz.prog 205 #[.agg #[.func (.func pf) #[] rJ],.int .i64 (n:Nat),.func (.func tf) #[] Pj] w fun e w'=>e=.returned (fh (L (n - 1)))/\Below w.heap.size w w':=by
 have HT:=hid ht;have HP:=hid hp;clear ht hp;go_enter Tryz.func205,Tryz.ntmps205;go_wp2_with fail
 have hb0:Below w.heap.size w ((w.alloc (.cells #[.func (.func pf) #[] rJ] 224)).alloc (.cells #[.bool false,.string ⟨#[]⟩,.string ⟨#[]⟩] 32)):=((aw _ w).alloc (ak _) _).alloc (by simp) _;have b0:Boxed ((w.alloc (.cells #[.func (.func pf) #[] rJ] 224)).alloc (.cells #[.bool false,.string ⟨#[]⟩,.string ⟨#[]⟩] 32)) w.heap.size 224 (.func (.func pf) #[] rJ):=(aZ w _ _).alloc _
 have b1:aL ((w.alloc (.cells #[.func (.func pf) #[] rJ] 224)).alloc (.cells #[.bool false,.string ⟨#[]⟩,.string ⟨#[]⟩] 32)) (w.heap.size+1) false ⟨#[]⟩ ⟨#[]⟩:=by
  have h:=aL.new (w.alloc (.cells #[.func (.func pf) #[] rJ] 224)) false ⟨#[]⟩ ⟨#[]⟩;rwa [dE] at h
 have hsz:((w.alloc (.cells #[.func (.func pf) #[] rJ] 224)).alloc (.cells #[.bool false,.string ⟨#[]⟩,.string ⟨#[]⟩] 32)).heap.size=w.heap.size+1+1:=by simp
 generalize ((w.alloc (.cells #[.func (.func pf) #[] rJ] 224)).alloc (.cells #[.bool false,.string ⟨#[]⟩,.string ⟨#[]⟩] 32))=W at *;have H00:=hid h0;refine(HT.o 0 (by omega) _ hb0).ae ?_;rcases FZ:T 0 with ⟨n0,x0,y0⟩;rintro e w1 ⟨rfl,hb1⟩;rw[FZ] at h0;have Od:=hid h0;clear h0 FZ H00;have hs1:=hb1.size;have c0:=(aY b0 hb1);have c1:=b1.aa hb1 b1.lt;have cB:=hb0.trans (hb1.ae hb0.size);go_wp2_with fail
 have HJ0:Hid (JF w (w1.alloc (.cells #[.bool n0,.string x0,.string y0] 32)) (.func (.func pf) #[] rJ) w1.heap.size n0 x0 y0):=⟨c0.alloc _,c1.alloc _,aL.new w1 n0 x0 y0,cB.alloc cB.size _,by omega⟩;generalize w1.heap.size=B at *;clear b0 b1 hb0 hsz hb1 hs1 c0 c1 cB;go_loopw [13] (fun iv wr=>∃i:Nat,i+1<=n/\iv=.int .i64 i/\Hid (JF w wr (.func (.func pf) #[] rJ) B (L i).1 (L i).2.1 (L i).2.2)) (fun iv _=>n - (intOf iv).toNat)
 case atStart=>exact⟨0,h1,rfl,by rw[Od.o];exact HJ0⟩
 case round=>
  obtain⟨i,hi,rfl,HJ⟩:=hrel;clear HJ0 Od;by_cases hlt:i+1<n
  ·have NJ:=HT.o (i+1) hlt;have zD:=HP.o i hlt;rw[Int.natCast_succ] at NJ;rcases hL:L i with ⟨ni,xi,yi⟩;rcases hT:T (i+1) with ⟨nt,xt,yt⟩;rcases Su:L (i+1) with ⟨nl,xl,yl⟩;rw[hL] at HJ zD;rw[hT] at NJ zD;rw[Su] at zD;have J9:=hid NJ;have xK:=hid zD;have xM:=hid Su;clear NJ zD hL hT Su;have J0:=HJ.o;simp only at J0;obtain⟨k0,k1,k2,f0,f1,f2⟩:=J0.left.facts;have zr:=J0.drew;(have hwi:IntKind.i64.wrap ((i:Int)+1)=(i:Int)+1:=by rw[gV];omega);go_upto_region 5 with fail
   refine kC (S:=fun V=>V.cell? ⟨w.heap.size,0,none⟩=some (.func (.func pf) #[] rJ)) (by kernel_rfl) zr.how.cell (fun ah=>?_);have d0:=zr.left.c0;have d1:=zr.left.c1;have d2:=zr.left.c2;refine ar 0 (.pointer (some ⟨w.heap.size,0,none⟩)) ?_;refine ar 1 (.func (.func pf) #[] rJ) ?_;refine ar 3 (.func (.func tf) #[] Pj) ?_;refine ar 4 (.int .i64 (i:Nat)) ?_;refine ar 5 (.int .i64 ((i:Int)+1)) ?_;refine aI [2,6] (cA ?_ (cA ?_ aH))
   focus
    intro K' hK';go_simp;refine hK'.o _ _ zr.how.cell (fun ag=>?_);clear hK' K' ah;have ah:=ag;clear ag;refine aI [6] (cA ?_ aH);intro K' hK';go_simp;refine(J9.o _ zr.aa).ae ?_;rintro e w2 ⟨rfl,hb2⟩;have J1:=zr.step hb2;obtain⟨e0,e1,e2,_,_,_⟩:=J1.left.facts
   rotate_left
   focus
    intro K' hK';go_simp;refine(J9.o _ zr.aa).ae ?_;rintro e w2 ⟨rfl,hb2⟩;have J1:=zr.step hb2;obtain⟨e0,e1,e2,_,_,_⟩:=J1.left.facts;refine hK'.o _ _ J1.how.cell (fun ag=>?_);clear hK' K' ah;have ah:=ag;clear ag;refine aI [2] (cA ?_ aH);intro K' hK';go_simp
   all_goals
    refine hK'.o _ _ J1.how.cell (fun ag=>?_);clear hK' K' ah;have ah:=ag;clear ag;refine aI [7] (cA ?_ aH);intro K' hK';go_simp;refine(xK.o _ J1.aa).ae ?_;rintro e w3 ⟨rfl,hb3⟩;have J2:=J1.step hb3;refine hK'.o _ _ J2.how.cell (fun ag=>?_);clear hK' K' ah;have ah:=ag;clear ag;obtain⟨q0,q1,q2,p0,p1,p2⟩:=J2.left.facts;refine aI [8] (cA ?_ aH);intro K' hK';go_simp;have J3:=J2.put nl xl yl;refine hK'.o _ _ J3.how.cell (fun _=>dW (by kernel_rfl) ?_ _);clear hK' K' ah;go_wp2;go_roundw
    case rel=>exact⟨i+1,by omega,by rw[Int.natCast_succ],by rw[xM.o];exact J3⟩
    case measure=>simp[intOf];omega
  ·have hin:i+1=n:=by omega
   (have HE:Hid (L (n - 1)=L i):=by show _=_;rw[show n - 1=i by omega]);have J0:=HJ.o;obtain⟨k0,k1,k2,f0,f1,f2⟩:=J0.left.facts;obtain⟨r0,r1,r2,t0,t1,t2⟩:=J0.res.facts;go_wp2;refine dh ((J0.res.put _ _ _).result rfl _ rfl) rfl ?_;exact⟨by rw[HE.o],df J0.aa (by omega) _ _ _⟩
abbrev bt (f:Fr):Rat:=val f.1 f.2.1 f.2.2
def great (f g:Fr):Fr:=if jd (bt f) (bt g)<0 then g else f
theorem ajK (f g:Fr) (w:World) (s1:f.2.1.size+f.2.2.size<=100000) (s2:g.2.1.size+g.2.2.size<=100000):
  Calls Tryz.prog 235 #[fh f,fh g] w fun e w'=>e=.returned (fh (great f g))/\Below w.heap.size w w':=by
 obtain⟨n,x,y⟩:=f;obtain⟨m,u,v⟩:=g;have HC:=hid (fun V:World=>Tc (w:=V) (jd (val n x y) (val m u v)) rfl rfl rfl s1 s2);have HG:Hid (great (n,x,y) (m,u,v)=if jd (val n x y) (val m u v)<0 then(m,u,v) else(n,x,y)):=rfl;generalize great (n,x,y) (m,u,v)=r at *;generalize jd (val n x y) (val m u v)=k at *;have b0:aL (((w.alloc (FC n x y)).alloc (FC m u v)).alloc (FC false ⟨#[]⟩ ⟨#[]⟩)) w.heap.size n x y:=((aL.new w n x y).alloc _).alloc _;have b1:aL (((w.alloc (FC n x y)).alloc (FC m u v)).alloc (FC false ⟨#[]⟩ ⟨#[]⟩)) (w.heap.size+1) m u v:=(aL.at (w:=w.alloc (FC n x y)) (by simp) m u v).alloc _;have b2:aL (((w.alloc (FC n x y)).alloc (FC m u v)).alloc (FC false ⟨#[]⟩ ⟨#[]⟩)) (w.heap.size+1+1) false ⟨#[]⟩ ⟨#[]⟩:=aL.at (w:=(w.alloc (FC n x y)).alloc (FC m u v)) (by simp) false ⟨#[]⟩ ⟨#[]⟩;have hb0:Below w.heap.size w (((w.alloc (FC n x y)).alloc (FC m u v)).alloc (FC false ⟨#[]⟩ ⟨#[]⟩)):=(((aw _ w).alloc (ak _) _).alloc (by simp) _).alloc (by simp;omega) _;go_enter Tryz.func235,Tryz.ntmps235;go_wp2_with fail
 generalize (((w.alloc (FC n x y)).alloc (FC m u v)).alloc (FC false ⟨#[]⟩ ⟨#[]⟩))=W at b0 b1 b2 hb0⊢;refine(HC.o _).ae ?_;rintro e w1 ⟨rfl,hb1⟩;have c0:=b0.aa hb1 b0.lt;have c1:=b1.aa hb1 b1.lt;have c2:=b2.aa hb1 b2.lt;have hB:=hb0.trans (hb1.ae hb0.size);obtain⟨k0,k1,k2,f0,f1,f2⟩:=c0.facts;obtain⟨j0,j1,j2,i0,i1,i2⟩:=c1.facts;obtain⟨l0,l1,l2,g0,g1,g2⟩:=c2.facts;by_cases hk:k<0
 ·have HR:Hid (r=(m,u,v)):=by show _=_;rw[HG.o,aB hk]
  clear HG;go_wp2;refine dh ((c2.put _ _ _).result rfl _ rfl) rfl ?_;exact⟨by rw[HR.o],df hB (by omega) _ _ _⟩
 ·have HR:Hid (r=(n,x,y)):=by show _=_;rw[HG.o,aD hk]
  have fN:0<=k:=by omega
  clear HG;go_wp2;refine dh ((c2.put _ _ _).result rfl _ rfl) rfl ?_;exact⟨by rw[HR.o],df hB (by omega) _ _ _⟩
theorem Wa (w:World):Calls Tryz.prog 202 #[] w fun e w'=>e=.returned (.agg #[.func (.func 141) #[] #[]])/\Below w.heap.size w w':=by
 go_enter Tryz.func202,Tryz.ntmps202;go_wp2;refine dh (EJ rfl _ _ w.heap.size _ _ _ _ rfl (aZ w _ _) Tryz.underlying224 rfl (by kernel_rfl)) rfl ?_;exact⟨rfl,(aw _ w).alloc (ak _) _⟩
theorem ajJ (w:World):Calls Tryz.prog 203 #[] w fun e w'=>e=.returned (.agg #[.func (.func 235) #[] #[]])/\Below w.heap.size w w':=by
 go_enter Tryz.func203,Tryz.ntmps203;go_wp2;refine dh (EJ rfl _ _ w.heap.size _ _ _ _ rfl (aZ w _ _) Tryz.underlying224 rfl (by kernel_rfl)) rfl ?_;exact⟨rfl,(aw _ w).alloc (ak _) _⟩
def iN:List Fr ->List Value
 |[]=>[]
 |f::l=>.bool f.1::.string f.2.1::.string f.2.2::iN l
theorem M6:∀l:List Fr,(iN l).length=3*l.length
 |[]=>rfl
 |f::l=>by simp only[iN,di,M6 l];omega
theorem M7:∀(l:List Fr) (k:Nat) (h:k<l.length),(iN l)[k*3]? =some (.bool l[k].1)/\(iN l)[k*3+1]? =some (.string l[k].2.1)/\(iN l)[k*3+2]? =some (.string l[k].2.2)
 |[],_,h=>absurd h (by simp)
 |f::l,0,_=>⟨rfl,rfl,rfl⟩
 |f::l,k+1,h=>by
  have h':k<l.length:=by simpa using h
  obtain⟨h1,h2,h3⟩:=M7 l k h';have e:(k+1)*3=k*3+1+1+1:=by omega
  refine⟨?_,?_,?_⟩
  ·rw[e];exact h1
  ·rw[show (k+1)*3+1=(k*3+1)+1+1+1 by omega];exact h2
  ·rw[show (k+1)*3+2=(k*3+2)+1+1+1 by omega];exact h3
theorem aba:∀(l:List Fr) (k:Nat) (f:Fr),(((iN l).set (k*3) (.bool f.1)).set (k*3+1) (.string f.2.1)).set (k*3+2) (.string f.2.2)=iN (l.set k f)
 |[],k,f=>by simp[iN]
 |x::l,0,f=>by simp[iN]
 |x::l,k+1,f=>by
  rw[show (k+1)*3=k*3+1+1+1 by omega,show k*3+1+1+1+1=(k*3+1)+1+1+1 by omega,show k*3+1+1+1+2=(k*3+2)+1+1+1 by omega];simp only[iN,List.set_cons_succ,aba l k f]
def jw (w:World) (g:Nat) (l:List Fr):Prop:=w.heap[g]? =some (.cells (iN l).toArray 32 (0,0))
theorem jw.lt {l:List Fr} (h:jw w g l):g<w.heap.size:=(cV.1 h).1
theorem jw.fz {l:List Fr} (h:jw w g l) (j:Nat):w.frozen? ⟨g,j,none⟩=false:=kZ w g j _ _ h
theorem jw.aa {b:Nat} {l:List Fr} (h:jw w g l) (hb:Below b w w') (hg:g<b):jw w' g l:=(hb.block g hg).trans h
theorem jw.cells {l:List Fr} (h:jw w g l) (k:Nat) (hk:k<l.length):w.cell? ⟨g,k*3,none⟩=some (.bool l[k].1)/\w.cell? ⟨g,k*3+1,none⟩=some (.string l[k].2.1)/\w.cell? ⟨g,k*3+2,none⟩=some (.string l[k].2.2):=by
 obtain⟨h1,h2,h3⟩:=M7 l k hk;refine⟨?_,?_,?_⟩<;>rw[bE w g _ _ _ (0,0) h]<;>simpa using (by assumption)
theorem jw.fr {l:List Fr} (h:jw w g l):ew w (some ⟨g,0,none⟩) l:=fun k hk=>by
 obtain⟨h1,h2,h3⟩:=h.cells k hk;refine⟨g,0,rfl,h.lt,?_,?_,?_⟩
 ·rw[bI];exact h1
 ·rw[bI];exact h2
 ·rw[bI];exact h3
theorem jw.put {l:List Fr} (h:jw w g l) (k:Nat) (f:Fr):jw (((w.setCell ⟨g,k*3,none⟩ (.bool f.1)).setCell ⟨g,k*3+1,none⟩ (.string f.2.1)).setCell ⟨g,k*3+2,none⟩ (.string f.2.2)) g (l.set k f):=by
 have h1:=jX w g (k*3) _ _ (.bool f.1) h;have h2:=jX _ g (k*3+1) _ _ (.string f.2.1) h1;have h3:=jX _ g (k*3+2) _ _ (.string f.2.2) h2;rw[jw,h3, <- aba];simp
variable {xs:List Value}
def xj:Fr:=(false,⟨#[]⟩,⟨#[]⟩)
def pA (l:List Fr) (i:Nat):List Fr:=l.take i++List.replicate (l.length - i) xj
theorem XJ (l:List Fr):pA l 0=List.replicate l.length xj:=by simp[pA]
theorem PZ (l:List Fr) (h:i<=l.length):(pA l i).length=l.length:=by simp[pA];omega
theorem XL (l:List Fr):pA l l.length=l:=by simp[pA]
theorem XK (l:List Fr) (h:i<l.length):(pA l i).set i l[i]=pA l (i+1):=by
 rw[pA,pA,Cu _ _ (by simp;omega),gh h];have e:l.length - i=(l.length - (i+1))+1:=by omega
 rw[e,Ha,eB,tZ (by omega),nD,Ct,jh];rfl
theorem Tryz.infoFrac:(Tryz.prog.info? 32).map (fun i=>(i.zero,i.size,i.bytes))=some (some (.agg #[.bool false,.string ⟨#[]⟩,.string ⟨#[]⟩]),3,40):=by kernel_rfl
theorem bG.put {u v:Value} (h:bG w g u v) (x y:Value):bG ((w.setCell ⟨g,0,none⟩ x).setCell ⟨g,1,none⟩ y) g x y:=by
 have h1:=jX w g 0 _ _ x h;have h2:=jX _ g 1 _ _ y h1;exact h2
theorem jw.off {l:List Fr} (h:jw w g l) (b j:Nat) (y:Value) (hne:g≠b):jw (w.setCell ⟨b,j,none⟩ y) g l:=(iU w ⟨b,j,none⟩ y g hne).trans h
theorem ab6 {base:Nat} {t:TypeId} (h:w.ownsRow base t 3 (.slice (some ⟨g,0,none⟩) n n) n xs):w.heap[g]? =some (.cells xs.toArray t (0,0)):=by
 rcases h.2 with ⟨h',_⟩ |⟨g',cap',cur,h',_,hg,yV,_,hsz,kh⟩
 ·cases h'
 ·cases h';rw[hg, <- kh,jF (by simp;omega)]
theorem aa9:∀(n j:Nat),j<3*n ->(iN (List.replicate n xj))[j]? =some (#[Value.bool false,Value.string ⟨#[]⟩,Value.string ⟨#[]⟩][j % 3]!)
 |0,j,h=>by omega
 |n+1,0,_=>rfl
 |n+1,1,_=>rfl
 |n+1,2,_=>rfl
 |n+1,j+3,h=>by
  rw[show (j+3) % 3=j % 3 by omega,Ha];exact aa9 n j (by omega)
theorem Y6 (n:Nat):(madeCells (Value.agg #[Value.bool false,Value.string ⟨#[]⟩,Value.string ⟨#[]⟩]).cells (n*3)).toList=iN (List.replicate n xj):=by
 apply Hf;intro j;by_cases h:j<3*n
 ·rw[aa9 n j h,madeCells];have h':j<n*3:=by omega
  simp[h',Value.cells]
 ·rw[ig (by rw[CC,size_madeCells];omega),ig (by rw[M6,Hc];omega)]
theorem Nb (a b:Option Addr) (ca cb:Nat) (sizes vars:List Int) (F:Nat) (lb:Array Value) (eF:∀args w,(callFunc F args).run Tryz.prog w=.ok (.enter F args) w) (l:List Fr) (w:World) (hs:aC w a sizes) (hv:aC w b vars) (aN:eK sizes) (aT:Up vars sizes.length) (hl:l.length=cnt (af sizes) (af vars))
  (ht:∀k (h:k<l.length),∀V,Below w.heap.size w V ->Calls Tryz.prog F (#[.int .i64 (k:Nat)]++lb) V fun e w'=>e=.returned (fh l[k])/\Below V.heap.size V w'):
  Calls Tryz.prog 89 #[.slice a sizes.length ca,.slice b vars.length cb,.func (.func F) #[] lb] w fun e w'=>∃g:Nat,e=.returned (.agg #[.slice b vars.length cb,.slice (some ⟨g,0,none⟩) l.length l.length])/\w.heap.size<=g/\jw w' g l/\Below w.heap.size w w':=by
 obtain⟨i0,bS,hz0,hz1,hz2⟩:=dK Tryz.infoFrac;have HS:=hid hs;have HV:=hid hv;have HT:=hid ht;have HC:=hid (fun V h1 h2=>abJ a b ca cb sizes vars V h1 h2 aN aT);have pI:=aN.eight;have iA:=aT.length;have hsm:cnt (af sizes) (af vars)<=65536:=rY aN.sz_le (by rw[dR];omega);rw[<- hl] at hsm HC;clear hs hv ht hl aN aT;go_enter Tryz.func89,Tryz.ntmps89;go_wp2_with fail
 have b0:(w.alloc (.cells #[.slice none 0 0,.slice none 0 0] 39)).heap[w.heap.size]? =some (.cells #[.slice none 0 0,.slice none 0 0] 39 (0,0)):=fP _ _;have hb0:Below w.heap.size w (w.alloc (.cells #[.slice none 0 0,.slice none 0 0] 39)):=(aw _ w).alloc (ak _) _;have hs0:(w.alloc (.cells #[.slice none 0 0,.slice none 0 0] 39)).heap.size=w.heap.size+1:=by simp
 generalize (w.alloc (.cells #[.slice none 0 0,.slice none 0 0] 39))=W at b0 hb0 hs0⊢;refine(HC.o _ (HS.o.aa hb0) (HV.o.aa hb0)).ae ?_;rintro e w1 ⟨rfl,hb1⟩;have hs1:=hb1.size;have b1:w1.heap[w.heap.size]? =some (.cells #[.slice none 0 0,.slice none 0 0] 39 (0,0)):=(hb1.block _ (by omega)).trans b0;have hB1:=hb0.trans (hb1.ae hb0.size)
 go_wp2_with (first
  |(at_make;refine nC _ rfl _ _ 37 rfl w1.heap.size 32 i0 (.agg #[.bool false,.string ⟨#[]⟩,.string ⟨#[]⟩]) 3 Tryz.underlying37 bS hz0 hz1 .i64 .i64 _ _ l.length rfl rfl (by go_num) (by go_num) (by rw[hz2];omega) (by unfold maxLen;omega) (ak _) ?_;intro w2 hown2 hgrow2))
 have hr2:=ab6 hown2;rw[Y6] at hr2;have fW:Hid (jw w2 w1.heap.size (List.replicate l.length xj)):=hr2;have hB2:Below w1.heap.size w1 w2:=(aw _ w1).grown hgrow2 (ak _) (fun k e=>by cases e);have b2:w2.heap[w.heap.size]? =some (.cells #[.slice none 0 0,.slice none 0 0] 39 (0,0)):=(hB2.block _ (by omega)).trans b1;have bq:=hid (hB1.trans (hB2.ae hB1.size));have aiZ:w.heap.size+1<=w1.heap.size:=by omega
 generalize w1.heap.size=G at *;clear hown2 hgrow2 hr2 hB2 b1 b0 hb0 hb1 hB1 hs1 hs0;have xE:Hid (bG w2 w.heap.size (.slice none 0 0) (.slice none 0 0)):=b2;clear b2;go_wp2_with fail
 go_loopw [15] (fun iv wr=>∃i:Nat,i<=l.length/\iv=.int .i64 i/\Hid (jw wr G (pA l i))/\Hid (bG wr w.heap.size (.slice none 0 0) (.slice none 0 0))/\Hid (Below w.heap.size w wr)) (fun iv _=>l.length - (intOf iv).toNat)
 case atStart=>exact⟨0,aX _,rfl,by rw[XJ];exact fW,xE,bq⟩
 case round=>
  obtain⟨i,hi,rfl,HR,HX,HB⟩:=hrel;clear fW xE bq;by_cases hlt:i<l.length
  ·have HST:=hid (XK l hlt);have J9:=hid (HT.o i hlt);have hpl:=PZ l hi;generalize l[i]=f at *;obtain⟨fn,fx,fy⟩:=f;go_wp2_with fail
   refine(J9.o _ HB.o).ae ?_;rintro e w3 ⟨rfl,hb3⟩;have lR:=HR.o.aa hb3 HR.o.lt;have BP:bG w3 w.heap.size (.slice none 0 0) (.slice none 0 0):=(hb3.block _ (cV.1 HX.o).1).trans HX.o;have fA:=HB.o.trans (hb3.ae HB.o.size);obtain⟨k0,k1,k2⟩:=lR.cells i (by omega);have f0:=lR.fz (i*3);have f1:=lR.fz (i*3+1);have f2:=lR.fz (i*3+2);generalize (pA l i)[i]=z at *;obtain⟨zn,zx,zy⟩:=z;simp only at k0 k1 k2;have HP:=hid (lR.put i (fn,fx,fy));rw[HST.o] at HP;have mL:Hid (bG (((w3.setCell ⟨G,i*3,none⟩ (.bool fn)).setCell ⟨G,i*3+1,none⟩ (.string fx)).setCell ⟨G,i*3+2,none⟩ (.string fy)) w.heap.size (.slice none 0 0) (.slice none 0 0)):=(iU _ ⟨G,i*3+2,none⟩ _ w.heap.size (by show w.heap.size≠G;omega)).trans ((iU _ ⟨G,i*3+1,none⟩ _ w.heap.size (by show w.heap.size≠G;omega)).trans ((iU _ ⟨G,i*3,none⟩ _ w.heap.size (by show w.heap.size≠G;omega)).trans BP));have rj:=hid (((fA.setCell (p:=⟨G,i*3,none⟩) (by show w.heap.size<=G;omega) (.bool fn)).setCell (p:=⟨G,i*3+1,none⟩) (by show w.heap.size<=G;omega) (.string fx)).setCell (p:=⟨G,i*3+2,none⟩) (by show w.heap.size<=G;omega) (.string fy));clear lR BP fA hb3 J9;go_wp2;go_roundw
   case rel=>exact⟨i+1,by omega,by go_num,HP,mL,rj⟩
   case measure=>simp[intOf];omega
  ·obtain rfl:i=l.length:=by omega
   have jt:=HR.o;rw[XL] at jt;obtain⟨t0,t1⟩:wr.cell? ⟨w.heap.size,0,none⟩=some (.slice none 0 0)/\wr.cell? ⟨w.heap.size,1,none⟩=some (.slice none 0 0):=⟨HX.o.c0,HX.o.c1⟩;have g0:wr.frozen? ⟨w.heap.size,0,none⟩=false:=kZ wr w.heap.size 0 _ _ HX.o;have g1:wr.frozen? ⟨w.heap.size,1,none⟩=false:=kZ wr w.heap.size 1 _ _ HX.o;go_wp2;refine dh (EJ rfl _ _ w.heap.size _ _ _ _ rfl (HX.o.put _ _) Tryz.underlying39 rfl (by kernel_rfl)) rfl ?_;exact⟨G,rfl,by omega,(jt.off _ 0 _ (by omega)).off _ 1 _ (by omega),(HB.o.setCell (p:=⟨w.heap.size,0,none⟩) (ak _) _).setCell (p:=⟨w.heap.size,1,none⟩) (ak _) _⟩
variable {vs:List Nat}
theorem acd:∀ {vs:List Nat} {k i:Nat},vs.Nodup ->(h:i<vs.length) ->(kR S vs k)[i]? =some (a8 S vs k vs[i])
 |[],_,_,_,h=>absurd h (by simp)
 |u::vs,k,0,_,_=>by simp[kR,a8]
 |u::vs,k,i+1,hn,h=>by
  rw[mR] at hn;have h':i<vs.length:=by simpa using h
  have e:¬vs[i]=u:=fun e=>hn.1 (by rw[<- e];exact bY h');rw[kR,List.getElem?_cons_succ,acd hn.2 h',OZ,a8,aD e]
def nO (n:Nat) (f:Nat ->Nat):List Nat:=(List.range n).map f
theorem CE (n:Nat) (f:Nat ->Nat):(nO n f).length=n:=by simp[nO]
theorem PA (h:v<n):(nO n f)[v]? =some (f v):=by simp[nO,h]
theorem aet {g:Nat ->Nat} (h:∀v,v< n ->f v=g v):nO n f=nO n g:=vT fun v hv=>h v (ck.1 hv)
theorem aes (v x:Nat):(nO n f).set v x=nO n (aQ f v x):=by
 apply Hf;intro u;rw[List.getElem?_set];by_cases hu:u<n
 ·rw[PA hu,PA hu,aQ,CE];by_cases e:v=u
  ·subst e;rw[aB rfl,aB hu,aB rfl]
  ·rw[aD e,aD (fun h=>e h.symm)]
 ·rw[ig (by rw[CE];omega),ig (by rw[CE];omega),CE];by_cases e:v=u
  ·rw[aB e,aD (by omega)]
  ·rw[aD e]
theorem afI (S:List Nat) (f:Nat ->Nat) (h:i<vs.length):pos S f (vs.take (i+1))=pos S f (vs.take i)*sz S vs[i]+f vs[i]:=by
 rw[gh h,afJ]
theorem adA {x:Nat} (hf:∀u,f u<sz S u) (hx:x<sz S v) (u:Nat):aQ f v x u<sz S u:=by
 rw[aQ];by_cases e:u=v
 ·rw[aB e,e];exact hx
 ·rw[aD e];exact hf u
def qF (q:Rat):Fr:=(cI q,nu q,de q)
theorem S5 (q:Rat):fh (qF q)=.agg #[.bool (cI q),.string (nu q),.string (de q)]:=rfl
theorem pT (q:Rat):bt (qF q)=q:=rF q
def bZ (l:List Fr) (k:Nat):Fr:=l[k]?.getD xj
theorem rZ {l:List Fr} (h:k<l.length):bZ l k=l[k]:=by rw[bZ,ba h];rfl
theorem alC {l:List Fr} (h:k<l.length):(bZ l k).2.1.size+(bZ l k).2.2.size+2<=fw l:=by rw[rZ h];exact S1 (bY h)
def uV (S vars rest:List Nat) (v x:Nat) (l:List Fr):List Fr:=(List.range (cnt S rest)).map fun K=>qF (bt (bZ l (pos S (aQ (a8 S rest K) v x) vars)))
def j9 (most:Bool) (T:Nat ->Fr):Nat ->Fr
 |0=>T 0
 |k+1=>if most then great (j9 most T k) (T (k+1)) else qF (bt (j9 most T k)+bt (T (k+1)))
def oN (S vars rest:List Nat) (v:Nat) (most:Bool) (l:List Fr):List Fr:=(List.range (cnt S rest)).map fun K=>qF (bt (j9 most (fun x=>bZ l (pos S (aQ (a8 S rest K) v x) vars)) (sz S v - 1)))
def sQ (S va vb U:List Nat) (la lb:List Fr):List Fr:=(List.range (cnt S U)).map fun K=>qF (bt (bZ la (pos S (a8 S U K) va))*bt (bZ lb (pos S (a8 S U K) vb)))
def bP (l:List Int) (v:Int):List Int:=l.filter fun u=>!(u==v)
def Cw (m:Nat) (l:List Fr):Prop:=∀k,k<l.length ->(bZ l k).2.1.size+(bZ l k).2.2.size+2<=m
theorem Cw.up {l:List Fr} (h:Cw m l) (hn:m<=n):Cw n l:=fun k hk=>aM (h k hk) hn
def sw:List Fr ->Nat
 |[]=>0
 |f::l=>f.2.1.size+f.2.2.size+sw l
theorem bG.off {u v:Value} (h:bG w g u v) (b j:Nat) (y:Value) (hne:g≠b):bG (w.setCell ⟨b,j,none⟩ y) g u v:=(iU w ⟨b,j,none⟩ y g hne).trans h
theorem D8 {sizes vars:List Int} (h:kp sizes vars m=0):eK sizes/\Up vars sizes.length/\m=cnt (af sizes) (af vars):=by
 rw[kp] at h;by_cases h1:countB sizes vars=true
 ·rw[aB h1] at h;by_cases h2:m=cnt (af sizes) (af vars)
  ·exact⟨(Tg h1).1,(Tg h1).2,h2⟩
  ·rw[aD h2] at h;omega
 ·rw[aD h1] at h;omega
open Go.Sort Go.Lib
def fV (B:Nat) (b:Option Addr) (cb:Nat):Prop:=(b=none ->cb=0)/\∀g o,b=some ⟨g,o,none⟩ ->B<=g
theorem fV.up {B C:Nat} {b:Option Addr} (h:fV B b cb) (hC:C<=B):fV C b cb:=⟨h.1,fun g o e=>aM hC (h.2 g o e)⟩
theorem fV.nil (B:Nat):fV B Option.none 0:=⟨fun _=>rfl,fun g o e=>by cases e⟩
theorem fV.at {B G:Nat} (h:B<=G):fV B (Option.some ⟨G,0,Option.none⟩) cb:=⟨(fun e=>by cases e),fun g o e=>by cases e;exact h⟩
def bD (w:World) (B:Nat) (v:Value) (l:List Int):Prop:=w.ownsRow B 3 1 v l.length (l.map (Value.int .i64))
theorem bD.cases {B:Nat} {v:Value} (h:bD w B v l):(v=.slice none 0 0/\l=[])∨∃g cap,v=.slice (some ⟨g,0,none⟩) l.length cap/\B<=g/\g<w.heap.size/\l.length<=cap/\cap<=maxLen/\Holds (Value.int .i64) w g 0 l.toArray:=by
 rcases h.2 with ⟨h1,h2⟩ |⟨g,cap,cur,h1,h2,h3,h4,h5,h6,h7⟩
 ·exact .inl ⟨h1,EP.1 h2⟩
 ·refine .inr ⟨g,cap,h1,h2,(cV.1 h3).1,h4,h5,fun j hj=>?_⟩;have hj':j<l.length:=by simpa using hj
  refine⟨?_,kZ w g _ _ _ h3⟩;rw[bI,bE w g j _ _ (0,0) h3]
  have e:cur[j]? =(cur.toList.take (l.length*1))[j]?:=by
   rw[rB,aB (by omega),vY]
  rw[e,h7,mS,ba hj'];simp[hj']
theorem FQ {d:Array Int} (h:Holds (Value.int .i64) w g 0 d) (hg:g<w.heap.size) (hl:∀j (hj:j<l.length),∃hd:j<d.size,d[j]=l[j]):aC w (some ⟨g,0,none⟩) l:=fun k hk=>by
 obtain⟨hd,e⟩:=hl k hk;refine⟨g,0,rfl,hg,?_⟩;have:=(h k hd).1;rw[GZ d k hd,e] at this;exact this
theorem bD.ints {B:Nat} {v:Value} (h:bD w B v l):∃d cd,v=.slice d l.length cd/\aC w d l:=by
 rcases h.cases with ⟨rfl,rfl⟩ |⟨g,cap,rfl,_,hg,_,_,hh⟩
 ·exact⟨none,0,rfl,fun k hk=>absurd hk (by simp)⟩
 ·exact⟨_,_,rfl,FQ hh hg fun j hj=>⟨by simpa using hj,by simp⟩⟩
theorem Zx {b o:Nat} (h:aC w (some ⟨b,o,none⟩) l):∀j,j<l.length ->w.cell? ⟨b,o+j,none⟩=some (.int .i64 (l.getD j 0)):=fun j hj=>by
 obtain⟨g,o',e,_,hc⟩:=h j hj;cases e;rw[hc,b6,ba hj];rfl
theorem PB (b:Option Addr) (cb:Nat) (l:List Int) (w:World) (h:aC w b l) (hn:l.length<=1000000):
  Calls Tryz.prog 76 #[.slice b l.length cb] w fun e w'=>∃v,e=.returned v/\bD w' w.heap.size v l/\Below w.heap.size w w':=by
 cases b with
 |none=>
  have hl:l=[]:=by
   cases l with
   |nil=>rfl
   |cons x l=>obtain⟨g,o,e,_⟩:=h 0 (by simp);cases e
  subst hl;refine(Tryz.slices_Clone_int_nil 0 cb w).ae ?_;rintro e w' ⟨rfl,rfl⟩;exact⟨_,rfl,⟨rfl,.inl ⟨rfl,rfl⟩⟩,aw _ _⟩
 |some a=>
  cases l with
  |nil=>
   refine(Tryz.slices_Clone_int_zero a cb w).ae ?_;rintro e w' ⟨v,rfl,hr,_,hb⟩;exact⟨v,rfl,hr,hb⟩
  |cons x l=>
   obtain⟨g,o,e,_⟩:=h 0 (by simp);cases e;refine(Tryz.slices_Clone_int g o (x::l).length cb (x::l) w (ak _) (by omega) (Zx h)).ae ?_;rintro e w' ⟨v,rfl,hr,_,hb⟩;rw[iR] at hr;exact⟨v,rfl,hr,hb⟩
theorem Hz (b:Option Addr) (cb:Nat) (l:List Int) (x:Int) (w:World) (h:aC w b l) (hn:l.length<=140737488355328):
  Calls Tryz.prog 49 #[.slice b l.length cb,.int .i64 x] w fun e w'=>e=.returned (.bool (l.contains x))/\Below w.heap.size w w':=by
 cases l with
 |nil=>
  refine(Tryz.slices_Contains_int_empty b cb x w).ae ?_;rintro e w' ⟨rfl,rfl⟩;exact⟨rfl,aw _ _⟩
 |cons y l=>
  obtain⟨g,o,rfl,_⟩:=h 0 (by simp);refine(Tryz.slices_Contains_int g o (y::l).length cb (y::l) x w (ak _) (by omega) (Zx h)).ae ?_;rintro e w' ⟨rfl,rfl⟩;rw[iR];exact⟨rfl,aw _ _⟩
theorem Vv (u v:Int) (B:Nat) (W:World) (hc:W.cell? ⟨B,0,none⟩=some (.int .i64 v)):
  FnGives Tryz.prog 197 #[.pointer (some ⟨B,0,none⟩)] #[.int .i64 u] (.bool (u==v)) W:=by
 show Calls Tryz.prog 197 #[.int .i64 u,.pointer (some ⟨B,0,none⟩)] W _;go_enter Tryz.func197,Tryz.ntmps197;go_wp2
 all_goals (go_ret;exact⟨by simp_all,0,rfl⟩)
theorem adx (v:Int) (B:Nat) (w:World) (hB:B<w.heap.size) (hc:w.cell? ⟨B,0,none⟩=some (.int .i64 v)):
  PredAt Tryz.prog 197 #[.pointer (some ⟨B,0,none⟩)] (Value.int .i64) (fun u=>u==v) w:=
 fun W x hb=>Vv x v B W ((hb.cell (p:=⟨B,0,none⟩) hB).trans hc)
theorem adw (v:Int) (B blk off size:Nat) (w:World) (hB:B<w.heap.size) (hne:B≠blk) (hc:w.cell? ⟨B,0,none⟩=some (.int .i64 v)):
  PredOver Tryz.prog 197 #[.pointer (some ⟨B,0,none⟩)] (Value.int .i64) (fun u=>u==v) blk off size w:=
 fun n os dk x _=>Vv x v B _ (by
  unfold sortWorld;rw[cell?_grow _ _ _ (by show B<(putRow _ _ _ _ _).heap.size;rw[size_putRow];exact hB),cell?_putRow_other _ _ blk off _ _ (Or.inl hne)];exact hc)
theorem WD (fv:Value) (w:World):Calls Tryz.prog 152 #[.slice none 0 0,fv] w fun e w'=>e=.returned (.slice none 0 0)/\Below w.heap.size w w':=by
 go_enter Tryz.func152,Tryz.ntmps152;go_wp2_with fail
 refine(Tryz.slices_IndexFunc_empty (α:=Int) none 0 fv w).ae ?_;rintro e w1 ⟨rfl,rfl⟩;go_wp2;go_ret;exact⟨rfl,aw _ _⟩
theorem Ts {B:Nat} {a:World} {os:Array Obj} (d:Array Int) (h:Below B a w) (hw:B<=w.heap.size) (hg:B<=g):Below B a (grow (putRow (Value.int .i64) (Sort.ahead w n) g 0 d) os):=
 h.grown (KJ d) hw fun k e=>by cases e;exact hg
theorem Tt {B:Nat} {a:World} (d:Array Int) (h:Below B a w) (hw:B<=w.heap.size) (hg:B<=g):Below B a (putRow (Value.int .i64) (Sort.ahead w n) g 0 d):=by
 have:=Ts (n:=n) (os:= #[]) d h hw hg;rwa [grow_empty] at this
theorem Pb (b:Option Addr) (cb:Nat) (vars:List Int) (v:Int) (w:World) (hv:aC w b vars) (hn:vars.length<=1000000):
  Calls Tryz.prog 155 #[.slice b vars.length cb,.int .i64 v] w fun e w'=>∃(d:Option Addr) (cd:Nat),e=.returned (.slice d (bP vars v).length cd)/\aC w' d (bP vars v)/\fV w.heap.size d cd/\Below w.heap.size w w':=by
 have HV:=hid hv;obtain⟨L,hL⟩:∃L,L=bP vars v:=⟨_,rfl⟩;rw[<- hL];have HL:=hid hL;clear hv hL;go_enter Tryz.func155,Tryz.ntmps155;go_wp2_with fail
 have hb0:Below w.heap.size w (w.alloc (.cells #[.int .i64 v] 3)):=(aw _ w).alloc (ak _) _;have hx:=aZ w 3 (.int .i64 v);generalize (w.alloc (.cells #[.int .i64 v] 3))=W at hb0 hx⊢;refine(PB b cb vars _ (HV.o.aa hb0) hn).ae ?_;rintro e w1 ⟨x,rfl,hr,hb1⟩;have hx1:=aY hx hb1;have hB1:=hb0.trans (hb1.ae hb0.size);have hlt:=hx.lt;have hs1:=hb0.size;rcases hr.cases with ⟨rfl,rfl⟩ |⟨g,cap,rfl,hg0,hg,hc1,hc2,hh⟩
 ·go_wp2_with fail
  refine(WD _ _).ae ?_;rintro e w2 ⟨rfl,hb2⟩;go_wp2;go_ret;have Jl:L=[]:=HL.o;subst Jl;exact⟨none,0,rfl,fun k hk=>absurd hk (by simp),fV.nil _,hB1.trans (hb2.ae hB1.size)⟩
 ·have hcon:=Tryz.slices_DeleteFunc (Value.int .i64) (fun _=>rfl) (fun u=>u==v) 197 #[.pointer (some ⟨w.heap.size,0,none⟩)] (enters_of Tryz.func197 (by kernel_rfl) rfl) 0 Tryz.zeroValue3 g 0 cap vars.toArray w1 (adx v _ _ hx1.lt hx1.cell) (adw v _ g 0 _ _ hx1.lt (by omega) hx1.cell) hh (by simp;omega) (by simpa using hc1);have hsz:vars.toArray.size=vars.length:=by simp
  rw[hsz] at hcon;have jP:vars.toArray.toList.filter (fun x=>!(x==v))=bP vars v:=by simp[bP]
  rw[jP, <- HL.o] at hcon;have dJ:L.length<=vars.length:=by rw[HL.o];exact l6 _ _
  have Ky:=hid hcon;have HH:=hid hh;have p8:=hid dJ;clear hcon hh hr hsz jP hc1 hc2 dJ;go_wp2_with fail
  refine Ky.o.ae ?_;rintro e w2 ⟨rfl,q,rfl⟩;go_wp2;go_ret
  have wS:(L++List.replicate (vars.length - L.length) 0).toArray.size=vars.toArray.size:=by
   have:=p8.o;simp;omega
  refine⟨some ⟨g,0,none⟩,cap,rfl,FQ (holds_putRow (Value.int .i64) (Sort.ahead w1 q) g 0 vars.toArray _ HH.o wS) (by rw[size_putRow];exact hg) (fun j hj=>⟨by simp;omega,by simp[oH,hj]⟩),fV.at (by omega),Tt _ hB1 hB1.size (by omega)⟩
variable {fn:Func} {x':Value}
def r8 (B:Nat) (vars:List Int) (l:List Fr) (k:Int) (e:Ending) (w':World):Prop:=∃(b c:Option Addr) (cb cc:Nat),e=.returned (.tuple #[.agg #[.slice b vars.length cb,.slice c l.length cc],.int .i64 k])/\aC w' b vars/\ew w' c l/\fV B b cb/\fV B c cc
theorem bG.result2 (h:bG w g x y) {p u:Tmp} (hr:fn.results= #[.cell p 39,.tmp u]) (tmps:Array Value) (hp:tmps.getD p undef=.pointer (some ⟨g,0,none⟩)):
  (results fn tmps).run Tryz.prog w=.ok (.tuple #[.agg #[x,y],tmps.getD u undef]) w:=by
 rw[results_cell_tmp hr,hp];simp only[asAddr,vN,tY];rw[run_loadVar_row w g _ 39 _ _ _ h Tryz.underlying39 rfl (by kernel_rfl)];simp only[tY]
def dA (v:Value):Prop:=∃a n c,v=Value.slice a n c
theorem aC.farT {c:Option Addr} (h:aC V c l) (hb:bG V g x y) (hx:dA x) (hy:dA y) (j:Nat) (u:Value):aC (V.setCell ⟨g,j,none⟩ u) c l:=fun k hk=>by
 obtain⟨g',o,rfl,hlt,hc⟩:=h k hk;obtain⟨a1,n1,c1,rfl⟩:=hx;obtain⟨a2,n2,c2,rfl⟩:=hy
 have hne:¬g'=g:=fun e=>by
  subst e;rw[bE V g' (o+k) _ _ (0,0) hb] at hc;match hm:o+k with
  |0=>rw[hm] at hc;simp at hc
  |1=>rw[hm] at hc;simp at hc
  |m+2=>rw[hm] at hc;simp at hc
 exact⟨g',o,rfl,aR hlt (ji V _ _).size,(dX _ _ _ _ (fun e=>hne (dt Addr.block e).symm)).trans hc⟩
theorem aC.putT {c:Option Addr} (h:aC V c l) (hb:bG V g x y) (hx:dA x) (hy:dA y) (hx':dA x') (y':Value):aC ((V.setCell ⟨g,0,none⟩ x').setCell ⟨g,1,none⟩ y') c l:=by
 have h1:bG (V.setCell ⟨g,0,none⟩ x') g x' y:=jX V g 0 _ _ x' hb;exact(h.farT hb hx hy 0 _).farT h1 hx' hy 1 _
theorem slv (a:Option Addr) (n c:Nat):dA (.slice a n c):=⟨a,n,c,rfl⟩
theorem bG.facts (h:bG w g x y):w.cell? ⟨g,0,none⟩=some x/\w.cell? ⟨g,1,none⟩=some y/\w.frozen? ⟨g,0,none⟩=false/\w.frozen? ⟨g,1,none⟩=false:=⟨h.c0,h.c1,kZ w g 0 _ _ h,kZ w g 1 _ _ h⟩
theorem tI {B:Nat} {a:World} (h:Below B a w) (hg:B<=g) (u v:Value):Below B a ((w.setCell ⟨g,0,none⟩ u).setCell ⟨g,1,none⟩ v):=(h.setCell hg u).setCell hg v
variable {la:List Int} {rest:List Oper}
theorem aex (n:Nat) (hn:n<=100000) (w:World):
  Calls Tryz.prog 252 #[.slice none 0 0,.int .i64 (n:Nat)] w fun e w'=>∃v,e=.returned v/\bD w' w.heap.size v []/\Below w.heap.size w w':=by
 obtain⟨i0,bS,hz0,hz1,hz2⟩:=dK Tryz.infoInt;by_cases h:n=0
 ·subst h;go_enter Tryz.func252,Tryz.ntmps252;go_wp2;go_ret;exact⟨_,rfl,⟨rfl,.inl ⟨rfl,rfl⟩⟩,aw _ _⟩
 ·have hold:(Builtin.firstCells i0.size 0 (.slice none 0 0)).run Tryz.prog w.drew=.ok ([]:List Value).toArray w.drew:=run_firstCells_none w.drew i0.size 0 0 0
  have Ra:∀ty,(Builtin.append_ #[27,3] ty #[.slice none 0 0,.int .i64 (n:Int)]).run Tryz.prog w=.ok (.slice (some ⟨w.heap.size,0,none⟩) (0+n) (grownCap w (0+n) 0 3)) (w.drew.alloc (.cells (([]:List Value).toArray++Builtin.zeroCells (Value.int .i64 0).cells n++Builtin.zeroCells (Value.int .i64 0).cells (grownCap w (0+n) 0 3 - (0+n))) 3)):=fun ty=>
   Lib.run_append_grow_zeros w 27 3 ty 3 i0 (.int .i64 0) .i64 .i64 Tryz.underlying27 Tryz.underlying3 bS hz0 none 0 0 [] hold n (by omega) (by omega) (by omega) (by omega) (by rw[hz2];omega) (KI (by omega) (by rw[hz2];omega))
  have hGn:0+n<=grownCap w (0+n) 0 3:=grownCap_ge w _ _ _;have Jp:=grownCap_le_maxLen w (0+n) 0 3 (by unfold maxLen;omega);rw[bI] at Ra hGn Jp;obtain⟨G,hG⟩:∃G,G=grownCap w n 0 3:=⟨_,rfl⟩;rw[<- hG] at Ra hGn Jp;have HGM:=hid Jp;have anG:G<=9223372036854775807:=by unfold maxLen at Jp;omega
  have lH:(0:Int)<(n:Int):=by omega
  clear hold hG Jp;go_enter Tryz.func252,Tryz.ntmps252;go_wp2_with (at_builtin;refine Lib.wpList_append_run _ rfl _ _ _ _ rfl _ _ rfl rfl _ _ (Ra _) ?_)
  go_ret;refine⟨_,rfl,⟨rfl,.inr ⟨w.heap.size,G,_,rfl,ak _,fP w.drew _,aX _,HGM.o,?_,by simp⟩⟩,((aw _ w).drew).alloc (ak _) _⟩;simp[size_zeroCells];omega
theorem yo {o:Oper} {a:Act} (hgd:o.guard=none) (s x:Operand)
  (ho:o.op=.call {callee:=.builtin .append,args:= #[s,x],argTypes:= #[27,27]}) (base:Nat) (v:Value) (xs la:List Int) (hs:a.eval s=v) (hown:bD w base v xs) (p:Option Addr) (ca:Nat) (hx:a.eval x=.slice p la.length ca) (hi:aC w p la) (hp:p=none ->ca=0) (hlen:xs.length+la.length<=100000) (hbase:base<=w.heap.size)
  (h:∀v' w',bD w' base v' (xs++la) ->w.grownBy w' v.ownBlock ->wpList Tryz.prog ops Q rest (a.put o.dst v') w'):wpList Tryz.prog ops Q (o::rest) a w:=by
 obtain⟨i0,bS,hz0,hz1,hz2⟩:=dK Tryz.infoInt;cases p with
 |none=>
  have hl:la=[]:=by
   cases la with
   |nil=>rfl
   |cons x l=>obtain⟨g,o,e,_⟩:=hi 0 (by simp);cases e
  subst hl;have h0:=hp rfl;subst h0;have h1:=h v w (by rw[l8];exact hown) ⟨rfl,rfl,rfl,ak _,fun _ _ _=>rfl⟩;exact wpList_append_own_none hgd s x 27 ho base 3 i0 1 Tryz.underlying27 bS v xs.length _ hs hown hx h1
 |some ad=>
  refine Cn _ hgd s x 27 ho base 3 i0 (.int .i64 0) 1 8 Tryz.underlying27 bS hz0 hz1 hz2 rfl (by decide) v xs.length _ hs hown ad la.length ca (la.map (Value.int .i64)) hx (by simp) ?_ ?_ (by unfold maxLen;omega) (by omega) hbase ?_
  ·intro j u hj;rw[mS] at hj;cases hq:la[j]? with
   |none=>rw[hq] at hj;cases hj
   |some z=>
    rw[hq] at hj;cases hj;obtain⟨IZ,Rv⟩:=nG.1 hq;obtain⟨g,o',e,_,hc⟩:=hi j IZ;cases e;rw[<- Rv];rw[Addr.add];by_cases h0:j=0
    ·subst h0;simpa using hc
    ·simpa [h0] using hc
  ·intro u hu;obtain⟨z,_,rfl⟩:=aU.1 hu;rfl
  ·intro v' w' h1 h2 _;refine h v' w' ?_ h2;rw[bD,bM,dY];exact h1
def xm (la lb:List Int) (i:Nat):List Int:=if i=0 then[] else if i=1 then la else la++lb
theorem bD.own {B:Nat} {v:Value} (h:bD w B v l):∀k,v.ownBlock=some k ->B<=k:=by
 intro k hk;rcases h.2 with ⟨rfl,_⟩ |⟨g,cap,cur,rfl,h2,_⟩
 ·cases hk
 ·cases hk;exact h2
theorem akv {lb:List Int} (km:la.length<=1000) (js:lb.length<=1000) (i:Nat):(xm la lb i).length<=2000:=by
 rw[xm];by_cases h:i=0
 ·rw[aB h];simp
 ·rw[aD h];by_cases h1:i=1
  ·rw[aB h1];omega
  ·rw[aD h1,bM];omega
theorem aez (R:Nat) (a b:Option Addr) (ca cb:Nat) (la lb:List Int) (w:World) (hR:R<w.heap.size) (r0:w.cell? ⟨R,0,none⟩=some (.slice a la.length ca)) (r1:w.cell? ⟨R,1,none⟩=some (.slice b lb.length cb)) (ha:aC w a la) (hb:aC w b lb) (ha0:a=none ->ca=0) (hb0:b=none ->cb=0) (km:la.length<=1000) (js:lb.length<=1000):
  Calls Tryz.prog 236 #[.slice (some ⟨R,0,none⟩) 2 2] w fun e w'=>∃v,e=.returned v/\bD w' w.heap.size v (la++lb)/\Below w.heap.size w w':=by
 have one:∀i,i< 2 ->∃(p:Option Addr) (c:Nat) (l:List Int),w.cell? ⟨R,i,none⟩=some (.slice p l.length c)/\aC w p l/\(p=none ->c=0)/\l.length<=1000/\xm la lb (i+1)=xm la lb i++l:=by
  intro i hi;by_cases h:i=0
  ·subst h;exact⟨a,ca,la,r0,ha,ha0,km,by simp[xm]⟩
  ·obtain rfl:i=1:=by omega
   exact⟨b,cb,lb,r1,hb,hb0,js,by simp[xm]⟩
 have Kn:=hid one;have iq:=hid (fun i=>akv km js i);have h2:xm la lb 2=la++lb:=by simp[xm]
 rw[<- h2];have hz:xm la lb 0=[]:=rfl;clear one r0 r1 ha hb ha0 hb0 h2 km js;generalize xm la lb=F at *;go_enter Tryz.func236,Tryz.ntmps236;go_wp2_with fail
 go_loopw [3,11] (fun sv iv wr=>∃i:Nat,i<=2/\iv=.int .i64 i/\sv=.int .i64 ((F i).length:Nat)/\Hid (Below w.heap.size w wr)) (fun _ iv _=>2 - (intOf iv).toNat)
 case atStart=>exact⟨0,by omega,rfl,by rw[hz];rfl,aw _ _⟩
 case round=>
  obtain⟨i,hi,rfl,rfl,HW⟩:=hrel;by_cases hlt:i<2
  ·obtain⟨p,c,l,hc,hI,hp,hl,hf⟩:=Kn.o i hlt;have hcw:=(HW.o.cell (p:=⟨R,i,none⟩) hR).trans hc;have jP:=iq.o i;(have hw1:IntKind.i64.wrap (((F i).length:Int)+(l.length:Int))=((F i).length:Int)+(l.length:Int):=by rw[gV];omega);(have HE:Hid (((F (i+1)).length:Int)=((F i).length:Int)+(l.length:Int)):=by show _=_;rw[hf,bM];exact Aj _ _);(have uz:(0:Int)<=((F i).length:Int)+(l.length:Int):=by omega);clear hf hc hp hI;go_wp2;go_roundw
   case rel=>exact⟨i+1,by omega,by go_num,by rw[HE.o],HW⟩
   case measure=>simp[intOf];omega
  ·obtain rfl:i=2:=by omega
   have jP:=iq.o 2;go_wp2_with fail
   refine(aex (F 2).length (by omega) _).ae ?_;rintro e w1 ⟨v1,rfl,hr1,hb1⟩;have cP:=hid (HW.o.trans (hb1.ae HW.o.size));have nj:Hid (∀b,b<=wr.heap.size ->bD w1 b v1 []):=fun b hb=>⟨hr1.1,hr1.2.imp id (fun ⟨g,cap,cur,h1,h2,h3⟩=>⟨g,cap,cur,h1,aM hb h2,h3⟩)⟩;have HR:=hid (nj.o w.heap.size HW.o.size);clear hr1 hb1 nj;go_wp2_with fail
   go_loopw [6,27] (fun sv iv wr=>∃i:Nat,i<=2/\iv=.int .i64 i/\Hid (bD wr w.heap.size sv (F i))/\Hid (Below w.heap.size w wr)) (fun _ iv _=>2 - (intOf iv).toNat)
   case atStart=>exact⟨0,by omega,rfl,by rw[hz];exact HR,cP⟩
   case round=>
    obtain⟨i,hi,rfl,pY,Gp⟩:=hrel;by_cases hlt:i<2
    ·obtain⟨p,c,l,hc,hI,hp,hl,hf⟩:=Kn.o i hlt;have hcw:=(Gp.o.cell (p:=⟨R,i,none⟩) hR).trans hc;have jP:=iq.o i;have HI:=hid (hI.aa Gp.o);have HP:=hid hp;have HE:=hid hf;have p5:=hid pY.o.own;clear hf hc hp hI;go_wp2_with (at_builtin;refine yo rfl _ _ rfl w.heap.size _ (F i) l rfl pY.o p c rfl HI.o HP.o (by omega) Gp.o.size ?_;intro v' w2 hr2 hg2)
     have fW:=hid hr2;have bq:=hid (Gp.o.grown hg2 Gp.o.size p5.o);clear hr2 hg2;go_roundw
     case rel=>exact⟨i+1,by omega,by go_num,by rw[HE.o];exact fW,bq⟩
     case measure=>simp[intOf];omega
    ·obtain rfl:i=2:=by omega
     go_wp2;go_ret;exact⟨_,rfl,pY.o,Gp.o⟩
theorem Fp (w:World) (u:Int):aC (w.alloc (.cells #[.int .i64 u] 3)) (some ⟨w.heap.size,0,none⟩) [u]:=fun k hk=>by
 obtain rfl:k=0:=by simp at hk;omega
 exact⟨w.heap.size,0,rfl,by simp,(aZ w _ _).cell⟩
theorem bD.under {B:Nat} {v:Value} (h:bD w B v l) (hb:Below w.heap.size w w'):bD w' B v l:=by
 refine⟨h.1,h.2.imp id ?_⟩;rintro⟨g,cap,cur,h1,h2,h3,h4⟩;exact⟨g,cap,cur,h1,h2,(hb.block g (cV.1 h3).1).trans h3,h4⟩
theorem akk {out:List Nat} (h:v∈out):gY P out v=false:=by simp[gY,h]
theorem akj {out p:List Nat} (hp:P.getD v []=p) (h:¬∀u∈p,u∈out):gY P out v=false:=by rw[gY,hp,cj h,Bool.and_false]
theorem aki {out p:List Nat} (hp:P.getD v []=p) (h:¬v∈out) (h':∀u∈p,u∈out):gY P out v=true:=by rw[gY,hp,bT h',cj h];rfl
theorem agB (G c:Nat) (P:List (List Nat)) (w:World) (hU:bW w G (P.map aA)) (hn:P.length<=8) (hP:∀p∈P,∀u∈p,u<8):
  Calls Tryz.prog 124 #[.slice (some ⟨G,0,none⟩) P.length c] w fun e w'=>∃x,e=.returned x/\bD w' w.heap.size x (iL (aW P P.length))/\Below w.heap.size w w':=by
 obtain⟨i0,bS,hz0,hz1,hz2⟩:=dK Tryz.infoInt;have HU:=hid hU
 have HP:Hid (∀i,i<P.length ->(∀u∈P.getD i [],u<8)/\∃h:i<(P.map aA).length,(P.map aA)[i]=aA (P.getD i [])):=fun i hi=>by
  have e:P.getD i []=P[i]:=by rw[b6,ba hi];rfl
  rw[e];exact⟨hP _ (bY hi),by simpa using hi,by simp⟩
 have GF:Hid (∀k,∀u∈aW P k,u<8):=fun k u hu=>aR (CH P k u hu) hn;have HLN:=hid (Fo P);have qX:Hid (∀k v,v<P.length ->gY P (aW P k) v=true ->(∀u,u< v ->gY P (aW P k) u=false) ->aW P (k+1)=aW P k++[v]):=fun k v h1 h2 h3=>LM (agY h1 h2 h3);have HST:Hid (∀k,k<=P.length ->(∀u,u<P.length ->gY P (aW P k) u=false) ->aW P P.length=aW P k):=fun k h1 h2=>agC (agZ h2) h1;have GG:Hid (aW P 0=[]):=rfl;generalize hF:aW P=F at *;clear hU hP hF;go_enter Tryz.func124,Tryz.ntmps124;go_wp2_with fail
 go_step3
 go_wp2_with (first
  |(at_make;refine wpList_make_own _ rfl _ _ 27 rfl w.heap.size 3 i0 (.int .i64 0) 1 Tryz.underlying27 bS hz0 hz1 .i64 .i64 _ P.length rfl rfl (by go_num) (by rw[hz2];omega) (by unfold maxLen;omega) (ak _) ?_;intro w2 hown2 hgrow2))
 have HI:Hid (bD w2 w.heap.size (.slice (some ⟨w.heap.size,0,none⟩) 0 P.length) []):=hown2;have bq:Hid (Below w.heap.size w w2):=(aw _ w).grown hgrow2 (ak _) (fun k e=>by cases e);clear hown2 hgrow2;go_wp2_with fail
 go_step3
 go_wp2_with fail
 go_loopw [3,4,12] (fun sv lv iv wr=>∃k:Nat,k<=P.length/\iv=.int .i64 k/\sv=.int .u32 (aA (F k):Nat)/\Hid (bD wr w.heap.size lv (iL (F k)))/\Hid (Below w.heap.size w wr)) (fun _ _ iv _=>P.length - (intOf iv).toNat)
 case atStart=>exact⟨0,aX _,rfl,by rw[GG.o];rfl,by rw[GG.o];exact HI,bq⟩
 case round=>
  obtain⟨k,hk,rfl,rfl,HR,HB⟩:=hrel;clear HI bq;by_cases hlt:k<P.length
  ·have T4:=hid (HU.o.aa HB.o HU.o.lt);go_wp2_with fail
   go_loopw [3,4,16] (fun sv lv jv wq=>∃v:Nat,v<=P.length/\jv=.int .i64 v/\sv=.int .u32 (aA (F k):Nat)/\lv=u4/\Hid (∀u,u< v ->gY P (F k) u=false)/\wq=wr) (fun _ _ jv _=>P.length - (intOf jv).toNat)
   case atStart=>exact⟨0,aX _,rfl,rfl,rfl,fun u h=>absurd h (by omega),rfl⟩
   case round=>
    obtain⟨v,hv,rfl,rfl,rfl,HN,rfl⟩:=hrel;by_cases iA:v<P.length
    ·obtain⟨hp8,hm1,a7⟩:=HP.o v iA;have c0:=T4.o.cell v hm1;rw[a7] at c0;have Un:=hid hp8;have HFO:Hid (v∈F k ->gY P (F k) v=false):=akk;have HFP:Hid (¬(∀u∈P.getD v [],u∈F k) ->gY P (F k) v=false):=akj rfl;have HFY:Hid (¬v∈F k ->(∀u∈P.getD v [],u∈F k) ->gY P (F k) v=true):=aki rfl
     have xM:Hid (gY P (F k) v=false ->∀u,u<v+1 ->gY P (F k) u=false):=fun h u hu=>by
      rcases cM u v with h2 |h2
      ·exact HN.o u h2
      ·obtain rfl:u=v:=by omega
       exact h
     clear hp8 hm1 a7;generalize P.getD v []=p at *;go_wp2_with fail
     refine(Fe (F k) v _ (GF.o k) (by omega)).ae ?_;rintro e w3 ⟨rfl,rfl⟩;by_cases hin:v∈F k
     ·rw[bT hin];have HE:=hid (xM.o (HFO.o hin));clear hin;go_wp2;go_roundw
      case rel=>exact⟨v+1,by omega,by go_num,rfl,rfl,HE,trivial⟩
      case measure=>simp[intOf];omega
     ·rw[cj hin];have xQ:=hid hin;clear hin;go_wp2_with fail
      refine(aeV (F k) p _ (GF.o k) Un.o).ae ?_;rintro e w4 ⟨rfl,rfl⟩;by_cases hh:∀u∈p,u∈F k
      ·rw[bT hh];have hS:=qX.o k v iA (HFY.o xQ.o hh) HN.o;(have HM:Hid (aA (v::F k)=aA (F (k+1))):=LV fun z=>by rw[hS,cT,bL,eA];exact or_comm);(have HIL:Hid (iL (F (k+1))=iL (F k)++[(v:Int)]):=by show _=_;rw[hS,QK];rfl)
       have zO:Hid ((iL (F k)).length<=8):=by
        have:=HLN.o k;show (iL (F k)).length<=8;rw[bF];omega
       clear hh hS;have p5:=hid HR.o.own;have pg:Hid (bD (w4.alloc (.cells #[.int .i64 (v:Nat)] 3)) w.heap.size _ (iL (F k))):=Co HR.o _;have cF:=hid (HB.o.alloc HB.o.size (.cells #[.int .i64 (v:Nat)] 3));have mO:=hid (Fp w4 (v:Nat));go_wp2_with (at_builtin;refine yo rfl _ _ rfl w.heap.size _ (iL (F k)) [((v:Nat):Int)] rfl pg.o (some ⟨w4.heap.size,0,none⟩) 1 rfl mO.o (fun e=>by cases e) (by have:=zO.o;simp;omega) cF.o.size ?_;intro v' w5 uy I5)
       have Gv:=hid uy;have fG:=hid (cF.o.grown I5 cF.o.size p5.o);clear uy I5;refine(Fc (F k) v _ (GF.o k) (by omega)).ae ?_;rintro e w6 ⟨rfl,rfl⟩;rw[HM.o];go_wp2;go_roundw
       case rel=>exact⟨k+1,by omega,by go_num,rfl,by rw[HIL.o];exact Gv,fG⟩
       case measure=>simp[intOf];omega
      ·rw[cj hh];have HE:=hid (xM.o (HFP.o hh));clear hh;go_wp2;go_roundw
       case rel=>exact⟨v+1,by omega,by go_num,rfl,rfl,HE,trivial⟩
       case measure=>simp[intOf];omega
    ·obtain rfl:v=P.length:=by omega
     have HE:=hid (HST.o k hk HN.o);go_wp2;(try rw[Exit.noGoto_ret]);go_ret;exact⟨_,rfl,by rw[HE.o];exact HR.o,HB.o⟩
  ·obtain rfl:k=P.length:=by omega
   go_wp2;(try rw[Exit.noGoto_ret]);go_ret;exact⟨_,rfl,HR.o,HB.o⟩
section
attribute [local go_sem] Oper.semAt_some
theorem WT (s:List Nat) (w:World) (hs:∀u∈s,u<8):
  Calls Tryz.prog 189 #[.int .u32 (aA s:Nat)] w fun e w'=>e=.returned (.int .i64 ((bw s 8).length:Nat))/\∃k,w'=w.drewN k:=by
 have hm:=qp hs;have HO:=hid (fun U=>agK (aA s) U hm);rw[afK] at HO;generalize (bw s 8).length=c at *;generalize aA s=m at *;go_enter Tryz.func189,Tryz.ntmps189;go_wp2_with fail
 refine(HO.o _).ae ?_;rintro e w1 ⟨rfl,k,rfl⟩;go_wp2;go_ret;exact⟨rfl,k,rfl⟩
theorem aht (s:List Nat) (v:Nat) (hs:∀u∈s,u<8) (hv:v<8):aA s&&&(4294967295 - 2^v)=aA (s.filter fun u=>decide (u≠v)):=by
 have h2:2^v<2^8:=OM (by decide) hv;have e:4294967295 - 2^v=2^32 - (2^v+1):=by omega
 have hs':2^v<2^32:=by omega
 apply G9;intro i;rw[e,KP,OJ hs',mo,mo,Nat.testBit_two_pow];by_cases hi:i∈s
 ·have h8:=hs i hi;have SJ:i<32:=by omega
  by_cases jq:v=i
  ·subst jq;simp[hi]
  ·have h':¬i=v:=fun e=>jq e.symm;simp[hi,SJ,jq,h']
 ·simp[hi]
theorem H4 (s:List Nat) (v:Nat) (w:World) (hs:∀u∈s,u<8) (hv:v<8):
  Calls Tryz.prog 145 #[.int .u32 (aA s:Nat),.int .i64 (v:Nat)] w fun e w'=>e=.returned (.int .u32 (aA (s.filter fun u=>decide (u≠v)):Nat))/\w'=w:=by
 have hm:=qp hs;have h2:2^v<256:=show 2^v<2^8 from OM (by decide) hv
 have HE:Hid (bits BinOp.andNot IntKind.u32 (aA s:Nat) (2^v % 4294967296)=((aA (s.filter fun u=>decide (u≠v)):Nat):Int)):=by
  show _=_
  have e:((2:Int)^v % 4294967296)=((2^v:Nat):Int):=by
   (have e2:((2:Int)^v)=((2^v:Nat):Int):=by rw[Int.natCast_pow];rfl);rw[e2];generalize (2^v:Nat)=q at *;omega
  rw[e,u32_andNot_nat _ _ (by omega) (by omega),aht s v hs hv]
 generalize aA (s.filter fun u=>decide (u≠v))=r at *;generalize aA s=m at *;go_enter Tryz.func145,Tryz.ntmps145;go_wp2;go_ret;exact⟨by rw[HE.o];rfl,rfl⟩
theorem aix (l:List Nat):(iL l).map (Value.int .i64)=l.map iv:=by simp[iL,iv]
theorem Zg (s:List Nat) (w:World) (hs:∀u∈s,u<8):
  Calls Tryz.prog 135 #[.int .u32 (aA s:Nat)] w fun e w'=>∃v,e=.returned v/\bD w' w.heap.size v (iL (bw s 8))/\Below w.heap.size w w':=by
 refine(fZ (n:=6)).1 ?_;obtain⟨i0,hi,hz0,hz1,hz2⟩:=dK Tryz.infoInt;have hc8:=jL s 8;have HC:=hid (fun U=>WT s U hs);obtain⟨cl,hcl⟩:∃cl,cl=(bw s 8).length:=⟨_,rfl⟩;rw[<- hcl] at HC hc8;clear hcl;refine rq Tryz.func135 rfl trivial ?_ rfl;simp only[Tryz.ntmps135,k9,di,jG,Nat.reduceAdd,Nat.reduceSub,lh,lg,ld,kF,gi,eC]
 gi_wp2_with (first
  |(refine⟨trivial,?_⟩;gi_at_call 189;refine(fZ.2 (HC.o _)).ae ?_;rintro e w0 ⟨rfl,hw0⟩)
  |(gi_at_make;refine wpListIn_make_own _ rfl _ _ 27 rfl w.heap.size 3 i0 (.int .i64 0) 1 Tryz.underlying27 hi hz0 hz1 .i64 .i64 _ cl rfl rfl (by omega) (by rw[hz2];omega) (by unfold maxLen;omega) (by obtain⟨k,rfl⟩:=hw0;exact ak _) ?_;intro w1 hown1 I4))
 have hb0:Below w.heap.size w w0:=by obtain⟨k,rfl⟩:=hw0;exact below_drewN (aw _ w) k
 have hs0:w0.heap.size=w.heap.size:=by obtain⟨k,rfl⟩:=hw0;rfl
 clear hw0;have AV:=I4.size;have hB1:Below w.heap.size w w1:=hb0.grown I4 (by omega) (fun k e=>by cases e);have bO:=aZ w1 27 (.slice (some ⟨w0.heap.size,0,none⟩) 0 cl);have hB2:Below w.heap.size w (w1.alloc (.cells #[.slice (some ⟨w0.heap.size,0,none⟩) 0 cl] 27)):=hB1.alloc (by omega) _;have aiH:w.heap.size<=w1.heap.size:=by omega
 clear hs0 AV
 refine Am (by omega) s hs rfl rfl
  (fun k V=>(∃v,Boxed V w1.heap.size 27 v/\V.ownsRow w.heap.size 3 1 v (bw s k).length ((bw s k).map iv)/\True)/\Below w.heap.size w V)
  (eG (fB (holdsRow_own w.heap.size w1.heap.size 27 3 1 (fun k:Nat=>(bw s k).length) (fun k=>(bw s k).map iv) (fun _ _=>True)) _) (x7 (ak _) (by simp;omega)))
  ⟨⟨_,bO,hown1.alloc _,trivial⟩,hB2⟩
  (fun k=> {tmps:= #[.int .u32 (aA s:Nat),undef,.slice none 0 0,.pointer (some ⟨w1.heap.size,0,none⟩),.int .i64 (k:Nat),.int .u32 (aA s:Nat),.int .i64 (cl:Nat),.slice (some ⟨w0.heap.size,0,none⟩) 0 cl,.int .u32 (aA s:Nat),.func (.func 144) #[.int .u32 (aA s:Nat)] #[],.int .i64 (k:Nat),undef,undef,undef,undef,undef],defers:=[]}) ?assign ?body ?skip ?done
 case assign=>
  intro l k W K hK;gi_wp2
  exact hK
 case body=>
  rintro l k V hk hm ⟨⟨v,hv,hrow,_⟩,hB⟩;have hc:=hv.cell;have pI:=jL s k;gi_wp2_with (gi_at_builtin;refine wpListIn_append_own _ rfl _ _ 27 rfl w.heap.size 3 i0 (.int .i64 0) 1 8 Tryz.underlying27 hi hz0 hz1 hz2 rfl (by decide) _ _ _ rfl (hrow.alloc _) ⟨V.heap.size,0,none⟩ 1 1 [.int .i64 (k:Nat)] rfl rfl (cell_one_new _ _ _) (by simp[Value.oneCell']) (by unfold maxLen;omega) (by omega) (by have:=hB.size;simp;omega) ?_;intro v' w3 hown' hgrow _;obtain⟨g',cap',rfl⟩:=ownsRow_succ hown';obtain⟨lD,hv2,hr2,hk2,hb2⟩:=hv.appended (by decide) hrow hB.size aiH hown' hgrow;have hc1:=lD.cell;have Dr:=lD.frozen)
  exact⟨hk2.from _,⟨⟨_,hv2,by rw[LZ hm];simpa [iv] using hr2,trivial⟩,hB.trans hb2⟩⟩
 case skip=>
  rintro k V hk hm h;rwa [Ii hm]
 case done=>
  rintro D V hD ⟨⟨v,hv,hrow,_⟩,hB⟩ hK;have hc:=hv.cell;gi_wp2
  refine⟨by simp,.inl ⟨_,_,rfl,x5 hK,?_⟩⟩;refine⟨_,x6 rfl _ _ _,v,rfl,?_,hB.trans (sK (w:=w) (ak _) V D _ _ (by simp at hD;omega) hK rfl rfl)⟩;rw[bD,aix,bF];exact ownsRow_putObj hrow _ hK rfl
end
theorem ahu (a b:List Nat):aA a |||aA b=aA (a++b):=by
 apply G9;intro i;rw[Nat.testBit_or,mo,mo,mo];by_cases h:i∈a<;>by_cases h2:i∈b<;>simp[h,h2]
theorem ahw (a b:List Nat):aA a&&&aA b=aA (a.filter fun x=>decide (x∈b)):=by
 apply G9;intro i;rw[KP,mo,mo,mo];by_cases h:i∈a<;>by_cases h2:i∈b<;>simp[h,h2]
theorem ahv (a b:List Nat) (ha:∀u∈a,u<8) (hb:∀u∈b,u<8):aA a&&&(4294967295 - aA b)=aA (a.filter fun x=>decide (¬x∈b)):=by
 have h1:=qp hb;have e:4294967295 - aA b=2^32 - (aA b+1):=by omega
 have hs':aA b<2^32:=by omega
 apply G9;intro i;rw[e,KP,OJ hs',mo,mo,mo];by_cases h:i∈a
 ·have h8:=ha i h;have SJ:i<32:=by omega
  by_cases h2:i∈b<;>simp[h,h2,SJ]
 ·simp[h]
theorem Nt (a b:List Nat) (ha:∀u∈a,u<8) (hb:∀u∈b,u<8):bits BinOp.or IntKind.u32 (aA a:Nat) (aA b:Nat)=((aA (a++b):Nat):Int):=by
 have h1:=qp ha;have h2:=qp hb;rw[u32_or_nat _ _ (by omega) (by omega),ahu]
theorem ab7 (a b:List Nat) (ha:∀u∈a,u<8) (hb:∀u∈b,u<8):bits BinOp.and IntKind.u32 (aA a:Nat) (aA b:Nat)=((aA (a.filter fun x=>decide (x∈b)):Nat):Int):=by
 have h1:=qp ha;have h2:=qp hb;rw[u32_and_nat _ _ (by omega) (by omega),ahw]
theorem alI (a b:List Nat) (ha:∀u∈a,u<8) (hb:∀u∈b,u<8):bits BinOp.andNot IntKind.u32 (aA a:Nat) (aA b:Nat)=((aA (a.filter fun x=>decide (¬x∈b)):Nat):Int):=by
 have h1:=qp ha;have h2:=qp hb;rw[u32_andNot_nat _ _ (by omega) (by omega),ahv a b ha hb]
theorem JA (h:∀u∈s,u<8) (p:Nat ->Bool):∀u∈s.filter p,u<8:=fun u hu=>h u (cJ.1 hu).1
theorem Ty {a b:List Nat} (ha:∀u∈a,u<8) (hb:∀u∈b,u<8):∀u∈a++b,u<8:=fun u hu=>(bL.1 hu).elim (ha u) (hb u)
theorem BA (hP:∀p∈P,∀u∈p,u<8) (v:Nat):∀u∈P.getD v [],u<8:=by
 by_cases h:v<P.length
 ·rw[b6,ba h];exact hP _ (bY h)
 ·rw[b6,ig (by omega)];intro u hu;simp at hu
theorem AD (h:v<P.length):(P.map aA)[v]'(by rw[cH];exact h)=aA (P.getD v []):=by rw[nE,b6,ba h];rfl
def Ik (B:List (List Nat)) (v u:Nat):Nat:=(bw (((B.getD v []).filter fun x=>decide (¬x∈B.getD u [])).filter fun x=>decide (x≠u)) 8).length
def oY (B:List (List Nat)) (v k:Nat):Nat:=((bw (B.getD v []) k).map (Ik B v)).sum
theorem abt {B:List (List Nat)} (h:k∈B.getD v []):oY B v (k+1)=oY B v k+Ik B v k:=by rw[oY,LZ h,dY,List.sum_append,oY];simp
theorem abu {B:List (List Nat)} (h:¬k∈B.getD v []):oY B v (k+1)=oY B v k:=by rw[oY,Ii h,oY]
theorem Zp (B:List (List Nat)) (v u:Nat):Ik B v u<=8:=jL _ _
theorem Ng (B:List (List Nat)) (v:Nat):∀k,oY B v k<=8*k
 |0=>by simp[oY,bw]
 |k+1=>by
  have h1:=Ng B v k;have h2:=Zp B v k;by_cases h:k∈B.getD v []
  ·rw[abt h];omega
  ·rw[abu h];omega
def nS (B:List (List Nat)) (v:Nat):Nat:=oY B v 8/2
section
attribute [local go_sem] Oper.semAt_some
variable {U W':World}
theorem iG {W:World} {B:Nat} {t:TypeId} {v:Value} (h:Boxed W B t v) (b j:Nat) (y:Value) (hne:B≠b):Boxed (W.setCell ⟨b,j,none⟩ y) B t v:=(iU W ⟨b,j,none⟩ y B hne).trans h
theorem uY {W:World} {B b:Nat} {t:TypeId} {v:Value} (h:Boxed W B t v) (hb:Below b W W') (hB:B<b):Boxed W' B t v:=(hb.block B hB).trans h
theorem QD (h:Below V.heap.size V V'):KeepsOthers V V':=⟨h.size,fun k _ hk _=>(h.block k (cV.1 hk).1).trans hk⟩
theorem QE (h:KeepsOthers V U) (k:Nat):KeepsOthers V (U.drewN k):=⟨h.1,h.2⟩
theorem aic (G n c v:Nat) (P:List (List Nat)) (w:World) (hn:P.length=n) (h8:n<=8) (hU:bW w G (P.map aA)) (hP:∀p∈P,∀u∈p,u<n) (hv:v<n):
  Calls Tryz.prog 233 #[.slice (some ⟨G,0,none⟩) n c,.int .i64 (v:Nat)] w fun e w'=>e=.returned (.int .i64 (nS P v:Nat))/\Below w.heap.size w w':=by
 refine(fZ (n:=6)).1 ?_;have rU:∀p∈P,∀u∈p,u<8:=fun p hp u hu=>by have:=hP p hp u hu;omega
 have hs:=BA rU v;have MP:=hU.lt;have kv:=hU.cell v (by rw[cH];omega);rw[AD (by omega)] at kv;have Oe:=hid kv
 have vG:Hid (∀u,u< n ->w.cell? ⟨G,u,none⟩=some (.int .u32 (aA (P.getD u []):Nat))):=fun u hu=>by
  have:=hU.cell u (by rw[cH];omega);rwa [AD (by omega)] at this
 have Kp:Hid (∀k,k∈P.getD v [] ->k<n):=fun k hk=>by
  rw[b6,ba (by omega)] at hk;exact hP _ (bY _) k hk
 have HGS:=hid (fun u=>BA rU u);have HEY:=hid (fun k h=>abt (B:=P) (v:=v) (k:=k) h);have HEN:=hid (fun k h=>abu (B:=P) (v:=v) (k:=k) h);have HEL:=hid (fun k=>Ng P v k);have sB:=hid (fun u=>Zp P v u);have kT:=hid (fun (u:Nat) (hu:u<8) (U:World)=>H4 ((P.getD v []).filter fun x=>decide (¬x∈P.getD u [])) u U (JA hs _) hu);have Ox:=hid (fun (u:Nat) (U:World)=>WT (((P.getD v []).filter fun x=>decide (¬x∈P.getD u [])).filter fun x=>decide (x≠u)) U (JA (JA hs _) _));have HAN:=hid (fun (u:Nat)=>alI (P.getD v []) (P.getD u []) hs (BA rU u));have HLD:Hid (∀u,(bw (((P.getD v []).filter fun x=>decide (¬x∈P.getD u [])).filter fun x=>decide (x≠u)) 8).length=Ik P v u):=fun u=>rfl
 have amF:Hid ((oY P v 8:Int).tdiv 2=(nS P v:Nat)):=by
  show _=_;rw[nS];exact(vX _ _).symm▸rfl
 have hw0:G<w.heap.size:=MP;have e64:=Ng P v 8;generalize nS P v=res at *;generalize My:P.getD v []=bv at *;clear hU hP rU kv My;refine rq Tryz.func233 rfl trivial ?_ rfl;simp only[Tryz.ntmps233,k9,di,jG,Nat.reduceAdd,Nat.reduceSub,lh,lg,ld,kF,gi,eC];obtain⟨W0,hW0⟩:∃W0,W0=((w.alloc (.cells #[.slice (some ⟨G,0,none⟩) n c] 109)).alloc (.cells #[.int .i64 (v:Nat)] 3)).alloc (.cells #[.int .i64 0] 3):=⟨_,rfl⟩;have b0:Boxed W0 w.heap.size 109 (.slice (some ⟨G,0,none⟩) n c):=by rw[hW0];exact((aZ w _ _).alloc _).alloc _
 have b1:Boxed W0 (w.heap.size+1) 3 (.int .i64 (v:Nat)):=by
  have h:=(aZ (w.alloc (.cells #[.slice (some ⟨G,0,none⟩) n c] 109)) 3 (.int .i64 (v:Nat))).alloc (.cells #[.int .i64 0] 3);rw[dE] at h;rw[hW0];exact h
 have b2:Boxed W0 (w.heap.size+1+1) 3 (.int .i64 (oY P v 0:Nat)):=by
  have h:=aZ ((w.alloc (.cells #[.slice (some ⟨G,0,none⟩) n c] 109)).alloc (.cells #[.int .i64 (v:Nat)] 3)) 3 (.int .i64 0);rw[dE,dE] at h;rw[hW0];exact h
 have hB0:Below w.heap.size w W0:=by
  rw[hW0];exact(((aw _ w).alloc (ak _) _).alloc (by simp) _).alloc (by simp;omega) _
 have k0:=b0.cell;have k1:=b1.cell;have kG:=(hB0.cell (p:=⟨G,v,none⟩) hw0).trans Oe.o;rw[hW0] at k0 k1 kG;gi_wp2
 rw[<- hW0];clear k0 k1 kG hW0;have wQ:w.heap.size+1+1<W0.heap.size:=b2.lt
 refine Am (by omega) bv hs rfl rfl
  (fun k V=>Boxed V w.heap.size 109 (.slice (some ⟨G,0,none⟩) n c)/\Boxed V (w.heap.size+1) 3 (.int .i64 (v:Nat))/\Boxed V (w.heap.size+1+1) 3 (.int .i64 (oY P v k:Nat))/\Below w.heap.size w V)
  (eG (fB (iH _ _ (fun _=>_)) _) (eG (fB (iH _ _ (fun _=>_)) _) (eG (fB (iH _ _ (fun k:Nat=>.int .i64 (oY P v k:Nat))) _) (x7 (ak _) (by omega)))))
  ⟨b0,b1,b2,hB0⟩
  (fun k=> {tmps:= #[.slice (some ⟨G,0,none⟩) n c,.int .i64 (v:Nat),.pointer (some ⟨w.heap.size,0,none⟩),.pointer (some ⟨w.heap.size+1,0,none⟩),.int .i64 0,.pointer (some ⟨w.heap.size+1+1,0,none⟩),.int .i64 (k:Nat),.slice (some ⟨G,0,none⟩) n c,.int .i64 (v:Nat),.pointer (some ⟨G,v,none⟩),.int .u32 (aA bv:Nat),.func (.func 144) #[.int .u32 (aA bv:Nat)] #[],.int .i64 (k:Nat),undef,undef,undef,undef,undef,undef,undef,undef,undef,undef,undef,undef,undef,undef,undef,undef],defers:=[]}) ?assign ?body ?skip ?done
 case assign=>
  intro l k W K hK;gi_wp2
  exact hK
 case body=>
  rintro l k V hk hm ⟨h0,h1,h2,hB⟩;have hkn:=Kp.o k hm;have k0:=h0.cell;have k1:=h1.cell;have k2:=h2.cell;have kG:=(hB.cell (p:=⟨G,v,none⟩) hw0).trans Oe.o;have kU:=(hB.cell (p:=⟨G,k,none⟩) hw0).trans (vG.o k hkn);have hAN:=HAN.o k;have Ee:=hid (kT.o k hk);have Ov:=hid (Ox.o k);rw[HLD.o k] at Ov;have hel:=HEL.o k;have hle:=sB.o k;have HEk:=hid (HEY.o k hm);generalize aA (bv.filter fun x=>decide (¬x∈P.getD k []))=m1 at *;generalize aA ((bv.filter fun x=>decide (¬x∈P.getD k [])).filter fun x=>decide (x≠k))=m2 at *;generalize aA (P.getD k [])=mu at *;generalize Ik P v k=le at *;generalize oY P v k=en at *;generalize aA bv=mv at *;have QU:IntKind.i64.wrap ((en:Int)+(le:Int))=((en+le:Nat):Int):=by rw[gV];omega
  have f2:=h2.frozen;gi_wp2_with fail
  refine wC (fun u=>u.cell? ⟨w.heap.size,0,none⟩=some (.slice (some ⟨G,0,none⟩) n c)/\u.cell? ⟨w.heap.size+1,0,none⟩=some (.int .i64 (v:Nat))/\u.cell? ⟨G,v,none⟩=some (.int .u32 (mv:Nat))/\u.cell? ⟨G,k,none⟩=some (.int .u32 (mu:Nat))) (by kernel_rfl) (by kernel_rfl) (fun ⟨_,_,h⟩=>h) ⟨k0,k1,kG,kU⟩ ?_;intro ah;have hD:KeepsOthers V V.drew:=ym V;have q0:Boxed V.drew w.heap.size 109 (.slice (some ⟨G,0,none⟩) n c):=h0;have q1:Boxed V.drew (w.heap.size+1) 3 (.int .i64 (v:Nat)):=h1;have q2:Boxed V.drew (w.heap.size+1+1) 3 (.int .i64 (en:Nat)):=h2;have qB:=hB.drew;have Im:=q2.cell;clear k0 k1 k2 kG kU f2 h0 h1 h2 hB b0 b1 b2 hB0;have k2:=Im;clear Im;generalize V.drew=U0 at *;refine ar 1 (.slice (some ⟨G,0,none⟩) n c) ?_;refine ar 2 (.int .i64 (v:Nat)) ?_;refine ar 3 (.pointer (some ⟨G,v,none⟩)) ?_;refine ar 4 (.int .u32 (mv:Nat)) ?_;refine ar 5 (.slice (some ⟨G,0,none⟩) n c) ?_;refine ar 6 (.int .i64 (k:Nat)) ?_;refine ar 7 (.pointer (some ⟨G,k,none⟩)) ?_;refine ar 8 (.int .u32 (mu:Nat)) ?_;refine ar 9 (.int .u32 (m1:Nat)) ?_;refine ar 10 (.int .i64 (k:Nat)) ?_;refine aI [0,11] (cA ?_ (cA ?_ aH))
  focus
   intro K' hK';go_simp;clear k2;refine hK'.o _ _ ah (fun ag=>?_);clear hK' K' ag;refine aI [11] (cA ?_ aH);intro K' hK';go_simp;refine(Ee.o _).ae ?_;rintro e U1 ⟨rfl,eQ⟩;subst eQ;refine hK'.o _ _ ah (fun ag=>?_);clear hK' K' ag;generalize U1=U0 at *;refine aI [12] (cA ?_ aH);intro K' hK';go_simp;refine(Ov.o _).ae ?_;rintro e U1 ⟨rfl,kk,eQ⟩;(have p0:Boxed U1 w.heap.size 109 (.slice (some ⟨G,0,none⟩) n c):=by rw[eQ];exact q0);(have p1:Boxed U1 (w.heap.size+1) 3 (.int .i64 (v:Nat)):=by rw[eQ];exact q1);(have p2:Boxed U1 (w.heap.size+1+1) 3 (.int .i64 (en:Nat)):=by rw[eQ];exact q2);(have pB:Below w.heap.size w U1:=by rw[eQ];exact below_drewN qB kk);(have pD:KeepsOthers V U1:=by rw[eQ];exact QE hD kk);refine hK'.o _ _ (by rw[eQ];exact ah) (fun ag=>?_);clear hK' K' eQ q0 q1 q2 qB hD ah;have ah:=ag;have q0:=p0;have q1:=p1;have q2:=p2;have qB:=pB;have hD:=pD;clear ag p0 p1 p2 pB pD;clear U0;generalize U1=U0 at *
  rotate_left
  focus
   intro K' hK';go_simp;refine(Ee.o _).ae ?_;rintro e U1 ⟨rfl,eQ⟩;subst eQ;refine hK'.o _ _ ah (fun ag=>?_);clear hK' K' ag;generalize U1=U0 at *;refine aI [0,12] (cA ?_ (cA ?_ aH))
   focus
    intro K' hK';go_simp;clear k2;refine hK'.o _ _ ah (fun ag=>?_);clear hK' K' ag;refine aI [12] (cA ?_ aH);intro K' hK';go_simp;refine(Ov.o _).ae ?_;rintro e U1 ⟨rfl,kk,eQ⟩;(have p0:Boxed U1 w.heap.size 109 (.slice (some ⟨G,0,none⟩) n c):=by rw[eQ];exact q0);(have p1:Boxed U1 (w.heap.size+1) 3 (.int .i64 (v:Nat)):=by rw[eQ];exact q1);(have p2:Boxed U1 (w.heap.size+1+1) 3 (.int .i64 (en:Nat)):=by rw[eQ];exact q2);(have pB:Below w.heap.size w U1:=by rw[eQ];exact below_drewN qB kk);(have pD:KeepsOthers V U1:=by rw[eQ];exact QE hD kk);refine hK'.o _ _ (by rw[eQ];exact ah) (fun ag=>?_);clear hK' K' eQ q0 q1 q2 qB hD ah;have ah:=ag;have q0:=p0;have q1:=p1;have q2:=p2;have qB:=pB;have hD:=pD;clear ag p0 p1 p2 pB pD;clear U0;generalize U1=U0 at *
   rotate_left
   focus
    intro K' hK';go_simp;refine(Ov.o _).ae ?_;rintro e U1 ⟨rfl,kk,eQ⟩;(have p0:Boxed U1 w.heap.size 109 (.slice (some ⟨G,0,none⟩) n c):=by rw[eQ];exact q0);(have p1:Boxed U1 (w.heap.size+1) 3 (.int .i64 (v:Nat)):=by rw[eQ];exact q1);(have p2:Boxed U1 (w.heap.size+1+1) 3 (.int .i64 (en:Nat)):=by rw[eQ];exact q2);(have pB:Below w.heap.size w U1:=by rw[eQ];exact below_drewN qB kk);(have pD:KeepsOthers V U1:=by rw[eQ];exact QE hD kk);refine hK'.o _ _ (by rw[eQ];exact ah) (fun ag=>?_);clear hK' K' eQ q0 q1 q2 qB hD ah;have ah:=ag;have q0:=p0;have q1:=p1;have q2:=p2;have qB:=pB;have hD:=pD;clear ag p0 p1 p2 pB pD;clear k2;have k2:=q2.cell;clear U0;generalize U1=U0 at *;refine aI [0] (cA ?_ aH);intro K' hK';go_simp;clear k2;refine hK'.o _ _ ah (fun ag=>?_);clear hK' K' ag
  all_goals
   have f2:=q2.frozen;have k2:=q2.cell;refine ar 13 (.int .i64 ((en+le:Nat):Int)) ?_;refine aI [14] (cA ?_ aH);intro K' hK';go_simp;refine hK'.o _ _ ⟨(iG q0 (w.heap.size+1+1) 0 _ (by omega)).cell,(iG q1 (w.heap.size+1+1) 0 _ (by omega)).cell,(dX _ _ _ _ (fun e=>(show ¬w.heap.size+1+1=G by omega) (dt Addr.block e))).trans ah.2.2.1,(dX _ _ _ _ (fun e=>(show ¬w.heap.size+1+1=G by omega) (dt Addr.block e))).trans ah.2.2.2⟩ (fun _=>dW (by kernel_rfl) ?_ _);clear hK' K' ah;gi_wp2
   exact⟨(hD.trans (ji U0 _ _)).from _,iG q0 _ 0 _ (by omega),iG q1 _ 0 _ (by omega),by rw[HEk.o];exact q2.set _,qB.setCell (p:=⟨w.heap.size+1+1,0,none⟩) (by show w.heap.size<=w.heap.size+1+1;omega) _⟩
 case skip=>
  rintro k V hk hm h;rw[HEN.o k hm];exact h
 case done=>
  rintro D V hD ⟨h0,h1,h2,hB⟩ hK;have hc:=h2.cell;gi_wp2
  refine⟨by simp,.inl ⟨_,_,rfl,x5 hK,?_⟩⟩;refine⟨_,x6 rfl _ _ _,?_,hB.trans (sK (w:=w) (ak _) V D _ _ (by omega) hK rfl rfl)⟩;rw[<- amF.o];rfl
end
section
attribute [local go_sem] Oper.semAt_some
variable {u:Nat}
def wG (P:List (List Nat)) (v u:Nat):List Nat:=((P.getD u []++P.getD v []).filter fun x=>decide (x≠u)).filter fun x=>decide (x≠v)
def gj (P:List (List Nat)) (v k:Nat):List (List Nat):=(List.range P.length).map fun u=>if u<k/\u∈P.getD v [] then wG P v u else P.getD u []
theorem E3 (P:List (List Nat)) (v k:Nat):(gj P v k).length=P.length:=by simp[gj]
theorem adT (P:List (List Nat)) (v:Nat):gj P v 0=P:=by
 apply rC (by simp[gj]);intro i h1 h2;simp[gj,b6,h2]
theorem adU (hm:k∈P.getD v []):gj P v (k+1)=(gj P v k).set k (wG P v k):=by
 apply rC (by simp[gj]);intro i h1 h2;rw[List.getElem_set];simp only[gj,nE,Hd];by_cases h:k=i
 ·subst h;rw[aB ⟨by omega,hm⟩,aB rfl]
 ·rw[aD h];have e:(i<k+1/\i∈P.getD v [])↔(i<k/\i∈P.getD v []):=⟨fun ⟨a,b⟩=>⟨by omega,b⟩,fun ⟨a,b⟩=>⟨by omega,b⟩⟩;simp only[e]
theorem adV (hm:¬k∈P.getD v []):gj P v (k+1)=gj P v k:=by
 apply vT;intro i hi;have e:(i<k+1/\i∈P.getD v [])↔(i<k/\i∈P.getD v []):=⟨fun ⟨a,b⟩=>⟨by rcases cM i k with h |h;exact h;exact absurd (show i=k by omega) (fun e=>hm (e▸b)),b⟩,fun ⟨a,b⟩=>⟨by omega,b⟩⟩;simp only[e]
theorem adW (hu:u<P.length) (h:¬(u<k/\u∈P.getD v [])):(gj P v k).getD u []=P.getD u []:=by
 have h1:u<(gj P v k).length:=by rw[E3];exact hu
 have e:(gj P v k).getD u []=(gj P v k)[u]:=by rw[b6,ba h1];rfl
 rw[e];simp only[gj,nE,Hd];rw[aD h]
def qj (P:List (List Nat)) (v:Nat):List (List Nat):=gj P v 8
theorem Li {β:Type} (g:Nat) (f:β ->List Nat):Own (fun s W=>bW W g (f s)):=fun s X Y row hs hg hrow=>by
 refine(hg.block g hs.lt (fun e=>?_)).trans hs;obtain⟨o,ho,hc⟩:=hrow g e.symm;rw[hs] at ho;cases ho;cases hc
theorem XV {β:Type} {G B:Nat} (hB:w.heap.size<=B):OwnFrom B (fun (_:β) W=>w.grownBy W (some G)):=fun _ W W' row hs hg hr=>
 ⟨hg.os.trans hs.os,hg.tape.trans hs.tape,hg.output.trans hs.output,aM hs.size hg.size,fun k hk hne=>(hg.block k (aR hk hs.size) (fun e=>by
  have:=(hr k e.symm).1;omega)).trans (hs.block k hk hne)⟩
theorem ajI (h:Below w.heap.size w w') (G:Nat):w.grownBy w' (some G):=⟨h.os,h.tape,h.output,h.size,fun k hk _=>h.block k hk⟩
theorem aa0 {a b c:World} {G:Nat} (h:a.grownBy b (some G)) (k:b.grownBy c (some G)):a.grownBy c (some G):=
 ⟨k.os.trans h.os,k.tape.trans h.tape,k.output.trans h.output,aM h.size k.size,fun i hi hne=>(k.block i (aR hi h.size) hne).trans (h.block i hi hne)⟩
theorem ajH (w:World) (G j:Nat) (y:Value):w.grownBy (w.setCell ⟨G,j,none⟩ y) (some G):=⟨rfl,rfl,rfl,by simp,fun k _ hne=>iU w ⟨G,j,none⟩ y k (fun e=>hne (dt some e))⟩
theorem aa1 {a b:World} {G:Nat} (h:a.grownBy b (some G)):a.grownBy b.drew (some G):=⟨h.os,h.tape,h.output,h.size,h.block⟩
theorem ad0 (G n c v:Nat) (P:List (List Nat)) (w:World) (hn:P.length=n) (h8:n<=8) (hU:bW w G (P.map aA)) (hP:∀p∈P,∀u∈p,u<n) (hv:v<n) (AH:¬v∈P.getD v []):
  Calls Tryz.prog 196 #[.slice (some ⟨G,0,none⟩) n c,.int .i64 (v:Nat)] w fun e w'=>(∃r,e=.returned r)/\bW w' G ((qj P v).map aA)/\w.grownBy w' (some G):=by
 refine(fZ (n:=6)).1 ?_;have rU:∀p∈P,∀u∈p,u<8:=fun p hp u hu=>by have:=hP p hp u hu;omega
 have hs:=BA rU v;have hw0:=hU.lt
 have Kp:Hid (∀k,k∈P.getD v [] ->k<n):=fun k hk=>by
  rw[b6,ba (by omega)] at hk;exact hP _ (bY _) k hk
 have EC:Hid (∀(V:World) (k u:Nat),u< n ->¬(u<k/\u∈P.getD v []) ->bW V G ((gj P v k).map aA) ->V.cell? ⟨G,u,none⟩=some (.int .u32 (aA (P.getD u []):Nat))/\V.frozen? ⟨G,u,none⟩=false):=fun V k u hu hne hR=>by
  have h1:u<(gj P v k).length:=by rw[E3];omega
  have:=hR.cell u (by rw[cH];exact h1);rw[AD h1,adW (by omega) hne] at this;exact⟨this,hR.fz u⟩
 have jV:Hid (∀(V:World) (k:Nat),k∈P.getD v [] ->bW V G ((gj P v k).map aA) ->bW (V.setCell ⟨G,k,none⟩ (.int .u32 (aA (wG P v k):Nat))) G ((gj P v (k+1)).map aA)):=fun V k hm hR=>by
  have:=hR.set k (aA (wG P v k));rwa [adU hm,Cy]
 have jB:Hid (∀k,¬k∈P.getD v [] ->gj P v (k+1)=gj P v k):=fun k h=>adV h;have zJ:Hid (∀k,¬(v<k/\v∈P.getD v [])):=fun k h=>AH h.2;have Km:=hid (fun u=>Nt (P.getD u []) (P.getD v []) (BA rU u) hs);have Eg:=hid (fun (u:Nat) (hu:u<8) (U:World)=>H4 (P.getD u []++P.getD v []) u U (Ty (BA rU u) hs) hu);have BS:Hid (∀(u:Nat) (U:World),Calls Tryz.prog 145 #[.int .u32 (aA ((P.getD u []++P.getD v []).filter fun x=>decide (x≠u)):Nat),.int .i64 (v:Nat)] U fun e w'=>e=.returned (.int .u32 (aA (wG P v u):Nat))/\w'=U):=fun u U=>H4 _ v U (JA (Ty (BA rU u) hs) _) (by omega);have jb:bW w G ((gj P v 0).map aA):=by rw[adT];exact hU
 have pR:qj P v=gj P v 8:=rfl;rw[pR];have Oe:=hid (EC.o w 0 v hv (zJ.o 0) jb);generalize My:P.getD v []=bv at *;have tT:=hid My;clear hU hP rU pR AH My;refine rq Tryz.func196 rfl trivial ?_ rfl;simp only[Tryz.ntmps196,k9,di,jG,Nat.reduceAdd,Nat.reduceSub,lh,lg,ld,kF,gi,eC];obtain⟨W0,hW0⟩:∃W0,W0=(w.alloc (.cells #[.slice (some ⟨G,0,none⟩) n c] 109)).alloc (.cells #[.int .i64 (v:Nat)] 3):=⟨_,rfl⟩;have b0:Boxed W0 w.heap.size 109 (.slice (some ⟨G,0,none⟩) n c):=by rw[hW0];exact(aZ w _ _).alloc _
 have b1:Boxed W0 (w.heap.size+1) 3 (.int .i64 (v:Nat)):=by
  have h:=aZ (w.alloc (.cells #[.slice (some ⟨G,0,none⟩) n c] 109)) 3 (.int .i64 (v:Nat));rw[dE] at h;rw[hW0];exact h
 have hB0:Below w.heap.size w W0:=by
  rw[hW0];exact((aw _ w).alloc (ak _) _).alloc (by simp) _
 have k0:=b0.cell;have k1:=b1.cell;have kG:=(hB0.cell (p:=⟨G,v,none⟩) hw0).trans Oe.o.1;rw[hW0] at k0 k1 kG;gi_wp2
 rw[<- hW0];clear k0 k1 kG hW0;have wQ:w.heap.size+1<W0.heap.size:=b1.lt
 refine Am (by omega) bv hs rfl rfl
  (fun k V=>Boxed V w.heap.size 109 (.slice (some ⟨G,0,none⟩) n c)/\Boxed V (w.heap.size+1) 3 (.int .i64 (v:Nat))/\bW V G ((gj P v k).map aA)/\w.grownBy V (some G))
  (eG (fB (iH _ _ (fun _=>_)) _) (eG (fB (iH _ _ (fun _=>_)) _) (eG (fB (Li _ (fun k:Nat=>(gj P v k).map aA)) _) (XV (by omega)))))
  ⟨b0,b1,jb.aa hB0 hw0,ajI hB0 G⟩
  (fun k=> {tmps:= #[.slice (some ⟨G,0,none⟩) n c,.int .i64 (v:Nat),.pointer (some ⟨w.heap.size,0,none⟩),.pointer (some ⟨w.heap.size+1,0,none⟩),.int .i64 (k:Nat),.slice (some ⟨G,0,none⟩) n c,.int .i64 (v:Nat),.pointer (some ⟨G,v,none⟩),.int .u32 (aA bv:Nat),.func (.func 144) #[.int .u32 (aA bv:Nat)] #[],.int .i64 (k:Nat),undef,undef,undef,undef,undef,undef,undef,undef,undef,undef,undef,undef,undef,undef,undef,undef],defers:=[]}) ?assign ?body ?skip ?done
 case assign=>
  intro l k W K hK;gi_wp2
  exact hK
 case body=>
  rintro l k V hk hm ⟨h0,h1,h2,hB⟩;have hkn:=Kp.o k hm;have hkv:k≠v:=fun e=>zJ.o (k+1) ⟨by omega,e▸hm⟩;have k0:=h0.cell;have k1:=h1.cell;have kG:=(EC.o V k v hv (zJ.o k) h2).1;rw[tT.o] at kG;have tB:=EC.o V k k hkn (by omega) h2;have hOR:=Km.o k;have ams:=hid (Eg.o k hk);have amr:=hid (BS.o k);have qY:=hid (fun U hU=>jV.o U k hm hU);generalize aA ((P.getD k []++bv).filter fun x=>decide (x≠k))=m2 at *;generalize aA (P.getD k []++bv)=m1 at *;generalize aA (P.getD k [])=mu at *;generalize aA (wG P v k)=m3 at *;generalize aA bv=mv at *;gi_wp2_with fail
  refine wC (fun u=>u.cell? ⟨w.heap.size,0,none⟩=some (.slice (some ⟨G,0,none⟩) n c)/\u.cell? ⟨w.heap.size+1,0,none⟩=some (.int .i64 (v:Nat))/\u.cell? ⟨G,v,none⟩=some (.int .u32 (mv:Nat))) (by kernel_rfl) (by kernel_rfl) (fun ⟨_,_,h⟩=>h) ⟨k0,k1,kG⟩ ?_;intro ah;have hD:KeepsOthers V V.drew:=ym V;have q0:Boxed V.drew w.heap.size 109 (.slice (some ⟨G,0,none⟩) n c):=h0;have q1:Boxed V.drew (w.heap.size+1) 3 (.int .i64 (v:Nat)):=h1;have q2:bW V.drew G ((gj P v k).map aA):=h2;have qB:=aa1 hB;have kU:V.drew.cell? ⟨G,k,none⟩=some (.int .u32 (mu:Nat)):=tB.1;have fU:V.drew.frozen? ⟨G,k,none⟩=false:=tB.2;clear k0 k1 kG tB h0 h1 h2 hB b0 b1 hB0;generalize V.drew=U0 at *;refine ar 0 (.slice (some ⟨G,0,none⟩) n c) ?_;refine ar 1 (.int .i64 (k:Nat)) ?_;refine ar 2 (.slice (some ⟨G,0,none⟩) n c) ?_;refine ar 3 (.int .i64 (k:Nat)) ?_;refine ar 4 (.pointer (some ⟨G,k,none⟩)) ?_;refine ar 6 (.slice (some ⟨G,0,none⟩) n c) ?_;refine ar 7 (.int .i64 (v:Nat)) ?_;refine ar 8 (.pointer (some ⟨G,v,none⟩)) ?_;refine ar 9 (.int .u32 (mv:Nat)) ?_;refine ar 11 (.int .i64 (k:Nat)) ?_;refine ar 13 (.int .i64 (v:Nat)) ?_;refine aI [5] (cA ?_ aH);intro K' hK';go_simp;refine hK'.o _ _ ah (fun ag=>?_);clear hK' K' ag;refine ar 10 (.int .u32 (m1:Nat)) ?_;refine aI [12] (cA ?_ aH);intro K' hK';go_simp;refine(ams.o _).ae ?_;rintro e U1 ⟨rfl,eQ⟩;subst eQ;refine hK'.o _ _ ah (fun ag=>?_);clear hK' K' ag;generalize U1=U0 at *;refine aI [14] (cA ?_ aH);intro K' hK';go_simp;refine(amr.o _).ae ?_;rintro e U1 ⟨rfl,eQ⟩
  subst eQ;refine hK'.o _ _ ah (fun ag=>?_);clear hK' K' ag;generalize U1=U0 at *;refine ar 15 (.pointer (some ⟨G,k,none⟩)) ?_;refine aI [16] (cA ?_ aH);intro K' hK';go_simp;refine hK'.o _ _ ⟨(iG q0 G k _ (by omega)).cell,(iG q1 G k _ (by omega)).cell,(dX _ _ _ _ (fun e=>hkv (dt Addr.off e))).trans ah.2.2⟩ (fun _=>dW (by kernel_rfl) ?_ _);clear hK' K' ah;gi_wp2
  exact⟨(hD.trans (ji U0 _ _)).from _,iG q0 G k _ (by omega),iG q1 G k _ (by omega),qY.o U0 q2,aa0 qB (ajH U0 G k _)⟩
 case skip=>
  rintro k V hk hm h;rw[jB.o k hm];exact h
 case done=>
  rintro D V hD ⟨h0,h1,h2,hB⟩ hK;gi_wp2
  refine⟨by simp,.inl ⟨_,_,rfl,x5 hK,?_⟩⟩;refine⟨_,results_none rfl _ _ _,⟨_,rfl⟩,Li G (fun (_:Unit)=>(gj P v 8).map aA) () V _ (some D) h2 (grownBy_putObj' V D _) (fun r e=>by cases e;exact⟨_,hK,rfl⟩),?_⟩;exact XV (β:=Unit) (ak _) () V _ (some D) hB (grownBy_putObj' V D _) (fun r e=>by cases e;exact⟨by omega,_,hK,rfl⟩)
end
section
attribute [local go_sem] Oper.semAt_some
def iM (f:Nat ->Nat) (s:List Nat):Nat ->Option (Nat×Nat)
 |0=>none
 |k+1=>if k∈s then(match iM f s k with |none=>some (k,f k) |some (b,m)=>if f k<m then some (k,f k) else some (b,m)) else iM f s k
def Jv:Option (Nat×Nat) ->Nat
 |none=>0
 |some (b,_)=>b
def S3:Option (Nat×Nat) ->Int
 |none=> -1
 |some (_,m)=>(m:Int)
theorem aj8 (h:¬k∈s):iM f s (k+1)=iM f s k:=by rw[iM,aD h]
theorem akb (h:k∈s) (e:iM f s k=none):iM f s (k+1)=some (k,f k):=by rw[iM,aB h,e]
theorem aka {b:Nat} (h:k∈s) (e:iM f s k=some (b,m)) (hl:f k<m):iM f s (k+1)=some (k,f k):=by rw[iM,aB h,e];exact aB hl
theorem aj9 {b:Nat} (h:k∈s) (e:iM f s k=some (b,m)) (hl:¬f k<m):iM f s (k+1)=some (b,m):=by rw[iM,aB h,e];exact aD hl
def jc (P:List (List Nat)) (s:List Nat):Nat:=Jv (iM (nS P) s 8)
theorem aid (P:List (List Nat)) (v:Nat):nS P v<=32:=by
 have:=Ng P v 8;rw[nS];omega
theorem aky (G n c:Nat) (P:List (List Nat)) (s:List Nat) (w:World) (hn:P.length=n) (h8:n<=8) (hU:bW w G (P.map aA)) (hP:∀p∈P,∀u∈p,u<n) (hs:∀u∈s,u<n):
  Calls Tryz.prog 195 #[.slice (some ⟨G,0,none⟩) n c,.int .u32 (aA s:Nat)] w fun e w'=>e=.returned (.int .i64 (jc P s:Nat))/\Below w.heap.size w w':=by
 refine(fZ (n:=6)).1 ?_;have FH:∀u∈s,u<8:=fun u hu=>by have:=hs u hu;omega
 have hw0:=hU.lt;have HL:=hid (fun (V:World) (hB:Below w.heap.size w V) (k:Nat) (hk:k<n)=>aic G n c k P V hn h8 (hU.aa hB hw0) hP hk);have HN:=hid (fun k (h:¬k∈s)=>aj8 (f:=nS P) h);have HF:=hid (fun k (h:k∈s) e=>akb (f:=nS P) h e);have HS:=hid (fun k b m (h:k∈s) e hl=>aka (f:=nS P) (b:=b) (m:=m) h e hl);have HM:=hid (fun k b m (h:k∈s) e hl=>aj9 (f:=nS P) (b:=b) (m:=m) h e hl);have Ej:=hid hs;have tA:jc P s=Jv (iM (nS P) s 8):=rfl;rw[tA];have hf0:iM (nS P) s 0=none:=rfl;have p8:=hid (fun k=>aid P k);generalize iM (nS P) s=fw at *;generalize nS P=lk at *;clear hU hP hs tA;refine rq Tryz.func195 rfl trivial ?_ rfl;simp only[Tryz.ntmps195,k9,di,jG,Nat.reduceAdd,Nat.reduceSub,lh,lg,ld,kF,gi,eC];obtain⟨W0,hW0⟩:∃W0,W0=((w.alloc (.cells #[.slice (some ⟨G,0,none⟩) n c] 109)).alloc (.cells #[.int .i64 0] 3)).alloc (.cells #[.int .i64 (-1)] 3):=⟨_,rfl⟩;have b0:Boxed W0 w.heap.size 109 (.slice (some ⟨G,0,none⟩) n c):=by rw[hW0];exact((aZ w _ _).alloc _).alloc _
 have b1:Boxed W0 (w.heap.size+1) 3 (.int .i64 (Jv (fw 0):Nat)):=by
  have h:=(aZ (w.alloc (.cells #[.slice (some ⟨G,0,none⟩) n c] 109)) 3 (.int .i64 0)).alloc (.cells #[.int .i64 (-1)] 3);rw[dE] at h;rw[hW0,hf0];exact h
 have b2:Boxed W0 (w.heap.size+1+1) 3 (.int .i64 (S3 (fw 0))):=by
  have h:=aZ ((w.alloc (.cells #[.slice (some ⟨G,0,none⟩) n c] 109)).alloc (.cells #[.int .i64 0] 3)) 3 (.int .i64 (-1));rw[dE,dE] at h;rw[hW0,hf0];exact h
 have hB0:Below w.heap.size w W0:=by
  rw[hW0];exact(((aw _ w).alloc (ak _) _).alloc (by simp) _).alloc (by simp;omega) _
 gi_wp2
 rw[<- hW0];clear hW0;have wQ:w.heap.size+1+1<W0.heap.size:=b2.lt
 refine Am (by omega) s FH rfl rfl
  (fun k V=>Boxed V w.heap.size 109 (.slice (some ⟨G,0,none⟩) n c)/\Boxed V (w.heap.size+1) 3 (.int .i64 (Jv (fw k):Nat))/\Boxed V (w.heap.size+1+1) 3 (.int .i64 (S3 (fw k)))/\Below w.heap.size w V)
  (eG (fB (iH _ _ (fun _=>_)) _) (eG (fB (iH _ _ (fun k:Nat=>.int .i64 (Jv (fw k):Nat))) _) (eG (fB (iH _ _ (fun k:Nat=>.int .i64 (S3 (fw k)))) _) (x7 (ak _) (by omega)))))
  ⟨b0,b1,b2,hB0⟩
  (fun k=> {tmps:= #[.slice (some ⟨G,0,none⟩) n c,.int .u32 (aA s:Nat),.pointer (some ⟨w.heap.size,0,none⟩),undef,.int .i64 0,.pointer (some ⟨w.heap.size+1,0,none⟩),.pointer (some ⟨w.heap.size+1+1,0,none⟩),.int .i64 (k:Nat),undef,.int .u32 (aA s:Nat),.func (.func 144) #[.int .u32 (aA s:Nat)] #[],.int .i64 (k:Nat),undef,undef,undef,undef,undef,undef,undef,undef,undef,undef,undef,undef,undef],defers:=[]}) ?assign ?body ?skip ?done
 case assign=>
  intro l k W K hK;gi_wp2
  exact hK
 case body=>
  rintro l k V hk hm ⟨h0,h1,h2,hB⟩;have UC:=hid (HL.o V hB k (Ej.o k hm));have anj:=p8.o k;have HFk:=hid (HF.o k hm);have NL:=hid (fun b m=>HS.o k b m hm);have HMk:=hid (fun b m=>HM.o k b m hm);have k0:=h0.cell;have tT:=hid hB;have HQ:=hid (And.intro h0 (And.intro h1 h2));have hlt2:=h2.lt;clear h0 h1 h2 hB b0 b1 b2 hB0;generalize fw k=st at *;generalize lk k=lv at *;have hlv:¬(lv:Int)<0:=by omega
  cases st with
  |none=>
   have he:=HFk.o rfl;have HE:=hid he;clear he;gi_wp2_with (refine⟨trivial,?_⟩;gi_at_call 233;refine(K0 l (fZ.2 UC.o)).ae ?_;rintro e V2 ⟨rfl,hb⟩;have q0:=uY HQ.o.1 hb (by omega);have q1:=uY HQ.o.2.1 hb (by omega);have q2:=uY HQ.o.2.2 hb hlt2;have j1:=q1.cell;have j2:=q2.cell;have g1:=q1.frozen;have g2:=q2.frozen;have Zu:V2.cell? ⟨w.heap.size+1+1,0,none⟩=some (.int .i64 (-1)):=j2;clear j2)
   refine⟨((QD hb).trans ((ji V2 _ _).trans (ji _ _ _))).from _,iG (iG q0 _ 0 _ (by omega)) _ 0 _ (by omega),?_,?_,?_⟩
   ·rw[HE.o];exact iG (q1.set _) _ 0 _ (by omega)
   ·rw[HE.o];exact(iG q2 _ 0 _ (by omega)).set _
   ·exact((tT.o.trans (hb.ae tT.o.size)).setCell (p:=⟨w.heap.size+1,0,none⟩) (by simp) _).setCell (p:=⟨w.heap.size+1+1,0,none⟩) (by show w.heap.size<=w.heap.size+1+1;omega) _
  |some bm=>
   obtain⟨b,m⟩:=bm;(have hm0:¬(m:Int)<0:=by omega);by_cases kj:lv<m
   ·have he:=NL.o b m rfl kj;have HE:=hid he;(have ai1:(lv:Int)<(m:Int):=by omega);clear he;gi_wp2_with (refine⟨trivial,?_⟩;gi_at_call 233;refine(K0 l (fZ.2 UC.o)).ae ?_;rintro e V2 ⟨rfl,hb⟩;have q0:=uY HQ.o.1 hb (by omega);have q1:=uY HQ.o.2.1 hb (by omega);have q2:=uY HQ.o.2.2 hb hlt2;have j1:=q1.cell;have j2:=q2.cell;have g1:=q1.frozen;have g2:=q2.frozen;have Zu:V2.cell? ⟨w.heap.size+1+1,0,none⟩=some (.int .i64 (m:Nat)):=j2;clear j2)
    refine⟨((QD hb).trans ((ji V2 _ _).trans (ji _ _ _))).from _,iG (iG q0 _ 0 _ (by omega)) _ 0 _ (by omega),?_,?_,?_⟩
    ·rw[HE.o];exact iG (q1.set _) _ 0 _ (by omega)
    ·rw[HE.o];exact(iG q2 _ 0 _ (by omega)).set _
    ·exact((tT.o.trans (hb.ae tT.o.size)).setCell (p:=⟨w.heap.size+1,0,none⟩) (by simp) _).setCell (p:=⟨w.heap.size+1+1,0,none⟩) (by show w.heap.size<=w.heap.size+1+1;omega) _
   ·have he:=HMk.o b m rfl kj;have HE:=hid he;(have ai1:¬(lv:Int)<(m:Int):=by omega);clear he kj;gi_wp2_with (refine⟨trivial,?_⟩;gi_at_call 233;refine(K0 l (fZ.2 UC.o)).ae ?_;rintro e V2 ⟨rfl,hb⟩;have q0:=uY HQ.o.1 hb (by omega);have q1:=uY HQ.o.2.1 hb (by omega);have q2:=uY HQ.o.2.2 hb hlt2;have j2:=q2.cell;have Zu:V2.cell? ⟨w.heap.size+1+1,0,none⟩=some (.int .i64 (m:Nat)):=j2;clear j2)
    exact⟨(QD hb).from _,q0,by rw[HE.o];exact q1,by rw[HE.o];exact q2,tT.o.trans (hb.ae tT.o.size)⟩
 case skip=>
  rintro k V hk hm h;rw[HN.o k hm];exact h
 case done=>
  rintro D V hD ⟨h0,h1,h2,hB⟩ hK;have hc:=h1.cell;gi_wp2
  refine⟨by simp,.inl ⟨_,_,rfl,x5 hK,?_⟩⟩;exact⟨_,x6 rfl _ _ _,rfl,hB.trans (sK (w:=w) (ak _) V D _ _ (by omega) hK rfl rfl)⟩
end
variable {j:Nat}
def o0 (w:World) (g:Nat) (l:List Value):Prop:=w.heap[g]? =some (.cells l.toArray 27 (0,0))
theorem o0.cell {l:List Value} (h:o0 w g l) (j:Nat) (hj:j<l.length):w.cell? ⟨g,j,none⟩=some l[j]:=by
 rw[bE w g j _ _ (0,0) h];simp[hj]
theorem o0.fz {l:List Value} (h:o0 w g l) (j:Nat):w.frozen? ⟨g,j,none⟩=false:=kZ w g j _ _ h
theorem o0.lt {l:List Value} (h:o0 w g l):g<w.heap.size:=(cV.1 h).1
theorem o0.aa {b:Nat} {l:List Value} (h:o0 w g l) (hb:Below b w w') (hg:g<b):o0 w' g l:=(hb.block g hg).trans h
theorem o0.set {l:List Value} (h:o0 w g l) (j:Nat) (y:Value):o0 (w.setCell ⟨g,j,none⟩ y) g (l.set j y):=by
 have h2:=jX w g j _ _ y h;rw[o0,h2];simp
theorem Tryz.infoInts1:(Tryz.prog.info? 27).map (fun i=>(i.zero,i.size,i.bytes))=some (some (.slice none 0 0),1,24):=by kernel_rfl
theorem ahU (n:Nat):(madeCells (Value.slice none 0 0).cells (n*1)).toList=List.replicate n (Value.slice none 0 0):=by
 rw[show (Value.slice none 0 0).cells= #[Value.slice none 0 0] from rfl,GY,oF]
def fL (s:List Nat):List Int:=iL (bw s 8)
def JS (w:World) (P:List (List Nat)) (l:List Value) (i:Nat):Prop:=l.length=P.length/\∀j (hj:j<P.length),j< i ->∃d cd,l[j]? =some (.slice d (fL P[j]).length cd)/\aC w d (fL P[j])
theorem JS.aa {l:List Value} (h:JS w P l i) (hb:Below w.heap.size w w'):JS w' P l i:=⟨h.1,fun j hj hi=>by
 obtain⟨d,cd,h1,h2⟩:=h.2 j hj hi;exact⟨d,cd,h1,h2.aa hb⟩⟩
theorem aC.off {d:Option Addr} (h:aC w d l) (hne:∀g' o',d=some ⟨g',o',none⟩ ->l≠[] ->g'≠g):aC (w.setCell ⟨g,j,none⟩ y) d l:=fun k hk=>by
 obtain⟨g',o',h1,h2,h3⟩:=h k hk;have hn:=hne g' o' h1 (fun e=>by rw[e] at hk;simp at hk);refine⟨g',o',h1,by simpa using h2,?_⟩;rw[<- h3];have e:=iU w ⟨g,j,none⟩ y g' (by show g'≠g;exact hn);exact l5 e
theorem Zw {d:Option Addr} {vs:List Value} (h:aC w d l) (hg:o0 w g vs) (hv:∀v∈vs,∃a n c,v=.slice a n c):∀g' o',d=some ⟨g',o',none⟩ ->l≠[] ->g'≠g:=fun g' o' hd hl e=>by
 subst e;have hp:0<l.length:=KT.2 hl;obtain⟨g2,o2,h1,h2,h3⟩:=h 0 hp;rw[hd] at h1;cases h1;rw[bE w g' _ _ _ (0,0) hg] at h3;rw[List.getElem?_toArray] at h3;obtain⟨a,n,c,e⟩:=hv _ (OX h3);cases e
def Slv (l:List Value):Prop:=∀v∈l,∃a n c,v=Value.slice a n c
theorem Zf (a:Option Addr) (ca:Nat) (P:List (List Nat)) (w:World) (hP:∀p∈P,∀u∈p,u<8) (hn:P.length<=5000) (hS:∀k (h:k<P.length),∃g o,a=some ⟨g,o,none⟩/\g<w.heap.size/\w.cell? ⟨g,o+k,none⟩=some (.int .u32 (aA P[k]:Nat))):
  Calls Tryz.prog 146 #[.slice a P.length ca] w fun e w'=>∃G,e=.returned (.slice (some ⟨G,0,none⟩) P.length P.length)/\w.heap.size<=G/\dT w' (some ⟨G,0,none⟩) (P.map fL)/\Below w.heap.size w w':=by
 obtain⟨i0,bS,hz0,hz1,hz2⟩:=dK Tryz.infoInts1;have HS:=hid hS;have HP:=hid hP;have zP:=hid (fun (s:List Nat) (hs:∀u∈s,u<8) (U:World)=>Zg s U hs);clear hS hP;go_enter Tryz.func146,Tryz.ntmps146
 go_wp2_with (first
  |(at_make;refine nC _ rfl _ _ 23 rfl w.heap.size 27 i0 (.slice none 0 0) 1 Tryz.underlying23 bS hz0 hz1 .i64 .i64 _ _ P.length rfl rfl (by go_num) (by go_num) (by rw[hz2];omega) (by unfold maxLen;omega) (ak _) ?_;intro w2 hown2 hgrow2))
 have hb2:=pV hown2;rw[ahU] at hb2;have bq:Hid (Below w.heap.size w w2):=(aw _ w).grown hgrow2 (ak _) (fun k e=>by cases e);have HI:Hid (o0 w2 w.heap.size (List.replicate P.length (.slice none 0 0))):=hb2;clear hown2 hgrow2 hb2;go_wp2_with fail
 go_loopw [11] (fun iv wr=>∃(i:Nat) (vs:List Value),i<=P.length/\iv=.int .i64 i/\Hid (o0 wr w.heap.size vs)/\Hid (JS wr P vs i)/\Hid (Slv vs)/\Hid (Below w.heap.size w wr)) (fun iv _=>P.length - (intOf iv).toNat)
 case atStart=>exact⟨0,_,aX _,rfl,HI,⟨by simp,fun j _ h=>absurd h (by omega)⟩,fun v hv=>⟨none,0,0,(List.mem_replicate.1 hv).2⟩,bq⟩
 case round=>
  obtain⟨i,vs,hi,rfl,HR,Ue,Ua,HB⟩:=hrel;clear HI bq;by_cases hlt:i<P.length
  ·obtain⟨g,o,rfl,hg,c0⟩:=HS.o i hlt;have c1:=(HB.o.cell (p:=⟨g,o+i,none⟩) hg).trans c0;have HL:=hid (zP.o P[i] (HP.o _ (bY hlt)));have hlv:=Ue.o.1;clear c0;go_wp2_with fail
   refine(HL.o _).ae ?_;rintro e w3 ⟨v,rfl,hv,hb3⟩;obtain⟨d,cd,rfl,hI⟩:=hv.ints;have ko:=HR.o.aa hb3 HR.o.lt;have aaW:=Ue.o.aa hb3;have k3:=ko.cell i (by omega);have f3:=ko.fz i;have ED:=hid ((HB.o.trans (hb3.ae HB.o.size)).setCell (p:=⟨w.heap.size,i,none⟩) (ak _) (.slice d (fL P[i]).length cd));have nh:=hid (ko.set i (.slice d (fL P[i]).length cd))
   have amx:Hid (Slv (vs.set i (.slice d (fL P[i]).length cd))):=fun x hx=>by
    rcases Ve hx with h |h
    ·exact Ua.o x h
    ·exact⟨_,_,_,h⟩
   have amz:Hid (JS (w3.setCell ⟨w.heap.size,i,none⟩ (.slice d (fL P[i]).length cd)) P (vs.set i (.slice d (fL P[i]).length cd)) (i+1)):=by
    refine⟨by rw[uf];exact hlv,fun j hj pL=>?_⟩;by_cases e:j=i
    ·subst e;exact⟨d,cd,by rw[List.getElem?_set_self (by omega)],aC.off hI (Zw hI ko Ua.o)⟩
    ·obtain⟨d',xo,h1,h2⟩:=aaW.2 j hj (by omega);exact⟨d',xo,by rw[O0 (fun e'=>e e'.symm)];exact h1,aC.off h2 (Zw h2 ko Ua.o)⟩
   rw[show iL (bw P[i] 8)=fL P[i] from rfl];generalize (fL P[i]).length=ln at *;generalize vs[i]'(by omega)=z at *;clear ko aaW hb3 hI hv c1;go_wp2;go_roundw
   case rel=>exact⟨i+1,_,by omega,by go_num,nh,amz,amx,ED⟩
   case measure=>simp[intOf];omega
  ·obtain rfl:i=P.length:=by omega
   have cU:Hid (dT wr (some ⟨w.heap.size,0,none⟩) (P.map fL)):=fun k hk=>by
    rw[cH] at hk;obtain⟨d,cd,h1,h2⟩:=Ue.o.2 k hk hk;obtain⟨h3,h4⟩:=nG.1 h1;refine⟨w.heap.size,0,d,cd,rfl,HR.o.lt,?_,by rw[nE];exact h2⟩;rw[bI,HR.o.cell k h3,h4,nE]
   go_wp2;go_ret;exact⟨w.heap.size,rfl,ak _,cU.o,HB.o⟩
variable {u:Nat} {nv v':Value} {w9 wr wr':World}
def vh (w:World) (B:Nat) (v:Value) (l:List Nat):Prop:=w.ownsRow B 115 1 v l.length (l.map uv)
theorem vh.own {B:Nat} {v:Value} {l:List Nat} (h:vh w B v l):∀k,v.ownBlock=some k ->B<=k:=by
 intro k hk;rcases h.2 with ⟨rfl,_⟩ |⟨g,cap,cur,rfl,h2,_⟩
 ·cases hk
 ·cases hk;exact h2
theorem vh.slv {B:Nat} {v:Value} {l:List Nat} (h:vh w B v l):∃d n c,v=.slice d n c:=by
 rcases h.2 with ⟨rfl,_⟩ |⟨g,cap,cur,rfl,h2,_⟩
 ·exact⟨_,_,_,rfl⟩
 ·exact⟨_,_,_,rfl⟩
theorem XS {W:World} {B1 B2:Nat} {e1 e2:TypeId} {v1 v2:Value} {n1 n2:Nat} {x1 x2:List Value} (h1:W.ownsRow B1 e1 1 v1 n1 x1) (h2:W.ownsRow B2 e2 1 v2 n2 x2) (he:e1≠e2):v2.ownBlock=none∨v2.ownBlock≠v1.ownBlock:=by
 rcases h2.2 with ⟨rfl,_⟩ |⟨g,cap,cur,rfl,_,hg,_⟩
 ·exact .inl rfl
 ·refine .inr fun e=>?_;rcases h1.2 with ⟨rfl,_⟩ |⟨g',cap',cur',rfl,_,gD,_⟩
  ·cases e
  ·have e':g=g':=k7 e;subst e';rw[hg] at gD;injection gD with h3;injection h3 with _ h4 _;exact he h4.symm
theorem XT {W:World} {B G:Nat} {e:TypeId} {v:Value} {x:List Value} (h:W.ownsRow B e 1 v n x) (hG:G<B):v.ownBlock=none∨v.ownBlock≠some G:=by
 rcases h.2 with ⟨rfl,_⟩ |⟨g,cap,cur,rfl,hB,_⟩
 ·exact .inl rfl
 ·exact .inr fun e=>by
   have e':g=G:=k7 e;omega
theorem SM {G:Nat} {row:Option Nat} (h:w.grownBy V (some G)) (hg:V.grownBy V' row) (hr:∀r,row=some r ->w.heap.size<=r):w.grownBy V' (some G):=
 ⟨hg.os.trans h.os,hg.tape.trans h.tape,hg.output.trans h.output,aM h.size hg.size,fun k hk hne=>(hg.block k (aR hk h.size) (fun e=>by
  have:=hr k e.symm;omega)).trans (h.block k hk hne)⟩
theorem Tryz.infoSet2:(Tryz.prog.info? 115).map (fun i=>(i.zero,i.size,i.bytes))=some (some (.int .u32 0),1,4):=by kernel_rfl
theorem adb {o:Oper} {a:Act} (s x:Operand)
  (ho:o.op=.call {callee:=.builtin .append,args:= #[s,x],argTypes:= #[109,109]}) (base:Nat) (v:Value) (l:List Nat) (f:Nat) (hs:a.eval s=v) (hown:vh w base v l) (g:Nat) (hx:a.eval x=.slice (some ⟨g,0,none⟩) 1 1) (hg:w.cell? ⟨g,0,none⟩=some (uv f)) (hlen:l.length+1<=100000) (hbase:base<=w.heap.size)
  (h:∀v' w',vh w' base v' (l++[f]) ->w.grownBy w' v.ownBlock ->K (a.put o.dst v') w'):o.wp Tryz.prog a w K Q:=by
 obtain⟨i0,bS,hz0,hz1,hz2⟩:=dK Tryz.infoSet2;refine wp_append_own _ s x 109 ho base 115 i0 (.int .u32 0) 1 4 Tryz.underlying109 bS hz0 hz1 hz2 rfl (by decide) v l.length _ hs hown ⟨g,0,none⟩ 1 1 [uv f] hx rfl ?_ ?_ (by unfold maxLen;omega) (by omega) hbase ?_
 ·intro j u hj;match j,hj with
  |0,hj=>cases hj;exact hg
  |j+1,hj=>simp at hj
 ·intro u hu;simp only[cT,iT,oC] at hu;subst hu;rfl
 ·intro v' w' h1 h2 _;refine h v' w' ?_ h2;rw[vh,bM,dY];exact h1
theorem adf {o:Oper} {a:Act} (s x:Operand)
  (ho:o.op=.call {callee:=.builtin .append,args:= #[s,x],argTypes:= #[27,27]}) (base:Nat) (v:Value) (l:List Int) (f:Int) (hs:a.eval s=v) (hown:bD w base v l) (g:Nat) (hx:a.eval x=.slice (some ⟨g,0,none⟩) 1 1) (hg:w.cell? ⟨g,0,none⟩=some (.int .i64 f)) (hlen:l.length+1<=100000) (hbase:base<=w.heap.size)
  (h:∀v' w',bD w' base v' (l++[f]) ->w.grownBy w' v.ownBlock ->K (a.put o.dst v') w'):o.wp Tryz.prog a w K Q:=by
 obtain⟨i0,bS,hz0,hz1,hz2⟩:=dK Tryz.infoInt;refine wp_append_own _ s x 27 ho base 3 i0 (.int .i64 0) 1 8 Tryz.underlying27 bS hz0 hz1 hz2 rfl (by decide) v l.length _ hs hown ⟨g,0,none⟩ 1 1 [.int .i64 f] hx rfl ?_ ?_ (by unfold maxLen;omega) (by omega) hbase ?_
 ·intro j u hj;match j,hj with
  |0,hj=>cases hj;exact hg
  |j+1,hj=>simp at hj
 ·intro u hu;simp only[cT,iT,oC] at hu;subst hu;rfl
 ·intro v' w' h1 h2 _;refine h v' w' ?_ h2;rw[bD,bM,dY];exact h1
def uj:Nat ->List Nat
 |0=>[]
 |i+1=>i::uj i
theorem yv {x:Nat}:x∈uj i↔x<i:=by
 induction i with
 |zero=>simp[uj]
 |succ i ih=>rw[uj,cT,ih];omega
structure FlS where
 ord:List Nat
 bag:List (List Nat)
 lft:List Nat
 nei:List (List Nat)
def bj (P:List (List Nat)) (n:Nat):Nat ->FlS
 |0=>⟨[],[],uj n,P⟩
 |k+1=>⟨(bj P n k).ord++[jc (bj P n k).nei (bj P n k).lft],(bj P n k).bag++[jc (bj P n k).nei (bj P n k).lft::(bj P n k).nei.getD (jc (bj P n k).nei (bj P n k).lft) []],(bj P n k).lft.filter (fun u=>decide (u≠jc (bj P n k).nei (bj P n k).lft)),qj (bj P n k).nei (jc (bj P n k).nei (bj P n k).lft)⟩
structure qT (n:Nat) (P:List (List Nat)):Prop where
 len:P.length=n
 lt:∀p∈P,∀u∈p,u<n
 self:∀u,¬u∈P.getD u []
theorem qT.at (h:qT n P) (v:Nat):∀u∈P.getD v [],u<n:=by
 by_cases hv:v<P.length
 ·rw[b6,ba hv];exact h.lt _ (bY hv)
 ·rw[b6,ig (by omega)];intro u hu;simp at hu
theorem Qr {x:Nat}:x∈wG P v u↔(x∈P.getD u []∨x∈P.getD v [])/\x≠u/\x≠v:=by
 simp only[wG,cJ,bL,OI];exact⟨fun ⟨⟨a,b⟩,c⟩=>⟨a,b,c⟩,fun ⟨a,b,c⟩=>⟨⟨a,b⟩,c⟩⟩
theorem qT.take (h:qT n P) (v:Nat):qT n (qj P v):=by
 refine⟨by rw[qj,E3];exact h.len,fun p hp u hu=>?_,fun u hu=>?_⟩
 ·obtain⟨i,hi,rfl⟩:=aU.1 hp;by_cases hc:i<8/\i∈P.getD v []
  ·rw[aB hc,Qr] at hu;exact hu.1.elim (h.at i u) (h.at v u)
  ·rw[aD hc] at hu;exact h.at i u hu
 ·by_cases hl:u<P.length
  ·have e:(qj P v).getD u []=if u<8/\u∈P.getD v [] then wG P v u else P.getD u []:=by
    rw[b6,ba (by rw[qj,E3];exact hl)];simp[qj,gj]
   rw[e] at hu;by_cases hc:u<8/\u∈P.getD v []
   ·rw[aB hc,Qr] at hu;exact hu.2.1 rfl
   ·rw[aD hc] at hu;exact h.self u hu
  ·rw[b6,ig (by rw[qj,E3];omega)] at hu;simp at hu
theorem M5:∀ {k b m:Nat},iM f s k=some (b,m) ->b∈s
 |0,_,_,h=>by cases h
 |k+1,b,m,h=>by
  by_cases hk:k∈s
  ·rw[iM,aB hk] at h;cases hf:iM f s k with
   |none=>rw[hf] at h;cases h;exact hk
   |some x=>
    obtain⟨b',m'⟩:=x;rw[hf] at h;simp only at h;by_cases hl:f k<m'
    ·rw[aB hl] at h;cases h;exact hk
    ·rw[aD hl] at h;cases h;exact M5 hf
  ·rw[iM,aD hk] at h;exact M5 h
theorem abk (h1:1<=n) (hs:∀u∈s,u<n):jc P s<n:=by
 rw[jc];cases h:iM (nS P) s 8 with
 |none=>exact h1
 |some x=>
  obtain⟨b,m⟩:=x;exact hs b (M5 h)
theorem M9 (h:qT n P):∀k,qT n (bj P n k).nei/\(∀u∈(bj P n k).lft,u<n)/\(bj P n k).ord.length=k/\(bj P n k).bag.length=k
 |0=>⟨h,fun u hu=>yv.1 hu,rfl,rfl⟩
 |k+1=>by
  obtain⟨h1,h2,h3,h4⟩:=M9 h k;exact⟨h1.take _,fun u hu=>h2 u (cJ.1 hu).1,by simp[bj,h3],by simp[bj,h4]⟩
structure lX (w wr:World) (G:Nat) (nv bv:Value) (o:List Int) (b Q:List Nat):Prop where
 row:bW wr G Q
 grow:w.grownBy wr (some G)
 nd:bD wr w.heap.size nv o
 bg:vh wr w.heap.size bv b
theorem lX.aa {G:Nat} {bv:Value} {o:List Int} {b Q:List Nat} (h:lX w wr G nv bv o b Q) (hb:Below wr.heap.size wr wr'):lX w wr' G nv bv o b Q:=
 ⟨h.row.aa hb h.row.lt,SM h.grow (row:=none) ⟨hb.os,hb.tape,hb.output,hb.size,fun k hk _=>hb.block k hk⟩ (fun r e=>by cases e),h.nd.under hb,LI h.bg hb (ak _)⟩
theorem lX.nodes {G:Nat} {bv:Value} {o o':List Int} {b Q:List Nat} (h:lX w wr G nv bv o b Q) (hG:G<w.heap.size) (hr:bD w9 w.heap.size v' o') (hg:wr.grownBy w9 nv.ownBlock):lX w w9 G v' bv o' b Q:=
 ⟨(hg.block G h.row.lt (fun e=>by have:=h.nd.own G e.symm;omega)).trans h.row,SM h.grow hg (fun r e=>h.nd.own r e),hr,KM h.bg hg (XS h.nd h.bg (by decide))⟩
theorem lX.bags {G:Nat} {bv:Value} {o:List Int} {b b' Q:List Nat} (h:lX w wr G nv bv o b Q) (hG:G<w.heap.size) (hr:vh w9 w.heap.size v' b') (hg:wr.grownBy w9 bv.ownBlock):lX w w9 G nv v' o b' Q:=
 ⟨(hg.block G h.row.lt (fun e=>by have:=h.bg.own G e.symm;omega)).trans h.row,SM h.grow hg (fun r e=>h.bg.own r e),KM h.nd hg (XS h.bg h.nd (by decide)),hr⟩
theorem lX.o {G:Nat} {bv:Value} {o:List Int} {b Q Q':List Nat} (h:lX w wr G nv bv o b Q) (hG:G<w.heap.size) (hr:bW w9 G Q') (hg:wr.grownBy w9 (some G)):lX w w9 G nv bv o b Q':=
 ⟨hr,aa0 h.grow hg,KM h.nd hg (XT h.nd hG),KM h.bg hg (XT h.bg hG)⟩
theorem lX.drew {G:Nat} {bv:Value} {o:List Int} {b Q:List Nat} (h:lX w wr G nv bv o b Q):lX w wr.drew G nv bv o b Q:=⟨h.row,aa1 h.grow,h.nd,h.bg⟩
theorem ajO (G n c:Nat) (P:List (List Nat)) (w:World) (h1:1<=n) (h8:n<=8) (hU:bW w G (P.map aA)) (hP:qT n P):
  Calls Tryz.prog 148 #[.slice (some ⟨G,0,none⟩) n c] w fun e w'=>∃nv bv,e=.returned (.tuple #[nv,bv])/\lX w w' G nv bv (iL (bj P n n).ord) ((bj P n n).bag.map aA) ((bj P n n).nei.map aA):=by
 have hG:=hU.lt;have xL:=hid (fun k=>M9 hP k);have HX0:Hid (lX w w G (.slice none 0 0) (.slice none 0 0) (iL (bj P n 0).ord) ((bj P n 0).bag.map aA) ((bj P n 0).nei.map aA)):=⟨hU,⟨rfl,rfl,rfl,ak _,fun _ _ _=>rfl⟩,⟨rfl,.inl ⟨rfl,rfl⟩⟩,⟨rfl,.inl ⟨rfl,rfl⟩⟩⟩;have NH:=hid (fun (i:Nat) (hi:i<8) (U:World)=>Fc (uj i) i U (fun u hu=>by have:=yv.1 hu;omega) hi);have HUL:Hid (∀i,aA (i::uj i)=aA (uj (i+1))):=fun i=>rfl;have BW:Hid (∀k,bj P n (k+1)=⟨(bj P n k).ord++[jc (bj P n k).nei (bj P n k).lft],(bj P n k).bag++[jc (bj P n k).nei (bj P n k).lft::(bj P n k).nei.getD (jc (bj P n k).nei (bj P n k).lft) []],(bj P n k).lft.filter (fun u=>decide (u≠jc (bj P n k).nei (bj P n k).lft)),qj (bj P n k).nei (jc (bj P n k).nei (bj P n k).lft)⟩):=fun k=>rfl;have Od:Hid ((bj P n 0).lft=uj n):=rfl;generalize bj P n=fl at *;clear hU hP;go_enter Tryz.func148,Tryz.ntmps148;go_wp2_with fail
 go_loopw [4,9] (fun sv iv wr=>∃i:Nat,i<=n/\sv=.int .u32 (aA (uj i):Nat)/\iv=.int .i64 i/\wr=w) (fun _ iv _=>n - (intOf iv).toNat)
 case atStart=>exact⟨0,aX _,rfl,rfl,rfl⟩
 case round=>
  obtain⟨i,hi,rfl,rfl,hwr⟩:=hrel;replace hwr:=hwr.symm;subst hwr;by_cases hlt:i<n
  ·have NG:=hid (NH.o i (by omega));rw[HUL.o i] at NG;generalize aA (uj i)=m0 at *;go_wp2_with fail
   refine(NG.o _).ae ?_;rintro e w1 ⟨rfl,hw1⟩;subst hw1;go_wp2;go_roundw
   case rel=>exact⟨i+1,by omega,rfl,by go_num,trivial⟩
   case measure=>simp[intOf];omega
  ·obtain rfl:i=n:=by omega
   rw[<- Od.o];clear hi hlt NH HUL;go_wp2_with fail
   go_loopw [2,3,4,18] (fun nv bv sv iv wr'=>∃k:Nat,k<=i/\iv=.int .i64 k/\sv=.int .u32 (aA (fl k).lft:Nat)/\Hid (lX w wr' G nv bv (iL (fl k).ord) ((fl k).bag.map aA) ((fl k).nei.map aA))) (fun _ _ _ iv _=>i - (intOf iv).toNat)
   case atStart=>exact⟨0,aX _,rfl,rfl,HX0⟩
   case round=>
    obtain⟨k,hk,rfl,rfl,HX⟩:=hrel;clear HX0;by_cases hlt:k<i
    ·obtain⟨hNb,MM,hOl,hBl⟩:=xL.o k;have NL:=hid (BW.o k);(obtain⟨d2,n2,e2,rfl⟩:∃d n c,u2=Value.slice d n c:=by obtain⟨d,cd,e, -⟩:=HX.o.nd.ints;exact⟨_,_,_,e⟩);obtain⟨d3,n3,e3,rfl⟩:=HX.o.bg.slv;generalize fl k=S at *;have hfv:=abk (P:=S.nei) h1 MM;have HFW:=hid (fun (U:World) (hU:bW U G (S.nei.map aA))=>aky G i c S.nei S.lft U hNb.len h8 hU hNb.lt MM);have T6:=hid (fun (U:World) (hU:bW U G (S.nei.map aA))=>ad0 G i c (jc S.nei S.lft) S.nei U hNb.len h8 hU hNb.lt hfv (hNb.self _));have Ef:=hid (fun (U:World)=>Fc (S.nei.getD (jc S.nei S.lft) []) (jc S.nei S.lft) U (fun u hu=>by have:=hNb.at _ u hu;omega) (by omega));have kT:=hid (fun (U:World)=>H4 S.lft (jc S.nei S.lft) U (fun u hu=>by have:=MM u hu;omega) (by omega))
     have xW:Hid (∀U:World,bW U G (S.nei.map aA) ->U.cell? ⟨G,jc S.nei S.lft,none⟩=some (.int .u32 (aA (S.nei.getD (jc S.nei S.lft) []):Nat))):=fun U hR=>by
      have hl:=hNb.len;have:=hR.cell (jc S.nei S.lft) (by rw[cH];omega);rwa [AD (by omega)] at this
     generalize AH:jc S.nei S.lft=v at *;clear AH hNb MM;generalize hm4:aA (S.lft.filter fun u=>decide (u≠v))=m4 at *;have sA:=hid hm4;clear hm4;go_wp2_with fail
     refine(HFW.o _ HX.o.row).ae ?_;rintro e w1 ⟨rfl,hb⟩;have Sh:=HX.o.aa hb;clear hb HX;have kc:=xW.o _ Sh.row;have Et:Hid (aA (v::S.nei.getD v [])=aA (v::S.nei.getD v [])):=rfl;generalize hm1:aA (v::S.nei.getD v [])=m1 at *;replace Et:Hid (aA (v::S.nei.getD v [])=m1):=hm1;clear hm1;generalize aA (S.nei.getD v [])=m0 at *;go_upto_region 10 with fail
     refine kC (S:=fun u=>u.cell? ⟨G,v,none⟩=some (.int .u32 (m0:Nat))) (by kernel_rfl) kc (fun ah=>?_);have DL:=Sh.drew;(have hlo:(iL S.ord).length<=8:=by rw[bF];omega);(have js:(S.bag.map aA).length<=8:=by rw[cH];omega);clear kc Sh;generalize w1.drew=U0 at *;refine ar 0 (.slice d2 n2 e2) ?_;refine ar 1 (.int .i64 (v:Nat)) ?_;refine ar 4 (.slice d3 n3 e3) ?_;refine ar 5 (.slice (some ⟨G,0,none⟩) i c) ?_;refine ar 6 (.int .i64 (v:Nat)) ?_;refine ar 7 (.pointer (some ⟨G,v,none⟩)) ?_;(try simp only[gE,aP]);refine dm 8 (.int .u32 (m0:Nat)) ?_ ?_
     ·intro u' aS;have s0:=aS;go_simp
     refine ar 9 (.int .i64 (v:Nat)) ?_;refine aI [2] (cA ?_ aH);intro K' hK';go_simp;have kn:=(aw _ U0).alloc (ak _) (.cells #[.int .i64 (v:Nat)] 3);have mY:=DL.aa kn;have HC:=(aZ U0 3 (.int .i64 (v:Nat))).cell;refine hK'.o _ _ ((kn.cell (p:=⟨G,v,none⟩) DL.row.lt).trans ah) (fun ag=>?_);clear hK' K' ah DL kn;have ah:=ag;clear ag;generalize (U0.alloc (.cells #[.int .i64 (v:Nat)] 3))=U1 at *;generalize U0.heap.size=BN at *;refine aI [3] (cA ?_ aH);intro K' hK';rw[aB (by rfl)];refine adf _ _ rfl w.heap.size _ (iL S.ord) (v:Nat) rfl mY.nd BN rfl HC (by omega) mY.grow.size ?_;intro v' w9 yQ gX;(obtain⟨d9,n9,Nq,rfl⟩:∃d n c,v'=Value.slice d n c:=by obtain⟨d,cd,e, -⟩:=yQ.ints;exact⟨_,_,_,e⟩);have Bg:=mY.nodes hG yQ gX;refine hK'.o _ _ ((l5 (gX.block G mY.row.lt (fun e=>by have:=mY.nd.own G e.symm;omega))).trans ah) (fun ag=>?_);clear hK' K' ah mY yQ gX HC;have ah:=ag;clear ag;have hdn:True:=trivial;clear hdn;generalize hd:d9=dn at *;generalize lG:n9=nn at *;generalize hc9:Nq=cn at *;clear hd lG hc9 d9 n9 Nq;refine aI [10] (cA ?_ aH);intro K' hK';go_simp;refine(Ef.o _).ae ?_;rintro e U2 ⟨rfl,tB⟩;subst tB;refine hK'.o _ _ ah (fun ag=>?_);clear hK' K' ag;have DL:=Bg;clear Bg;generalize U2=U0 at *;refine aI [11] (cA ?_ aH);intro K' hK';go_simp;have kn:=(aw _ U0).alloc (ak _) (.cells #[.int .u32 (m1:Nat)] 115);have mY:=DL.aa kn;have HC:=(aZ U0 115 (.int .u32 (m1:Nat))).cell;refine hK'.o _ _ ((kn.cell (p:=⟨G,v,none⟩) DL.row.lt).trans ah) (fun ag=>?_);clear hK' K' ah DL kn;have ah:=ag
     clear ag;generalize (U0.alloc (.cells #[.int .u32 (m1:Nat)] 115))=U1 at *;generalize U0.heap.size=BN at *;refine aI [12] (cA ?_ aH);intro K' hK';rw[aB (by rfl)];refine adb _ _ rfl w.heap.size _ (S.bag.map aA) m1 rfl mY.bg BN rfl HC (by omega) mY.grow.size ?_;intro v' w9 yQ gX;obtain⟨d9,n9,Nq,rfl⟩:∃d n c,v'=Value.slice d n c:=yQ.slv;have Bg:=mY.bags hG yQ gX;refine hK'.o _ _ ((l5 (gX.block G mY.row.lt (fun e=>by have:=mY.bg.own G e.symm;omega))).trans ah) (fun ag=>?_);clear hK' K' ah mY yQ gX HC;have ah:=ag;clear ag;refine ar 13 (.slice dn nn cn) ?_;refine ar 14 (.slice d9 n9 Nq) ?_;(try simp only[gE,aP]);refine dW (by kernel_rfl) ?_ _;clear ah;have Sd:=Bg;clear Bg;generalize w9=w3 at *;go_wp2_with fail
     refine(kT.o _).ae ?_;rintro e w4 ⟨rfl,hw4⟩;subst hw4;go_wp2_with fail
     refine(T6.o _ Sd.row).ae ?_;rintro e w5 ⟨⟨rr,rfl⟩,uy,I5⟩;have zt:=hid (Sd.o hG uy I5);clear uy I5 Sd;go_wp2;go_roundw
     case rel=>exact⟨k+1,by omega,by go_num,by rw[NL.o];show _=Value.int .u32 (aA (S.lft.filter fun u=>decide (u≠v)):Nat);rw[sA.o],by rw[NL.o];show lX _ _ _ _ _ (iL (S.ord++[v])) ((S.bag++[v::S.nei.getD v []]).map aA) _;rw[QK,dY,show [v::S.nei.getD v []].map aA=[m1] from by rw[<- Et.o];rfl];exact zt⟩
     case measure=>simp[intOf];omega
    ·obtain rfl:k=i:=by omega
     (obtain⟨d2,n2,e2,rfl⟩:∃d n c,u2=Value.slice d n c:=by obtain⟨d,cd,e, -⟩:=HX.o.nd.ints;exact⟨_,_,_,e⟩);obtain⟨d3,n3,e3,rfl⟩:=HX.o.bg.slv;go_wp2;go_ret2;exact⟨_,_,rfl,HX.o⟩
variable {ds:List Deferred} {B' lo:Nat} {W':World}
def Shut (lo:Nat):Nat ->List Deferred ->World ->Prop
 |_,[],_=>True
 |B,d::ds,W=>∃r,lo<=r/\r<B/\d= {target:=.collected r,args:= #[]}/\W.heap[r]? =some (.deferred (some []))/\Shut lo r ds W
theorem Shut.ae {B:Nat} {W:World} (h:Shut lo B ds W) (hb:B<=B'):Shut lo B' ds W:=by
 cases ds with
 |nil=>trivial
 |cons d ds=>
  obtain⟨r,h1,h2,h3⟩:=h;exact⟨r,h1,by omega,h3⟩
theorem Shut.keep:∀ {ds:List Deferred} {B:Nat} {W W':World},Shut lo B ds W ->(∀r,r< B ->W'.heap[r]? =W.heap[r]?) ->Shut lo B ds W'
 |[],_,_,_,_,_=>trivial
 |d::ds,B,W,W',h,hk=>by
  obtain⟨r,h1,h2,h3,h4,h5⟩:=h;exact⟨r,h1,h2,h3,(hk r h2).trans h4,h5.keep fun k hlt=>hk k (by omega)⟩
theorem Shut.aa {B:Nat} {W:World} (h:Shut lo B ds W) (hb:Below B W W'):Shut lo B ds W':=h.keep fun r hr=>hb.block r hr
theorem CS {F:Fence} {P:Program} {tmps:Array Value} {R:Ending ->World ->Prop} {K:World ->Prop}
  (hK:∀W r,K W ->lo<=r ->W.heap[r]? =some (.deferred (some [])) ->K (W.putObj r (.deferred none))) (hend:∀W,K W ->LeavesInM F n P fn tmps R [] .returning W):
  ∀(ds:List Deferred) (B:Nat) (W:World),Shut lo B ds W ->K W ->LeavesInM F n P fn tmps R ds .returning W
 |[],_,W,_,hW=>hend W hW
 |d::ds,B,W,h,hW=>by
  obtain⟨r,h1,h2,rfl,h4,h5⟩:=h;refine⟨by simp,.inl ⟨r,_,rfl,x5 h4,CS hK hend ds r _ ?_ (hK W r hW h1 h4)⟩⟩;exact h5.keep fun k hk=>tX (by omega)
section
attribute [local go_sem] Oper.semAt_some
variable {c:Nat}
def dH (U:List (List Nat)) (u:Nat):Nat ->List Nat
 |0=>[]
 |v+1=>if u∈U.getD v [] then v::dH U u v else dH U u v
theorem BF {U:List (List Nat)}:∀ {v x:Nat},x∈dH U u v↔x<v/\u∈U.getD x []
 |0,x=>by simp[dH]
 |v+1,x=>by
  rw[dH];by_cases h:u∈U.getD v []
  ·rw[aB h,cT,BF];constructor
   ·rintro(rfl |⟨h1,h2⟩)
    ·exact⟨by omega,h⟩
    ·exact⟨by omega,h2⟩
   ·rintro⟨h1,h2⟩;by_cases e:x=v
    ·exact .inl e
    ·exact .inr ⟨by omega,h2⟩
  ·rw[aD h,BF];constructor
   ·rintro⟨h1,h2⟩;exact⟨by omega,h2⟩
   ·rintro⟨h1,h2⟩;exact⟨by rcases cM x v with h3 |h3;exact h3;exact absurd (show x=v by omega) (fun e=>h (e▸h2)),h2⟩
def kq (U:List (List Nat)) (n v k:Nat):List (List Nat):=(List.range n).map fun u=>if u<k/\u∈U.getD v [] then v::dH U u v else dH U u v
def ju (U:List (List Nat)) (n v:Nat):List (List Nat):=(List.range n).map fun u=>dH U u v
theorem alq (U:List (List Nat)) (n v:Nat):kq U n v 0=ju U n v:=by simp[kq,ju]
theorem alw {U:List (List Nat)} (h:n<=8):kq U n v 8=ju U n (v+1):=by
 apply vT;intro u hu;have:=ck.1 hu;rw[dH];by_cases h1:u∈U.getD v []
 ·rw[aB ⟨by omega,h1⟩,aB h1]
 ·rw[aD (fun e=>h1 e.2),aD h1]
theorem alr {U:List (List Nat)} (hm:k∈U.getD v []):kq U n v (k+1)=(kq U n v k).set k (v::dH U k v):=by
 apply rC (by simp[kq]);intro i h1 h2;rw[List.getElem_set];simp only[kq,nE,Hd];by_cases h:k=i
 ·subst h;rw[aB ⟨by omega,hm⟩,aB rfl]
 ·rw[aD h];have e:(i<k+1/\i∈U.getD v [])↔(i<k/\i∈U.getD v []):=⟨fun ⟨a,b⟩=>⟨by omega,b⟩,fun ⟨a,b⟩=>⟨by omega,b⟩⟩;simp only[e]
theorem als {U:List (List Nat)} (hm:¬k∈U.getD v []):kq U n v (k+1)=kq U n v k:=by
 apply vT;intro i hi;have e:(i<k+1/\i∈U.getD v [])↔(i<k/\i∈U.getD v []):=⟨fun ⟨a,b⟩=>⟨by rcases cM i k with h |h;exact h;exact absurd (show i=k by omega) (fun e=>hm (e▸b)),b⟩,fun ⟨a,b⟩=>⟨by omega,b⟩⟩;simp only[e]
theorem alv {U:List (List Nat)} (hu:u<n) (h:¬u<k):(kq U n v k)[u]? =some (dH U u v):=by
 simp[kq,hu,h]
theorem alu (U:List (List Nat)) (n v k:Nat):(kq U n v k).length=n:=by simp[kq]
theorem Tp (U:List (List Nat)) (n v:Nat):(ju U n v).length=n:=by simp[ju]
theorem Shut.putAt {B:Nat} {W:World} (h:Shut lo B ds W) (hg:g<lo) (v:Value):Shut lo B ds (W.setCell ⟨g,j,none⟩ v):=by
 induction ds generalizing B with
 |nil=>trivial
 |cons d ds ih=>
  obtain⟨r,h1,h2,h3,h4,h5⟩:=h;exact⟨r,h1,h2,h3,(iU W ⟨g,j,none⟩ v r (by show r≠g;omega)).trans h4,ih h5⟩
theorem PC {β:Type} {B:Nat}:OwnFrom B (fun (_:β) W=>B<=W.heap.size/\Shut lo B ds W):=fun _ W W' row hs hg hr=>
 ⟨aM hs.1 hg.size,hs.2.keep fun k hk=>hg.block k (by omega) (fun e=>by have:=(hr k e.symm).1;omega)⟩
def qf (w:World) (n c:Nat) (l:List Nat) (W:World):Prop:=bW W w.heap.size l/\Boxed W (w.heap.size+1) 109 (.slice (some ⟨w.heap.size,0,none⟩) n c)/\Below w.heap.size w W
theorem qf.shut {l:List Nat} (hlo:w.heap.size+1<lo) (W:World) (r:Nat) (h:qf w n c l W) (hr:lo<=r) (hd:W.heap[r]? =some (.deferred (some []))):qf w n c l (W.putObj r (.deferred none)):=
 ⟨(tX (by omega)).trans h.1,(tX (by omega)).trans h.2.1,h.2.2.trans (sK (w:=w) (ak _) W r _ _ (by omega) hd rfl rfl)⟩
theorem qf.own {β:Type} {B:Nat} (f:β ->List Nat) (hB:w.heap.size<=B):OwnFrom B (fun (s:β) W=>qf w n c (f s) W):=
 eG (fB (Li _ f) _) (eG (fB (iH _ _ (fun _=>_)) _) (x7 (ak _) hB))
theorem qf.aa {W:World} {l:List Nat} (h:qf w n c l W) (hb:Below W.heap.size W W'):qf w n c l W':=⟨h.1.aa hb h.1.lt,uY h.2.1 hb h.2.1.lt,h.2.2.trans (hb.ae h.2.2.size)⟩
theorem abW (G n c:Nat) (U:List (List Nat)) (w:World) (hn:U.length=n) (h8:n<=8) (hU:bW w G (U.map aA)) (hP:∀p∈U,∀u∈p,u<n):
  Calls Tryz.prog 126 #[.slice (some ⟨G,0,none⟩) n c] w fun e w'=>e=.returned (.slice (some ⟨w.heap.size,0,none⟩) n n)/\bW w' w.heap.size ((ju U n n).map aA)/\Below w.heap.size w w':=by
 refine(fZ (n:=6)).1 ?_;obtain⟨i0,bS,hz0,hz1,hz2⟩:=dK Tryz.infoSet;have hG:=hU.lt;have rU:∀p∈U,∀u∈p,u<8:=fun p hp u hu=>by have:=hP p hp u hu;omega
 have vG:Hid (∀(V:World) (v:Nat),Below w.heap.size w V ->v< n ->V.cell? ⟨G,v,none⟩=some (.int .u32 (aA (U.getD v []):Nat))):=fun V v hB hv=>by
  have:=(hU.aa hB hG).cell v (by rw[cH];omega);rwa [AD (by omega)] at this
 have HGS:=hid (fun v=>BA rU v)
 have Kp:Hid (∀v k,v< n ->k∈U.getD v [] ->k<n):=fun v k hv hk=>by
  rw[b6,ba (by omega)] at hk;exact hP _ (bY _) k hk
 have NH:=hid (fun (u v:Nat) (hv:v<n) (V:World)=>Fc (dH U u v) v V (fun x hx=>by have:=(BF.1 hx).1;omega) (by omega))
 have EC:Hid (∀(V:World) (g v k u:Nat),u< n ->¬u< k ->bW V g ((kq U n v k).map aA) ->V.cell? ⟨g,u,none⟩=some (.int .u32 (aA (dH U u v):Nat))/\V.frozen? ⟨g,u,none⟩=false):=fun V g v k u hu hne hR=>by
  have h1:u<(kq U n v k).length:=by rw[alu];exact hu
  have h2:=hR.cell u (by rw[cH];exact h1);obtain⟨h3,h4⟩:=nG.1 (alv (U:=U) (v:=v) hu hne);rw[nE,h4] at h2;exact⟨h2,hR.fz u⟩
 have jV:Hid (∀(V:World) (g v k:Nat),k∈U.getD v [] ->bW V g ((kq U n v k).map aA) ->bW (V.setCell ⟨g,k,none⟩ (.int .u32 (aA (v::dH U k v):Nat))) g ((kq U n v (k+1)).map aA)):=fun V g v k hm hR=>by
  have:=hR.set k (aA (v::dH U k v));rwa [alr hm,Cy]
 have jB:Hid (∀v k,¬k∈U.getD v [] ->kq U n v (k+1)=kq U n v k):=fun v k h=>als h;have HZ:=hid (fun v=>alq U n v);have HA:=hid (fun v=>alw (U:=U) (v:=v) h8)
 have hz:(ju U n 0).map aA=List.replicate n 0:=by
  apply rC (by simp[ju]);intro i h1 h2;simp[ju,dH,aA]
 clear hU hP rU;refine rq Tryz.func126 rfl trivial ?_ rfl;simp only[Tryz.ntmps126,k9,di,jG,Nat.reduceAdd,Nat.reduceSub,lh,lg,ld,kF,gi,eC];have hmk:=fun V=>run_make_row' (P:=Tryz.prog) 109 115 (.int .u32 0) 4 Tryz.underlying109 Tryz.infoSet rfl .i64 .i64 n (by omega) (by omega) V;gi_wp2
 clear hmk;obtain⟨W2,hW2⟩:∃W2,W2=(w.alloc (.cells (madeCells #[.int .u32 0] n) 115)).alloc (.cells #[.slice (some ⟨w.heap.size,0,none⟩) n n] 109):=⟨_,rfl⟩
 have hL2:qf w n n ((ju U n 0).map aA) W2:=by
  rw[hW2,hz];refine⟨?_,?_,((aw _ w).alloc (ak _) _).alloc (by simp) _⟩
  ·have h:=fP w (.cells (madeCells #[.int .u32 0] n) 115)
   have e:(madeCells #[.int .u32 0] n).toList=(List.replicate n (0:Nat)).map uv:=by
    have:=Qx n;rwa [oF] at this
   (have e2:madeCells #[Value.int .u32 0] n=((List.replicate n (0:Nat)).map uv).toArray:=by rw[<- e]);rw[bW,qg _ _ _ (by simp),h,e2]
  ·have h:=aZ (w.alloc (.cells (madeCells #[.int .u32 0] n) 115)) 109 (.slice (some ⟨w.heap.size,0,none⟩) n n);rwa [dE] at h
 rw[<- hW2];have hs2:W2.heap.size=w.heap.size+2:=by rw[hW2];simp
 have mN:=hid hL2;clear hW2 hL2 hz;refine wpIn_loop (fun a' w'=>∃(v:Nat) (ds:List Deferred) (u4 u5 u13 u14 u15 u16 Hs Hr yw:Value),a'= {tmps:= #[.slice (some ⟨G,0,none⟩) n c,undef,.slice none 0 0,.pointer (some ⟨w.heap.size+1,0,none⟩),u4,u5,undef,.slice (some ⟨G,0,none⟩) n c,.int .i64 (n:Nat),.slice (some ⟨w.heap.size,0,none⟩) n n,.slice (some ⟨G,0,none⟩) n c,.int .i64 (n:Nat),.int .i64 (v:Nat),u13,u14,u15,u16,Hs,Hr,undef,undef,undef,undef,undef,undef,undef,undef,undef,undef,yw,undef],defers:=ds}/\v<=n/\Hid (qf w n n ((ju U n v).map aA) w')/\Hid (Shut (w.heap.size+2) w'.heap.size ds w')) (fun a' _=>n - (intOf (a'.tmps.getD 12 undef)).toNat) ?_ ?_
 ·exact⟨0,[],_,_,_,_,_,_,_,_,_,rfl,aX _,mN,trivial⟩
 intro a' wr hinv;obtain⟨v,ds,u4,u5,u13,u14,u15,u16,Hs,Hr,yw,rfl,hv,kW,o7⟩:=hinv;clear mN;by_cases hlt:v<n
 ·have kv:=vG.o wr v kW.o.2.2 hlt;have hs:=HGS.o v;have HMv:=hid (fun k hk=>Kp.o v k hlt hk);have HWv:=hid (fun u=>NH.o u v hlt);have U3:=hid (fun V g k u=>EC.o V g v k u);have T9:=hid (fun V g k=>jV.o V g v k);have Us:=hid (fun k=>jB.o v k);have Sa:=HZ.o v;have SG:=HA.o v;generalize U.getD v []=bv at *;have cY:w.heap.size+1<wr.heap.size:=kW.o.2.1.lt;gi_wp2
  obtain⟨W3,hW3⟩:∃W3,W3=wr.alloc (.cells #[.int .i64 (v:Nat)] 3):=⟨_,rfl⟩;have b4:Boxed W3 wr.heap.size 3 (.int .i64 (v:Nat)):=by rw[hW3];exact aZ wr _ _
  have hb3:Below wr.heap.size wr W3:=by rw[hW3];exact(aw _ wr).alloc (ak _) _
  have hs3:W3.heap.size=wr.heap.size+1:=by rw[hW3];simp
  rw[<- hW3];clear hW3 kv;have hL3:=kW.o.aa hb3;have Jg:=(o7.o.aa hb3).ae (show wr.heap.size<=W3.heap.size by omega);have Uh:=hid (o7.o);clear kW o7 Uh;rw[<- Sa] at hL3
  refine Am (by omega) bv hs rfl rfl
   (fun k V=>qf w n n ((kq U n v k).map aA) V/\Boxed V wr.heap.size 3 (.int .i64 (v:Nat))/\(W3.heap.size<=V.heap.size/\Shut (w.heap.size+2) W3.heap.size ds V))
   (eG (qf.own (fun k:Nat=>(kq U n v k).map aA) (by omega)) (eG (fB (iH _ _ (fun _=>_)) _) PC))
   ⟨hL3,b4,ak _,Jg⟩
   (fun k=> {tmps:= #[.slice (some ⟨G,0,none⟩) n c,undef,.slice none 0 0,.pointer (some ⟨w.heap.size+1,0,none⟩),.pointer (some ⟨wr.heap.size,0,none⟩),.int .u32 (aA bv:Nat),.int .i64 (k:Nat),.slice (some ⟨G,0,none⟩) n c,.int .i64 (n:Nat),.slice (some ⟨w.heap.size,0,none⟩) n n,.slice (some ⟨G,0,none⟩) n c,.int .i64 (n:Nat),.int .i64 (v:Nat),.bool true,.int .i64 (v:Nat),.pointer (some ⟨G,v,none⟩),.int .u32 (aA bv:Nat),.int .u32 (aA bv:Nat),.func (.func 144) #[.int .u32 (aA bv:Nat)] #[],.int .i64 (k:Nat),undef,undef,undef,undef,undef,undef,undef,undef,undef,yw,undef],defers:=[]}) ?assign ?body ?skip ?done
  case assign=>
   intro l k W K hK;gi_wp2
   exact hK
  case body=>
   rintro l k V hk hm ⟨h0,h4,ux,nU⟩;have hkn:=HMv.o k hm;have k1:=h0.2.1.cell;have k4:=h4.cell;obtain⟨kU,fU⟩:=U3.o V w.heap.size k k hkn (by omega) h0.1;have Ee:=hid (HWv.o k);have qY:=hid (fun W hW=>T9.o W w.heap.size k hm hW);generalize aA (v::dH U k v)=m1 at *;generalize aA (dH U k v)=m0 at *;generalize aA bv=mv at *;gi_wp2_with fail
   refine wC (fun u=>u.cell? ⟨w.heap.size+1,0,none⟩=some (.slice (some ⟨w.heap.size,0,none⟩) n n)/\u.cell? ⟨wr.heap.size,0,none⟩=some (.int .i64 (v:Nat))) (by kernel_rfl) (by kernel_rfl) (fun ⟨_,_,h⟩=>h) ⟨k1,k4⟩ ?_;intro ah;have hD:KeepsOthers V V.drew:=ym V;have q0:qf w n n ((kq U n v k).map aA) V.drew:=⟨h0.1,h0.2.1,h0.2.2.drew⟩;have q4:Boxed V.drew wr.heap.size 3 (.int .i64 (v:Nat)):=h4;have qS:Shut (w.heap.size+2) W3.heap.size ds V.drew:=nU.keep fun _ _=>rfl;have qz:W3.heap.size<=V.drew.heap.size:=ux;have kU2:V.drew.cell? ⟨w.heap.size,k,none⟩=some (.int .u32 (m0:Nat)):=kU;have fU2:V.drew.frozen? ⟨w.heap.size,k,none⟩=false:=fU;clear k1 k4 kU fU h0 h4 nU ux b4 hb3 hL3 Jg;generalize V.drew=U0 at *;refine ar 0 (.slice (some ⟨w.heap.size,0,none⟩) n n) ?_;refine ar 1 (.int .i64 (k:Nat)) ?_;refine ar 2 (.slice (some ⟨w.heap.size,0,none⟩) n n) ?_;refine ar 3 (.int .i64 (k:Nat)) ?_;refine ar 4 (.pointer (some ⟨w.heap.size,k,none⟩)) ?_;refine ar 6 (.int .i64 (v:Nat)) ?_;refine aI [5] (cA ?_ aH);intro K' hK';go_simp;refine hK'.o _ _ ah (fun ag=>?_);clear hK' K' ag;refine aI [7] (cA ?_ aH);intro K' hK';go_simp;refine(Ee.o _).ae ?_;rintro e U1 ⟨rfl,eQ⟩;subst eQ;refine hK'.o _ _ ah (fun ag=>?_);clear hK' K' ag;generalize U1=U0 at *;refine ar 8 (.pointer (some ⟨w.heap.size,k,none⟩)) ?_;refine aI [9] (cA ?_ aH);intro K' hK';go_simp;refine hK'.o _ _ ⟨(iG q0.2.1 w.heap.size k _ (by omega)).cell,(iG q4 w.heap.size k _ (by omega)).cell⟩ (fun _=>dW (by kernel_rfl) ?_ _);clear hK' K' ah;gi_wp2
   exact⟨(hD.trans (ji U0 _ _)).from _,⟨qY.o U0 q0.1,iG q0.2.1 w.heap.size k _ (by omega),q0.2.2.setCell (p:=⟨w.heap.size,k,none⟩) (ak _) _⟩,iG q4 w.heap.size k _ (by omega),by simpa using qz,qS.putAt (by omega) _⟩
  case skip=>
   rintro k V hk hm h;rw[Us.o k hm];exact h
  case done=>
   rintro D V hD ⟨h0,h4,ux,nU⟩ hK;rw[SG] at h0;have ze:D<V.heap.size:=(cV.1 hK).1;have Eh:Hid (Shut (w.heap.size+2) V.heap.size ({target:=.collected D,args:= #[]}::ds) V):=⟨D,by omega,ze,rfl,hK,nU.ae hD⟩;have Ks:=hid h0;clear h0 h4 nU hK;gi_wp2
   refine⟨⟨v+1,_,_,_,_,_,_,_,_,_,_,rfl,by omega,Ks,Eh⟩,?_⟩;simp[intOf];omega
 ·obtain rfl:v=n:=by omega
  have kc:=kW.o.2.1.cell;gi_wp2
  refine CS (lo:=w.heap.size+2) (K:=qf w v v ((ju U v v).map aA)) (qf.shut (by omega)) (fun Z hZ=>⟨_,x6 rfl _ _ _,rfl,hZ.1,hZ.2.2⟩) _ wr.heap.size wr o7.o kW.o
end
theorem ng (h:gB L=true):1<=L.length/\L.length<=8/\gR L L.length=true/\wF L=true:=by
 rw[gB,fD,fD,dQ] at h;exact⟨h.1.1.1,h.1.1.2,h.1.2,h.2⟩
theorem ajX (h:gB L=true):∀p∈aG L,∀u∈p,u<8:=by
 obtain⟨h1,h2,h3,h4⟩:=ng h;intro p hp;obtain⟨l,hl,rfl⟩:=aU.1 hp;exact WY h2 (dN.1 h3 l hl)
theorem M4 (a:Option Addr) (ca:Nat) (L:List (List Int)) (w:World) (h:dT w a L) (hl:∀l∈L,l.length<=140737488355328):
  Calls Tryz.prog 72 #[.slice a L.length ca] w fun e w'=>Below w.heap.size w w'/\
   ((bh L=0/\∃G,e=.returned (.tuple #[.slice (some ⟨G,0,none⟩) L.length L.length,.int .i64 0])/\w.heap.size<=G/\bW w' G (gM L))∨(bh L≠0/\e=.returned (.tuple #[.slice none 0 0,.int .i64 (bh L)]))):=by
 have HF:=hid h;have HR:=hid (fun (V:World) (hV:dT V a L)=>Xb a ca L V hV hl);have Oo:Hid (gB L=false ->bh L=11):=fun h=>aD (by rw[h];decide);have sG:Hid (gB L=true ->(aW (aG L) L.length).length<L.length ->bh L=10):=fun h1 h2=>by rw[bh,aB h1,aB h2]
 have Ch:Hid (gB L=true ->¬(aW (aG L) L.length).length<L.length ->bh L=0):=fun h1 h2=>by rw[bh,aB h1,aD h2]
 have HO:Hid (gB L=true ->∀(G c:Nat) (V:World),bW V G (gM L) ->Calls Tryz.prog 124 #[.slice (some ⟨G,0,none⟩) L.length c] V fun e w'=>∃x,e=.returned x/\bD w' V.heap.size x (iL (aW (aG L) L.length))/\Below V.heap.size V w'):=fun hg G c V hV=>by
  have h8:=(ng hg).2.1;have:=agB G c (aG L) V (by rw[<- CQ];exact hV) (by rw[iX];exact h8) (ajX hg);rwa [iX] at this
 generalize bh L=ge at *;generalize gM L=ms at *;clear h hl;go_enter Tryz.func72,Tryz.ntmps72;go_wp2_with fail
 refine(HR.o _ HF.o).ae ?_;rintro e w1 ⟨hb,⟨hg,G,rfl,hG,hU⟩ |⟨hg,v,rfl⟩⟩
 ·have pX:=hid hU;have HOG:=hid (HO.o hg G L.length);have HB:=hid hb;have Ev:=hid hg;clear hU hb hg HO HR;go_wp2_with fail
  refine(HOG.o _ pX.o).ae ?_;rintro e w2 ⟨x,rfl,hx,hb2⟩;obtain⟨d,cd,rfl,_⟩:=hx.ints;have bq:=hid (HB.o.trans (hb2.ae HB.o.size));have vu:=hid (pX.o.aa hb2 pX.o.lt);have p8:Hid ((iL (aW (aG L) L.length)).length=(aW (aG L) L.length).length):=bF _;clear hx hb2;by_cases hlt:(aW (aG L) L.length).length<L.length
  ·have HE:=hid (sG.o Ev.o hlt);(have wV:(iL (aW (aG L) L.length)).length<L.length:=by rw[p8.o];exact hlt);clear hlt;generalize (iL (aW (aG L) L.length)).length=m at *;go_wp2;go_ret2;exact⟨bq.o,.inr ⟨by rw[HE.o];decide,by rw[HE.o];rfl⟩⟩
  ·have HE:=hid (Ch.o Ev.o hlt);(have wV:¬(iL (aW (aG L) L.length)).length<L.length:=by rw[p8.o];exact hlt);clear hlt;generalize (iL (aW (aG L) L.length)).length=m at *;go_wp2;go_ret2;exact⟨bq.o,.inl ⟨HE.o,G,rfl,hG,vu.o⟩⟩
 ·have HE:=hid (Oo.o hg);have HB:=hid hb;clear hg hb;go_wp2;go_ret2;exact⟨HB.o,.inr ⟨by rw[HE.o];decide,by rw[HE.o];rfl⟩⟩
theorem ajV (a:Option Addr) (ca:Nat) (L:List (List Int)) (w:World) (h:dT w a L) (hl:∀l∈L,l.length<=140737488355328):
  Calls Tryz.prog 130 #[.slice a L.length ca] w fun e w'=>e=.returned (.int .i64 (bh L))/\Below w.heap.size w w':=by
 have HF:=hid h;have HR:=hid (fun (V:World) (hV:dT V a L)=>M4 a ca L V hV hl);generalize bh L=ge at *;clear h hl;go_enter Tryz.func130,Tryz.ntmps130;go_wp2_with fail
 refine(HR.o _ HF.o).ae ?_;rintro e w1 ⟨hb,⟨rfl,G,rfl,hG,hU⟩ |⟨hg,rfl⟩⟩
 ·clear hU;go_wp2;go_ret;exact⟨rfl,hb⟩
 ·clear hg;go_wp2;go_ret;exact⟨rfl,hb⟩
theorem ak2 {l1 l2:List Nat} (h1:i<l1.length) (h2:i<l2.length) (h:l1[i]≠l2[i]):decide (l1=l2)=false:=cj fun e=>h (by subst e;rfl)
theorem ak5 {l1 l2:List Nat} (hl:l1.length=l2.length) (h:∀i (h1:i<l1.length) (h2:i<l2.length),l1[i]=l2[i]):decide (l1=l2)=true:=bT (rC hl h)
theorem aeP (G1 G2 n c1 c2:Nat) (l1 l2:List Nat) (w:World) (e1:l1.length=n) (e2:l2.length=n) (hn:n<=5000) (h1:bW w G1 l1) (h2:bW w G2 l2):
  Calls Tryz.prog 194 #[.slice (some ⟨G1,0,none⟩) n c1,.slice (some ⟨G2,0,none⟩) n c2] w fun e w'=>e=.returned (.bool (decide (l1=l2)))/\Below w.heap.size w w':=by
 have H1:=hid h1;have H2:=hid h2;have HN:=hid (fun i (a:i<l1.length) (b:i<l2.length) h=>ak2 a b h);have HE:=hid (fun h=>ak5 (l1:=l1) (l2:=l2) (by omega) h);generalize decide (l1=l2)=r at *;clear h1 h2;go_enter Tryz.func194,Tryz.ntmps194;go_wp2_with fail
 go_loopw [13] (fun iv wr=>∃i:Nat,i<=n/\iv=.int .i64 i/\Hid (∀j (a:j<l1.length) (b:j<l2.length),j< i ->l1[j]=l2[j])/\Hid (Below w.heap.size w wr)) (fun iv _=>n - (intOf iv).toNat)
 case atStart=>exact⟨0,aX _,rfl,fun j _ _ h=>absurd h (by omega),aw _ _⟩
 case round=>
  obtain⟨i,hi,rfl,HI,HB⟩:=hrel;by_cases hlt:i<n
  ·have a1:=(H1.o.aa HB.o H1.o.lt).cell i (by omega);have a2:=(H2.o.aa HB.o H2.o.lt).cell i (by omega);have sq:=hid (HN.o i (by omega) (by omega))
   have HS:Hid (l1[i]'(by omega)=l2[i]'(by omega) ->∀j (a:j<l1.length) (b:j<l2.length),j<i+1 ->l1[j]=l2[j]):=fun h j a b hj=>by
    rcases cM j i with h3 |h3
    ·exact HI.o j a b h3
    ·obtain rfl:j=i:=by omega
     exact h
   generalize l1[i]'(by omega)=x at *;generalize l2[i]'(by omega)=y at *;go_upto_region 6 with fail
   go_quiet (fail)
   have HBn:=hid (below_drewN HB.o nq);clear a1 a2;generalize wr.drewN nq=w2 at *;by_cases rN:x=y
   ·have o8:=hid (HS.o rN);subst rN;go_wp2;go_roundw
    case rel=>exact⟨i+1,by omega,by go_num,o8,HBn⟩
    case measure=>simp[intOf];omega
   ·have HR:=hid (sq.o rN)
    have hb:((x:Int) !=(y:Int))=true:=by
     (have:¬(x:Int)=(y:Int):=by omega);simpa using this
    clear rN;go_wp2;go_ret;exact⟨by rw[HR.o];rfl,HBn.o⟩
  ·obtain rfl:i=n:=by omega
   have HR:=hid (HE.o fun j a b=>HI.o j a b (by omega));go_wp2;go_ret;exact⟨by rw[HR.o];rfl,HB.o⟩
def rK (L:List (List Int)):Bool:=gB L&&decide (gM L=(ju (aG L) L.length L.length).map aA)
theorem Fk (h:gB L=true):∀p∈aG L,∀u∈p,u<L.length:=by
 obtain⟨_,_,hr,_⟩:=ng h;intro p hp u hu;obtain⟨l,hl,rfl⟩:=aU.1 hp;obtain⟨x,hx,rfl⟩:=aU.1 hu;obtain⟨i,hi,rfl⟩:=jg hl;have h2:=kK (TD hr hi);obtain⟨j,hj,rfl⟩:=jg hx;have:=h2.each j hj;omega
theorem Fw (h:gB L=true):qT L.length (aG L):=by
 refine⟨iX L,Fk h,fun u hu=>?_⟩;obtain⟨_,_,_,hs⟩:=ng h;by_cases hl:u<L.length
 ·rw[H7 hl] at hu;rw[YF hl hu] at hs;cases hs
 ·rw[b6,ig (by rw[iX];omega)] at hu;simp at hu
theorem ae7 (a:Option Addr) (ca:Nat) (L:List (List Int)) (w:World) (h:dT w a L) (hl:∀l∈L,l.length<=140737488355328):
  Calls Tryz.prog 147 #[.slice a L.length ca] w fun e w'=>Below w.heap.size w w'/\
   ((rK L=true/\∃G,e=.returned (.tuple #[.slice (some ⟨G,0,none⟩) L.length L.length,.bool true])/\w.heap.size<=G/\bW w' G (gM L))∨(rK L=false/\e=.returned (.tuple #[.slice none 0 0,.bool false]))):=by
 have Ui:=hid (Xb a ca L w h hl);have cR:Hid (rK L=(gB L&&decide (gM L=(ju (aG L) L.length L.length).map aA))):=rfl
 have GU:Hid (gB L=true ->∀(G:Nat) (U:World),bW U G (gM L) ->Calls Tryz.prog 126 #[.slice (some ⟨G,0,none⟩) L.length L.length] U fun e w'=>e=.returned (.slice (some ⟨U.heap.size,0,none⟩) L.length L.length)/\bW w' U.heap.size ((ju (aG L) L.length L.length).map aA)/\Below U.heap.size U w'):=fun hg G U hU=>by
  rw[CQ] at hU;exact abW G L.length L.length (aG L) U (iX L) (ng hg).2.1 hU (Fk hg)
 have EA:Hid (gB L=true ->∀(G1 G2:Nat) (U:World),bW U G1 (gM L) ->bW U G2 ((ju (aG L) L.length L.length).map aA) ->Calls Tryz.prog 194 #[.slice (some ⟨G1,0,none⟩) L.length L.length,.slice (some ⟨G2,0,none⟩) L.length L.length] U fun e w'=>e=.returned (.bool (decide (gM L=(ju (aG L) L.length L.length).map aA)))/\Below U.heap.size U w'):=fun hg G1 G2 U h1 h2=>aeP G1 G2 L.length L.length L.length _ _ U (Y1 L) (by rw[cH,Tp]) (by have:=(ng hg).2.1;omega) h1 h2;generalize rK L=nb at *;generalize decide (gM L=(ju (aG L) L.length L.length).map aA)=dq at *;generalize (ju (aG L) L.length L.length).map aA=cm at *;clear h hl;go_enter Tryz.func147,Tryz.ntmps147;go_wp2_with fail
 refine Ui.o.ae ?_;rintro e w1 ⟨hb,⟨hg,G,rfl,hG,hU⟩ |⟨hg,v,rfl⟩⟩
 ·have HC:=hid (GU.o hg G);have HE:=hid (EA.o hg G);rw[hg] at cR;have HU:=hid hU;have HB:=hid hb;clear hU hb GU EA;go_wp2_with fail
  refine(HC.o _ HU.o).ae ?_;rintro e w2 ⟨rfl,hr2,hb2⟩;have vu:=hid (HU.o.aa hb2 HU.o.lt);have fW:=hid hr2;have bq:=hid (HB.o.trans (hb2.ae HB.o.size));clear hr2 hb2 HC;go_wp2_with fail
  refine(HE.o _ _ vu.o fW.o).ae ?_;rintro e w3 ⟨rfl,hb3⟩;have J4:=hid (vu.o.aa hb3 vu.o.lt);have fA:=hid (bq.o.trans (hb3.ae bq.o.size));clear hb3 HE;cases dq
  ·go_wp2;go_ret2;exact⟨fA.o,.inr ⟨cR.o,rfl⟩⟩
  ·go_wp2;go_ret2;exact⟨fA.o,.inl ⟨cR.o,G,rfl,hG,J4.o⟩⟩
 ·rw[hg] at cR;have HB:=hid hb;clear hb GU EA hg;go_wp2;go_ret2;exact⟨HB.o,.inr ⟨cR.o,rfl⟩⟩
theorem vh.cells {B:Nat} {v:Value} {l:List Nat} (h:vh w B v l):∃d cd,v=.slice d l.length cd/\∀k (hk:k<l.length),∃g o,d=some ⟨g,o,none⟩/\g<w.heap.size/\w.cell? ⟨g,o+k,none⟩=some (.int .u32 (l[k]:Nat)):=by
 rcases h.2 with ⟨h1,h2⟩ |⟨g,cap,cur,h1,h2,h3,h4,h5,h6,h7⟩
 ·have:l=[]:=EP.1 h2;subst this;exact⟨none,0,h1,fun k hk=>absurd hk (by simp)⟩
 ·refine⟨_,_,h1,fun j hj=>⟨g,0,rfl,(cV.1 h3).1,?_⟩⟩;rw[bI,bE w g j _ _ (0,0) h3]
  have e:cur[j]? =(cur.toList.take (l.length*1))[j]?:=by
   rw[rB,aB (by omega),vY]
  rw[e,h7,mS,ba hj];rfl
def FlR (L:List (List Int)) (e:Ending) (w':World):Prop:=
 (rK L=true/\∃d cd G,e=.returned (.tuple #[.slice d L.length cd,.slice (some ⟨G,0,none⟩) L.length L.length,.int .i64 0])/\aC w' d (iL (bj (aG L) L.length L.length).ord)/\dT w' (some ⟨G,0,none⟩) ((bj (aG L) L.length L.length).bag.map fL))∨
 (rK L=false/\e=.returned (.tuple #[.slice none 0 0,.slice none 0 0,.int .i64 11]))
theorem ajU (a:Option Addr) (ca:Nat) (L:List (List Int)) (w:World) (h:dT w a L) (hl:∀l∈L,l.length<=140737488355328):
  Calls Tryz.prog 94 #[.slice a L.length ca] w fun e w'=>FlR L e w'/\Below w.heap.size w w':=by
 have NY:=hid (ae7 a ca L w h hl)
 have cU:Hid (rK L=true ->∀(G:Nat) (U:World),bW U G (gM L) ->Calls Tryz.prog 148 #[.slice (some ⟨G,0,none⟩) L.length L.length] U fun e w'=>∃nv bv,e=.returned (.tuple #[nv,bv])/\lX U w' G nv bv (iL (bj (aG L) L.length L.length).ord) ((bj (aG L) L.length L.length).bag.map aA) ((bj (aG L) L.length L.length).nei.map aA)):=fun hn G U hU=>by
  have hg:gB L=true:=by
   rw[rK,fD] at hn;exact hn.1
  rw[CQ] at hU;exact ajO G L.length L.length (aG L) U (ng hg).1 (ng hg).2.1 hU (Fw hg)
 have xL:Hid (rK L=true ->(bj (aG L) L.length L.length).ord.length=L.length/\(bj (aG L) L.length L.length).bag.length=L.length/\L.length<=8/\∀p∈(bj (aG L) L.length L.length).bag,∀u∈p,u<8):=fun hn=>by
  have hg:gB L=true:=by
   rw[rK,fD] at hn;exact hn.1
  have h8:=(ng hg).2.1;have h1:=(ng hg).1;have hk:=fun k=>M9 (Fw hg) k;refine⟨(hk L.length).2.2.1,(hk L.length).2.2.2,h8,?_⟩
  have key:∀k,∀p∈(bj (aG L) L.length k).bag,∀u∈p,u<8:=fun k=>by
   induction k with
   |zero=>intro p hp;simp[bj] at hp
   |succ k ih=>
    intro p hp u hu;rw[bj] at hp;rcases bL.1 hp with hp |hp
    ·exact ih p hp u hu
    ·rw[eA.1 hp] at hu;rcases cT.1 hu with rfl |hu
     ·have:=abk (P:=(bj (aG L) L.length k).nei) h1 (hk k).2.1;omega
     ·have:=(hk k).1.at _ u hu;omega
  exact key _
 clear h hl;go_enter Tryz.func94,Tryz.ntmps94;go_wp2_with fail
 refine NY.o.ae ?_;rintro e w1 ⟨hb,⟨hn,G,rfl,hG,hU⟩ |⟨hn,rfl⟩⟩
 ·have HF:=hid (cU.o hn G _ hU);obtain⟨ho,hbl,h8,gF⟩:=xL.o hn;have HN:=hid hn;have HB:=hid hb;have GW:=hid gF;clear hU hb cU xL hn gF;generalize hS:bj (aG L) L.length L.length=S at *;have Ei:=hid hS;clear hS;go_wp2_with fail
  refine HF.o.ae ?_;rintro e w2 ⟨nv,bv,rfl,hX⟩;obtain⟨d,cd,rfl,hI⟩:=hX.nd.ints;obtain⟨d2,cd2,rfl,hC⟩:=hX.bg.cells;have bq:Hid (Below w.heap.size w w2):=⟨hX.grow.os.trans HB.o.os,hX.grow.tape.trans HB.o.tape,hX.grow.output.trans HB.o.output,aM HB.o.size hX.grow.size,fun k hk=>(hX.grow.block k (aR hk HB.o.size) (fun e=>by have:=k7 e;omega)).trans (HB.o.block k hk)⟩;have e1:(iL S.ord).length=L.length:=by rw[bF];exact ho
  have e2:(S.bag.map aA).length=L.length:=by rw[cH];exact hbl
  rw[e1,e2]
  have zP:=hid (Zf d2 cd2 S.bag w2 GW.o (by omega) (fun k hk=>by
   obtain⟨g,o,h1,h2,h3⟩:=hC k (by rw[cH];exact hk);exact⟨g,o,h1,h2,by rw[h3,nE]⟩))
  rw[hbl] at zP;have HI:=hid hI;clear hX hI hC e1 e2;go_wp2_with fail
  refine zP.o.ae ?_;rintro e w3 ⟨G3,rfl,MQ,hL3,hb3⟩;have q9:=hid (HI.o.aa hb3);have fO:=hid hL3;have fA:=hid (bq.o.trans (hb3.ae bq.o.size));clear hb3 hL3;go_wp2;refine dh (results_tmp3 rfl _ _ _) rfl ?_;exact⟨.inl ⟨HN.o,d,cd,G3,rfl,by rw[Ei.o];exact q9.o,by rw[Ei.o];exact fO.o⟩,fA.o⟩
 ·have HN:=hid hn;have HB:=hid hb;clear hn hb;go_wp2;refine dh (results_tmp3 rfl _ _ _) rfl ?_;exact⟨.inr ⟨HN.o,rfl⟩,HB.o⟩
def zq (t:TypeId) (w w':World):Prop:=∀(k:Nat) (c:Array Value) (fr:Nat×Nat),w.heap[k]? =some (Obj.cells c t fr) ->w'.heap[k]? =some (Obj.cells c t fr)
theorem zq.aa {t:TypeId} (hb:Below w.heap.size w w'):zq t w w':=fun k _ _ h=>(hb.block k (cV.1 h).1).trans h
theorem Fm {B:Nat} {e:TypeId} {s:Nat} {v:Value} (h:w.ownsRow B e s v n xs) (hk:zq e w w'):w'.ownsRow B e s v n xs:=by
 refine⟨h.1,?_⟩;rcases h.2 with h1 |⟨g,cap,cur,h1,h2,h3,h4⟩
 ·exact .inl h1
 ·exact .inr ⟨g,cap,cur,h1,h2,hk _ _ _ h3,h4⟩
theorem XU {B:Nat} {e:TypeId} {s:Nat} {v:Value} (h:w.ownsRow B e s v n xs):∀g,v.ownBlock=some g ->B<=g:=fun g hg=>by
 rcases h.2 with ⟨h1, -⟩ |⟨g',cap,cur,h1,h2,h3,h4⟩
 ·rw[h1] at hg;cases hg
 ·rw[h1] at hg;cases hg;exact h2
theorem ajW (h1:1<=L.length) (h2:L.length<=8) (h:∀i (hi:i<L.length),dZ L[i] L.length=true/\¬i∈af L[i]):gB L=true:=by
 rw[gB,bT (p:=1<=L.length/\L.length<=8) ⟨h1,h2⟩,YE fun i hi=>(h i hi).2]
 have:gR L L.length=true:=dN.2 fun l hl=>by
  obtain⟨i,hi,rfl⟩:=jg hl;exact(h i hi).1
 rw[this];rfl
theorem adk {o:Oper} {a:Act} (hgd:o.guard=none) (s x:Operand)
  (ho:o.op=.call {callee:=.builtin .append,args:= #[s,x],argTypes:= #[27,27]}) (base:Nat) (v:Value) (l:List Int) (f:Int) (hs:a.eval s=v) (hown:bD w base v l) (g:Nat) (hx:a.eval x=.slice (some ⟨g,0,none⟩) 1 1) (hg:w.cell? ⟨g,0,none⟩=some (.int .i64 f)) (hlen:l.length+1<=100000) (hbase:base<=w.heap.size)
  (h:∀v' w',bD w' base v' (l++[f]) ->w.grownBy w' v.ownBlock ->(v'.ownBlock=v.ownBlock∨∀k,v'.ownBlock=some k ->w.heap.size<=k) ->wpList Tryz.prog ops Q rest (a.put o.dst v') w'):wpList Tryz.prog ops Q (o::rest) a w:=by
 obtain⟨i0,bS,hz0,hz1,hz2⟩:=dK Tryz.infoInt
 have hnews:∀j u,[Value.int .i64 f][j]? =some u ->w.cell? ((⟨g,0,none⟩:Addr).add j)=some u:=fun j u hj=>by
  match j,hj with
  |0,hj=>cases hj;exact hg
  |j+1,hj=>simp at hj
 have wT:∀u∈[Value.int .i64 f],u.oneCell'=true:=fun u hu=>by
  simp only[cT,iT,oC] at hu;subst hu;rfl
 have hmax:l.length+1<=maxLen:=by unfold maxLen;omega
 obtain⟨v',w',hr,h2,h3, -⟩:=run_append_own (P:=Tryz.prog) w base 27 o.type 3 i0 (.int .i64 0) 1 8 Tryz.underlying27 bS hz0 hz1 hz2 rfl (by decide) v l.length _ hown ⟨g,0,none⟩ 1 1 [.int .i64 f] rfl hnews wT hmax (by omega) hbase
 have hnew:v'.ownBlock=v.ownBlock∨∀k,v'.ownBlock=some k ->w.heap.size<=k:=by
  rcases hown.2 with ⟨h4,h5⟩ |⟨g',cap,cur,h4,hbg,gD,yV,hcm,hcs,QX⟩
  ·right
   have e:=run_append_nil (P:=Tryz.prog) w 27 o.type 3 i0 (.int .i64 0) Tryz.underlying27 bS hz0 ⟨g,0,none⟩ 1 1 [.int .i64 f] (by rw[hz1];rfl) hnews (by decide) (by decide) (by rw[hz2];decide);rw[h4] at hr;rw[hr] at e;cases e;intro k hk;cases hk;exact ak _
  ·rw[h4] at hr;by_cases hroom:l.length+1<=cap
   ·left
    have e:=run_append_room (P:=Tryz.prog) w 27 o.type 3 i0 Tryz.underlying27 bS g' l.length cap cur gD ⟨g,0,none⟩ 1 1 [.int .i64 f] (by rw[hz1];rfl) hnews wT hroom (by rw[hz1,hcs];simp;omega);rw[hr] at e;cases e;rw[h4];rfl
   ·right
    have hown':=hown;rw[h4] at hown';have e:=run_append_grow (P:=Tryz.prog) w 27 o.type 3 i0 (.int .i64 0) Tryz.underlying27 bS hz0 ⟨g',0,none⟩ l.length cap (l.map (Value.int .i64)) (by rw[hz1];simp) (World.ownsRow.cells hown' rfl) ⟨g,0,none⟩ 1 1 [.int .i64 f] (by rw[hz1];rfl) hnews (by omega) (by omega) (KI (by omega) (by rw[hz2];omega));rw[hr] at e;cases e;intro k hk;cases hk;exact ak _
 refine wpList_plain hgd fun _ hK=>?_;unfold Oper.wp execOp;simp only[ho,resolve,invoke,builtin,Cp,vN,tY,Cx,fH,j5,hs,hx,hr];refine hK _ _ (h v' w' ?_ h3 hnew);rw[bD,bM,dY];exact h2
section
attribute [local go_sem] Oper.semAt_some
theorem Lg {P:Program} (w:World) (base:Nat) (t ty e:TypeId) (i:TypeInfo) (z:Value) (size bytes:Nat) (ht:P.underlying t=some (.slice e)) (hi:P.info? e=some i) (hz:i.zero=some z) (hsize:i.size=size) (hby:i.bytes=bytes) (hzs:z.cells.size=size) (hsz:0<size)
  (v:Value) (n:Nat) (xs:List Value) (hown:w.ownsRow base e size v n xs) (a:Addr) (m c:Nat) (news:List Value) (hl:news.length=m*size) (hnews:∀j u,news[j]? =some u ->w.cell? (a.add j)=some u) (h1:∀u∈news,u.oneCell'=true)
  (h63:n+m<=maxLen) (hbytes:(n+m)*bytes<=140737488355328) (hbase:base<=w.heap.size) (hm:0<m):
  ∃v' w',(Builtin.append_ #[t,t] ty #[v,.slice (some a) m c]).run P w=.ok v' w'/\w'.ownsRow base e size v' (n+m) (xs++news)/\w.grownBy w' v.ownBlock/\(v'.ownBlock=v.ownBlock∨∀k,v'.ownBlock=some k ->w.heap.size<=k):=by
 obtain⟨v',w',hr,h2,h3, -⟩:=run_append_own (P:=P) w base t ty e i z size bytes ht hi hz hsize hby hzs hsz v n xs hown a m c news hl hnews h1 h63 hbytes hbase;refine⟨v',w',hr,h2,h3,?_⟩;have am8:n+m<=9223372036854775807:=by simp only[maxLen] at h63;omega
 subst hsize;subst hby
 rcases hown.2 with ⟨h4,h5⟩ |⟨g',cap,cur,h4,hbg,gD,yV,hcm,hcs,QX⟩
 ·right
  have e':=run_append_nil (P:=P) w t ty e i z ht hi hz a m c news hl hnews hm (by omega) (by
   have hb:=hbytes;rw[h5,bI] at hb;omega)
  rw[h4] at hr;rw[hr] at e';cases e';intro k hk;cases hk;exact ak _
 ·rw[h4] at hr;by_cases hroom:n+m<=cap
  ·left
   (have rQ:n*i.size+news.length<=cur.size:=by rw[hl,hcs, <- fC];exact jD _ hroom);have e':=run_append_room (P:=P) w t ty e i ht hi g' n cap cur gD a m c news hl hnews h1 hroom rQ;rw[hr] at e';cases e';rw[h4];rfl
  ·right
   have hown':=hown;rw[h4] at hown';have e':=run_append_grow (P:=P) w t ty e i z ht hi hz ⟨g',0,none⟩ n cap xs hown'.1 (World.ownsRow.cells hown' rfl) a m c news hl hnews (by omega) (by omega) (KI (by omega) hbytes);rw[hr] at e';cases e';intro k hk;cases hk;exact ak _
theorem adn {F:Fence} {P:Program} (w:World) {o:Oper} {a:Act}
  (hg:o.guard=none) (s x:Operand) (t:TypeId) (hop:o.op=Op.call {callee:=Callee.builtin Builtin.append,args:= #[s,x],argTypes:= #[t,t]})
  (base:Nat) (e:TypeId) (i:TypeInfo) (z:Value) (size bytes:Nat) (h1:P.underlying t=some (.slice e)) (h2:P.info? e=some i) (h3:i.zero=some z) (h4:i.size=size) (h5:i.bytes=bytes) (h6:z.cells.size=size) (h7:0<size)
  (v:Value) (k:Nat) (xs:List Value) (hs:a.eval s=v) (hown:w.ownsRow base e size v k xs) (ad:Addr) (m c:Nat) (news:List Value) (hx:a.eval x=.slice (some ad) m c) (hn:news.length=m*size)
  (hc:∀j u,news[j]? =some u ->w.cell? (ad.add j)=some u) (h1c:∀u∈news,u.oneCell'=true) (b1:k+m<=maxLen) (b2:(k+m)*bytes<=140737488355328) (b3:base<=w.heap.size) (hm:0<m)
  (hK:∀v' w',w'.ownsRow base e size v' (k+m) (xs++news) ->w.grownBy w' v.ownBlock ->(v'.ownBlock=v.ownBlock∨∀k,v'.ownBlock=some k ->w.heap.size<=k) ->wpListIn F n P ops Q rest (a.put o.dst v') w'):
  wpListIn F n P ops Q (o::rest) a w:=by
 refine wpListIn_plain hg fun K hK'=>?_;obtain⟨v',w',hrun,r1,r2,r3⟩:=Lg (P:=P) w base t o.type e i z size bytes h1 h2 h3 h4 h5 h6 h7 v k xs hown ad m c news hn hc h1c b1 b2 b3 hm;unfold Oper.wpIn;refine⟨?_,?_⟩
 ·simp[Oper.about,hop,resolve,Target.leads,vN]
 ·rw[Oper.semAt_plain F _ _ (by rw[hop];intro c hc';cases hc')];simp[execOp,hop,resolve,invoke,builtin,hs,hx,hrun,Result.andThen];exact hK' _ _ (hK v' w' r1 r2 r3)
def pU:List (Nat×Bool) ->List Value
 |[]=>[]
 |p::l=>.int .i64 (p.1:Nat)::.bool p.2::pU l
theorem Tl:∀l,(pU l).length=l.length*2
 |[]=>rfl
 |p::l=>by
  show (pU l).length+1+1=(l.length+1)*2;rw[Tl l];omega
theorem Tm (m:List (Nat×Bool)):∀l,pU (l++m)=pU l++pU m
 |[]=>rfl
 |q::l=>by
  show _::_::pU (l++m)=_::_::(pU l++pU m);rw[Tm m l]
def sj (w:World) (B:Nat) (v:Value) (l:List (Nat×Bool)):Prop:=w.ownsRow B 168 2 v l.length (pU l)
theorem Tryz.infoComing:(Tryz.prog.info? 168).map (fun i=>(i.zero,i.size,i.bytes))=some (some (.agg #[.int .i64 0,.bool false]),2,16):=by kernel_rfl
def Cj (w V:World) (lv v:Value):Prop:=w.grownBy V lv.ownBlock/\(v.ownBlock=lv.ownBlock∨∀g,v.ownBlock=some g ->w.heap.size<=g)
theorem agn {β:Type} {row:Option Nat} {B:Nat} (hB:w.heap.size<=B):OwnFrom B (fun (_:β) W=>w.grownBy W row):=fun _ W W' r hs hg hr=>⟨hg.os.trans hs.os,hg.tape.trans hs.tape,hg.output.trans hs.output,aM hs.size hg.size,fun k hk hne=>(hg.block k (aR hk hs.size) (fun e=>by
 have:=(hr k e.symm).1;omega)).trans (hs.block k hk hne)⟩
theorem adN (w:World) (a b:Value) (t:TypeId):∀j u,[a,b][j]? =some u ->(w.alloc (.cells #[a,b] t)).cell? ((⟨w.heap.size,0,none⟩:Addr).add j)=some u:=fun j u hj=>by
 have h:=fP w (.cells #[a,b] t);match j,hj with
 |0,hj=>cases hj;exact(bE _ w.heap.size 0 _ _ (0,0) h).trans rfl
 |1,hj=>cases hj;exact(bE _ w.heap.size 1 _ _ (0,0) h).trans rfl
 |j+2,hj=>simp at hj
theorem Cj.more {lv v:Value} {tmp:Obj} (h:Cj w V lv v) (hg:(V.alloc tmp).grownBy V' v.ownBlock) (hn:v'.ownBlock=v.ownBlock∨∀k,v'.ownBlock=some k ->(V.alloc tmp).heap.size<=k) (b j:Nat) (hb:w.heap.size<=b) (y:Value):Cj w (V'.setCell ⟨b,j,none⟩ y) lv v':=by
 have hs:=h.1.size;have ha:V.heap.size<=(V.alloc tmp).heap.size:=((aw V.heap.size V).alloc (ak _) tmp).size;refine⟨⟨hg.os.trans h.1.os,hg.tape.trans h.1.tape,hg.output.trans h.1.output,aM (aM hs ha) (aM hg.size (by simp)),fun k hk hne=>?_⟩,?_⟩
 ·refine(iU V' ⟨b,j,none⟩ y k (by show k≠b;omega)).trans ((hg.block k (by omega) fun e=>?_).trans ((((aw V.heap.size V).alloc (ak _) tmp).block k (by omega)).trans (h.1.block k hk hne)));rcases h.2 with h2 |h2
  ·exact hne (by rw[e,h2])
  ·have:=h2 k e.symm;omega
 ·rcases hn with hn |hn
  ·rcases h.2 with h2 |h2
   ·exact .inl (hn.trans h2)
   ·exact .inr fun g gD=>h2 g (by rw[<- hn];exact gD)
  ·exact .inr fun g gD=>by
    have:=hn g gD;omega
theorem Th (B:Nat) (lv:Value) (l:List (Nat×Bool)) (s:List Nat) (c:Bool) (w:World) (hs:∀u∈s,u<8) (hl:sj w B lv l) (dJ:l.length<=1000) (hB:B<=w.heap.size):
  Calls Tryz.prog 128 #[lv,.int .u32 (aA s:Nat),.bool c] w fun e w'=>∃v,e=.returned v/\sj w' B v (l++(bw s 8).map fun u=>(u,c))/\Cj w w' lv v:=by
 refine(fZ (n:=6)).1 ?_;obtain⟨i0,hi,hz0,hz1,hz2⟩:=dK Tryz.infoComing
 obtain⟨dl,nl,cl,rfl⟩:∃d n c,lv=.slice d n c:=by
  rcases hl.2 with ⟨h1, -⟩ |⟨g,cap,cur,h1, -⟩
  ·exact⟨_,_,_,h1⟩
  ·exact⟨_,_,_,h1⟩
 refine rq Tryz.func128 rfl trivial ?_ rfl;simp only[Tryz.ntmps128,k9,di,jG,Nat.reduceAdd,Nat.reduceSub,lh,lg,ld,kF,gi,eC];have HL:=hid hl;clear hl;gi_wp2_with fail
 have bO:=aZ w 165 (.slice dl nl cl);have bO2:=bO.alloc (.cells #[.bool c] 4);have bC:=aZ (w.alloc (.cells #[.slice dl nl cl] 165)) 4 (.bool c);have uT:=(aw w.heap.size w).alloc (ak _) (.cells #[.slice dl nl cl] 165);have AV:(w.alloc (.cells #[.slice dl nl cl] 165)).heap.size=w.heap.size+1:=by simp
 have F6:=uT.alloc uT.size (.cells #[.bool c] 4);rw[AV] at bC;have hg0:w.grownBy ((w.alloc (.cells #[.slice dl nl cl] 165)).alloc (.cells #[.bool c] 4)) (Value.slice dl nl cl).ownBlock:=⟨F6.os,F6.tape,F6.output,F6.size,fun k hk _=>F6.block k hk⟩
 refine Am (by omega) s hs rfl rfl
  (fun k V=>(∃v,Boxed V w.heap.size 165 v/\V.ownsRow B 168 2 v (l++(bw s k).map fun u=>(u,c)).length (pU (l++(bw s k).map fun u=>(u,c)))/\(v.ownBlock=(Value.slice dl nl cl).ownBlock∨∀g,v.ownBlock=some g ->w.heap.size<=g))/\Boxed V (w.heap.size+1) 4 (.bool c)/\w.grownBy V (Value.slice dl nl cl).ownBlock)
  (eG (fB (holdsRow_own B w.heap.size 165 168 2 (fun k:Nat=>(l++(bw s k).map fun u=>(u,c)).length) (fun k=>pU (l++(bw s k).map fun u=>(u,c))) (fun _ v=>v.ownBlock=(Value.slice dl nl cl).ownBlock∨∀g,v.ownBlock=some g ->w.heap.size<=g)) _) (eG (fB (iH (w.heap.size+1) 4 (fun _:Nat=>.bool c)) _) (agn F6.size)))
  ⟨⟨_,bO2,by simpa [bw] using (Co (Co HL.o _) _),.inl rfl⟩,bC,hg0⟩
  (fun k=> {tmps:= #[.slice dl nl cl,.int .u32 (aA s:Nat),.bool c,.pointer (some ⟨w.heap.size,0,none⟩),undef,.pointer (some ⟨w.heap.size+1,0,none⟩),.slice none 0 0,.int .i64 (k:Nat),.int .u32 (aA s:Nat),.func (.func 144) #[.int .u32 (aA s:Nat)] #[],.int .i64 (k:Nat),undef,undef,undef,undef,undef,undef,undef],defers:=[]}) ?assign ?body ?skip ?done
 case assign=>
  intro l k W K hK;gi_wp2
  exact hK
 case body=>
  rintro r k V hk hm ⟨⟨v,hv,hrow,Q3⟩,Md,hgr⟩;have hc:=hv.cell;have hcc:=Md.cell;have hm8:=jL s k;have hlen:(l++(bw s k).map fun u=>(u,c)).length<=1008:=by rw[bM,cH];omega
  have hBV:B<=V.heap.size:=aM hB hgr.size;have HG:Cj w V (Value.slice dl nl cl) v:=⟨hgr,Q3⟩;generalize Ss:(l++(bw s k).map fun u=>(u,c))=LL at *;gi_wp2_with (gi_at_builtin;refine adn _ rfl _ _ 165 rfl B 168 i0 (.agg #[.int .i64 0,.bool false]) 2 16 Tryz.underlying165 hi hz0 hz1 hz2 rfl (by decide) _ _ _ rfl (hrow.alloc _) ⟨V.heap.size,0,none⟩ 1 1 [.int .i64 (k:Nat),.bool c] rfl rfl (adN _ _ _ _) (by simp[Value.oneCell']) (by unfold maxLen;omega) (by omega) (by simp;omega) (by decide) ?_;intro v' w3 hown' hgrow hnew;obtain⟨g',cap',rfl⟩:=ownsRow_succ hown';obtain⟨lD,hv2,hr2,hk2,hb2⟩:=hv.appended (by decide) hrow hBV hB hown' hgrow;have hc1:=lD.cell;have Dr:=lD.frozen)
  have aiF:Boxed w3 (w.heap.size+1) 4 (.bool c):=(Md.alloc _).kept hgrow (Md.not_row (by decide) hrow);have F2:=HG.more hgrow hnew w.heap.size 0 (ak _) (.slice (some ⟨g',0,none⟩) (LL.length+1) cap');have eLL:(l++(bw s (k+1)).map fun u=>(u,c))=LL++[(k,c)]:=by rw[LZ hm,dY, <- jh,Ss];rfl
  refine⟨hk2.from _,⟨⟨_,hv2,?_,F2.2⟩,iG aiF w.heap.size 0 _ (by omega),F2.1⟩⟩;rw[eLL,bM,Tm];exact hr2
 case skip=>
  rintro k V hk hm h;rwa [Ii hm]
 case done=>
  rintro D V hD ⟨⟨v,hv,hrow,Q3⟩,Md,hgr⟩ hK;have hc:=hv.cell;gi_wp2
  refine⟨by simp,.inl ⟨_,_,rfl,x5 hK,?_⟩⟩;refine⟨_,x6 rfl _ _ _,v,rfl,ownsRow_putObj hrow _ hK rfl,⟨hgr.os,hgr.tape,hgr.output,aM hgr.size (by simp),fun k hk hne=>(tX (by simp at hD;omega)).trans (hgr.block k hk hne)⟩,Q3⟩
end
def CR (c:Nat):Bool:=decide (97<=c/\c<=122)
def JB (c:Nat):Bool:=decide (48<=c/\c<=57)
def sN (c:Nat):Bool:=CR c ||JB c ||decide (c=95)
def yr (s:ByteArray):Bool:=(s.data.toList.all fun c=>sN c.toNat)&&CR (s.data.toList.headD 0).toNat
def isVar (s:ByteArray):Bool:=s.toList==[118,97,114]
def Io (s:ByteArray):Bool:=s.toList==[101,108,115,101]
def AB (s:ByteArray):Bool:=decide (s.size<=12)&&!isVar s&&!Io s&&yr s
theorem YM (c:Nat) (w:World):Calls Tryz.prog 247 #[.int .u8 (c:Nat)] w fun e w'=>e=.returned (.bool (CR c))/\w'=w:=by
 rw[CR];by_cases h1:97<=c
 ·have HE:Hid (decide ((c:Int)<=122)=decide (97<=c/\c<=122)):=zX.2 ⟨fun h=>⟨h1,by omega⟩,fun h=>by omega⟩;have e1:(97:Int)<=(c:Int):=by omega
  go_enter Tryz.func247,Tryz.ntmps247;go_wp2;go_ret;exact⟨by rw[<- HE.o];rfl,rfl⟩
 ·have HE:Hid (decide (97<=c/\c<=122)=false):=cj fun h=>h1 h.1;rw[HE.o];have e1:(c:Int)<97:=by omega
  clear h1;go_enter Tryz.func247,Tryz.ntmps247;go_wp2;go_ret;exact⟨rfl,rfl⟩
theorem ahm (c:Nat) (w:World):Calls Tryz.prog 257 #[.int .u8 (c:Nat)] w fun e w'=>e=.returned (.bool (JB c))/\w'=w:=by
 rw[JB];by_cases h1:48<=c
 ·have HE:Hid (decide ((c:Int)<=57)=decide (48<=c/\c<=57)):=zX.2 ⟨fun h=>⟨h1,by omega⟩,fun h=>by omega⟩;have e1:(48:Int)<=(c:Int):=by omega
  go_enter Tryz.func257,Tryz.ntmps257;go_wp2;go_ret;exact⟨by rw[<- HE.o];rfl,rfl⟩
 ·have HE:Hid (decide (48<=c/\c<=57)=false):=cj fun h=>h1 h.1;rw[HE.o];have e1:(c:Int)<48:=by omega
  clear h1;go_enter Tryz.func257,Tryz.ntmps257;go_wp2;go_ret;exact⟨rfl,rfl⟩
theorem ahk (c:Nat) (w:World):Calls Tryz.prog 246 #[.int .u8 (c:Nat)] w fun e w'=>e=.returned (.bool (sN c))/\w'=w:=by
 have HW:Hid (sN c=(CR c ||JB c ||decide (c=95))):=rfl;have HL:=hid (YM c);have HF:=hid (ahm c);generalize sN c=r at *;go_enter Tryz.func246,Tryz.ntmps246;go_wp2_with fail
 refine(HL.o _).ae ?_;rintro e w1 ⟨rfl,rfl⟩;cases hl:CR c with
 |true=>
  rw[hl] at HW;have HE:Hid (r=true):=HW.o;clear hl;go_wp2;go_ret;exact⟨by rw[HE.o];rfl,rfl⟩
 |false=>
  rw[hl] at HW;go_wp2_with fail
  refine(HF.o _).ae ?_;rintro e w2 ⟨rfl,rfl⟩;cases hf:JB c with
  |true=>
   rw[hf] at HW;have HE:Hid (r=true):=HW.o;clear hl hf;go_wp2;go_ret;exact⟨by rw[HE.o];rfl,rfl⟩
  |false=>
   rw[hf] at HW
   have HE:Hid (r=((c:Int)==95)):=by
    show _=_;rw[HW.o,Bool.false_or,Bool.false_or,ug,dQ,zY];omega
   clear hl hf;go_wp2;go_ret;exact⟨by rw[HE.o];rfl,rfl⟩
theorem adZ {s:ByteArray} (h:k<s.size):s.data.toList.take (k+1)=s.data.toList.take k++[s[k]]:=by
 have h':k<s.data.toList.length:=by simpa using h
 rw[gh h'];rfl
theorem adv {s:ByteArray} (h:k<s.size) (e:sN s[k].toNat=false):yr s=false:=by
 have hm:s[k]∈s.data.toList:=by
  have:s.data.toList[k]'(by simpa using h)=s[k]:=rfl;rw[<- this];exact bY _
 have:(s.data.toList.all fun c=>sN c.toNat)=false:=by
  rw[Hg];exact⟨_,hm,by rw[e];decide⟩
 rw[yr,this];rfl
theorem ajk {s:ByteArray} (h:0<s.size):s.data.toList.headD 0=s[0]:=by
 obtain⟨⟨l⟩⟩:=s;cases l with
 |nil=>exact absurd h (by decide)
 |cons c l=>rfl
theorem adt {s:ByteArray} (h:0<s.size) (e:(s.data.toList.take s.size).all (fun c=>sN c.toNat)=true):yr s=CR s[0].toNat:=by
 have e2:s.data.toList.all (fun c=>sN c.toNat)=true:=by
  rwa [jF (by simp)] at e
 rw[yr,e2,Ak,ajk h]
theorem ahj (s:ByteArray) (w:World) (hs:s.size<=140737488355328):
  Calls Tryz.prog 221 #[.string s] w fun e w'=>e=.returned (.bool (AB s))/\w'=w:=by
 have HN:Hid (AB s=(decide (s.size<=12)&&!isVar s&&!Io s&&yr s)):=rfl;have T1:=hid (fun k h e=>adv (s:=s) (k:=k) h e);have HWF:=hid (fun h e=>adt (s:=s) h e)
 have HW0:Hid (s.size=0 ->yr s=false):=fun h=>by
  have:s.data.toList=[]:=EP.1 (by rw[CC];exact h);rw[yr,this];rfl
 generalize AB s=nb at *;generalize yr s=wb at *;by_cases h0:s.size=0
 ·have HE:Hid (nb=false):=by show _=_;rw[HN.o,HW0.o h0];simp
  have e1:(s.size:Int)<1:=by omega
  clear h0 HN;go_enter Tryz.func221,Tryz.ntmps221;go_wp2;go_ret;exact⟨by rw[HE.o];rfl,rfl⟩
 by_cases zi:12<s.size
 ·have HE:Hid (nb=false):=by show _=_;rw[HN.o,cj (show ¬s.size<=12 by omega)];rfl
  have e1:(1:Int)<=(s.size:Int):=by omega
  have e2:(12:Int)<(s.size:Int):=by omega
  clear h0 HN;go_enter Tryz.func221,Tryz.ntmps221;go_wp2;go_ret;exact⟨by rw[HE.o];rfl,rfl⟩
 have e1:(1:Int)<=(s.size:Int):=by omega
 have e2:(s.size:Int)<=12:=by omega
 cases hv:isVar s with
 |true=>
  have HE:Hid (nb=false):=by show _=_;rw[HN.o,hv];simp
  rw[isVar] at hv;clear HN h0 zi;go_enter Tryz.func221,Tryz.ntmps221;go_wp2;go_ret;exact⟨by rw[HE.o];rfl,rfl⟩
 |false=>
  cases he:Io s with
  |true=>
   (have HE:Hid (nb=false):=by show _=_;rw[HN.o,he];simp);rw[isVar] at hv;rw[Io] at he;clear HN h0 zi;go_enter Tryz.func221,Tryz.ntmps221;go_wp2;go_ret;exact⟨by rw[HE.o];rfl,rfl⟩
  |false=>
   (have HE:Hid (nb=wb):=by show _=_;rw[HN.o,hv,he,bT (show s.size<=12 by omega)];simp);rw[isVar] at hv;rw[Io] at he;(have h1:0<s.size:=by omega);clear HN h0 zi;go_enter Tryz.func221,Tryz.ntmps221;go_wp2_with fail
   go_loopw [22] (fun iv wr=>∃k:Nat,k<=s.size/\iv=.int .i64 k/\Hid ((s.data.toList.take k).all (fun c=>sN c.toNat)=true)/\wr=w) (fun iv _=>s.size - (intOf iv).toNat)
   case atStart=>exact⟨0,aX _,rfl,rfl,rfl⟩
   case round=>
    obtain⟨k,hk,rfl,HA,rfl⟩:=hrel;by_cases hlt:k<s.size
    ·have HB:=hid (T1.o k hlt)
     have HT:Hid (sN s[k].toNat=true ->(s.data.toList.take (k+1)).all (fun c=>sN c.toNat)=true):=fun h=>by
      rw[adZ hlt,List.all_append,HA.o];simp[h]
     go_wp2_with fail
     refine(ahk s[k].toNat _).ae ?_;rintro e w1 ⟨rfl,rfl⟩;cases hw:sN s[k].toNat with
     |false=>
      have HF:=hid (HB.o hw);clear hw;go_wp2;go_ret;exact⟨by rw[HE.o,HF.o];rfl,rfl⟩
     |true=>
      have HS:=hid (HT.o hw);clear hw;go_wp2;go_roundw
      case rel=>exact⟨k+1,by omega,by go_num,HS,trivial⟩
      case measure=>simp[intOf];omega
    ·obtain rfl:k=s.size:=by omega
     have HF:=hid (HWF.o h1 HA.o);go_wp2_with fail
     refine(YM s[0].toNat _).ae ?_;rintro e w1 ⟨rfl,rfl⟩;go_wp2;go_ret;exact⟨by rw[HE.o,HF.o];rfl,rfl⟩
def qQ (w:World) (a:Option Addr) (l:List ByteArray):Prop:=∀k (h:k<l.length),∃g o,a=some ⟨g,o,none⟩/\g<w.heap.size/\w.cell? ⟨g,o+k,none⟩=some (.string l[k])
theorem qQ.aa {l:List ByteArray} (h:qQ w a l) (hb:Below w.heap.size w w'):qQ w' a l:=fun k hk=>by
 obtain⟨g,o,h1,h2,h3⟩:=h k hk;exact⟨g,o,h1,aR h2 hb.size,(hb.cell (p:=⟨g,o+k,none⟩) h2).trans h3⟩
theorem qQ.take {l:List ByteArray} (h:qQ w a l) (i:Nat):qQ w a (l.take i):=fun k hk=>by
 have fN:k<l.length:=by rw[eB] at hk;omega
 obtain⟨g,o,h1,h2,h3⟩:=h k fN;refine⟨g,o,h1,h2,?_⟩;rw[Af];exact h3
def iE (f:Nat ->Int):Nat ->Int
 |0=>0
 |n+1=>if iE f n=0 then f n else iE f n
theorem zj {f:Nat ->Int}:∀ {n:Nat},(∀j,j< n ->f j=0) ->iE f n=0
 |0,_=>rfl
 |n+1,h=>by rw[iE,aB (zj fun j hj=>h j (by omega)),h n (by omega)]
theorem Jz {f:Nat ->Int} (h:∀j,j< i ->f j=0) (hi:f i≠0):∀ {n:Nat},i< n ->iE f n=f i
 |0,hn=>by omega
 |n+1,hn=>by
  rcases cM i n with h1 |h1
  ·rw[iE,Jz h hi h1,aD hi]
  ·obtain rfl:i=n:=by omega
   rw[iE,aB (zj h)]
theorem O2 {f:Nat ->Int} (h:∀j,j< i ->f j=0) (hi:f i=0):∀j,j<i+1 ->f j=0:=fun j hj=>by
 rcases cM j i with h1 |h1
 ·exact h j h1
 ·obtain rfl:j=i:=by omega
  exact hi
def yK (l:List ByteArray) (v:ByteArray):Bool:=l.any fun x=>decide (x=v)
def um (l:List ByteArray) (i:Nat):Int:=if AB (l.getD i ⟨#[]⟩)=true then(if yK (l.take i) (l.getD i ⟨#[]⟩)=true then 7 else 0) else 4
def ml (l:List ByteArray):Int:=iE (um l) l.length
theorem SU {l:List ByteArray} (h:i<l.length):l.getD i ⟨#[]⟩=l[i]:=by rw[b6,ba h];rfl
def yG (l:List ByteArray) (v:ByteArray):Int:=match l.findIdx? (fun x=>decide (x=v)) with
 |some i=>(i:Int)
 |none=> -1
theorem alE {a b:ByteArray}:(a.toList==b.toList)=decide (a=b):=by
 rw[ug,zY,dQ];constructor
 ·intro h;rw[toList_data,toList_data] at h;obtain⟨⟨x⟩⟩:=a;obtain⟨⟨y⟩⟩:=b;simp only at h;rw[h]
 ·intro h;rw[h]
theorem afY {l:List ByteArray} {v:ByteArray} (h:i<l.length) (e:l[i]=v) (hn:∀j (hj:j<l.length),j< i ->¬l[j]=v):yG l v=i:=by
 have:l.findIdx? (fun x=>decide (x=v))=some i:=List.findIdx?_eq_some_iff_getElem.2 ⟨h,bT e,fun j hj=>by
  rw[dQ];exact hn j (by omega) hj⟩
 rw[yG,this]
theorem afW {l:List ByteArray} {v:ByteArray} (hn:∀j (hj:j<l.length),¬l[j]=v):yG l v= -1:=by
 have:l.findIdx? (fun x=>decide (x=v))=none:=List.findIdx?_eq_none_iff.2 fun x hx=>by
  obtain⟨j,hj,rfl⟩:=jg hx;exact cj (hn j hj)
 rw[yG,this]
theorem afX (l:List ByteArray) (v:ByteArray):decide (0<=yG l v)=yK l v:=by
 rw[ug,dQ,yK,Ai,yG];cases e:l.findIdx? (fun x=>decide (x=v)) with
 |some i=>
  obtain⟨h,hp,_⟩:=List.findIdx?_eq_some_iff_getElem.1 e;exact⟨fun _=>⟨l[i],bY h,hp⟩,fun _=>by show (0:Int)<=(i:Int);omega⟩
 |none=>
  have:=List.findIdx?_eq_none_iff.1 e;exact⟨fun h=>by exact absurd (show (0:Int)<= -1 from h) (by decide),fun ⟨x,hx,hp⟩=>by rw[this x hx] at hp;cases hp⟩
theorem aew (a:Option Addr) (ca:Nat) (l:List ByteArray) (v:ByteArray) (w:World) (h:qQ w a l) (hn:l.length<=140737488355328):
  Calls Tryz.prog 248 #[.slice a l.length ca,.string v] w fun e w'=>e=.returned (.int .i64 (yG l v))/\w'=w:=by
 have HF:=hid h;have HP:=hid (fun i h e hn=>afY (l:=l) (v:=v) (i:=i) h e hn);have HQ:=hid (fun hn=>afW (l:=l) (v:=v) hn);generalize yG l v=r at *;clear h;go_enter Tryz.func248,Tryz.ntmps248;go_wp2_with fail
 go_loopw [8] (fun iv wr=>∃i:Nat,i<=l.length/\iv=.int .i64 i/\Hid (∀j (hj:j<l.length),j< i ->¬l[j]=v)/\wr=w) (fun iv _=>l.length - (intOf iv).toNat)
 case atStart=>exact⟨0,aX _,rfl,fun j _ h=>absurd h (by omega),rfl⟩
 case round=>
  obtain⟨i,hi,rfl,HN,rfl⟩:=hrel;by_cases hlt:i<l.length
  ·obtain⟨g,o,rfl,hg,c0⟩:=HF.o i hlt;have zD:=hid (fun e=>HP.o i hlt e HN.o)
   have sq:Hid (¬l[i]=v ->∀j (hj:j<l.length),j<i+1 ->¬l[j]=v):=fun h j hj pL=>by
    rcases cM j i with h2 |h2
    ·exact HN.o j hj h2
    ·obtain rfl:j=i:=by omega
     exact h
   generalize l[i]=x at *;by_cases e:x=v
   ·have HE:=hid (zD.o e);subst e;go_wp2;go_ret;exact⟨by rw[HE.o];rfl,rfl⟩
   ·have HE:=hid (sq.o e);(have e1:(v.toList==x.toList)=false:=by rw[alE];exact cj fun h=>e h.symm);clear e;go_wp2;go_roundw
    case rel=>exact⟨i+1,by omega,by go_num,HE,trivial⟩
    case measure=>simp[intOf];omega
  ·obtain rfl:i=l.length:=by omega
   have HE:=hid (HQ.o fun j hj=>HN.o j hj hj);go_wp2;go_ret;exact⟨by rw[HE.o];rfl,rfl⟩
theorem aey (a:Option Addr) (ca:Nat) (l:List ByteArray) (v:ByteArray) (w:World) (h:qQ w a l) (hn:l.length<=140737488355328):
  Calls Tryz.prog 222 #[.slice a l.length ca,.string v] w fun e w'=>e=.returned (.bool (yK l v))/\w'=w:=by
 have HF:=hid h;have HI:=hid (fun (V:World) (hV:qQ V a l)=>aew a ca l v V hV hn);have HM:=hid (afX l v);generalize yK l v=m at *;generalize yG l v=r at *;clear h;go_enter Tryz.func222,Tryz.ntmps222;go_wp2_with fail
 refine(HI.o _ HF.o).ae ?_;rintro e w1 ⟨rfl,rfl⟩;go_wp2;go_ret;exact⟨by rw[<- HM.o];rfl,rfl⟩
theorem ahg {l:List ByteArray} (h:i<l.length) (e:AB l[i]=false):um l i=4:=by rw[um,SU h,e,aD (by decide)]
theorem ahi {l:List ByteArray} (h:i<l.length) (e:AB l[i]=true) (e':yK (l.take i) l[i]=true):um l i=7:=by rw[um,SU h,e,aB rfl,e',aB rfl]
theorem ahh {l:List ByteArray} (h:i<l.length) (e:AB l[i]=true) (e':yK (l.take i) l[i]=false):um l i=0:=by rw[um,SU h,e,aB rfl,e',aD (by decide)]
theorem abY (a:Option Addr) (ca:Nat) (l:List ByteArray) (w:World) (h:qQ w a l) (hn:l.length<=140737488355328) (hc:l.length<=ca) (hs:∀s∈l,s.size<=140737488355328):
  Calls Tryz.prog 174 #[.slice a l.length ca] w fun e w'=>e=.returned (.int .i64 (ml l))/\w'=w:=by
 have HF:=hid h;have iP:=hid hs;have HA:Hid (∀i,i<l.length ->(∀j,j< i ->um l j=0) ->∀k,um l i=k ->k≠0 ->ml l=k):=fun i hi hz k hk hk0=>by rw[ml,Jz hz (by rw[hk];exact hk0) hi,hk]
 have HZ:Hid ((∀j,j<l.length ->um l j=0) ->ml l=0):=fun h=>zj h;have HW:=hid (fun i h e=>ahg (l:=l) (i:=i) h e);have HD:=hid (fun i h e e'=>ahi (l:=l) (i:=i) h e e');have HO:=hid (fun i h e e'=>ahh (l:=l) (i:=i) h e e');generalize ml l=r at *;clear h hs;go_enter Tryz.func174,Tryz.ntmps174;go_wp2_with fail
 go_loopw [7] (fun iv wr=>∃i:Nat,i<=l.length/\iv=.int .i64 i/\Hid (∀j,j< i ->um l j=0)/\wr=w) (fun iv _=>l.length - (intOf iv).toNat)
 case atStart=>exact⟨0,aX _,rfl,fun j h=>absurd h (by omega),rfl⟩
 case round=>
  obtain⟨i,hi,rfl,HN,rfl⟩:=hrel;by_cases hlt:i<l.length
  ·obtain⟨g,o,rfl,hg,c0⟩:=HF.o i hlt;have hsz:=iP.o l[i] (bY hlt);have NG:=hid (fun e=>HA.o i hlt HN.o 4 (HW.o i hlt e) (by decide));have HDi:=hid (fun e e'=>HA.o i hlt HN.o 7 (HD.o i hlt e e') (by decide));have N4:=hid (fun e e'=>O2 HN.o (HO.o i hlt e e'));have HTK:=hid (HF.o.take i);(have nT:(l.take i).length=i:=by rw[eB];omega)
   have vK:Hid (∀(v:ByteArray) (V:World),qQ V (some ⟨g,o,none⟩) (l.take i) ->Calls Tryz.prog 222 #[.slice (some ⟨g,o,none⟩) i ca,.string v] V fun e w'=>e=.returned (.bool (yK (l.take i) v))/\w'=V):=fun v V hV=>by
    have:=aey (some ⟨g,o,none⟩) ca (l.take i) v V hV (by omega);rwa [nT] at this
   clear nT;generalize l[i]=x at *;go_wp2_with fail
   refine(ahj x _ hsz).ae ?_;rintro e w1 ⟨rfl,rfl⟩;cases uA:AB x with
   |false=>
    have HE:=hid (NG.o uA);clear uA;go_wp2;go_ret;exact⟨by rw[HE.o];rfl,rfl⟩
   |true=>
    go_wp2_with fail
    refine(vK.o x _ HTK.o).ae ?_;rintro e w2 ⟨rfl,rfl⟩;cases hm:yK (l.take i) x with
    |true=>
     have HE:=hid (HDi.o uA hm);clear uA hm;go_wp2;go_ret;exact⟨by rw[HE.o];rfl,rfl⟩
    |false=>
     have HE:=hid (N4.o uA hm);clear uA hm;go_wp2;go_roundw
     case rel=>exact⟨i+1,by omega,by go_num,HE,trivial⟩
     case measure=>simp[intOf];omega
  ·obtain rfl:i=l.length:=by omega
   have HE:=hid (HZ.o HN.o);go_wp2;go_ret;exact⟨by rw[HE.o];rfl,rfl⟩
variable {z:Value}
abbrev Vr:Type:=ByteArray×List ByteArray
def r7 (w:World) (a:Option Addr) (V:List Vr):Prop:=∀k (h:k<V.length),∃g o b c,a=some ⟨g,o,none⟩/\g<w.heap.size/\w.cell? ⟨g,o+k*2,none⟩=some (.string V[k].1)/\w.cell? ⟨g,o+k*2+1,none⟩=some (.slice b V[k].2.length c)/\qQ w b V[k].2/\V[k].2.length<=c
theorem r7.aa {V:List Vr} (h:r7 w a V) (hb:Below w.heap.size w w'):r7 w' a V:=fun k hk=>by
 obtain⟨g,o,b,c,h1,h2,h3,h4,h5,h6⟩:=h k hk;exact⟨g,o,b,c,h1,aR h2 hb.size,(hb.cell (p:=⟨g,o+k*2,none⟩) h2).trans h3,(hb.cell (p:=⟨g,o+k*2+1,none⟩) h2).trans h4,h5.aa hb,h6⟩
abbrev NC (x y z:Value):Obj:=.cells #[x,y,z] 26
abbrev VC (x y:Value):Obj:=.cells #[x,y] 69
def dr (w:World) (g:Nat) (x y z:Value):Prop:=w.heap[g]? =some (.cells #[x,y,z] 26 (0,0))
theorem dr.at (hg:w.heap.size=g) (x y z:Value):dr (w.alloc (NC x y z)) g x y z:=by subst hg;exact fP w _
theorem dr.lt (h:dr w g x y z):g<w.heap.size:=(cV.1 h).1
theorem dr.aa {b:Nat} (h:dr w g x y z) (hb:Below b w w') (hg:g<b):dr w' g x y z:=(hb.block g hg).trans h
theorem dr.cells (h:dr w g x y z):w.cell? ⟨g,0,none⟩=some x/\w.cell? ⟨g,1,none⟩=some y/\w.cell? ⟨g,2,none⟩=some z:=by
 refine⟨?_,?_,?_⟩<;>(rw[bE w g _ _ _ (0,0) h];rfl)
theorem EU (w:World) (x y:Value):(w.alloc (VC x y)).cell? ⟨w.heap.size,0,none⟩=some x/\(w.alloc (VC x y)).cell? ⟨w.heap.size,1,none⟩=some y:=by
 have h:(w.alloc (VC x y)).heap[w.heap.size]? =some (.cells #[x,y] 69 (0,0)):=fP w _;exact⟨by rw[bE _ _ _ _ _ (0,0) h];rfl,by rw[bE _ _ _ _ _ (0,0) h];rfl⟩
def aq (V:List Vr):List Nat:=V.map fun x=>x.2.length
theorem rH (V:List Vr):(aq V).length=V.length:=by simp[aq]
theorem H3 {V:List Vr} (h:i<V.length):(aq V)[i]? =some V[i].2.length:=by simp[aq,h]
theorem Qu (a b c:Option Addr) (ca cb cc n m:Nat) (V:List Vr) (w:World) (h:r7 w a V) (hV:V.length<=5000):
  Calls Tryz.prog 25 #[.agg #[.slice a V.length ca,.slice b n cb,.slice c m cc]] w fun e w'=>∃G,e=.returned (.slice (some ⟨G,0,none⟩) V.length V.length)/\w.heap.size<=G/\cN w' G (aq V)/\Below w.heap.size w w':=by
 obtain⟨i0,bS,hz0,hz1,hz2⟩:=dK Tryz.infoInt;have HF:=hid h;have HG:Hid (∀i (h:i<V.length),(aq V)[i]? =some V[i].2.length):=fun i h=>H3 h;have eZ:=rH V;generalize aq V=ds at *;clear h;have hN:=dr.at (w:=w) rfl (.slice a V.length ca) (.slice b n cb) (.slice c m cc);have hB0:=(aw _ w).alloc (ak _) (NC (.slice a V.length ca) (.slice b n cb) (.slice c m cc));obtain⟨c0, -, -⟩:=hN.cells;have uC:=hN.lt;go_enter Tryz.func25,Tryz.ntmps25;go_upto_region 1 with fail
 generalize (w.alloc (NC (.slice a V.length ca) (.slice b n cb) (.slice c m cc)))=w1 at *
 go_wp2_with (first
  |(at_make;refine nC _ rfl _ _ 27 rfl w1.heap.size 3 i0 (.int .i64 0) 1 Tryz.underlying27 bS hz0 hz1 .i64 .i64 _ _ V.length rfl rfl (by go_num) (by go_num) (by rw[hz2];omega) (by unfold maxLen;omega) (ak _) ?_;intro w2 hown2 hgrow2;have hB2:Below w1.heap.size w1 w2:=(aw _ w1).grown hgrow2 (ak _) (fun k e=>by cases e);have Nr:=(hN.aa hB2 uC).cells.1;clear c0))
 have hb2:=pV hown2;rw[Fy] at hb2;have HI:Hid (cN w2 w1.heap.size (List.replicate V.length 0)):=hb2;have bq:Hid (Below w.heap.size w w2):=hB0.trans (hB2.ae hB0.size);have hG:=hB0.size;clear hown2 hgrow2 hb2 hB2;clear Nr;go_loopw [13] (fun iv wr=>∃i:Nat,i<=V.length/\iv=.int .i64 i/\Hid (cN wr w1.heap.size (oM ds i))/\Hid (Below w.heap.size w wr)) (fun iv _=>V.length - (intOf iv).toNat)
 case atStart=>exact⟨0,aX _,rfl,by rw[XM,eZ];exact HI,bq⟩
 case round=>
  obtain⟨i,hi,rfl,HR,HB⟩:=hrel;clear HI bq;by_cases hlt:i<V.length
  ·obtain⟨g,o,b',c',rfl,hg,c0,c1, -, -⟩:=(HF.o.aa HB.o) i hlt;obtain⟨qE,pN⟩:=nG.1 (HG.o i hlt);have pZ:=hid (XN ds qE);rw[pN] at pZ;generalize V[i]=v at *;obtain⟨nm,vs⟩:=v;simp only at c0 c1 pZ;obtain⟨d0,d1⟩:=EU wr (.string nm) (.slice b' vs.length c');have aO:=(aw _ wr).alloc (ak _) (VC (.string nm) (.slice b' vs.length c'));have y6:=HR.o.aa aO HR.o.lt;have k0:=y6.cell i (by rw[LB _ (by omega)];omega);have f0:=y6.fz i;have hS:=y6.set i vs.length;rw[pZ.o] at hS;have HS:=hid hS;have ED:=hid ((HB.o.trans (aO.ae HB.o.size)).setCell (p:=⟨w1.heap.size,i,none⟩) hG (.int .i64 (vs.length:Nat)));generalize (oM ds i)[i]'(by rw[LB _ (by omega)];omega)=z at *;clear qE pN aO y6 hS;go_wp2;go_roundw
   case rel=>exact⟨i+1,by omega,by go_num,HS,ED⟩
   case measure=>simp[intOf];omega
  ·obtain rfl:i=V.length:=by omega
   have jt:=HR.o;rw[<- eZ,XO] at jt;have cU:=hid jt;clear jt;go_wp2;go_ret;exact⟨w1.heap.size,rfl,hG,cU.o,HB.o⟩
theorem aiw {l:List Nat} {x:Nat} (h:l[i]? =some x):iL (l.take (i+1))=iL (l.take i)++[(x:Int)]:=by
 obtain⟨h1,h2⟩:=nG.1 h;rw[gh h1,h2,QK];rfl
theorem afg (a b c:Option Addr) (ca cb cc n m:Nat) (V:List Vr) (w:World) (h:r7 w a V) (hV:V.length<=5000):
  Calls Tryz.prog 54 #[.agg #[.slice a V.length ca,.slice b n cb,.slice c m cc]] w fun e w'=>∃x,e=.returned x/\bD w' w.heap.size x (iL (aq V))/\Below w.heap.size w w':=by
 obtain⟨i0,bS,hz0,hz1,hz2⟩:=dK Tryz.infoInt;have HF:=hid h;have HG:Hid (∀i (h:i<V.length),(aq V)[i]? =some V[i].2.length):=fun i h=>H3 h;have eZ:=rH V;generalize aq V=ds at *;clear h;have hN:=dr.at (w:=w) rfl (.slice a V.length ca) (.slice b n cb) (.slice c m cc);have EF:=hid ((aw _ w).alloc (ak _) (NC (.slice a V.length ca) (.slice b n cb) (.slice c m cc)));go_enter Tryz.func54,Tryz.ntmps54;go_wp2_with fail
 generalize (w.alloc (NC (.slice a V.length ca) (.slice b n cb) (.slice c m cc)))=w1 at *;have HN:=hid hN;clear hN;go_loopw [3,4] (fun xv iv wr=>∃i:Nat,i<=V.length/\iv=.int .i64 i/\Hid (bD wr (w.heap.size+1) xv (iL (ds.take i)))/\Hid (Below (w.heap.size+1) w1 wr)) (fun _ iv _=>V.length - (intOf iv).toNat)
 case atStart=>exact⟨0,aX _,rfl,⟨rfl,.inl ⟨rfl,rfl⟩⟩,aw _ _⟩
 case round=>
  obtain⟨i,hi,rfl,HR,HB⟩:=hrel;have wZ:=HN.o.aa HB.o (by omega);obtain⟨c0, -, -⟩:=wZ.cells;have hw1:=HN.o.lt;have xX:Hid (Below w.heap.size w wr):=EF.o.trans (HB.o.ae (by omega));by_cases hlt:i<V.length
  ·obtain⟨g,o,b',c',rfl,hg, -,c1, -, -⟩:=(HF.o.aa xX.o) i hlt;have xD:=hid (aiw (HG.o i hlt))
   have sB:Hid ((iL (ds.take i)).length<=5000):=by
    show (iL (ds.take i)).length<=5000;rw[bF,eB];omega
   generalize V[i]=v at *;obtain⟨nm,vs⟩:=v;simp only at c1 xD;have p5:=hid HR.o.own;have pg:Hid (bD (wr.alloc (.cells #[.int .i64 (vs.length:Nat)] 3)) (w.heap.size+1) _ (iL (ds.take i))):=Co HR.o _;have hsz:w.heap.size+1<=wr.heap.size:=wZ.lt;have cF:=hid (HB.o.alloc hsz (.cells #[.int .i64 (vs.length:Nat)] 3));have mO:=hid (Fp wr (vs.length:Nat));(have Mj:w.heap.size+1<=(wr.alloc (.cells #[.int .i64 (vs.length:Nat)] 3)).heap.size:=by simp;omega);clear wZ;go_wp2_with (at_builtin;refine yo rfl _ _ rfl (w.heap.size+1) _ (iL (ds.take i)) [((vs.length:Nat):Int)] rfl pg.o (some ⟨wr.heap.size,0,none⟩) 1 rfl mO.o (fun e=>by cases e) (by have:=sB.o;simp;omega) Mj ?_;intro v' w3 hr3 hg3)
   have lR:=hid hr3;have fA:=hid (cF.o.grown hg3 Mj p5.o);clear hr3 hg3;go_roundw
   case rel=>exact⟨i+1,by omega,by go_num,by rw[xD.o];exact lR,fA⟩
   case measure=>simp[intOf];omega
  ·obtain rfl:i=V.length:=by omega
   have jt:=HR.o;rw[jF (by omega)] at jt;have cU:=hid (show bD wr w.heap.size _ (iL ds) from ⟨jt.1,jt.2.imp id fun ⟨g,cap,cur,h1,h2,h3⟩=>⟨g,cap,cur,h1,by omega,h3⟩⟩);clear jt wZ;go_wp2;go_ret;exact⟨_,rfl,cU.o,xX.o⟩
def mI (w:World) (g:Nat) (l:List ByteArray):Prop:=w.heap[g]? =some (.cells (l.map Value.string).toArray 9 (0,0))
theorem mI.cell {l:List ByteArray} (h:mI w g l) (j:Nat) (hj:j<l.length):w.cell? ⟨g,j,none⟩=some (.string l[j]):=by
 rw[bE w g j _ _ (0,0) h];simp[hj]
theorem mI.fz {l:List ByteArray} (h:mI w g l) (j:Nat):w.frozen? ⟨g,j,none⟩=false:=kZ w g j _ _ h
theorem mI.lt {l:List ByteArray} (h:mI w g l):g<w.heap.size:=(cV.1 h).1
theorem mI.aa {b:Nat} {l:List ByteArray} (h:mI w g l) (hb:Below b w w') (hg:g<b):mI w' g l:=(hb.block g hg).trans h
theorem mI.set {l:List ByteArray} (h:mI w g l) (j:Nat) (y:ByteArray):mI (w.setCell ⟨g,j,none⟩ (.string y)) g (l.set j y):=by
 have h2:=jX w g j _ _ (.string y) h;rw[mI,h2];simp[Cy]
theorem mI.st {l:List ByteArray} (h:mI w g l):qQ w (some ⟨g,0,none⟩) l:=fun k hk=>⟨g,0,rfl,h.lt,by rw[bI];exact h.cell k hk⟩
theorem ahT (n:Nat):(madeCells (Value.string ⟨#[]⟩).cells (n*1)).toList=(List.replicate n (⟨#[]⟩:ByteArray)).map Value.string:=by
 rw[show (Value.string ⟨#[]⟩).cells= #[Value.string ⟨#[]⟩] from rfl,GY,oF,KS]
theorem Tryz.infoStr:(Tryz.prog.info? 9).map (fun i=>(i.zero,i.size,i.bytes))=some (some (.string ⟨#[]⟩),1,16):=by kernel_rfl
def sS (l:List ByteArray) (i:Nat):List ByteArray:=l.take i++List.replicate (l.length - i) ⟨#[]⟩
theorem af9 (l:List ByteArray):sS l 0=List.replicate l.length ⟨#[]⟩:=by simp[sS]
theorem XI (l:List ByteArray) (h:i<=l.length):(sS l i).length=l.length:=by simp[sS];omega
theorem agb (l:List ByteArray):sS l l.length=l:=by simp[sS]
theorem aga (l:List ByteArray) (h:i<l.length):(sS l i).set i l[i]=sS l (i+1):=by
 have h1:l.length - i=(l.length - (i+1))+1:=by omega
 have h2:(l.take i).length=i:=by rw[eB];omega
 rw[sS,sS,h1,Ha,Cu _ _ (by omega),h2,nD,Ct,gh h,jh];rfl
def ke (V:List Vr):List ByteArray:=V.map fun x=>x.1
theorem YL (V:List Vr):(ke V).length=V.length:=by simp[ke]
theorem ahe {V:List Vr} (h:i<V.length):(ke V)[i]? =some V[i].1:=by simp[ke,h]
theorem ahf (a:Option Addr) (ca:Nat) (V:List Vr) (w:World) (h:r7 w a V) (hV:V.length<=5000):
  Calls Tryz.prog 175 #[.slice a V.length ca] w fun e w'=>∃G,e=.returned (.slice (some ⟨G,0,none⟩) V.length V.length)/\mI w' G (ke V)/\Below w.heap.size w w':=by
 obtain⟨i0,bS,hz0,hz1,hz2⟩:=dK Tryz.infoStr;have HF:=hid h;have HG:Hid (∀i (h:i<V.length),(ke V)[i]? =some V[i].1):=fun i h=>ahe h;have eZ:=YL V;generalize ke V=ds at *;clear h;go_enter Tryz.func175,Tryz.ntmps175
 go_wp2_with (first
  |(at_make;refine nC _ rfl _ _ 67 rfl w.heap.size 9 i0 (.string ⟨#[]⟩) 1 Tryz.underlying67 bS hz0 hz1 .i64 .i64 _ _ V.length rfl rfl (by go_num) (by go_num) (by rw[hz2];omega) (by unfold maxLen;omega) (ak _) ?_;intro w2 hown2 hgrow2))
 have hb2:=pV hown2;rw[ahT] at hb2;have bq:Hid (Below w.heap.size w w2):=(aw _ w).grown hgrow2 (ak _) (fun k e=>by cases e);have HI:Hid (mI w2 w.heap.size (List.replicate V.length ⟨#[]⟩)):=hb2;clear hown2 hgrow2 hb2;go_wp2_with fail
 go_loopw [11] (fun iv wr=>∃i:Nat,i<=V.length/\iv=.int .i64 i/\Hid (mI wr w.heap.size (sS ds i))/\Hid (Below w.heap.size w wr)) (fun iv _=>V.length - (intOf iv).toNat)
 case atStart=>exact⟨0,aX _,rfl,by rw[af9,eZ];exact HI,bq⟩
 case round=>
  obtain⟨i,hi,rfl,HR,HB⟩:=hrel;clear HI bq;by_cases hlt:i<V.length
  ·obtain⟨g,o,b',c',rfl,hg,c0,c1, -, -⟩:=(HF.o.aa HB.o) i hlt;obtain⟨qE,pN⟩:=nG.1 (HG.o i hlt);have pZ:=hid (aga ds qE);rw[pN] at pZ;generalize V[i]=v at *;obtain⟨nm,vs⟩:=v;simp only at c0 c1 pZ;obtain⟨d0,d1⟩:=EU wr (.string nm) (.slice b' vs.length c');have aO:=(aw _ wr).alloc (ak _) (VC (.string nm) (.slice b' vs.length c'));have y6:=HR.o.aa aO HR.o.lt;have k0:=y6.cell i (by rw[XI _ (by omega)];omega);have f0:=y6.fz i;have hS:=y6.set i nm;rw[pZ.o] at hS;have HS:=hid hS;have ED:=hid ((HB.o.trans (aO.ae HB.o.size)).setCell (p:=⟨w.heap.size,i,none⟩) (ak _) (.string nm));generalize (sS ds i)[i]'(by rw[XI _ (by omega)];omega)=z at *;clear qE pN aO y6 hS;go_wp2;go_roundw
   case rel=>exact⟨i+1,by omega,by go_num,HS,ED⟩
   case measure=>simp[intOf];omega
  ·obtain rfl:i=V.length:=by omega
   have jt:=HR.o;rw[<- eZ,agb] at jt;have cU:=hid jt;clear jt;go_wp2;go_ret;exact⟨w.heap.size,rfl,cU.o,HB.o⟩
def oJ (V:List Vr) (i:Nat):Int:=if 1<=(V.getD i (⟨#[]⟩,[])).2.length/\(V.getD i (⟨#[]⟩,[])).2.length<=4 then ml (V.getD i (⟨#[]⟩,[])).2 else 2
def mg (V:List Vr):Int:=if ml (ke V)=0 then iE (oJ V) V.length else ml (ke V)
theorem SS {V:List Vr} (h:i<V.length):V.getD i (⟨#[]⟩,[])=V[i]:=by rw[b6,ba h];rfl
def VSm (V:List Vr):Prop:=V.length<=5000/\∀x∈V,x.1.size<=5000/\x.2.length<=5000/\∀s∈x.2,s.size<=5000
theorem adD {V:List Vr} (h:i<V.length) (e:¬(1<=V[i].2.length/\V[i].2.length<=4)):oJ V i=2:=by rw[oJ,SS h,aD e]
theorem adC {V:List Vr} (h:i<V.length) (e:1<=V[i].2.length/\V[i].2.length<=4):oJ V i=ml V[i].2:=by rw[oJ,SS h,aB e]
theorem alm (a:Option Addr) (ca:Nat) (V:List Vr) (w:World) (h:r7 w a V) (hs:VSm V):
  Calls Tryz.prog 131 #[.slice a V.length ca] w fun e w'=>e=.returned (.int .i64 (mg V))/\Below w.heap.size w w':=by
 have HF:=hid h;have Ud:=hid hs;have hV:=hs.1;have xV:Hid (ml (ke V)≠0 ->mg V=ml (ke V)):=fun h=>aD h;have xU:Hid (ml (ke V)=0 ->mg V=iE (oJ V) V.length):=fun h=>aB h;have hnl:=YL V
 have HNS:Hid (∀s∈ke V,s.size<=140737488355328):=fun s hs'=>by
  obtain⟨x,hx,rfl⟩:=aU.1 hs';have:=(hs.2 x hx).1;omega
 have jB:=hid (fun (V':World) (hV':r7 V' a V)=>ahf a ca V V' hV' hV)
 have Ox:Hid (∀(G:Nat) (V':World),mI V' G (ke V) ->Calls Tryz.prog 174 #[.slice (some ⟨G,0,none⟩) V.length V.length] V' fun e w'=>e=.returned (.int .i64 (ml (ke V)))/\w'=V'):=fun G V' hR=>by
  have:=abY (some ⟨G,0,none⟩) V.length (ke V) V' hR.st (by omega) (by omega) HNS.o;rwa [hnl] at this
 generalize mg V=ve at *;generalize ml (ke V)=ne at *;clear h hs hnl HNS;go_enter Tryz.func131,Tryz.ntmps131;go_wp2_with fail
 refine(jB.o _ HF.o).ae ?_;rintro e w1 ⟨G,rfl,hR,hb1⟩;have HR:=hid hR;have cP:=hid hb1;clear hR hb1 jB;go_wp2_with fail
 refine(Ox.o G _ HR.o).ae ?_;rintro e w2 ⟨rfl,rfl⟩;by_cases h0:ne=0
 ·subst h0;have HE:=hid (xU.o rfl);clear xV xU Ox HR;have HA:Hid (∀i,i<V.length ->(∀j,j< i ->oJ V j=0) ->∀k,oJ V i=k ->k≠0 ->ve=k):=fun i hi hz k hk hk0=>by rw[HE.o,Jz hz (by rw[hk];exact hk0) hi,hk]
  have HZ:Hid ((∀j,j<V.length ->oJ V j=0) ->ve=0):=fun h=>by rw[HE.o];exact zj h
  have HL:=hid (fun i h e=>adD (V:=V) (i:=i) h e);have HN:=hid (fun i h e=>adC (V:=V) (i:=i) h e);go_wp2_with fail
  go_loopw [15] (fun iv wr=>∃i:Nat,i<=V.length/\iv=.int .i64 i/\Hid (∀j,j< i ->oJ V j=0)/\Hid (Below w.heap.size w wr)) (fun iv _=>V.length - (intOf iv).toNat)
  case atStart=>exact⟨0,aX _,rfl,fun j h=>absurd h (by omega),cP⟩
  case round=>
   obtain⟨i,hi,rfl,NB,HB⟩:=hrel;clear cP;by_cases hlt:i<V.length
   ·obtain⟨g,o,b',c',rfl,hg,c0,c1,Sl,qI⟩:=(HF.o.aa HB.o) i hlt;have hsm:=Ud.o.2 V[i] (bY hlt);have GM:=hid (fun e=>HA.o i hlt NB.o 2 (HL.o i hlt e) (by decide));have sq:=hid (fun e k hk hk0=>HA.o i hlt NB.o k ((HN.o i hlt e).trans hk) hk0);have JW:=hid (fun e (hk:ml V[i].2=0)=>O2 NB.o ((HN.o i hlt e).trans hk));generalize V[i]=v at *;obtain⟨nm,vs⟩:=v;simp only at c0 c1 Sl qI hsm GM sq JW;obtain⟨d0,d1⟩:=EU wr (.string nm) (.slice b' vs.length c');have aO:=(aw _ wr).alloc (ak _) (VC (.string nm) (.slice b' vs.length c'));have cF:=hid (HB.o.trans (aO.ae HB.o.size));have HST:=hid (Sl.aa aO);have xC:=hid hsm.2.2;have iA:=hsm.2.1;clear aO hsm Sl;by_cases h1:1<=vs.length
    ·by_cases h4:vs.length<=4
     ·have e1:(1:Int)<=(vs.length:Int):=by omega
      (have e2:(vs.length:Int)<=4:=by omega);have HNN:=hid (sq.o ⟨h1,h4⟩);have HZZ:=hid (JW.o ⟨h1,h4⟩);clear GM sq JW;go_wp2_with fail
      refine(abY b' c' vs _ HST.o (by omega) qI (fun s hs'=>by have:=xC.o s hs';omega)).ae ?_;rintro e w3 ⟨rfl,rfl⟩;generalize ml vs=q at *;by_cases hq:q=0
      ·subst hq;have HZ2:=hid (HZZ.o rfl);go_wp2;go_roundw
       case rel=>exact⟨i+1,by omega,by go_num,HZ2,cF⟩
       case measure=>simp[intOf];omega
      ·have HQ:=hid (HNN.o q rfl hq);(have hqb:(q==0)=false:=by simpa using hq);clear hq;go_wp2;go_ret;exact⟨by rw[HQ.o];rfl,cF.o⟩
     ·have HQ:=hid (GM.o fun h=>h4 h.2);(have e1:(1:Int)<=(vs.length:Int):=by omega);(have e2:(4:Int)<(vs.length:Int):=by omega);clear h4 GM sq JW;go_wp2;go_ret;exact⟨by rw[HQ.o];rfl,cF.o⟩
    ·have HQ:=hid (GM.o fun h=>h1 h.1);(have e1:(vs.length:Int)<1:=by omega);clear h1 GM sq JW;go_wp2;go_ret;exact⟨by rw[HQ.o];rfl,cF.o⟩
   ·obtain rfl:i=V.length:=by omega
    have HQ:=hid (HZ.o NB.o);go_wp2;go_ret;exact⟨by rw[HQ.o];rfl,HB.o⟩
 ·have HE:=hid (xV.o h0);have uA:(ne==0)=false:=by simpa using h0
  clear h0 xV xU;go_wp2;go_ret;exact⟨by rw[HE.o];rfl,cP.o⟩
variable {p:Rat}
def jH (l:List Fr):Bool:=(l.all fun f=>decide (¬bt f<0))&&decide (fR l=1)
theorem abT:jd p 0<0↔p<0:=by
 rw[jd];by_cases h:p<0
 ·rw[aB h];exact⟨fun _=>h,fun _=>by decide⟩
 ·rw[aD h];by_cases e:p=0
  ·rw[aB e];exact⟨fun h=>absurd h (by decide),fun h'=>absurd h' h⟩
  ·rw[aD e];exact⟨fun h=>absurd h (by decide),fun h'=>absurd h' h⟩
theorem ale:(jd p 1==0)=decide (p=1):=by
 rw[ug,zY,dQ,jd];by_cases h:p<1
 ·rw[aB h];exact⟨fun h=>absurd h (by decide),fun e=>by rw[e] at h;exact absurd h (by decide)⟩
 ·rw[aD h];by_cases e:p=1
  ·rw[aB e];exact⟨fun _=>e,fun _=>rfl⟩
  ·rw[aD e];exact⟨fun h=>absurd h (by decide),fun h'=>absurd h' e⟩
theorem aeY {l:List Fr} (h:i<l.length) (e:bt l[i]<0):jH l=false:=by
 have:(l.all fun f=>decide (¬bt f<0))=false:=by
  rw[Hg];exact⟨l[i],bY h,by simpa using e⟩
 rw[jH,this];rfl
theorem aeZ {l:List Fr} (h:∀i (hi:i<l.length),¬bt l[i]<0):jH l=decide (fR l=1):=by
 have:(l.all fun f=>decide (¬bt f<0))=true:=by
  rw[dN];intro f hf;obtain⟨i,hi,rfl⟩:=jg hf;exact bT (h i hi)
 rw[jH,this,Ak]
theorem afx:qw 1<=2:=by
 show (B 1).size+(B 1).size<=2;have:=OG;omega
theorem aj6 {l:List Fr} (h:i<l.length) (hw:fw l<=10000):l[i].2.1.size+l[i].2.2.size<=10000:=by have:=S1 (bY h);omega
theorem ail (a:Option Addr) (ca:Nat) (l:List Fr) (w:World) (h:ew w a l) (hw:fw l<=10000) (hn:l.length<=10000):
  Calls Tryz.prog 177 #[.slice a l.length ca] w fun e w'=>e=.returned (.bool (jH l))/\Below w.heap.size w w':=by
 have HF:=hid h;have HW:=hid hw;have HO:=hid (fun V:World=>Ta (k:=0) (w:=V) 0 0 rfl (by decide) (by rfl));have tP:=hid (fun V:World=>Ta (k:=1) (w:=V) 1 1 rfl (by decide) (by rfl));have HS:=hid (fun (V:World) (hV:ew V a l)=>akD a ca l V hV hw hn);have HN:=hid (fun i h e=>aeY (l:=l) (i:=i) h e);have HA:=hid (fun h=>aeZ (l:=l) h)
 have HQ:Hid (val (cI (fR l)) (nu (fR l)) (de (fR l))=fR l/\(nu (fR l)).size+(de (fR l)).size<=100000):=⟨rF _,by
  have h1:=Na (abh l);rw[sU];omega⟩
 have HZ:Hid (val (cI 0) (nu 0) (de 0)=0/\(nu 0).size+(de 0).size<=100000):=⟨rF _,by have:=Xo;rw[sU];omega⟩
 have H1:Hid (val (cI 1) (nu 1) (de 1)=1/\(nu 1).size+(de 1).size<=100000):=⟨rF _,by
  have h1:qw 1<=2:=afx;rw[sU];omega⟩
 generalize jH l=rb at *;clear h hw;simp only[C] at HO tP HS;generalize cI 0=zn at *;generalize nu 0=zx at *;generalize de 0=zy at *;generalize cI 1=on at *;generalize nu 1=ox at *;generalize de 1=oy at *;go_enter Tryz.func177,Tryz.ntmps177;go_wp2_with fail
 refine(HO.o _).ae ?_;rintro e w1 ⟨rfl,hb1⟩;have EF:=hid (hb1.alloc hb1.size (FC zn zx zy));have HZB:=hid (aL.new w1 zn zx zy);have hw1:=hb1.size;clear hb1;go_wp2_with fail
 generalize (w1.alloc (FC zn zx zy))=w2 at *;generalize w1.heap.size=B at *;go_loopw [9] (fun iv wr=>∃i:Nat,i<=l.length/\iv=.int .i64 i/\Hid (∀j (hj:j<l.length),j< i ->¬bt l[j]<0)/\Hid (aL wr B zn zx zy)/\Hid (Below w.heap.size w wr)) (fun iv _=>l.length - (intOf iv).toNat)
 case atStart=>exact⟨0,aX _,rfl,fun j _ h=>absurd h (by omega),HZB,EF⟩
 case round=>
  obtain⟨i,hi,rfl,HP,HX,HB⟩:=hrel;clear HZB EF;by_cases hlt:i<l.length
  ·obtain⟨g,o,rfl,hg,c0,c1,c2⟩:=(HF.o.aa HB.o) i hlt;have tA:=aj6 hlt HW.o;have sq:=hid (HN.o i hlt)
   have zD:Hid (¬bt l[i]< 0 ->∀j (hj:j<l.length),j<i+1 ->¬bt l[j]<0):=fun h j hj pL=>by
    rcases cM j i with h2 |h2
    ·exact HP.o j hj h2
    ·obtain rfl:j=i:=by omega
     exact h
   generalize l[i]=f at *;obtain⟨fn,fx,fy⟩:=f;simp only at c0 c1 c2 tA;have aO:=(aw _ wr).alloc (ak _) (FC fn fx fy);obtain⟨k0,k1,k2, -⟩:=(aL.new wr fn fx fy).facts;have Sg:=HX.o.aa aO HX.o.lt;obtain⟨z0,z1,z2, -⟩:=Sg.facts;have jz:=hid Sg;have cF:=hid (HB.o.trans (aO.ae HB.o.size));clear aO Sg;go_wp2_with fail
   generalize (wr.alloc (FC fn fx fy))=w3 at *;refine(Tc (w:=w3) (jd (val fn fx fy) 0) rfl HZ.o.1 rfl (by omega) HZ.o.2).ae ?_;rintro e w4 ⟨rfl,hb4⟩;have NF:=hid (jz.o.aa hb4 jz.o.lt);have ir:=hid (cF.o.trans (hb4.ae cF.o.size));clear k0 k1 k2 z0 z1 z2 hb4;by_cases FT:val fn fx fy<0
   ·have HE:=hid (sq.o FT);have hc:jd (val fn fx fy) 0<0:=abT.2 FT;clear FT;generalize jd (val fn fx fy) 0=q at *;go_wp2;go_ret;exact⟨by rw[HE.o];rfl,ir.o⟩
   ·have HE:=hid (zD.o FT)
    have hc:0<=jd (val fn fx fy) 0:=by
     have:¬jd (val fn fx fy) 0<0:=fun h=>FT (abT.1 h);omega
    clear FT;generalize jd (val fn fx fy) 0=q at *;go_wp2;go_roundw
    case rel=>exact⟨i+1,by omega,by go_num,HE,NF,ir⟩
    case measure=>simp[intOf];omega
  ·obtain rfl:i=l.length:=by omega
   have HE:=hid (HA.o fun j hj=>HP.o j hj hj);have HCS:=hid (ale (p:=fR l));generalize fR l=s at *;go_wp2_with fail
   refine(HS.o _ (HF.o.aa HB.o)).ae ?_;rintro e w5 ⟨rfl,hb5⟩;have fG:=hid (HB.o.trans (hb5.ae HB.o.size));clear hb5;go_wp2_with fail
   refine(tP.o _).ae ?_;rintro e w6 ⟨rfl,iK⟩;have Oz:=hid (fG.o.trans (iK.ae fG.o.size));clear iK;go_wp2_with fail
   refine(Tc (w:=w6) (jd s 1) HQ.o.1 H1.o.1 rfl HQ.o.2 H1.o.2).ae ?_;rintro e w7 ⟨rfl,ed⟩;have HB7:=hid (Oz.o.trans (ed.ae Oz.o.size));clear ed;go_wp2;go_ret;exact⟨by rw[HE.o, <- HCS.o];rfl,HB7.o⟩
end Go.Proofs.YtfgkjjlocjmfeaaGreatDoor
