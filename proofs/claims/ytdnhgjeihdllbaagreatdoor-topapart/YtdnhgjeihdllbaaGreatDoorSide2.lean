/- Part2: part 2. -/
import Derived.Test.YtdnhgjeihdllbaaGreatDoorSide1
set_option maxRecDepth 100000
set_option maxHeartbeats 4000000
set_option linter.unusedSimpArgs false
set_option linter.unusedVariables false
namespace Go.Proofs.YtdnhgjeihdllbaaGreatDoor
open Go.RowKit
variable {L:List (List Int)} {l:List Int} {g i n:Nat} {a:Option Addr} {w w':World}
def fh (w:World) (a:Option Addr) (L:List (List Int)):Prop:=∀k (h:k<L.length),∃g o b c,a=some ⟨g,o,none⟩/\g<w.heap.size/\w.cell? ⟨g,o+k,none⟩=some (.slice b L[k].length c)/\aaK w b L[k]
theorem fh.aa (h:fh w a L) (hb:Below w.heap.size w w'):fh w' a L:=fun k hk=>by
 obtain⟨g,o,b,c,h1,h2,h3,h4⟩:=h k hk;exact⟨g,o,b,c,h1,aR h2 hb.size,(hb.cell (p:=⟨g,o+k,none⟩) h2).trans h3,h4.aa hb⟩
def vK (w:World) (a:Option Addr) (L:List (List Int)):Prop:=∀k,k<L.length ->∀g o b n c,a=some ⟨g,o,none⟩ ->w.cell? ⟨g,o+k,none⟩=some (.slice b n c) ->b=none ->c=0
theorem vK.aa (h:vK w a L) (hl:fh w a L) (hb:Below w.heap.size w w'):vK w' a L:=fun k hk g o b n c ha hc hn=>by
 obtain⟨g',o',_,_,e,hg,_⟩:=hl k hk;rw[ha] at e;cases e;exact h k hk g o b n c ha ((hb.cell (p:=⟨g,o+k,none⟩) hg).symm.trans hc) hn
abbrev uv (x:Nat):Value:=.int .u32 (x:Int)
def cI (w:World) (g:Nat) (l:List Nat):Prop:=w.heap[g]? =some (.cells (l.map uv).toArray 115 (0,0))
theorem cI.cell {l:List Nat} (h:cI w g l) (j:Nat) (hj:j<l.length):w.cell? ⟨g,j,none⟩=some (.int .u32 (l[j]:Nat)):=by
 rw[cC w g j _ _ (0,0) h];simp[uv,hj]
theorem cI.fz {l:List Nat} (h:cI w g l) (j:Nat):w.frozen? ⟨g,j,none⟩=false:=pN w g j _ _ h
theorem cI.lt {l:List Nat} (h:cI w g l):g<w.heap.size:=(eL.1 h).1
theorem cI.aa {b:Nat} {l:List Nat} (h:cI w g l) (hb:Below b w w') (hg:g<b):cI w' g l:=(hb.block g hg).trans h
theorem cI.set {l:List Nat} (h:cI w g l) (j y:Nat):cI (w.setCell ⟨g,j,none⟩ (.int .u32 (y:Int))) g (l.set j y):=by
 have h2:=mM w g j _ _ (.int .u32 (y:Int)) h;rw[cI,h2];simp[Gr,uv]
theorem SJ (n:Nat):(madeCells (Value.int .u32 0).cells (n*1)).toList=(List.replicate n (0:Nat)).map uv:=by
 rw[show (Value.int .u32 0).cells= #[Value.int .u32 0] from rfl,I3,mN,MN];rfl
theorem Tryz.infoSet:(Tryz.prog.info? 115).map (fun i=>(i.zero,i.size,i.bytes))=some (some (.int .u32 0),1,4):=by kernel_rfl
def ug (L:List (List Int)) (n:Nat):Bool:=L.all fun l=>dD l n
def jO (L:List (List Int)):List Nat:=L.map fun l=>aA (ag l)
theorem aaw (L:List (List Int)):(jO L).length=L.length:=by simp[jO]
theorem ac3 (h:i<L.length) (e:dD L[i] n=false):ug L n=false:=by
 rw[ug,Gw];exact⟨L[i],bH h,by rw[e];decide⟩
theorem YJ (h:dD l n=true):setA l n=aA (ag l):=aaf h
theorem afl (a:Option Addr) (ca n:Nat) (L:List (List Int)) (w:World) (h:fh w a L) (hL:L.length<=8) (hn:n<=8) (hl:∀l∈L,l.length<=140737488355328):
  Calls Tryz.prog 73 #[.slice a L.length ca,.int .i64 (n:Nat)] w fun e w'=>Below w.heap.size w w'/\
   ((ug L n=true/\∃G,e=.returned (.tuple #[.slice (some ⟨G,0,none⟩) L.length L.length,.bool true])/\w.heap.size<=G/\cI w' G (jO L))∨(ug L n=false/\e=.returned (.tuple #[.slice none 0 0,.bool false]))):=by
 obtain⟨i0,cU,hz0,hz1,hz2⟩:=eT Tryz.infoSet;have HF:=hid h;have HB:=hid (fun i h e=>ac3 (L:=L) (n:=n) (i:=i) h e)
 have HT:Hid ((∀i (h:i<L.length),dD L[i] n=true) ->ug L n=true):=fun h=>eJ.2 fun l hl=>by
  obtain⟨i,hi,rfl⟩:=iE hl;exact h i hi
 have HM:Hid (∀i (h:i<L.length),(jO L)[i]? =some (aA (ag L[i]))):=fun i h=>by simp[jO,h]
 have fT:=hid hl;have hml:=aaw L;generalize ug L n=rb at *;generalize jO L=ms at *;clear h hl;go_enter Tryz.func73,Tryz.ntmps73
 go_wp2_with (first
  |(at_make;refine mL _ rfl _ _ 109 rfl w.heap.size 115 i0 (.int .u32 0) 1 Tryz.underlying109 cU hz0 hz1 .i64 .i64 _ _ L.length rfl rfl (by go_num) (by go_num) (by rw[hz2];omega) (by unfold maxLen;omega) (ar _) ?_;intro w2 hown2 hgrow2))
 have hb2:=pC hown2;rw[SJ] at hb2;have bc:Hid (Below w.heap.size w w2):=(au _ w).grown hgrow2 (ar _) (fun k e=>by cases e);have HI:Hid (cI w2 w.heap.size (List.replicate L.length 0)):=hb2;clear hown2 hgrow2 hb2;go_wp2_with fail
 go_loopw [15] (fun iv wr=>∃i:Nat,i<=L.length/\iv=.int .i64 i/\Hid (∀j (h:j<L.length),j< i ->dD L[j] n=true)/\Hid (cI wr w.heap.size (kD ms i))/\Hid (Below w.heap.size w wr)) (fun iv _=>L.length - (intOf iv).toNat)
 case atStart=>exact⟨0,aU _,rfl,fun j _ h=>absurd h (by omega),by rw[Ny,hml];exact HI,bc⟩
 case round=>
  obtain⟨i,hi,rfl,HR,HU,kT⟩:=hrel;clear HI bc;by_cases hlt:i<L.length
  ·obtain⟨g,o,b,c,rfl,hg,c0,hI⟩:=(HF.o.aa kT.o) i hlt;have dh:=fT.o L[i] (bH hlt);have Wu:=hid hI;clear hI;have HBi:=hid (HB.o i hlt);have HMi:=hid (HM.o i hlt)
   have LO:Hid (dD L[i] n=true ->∀j (h:j<L.length),j<i+1 ->dD L[j] n=true):=fun h j hj ml=>by
    rcases cD j i with h2 |h2
    ·exact HR.o j hj h2
    ·obtain rfl:j=i:=by omega
     exact h
   have HSA:Hid (dD L[i] n=true ->setA L[i] n=aA (ag L[i])):=YJ;generalize L[i]=l at *;go_wp2_with fail
   refine(YI b c l n _ Wu.o dh hn).ae ?_;rintro e w3 ⟨rfl,rfl⟩;cases hr:dD l n with
   |false=>
    have HE:=hid (HBi.o hr);generalize setA l n=s at *;go_wp2;go_ret2;exact⟨kT.o,.inr ⟨HE.o,rfl⟩⟩
   |true=>
    rw[HSA.o hr];have rN:=hid (LO.o hr);have k0:=HU.o.cell i (by rw[Aw _ (by omega)];omega);have f0:=HU.o.fz i;have P5:=hid (HU.o.set i (aA (ag l)))
    have HPS:Hid ((kD ms i).set i (aA (ag l))=kD ms (i+1)):=by
     show _=_;obtain⟨h1,h2⟩:=o0.1 HMi.o;rw[<- h2];exact Nz ms h1
    rw[HPS.o] at P5;have BU:=hid (kT.o.setCell (p:=⟨w.heap.size,i,none⟩) (ar _) (.int .u32 (aA (ag l):Nat)));clear hr;generalize aA (ag l)=s at *;generalize (kD ms i)[i]'(by rw[Aw _ (by omega)];omega)=z at *;go_wp2;go_roundw
    case rel=>exact⟨i+1,by omega,by go_num,rN,P5,BU⟩
    case measure=>simp[intOf];omega
  ·obtain rfl:i=L.length:=by omega
   have HE:=hid (HT.o fun j hj=>HR.o j hj hj);have hU:=HU.o;rw[<- hml,NA] at hU;have oU:=hid hU;clear hU;go_wp2;go_ret2;exact⟨kT.o,.inl ⟨HE.o,_,rfl,ar _,oU.o⟩⟩
def Az (L:List (List Int)):Bool:=(List.range L.length).all fun v=>!decide (v∈ag (L.getD v []))
def gB (L:List (List Int)):Bool:=decide (1<=L.length/\L.length<=8)&&ug L L.length&&Az L
theorem aav (n:Nat) (w:World):
  Calls Tryz.prog 172 #[.int .i64 (n:Nat)] w fun e w'=>e=.returned (.bool (decide (1<=n/\n<=8)))/\w'=w:=by
 by_cases h1:1<=n
 ·by_cases h2:n<=8
  ·rw[cJ (p:=1<=n/\n<=8) ⟨h1,h2⟩];(have e1:(1:Int)<=(n:Int):=by omega);(have e2:(n:Int)<=8:=by omega);go_enter Tryz.func172,Tryz.ntmps172;go_wp2;go_ret;exact⟨rfl,rfl⟩
  ·rw[abg (p:=1<=n/\n<=8) (fun h=>h2 h.2)];(have e1:(1:Int)<=(n:Int):=by omega);have HE:Hid (decide ((n:Int)<=8)=false):=abg (by omega);clear h2;go_enter Tryz.func172,Tryz.ntmps172;go_wp2;go_ret;exact⟨by rw[HE.o];rfl,rfl⟩
 ·rw[abg (p:=1<=n/\n<=8) (fun h=>h1 h.1)];obtain rfl:n=0:=by omega
  clear h1;go_enter Tryz.func172,Tryz.ntmps172;go_wp2;go_ret;exact⟨rfl,rfl⟩
theorem Y1 (hn:n<=8) (h:dD l n=true):∀u∈ag l,u<8:=by
 have:=YZ (l:=l) (n:=n) (i:=l.length) hn h (ar _);rwa [fJ] at this
theorem PA (h:ug L n=true) (hi:i<L.length):dD L[i] n=true:=eJ.1 h _ (bH hi)
theorem Sv (h:i<L.length) (e:i∈ag L[i]):Az L=false:=by
 rw[Az,Gw];refine⟨i,bG.2 h,?_⟩;rw[b7,af h];simpa using e
theorem aah (h:∀i (hi:i<L.length),¬i∈ag L[i]):Az L=true:=by
 rw[Az,eJ];intro i hi;have hi':=bG.1 hi;rw[b7,af hi'];simpa using h i hi'
theorem Y4 (a:Option Addr) (ca:Nat) (L:List (List Int)) (w:World) (h:fh w a L) (hl:∀l∈L,l.length<=140737488355328):
  Calls Tryz.prog 123 #[.slice a L.length ca] w fun e w'=>Below w.heap.size w w'/\
   ((gB L=true/\∃G,e=.returned (.tuple #[.slice (some ⟨G,0,none⟩) L.length L.length,.bool true])/\w.heap.size<=G/\cI w' G (jO L))∨(gB L=false/\∃v,e=.returned (.tuple #[v,.bool false]))):=by
 have HF:=hid h;have HL:=hid hl;have HG:Hid (gB L=(decide (1<=L.length/\L.length<=8)&&ug L L.length&&Az L)):=rfl;generalize gB L=gb at *;clear h hl;cases hm:decide (1<=L.length/\L.length<=8) with
 |false=>
  have HC:=hid (fun V:World=>aav L.length V);rw[hm] at HG HC;have HGF:Hid (gb=false):=by show _=_;rw[HG.o];rfl
  clear hm HG;go_enter Tryz.func123,Tryz.ntmps123;go_wp2_with fail
  refine(HC.o _).ae ?_;rintro e w1 ⟨rfl,rfl⟩;go_wp2;go_ret2;exact⟨au _ _,.inr ⟨HGF.o,_,rfl⟩⟩
 |true=>
  have HC:=hid (fun V:World=>aav L.length V);rw[hm] at HG HC;obtain⟨h1,h8⟩:=rS hm;have HS:=hid (fun (V:World) (hV:fh V a L)=>afl a ca L.length L V hV h8 h8 HL.o);have ky:Hid (ug L L.length=true ->∀i (hi:i<L.length),∀u∈ag L[i],u<8):=fun h i hi=>Y1 h8 (PA h hi);have oX:=hid (fun i h e=>Sv (L:=L) (i:=i) h e);have uz:=hid (fun h=>aah (L:=L) h);have HM:Hid (∀i (h:i<L.length),(jO L)[i]? =some (aA (ag L[i]))):=fun i h=>by simp[jO,h]
  clear hm;generalize ug L L.length=ra at *;generalize Az L=rn at *;generalize jO L=ms at *;go_enter Tryz.func123,Tryz.ntmps123;go_wp2_with fail
  refine(HC.o _).ae ?_;rintro e w1 ⟨rfl,rfl⟩;go_wp2_with fail
  refine(HS.o _ HF.o).ae ?_;rintro e w2 ⟨hb,⟨vp,G,rfl,hG,hU⟩ |⟨vp,rfl⟩⟩
  ·have HU:=hid hU;have HB:=hid hb;have Qt:=hid (ky.o vp);(have Qm:Hid (gb=rn):=by show _=_;rw[HG.o,vp];rfl);clear hU hb vp HG;go_wp2_with fail
   go_loopw [21] (fun iv wr=>∃i:Nat,i<=L.length/\iv=.int .i64 i/\Hid (∀j (h:j<L.length),j< i ->¬j∈ag L[j])/\wr=w2) (fun iv _=>L.length - (intOf iv).toNat)
   case atStart=>exact⟨0,aU _,rfl,fun j _ h=>absurd h (by omega),rfl⟩
   case round=>
    obtain⟨i,hi,rfl,HR,rfl⟩:=hrel;by_cases hlt:i<L.length
    ·have Nq:=HM.o i hlt;obtain⟨hm1,bq⟩:=o0.1 Nq;have c0:=HU.o.cell i hm1;rw[bq] at c0;have j7:=hid (oX.o i hlt)
     have LO:Hid (¬i∈ag L[i] ->∀j (h:j<L.length),j<i+1 ->¬j∈ag L[j]):=fun h j hj ml=>by
      rcases cD j i with h2 |h2
      ·exact HR.o j hj h2
      ·obtain rfl:j=i:=by omega
       exact h
     have HH:=hid (fun V:World=>Ry (ag L[i]) i V (Qt.o i hlt) (by omega));clear Nq hm1 bq;generalize ag L[i]=l at *;go_wp2_with fail
     refine(HH.o _).ae ?_;rintro e w3 ⟨rfl,rfl⟩;by_cases hin:i∈l
     ·rw[cJ hin];have HE:=hid (j7.o hin);clear hin;go_wp2;go_ret2;exact⟨HB.o,.inr ⟨by rw[Qm.o];exact HE.o,_,rfl⟩⟩
     ·rw[abg hin];have HE:=hid (LO.o hin);clear hin;go_wp2;go_roundw
      case rel=>exact⟨i+1,by omega,by go_num,HE,trivial⟩
      case measure=>simp[intOf];omega
    ·obtain rfl:i=L.length:=by omega
     have HE:=hid (uz.o fun j hj=>HR.o j hj hj);go_wp2;go_ret2;exact⟨HB.o,.inl ⟨by rw[Qm.o];exact HE.o,G,rfl,hG,HU.o⟩⟩
  ·have Qm:Hid (gb=false):=by show _=_;rw[HG.o,vp];rfl
   have HB:=hid hb;clear vp hb HG;go_wp2_with fail
   go_loopw [21] (fun iv wr=>iv=.int .i64 0/\wr=w2) (fun _ _=>0)
   case atStart=>exact⟨rfl,rfl⟩
   case round=>
    obtain⟨rfl,rfl⟩:=hrel;go_wp2;go_ret2;exact⟨HB.o,.inr ⟨Qm.o,_,rfl⟩⟩
section
open Go.Shelf
attribute [local go_sem] Oper.semAt_some
variable {Q:Exit ->Act ->World ->Prop}
theorem alb (n:Nat) (hn:1<=n) (l:Nat) (s:List Nat) (hs:∀u∈s,u<8) (J:Nat ->World ->Prop)
  (hY:∀k V,k< 8 ->k∈s ->J k V ->YieldAt Fence.wide (n - 1) Tryz.prog l #[.int .i64 (k:Nat)] V fun e V'=>e=.returned (.bool true)/\J (k+1) V')
  (hN:∀k V,k< 8 ->¬k∈s ->J k V ->J (k+1) V) (V:World) (h0:J 0 V):
  CallsIn Fence.wide n Tryz.prog 144 #[.int .u32 (aA s:Nat),.func (.yield l) #[] #[]] V fun e V'=>(∃v,e=.returned v)/\J 8 V':=by
 refine Gj Tryz.func144 rfl trivial ?_ rfl;simp only[Tryz.ntmps144,mP,eU,lg,Nat.reduceAdd,Nat.reduceSub,mV,mU,mQ,lZ,iD,fg];have HH:=hid (fun (k:Nat) (hk:k<8) (U:World)=>Ry s k U hs hk);generalize aA s=m at *;gi_wp2
 gi_loopw [5] (fun i wr=>∃k:Nat,k<=8/\i=.int .i64 k/\J k wr) (fun i _=>8 - (intOf i).toNat)
 case atStart=>exact⟨0,aU _,rfl,h0⟩
 case round=>
  obtain⟨k,hk,rfl,hJ⟩:=hrel;by_cases hlt:k<8
  ·have tR:(k:Int)<8:=by omega
   have Ql:=hid (HH.o k hlt);by_cases hm:k∈s
   ·rw[cJ hm] at Ql;obtain⟨fn,tmps,assign,body,hy,hR⟩:=hY k wr hlt hm hJ;have HR:=hid hR;clear hR;gi_wp2_with (refine⟨trivial,?_⟩;gi_at_call 129;refine(gZ.2 (Ql.o _)).ae ?_;rintro e w' ⟨rfl,hw'⟩;subst hw')
    refine HR.o.ae ?_;rintro e W3 ⟨rfl,hJ3⟩;gi_wp2
    go_roundw
    case rel=>exact⟨k+1,by omega,by go_num,hJ3⟩
    case measure=>simp[intOf];omega
   ·rw[abg hm] at Ql;have hJ3:=hN k wr hlt hm hJ;gi_wp2_with (refine⟨trivial,?_⟩;gi_at_call 129;refine(gZ.2 (Ql.o _)).ae ?_;rintro e w' ⟨rfl,hw'⟩;subst hw')
    refine⟨fun f h=>(by cases h),?_⟩;gi_wp2
    go_roundw
    case rel=>exact⟨k+1,by omega,by go_num,hJ3⟩
    case measure=>simp[intOf];omega
  ·obtain rfl:k=8:=by omega
   gi_wp2
   go_end0
   exact⟨⟨_,rfl⟩,hJ⟩
def alc (B:Nat) (I:Nat ->World ->Prop) (k:Nat) (W:World):Exit ->Act ->World ->Prop
 |.normal,_,W'=>KeepsFrom B W W'/\I (k+1) W'
 |_,_,_=>False
theorem Ei {g:Operand} {ps:Array Tmp} {assign body:Code} {a:Act} (h1:2<=n) (s:List Nat) (hs:∀u∈s,u<8)
  (hg:a.eval g=.func (.func 144) #[.int .u32 (aA s:Nat)] #[]) (df:ps.size=1) (I:Nat ->World ->Prop) (hI:OwnFrom w.heap.size I) (h0:I 0 w) (a₁:Nat ->Act)
  (ajU:∀(l k:Nat) (W:World) (K:Act ->World ->Prop),K (a₁ k) W ->
   assign.wpIn (Fence.wide.inRound l) (n - 1 - 1) Tryz.prog (Exit.then K (fun _ _ _=>False)) {tmps:=(ps.zip #[.int .i64 (k:Nat)]).foldl (fun t (p,v)=>t.setIfInBounds p v) a.tmps,defers:=[]} W)
  (ajR:∀(l k:Nat) (W:World),k< 8 ->k∈s ->I k W ->body.wpIn (Fence.wide.inRound l) (n - 1 - 1) Tryz.prog (alc w.heap.size I k W) (a₁ k) W)
  (ajf:∀k W,k< 8 ->¬k∈s ->I k W ->I (k+1) W)
  (hdone:∀(D:Nat) (W:World),w.heap.size<=D ->I 8 W ->W.heap[D]? =some (.deferred (some [])) ->Q .normal {a with defers:= {target:=.collected D,args:= #[]}::a.defers} W):
  (Code.rangeFunc g ps assign body).wpIn Fence.wide n Tryz.prog Q a w:=by
 refine wpIn_rangeFunc fun fn hfn=>?_;rw[show Fence.wide.round=none from rfl];obtain⟨rec,EL⟩:∃rec:LoopState ->Option Code ->Loop,rec=fun st pe=> {state:=st,pending:=pe,fn,tmps:=a.tmps,params:=ps,assign,body,defers:=w.heap.size}:=⟨_,rfl⟩;obtain⟨W1,hW1⟩:∃W1,(w.alloc (.deferred (some []))).alloc (.loop (rec .ready none))=W1:=⟨_,rfl⟩
 have xo:W1.heap[w.heap.size+1]? =some (.loop (rec .ready none)):=by
  rw[<- hW1];have h:=World.alloc_heap_new (w.alloc (.deferred (some []))) (.loop (rec .ready none));rwa [cN] at h
 have hK1:W1.heap[w.heap.size]? =some (.deferred (some [])):=by
  rw[<- hW1];exact(rY _ _ _ (by simp)).trans (World.alloc_heap_new w _)
 have Uq:I 0 W1:=by
  rw[<- hW1];exact hI.alloc _ (hI.alloc _ h0)
 refine⟨w.heap.size+1,[{target:=.collected w.heap.size,args:= #[]}],W1, {target:=.fn (.func 144) #[],args:= #[.int .u32 (aA s:Nat),.func (.yield (w.heap.size+1)) #[] #[]]},W1,144, #[.int .u32 (aA s:Nat),.func (.yield (w.heap.size+1)) #[] #[]],W1,?_,?_,?_,?_,fun _=>by omega,?_⟩
 ·rw[<- hW1,EL];exact run_enterLoop_outer _ _ _ _ _
 ·simp only[resolve,hg];simp[go_sem]
 ·intro f' hf';simp[Target.leads] at hf';subst hf';trivial
 ·have eg:∀args w,(callFunc 144 args).run Tryz.prog w=.ok (.enter 144 args) w:=enters_of Tryz.func144 (by kernel_rfl) rfl;simp[invoke,go_sem,eg]
 ·refine(alb (n - 1) (by omega) (w.heap.size+1) s hs (fun k W=>I k W/\W.heap[w.heap.size+1]? =some (.loop (rec .ready none))/\W.heap[w.heap.size]? =some (.deferred (some []))) ?_ (fun k W hk hm h=>⟨ajf k W hk hm h.1,h.2⟩) W1 ⟨Uq,xo,hK1⟩).ae ?_
  ·rintro k W hk hm ⟨hi,hl,hd⟩;have hlt:w.heap.size+1<W.heap.size:=(eL.1 hl).1;have hy:=run_yield (P:=Tryz.prog) (args:= #[.int .i64 (k:Nat)]) hl (by rw[EL];exact df.symm);rw[EL] at hy;refine⟨fn,_,assign,body,hy,roundIn_of_wpIn hfn (ajU _ k W _ ⟨_,run_beginRound hl (by rw[EL]),?_⟩)⟩;have hl2:(W.putObj (w.heap.size+1) (.loop {rec .ready none with state:=.busy})).heap[w.heap.size+1]? =some (.loop {rec .ready none with state:=.busy}):=World.putObj_heap_same hlt;have i7:(W.putObj (w.heap.size+1) (.loop {rec .ready none with state:=.busy})).heap[w.heap.size]? =some (.deferred (some [])):=(yh (by omega)).trans hd;refine wpIn_mono (ajR _ k _ hk hm (hI.putObj _ hi (by omega) hl rfl)) ?_;rintro e a3 W3 hp;cases e with
   |normal=>
    obtain⟨hk3,sj⟩:=hp;have hl3:=hk3.same _ _ (by omega) hl2 rfl;have hr:=run_endRound (P:=Tryz.prog) none hl3;have KB:=hk3.same _ _ (ar _) i7 rfl;refine⟨_,_,hr,rfl,hI.putObj _ sj (by omega) hl3 rfl,?_,(yh (by omega)).trans KB⟩;rw[EL];exact World.putObj_heap_same (eL.1 hl3).1
   |ret=>exact hp.elim
   |exit id=>exact hp.elim
   |goto t=>exact hp.elim
   |panic ch=>exact hp.elim
   |outgrown=>exact hp.elim
  ·rintro e W2 ⟨⟨v,rfl⟩,hi,hl,hd⟩;have h:=run_endLoop (P:=Tryz.prog) hl (by rw[EL];simp);rw[EL] at h;exact⟨none,_,h,hdone _ _ (ar _) (hI.putObj _ hi (by omega) hl rfl) ((yh (by omega)).trans hd)⟩
end
open Go.Shelf
variable {s:List Nat} {k m v:Nat}
def Ap:ByteArray:=⟨(([0,1,1,2,1,2,2,3,1,2,2,3,2,3,3,4,1,2,2,3,2,3,3,4,2,3,3,4,3,4,4,5,1,2,2,3,2,3,3,4,2,3,3,4,3,4,4,5,2,3,3,4,3,4,4,5,3,4,4,5,4,5,5,6].append [1,2,2,3,2,3,3,4,2,3,3,4,3,4,4,5,2,3,3,4,3,4,4,5,3,4,4,5,4,5,5,6,2,3,3,4,3,4,4,5,3,4,4,5,4,5,5,6,3,4,4,5,4,5,5,6,4,5,5,6,5,6,6,7]).append ([1,2,2,3,2,3,3,4,2,3,3,4,3,4,4,5,2,3,3,4,3,4,4,5,3,4,4,5,4,5,5,6,2,3,3,4,3,4,4,5,3,4,4,5,4,5,5,6,3,4,4,5,4,5,5,6,4,5,5,6,5,6,6,7].append [2,3,3,4,3,4,4,5,3,4,4,5,4,5,5,6,3,4,4,5,4,5,5,6,4,5,5,6,5,6,6,7,3,4,4,5,4,5,5,6,4,5,5,6,5,6,6,7,4,5,5,6,5,6,6,7,5,6,6,7,6,7,7,8])).toArray⟩
def fM (s:List Nat) (k:Nat):List Nat:=(List.range k).filter fun v=>decide (v∈s)
theorem SH (h:k∈s):fM s (k+1)=fM s k++[k]:=by rw[fM,rT,Ch,fM];simp[h]
theorem N3 (h:¬k∈s):fM s (k+1)=fM s k:=by rw[fM,rT,Ch,fM];simp[h]
theorem He:v∈fM s k↔v<k/\v∈s:=by simp[fM]
theorem SI (s:List Nat) (k:Nat):(fM s k).length<=k:=by
 have:=pR (fun v=>decide (v∈s)) (List.range k);simpa [fM] using this
def Aq (m:Nat):Nat:=((List.range 8).filter fun v=>m.testBit v).length
theorem agu (s:List Nat):Aq (aA s)=(fM s 8).length:=by
 rw[Aq,fM];congr 1
 exact List.filter_congr fun v _=>rD s v
theorem agx:((List.range 256).all fun m=>decide (Ap.data.toList[m]? =some (UInt8.ofNat (Aq m))))=true:=by decide+kernel
theorem agw (h:m<256):Ap.data.toList[m]? =some (UInt8.ofNat (Aq m)):=rS (eJ.1 agx m (bG.2 h))
theorem agv:Ap.size=256:=by decide+kernel
theorem Zn (m:Nat):Aq m<=8:=by
 have:=pR (fun v=>m.testBit v) (List.range 8);simpa [Aq] using this
theorem ahs (m:Nat) (w:World) (hm:m<256):
  Calls Tryz.prog 230 #[.int .u32 (m:Nat)] w fun e w'=>e=.returned (.int .i64 (Aq m:Nat))/\∃k,w'=w.drewN k:=by
 have h24:(m:Int)/16777216=0:=by omega
 have h16:(m:Int)/65536=0:=by omega
 have h8:(m:Int)/256=0:=by omega
 have ha:bits BinOp.and IntKind.u32 (m:Nat) 255=((m:Nat):Int):=by
  have e:(255:Int)=((255:Nat):Int):=rfl;rw[e,u32_and_nat _ _ (by omega) (by omega),show (255:Nat)=2^8 - 1 from rfl,Nat.and_two_pow_sub_one_eq_mod];omega
 have hz:bits BinOp.and IntKind.u32 0 255=0:=by decide
 have hsz:=agv;have hlt:m<Ap.size:=by omega
 have hat:∀i (h:i<Ap.size),Ap[i]=UInt8.ofNat (Aq i):=fun i h=>by
  have h1:=agw (m:=i) (by omega);rw[wm] at h1;obtain⟨h2,h3⟩:=eL.1 h1;exact h3
 have h0:Ap[0]'(by omega)=0:=hat 0 (by omega)
 obtain⟨q,rG,lB⟩:∃q:UInt8,Ap[m]'hlt=q/\q.toNat=Aq m:=⟨_,hat m hlt,by
  have:=Zn m;rw[UInt8.toNat_ofNat'];omega⟩
 have hw0:IntKind.u8.wrap 0=0:=by decide
 have dN:=Zn m;rw[<- lB] at dN
 have S6:IntKind.u8.wrap ((q.toNat:Nat):Int)=((q.toNat:Nat):Int):=by
  have:(q.toNat:Int)<256:=by omega
  rw[IntKind.wrap_u8];omega
 have fp:=hid lB;clear hat lB;have hp:Ap=⟨(([0,1,1,2,1,2,2,3,1,2,2,3,2,3,3,4,1,2,2,3,2,3,3,4,2,3,3,4,3,4,4,5,1,2,2,3,2,3,3,4,2,3,3,4,3,4,4,5,2,3,3,4,3,4,4,5,3,4,4,5,4,5,5,6].append [1,2,2,3,2,3,3,4,2,3,3,4,3,4,4,5,2,3,3,4,3,4,4,5,3,4,4,5,4,5,5,6,2,3,3,4,3,4,4,5,3,4,4,5,4,5,5,6,3,4,4,5,4,5,5,6,4,5,5,6,5,6,6,7]).append ([1,2,2,3,2,3,3,4,2,3,3,4,3,4,4,5,2,3,3,4,3,4,4,5,3,4,4,5,4,5,5,6,2,3,3,4,3,4,4,5,3,4,4,5,4,5,5,6,3,4,4,5,4,5,5,6,4,5,5,6,5,6,6,7].append [2,3,3,4,3,4,4,5,3,4,4,5,4,5,5,6,3,4,4,5,4,5,5,6,4,5,5,6,5,6,6,7,3,4,4,5,4,5,5,6,4,5,5,6,5,6,6,7,4,5,5,6,5,6,6,7,5,6,6,7,6,7,7,8])).toArray⟩:=rfl;go_enter Tryz.func230,Tryz.ntmps230;go_upto_region 1 with fail
 rw[<- hp];clear hp;go_quiet (fail)
 go_wp2;go_ret;exact⟨by rw[<- fp.o];rfl,_,rfl⟩
variable {P:List (List Nat)}
def gJ (P:List (List Nat)) (out:List Nat) (v:Nat):Bool:=!decide (v∈out)&&decide (∀u∈P.getD v [],u∈out)
def nj (P:List (List Nat)) (out:List Nat):Option Nat:=(List.range P.length).find? (gJ P out)
def aY (P:List (List Nat)):Nat ->List Nat
 |0=>[]
 |k+1=>match nj P (aY P k) with
  |some v=>aY P k++[v]
  |none=>aY P k
theorem find_range {p:Nat ->Bool}:∀ {n v:Nat},v< n ->p v=true ->(∀u,u< v ->p u=false) ->(List.range n).find? p=some v:=by
 intro n;induction n with
 |zero=>intro v h;omega
 |succ n ih=>
  intro v hv hp hu;rw[rT,List.find?_append];rcases cD v n with h |h
  ·rw[ih h hp hu];rfl
  ·obtain rfl:v=n:=by omega
   (have:(List.range v).find? p=none:=List.find?_eq_none.2 fun u J9=>by rw[hu u (bG.1 J9)];decide);rw[this];simp[hp]
theorem ahI {out:List Nat} (hv:v<P.length) (hp:gJ P out v=true) (hu:∀u,u< v ->gJ P out u=false):nj P out=some v:=find_range hv hp hu
theorem ahJ {out:List Nat} (hu:∀u,u<P.length ->gJ P out u=false):nj P out=none:=List.find?_eq_none.2 fun u J9=>by rw[hu u (bG.1 J9)];decide
theorem adn (h:nj P (aY P k)=some v):aY P (k+1)=aY P k++[v]:=by rw[aY,h]
theorem ZU (h:nj P (aY P k)=none):∀j,aY P (k+j)=aY P k
 |0=>rfl
 |j+1=>by
  have ih:=ZU h j;show aY P (k+j+1)=_;rw[aY,ih,h]
theorem ZR (h:nj P (aY P k)=none) (hk:k<=n):aY P n=aY P k:=by
 have:=ZU h (n - k);rwa [show k+(n - k)=n by omega] at this
theorem Ct (P:List (List Nat)):∀k,(aY P k).length<=k
 |0=>ar _
 |k+1=>by
  have:=Ct P k;rw[aY];cases nj P (aY P k) with
  |none=>show (aY P k).length<=_;omega
  |some v=>show (aY P k++[v]).length<=_;rw[dM];simp;omega
theorem Ep (P:List (List Nat)):∀k,∀v∈aY P k,v<P.length
 |0,v,hv=>by cases hv
 |k+1,v,hv=>by
  rw[aY] at hv;cases e:nj P (aY P k) with
  |none=>rw[e] at hv;exact Ep P k v hv
  |some u=>
   rw[e] at hv;rcases aa5.1 hv with h |h
   ·exact Ep P k v h
   ·obtain rfl:=fX.1 h;exact bG.1 (Xf e)
def aI (L:List (List Int)):List (List Nat):=L.map ag
theorem lp (L:List (List Int)):(aI L).length=L.length:=by simp[aI]
theorem NB (h:i<L.length):(aI L).getD i []=ag L[i]:=by simp[aI,b7,h]
theorem Hf (L:List (List Int)):jO L=(aI L).map aA:=by simp[jO,aI]
theorem N9 (a b:List Nat):iL (a++b)=iL a++iL b:=by simp[iL]
def bE (L:List (List Int)):Int:=if gB L=true then(if (aY (aI L) L.length).length<L.length then 10 else 0) else 11
section
attribute [local go_sem] Oper.semAt_some
variable {Bn:Nat}
def Fv (B:Nat) (w:World) (a:Option Addr) (l:List Int):Prop:=∀k (h:k<l.length),∃g o,a=some ⟨g,o,none⟩/\g<B/\w.cell? ⟨g,o+k,none⟩=some (.int .i64 l[k])
theorem Fv.aa {B:Nat} (h:Fv B w a l) (hb:Below B w w'):Fv B w' a l:=fun k hk=>by
 obtain⟨g,o,h1,h2,h3⟩:=h k hk;exact⟨g,o,h1,h2,(hb.cell (p:=⟨g,_,none⟩) h2).trans h3⟩
theorem aaK.toB (h:aaK w a l):Fv w.heap.size w a l:=h
def qX (Bn B:Nat) (V V':World):Prop:=nR Bn V V'/\Below B V V'
theorem qX.t {B:Nat} {X Y Z:World} (h:qX Bn B X Y) (k:qX Bn B Y Z):qX Bn B X Z:=⟨h.1.t k.1,h.2.trans k.2⟩
theorem qX.b {B:Nat} (hn:Bn<w.heap.size) (hB:B<=w.heap.size) (V:World) (l:Nat) (o o':Obj) (hl:w.heap.size<=l) (h1:V.heap[l]? =some o) (h2:o.isCells=false) (h3:o.isWalk=false):qX Bn B V (V.putObj l o'):=
 ⟨nR.b hn V l o o' hl h1 h2 h3,tA hB V l o o' hl h1 h2 h3⟩
def nM (n k:Nat):List Nat:=(List.range k).map fun j=>n - 1 - j
theorem Py (n k:Nat):nM n (k+1)=nM n k++[n - 1 - k]:=by simp[nM,rT]
theorem amC (n k:Nat):(nM n k).length=k:=by simp[nM]
abbrev At (l:List Int):Type:= {i:Nat//i<l.length}
abbrev Vk (l:List Int) (x:At l):Array Value:= #[.int .i64 (x.1:Nat),.int .i64 (l[x.1]'x.2)]
theorem amB (n:Nat) (hn:1<=n) (l Bn B:Nat) (a:Option Addr) (cap:Nat) (xs:List Int) (hl:xs.length<=140737488355328) (J Jx:List (At xs) ->World ->Prop)
  (hY:∀pre x V,J pre V ->pre.length<xs.length ->YieldAt Fence.wide (n - 1) Tryz.prog l (Vk xs x) V fun e V'=>
   (e=.returned (.bool true)/\J (pre++[x]) V'/\qX Bn B V V')∨(e=.returned (.bool false)/\Jx (pre++[x]) V'))
  (V:World) (Fe:V.cell? ⟨Bn,0,none⟩=some (.slice a xs.length cap)) (hx:Fv B V a xs) (h0:J [] V):
  CallsIn Fence.wide n Tryz.prog 201 #[.func (.yield l) #[] #[],.pointer (some ⟨Bn,0,none⟩)] V fun e V'=>(∃v,e=.returned v)/\
   ((∃ys:List (At xs),ys.map (·.1)=nM xs.length xs.length/\J ys V')∨(∃pre:List (At xs),(∃k,k<=xs.length/\pre.map (·.1)=nM xs.length k)/\Jx pre V')):=by
 have HX:=hid hx;clear hx;refine Gj Tryz.func201 rfl trivial ?_ rfl;simp only[Tryz.ntmps201,mP,eU,lg,Nat.reduceAdd,Nat.reduceSub,mV,mU,mQ,lZ,iD,fg];gi_wp2
 gi_loopw [3] (fun i wr=>∃(k:Nat) (pre:List (At xs)),k<=xs.length/\i=.int .i64 ((xs.length:Int) - 1 - (k:Int))/\Hid (pre.map (·.1)=nM xs.length k)/\J pre wr/\wr.cell? ⟨Bn,0,none⟩=some (.slice a xs.length cap)/\Hid (Fv B wr a xs))
  (fun i _=>(intOf i+1).toNat)
 case atStart=>exact⟨0,[],aU _,by simp,rfl,h0,Fe,HX⟩
 case round=>
  obtain⟨k,pre,hk,rfl,HP,hJs,bW,HB⟩:=hrel;by_cases hlt:k<xs.length
  ·have hpl:pre.length=k:=by have:=bR List.length HP.o;rwa [c5,amC] at this
   (have hi:xs.length - 1 - k<xs.length:=by omega);obtain⟨fn,tmps,assign,body,hy,hR⟩:=hY pre ⟨xs.length - 1 - k,hi⟩ wr hJs (by omega);obtain⟨g,o,rfl,hg,c0⟩:=HB.o (xs.length - 1 - k) hi;(have HS:Hid ((pre++[(⟨xs.length - 1 - k,hi⟩:At xs)]).map (·.1)=nM xs.length (k+1)):=by show _=_;rw[fY,HP.o,Py];rfl);have HR:=hid hR;clear hR;rw[Vk] at hy;simp only at hy;(have F8:Hid ((xs.length:Int) - 1 - ((k+1:Nat):Int)=(xs.length:Int) - 1 - (k:Int) - 1):=by show _=_;omega);(have Uu:(xs.length:Int) - 1 - (k:Int)=((xs.length - 1 - k:Nat):Int):=by omega);rw[Uu];have HEE:=hid Uu;clear Uu;have OQ:xs.length - 1 - k<xs.length:=hi;generalize hEn:xs[xs.length - 1 - k]=xv at *;generalize Ut:xs.length - 1 - k=E at *;gi_wp2
   refine HR.o.ae ?_;rintro e W3 (⟨rfl,hJ3,hk3⟩ |⟨rfl,hJx3⟩)
   ·have TR:=Eq.trans hk3.1 bW;have bU:=HB.o.aa hk3.2;gi_wp2
    go_roundw
    case rel=>exact⟨k+1,_,by omega,by rw[F8.o,HEE.o],HS,hJ3,TR,bU⟩
    case measure=>simp[intOf]
   ·gi_wp2
    refine bB (results_none rfl _ _ _) rfl ?_;exact⟨⟨_,rfl⟩,.inr ⟨_,⟨k+1,by omega,HS.o⟩,hJx3⟩⟩
  ·obtain rfl:k=xs.length:=by omega
   (have he:(xs.length:Int) - 1 - (xs.length:Int)= -1:=by omega);rw[he];gi_wp2
   go_end0
   exact⟨⟨_,rfl⟩,.inl ⟨_,HP.o,hJs⟩⟩
end
variable {K:Act ->World ->Prop} {ops:Array Oper} {Q:Exit ->Act ->World ->Prop}
def JO (ops:Array Oper):Bool:=ops.all fun o=>match o.op with |.defer _=>false |_=>true
theorem agG (h:JO ops=true) {o:Oper} (ho:ops[i]? =some o):∀c,o.op≠.defer c:=by
 intro c e;rw[JO,Array.all_eq_true] at h;obtain⟨hi,he⟩:=eL.1 ho;have:=h i hi;rw[he,e] at this;cases this
theorem ahq {l:Nat} {P:Program} (iZ:JO ops=true) (hlo:¬LetsOut Q) {K':Act ->World ->Prop} {a:Act} (hK:∀a w,K a w ->K' a w)
  (h:wpOp P ops Q i K a w):wpOpIn (Fence.wide.inRound l) n P ops Q i K' a w:=by
 unfold wpOp at h;unfold wpOpIn;cases ho:ops[i]? with
 |none=>rw[ho] at h;exact hK _ _ h
 |some o=>
  rw[ho] at h;simp only at h⊢;by_cases hw:Region.wanted o (yielded ops a.tmps)=true
  ·rw[aaf hw] at h⊢;rcases h with h |h
   ·refine⟨fun _ _=>trivial,?_⟩;rw[Oper.semAt_eq _ _ _ (agG iZ ho)];unfold Oper.wp at h;generalize (execOp a.eval o).run P w=r at *;cases r with
    |ok nx w'=>
     cases nx with
     |value v=>exact hK _ _ h
     |skip=>exact hK _ _ h
     |defer d=>exact hK _ _ h
     |enter f args=>
      refine⟨fun hd=>absurd hd (show ¬Fence.wide.depth.isSome=true by decide),(gZ (n:=n - 1)).2 (Calls.ae h ?_)⟩;intro e w'' he;cases e with
      |returned v=>exact hK _ _ he
      |panicked c=>exact he
      |outgrown=>exact he
     |row r args=>exact⟨fun hd=>absurd hd (show ¬Fence.wide.depth.isSome=true by decide),fun c cs _=>let ⟨v,w2,r,s⟩:=h c cs;⟨v,w2,hK _ _ r,stepsIn_wide.2 s⟩⟩
     |_=>exact h.elim
    |halt hl w'=>
     cases hl with
     |panic v=>exact h
     |_=>exact h.elim
   ·exact absurd h.2 hlo
  ·rw[aaO hw] at h⊢;exact⟨fun _ _=>trivial,hK _ _ h⟩
theorem ac0 {l:Nat} {P:Program} {md:Region.Mode} (iZ:JO ops=true) (hlo:¬LetsOut Q):∀(fuel:Nat) (listed:Array Bool) (a:Act) (w:World),wpAny P md ops Q fuel listed a w ->wpAnyIn (Fence.wide.inRound l) n P md ops Q fuel listed a w
 |0,_,_,_,h=>h
 |fuel+1,_,_,_,h=>⟨h.1,fun i hi=>ahq iZ hlo (fun a w=>ac0 iZ hlo fuel _ a w) (h.2 i hi)⟩
theorem uL {l id:Nat} {P:Program} {a:Act} (S:World ->Prop) (hm:P.follows .mixedOrders=true) (iZ:JO ops=true) (hlo:¬LetsOut Q) (hS:S w.drew)
  (h:S w.drew ->wpAnyH P .any ops Q S ops.size (Array.replicate ops.size false) a w.drew):(Code.region id ops true).wpIn (Fence.wide.inRound l) n P Q a w:=
 wpIn_region_any hm (ac0 iZ hlo _ _ _ _ (wpAny_of_held _ _ _ _ (h hS)))
section
attribute [local go_sem] Oper.semAt_some
variable {S vs:List Nat} {V:World}
def Dj (S vs:List Nat) (st:Nat×List Nat) (i:Nat):Nat×List Nat:=(st.1/sz S (vs.getD i 0),st.2.set i (st.1 % sz S (vs.getD i 0)))
def jF (S vs:List Nat) (K n:Nat) (pre:List Nat):Nat×List Nat:=pre.foldl (Dj S vs) (K,List.replicate n 0)
theorem Vm (S vs:List Nat) (K n:Nat) (pre:List Nat) (i:Nat):jF S vs K n (pre++[i])=Dj S vs (jF S vs K n pre) i:=by simp[jF]
theorem acV (S vs:List Nat) (K n:Nat) (pre:List Nat):(jF S vs K n pre).1<=K/\(jF S vs K n pre).2.length=n:=by
 have key:∀(l:List Nat) (st:Nat×List Nat),st.1<=K ->st.2.length=n ->(l.foldl (Dj S vs) st).1<=K/\(l.foldl (Dj S vs) st).2.length=n:=by
  intro l;induction l with
  |nil=>intro st h1 h2;exact⟨h1,h2⟩
  |cons i l ih=>
   intro st h1 h2;exact ih _ (aS (wh _ _) h1) (by simp[Dj,h2])
 exact key pre _ (ar _) (by simp)
theorem acW (S vs:List Nat) (K:Nat):∀m,m<=vs.length ->jF S vs K vs.length (nM vs.length m)=(K/cnt S (vs.drop (vs.length - m)),List.replicate (vs.length - m) 0++bM S (vs.drop (vs.length - m)) (K % cnt S (vs.drop (vs.length - m))))
 |0,_=>by simp[jF,nM,cnt,bM]
 |m+1,h=>by
  rw[Py,Vm,acW S vs K m (by omega)];have hj:vs.length - 1 - m<vs.length:=by omega
  have e1:vs.length - (m+1)=vs.length - 1 - m:=by omega
  have e2:vs.length - m=(vs.length - 1 - m)+1:=by omega
  have hd:vs.drop (vs.length - 1 - m)=vs[vs.length - 1 - m]::vs.drop ((vs.length - 1 - m)+1):=mS hj;rw[e1,e2,hd,Dj,A9 hj];generalize vs.drop ((vs.length - 1 - m)+1)=rest;generalize vs[vs.length - 1 - m]=v;generalize vs.length - 1 - m=j;simp only[cnt,bM];rw[aas,SG,QI,abr (cnt S rest),List.replicate_succ',rW,Ed _ _ (by simp)];simp
theorem acX {K:Nat} (h:K<cnt S vs):jF S vs K vs.length (nM vs.length vs.length)=(0,bM S vs K):=by
 rw[acW S vs K _ (ar _),qE];simp[jM h,ym h]
theorem Px (n:Nat) (a:Option Addr) (len cap:Nat) (w:World):
  CallsIn Fence.wide n Tryz.prog 159 #[.slice a len cap] w fun e w'=>e=.returned (.func (.func 201) #[] #[.pointer (some ⟨w.heap.size,0,none⟩)])/\w'=w.alloc (.cells #[.slice a len cap] 27):=by
 refine Gj Tryz.func159 rfl trivial ?_ rfl;simp only[Tryz.ntmps159,mP,eU,lg,Nat.reduceAdd,Nat.reduceSub,mV,mU,mQ,lZ,iD,fg];gi_wp2
 go_ret;exact⟨rfl,rfl⟩
theorem Pv (n:Nat) (hn:1<=n) (Bn B:Nat) (a:Option Addr) (cap:Nat) (xs:List Int) (hl:xs.length<=140737488355328) (w:World) (Fe:Bn<w.heap.size) (hB:B<=w.heap.size) (hc:w.cell? ⟨Bn,0,none⟩=some (.slice a xs.length cap)) (hx:Fv B w a xs):
  SeqStopsK Fence.wide n Tryz.prog 201 #[.pointer (some ⟨Bn,0,none⟩)] (Vk xs) (qX Bn B) (fun ys=>ys.map (·.1)=nM xs.length xs.length) (fun pre=>∃k,k<=xs.length/\pre.map (·.1)=nM xs.length k) xs.length w:=fun l J Jx V hV _ _ hY h0=>
 amB n hn l Bn B a cap xs hl J Jx hY V ((hV.cell (p:=⟨Bn,0,none⟩) Fe).trans hc) (hx.aa (hV.ae hB)) h0
theorem GX {β:Type} (g:Nat) (f:β ->List Nat):Own (fun s W=>bV W g (f s)):=fun s X Y row hs hg hrow=>by
 refine(hg.block g hs.lt fun e'=>?_).trans hs;obtain⟨o,ho,hc⟩:=hrow g e'.symm;rw[show X.heap[g]? =_ from hs] at ho;cases ho;cases hc
theorem SL (w:World) (n:Nat):bV (w.alloc (.cells (madeCells #[Value.int .i64 0] n) 3)) w.heap.size (List.replicate n 0):=by
 have h:(madeCells #[Value.int .i64 0] n).toList=(List.replicate n (0:Nat)).map iv:=by
  have:=AB n;rwa [mN,show (Value.int .i64 0).cells= #[Value.int .i64 0] from rfl] at this
 have e:madeCells #[Value.int .i64 0] n=((List.replicate n (0:Nat)).map iv).toArray:=by rw[<- h]
 rw[bV, <- e];exact kd _ _
theorem bV.alloc {l:List Nat} (h:bV w g l) (o:Obj):bV (w.alloc o) g l:=(rY w o g h.lt).trans h
theorem eO {t:TypeId} {v:Value} (h:Boxed V k t v) (b j:Nat) (y:Value) (hne:k≠b):Boxed (V.setCell ⟨b,j,none⟩ y) k t v:=(je V ⟨b,j,none⟩ y k hne).trans h
theorem bV.off {l:List Nat} (h:bV V g l) (b j:Nat) (y:Value) (hne:g≠b):bV (V.setCell ⟨b,j,none⟩ y) g l:=(je V ⟨b,j,none⟩ y g hne).trans h
end
section
attribute [local go_sem] Oper.semAt_some
variable {S:List Nat}
def mg (S:List Nat) (n:Nat) (vs:List Nat):List Nat:=(List.range n).map (stp S vs)
theorem pW (S:List Nat) (n:Nat) (vs:List Nat):(mg S n vs).length=n:=by simp[mg]
theorem aeN (S:List Nat) (n:Nat):mg S n []=List.replicate n 0:=by
 apply pS<;>simp[mg,stp]
theorem aeP (S:List Nat) (n u:Nat) (vs:List Nat):(mg S n vs).set u (cnt S vs)=mg S n (u::vs):=by
 apply pS
 ·simp[mg]
 ·intro i h1 h2;simp only[mg,List.getElem_set,acj,qH,stp];by_cases e:u=i
  ·rw[aaf e,aaf e.symm]
  ·rw[aaO e,aaO (fun h=>e h.symm)]
theorem aeO (S:List Nat) (n:Nat) (vs:List Nat) (h:v<n):(mg S n vs)[v]'(by rw[pW];exact h)=stp S vs v:=by simp[mg]
def Cn (S vs:List Nat) (st:Nat×List Nat) (i:Nat):Nat×List Nat:=(st.1*sz S (vs.getD i 0),st.2.set (vs.getD i 0) st.1)
def pX (S vs:List Nat) (n:Nat) (pre:List Nat):Nat×List Nat:=pre.foldl (Cn S vs) (1,List.replicate n 0)
theorem Ym (S vs:List Nat) (n:Nat) (pre:List Nat) (i:Nat):pX S vs n (pre++[i])=Cn S vs (pX S vs n pre) i:=by simp[pX]
theorem Yn (S vs:List Nat) (n:Nat):∀m,m<=vs.length ->pX S vs n (nM vs.length m)=(cnt S (vs.drop (vs.length - m)),mg S n (vs.drop (vs.length - m)))
 |0,_=>by simp[pX,nM,cnt,aeN]
 |m+1,h=>by
  rw[Py,Ym,Yn S vs n m (by omega)];have hj:vs.length - 1 - m<vs.length:=by omega
  have e1:vs.length - (m+1)=vs.length - 1 - m:=by omega
  have e2:vs.length - m=(vs.length - 1 - m)+1:=by omega
  have hd:vs.drop (vs.length - 1 - m)=vs[vs.length - 1 - m]::vs.drop ((vs.length - 1 - m)+1):=mS hj;rw[e1,e2,hd,Cn,A9 hj];simp only[cnt,aeP];rw[abr]
theorem aeQ (hs:∀v,sz S v<=4) (vs:List Nat) (n:Nat) (pre:List Nat):(pX S vs n pre).1<=4^pre.length/\(pX S vs n pre).2.length=n:=by
 have key:∀(l:List Nat) (st:Nat×List Nat),st.2.length=n ->(l.foldl (Cn S vs) st).1<=st.1*4^l.length/\(l.foldl (Cn S vs) st).2.length=n:=by
  intro l;induction l with
  |nil=>intro st h2;exact⟨by simp,h2⟩
  |cons i l ih=>
   intro st h2;obtain⟨h3,h4⟩:=ih (Cn S vs st i) (by simp[Cn,h2]);refine⟨aS h3 ?_,h4⟩;show st.1*sz S (vs.getD i 0)*4^l.length<=st.1*4^(l.length+1);rw[jc,abr (4^l.length), <- il];exact jK _ (kZ _ (hs _))
 have h:=key pre (1,List.replicate n 0) (by simp);rwa [kB] at h
theorem aeR (S vs:List Nat) (n:Nat):pX S vs n (nM vs.length vs.length)=(cnt S vs,mg S n vs):=by
 rw[Yn S vs n _ (ar _),qE,yq]
theorem Yo (a b:Option Addr) (ca cb:Nat) (sizes vars:List Int) (w:World) (hs:aaK w a sizes) (hv:aaK w b vars) (aJ:eH sizes) (aX:Up vars sizes.length):
  Calls Tryz.prog 199 #[.slice a sizes.length ca,.slice b vars.length cb] w fun e w'=>∃(c cc:Nat),e=.returned (.slice (some ⟨c,0,none⟩) sizes.length cc)/\w.heap.size<=c/\aaK w' (some ⟨c,0,none⟩) (iL (mg (ag sizes) sizes.length (ag vars)))/\Below w.heap.size w w':=by
 refine(gZ (n:=6)).1 ?_;have nD:=aJ.eight;have hvl:=aX.length;have hsm:cnt (ag sizes) (ag vars)<=65536:=pw aJ.sz_le (by rw[cS];omega);have hmk:=fun V=>run_make_row' (P:=Tryz.prog) 27 3 (.int .i64 0) 8 Tryz.underlying27 Tryz.infoInt rfl .i64 .i64 sizes.length (by omega) (by omega) V;have HS:=hid hs;have HV:=hid hv;have HFI:=hid aJ;have gz:=hid aX;have qC:=hid (aeR (ag sizes) (ag vars) sizes.length);rw[cS] at qC;clear hs hv aJ aX;refine tz Tryz.func199 rfl trivial ?_ rfl;simp only[Tryz.ntmps199,mP,eU,lg,Nat.reduceAdd,Nat.reduceSub,mV,mU,mQ,lZ,iD,fg];gi_wp2_with ((refine⟨trivial,?_⟩;gi_at_call 159;refine(Px _ _ _ _ _).ae ?_;rintro e w2 ⟨rfl,rfl⟩))
 obtain⟨W0,hW0⟩:∃W0,W0=(((((w.alloc (.cells #[.slice a sizes.length ca] 27)).alloc (.cells #[.int .i64 1] 3)).alloc (.cells (madeCells #[.int .i64 0] sizes.length) 3)).alloc (.cells #[.slice (some ⟨w.heap.size+1+1,0,none⟩) sizes.length sizes.length] 27)).alloc (.cells #[.slice b vars.length cb] 27)):=⟨_,rfl⟩;have vk:W0.heap.size=w.heap.size+1+1+1+1+1:=by rw[hW0];simp
 have b0:Boxed W0 w.heap.size 27 (.slice a sizes.length ca):=by rw[hW0];exact((((a7 w _ _).alloc _).alloc _).alloc _).alloc _
 have b1:Boxed W0 (w.heap.size+1) 3 (.int .i64 1):=by
  have h:=((((a7 (w.alloc (.cells #[.slice a sizes.length ca] 27)) 3 (.int .i64 1)).alloc (.cells (madeCells #[.int .i64 0] sizes.length) 3)).alloc (.cells #[.slice (some ⟨w.heap.size+1+1,0,none⟩) sizes.length sizes.length] 27)).alloc (.cells #[.slice b vars.length cb] 27));rw[cN] at h;rw[hW0];exact h
 have r2:bV W0 (w.heap.size+1+1) (List.replicate sizes.length 0):=by
  have h:=((SL ((w.alloc (.cells #[.slice a sizes.length ca] 27)).alloc (.cells #[.int .i64 1] 3)) sizes.length).alloc (.cells #[.slice (some ⟨w.heap.size+1+1,0,none⟩) sizes.length sizes.length] 27)).alloc (.cells #[.slice b vars.length cb] 27);rw[cN,cN] at h;rw[hW0];exact h
 have b3:Boxed W0 (w.heap.size+1+1+1) 27 (.slice (some ⟨w.heap.size+1+1,0,none⟩) sizes.length sizes.length):=by
  have h:=(a7 (((w.alloc (.cells #[.slice a sizes.length ca] 27)).alloc (.cells #[.int .i64 1] 3)).alloc (.cells (madeCells #[.int .i64 0] sizes.length) 3)) 27 (.slice (some ⟨w.heap.size+1+1,0,none⟩) sizes.length sizes.length)).alloc (.cells #[.slice b vars.length cb] 27);rw[cN,cN,cN] at h;rw[hW0];exact h
 have b4:Boxed W0 (w.heap.size+1+1+1+1) 27 (.slice b vars.length cb):=by
  have h:=a7 ((((w.alloc (.cells #[.slice a sizes.length ca] 27)).alloc (.cells #[.int .i64 1] 3)).alloc (.cells (madeCells #[.int .i64 0] sizes.length) 3)).alloc (.cells #[.slice (some ⟨w.heap.size+1+1,0,none⟩) sizes.length sizes.length] 27)) 27 (.slice b vars.length cb);rw[cN,cN,cN,cN] at h;rw[hW0];exact h
 have hB0:Below w.heap.size w W0:=by
  rw[hW0];exact(((((au _ w).alloc (ar _) _).alloc (by simp) _).alloc (by simp;omega) _).alloc (by simp;omega) _).alloc (by simp;omega) _
 rw[<- hW0];clear hW0
 refine I2 (α:=At vars) rfl (by omega) (gf:=201) (lb:= #[.pointer (some ⟨w.heap.size+1+1+1+1,0,none⟩)]) rfl trivial (enters_of Tryz.func201 (by kernel_rfl) rfl)
  (Pv 5 (by omega) (w.heap.size+1+1+1+1) w.heap.size b cb vars (by omega) W0 (by omega) (by omega) b4.cell (HV.o.toB.aa hB0)) qX.t (qX.b (by omega) (by omega)) (au _ _) (fun _=>rfl)
  (fun (pre:List (At vars)) V=>Boxed V w.heap.size 27 (.slice a sizes.length ca)/\Boxed V (w.heap.size+1) 3 (.int .i64 ((pX (ag sizes) (ag vars) sizes.length (pre.map (·.1))).1:Nat))/\bV V (w.heap.size+1+1) (pX (ag sizes) (ag vars) sizes.length (pre.map (·.1))).2/\Boxed V (w.heap.size+1+1+1) 27 (.slice (some ⟨w.heap.size+1+1,0,none⟩) sizes.length sizes.length)/\Boxed V (w.heap.size+1+1+1+1) 27 (.slice b vars.length cb)/\Below w.heap.size w V)
  (fun _ _ _=>False)
  (eI (fG (iC _ _ (fun _=>_)) _) (eI (fG (iC _ _ (fun pre:List (At vars)=>.int .i64 ((pX (ag sizes) (ag vars) sizes.length (pre.map (·.1))).1:Nat))) _) (eI (fG (GX _ (fun pre:List (At vars)=>(pX (ag sizes) (ag vars) sizes.length (pre.map (·.1))).2)) _) (eI (fG (iC _ _ (fun _=>_)) _) (eI (fG (iC _ _ (fun _=>_)) _) (yg (ar _) (by omega)))))))
  (fun _ _ _ _ _ hs _ _=>hs)
  ⟨b0,b1,r2,b3,b4,hB0⟩
  (fun x=> {tmps:= #[.slice a sizes.length ca,.slice b vars.length cb,.pointer (some ⟨w.heap.size,0,none⟩),undef,.slice none 0 0,.pointer (some ⟨w.heap.size+1,0,none⟩),.pointer (some ⟨w.heap.size+1+1+1,0,none⟩),undef,.int .i64 (vars[x.1]'x.2),.slice a sizes.length ca,.int .i64 (sizes.length:Nat),.slice (some ⟨w.heap.size+1+1,0,none⟩) sizes.length sizes.length,.slice b vars.length cb,.func (.func 201) #[] #[.pointer (some ⟨w.heap.size+1+1+1+1,0,none⟩)],.int .i64 (x.1:Nat),.int .i64 (vars[x.1]'x.2),undef,undef,undef,undef,undef,undef,undef,undef,undef,undef,undef],defers:=[]}) ?assign ?body ?done ?stop
 case assign=>
  intro l x V K hK;gi_wp2
  exact hK
 case body=>
  rintro l pre ⟨i,hi⟩ V ⟨h0,h1,h2,h3,h4,hB⟩ hlt;obtain⟨gO,gH⟩:=gz.o.nat hi
  have HST:Hid (pX (ag sizes) (ag vars) sizes.length ((pre++[(⟨i,hi⟩:At vars)]).map (·.1))=((pX (ag sizes) (ag vars) sizes.length (pre.map (·.1))).1*sz (ag sizes) vars[i].toNat,(pX (ag sizes) (ag vars) sizes.length (pre.map (·.1))).2.set vars[i].toNat (pX (ag sizes) (ag vars) sizes.length (pre.map (·.1))).1)):=by
   show _=_;rw[fY,gQ,ld,Ym,Cn,A9 (show i<(ag vars).length by rw[cS];exact hi),o6 hi]
  obtain⟨jn,hpl⟩:=aeQ HFI.o.sz_le (ag vars) sizes.length (pre.map (·.1));have MZ:(4:Nat)^(pre.map (·.1)).length<=16384:=aS (lW (by omega) (show (pre.map (·.1)).length<=7 by rw[c5];omega)) (by decide);have aa7:=aS jn MZ;have hz:=im HFI.o.pos vars[i].toNat;have tJ:=HFI.o.sz_le vars[i].toNat;clear jn MZ;generalize hV:vars[i].toNat=v at *;rw[<- gO];obtain⟨g',o',rfl,iK,c1⟩:=(HS.o.aa hB) v gH;rw[<- HFI.o.sz_eq gH] at c1
  have hg2:g'<w.heap.size:=by
   obtain⟨g3,o3,e3,h3,_⟩:=HS.o v gH;cases e3;exact h3
  clear gO hV;generalize pX (ag sizes) (ag vars) sizes.length (pre.map (·.1))=st at *;obtain⟨p,uP⟩:=st;simp only at h1 h2 aa7 hpl HST;generalize sz (ag sizes) v=s0 at *;have hrow:=h2.cell v (by omega);have hfz:=h2.fz v;have k0:=h0.cell;have k1:=h1.cell;have k3:=h3.cell;have df:p*s0<=65536:=aS (iW aa7 tJ) (by decide);have Tp:(p:Int)*(s0:Int)=((p*s0:Nat):Int):=(iH _ _).symm;have eN:v<uP.length:=by omega
  generalize uP[v]=z at *;have hw2:IntKind.i64.wrap ((p:Int)*(s0:Int))=(p:Int)*(s0:Int):=by rw[Tp,eo];omega
  have HPM:=hid Tp;clear Tp;clear hmk b0 b1 r2 b3 b4 hB0 vk qC gz HFI HV hsm hpl;gi_wp2_with fail
  have far:∀(b j:Nat),¬w.heap.size+1+1=b ->(V.setCell ⟨w.heap.size+1+1,v,none⟩ (.int .i64 (p:Int))).cell? ⟨b,j,none⟩=V.cell? ⟨b,j,none⟩:=fun b j hb=>bX _ _ _ _ (fun e=>hb (by cases e;rfl));have m2:=(far g' (o'+v) (by omega)).trans c1;have q0:Boxed (V.setCell ⟨w.heap.size+1+1,v,none⟩ (.int .i64 (p:Int))) w.heap.size 27 (.slice (some ⟨g',o',none⟩) sizes.length ca):=eO h0 _ v _ (by omega);have q1:Boxed (V.setCell ⟨w.heap.size+1+1,v,none⟩ (.int .i64 (p:Int))) (w.heap.size+1) 3 (.int .i64 (p:Nat)):=eO h1 _ v _ (by omega);have q3:Boxed (V.setCell ⟨w.heap.size+1+1,v,none⟩ (.int .i64 (p:Int))) (w.heap.size+1+1+1) 27 (.slice (some ⟨w.heap.size+1+1,0,none⟩) sizes.length sizes.length):=eO h3 _ v _ (by omega);have q4:Boxed (V.setCell ⟨w.heap.size+1+1,v,none⟩ (.int .i64 (p:Int))) (w.heap.size+1+1+1+1) 27 (.slice b vars.length cb):=eO h4 _ v _ (by omega);have q2:bV (V.setCell ⟨w.heap.size+1+1,v,none⟩ (.int .i64 (p:Int))) (w.heap.size+1+1) (uP.set v p):=h2.set v p;have qB:Below w.heap.size w (V.setCell ⟨w.heap.size+1+1,v,none⟩ (.int .i64 (p:Int))):=hB.setCell (p:=⟨w.heap.size+1+1,v,none⟩) (by simp;omega) _;have qK:Below w.heap.size V (V.setCell ⟨w.heap.size+1+1,v,none⟩ (.int .i64 (p:Int))):=(au w.heap.size V).setCell (p:=⟨w.heap.size+1+1,v,none⟩) (by simp;omega) _;have qO:KeepsOthers V (V.setCell ⟨w.heap.size+1+1,v,none⟩ (.int .i64 (p:Int))):=iG V _ _;have j4:nR (w.heap.size+1+1+1+1) V (V.setCell ⟨w.heap.size+1+1,v,none⟩ (.int .i64 (p:Int))):=q4.cell.trans h4.cell.symm;have m0:=q0.cell
  have m1:=q1.cell;have fU:=q1.frozen;clear far;generalize (V.setCell ⟨w.heap.size+1+1,v,none⟩ (.int .i64 (p:Int)))=U at *;refine uL (fun u=>u.cell? ⟨w.heap.size,0,none⟩=some (.slice (some ⟨g',o',none⟩) sizes.length ca)/\u.cell? ⟨g',o'+v,none⟩=some (.int .i64 (s0:Nat))) (by kernel_rfl) (by kernel_rfl) (fun ⟨_,_,h⟩=>h) ⟨m0,m2⟩ ?_;intro aq;refine cK 1 (.slice (some ⟨g',o',none⟩) sizes.length ca) ?_ ?_
  ·intro u aL;obtain⟨s3,s4⟩:=aL;simp only[gE];go_simp
  simp only[gE,aP];refine cK 2 (.int .i64 (v:Nat)) ?_ ?_
  ·intro u aL;obtain⟨s3,s4⟩:=aL;simp only[gE];go_simp
  simp only[gE,aP];refine cK 3 (.pointer (some ⟨g',o'+v,none⟩)) ?_ ?_
  ·intro u aL;obtain⟨s3,s4⟩:=aL;simp only[gE];go_simp
  simp only[gE,aP];refine cK 4 (.int .i64 (s0:Nat)) ?_ ?_
  ·intro u aL;obtain⟨s3,s4⟩:=aL;simp only[gE];go_simp
  simp only[gE,aP];refine aF [0] (cA ?_ aD);intro K' hK';simp only[gE];go_simp;refine hK'.o _ _ aq (fun _=>?_);clear hK' K';refine cK 5 (.int .i64 ((p:Int)*(s0:Int))) ?_ ?_
  ·intro u aL;obtain⟨s3,s4⟩:=aL;simp only[gE];go_simp
  simp only[gE,aP];refine aF [6] (cA ?_ aD);intro K' hK';simp only[gE];go_simp;refine hK'.o _ _ ⟨(eO q0 (w.heap.size+1) 0 _ (by omega)).cell,(bX _ _ _ _ (fun e=>(show ¬w.heap.size+1=g' by omega) (bR Addr.block e))).trans m2⟩ (fun _=>dW (by kernel_rfl) ?_ _);clear hK' K' aq;gi_wp2
  rw[HPM.o];refine⟨(qO.trans ((iG U _ _).trans (wk _))).from _,⟨j4.t ((eO q4 (w.heap.size+1) 0 (.int .i64 ((p*s0:Nat):Int)) (by omega)).cell.trans q4.cell.symm),(qK.setCell (p:=⟨w.heap.size+1,0,none⟩) (by simp) _).drew⟩,?_⟩;refine⟨eO q0 _ 0 _ (by omega),?_,?_,eO q3 _ 0 _ (by omega),eO q4 _ 0 _ (by omega),(qB.setCell (p:=⟨w.heap.size+1,0,none⟩) (by simp) _).drew⟩
  ·rw[HST.o];exact q1.set _
  ·rw[HST.o];exact q2.off _ 0 _ (by omega)
 case done=>
  rintro D ys V hD yL ⟨h0,h1,h2,h3,h4,hB⟩ hK;rw[yL,qC.o] at h2;have hc:=h3.cell;gi_wp2
  refine⟨by simp,.inl ⟨_,_,rfl,zN hK,?_⟩⟩;refine⟨_,zO rfl _ _ _,?_⟩;refine⟨w.heap.size+1+1,⟨sizes.length,rfl⟩,by omega,?_,hB.trans (tA (w:=w) (ar _) V D _ _ (by omega) hK rfl rfl)⟩;have h2':bV (V.putObj D (.deferred none)) (w.heap.size+1+1) (mg (ag sizes) sizes.length (ag vars)):=GX (w.heap.size+1+1) (fun (_:Unit)=>mg (ag sizes) sizes.length (ag vars)) () V _ (some D) h2 (grownBy_putObj' V D _) (fun r e=>by cases e;exact⟨_,hK,rfl⟩);exact h2'.ints
 case stop=>
  rintro D c pre V _ _ h _;exact h.elim
end
section
attribute [local go_sem] Oper.semAt_some
variable {S vs:List Nat}
def Ek (S vs ts:List Nat) (st:Nat×Nat) (i:Nat):Nat×Nat:=(st.1/sz S (vs.getD i 0),st.2+st.1 % sz S (vs.getD i 0)*ts.getD (vs.getD i 0) 0)
def pY (S vs ts:List Nat) (K:Nat) (pre:List Nat):Nat×Nat:=pre.foldl (Ek S vs ts) (K,0)
theorem Yp (S vs ts:List Nat) (K:Nat) (pre:List Nat) (i:Nat):pY S vs ts K (pre++[i])=Ek S vs ts (pY S vs ts K pre) i:=by simp[pY]
theorem aeS (hp:Pos S) (hs:∀v,sz S v<=4) (vs ts:List Nat) (ht:∀v,ts.getD v 0<=65536) (K:Nat) (pre:List Nat):(pY S vs ts K pre).1<=K/\(pY S vs ts K pre).2<=262144*pre.length:=by
 have key:∀(l:List Nat) (st:Nat×Nat),(l.foldl (Ek S vs ts) st).1<=st.1/\(l.foldl (Ek S vs ts) st).2<=st.2+262144*l.length:=by
  intro l;induction l with
  |nil=>intro st;exact⟨ar _,by simp⟩
  |cons i l ih=>
   intro st;obtain⟨h3,h4⟩:=ih (Ek S vs ts st i);refine⟨aS h3 (wh _ _),aS h4 ?_⟩;have h1:=jL st.1 (show 0<sz S (vs.getD i 0) from im hp _);have h2:st.1 % sz S (vs.getD i 0)*ts.getD (vs.getD i 0) 0<=4*65536:=iW (by have:=hs (vs.getD i 0);omega) (ht _);show st.2+st.1 % sz S (vs.getD i 0)*ts.getD (vs.getD i 0) 0+_<=_;rw[eU];omega
 have h:=key pre (K,0);rwa [bT] at h
theorem Yq (hn:vs.Nodup) (ts:List Nat) (K:Nat):∀m,m<=vs.length ->pY S vs ts K (nM vs.length m)=(K/cnt S (vs.drop (vs.length - m)),fL (fun v=>aO S (vs.drop (vs.length - m)) (K % cnt S (vs.drop (vs.length - m))) v*ts.getD v 0) (vs.drop (vs.length - m)))
 |0,_=>by simp[pY,nM,cnt,fL]
 |m+1,h=>by
  rw[Py,Yp,Yq hn ts K m (by omega)];have hj:vs.length - 1 - m<vs.length:=by omega
  have e1:vs.length - (m+1)=vs.length - 1 - m:=by omega
  have e2:vs.length - m=(vs.length - 1 - m)+1:=by omega
  have hd:vs.drop (vs.length - 1 - m)=vs[vs.length - 1 - m]::vs.drop ((vs.length - 1 - m)+1):=mS hj;have iZ:(vs.drop (vs.length - 1 - m)).Nodup:=hn.sublist (List.drop_sublist _ _);rw[hd,pP] at iZ;rw[e1,e2,hd,Ek,A9 hj];generalize vs.drop ((vs.length - 1 - m)+1)=rest at iZ⊢;generalize vs[vs.length - 1 - m]=u at iZ⊢;simp only[amJ];rw[cnt,QI,abr (cnt S rest),fL,aaf rfl,Cf];congr 2
  refine GP fun v hv=>?_;rw[aaO (fun e=>iZ.1 (by rw[<- e];exact hv))]
theorem aeT (hn:vs.Nodup) (ts:List Nat) {K:Nat} (h:K<cnt S vs):pY S vs ts K (nM vs.length vs.length)=(0,fL (fun v=>aO S vs K v*ts.getD v 0) vs):=by
 rw[Yq hn ts K _ (ar _),qE,yq,jM h,ym h]
theorem aeV (Bv Bs Bt:Nat) (a b t:Option Addr) (ca cb ct:Nat) (sizes vars:List Int) (ts:List Nat) (K:Nat) (w:World) (y6:Bv<w.heap.size) (hBs:Bs<w.heap.size) (ub:Bt<w.heap.size) (xv:w.cell? ⟨Bv,0,none⟩=some (.slice b vars.length cb)) (xs:w.cell? ⟨Bs,0,none⟩=some (.slice a sizes.length ca)) (xt:w.cell? ⟨Bt,0,none⟩=some (.slice t sizes.length ct))
  (hs:aaK w a sizes) (hv:aaK w b vars) (ht:aaK w t (iL ts)) (EH:ts.length=sizes.length) (CB:∀v,ts.getD v 0<=65536) (aJ:eH sizes) (aX:Up vars sizes.length) (hK:K<cnt (ag sizes) (ag vars)) (iZ:(ag vars).Nodup):
  Calls Tryz.prog 234 #[.int .i64 (K:Nat),.pointer (some ⟨Bv,0,none⟩),.pointer (some ⟨Bs,0,none⟩),.pointer (some ⟨Bt,0,none⟩)] w fun e w'=>e=.returned (.int .i64 (fL (fun v=>aO (ag sizes) (ag vars) K v*ts.getD v 0) (ag vars):Nat))/\Below w.heap.size w w':=by
 refine(gZ (n:=6)).1 ?_;have nD:=aJ.eight;have hvl:=aX.length;have hsm:cnt (ag sizes) (ag vars)<=65536:=pw aJ.sz_le (by rw[cS];omega);have HS:=hid hs;have HV:=hid hv;have HT:=hid ht;have HFI:=hid aJ;have gz:=hid aX;have dB:=hid CB;have qC:=hid (aeT iZ ts hK);rw[cS] at qC;clear hs hv aJ aX ht CB;refine tz Tryz.func234 rfl trivial ?_ rfl;simp only[Tryz.ntmps234,mP,eU,lg,Nat.reduceAdd,Nat.reduceSub,mV,mU,mQ,lZ,iD,fg];gi_wp2_with ((refine⟨trivial,?_⟩;gi_at_call 159;refine(Px _ _ _ _ _).ae ?_;rintro e w2 ⟨rfl,rfl⟩))
 obtain⟨W0,hW0⟩:∃W0,W0=(((w.alloc (.cells #[.int .i64 (K:Nat)] 3)).alloc (.cells #[.int .i64 0] 3)).alloc (.cells #[.slice b vars.length cb] 27)):=⟨_,rfl⟩;have vk:W0.heap.size=w.heap.size+1+1+1:=by rw[hW0];simp
 have b0:Boxed W0 w.heap.size 3 (.int .i64 (K:Nat)):=by rw[hW0];exact((a7 w _ _).alloc _).alloc _
 have b1:Boxed W0 (w.heap.size+1) 3 (.int .i64 0):=by
  have h:=(a7 (w.alloc (.cells #[.int .i64 (K:Nat)] 3)) 3 (.int .i64 0)).alloc (.cells #[.slice b vars.length cb] 27);rw[cN] at h;rw[hW0];exact h
 have b4:Boxed W0 (w.heap.size+1+1) 27 (.slice b vars.length cb):=by
  have h:=a7 ((w.alloc (.cells #[.int .i64 (K:Nat)] 3)).alloc (.cells #[.int .i64 0] 3)) 27 (.slice b vars.length cb);rw[cN,cN] at h;rw[hW0];exact h
 have hB0:Below w.heap.size w W0:=by
  rw[hW0];exact(((au _ w).alloc (ar _) _).alloc (by simp) _).alloc (by simp;omega) _
 rw[<- hW0];clear hW0
 refine I2 (α:=At vars) rfl (by omega) (gf:=201) (lb:= #[.pointer (some ⟨w.heap.size+1+1,0,none⟩)]) rfl trivial (enters_of Tryz.func201 (by kernel_rfl) rfl)
  (Pv 5 (by omega) (w.heap.size+1+1) w.heap.size b cb vars (by omega) W0 (by omega) (by omega) b4.cell (HV.o.toB.aa hB0)) qX.t (qX.b (by omega) (by omega)) (au _ _) (fun _=>rfl)
  (fun (pre:List (At vars)) V=>Boxed V w.heap.size 3 (.int .i64 ((pY (ag sizes) (ag vars) ts K (pre.map (·.1))).1:Nat))/\Boxed V (w.heap.size+1) 3 (.int .i64 ((pY (ag sizes) (ag vars) ts K (pre.map (·.1))).2:Nat))/\Boxed V (w.heap.size+1+1) 27 (.slice b vars.length cb)/\Below w.heap.size w V)
  (fun _ _ _=>False)
  (eI (fG (iC _ _ (fun pre:List (At vars)=>.int .i64 ((pY (ag sizes) (ag vars) ts K (pre.map (·.1))).1:Nat))) _) (eI (fG (iC _ _ (fun pre:List (At vars)=>.int .i64 ((pY (ag sizes) (ag vars) ts K (pre.map (·.1))).2:Nat))) _) (eI (fG (iC _ _ (fun _=>_)) _) (yg (ar _) (by omega)))))
  (fun _ _ _ _ _ hs _ _=>hs)
  ⟨b0,b1,b4,hB0⟩
  (fun x=> {tmps:= #[.int .i64 (K:Nat),.pointer (some ⟨Bv,0,none⟩),.pointer (some ⟨Bs,0,none⟩),.pointer (some ⟨Bt,0,none⟩),.pointer (some ⟨w.heap.size,0,none⟩),.int .i64 0,.pointer (some ⟨w.heap.size+1,0,none⟩),undef,.int .i64 (vars[x.1]'x.2),.slice b vars.length cb,.func (.func 201) #[] #[.pointer (some ⟨w.heap.size+1+1,0,none⟩)],.int .i64 (x.1:Nat),.int .i64 (vars[x.1]'x.2),undef,undef,undef,undef,undef,undef,undef,undef,undef,undef,undef,undef,undef,undef,undef,undef,undef,undef,undef,undef],defers:=[]}) ?assign ?body ?done ?stop
 case assign=>
  intro l x V K hK;gi_wp2
  exact hK
 case body=>
  rintro l pre ⟨i,hi⟩ V ⟨h0,h1,h4,hB⟩ hlt;obtain⟨gO,gH⟩:=gz.o.nat hi
  have HST:Hid (pY (ag sizes) (ag vars) ts K ((pre++[(⟨i,hi⟩:At vars)]).map (·.1))=((pY (ag sizes) (ag vars) ts K (pre.map (·.1))).1/sz (ag sizes) vars[i].toNat,(pY (ag sizes) (ag vars) ts K (pre.map (·.1))).2+(pY (ag sizes) (ag vars) ts K (pre.map (·.1))).1 % sz (ag sizes) vars[i].toNat*ts.getD vars[i].toNat 0)):=by
   show _=_;rw[fY,gQ,ld,Yp,Ek,A9 (show i<(ag vars).length by rw[cS];exact hi),o6 hi]
  obtain⟨jn,hpl⟩:=aeS HFI.o.pos HFI.o.sz_le (ag vars) ts dB.o K (pre.map (·.1));rw[c5] at hpl;have hz:=im HFI.o.pos vars[i].toNat;have tJ:=HFI.o.sz_le vars[i].toNat;have CB:=dB.o vars[i].toNat;generalize hV:vars[i].toNat=v at *;rw[<- gO];obtain⟨g',o',rfl,iK,c1⟩:=(HS.o.aa hB) v gH;rw[<- HFI.o.sz_eq gH] at c1
  have hg2:g'<w.heap.size:=by
   obtain⟨g3,o3,e3,h3,_⟩:=HS.o v gH;cases e3;exact h3
  have EE:v<(iL ts).length:=by rw[ba];omega
  obtain⟨gt,ot,rfl,aoi,c2⟩:=(HT.o.aa hB) v EE
  have aoh:gt<w.heap.size:=by
   obtain⟨g3,o3,e3,h3,_⟩:=HT.o v EE;cases e3;exact h3
  have Mn:(iL ts)[v]=((ts.getD v 0:Nat):Int):=by rw[A9 (by omega)];simp[iL]
  rw[Mn] at c2;clear Mn gO hV;generalize pY (ag sizes) (ag vars) ts K (pre.map (·.1))=st at *;obtain⟨p,r0⟩:=st;simp only at h0 h1 jn hpl HST;generalize sz (ag sizes) v=s0 at *;generalize ts.getD v 0=t0 at *;have k0:=h0.cell;have k1:=h1.cell;have ks:=(hB.cell (p:=⟨Bs,0,none⟩) hBs).trans xs;have kt:=(hB.cell (p:=⟨Bt,0,none⟩) ub).trans xt;have f1:=h1.frozen;have rG:(p:Int) % (s0:Int)=((p % s0:Nat):Int):=(Af _ _).symm;have lB:(p:Int)/(s0:Int)=((p/s0:Nat):Int):=(tC _ _).symm;have hm1:p % s0<=3:=by have:=jL p (show 0<s0 by omega);omega
  have bq:p/s0<=65536:=aS (wh _ _) (by omega);generalize p % s0=mm at *;generalize p/s0=dd at *;have Tt:mm*t0<=196608:=aS (iW hm1 CB) (by decide);have hmc:(mm:Int)*(t0:Int)=((mm*t0:Nat):Int):=(iH _ _).symm;have hw2:IntKind.i64.wrap ((p:Int)/(s0:Int))=(p:Int)/(s0:Int):=by rw[lB,eo];omega
  have hw3:IntKind.i64.wrap ((mm:Int)*(t0:Int))=(mm:Int)*(t0:Int):=by rw[hmc,eo];omega
  have hw4:IntKind.i64.wrap ((r0:Int)+(mm:Int)*(t0:Int))=(r0:Int)+(mm:Int)*(t0:Int):=by rw[hmc,eo];omega
  have gA:=hid rG;have fp:=hid lB;have kR:Hid ((r0:Int)+(mm:Int)*(t0:Int)=((r0+mm*t0:Nat):Int)):=by show _=_;rw[hmc];exact(ru _ _).symm
  clear rG lB hmc;clear b0 b1 b4 hB0 vk qC gz HFI HV dB hsm hK;gi_wp2_with fail
  refine uL (fun u=>u.cell? ⟨w.heap.size,0,none⟩=some (.int .i64 (p:Nat))/\u.cell? ⟨Bs,0,none⟩=some (.slice (some ⟨g',o',none⟩) sizes.length ca)/\u.cell? ⟨g',o'+v,none⟩=some (.int .i64 (s0:Nat))/\u.cell? ⟨Bt,0,none⟩=some (.slice (some ⟨gt,ot,none⟩) sizes.length ct)/\u.cell? ⟨gt,ot+v,none⟩=some (.int .i64 (t0:Nat))) (by kernel_rfl) (by kernel_rfl) (fun ⟨_,_,h⟩=>h) ⟨k0,ks,c1,kt,c2⟩ ?_;intro aq;refine cK 1 (.int .i64 (p:Nat)) ?_ ?_
  ·intro u aL;obtain⟨s1,s2,s3,s4,s5⟩:=aL;simp only[gE];go_simp
  simp only[gE,aP];refine cK 2 (.slice (some ⟨g',o',none⟩) sizes.length ca) ?_ ?_
  ·intro u aL;obtain⟨s1,s2,s3,s4,s5⟩:=aL;simp only[gE];go_simp
  simp only[gE,aP];refine cK 3 (.int .i64 (v:Nat)) ?_ ?_
  ·intro u aL;obtain⟨s1,s2,s3,s4,s5⟩:=aL;simp only[gE];go_simp
  simp only[gE,aP];refine cK 4 (.pointer (some ⟨g',o'+v,none⟩)) ?_ ?_
  ·intro u aL;obtain⟨s1,s2,s3,s4,s5⟩:=aL;simp only[gE];go_simp
  simp only[gE,aP];refine cK 5 (.int .i64 (s0:Nat)) ?_ ?_
  ·intro u aL;obtain⟨s1,s2,s3,s4,s5⟩:=aL;simp only[gE];go_simp
  simp only[gE,aP];refine cK 6 (.int .i64 (mm:Nat)) ?_ ?_
  ·intro u aL;obtain⟨s1,s2,s3,s4,s5⟩:=aL;simp only[gE];go_simp;rw[aaO (show ¬s0=0 by omega),Int.tmod_eq_emod_of_nonneg (QQ _),gA.o]
  simp only[gE,aP];refine cK 7 (.slice (some ⟨gt,ot,none⟩) sizes.length ct) ?_ ?_
  ·intro u aL;obtain⟨s1,s2,s3,s4,s5⟩:=aL;simp only[gE];go_simp
  simp only[gE,aP];refine cK 8 (.int .i64 (v:Nat)) ?_ ?_
  ·intro u aL;obtain⟨s1,s2,s3,s4,s5⟩:=aL;simp only[gE];go_simp
  simp only[gE,aP];refine cK 9 (.pointer (some ⟨gt,ot+v,none⟩)) ?_ ?_
  ·intro u aL;obtain⟨s1,s2,s3,s4,s5⟩:=aL;simp only[gE];go_simp
  simp only[gE,aP];refine cK 10 (.int .i64 (t0:Nat)) ?_ ?_
  ·intro u aL;obtain⟨s1,s2,s3,s4,s5⟩:=aL;simp only[gE];go_simp
  simp only[gE,aP];refine cK 11 (.int .i64 ((mm:Int)*(t0:Int))) ?_ ?_
  ·intro u aL;obtain⟨s1,s2,s3,s4,s5⟩:=aL;simp only[gE];go_simp
  simp only[gE,aP];refine aF [0] (cA ?_ aD);intro K' hK';simp only[gE];go_simp;refine hK'.o _ _ aq (fun _=>?_);clear hK' K';refine cK 12 (.int .i64 ((r0:Int)+(mm:Int)*(t0:Int))) ?_ ?_
  ·intro u aL;obtain⟨s1,s2,s3,s4,s5⟩:=aL;simp only[gE];go_simp
  simp only[gE,aP];refine aF [13] (cA ?_ aD);intro K' hK';simp only[gE];go_simp;have far:∀(b j:Nat),¬w.heap.size+1=b ->(V.setCell ⟨w.heap.size+1,0,none⟩ (.int .i64 ((r0:Int)+(mm:Int)*(t0:Int)))).drew.cell? ⟨b,j,none⟩=V.cell? ⟨b,j,none⟩:=fun b j hb=>bX _ _ _ _ (fun e=>hb (by cases e;rfl));have m0:=(far w.heap.size 0 (by omega)).trans k0;have ms:=(far Bs 0 (by omega)).trans ks;have mc:=(far g' (o'+v) (by omega)).trans c1;refine hK'.o _ _ ⟨m0,ms,mc,(far Bt 0 (by omega)).trans kt,(far gt (ot+v) (by omega)).trans c2⟩ (fun _=>dW (by kernel_rfl) ?_ _);clear hK' K' aq far;have q0:Boxed (V.setCell ⟨w.heap.size+1,0,none⟩ (.int .i64 ((r0:Int)+(mm:Int)*(t0:Int)))).drew w.heap.size 3 (.int .i64 (p:Nat)):=eO h0 _ 0 _ (by omega);have q1:Boxed (V.setCell ⟨w.heap.size+1,0,none⟩ (.int .i64 ((r0:Int)+(mm:Int)*(t0:Int)))).drew (w.heap.size+1) 3 (.int .i64 ((r0:Int)+(mm:Int)*(t0:Int))):=h1.set _;have q4:Boxed (V.setCell ⟨w.heap.size+1,0,none⟩ (.int .i64 ((r0:Int)+(mm:Int)*(t0:Int)))).drew (w.heap.size+1+1) 27 (.slice b vars.length cb):=eO h4 _ 0 _ (by omega);have qB:Below w.heap.size w (V.setCell ⟨w.heap.size+1,0,none⟩ (.int .i64 ((r0:Int)+(mm:Int)*(t0:Int)))).drew:=(hB.setCell (p:=⟨w.heap.size+1,0,none⟩) (by simp) _).drew;have qK:Below w.heap.size V (V.setCell ⟨w.heap.size+1,0,none⟩ (.int .i64 ((r0:Int)+(mm:Int)*(t0:Int)))).drew:=((au w.heap.size V).setCell (p:=⟨w.heap.size+1,0,none⟩) (by simp) _).drew
  have qO:KeepsOthers V (V.setCell ⟨w.heap.size+1,0,none⟩ (.int .i64 ((r0:Int)+(mm:Int)*(t0:Int)))).drew:=(iG V _ _).trans (wk _);have j4:nR (w.heap.size+1+1) V (V.setCell ⟨w.heap.size+1,0,none⟩ (.int .i64 ((r0:Int)+(mm:Int)*(t0:Int)))).drew:=q4.cell.trans h4.cell.symm;have fU:=q0.frozen;generalize (V.setCell ⟨w.heap.size+1,0,none⟩ (.int .i64 ((r0:Int)+(mm:Int)*(t0:Int)))).drew=U at *;gi_wp2_with fail
  refine uL (fun u=>u.cell? ⟨Bs,0,none⟩=some (.slice (some ⟨g',o',none⟩) sizes.length ca)/\u.cell? ⟨g',o'+v,none⟩=some (.int .i64 (s0:Nat))) (by kernel_rfl) (by kernel_rfl) (fun ⟨_,_,h⟩=>h) ⟨ms,mc⟩ ?_;intro aq;refine cK 1 (.slice (some ⟨g',o',none⟩) sizes.length ca) ?_ ?_
  ·intro u aL;obtain⟨s3,s4⟩:=aL;simp only[gE];go_simp
  simp only[gE,aP];refine cK 2 (.int .i64 (v:Nat)) ?_ ?_
  ·intro u aL;obtain⟨s3,s4⟩:=aL;simp only[gE];go_simp
  simp only[gE,aP];refine cK 3 (.pointer (some ⟨g',o'+v,none⟩)) ?_ ?_
  ·intro u aL;obtain⟨s3,s4⟩:=aL;simp only[gE];go_simp
  simp only[gE,aP];refine cK 4 (.int .i64 (s0:Nat)) ?_ ?_
  ·intro u aL;obtain⟨s3,s4⟩:=aL;simp only[gE];go_simp
  simp only[gE,aP];refine aF [0] (cA ?_ aD);intro K' hK';simp only[gE];go_simp;refine hK'.o _ _ aq (fun _=>?_);clear hK' K';refine cK 5 (.int .i64 ((p:Int)/(s0:Int))) ?_ ?_
  ·intro u aL;obtain⟨s3,s4⟩:=aL;simp only[gE];go_simp;omega
  simp only[gE,aP];refine aF [6] (cA ?_ aD);intro K' hK';simp only[gE];go_simp;refine hK'.o _ _ ⟨(bX _ _ _ _ (fun e=>(show ¬w.heap.size=Bs by omega) (bR Addr.block e))).trans ms,(bX _ _ _ _ (fun e=>(show ¬w.heap.size=g' by omega) (bR Addr.block e))).trans mc⟩ (fun _=>dW (by kernel_rfl) ?_ _);clear hK' K' aq;gi_wp2
  rw[fp.o];rw[kR.o] at q1;refine⟨(qO.trans ((iG U _ _).trans (wk _))).from _,⟨j4.t ((eO q4 w.heap.size 0 (.int .i64 (dd:Nat)) (by omega)).cell.trans q4.cell.symm),(qK.setCell (p:=⟨w.heap.size,0,none⟩) (by simp) _).drew⟩,?_⟩;refine⟨?_,?_,eO q4 _ 0 _ (by omega),(qB.setCell (p:=⟨w.heap.size,0,none⟩) (by simp) _).drew⟩
  ·rw[HST.o];exact q0.set _
  ·rw[HST.o];exact eO q1 _ 0 _ (by omega)
 case done=>
  rintro D ys V hD yL ⟨h0,h1,h4,hB⟩ hK;rw[yL,qC.o] at h1;have hc:=h1.cell;gi_wp2
  refine⟨by simp,.inl ⟨_,_,rfl,zN hK,?_⟩⟩;refine⟨_,zO rfl _ _ _,?_⟩;exact⟨rfl,hB.trans (tA (w:=w) (ar _) V D _ _ (by omega) hK rfl rfl)⟩
 case stop=>
  rintro D c pre V _ _ h _;exact h.elim
end
variable {other:List Int} {S:List Nat} {ca cb:Nat} {V:World}
theorem Rq (hs:∀v,sz S v<=4):∀(vs:List Nat) (v:Nat),vs.length<=8 ->stp S vs v<=65536
 |[],_,_=>by simp[stp]
 |u::vs,v,h=>by
  rw[stp];have h':vs.length<=8:=by simp at h;omega
  by_cases e:v=u
  ·rw[aaf e];exact pw hs h'
  ·rw[aaO e];exact Rq hs vs v h'
theorem Yl (S:List Nat) (n:Nat) (vs:List Nat) (v:Nat):(mg S n vs).getD v 0=if v<n then stp S vs v else 0:=by
 by_cases h:v<n
 ·rw[aaf h,A9 (by rw[pW];exact h),aeO S n vs h]
 ·rw[aaO h,b7,iF (by rw[pW];omega)];rfl
def nO (W:World) (n m:Nat) (f:Value) (a b:Option Addr) (ca cb:Nat) (sizes vars other:List Int):Prop:=
 ∃(Bv Bs Bt g ct:Nat),f=.func (.func 234) #[] #[.pointer (some ⟨Bv,0,none⟩),.pointer (some ⟨Bs,0,none⟩),.pointer (some ⟨Bt,0,none⟩)]/\(n<=Bv/\n<=Bs/\n<=Bt/\n<=g)/\(Bv<m/\Bs<m/\Bt<m/\g<m)/\m<=W.heap.size/\
  W.cell? ⟨Bv,0,none⟩=some (.slice b vars.length cb)/\W.cell? ⟨Bs,0,none⟩=some (.slice a sizes.length ca)/\W.cell? ⟨Bt,0,none⟩=some (.slice (some ⟨g,0,none⟩) sizes.length ct)/\aaK W (some ⟨g,0,none⟩) (iL (mg (ag sizes) sizes.length (ag other)))
def zm (n m:Nat) (W V:World):Prop:=m<=V.heap.size/\∀k,n<=k ->k< m ->V.heap[k]? =W.heap[k]?
theorem zm.of_below {W:World} (h:Below W.heap.size W V) (hm:m<=W.heap.size):zm n m W V:=⟨aS hm h.size,fun k _ hk=>h.block k (aR hk hm)⟩
theorem zm.set (W:World) {B:Nat} (j:Nat) (y:Value) (hm:m<=W.heap.size) (hB:B<n∨m<=B):zm n m W (W.setCell ⟨B,j,none⟩ y):=⟨aS hm (iG W _ _).size,fun k h1 h2=>je W ⟨B,j,none⟩ y k (by show k≠B;omega)⟩
theorem nO.kept {W:World} {f:Value} {b:Option Addr} {sizes vars:List Int} (h:nO W n m f a b ca cb sizes vars other) (hk:zm n m W V):nO V n m f a b ca cb sizes vars other:=by
 obtain⟨Bv,Bs,Bt,g,ct,h0,⟨n1,n2,n3,n4⟩,⟨m1,m2,m3,m4⟩,hm,h4,h5,h6,h7⟩:=h;refine⟨Bv,Bs,Bt,g,ct,h0,⟨n1,n2,n3,n4⟩,⟨m1,m2,m3,m4⟩,hk.1,(kA (hk.2 Bv n1 m1)).trans h4,(kA (hk.2 Bs n2 m2)).trans h5,(kA (hk.2 Bt n3 m3)).trans h6,fun k dH=>?_⟩;obtain⟨g',o',e,h1,h2⟩:=h7 k dH;cases e;exact⟨g,0,rfl,aR m4 hk.1,(kA (hk.2 g n4 m4)).trans h2⟩
theorem nO.top {W:World} {f:Value} {b:Option Addr} {sizes vars:List Int} (h:nO W n m f a b ca cb sizes vars other):m<=W.heap.size:=by
 obtain⟨_,_,_,_,_,_,_,_,hm,_⟩:=h;exact hm
theorem nO.wider {W:World} {n' m':Nat} {f:Value} {b:Option Addr} {sizes vars:List Int} (h:nO W n m f a b ca cb sizes vars other) (hn:n'<=n) (hm':m<=m') (hW:m'<=W.heap.size):nO W n' m' f a b ca cb sizes vars other:=by
 obtain⟨Bv,Bs,Bt,g,ct,h0,⟨n1,n2,n3,n4⟩,⟨m1,m2,m3,m4⟩,hm,h4,h5,h6,h7⟩:=h;exact⟨Bv,Bs,Bt,g,ct,h0,⟨by omega,by omega,by omega,by omega⟩,⟨by omega,by omega,by omega,by omega⟩,hW,h4,h5,h6,h7⟩
theorem nO.aa {W:World} {f:Value} {b:Option Addr} {sizes vars:List Int} (h:nO W n m f a b ca cb sizes vars other) (hb:Below W.heap.size W V):nO V n m f a b ca cb sizes vars other:=h.kept (zm.of_below hb h.top)
theorem nO.shape {W:World} {f:Value} {b:Option Addr} {sizes vars:List Int} (h:nO W n m f a b ca cb sizes vars other):∃lb,f=.func (.func 234) #[] lb:=by
 obtain⟨Bv,Bs,Bt,g,ct,he,_⟩:=h;exact⟨_,he⟩
theorem nO.calls {lb:Array Value} {b:Option Addr} {sizes vars:List Int} (h:nO V n m (.func (.func 234) #[] lb) a b ca cb sizes vars other) (hs:aaK V a sizes) (hv:aaK V b vars) (aJ:eH sizes) (aX:Up vars sizes.length) (uZ:Up other sizes.length) {K:Nat} (hK:K<cnt (ag sizes) (ag vars)):
  Calls Tryz.prog 234 (#[.int .i64 (K:Nat)]++lb) V fun e w'=>e=.returned (.int .i64 (pos (ag sizes) (aO (ag sizes) (ag vars) K) (ag other):Nat))/\Below V.heap.size V w':=by
 obtain⟨Bv,Bs,Bt,g,ct,he,_,⟨h1,h2,h3,_⟩,hm,h4,h5,h6,h7⟩:=h;simp only[Value.func.injEq,true_and] at he;rw[he];have ER:=uZ.length;have nD:=aJ.eight
 have e1:=aeV Bv Bs Bt a b _ ca cb ct sizes vars (mg (ag sizes) sizes.length (ag other)) K V (by omega) (by omega) (by omega) h4 h5 h6 hs hv h7 (pW _ _ _) (fun v=>by
  rw[Yl];by_cases hv:v<sizes.length
  ·rw[aaf hv];exact Rq aJ.sz_le _ _ (by rw[cS];omega)
  ·rw[aaO hv];omega) aJ aX hK aX.nodup
 have e2:fL (fun v=>aO (ag sizes) (ag vars) K v*(mg (ag sizes) sizes.length (ag other)).getD v 0) (ag vars)=pos (ag sizes) (aO (ag sizes) (ag vars) K) (ag other):=by
  rw[<- stand sizes.length K aX.nodup uZ.nodup aX.aa uZ.aa];exact GP fun v hv=>by rw[Yl,aaf (aX.aa v hv)]
 rw[e2] at e1;exact e1
theorem ado (a b c:Option Addr) (ca cb cc:Nat) (sizes vars other:List Int) (w:World) (hs:aaK w a sizes) (ho:aaK w c other) (aJ:eH sizes) (uZ:Up other sizes.length):
  Calls Tryz.prog 198 #[.slice a sizes.length ca,.slice b vars.length cb,.slice c other.length cc] w fun e w'=>∃f,e=.returned f/\nO w' w.heap.size w'.heap.size f a b ca cb sizes vars other/\Below w.heap.size w w':=by
 have HS:=hid hs;have HO:=hid ho;have HA:=hid (fun V h1 h2=>Yo a c ca cc sizes other V h1 h2 aJ uZ);clear hs ho;go_enter Tryz.func198,Tryz.ntmps198;go_wp2_with fail
 have hb0:Below w.heap.size w ((w.alloc (.cells #[.slice a sizes.length ca] 27)).alloc (.cells #[.slice b vars.length cb] 27)):=((au _ w).alloc (ar _) _).alloc (by simp) _;have b0:Boxed ((w.alloc (.cells #[.slice a sizes.length ca] 27)).alloc (.cells #[.slice b vars.length cb] 27)) w.heap.size 27 (.slice a sizes.length ca):=(a7 w _ _).alloc _
 have b1:Boxed ((w.alloc (.cells #[.slice a sizes.length ca] 27)).alloc (.cells #[.slice b vars.length cb] 27)) (w.heap.size+1) 27 (.slice b vars.length cb):=by
  have h:=a7 (w.alloc (.cells #[.slice a sizes.length ca] 27)) 27 (.slice b vars.length cb);rwa [cN] at h
 have hsz:((w.alloc (.cells #[.slice a sizes.length ca] 27)).alloc (.cells #[.slice b vars.length cb] 27)).heap.size=w.heap.size+1+1:=by simp
 generalize ((w.alloc (.cells #[.slice a sizes.length ca] 27)).alloc (.cells #[.slice b vars.length cb] 27))=W at *;refine(HA.o _ (HS.o.aa hb0) (HO.o.aa hb0)).ae ?_;rintro e w1 ⟨t,ct,rfl,ht1,jQ,hb1⟩;have hs1:=hb1.size
 have EH:t<w1.heap.size:=by
  obtain⟨g3,o3,e3,h3,_⟩:=jQ 0 (by rw[ba,pW];exact aJ.one);cases e3;exact h3
 go_wp2;go_ret;have hb2:Below w1.heap.size w1 (w1.alloc (.cells #[.slice (some ⟨t,0,none⟩) sizes.length ct] 27)):=(au _ w1).alloc (ar _) _;have TV:Below W.heap.size W (w1.alloc (.cells #[.slice (some ⟨t,0,none⟩) sizes.length ct] 27)):=hb1.trans (hb2.ae hs1);refine⟨_,rfl,⟨w.heap.size+1,w.heap.size,w1.heap.size,t,ct,rfl,⟨by omega,by omega,by omega,by omega⟩,⟨by simp;omega,by simp;omega,by simp,by simp;omega⟩,ar _,(TV.cell (p:=⟨w.heap.size+1,0,none⟩) (by simp;omega)).trans b1.cell,(TV.cell (p:=⟨w.heap.size,0,none⟩) (by simp;omega)).trans b0.cell,(a7 w1 27 _).cell,jQ.aa hb2⟩,hb0.trans (TV.ae (by omega))⟩
variable {f:Nat ->Nat} {x y:Value}
theorem acP (f:Nat ->Nat) (hf:∀u,f u<sz S u):∀vs:List Nat,pos S f vs<cnt S vs:=by
 intro vs
 have key:∀(vs:List Nat) (k c:Nat),k< c ->vs.foldl (fun k v=>k*sz S v+f v) k<c*cnt S vs:=by
  intro vs;induction vs with
  |nil=>intro k c h;simpa [cnt] using h
  |cons u vs ih=>
   intro k c h
   have h1:k*sz S u+f u<c*sz S u:=by
    have h2:(k+1)*sz S u<=c*sz S u:=jK _ h;have h3:=hf u;rw[fW,kB] at h2;omega
   have:=ih _ _ h1;rwa [il] at this
 have:=key vs 0 1 (by omega);rwa [kB] at this
theorem nN (hp:Pos S):∀(vs:List Nat) (k v:Nat),k<cnt S vs ->aO S vs k v<sz S v
 |[],_,v,_=>im hp v
 |u::vs,k,v,h=>by
  rw[aO];by_cases e:v=u
  ·rw[aaf e,e];exact(Nat.div_lt_iff_lt_mul (zg hp vs)).2 h
  ·rw[aaO e];exact nN hp vs _ v (jL _ (zg hp vs))
def aQ (f:Nat ->Nat) (v x:Nat):Nat ->Nat:=fun u=>if u=v then x else f u
theorem Yh {g h:Nat ->Nat} (hv:g v=0) (he:∀u,¬u=v ->h u=g u):∀ {l:List Nat},l.Nodup ->fL h l=fL g l+if v∈l then h v else 0
 |[],_=>by simp[fL]
 |u::l,hn=>by
  rw[pP] at hn;rw[fL,fL,Yh hv he hn.2];by_cases e:u=v
  ·subst e;rw[aaO hn.1,aaf dJ,hv];omega
  ·rw[he u e];(have:v∈u::l↔v∈l:=by rw[dK];exact⟨fun h=>h.elim (fun h=>absurd h.symm e) id,.inr⟩);simp only[this];omega
theorem agr (x:Nat) (hf:f v=0) {other:List Nat} (hn:other.Nodup):pos S f other+x*stp S other v=pos S (aQ f v x) other:=by
 rw[Nv S f hn,Nv S (aQ f v x) hn,Yh (g:=fun u=>f u*stp S other u) (h:=fun u=>aQ f v x u*stp S other u) (v:=v) (by show f v*_=0;rw[hf,jw]) (fun u hu=>by show aQ f v x u*_=f u*_;rw[aQ,aaO hu]) hn];congr 1
 by_cases h:v∈other
 ·rw[aaf h];show _=aQ f v x v*_;rw[aQ,aaf rfl]
 ·rw[aaO h,Rp h,kY]
def ui (W:World) (n m:Nat) (f:Value) (a b:Option Addr) (ca cb:Nat) (sizes vars other:List Int) (v:Nat):Prop:=
 ∃(Bf Bt:Nat) (g:Value),f=.func (.func 200) #[] #[.pointer (some ⟨Bf,0,none⟩),.pointer (some ⟨Bt,0,none⟩)]/\n<=Bf/\n<=Bt/\Bf<m/\Bt<m/\m<=W.heap.size/\
  W.cell? ⟨Bf,0,none⟩=some g/\W.cell? ⟨Bt,0,none⟩=some (.int .i64 (stp (ag sizes) (ag other) v:Nat))/\nO W n m g a b ca cb sizes vars other
theorem ui.kept {W:World} {f:Value} {b:Option Addr} {sizes vars:List Int} (h:ui W n m f a b ca cb sizes vars other v) (hk:zm n m W V):ui V n m f a b ca cb sizes vars other v:=by
 obtain⟨Bf,Bt,g,h0,n1,n2,h1,h2,_,h3,h4,h5⟩:=h;exact⟨Bf,Bt,g,h0,n1,n2,h1,h2,hk.1,(kA (hk.2 Bf n1 h1)).trans h3,(kA (hk.2 Bt n2 h2)).trans h4,h5.kept hk⟩
theorem abt {u:World} {p q:Addr} (hb:Below w.heap.size w u) (hp:p.block<w.heap.size) (hq:q.block<w.heap.size) (h1:w.cell? p=some x) (h2:w.cell? q=some y):(u.cell? p=some x/\u.cell? q=some y)/\Hid (Below w.heap.size w u):=⟨⟨(hb.cell hp).trans h1,(hb.cell hq).trans h2⟩,hb⟩
theorem aeU (Bf Bt:Nat) (lb:Array Value) (K val P st:Nat) (w:World) (A7:Bf<w.heap.size) (h1:w.cell? ⟨Bf,0,none⟩=some (.func (.func 234) #[] lb)) (ub:Bt<w.heap.size) (h2:w.cell? ⟨Bt,0,none⟩=some (.int .i64 (st:Nat))) (hc:∀V,Below w.heap.size w V ->Calls Tryz.prog 234 (#[.int .i64 (K:Nat)]++lb) V fun e w'=>e=.returned (.int .i64 (P:Nat))/\Below V.heap.size V w') (hP:P<=65536) (hval:val<=4) (hst:st<=65536):
  Calls Tryz.prog 200 #[.int .i64 (K:Nat),.int .i64 (val:Nat),.pointer (some ⟨Bf,0,none⟩),.pointer (some ⟨Bt,0,none⟩)] w fun e w'=>e=.returned (.int .i64 (P+val*st:Nat))/\Below w.heap.size w w':=by
 have HC:=hid hc;have h0:val*st<=262144:=aS (iW hval hst) (by decide);have hmc:(val:Int)*(st:Int)=((val*st:Nat):Int):=(iH _ _).symm;have hw3:IntKind.i64.wrap ((val:Int)*(st:Int))=(val:Int)*(st:Int):=by rw[hmc,eo];omega
 have hw4:IntKind.i64.wrap ((P:Int)+(val:Int)*(st:Int))=(P:Int)+(val:Int)*(st:Int):=by rw[hmc,eo];omega
 have kR:Hid ((P:Int)+(val:Int)*(st:Int)=((P+val*st:Nat):Int)):=by show _=_;rw[hmc];exact(ru _ _).symm
 have hB0:Below w.heap.size w w.drew:=(au w.heap.size w).drew;clear hc hmc;go_enter Tryz.func200,Tryz.ntmps200;go_upto_region 1 with fail
 go_region_held3 (fun u=>(u.cell? ⟨Bf,0,none⟩=some (.func (.func 234) #[] lb)/\u.cell? ⟨Bt,0,none⟩=some (.int .i64 (st:Nat)))/\Hid (Below w.heap.size w u))
  (first |exact abt hB1 A7 ub h1 h2 |exact abt hB0 A7 ub h1 h2)
  (first
   |(go_at_call 234;refine(HC.o _ hB0).ae ?_;rintro e w1 ⟨rfl,hb1⟩;have hB1:=hB0.trans (hb1.ae hB0.size)))
 go_wp2;go_ret;exact⟨by rw[kR.o];rfl,hB1⟩
theorem ui.calls {lb:Array Value} {b:Option Addr} {sizes vars:List Int} (h:ui V n m (.func (.func 200) #[] lb) a b ca cb sizes vars other v) (hs:aaK V a sizes) (hv:aaK V b vars) (aJ:eH sizes) (aX:Up vars sizes.length) (uZ:Up other sizes.length) (Hh:¬v∈ag vars) {K val:Nat} (hK:K<cnt (ag sizes) (ag vars)) (hval:val<=4):
  Calls Tryz.prog 200 (#[.int .i64 (K:Nat),.int .i64 (val:Nat)]++lb) V fun e w'=>e=.returned (.int .i64 (pos (ag sizes) (aQ (aO (ag sizes) (ag vars) K) v val) (ag other):Nat))/\Below V.heap.size V w':=by
 obtain⟨Bf,Bt,g,he,_,_,h1,h2,hm,h3,h4,h5⟩:=h;simp only[Value.func.injEq,true_and] at he;rw[he];obtain⟨Zj,rfl⟩:=h5.shape;have ER:=uZ.length;have nD:=aJ.eight;have hP:=acP (S:=ag sizes) (aO (ag sizes) (ag vars) K) (fun u=>nN aJ.pos (ag vars) K u hK) (ag other);have hc:=pw aJ.sz_le (vs:=ag other) (by rw[cS];omega);rw[<- agr val (Bg Hh) uZ.nodup];exact aeU Bf Bt Zj K val _ _ V (by omega) h3 (by omega) h4 (fun V' hb=>(h5.aa hb).calls (hs.aa hb) (hv.aa hb) aJ aX uZ hK) (by omega) hval (Rq aJ.sz_le _ _ (by rw[cS];omega))
theorem uK {P:Program} {md:Region.Mode} {S S':World ->Prop} (hS:∀w,S' w ->S w):∀(fuel:Nat) (listed:Array Bool) (a:Act) (w:World),wpAnyH P md ops Q S' fuel listed a w ->wpAnyH P md ops Q S fuel listed a w
 |0,_,_,_,h=>h
 |fuel+1,_,_,_,h=>⟨h.1,fun i hi=>wpOp_mono (fun a' w' h'=>⟨hS _ h'.1,uK hS fuel _ a' w' h'.2⟩) (h.2 i hi)⟩
theorem acQ {u:World} (h:Below w.heap.size w u) (B j:Nat) (y:Value) (hB:w.heap.size<=B):Below w.heap.size w (u.setCell ⟨B,j,none⟩ y):=h.setCell (p:=⟨B,j,none⟩) hB y
theorem aZ {W:World} {B:Nat} {t:TypeId} (h:Boxed W B t x) (hb:Below W.heap.size W V):Boxed V B t x:=(hb.block B h.lt).trans h
theorem wF {other:List Nat} (h:v<n):(iL (mg S n other))[v]'(by rw[ba,pW];exact h)=((stp S other v:Nat):Int):=by simp[iL,mg]
theorem Rt (a b c:Option Addr) (ca cb cc:Nat) (sizes vars other:List Int) (v:Nat) (w:World) (hs:aaK w a sizes) (ho:aaK w c other) (aJ:eH sizes) (uZ:Up other sizes.length) (gg:v<sizes.length):
  Calls Tryz.prog 156 #[.slice a sizes.length ca,.slice b vars.length cb,.slice c other.length cc,.int .i64 (v:Nat)] w fun e w'=>∃f,e=.returned f/\ui w' w.heap.size w'.heap.size f a b ca cb sizes vars other v/\Below w.heap.size w w':=by
 have HS:=hid hs;have HO:=hid ho;have HA:=hid (fun V h1 h2=>Yo a c ca cc sizes other V h1 h2 aJ uZ);have HB:=hid (fun V h1 h2=>ado a b c ca cb cc sizes vars other V h1 h2 aJ uZ);have nD:=aJ.eight;have hv0:(0:Int)<=(v:Int):=by omega
 have ny:(v:Int)<(sizes.length:Int):=by omega
 clear hs ho;go_enter Tryz.func156,Tryz.ntmps156;go_upto_region 1 with fail
 have hB:Below w.heap.size w w.drew:=(au w.heap.size w).drew;refine jJ (S:=fun u=>Hid (Below w.heap.size w u)) (by kernel_rfl) hB (fun aq=>?_);generalize w.drew=u0 at *;refine aw 0 (.slice a sizes.length ca) ?_;refine aw 1 (.slice b vars.length cb) ?_;refine aw 2 (.slice c other.length cc) ?_;refine aw 4 (.slice a sizes.length ca) ?_;refine aw 5 (.slice c other.length cc) ?_;refine aw 7 (.int .i64 (v:Nat)) ?_;refine aF [3,10,11] (cA ?_ (cA ?_ (cA ?_ aD)))
 focus
  intro K' hK';go_simp;refine(HB.o _ (HS.o.aa hB) (HO.o.aa hB)).ae ?_;rintro e u1 ⟨f,rfl,hF,hb⟩;obtain⟨lb,rfl⟩:=hF.shape;have gh:=hB.size;replace hB:=hB.trans (hb.ae hB.size);refine hK'.o _ _ hB (fun ak=>?_);clear hK' K' aq;have aq:=ak;clear ak;have iy:w.heap.size<=u0.heap.size:=gh;have sK:=hF.top;generalize u0.heap.size=n1 at hF gh iy⊢;generalize hm1:u1.heap.size=m1 at hF sK;rw[<- hm1] at sK;have bq:m1<=u1.heap.size:=by omega
  clear hb hm1;refine aF [6,10,11] (cA ?_ (cA ?_ (cA ?_ aD)))
  focus
   intro K' hK';go_simp;refine(HA.o _ (HS.o.aa hB) (HO.o.aa hB)).ae ?_;rintro e u2 ⟨g,ct,rfl,hg1,hi,hb⟩;replace hB:=hB.trans (hb.ae hB.size);replace hF:=hF.aa hb;replace bq:=aS bq hb.size;refine hK'.o _ _ hB (fun ak=>?_);clear hK' K' aq;have aq:=ak;clear ak;obtain⟨g3,o3,e3,cH,cv⟩:=hi v (by rw[ba,pW];exact gg);cases e3;rw[wF gg,bT] at cv;clear hb hi hg1 aq;(try simp only[gE,aP]);refine uK (S':=fun u=>Hid (Below w.heap.size w u)/\u.cell? ⟨g,v,none⟩=some (.int .i64 (stp (ag sizes) (ag other) v:Nat))) (fun _ h=>h.1) _ _ _ _ ?_;have aq:Hid (Below w.heap.size w u2)/\u2.cell? ⟨g,v,none⟩=some (.int .i64 (stp (ag sizes) (ag other) v:Nat)):=⟨hB,cv⟩;refine aw 8 (.pointer (some ⟨g,v,none⟩)) ?_;refine aw 9 (.int .i64 (stp (ag sizes) (ag other) v:Nat)) ?_;refine aF [10,11] (cA ?_ (cA ?_ aD))
   focus
    intro K' hK';go_simp;have hb:Below u2.heap.size u2 (u2.alloc (.cells #[.nilFunc] 140)):=(au _ u2).alloc (ar _) _;have h9:Boxed (u2.alloc (.cells #[.nilFunc] 140)) u2.heap.size 140 (.nilFunc):=a7 u2 _ _;(have l9:u2.heap.size<(u2.alloc (.cells #[.nilFunc] 140)).heap.size:=by simp);have w9:=hB.size;replace hB:=hB.trans (hb.ae hB.size);replace hF:=hF.aa hb;have r9:u2.heap.size<n1∨m1<=u2.heap.size:=.inr bq;replace bq:=aS bq hb.size;(have g9:¬u2.heap.size=g:=by omega);replace cv:=(hb.cell (p:=⟨g,v,none⟩) cH).trans cv;replace cH:=aR cH hb.size;refine hK'.o _ _ ⟨hB,cv⟩ (fun aq=>?_);clear hK' K' hb;generalize (u2.alloc (.cells #[.nilFunc] 140))=u3 at *;generalize u2.heap.size=B9 at *;refine aF [11] (cA ?_ aD);intro K' hK';go_simp;have hb:Below u3.heap.size u3 (u3.alloc (.cells #[.int .i64 0] 3)):=(au _ u3).alloc (ar _) _;have h10:Boxed (u3.alloc (.cells #[.int .i64 0] 3)) u3.heap.size 3 (.int .i64 0):=a7 u3 _ _;(have l10:u3.heap.size<(u3.alloc (.cells #[.int .i64 0] 3)).heap.size:=by simp);have bI:=hB.size;replace hB:=hB.trans (hb.ae hB.size);replace h9:=aZ h9 hb;(have ne:¬B9=u3.heap.size:=by omega);replace l9:=aR l9 hb.size;replace hF:=hF.aa hb;have qI:u3.heap.size<n1∨m1<=u3.heap.size:=.inr bq;replace bq:=aS bq hb.size;(have g10:¬u3.heap.size=g:=by omega);replace cv:=(hb.cell (p:=⟨g,v,none⟩) cH).trans cv;replace cH:=aR cH hb.size;refine hK'.o _ _ ⟨hB,cv⟩ (fun aq=>?_);clear hK' K' hb;generalize (u3.alloc (.cells #[.int .i64 0] 3))=u4 at *;generalize u3.heap.size=cV at *
   rotate_left
   focus
    intro K' hK';go_simp;have hb:Below u2.heap.size u2 (u2.alloc (.cells #[.int .i64 0] 3)):=(au _ u2).alloc (ar _) _;have h10:Boxed (u2.alloc (.cells #[.int .i64 0] 3)) u2.heap.size 3 (.int .i64 0):=a7 u2 _ _;(have l10:u2.heap.size<(u2.alloc (.cells #[.int .i64 0] 3)).heap.size:=by simp);have bI:=hB.size;replace hB:=hB.trans (hb.ae hB.size);replace hF:=hF.aa hb;have qI:u2.heap.size<n1∨m1<=u2.heap.size:=.inr bq;replace bq:=aS bq hb.size;(have g10:¬u2.heap.size=g:=by omega);replace cv:=(hb.cell (p:=⟨g,v,none⟩) cH).trans cv;replace cH:=aR cH hb.size;refine hK'.o _ _ ⟨hB,cv⟩ (fun aq=>?_);clear hK' K' hb;generalize (u2.alloc (.cells #[.int .i64 0] 3))=u3 at *;generalize u2.heap.size=cV at *;refine aF [10] (cA ?_ aD);intro K' hK';go_simp;have hb:Below u3.heap.size u3 (u3.alloc (.cells #[.nilFunc] 140)):=(au _ u3).alloc (ar _) _;have h9:Boxed (u3.alloc (.cells #[.nilFunc] 140)) u3.heap.size 140 (.nilFunc):=a7 u3 _ _;(have l9:u3.heap.size<(u3.alloc (.cells #[.nilFunc] 140)).heap.size:=by simp);have w9:=hB.size;replace hB:=hB.trans (hb.ae hB.size);replace h10:=aZ h10 hb;(have ne:¬cV=u3.heap.size:=by omega);replace l10:=aR l10 hb.size;replace hF:=hF.aa hb;have r9:u3.heap.size<n1∨m1<=u3.heap.size:=.inr bq;replace bq:=aS bq hb.size;(have g9:¬u3.heap.size=g:=by omega);replace cv:=(hb.cell (p:=⟨g,v,none⟩) cH).trans cv;replace cH:=aR cH hb.size;refine hK'.o _ _ ⟨hB,cv⟩ (fun aq=>?_);clear hK' K' hb;generalize (u3.alloc (.cells #[.nilFunc] 140))=u4 at *;generalize u3.heap.size=B9 at *
  rotate_left 2
  focus
   intro K' hK';go_simp;have hb:Below u1.heap.size u1 (u1.alloc (.cells #[.nilFunc] 140)):=(au _ u1).alloc (ar _) _;have h9:Boxed (u1.alloc (.cells #[.nilFunc] 140)) u1.heap.size 140 (.nilFunc):=a7 u1 _ _;(have l9:u1.heap.size<(u1.alloc (.cells #[.nilFunc] 140)).heap.size:=by simp);have w9:=hB.size;replace hB:=hB.trans (hb.ae hB.size);replace hF:=hF.aa hb;have r9:u1.heap.size<n1∨m1<=u1.heap.size:=.inr bq;replace bq:=aS bq hb.size;refine hK'.o _ _ hB (fun aq=>?_);clear hK' K' hb;generalize (u1.alloc (.cells #[.nilFunc] 140))=u2 at *;generalize u1.heap.size=B9 at *;refine aF [6,11] (cA ?_ (cA ?_ aD))
   focus
    intro K' hK';go_simp;refine(HA.o _ (HS.o.aa hB) (HO.o.aa hB)).ae ?_;rintro e u3 ⟨g,ct,rfl,hg1,hi,hb⟩;replace hB:=hB.trans (hb.ae hB.size);replace hF:=hF.aa hb;replace bq:=aS bq hb.size;refine hK'.o _ _ hB (fun ak=>?_);clear hK' K' aq;have aq:=ak;clear ak;obtain⟨g3,o3,e3,cH,cv⟩:=hi v (by rw[ba,pW];exact gg);cases e3;rw[wF gg,bT] at cv;replace h9:=aZ h9 hb;(have g9:¬B9=g:=by omega);replace l9:=aR l9 hb.size;clear hb hi hg1 aq;(try simp only[gE,aP]);refine uK (S':=fun u=>Hid (Below w.heap.size w u)/\u.cell? ⟨g,v,none⟩=some (.int .i64 (stp (ag sizes) (ag other) v:Nat))) (fun _ h=>h.1) _ _ _ _ ?_;have aq:Hid (Below w.heap.size w u3)/\u3.cell? ⟨g,v,none⟩=some (.int .i64 (stp (ag sizes) (ag other) v:Nat)):=⟨hB,cv⟩;refine aw 8 (.pointer (some ⟨g,v,none⟩)) ?_;refine aw 9 (.int .i64 (stp (ag sizes) (ag other) v:Nat)) ?_;refine aF [11] (cA ?_ aD);intro K' hK';go_simp;have hb:Below u3.heap.size u3 (u3.alloc (.cells #[.int .i64 0] 3)):=(au _ u3).alloc (ar _) _;have h10:Boxed (u3.alloc (.cells #[.int .i64 0] 3)) u3.heap.size 3 (.int .i64 0):=a7 u3 _ _;(have l10:u3.heap.size<(u3.alloc (.cells #[.int .i64 0] 3)).heap.size:=by simp);have bI:=hB.size;replace hB:=hB.trans (hb.ae hB.size);replace h9:=aZ h9 hb;(have ne:¬B9=u3.heap.size:=by omega);replace l9:=aR l9 hb.size;replace hF:=hF.aa hb;have qI:u3.heap.size<n1∨m1<=u3.heap.size:=.inr bq;replace bq:=aS bq hb.size;(have g10:¬u3.heap.size=g:=by omega);replace cv:=(hb.cell (p:=⟨g,v,none⟩) cH).trans cv;replace cH:=aR cH hb.size
    refine hK'.o _ _ ⟨hB,cv⟩ (fun aq=>?_);clear hK' K' hb;generalize (u3.alloc (.cells #[.int .i64 0] 3))=u4 at *;generalize u3.heap.size=cV at *
   rotate_left
   focus
    intro K' hK';go_simp;have hb:Below u2.heap.size u2 (u2.alloc (.cells #[.int .i64 0] 3)):=(au _ u2).alloc (ar _) _;have h10:Boxed (u2.alloc (.cells #[.int .i64 0] 3)) u2.heap.size 3 (.int .i64 0):=a7 u2 _ _;(have l10:u2.heap.size<(u2.alloc (.cells #[.int .i64 0] 3)).heap.size:=by simp);have bI:=hB.size;replace hB:=hB.trans (hb.ae hB.size);replace h9:=aZ h9 hb;(have ne:¬B9=u2.heap.size:=by omega);replace l9:=aR l9 hb.size;replace hF:=hF.aa hb;have qI:u2.heap.size<n1∨m1<=u2.heap.size:=.inr bq;replace bq:=aS bq hb.size;refine hK'.o _ _ hB (fun aq=>?_);clear hK' K' hb;generalize (u2.alloc (.cells #[.int .i64 0] 3))=u3 at *;generalize u2.heap.size=cV at *;refine aF [6] (cA ?_ aD);intro K' hK';go_simp;refine(HA.o _ (HS.o.aa hB) (HO.o.aa hB)).ae ?_;rintro e u4 ⟨g,ct,rfl,hg1,hi,hb⟩;replace hB:=hB.trans (hb.ae hB.size);replace hF:=hF.aa hb;replace bq:=aS bq hb.size;refine hK'.o _ _ hB (fun ak=>?_);clear hK' K' aq;have aq:=ak;clear ak;obtain⟨g3,o3,e3,cH,cv⟩:=hi v (by rw[ba,pW];exact gg);cases e3;rw[wF gg,bT] at cv;replace h9:=aZ h9 hb;(have g9:¬B9=g:=by omega);replace l9:=aR l9 hb.size;replace h10:=aZ h10 hb;(have g10:¬cV=g:=by omega);replace l10:=aR l10 hb.size;clear hb hi hg1 aq;(try simp only[gE,aP]);refine uK (S':=fun u=>Hid (Below w.heap.size w u)/\u.cell? ⟨g,v,none⟩=some (.int .i64 (stp (ag sizes) (ag other) v:Nat))) (fun _ h=>h.1) _ _ _ _ ?_;have aq:Hid (Below w.heap.size w u4)/\u4.cell? ⟨g,v,none⟩=some (.int .i64 (stp (ag sizes) (ag other) v:Nat)):=⟨hB,cv⟩
    refine aw 8 (.pointer (some ⟨g,v,none⟩)) ?_;refine aw 9 (.int .i64 (stp (ag sizes) (ag other) v:Nat)) ?_
  rotate_left 2
  focus
   intro K' hK';go_simp;have hb:Below u1.heap.size u1 (u1.alloc (.cells #[.int .i64 0] 3)):=(au _ u1).alloc (ar _) _;have h10:Boxed (u1.alloc (.cells #[.int .i64 0] 3)) u1.heap.size 3 (.int .i64 0):=a7 u1 _ _;(have l10:u1.heap.size<(u1.alloc (.cells #[.int .i64 0] 3)).heap.size:=by simp);have bI:=hB.size;replace hB:=hB.trans (hb.ae hB.size);replace hF:=hF.aa hb;have qI:u1.heap.size<n1∨m1<=u1.heap.size:=.inr bq;replace bq:=aS bq hb.size;refine hK'.o _ _ hB (fun aq=>?_);clear hK' K' hb;generalize (u1.alloc (.cells #[.int .i64 0] 3))=u2 at *;generalize u1.heap.size=cV at *;refine aF [6,10] (cA ?_ (cA ?_ aD))
   focus
    intro K' hK';go_simp;refine(HA.o _ (HS.o.aa hB) (HO.o.aa hB)).ae ?_;rintro e u3 ⟨g,ct,rfl,hg1,hi,hb⟩;replace hB:=hB.trans (hb.ae hB.size);replace hF:=hF.aa hb;replace bq:=aS bq hb.size;refine hK'.o _ _ hB (fun ak=>?_);clear hK' K' aq;have aq:=ak;clear ak;obtain⟨g3,o3,e3,cH,cv⟩:=hi v (by rw[ba,pW];exact gg);cases e3;rw[wF gg,bT] at cv;replace h10:=aZ h10 hb;(have g10:¬cV=g:=by omega);replace l10:=aR l10 hb.size;clear hb hi hg1 aq;(try simp only[gE,aP]);refine uK (S':=fun u=>Hid (Below w.heap.size w u)/\u.cell? ⟨g,v,none⟩=some (.int .i64 (stp (ag sizes) (ag other) v:Nat))) (fun _ h=>h.1) _ _ _ _ ?_;have aq:Hid (Below w.heap.size w u3)/\u3.cell? ⟨g,v,none⟩=some (.int .i64 (stp (ag sizes) (ag other) v:Nat)):=⟨hB,cv⟩;refine aw 8 (.pointer (some ⟨g,v,none⟩)) ?_;refine aw 9 (.int .i64 (stp (ag sizes) (ag other) v:Nat)) ?_;refine aF [10] (cA ?_ aD);intro K' hK';go_simp;have hb:Below u3.heap.size u3 (u3.alloc (.cells #[.nilFunc] 140)):=(au _ u3).alloc (ar _) _;have h9:Boxed (u3.alloc (.cells #[.nilFunc] 140)) u3.heap.size 140 (.nilFunc):=a7 u3 _ _;(have l9:u3.heap.size<(u3.alloc (.cells #[.nilFunc] 140)).heap.size:=by simp);have w9:=hB.size;replace hB:=hB.trans (hb.ae hB.size);replace h10:=aZ h10 hb;(have ne:¬cV=u3.heap.size:=by omega);replace l10:=aR l10 hb.size;replace hF:=hF.aa hb;have r9:u3.heap.size<n1∨m1<=u3.heap.size:=.inr bq;replace bq:=aS bq hb.size;(have g9:¬u3.heap.size=g:=by omega);replace cv:=(hb.cell (p:=⟨g,v,none⟩) cH).trans cv;replace cH:=aR cH hb.size
    refine hK'.o _ _ ⟨hB,cv⟩ (fun aq=>?_);clear hK' K' hb;generalize (u3.alloc (.cells #[.nilFunc] 140))=u4 at *;generalize u3.heap.size=B9 at *
   rotate_left
   focus
    intro K' hK';go_simp;have hb:Below u2.heap.size u2 (u2.alloc (.cells #[.nilFunc] 140)):=(au _ u2).alloc (ar _) _;have h9:Boxed (u2.alloc (.cells #[.nilFunc] 140)) u2.heap.size 140 (.nilFunc):=a7 u2 _ _;(have l9:u2.heap.size<(u2.alloc (.cells #[.nilFunc] 140)).heap.size:=by simp);have w9:=hB.size;replace hB:=hB.trans (hb.ae hB.size);replace h10:=aZ h10 hb;(have ne:¬cV=u2.heap.size:=by omega);replace l10:=aR l10 hb.size;replace hF:=hF.aa hb;have r9:u2.heap.size<n1∨m1<=u2.heap.size:=.inr bq;replace bq:=aS bq hb.size;refine hK'.o _ _ hB (fun aq=>?_);clear hK' K' hb;generalize (u2.alloc (.cells #[.nilFunc] 140))=u3 at *;generalize u2.heap.size=B9 at *;refine aF [6] (cA ?_ aD);intro K' hK';go_simp;refine(HA.o _ (HS.o.aa hB) (HO.o.aa hB)).ae ?_;rintro e u4 ⟨g,ct,rfl,hg1,hi,hb⟩;replace hB:=hB.trans (hb.ae hB.size);replace hF:=hF.aa hb;replace bq:=aS bq hb.size;refine hK'.o _ _ hB (fun ak=>?_);clear hK' K' aq;have aq:=ak;clear ak;obtain⟨g3,o3,e3,cH,cv⟩:=hi v (by rw[ba,pW];exact gg);cases e3;rw[wF gg,bT] at cv;replace h9:=aZ h9 hb;(have g9:¬B9=g:=by omega);replace l9:=aR l9 hb.size;replace h10:=aZ h10 hb;(have g10:¬cV=g:=by omega);replace l10:=aR l10 hb.size;clear hb hi hg1 aq;(try simp only[gE,aP]);refine uK (S':=fun u=>Hid (Below w.heap.size w u)/\u.cell? ⟨g,v,none⟩=some (.int .i64 (stp (ag sizes) (ag other) v:Nat))) (fun _ h=>h.1) _ _ _ _ ?_;have aq:Hid (Below w.heap.size w u4)/\u4.cell? ⟨g,v,none⟩=some (.int .i64 (stp (ag sizes) (ag other) v:Nat)):=⟨hB,cv⟩
    refine aw 8 (.pointer (some ⟨g,v,none⟩)) ?_;refine aw 9 (.int .i64 (stp (ag sizes) (ag other) v:Nat)) ?_
 rotate_left 6
 focus
  intro K' hK';go_simp;have hb:Below u0.heap.size u0 (u0.alloc (.cells #[.nilFunc] 140)):=(au _ u0).alloc (ar _) _;have h9:Boxed (u0.alloc (.cells #[.nilFunc] 140)) u0.heap.size 140 (.nilFunc):=a7 u0 _ _;have l9:u0.heap.size<(u0.alloc (.cells #[.nilFunc] 140)).heap.size:=by simp
  have w9:=hB.size;replace hB:=hB.trans (hb.ae hB.size);refine hK'.o _ _ hB (fun aq=>?_);clear hK' K' hb;generalize (u0.alloc (.cells #[.nilFunc] 140))=u1 at *;generalize u0.heap.size=B9 at *;refine aF [3,11] (cA ?_ (cA ?_ aD))
  focus
   intro K' hK';go_simp;refine(HB.o _ (HS.o.aa hB) (HO.o.aa hB)).ae ?_;rintro e u2 ⟨f,rfl,hF,hb⟩;obtain⟨lb,rfl⟩:=hF.shape;have gh:=hB.size;replace hB:=hB.trans (hb.ae hB.size);refine hK'.o _ _ hB (fun ak=>?_);clear hK' K' aq;have aq:=ak;clear ak;replace h9:=aZ h9 hb;have r9:B9<u1.heap.size∨u2.heap.size<=B9:=.inl l9;replace l9:=aR l9 hb.size;have iy:w.heap.size<=u1.heap.size:=gh;have sK:=hF.top;generalize u1.heap.size=n1 at hF gh iy r9⊢;generalize hm1:u2.heap.size=m1 at hF sK r9;rw[<- hm1] at sK;(have bq:m1<=u2.heap.size:=by omega);clear hb hm1;refine aF [6,11] (cA ?_ (cA ?_ aD))
   focus
    intro K' hK';go_simp;refine(HA.o _ (HS.o.aa hB) (HO.o.aa hB)).ae ?_;rintro e u3 ⟨g,ct,rfl,hg1,hi,hb⟩;replace hB:=hB.trans (hb.ae hB.size);replace hF:=hF.aa hb;replace bq:=aS bq hb.size;refine hK'.o _ _ hB (fun ak=>?_);clear hK' K' aq;have aq:=ak;clear ak;obtain⟨g3,o3,e3,cH,cv⟩:=hi v (by rw[ba,pW];exact gg);cases e3;rw[wF gg,bT] at cv;replace h9:=aZ h9 hb;(have g9:¬B9=g:=by omega);replace l9:=aR l9 hb.size;clear hb hi hg1 aq;(try simp only[gE,aP]);refine uK (S':=fun u=>Hid (Below w.heap.size w u)/\u.cell? ⟨g,v,none⟩=some (.int .i64 (stp (ag sizes) (ag other) v:Nat))) (fun _ h=>h.1) _ _ _ _ ?_;have aq:Hid (Below w.heap.size w u3)/\u3.cell? ⟨g,v,none⟩=some (.int .i64 (stp (ag sizes) (ag other) v:Nat)):=⟨hB,cv⟩;refine aw 8 (.pointer (some ⟨g,v,none⟩)) ?_;refine aw 9 (.int .i64 (stp (ag sizes) (ag other) v:Nat)) ?_;refine aF [11] (cA ?_ aD);intro K' hK';go_simp;have hb:Below u3.heap.size u3 (u3.alloc (.cells #[.int .i64 0] 3)):=(au _ u3).alloc (ar _) _;have h10:Boxed (u3.alloc (.cells #[.int .i64 0] 3)) u3.heap.size 3 (.int .i64 0):=a7 u3 _ _;(have l10:u3.heap.size<(u3.alloc (.cells #[.int .i64 0] 3)).heap.size:=by simp);have bI:=hB.size;replace hB:=hB.trans (hb.ae hB.size);replace h9:=aZ h9 hb;(have ne:¬B9=u3.heap.size:=by omega);replace l9:=aR l9 hb.size;replace hF:=hF.aa hb;have qI:u3.heap.size<n1∨m1<=u3.heap.size:=.inr bq;replace bq:=aS bq hb.size;(have g10:¬u3.heap.size=g:=by omega);replace cv:=(hb.cell (p:=⟨g,v,none⟩) cH).trans cv;replace cH:=aR cH hb.size
    refine hK'.o _ _ ⟨hB,cv⟩ (fun aq=>?_);clear hK' K' hb;generalize (u3.alloc (.cells #[.int .i64 0] 3))=u4 at *;generalize u3.heap.size=cV at *
   rotate_left
   focus
    intro K' hK';go_simp;have hb:Below u2.heap.size u2 (u2.alloc (.cells #[.int .i64 0] 3)):=(au _ u2).alloc (ar _) _;have h10:Boxed (u2.alloc (.cells #[.int .i64 0] 3)) u2.heap.size 3 (.int .i64 0):=a7 u2 _ _;(have l10:u2.heap.size<(u2.alloc (.cells #[.int .i64 0] 3)).heap.size:=by simp);have bI:=hB.size;replace hB:=hB.trans (hb.ae hB.size);replace h9:=aZ h9 hb;(have ne:¬B9=u2.heap.size:=by omega);replace l9:=aR l9 hb.size;replace hF:=hF.aa hb;have qI:u2.heap.size<n1∨m1<=u2.heap.size:=.inr bq;replace bq:=aS bq hb.size;refine hK'.o _ _ hB (fun aq=>?_);clear hK' K' hb;generalize (u2.alloc (.cells #[.int .i64 0] 3))=u3 at *;generalize u2.heap.size=cV at *;refine aF [6] (cA ?_ aD);intro K' hK';go_simp;refine(HA.o _ (HS.o.aa hB) (HO.o.aa hB)).ae ?_;rintro e u4 ⟨g,ct,rfl,hg1,hi,hb⟩;replace hB:=hB.trans (hb.ae hB.size);replace hF:=hF.aa hb;replace bq:=aS bq hb.size;refine hK'.o _ _ hB (fun ak=>?_);clear hK' K' aq;have aq:=ak;clear ak;obtain⟨g3,o3,e3,cH,cv⟩:=hi v (by rw[ba,pW];exact gg);cases e3;rw[wF gg,bT] at cv;replace h9:=aZ h9 hb;(have g9:¬B9=g:=by omega);replace l9:=aR l9 hb.size;replace h10:=aZ h10 hb;(have g10:¬cV=g:=by omega);replace l10:=aR l10 hb.size;clear hb hi hg1 aq;(try simp only[gE,aP]);refine uK (S':=fun u=>Hid (Below w.heap.size w u)/\u.cell? ⟨g,v,none⟩=some (.int .i64 (stp (ag sizes) (ag other) v:Nat))) (fun _ h=>h.1) _ _ _ _ ?_;have aq:Hid (Below w.heap.size w u4)/\u4.cell? ⟨g,v,none⟩=some (.int .i64 (stp (ag sizes) (ag other) v:Nat)):=⟨hB,cv⟩
    refine aw 8 (.pointer (some ⟨g,v,none⟩)) ?_;refine aw 9 (.int .i64 (stp (ag sizes) (ag other) v:Nat)) ?_
  rotate_left 2
  focus
   intro K' hK';go_simp;have hb:Below u1.heap.size u1 (u1.alloc (.cells #[.int .i64 0] 3)):=(au _ u1).alloc (ar _) _;have h10:Boxed (u1.alloc (.cells #[.int .i64 0] 3)) u1.heap.size 3 (.int .i64 0):=a7 u1 _ _;(have l10:u1.heap.size<(u1.alloc (.cells #[.int .i64 0] 3)).heap.size:=by simp);have bI:=hB.size;replace hB:=hB.trans (hb.ae hB.size);replace h9:=aZ h9 hb;(have ne:¬B9=u1.heap.size:=by omega);replace l9:=aR l9 hb.size;refine hK'.o _ _ hB (fun aq=>?_);clear hK' K' hb;generalize (u1.alloc (.cells #[.int .i64 0] 3))=u2 at *;generalize u1.heap.size=cV at *;refine aF [3] (cA ?_ aD);intro K' hK';go_simp;refine(HB.o _ (HS.o.aa hB) (HO.o.aa hB)).ae ?_;rintro e u3 ⟨f,rfl,hF,hb⟩;obtain⟨lb,rfl⟩:=hF.shape;have gh:=hB.size;replace hB:=hB.trans (hb.ae hB.size);refine hK'.o _ _ hB (fun ak=>?_);clear hK' K' aq;have aq:=ak;clear ak;replace h9:=aZ h9 hb;have r9:B9<u2.heap.size∨u3.heap.size<=B9:=.inl l9;replace l9:=aR l9 hb.size;replace h10:=aZ h10 hb;have qI:cV<u2.heap.size∨u3.heap.size<=cV:=.inl l10;replace l10:=aR l10 hb.size;have iy:w.heap.size<=u2.heap.size:=gh;have sK:=hF.top;generalize u2.heap.size=n1 at hF gh iy r9 qI⊢;generalize hm1:u3.heap.size=m1 at hF sK r9 qI;rw[<- hm1] at sK;(have bq:m1<=u3.heap.size:=by omega);clear hb hm1;refine aF [6] (cA ?_ aD);intro K' hK';go_simp;refine(HA.o _ (HS.o.aa hB) (HO.o.aa hB)).ae ?_;rintro e u4 ⟨g,ct,rfl,hg1,hi,hb⟩;replace hB:=hB.trans (hb.ae hB.size);replace hF:=hF.aa hb;replace bq:=aS bq hb.size;refine hK'.o _ _ hB (fun ak=>?_)
   clear hK' K' aq;have aq:=ak;clear ak;obtain⟨g3,o3,e3,cH,cv⟩:=hi v (by rw[ba,pW];exact gg);cases e3;rw[wF gg,bT] at cv;replace h9:=aZ h9 hb;(have g9:¬B9=g:=by omega);replace l9:=aR l9 hb.size;replace h10:=aZ h10 hb;(have g10:¬cV=g:=by omega);replace l10:=aR l10 hb.size;clear hb hi hg1 aq;(try simp only[gE,aP]);refine uK (S':=fun u=>Hid (Below w.heap.size w u)/\u.cell? ⟨g,v,none⟩=some (.int .i64 (stp (ag sizes) (ag other) v:Nat))) (fun _ h=>h.1) _ _ _ _ ?_;have aq:Hid (Below w.heap.size w u4)/\u4.cell? ⟨g,v,none⟩=some (.int .i64 (stp (ag sizes) (ag other) v:Nat)):=⟨hB,cv⟩;refine aw 8 (.pointer (some ⟨g,v,none⟩)) ?_;refine aw 9 (.int .i64 (stp (ag sizes) (ag other) v:Nat)) ?_
 rotate_left 3
 focus
  intro K' hK';go_simp;have hb:Below u0.heap.size u0 (u0.alloc (.cells #[.int .i64 0] 3)):=(au _ u0).alloc (ar _) _;have h10:Boxed (u0.alloc (.cells #[.int .i64 0] 3)) u0.heap.size 3 (.int .i64 0):=a7 u0 _ _;have l10:u0.heap.size<(u0.alloc (.cells #[.int .i64 0] 3)).heap.size:=by simp
  have bI:=hB.size;replace hB:=hB.trans (hb.ae hB.size);refine hK'.o _ _ hB (fun aq=>?_);clear hK' K' hb;generalize (u0.alloc (.cells #[.int .i64 0] 3))=u1 at *;generalize u0.heap.size=cV at *;refine aF [3,10] (cA ?_ (cA ?_ aD))
  focus
   intro K' hK';go_simp;refine(HB.o _ (HS.o.aa hB) (HO.o.aa hB)).ae ?_;rintro e u2 ⟨f,rfl,hF,hb⟩;obtain⟨lb,rfl⟩:=hF.shape;have gh:=hB.size;replace hB:=hB.trans (hb.ae hB.size);refine hK'.o _ _ hB (fun ak=>?_);clear hK' K' aq;have aq:=ak;clear ak;replace h10:=aZ h10 hb;have qI:cV<u1.heap.size∨u2.heap.size<=cV:=.inl l10;replace l10:=aR l10 hb.size;have iy:w.heap.size<=u1.heap.size:=gh;have sK:=hF.top;generalize u1.heap.size=n1 at hF gh iy qI⊢;generalize hm1:u2.heap.size=m1 at hF sK qI;rw[<- hm1] at sK;(have bq:m1<=u2.heap.size:=by omega);clear hb hm1;refine aF [6,10] (cA ?_ (cA ?_ aD))
   focus
    intro K' hK';go_simp;refine(HA.o _ (HS.o.aa hB) (HO.o.aa hB)).ae ?_;rintro e u3 ⟨g,ct,rfl,hg1,hi,hb⟩;replace hB:=hB.trans (hb.ae hB.size);replace hF:=hF.aa hb;replace bq:=aS bq hb.size;refine hK'.o _ _ hB (fun ak=>?_);clear hK' K' aq;have aq:=ak;clear ak;obtain⟨g3,o3,e3,cH,cv⟩:=hi v (by rw[ba,pW];exact gg);cases e3;rw[wF gg,bT] at cv;replace h10:=aZ h10 hb;(have g10:¬cV=g:=by omega);replace l10:=aR l10 hb.size;clear hb hi hg1 aq;(try simp only[gE,aP]);refine uK (S':=fun u=>Hid (Below w.heap.size w u)/\u.cell? ⟨g,v,none⟩=some (.int .i64 (stp (ag sizes) (ag other) v:Nat))) (fun _ h=>h.1) _ _ _ _ ?_;have aq:Hid (Below w.heap.size w u3)/\u3.cell? ⟨g,v,none⟩=some (.int .i64 (stp (ag sizes) (ag other) v:Nat)):=⟨hB,cv⟩;refine aw 8 (.pointer (some ⟨g,v,none⟩)) ?_;refine aw 9 (.int .i64 (stp (ag sizes) (ag other) v:Nat)) ?_;refine aF [10] (cA ?_ aD);intro K' hK';go_simp;have hb:Below u3.heap.size u3 (u3.alloc (.cells #[.nilFunc] 140)):=(au _ u3).alloc (ar _) _;have h9:Boxed (u3.alloc (.cells #[.nilFunc] 140)) u3.heap.size 140 (.nilFunc):=a7 u3 _ _;(have l9:u3.heap.size<(u3.alloc (.cells #[.nilFunc] 140)).heap.size:=by simp);have w9:=hB.size;replace hB:=hB.trans (hb.ae hB.size);replace h10:=aZ h10 hb;(have ne:¬cV=u3.heap.size:=by omega);replace l10:=aR l10 hb.size;replace hF:=hF.aa hb;have r9:u3.heap.size<n1∨m1<=u3.heap.size:=.inr bq;replace bq:=aS bq hb.size;(have g9:¬u3.heap.size=g:=by omega);replace cv:=(hb.cell (p:=⟨g,v,none⟩) cH).trans cv;replace cH:=aR cH hb.size
    refine hK'.o _ _ ⟨hB,cv⟩ (fun aq=>?_);clear hK' K' hb;generalize (u3.alloc (.cells #[.nilFunc] 140))=u4 at *;generalize u3.heap.size=B9 at *
   rotate_left
   focus
    intro K' hK';go_simp;have hb:Below u2.heap.size u2 (u2.alloc (.cells #[.nilFunc] 140)):=(au _ u2).alloc (ar _) _;have h9:Boxed (u2.alloc (.cells #[.nilFunc] 140)) u2.heap.size 140 (.nilFunc):=a7 u2 _ _;(have l9:u2.heap.size<(u2.alloc (.cells #[.nilFunc] 140)).heap.size:=by simp);have w9:=hB.size;replace hB:=hB.trans (hb.ae hB.size);replace h10:=aZ h10 hb;(have ne:¬cV=u2.heap.size:=by omega);replace l10:=aR l10 hb.size;replace hF:=hF.aa hb;have r9:u2.heap.size<n1∨m1<=u2.heap.size:=.inr bq;replace bq:=aS bq hb.size;refine hK'.o _ _ hB (fun aq=>?_);clear hK' K' hb;generalize (u2.alloc (.cells #[.nilFunc] 140))=u3 at *;generalize u2.heap.size=B9 at *;refine aF [6] (cA ?_ aD);intro K' hK';go_simp;refine(HA.o _ (HS.o.aa hB) (HO.o.aa hB)).ae ?_;rintro e u4 ⟨g,ct,rfl,hg1,hi,hb⟩;replace hB:=hB.trans (hb.ae hB.size);replace hF:=hF.aa hb;replace bq:=aS bq hb.size;refine hK'.o _ _ hB (fun ak=>?_);clear hK' K' aq;have aq:=ak;clear ak;obtain⟨g3,o3,e3,cH,cv⟩:=hi v (by rw[ba,pW];exact gg);cases e3;rw[wF gg,bT] at cv;replace h9:=aZ h9 hb;(have g9:¬B9=g:=by omega);replace l9:=aR l9 hb.size;replace h10:=aZ h10 hb;(have g10:¬cV=g:=by omega);replace l10:=aR l10 hb.size;clear hb hi hg1 aq;(try simp only[gE,aP]);refine uK (S':=fun u=>Hid (Below w.heap.size w u)/\u.cell? ⟨g,v,none⟩=some (.int .i64 (stp (ag sizes) (ag other) v:Nat))) (fun _ h=>h.1) _ _ _ _ ?_;have aq:Hid (Below w.heap.size w u4)/\u4.cell? ⟨g,v,none⟩=some (.int .i64 (stp (ag sizes) (ag other) v:Nat)):=⟨hB,cv⟩
    refine aw 8 (.pointer (some ⟨g,v,none⟩)) ?_;refine aw 9 (.int .i64 (stp (ag sizes) (ag other) v:Nat)) ?_
  rotate_left 2
  focus
   intro K' hK';go_simp;have hb:Below u1.heap.size u1 (u1.alloc (.cells #[.nilFunc] 140)):=(au _ u1).alloc (ar _) _;have h9:Boxed (u1.alloc (.cells #[.nilFunc] 140)) u1.heap.size 140 (.nilFunc):=a7 u1 _ _;(have l9:u1.heap.size<(u1.alloc (.cells #[.nilFunc] 140)).heap.size:=by simp);have w9:=hB.size;replace hB:=hB.trans (hb.ae hB.size);replace h10:=aZ h10 hb;(have ne:¬cV=u1.heap.size:=by omega);replace l10:=aR l10 hb.size;refine hK'.o _ _ hB (fun aq=>?_);clear hK' K' hb;generalize (u1.alloc (.cells #[.nilFunc] 140))=u2 at *;generalize u1.heap.size=B9 at *;refine aF [3] (cA ?_ aD);intro K' hK';go_simp;refine(HB.o _ (HS.o.aa hB) (HO.o.aa hB)).ae ?_;rintro e u3 ⟨f,rfl,hF,hb⟩;obtain⟨lb,rfl⟩:=hF.shape;have gh:=hB.size;replace hB:=hB.trans (hb.ae hB.size);refine hK'.o _ _ hB (fun ak=>?_);clear hK' K' aq;have aq:=ak;clear ak;replace h9:=aZ h9 hb;have r9:B9<u2.heap.size∨u3.heap.size<=B9:=.inl l9;replace l9:=aR l9 hb.size;replace h10:=aZ h10 hb;have qI:cV<u2.heap.size∨u3.heap.size<=cV:=.inl l10;replace l10:=aR l10 hb.size;have iy:w.heap.size<=u2.heap.size:=gh;have sK:=hF.top;generalize u2.heap.size=n1 at hF gh iy r9 qI⊢;generalize hm1:u3.heap.size=m1 at hF sK r9 qI;rw[<- hm1] at sK;(have bq:m1<=u3.heap.size:=by omega);clear hb hm1;refine aF [6] (cA ?_ aD);intro K' hK';go_simp;refine(HA.o _ (HS.o.aa hB) (HO.o.aa hB)).ae ?_;rintro e u4 ⟨g,ct,rfl,hg1,hi,hb⟩;replace hB:=hB.trans (hb.ae hB.size);replace hF:=hF.aa hb;replace bq:=aS bq hb.size;refine hK'.o _ _ hB (fun ak=>?_);clear hK' K' aq
   have aq:=ak;clear ak;obtain⟨g3,o3,e3,cH,cv⟩:=hi v (by rw[ba,pW];exact gg);cases e3;rw[wF gg,bT] at cv;replace h9:=aZ h9 hb;(have g9:¬B9=g:=by omega);replace l9:=aR l9 hb.size;replace h10:=aZ h10 hb;(have g10:¬cV=g:=by omega);replace l10:=aR l10 hb.size;clear hb hi hg1 aq;(try simp only[gE,aP]);refine uK (S':=fun u=>Hid (Below w.heap.size w u)/\u.cell? ⟨g,v,none⟩=some (.int .i64 (stp (ag sizes) (ag other) v:Nat))) (fun _ h=>h.1) _ _ _ _ ?_;have aq:Hid (Below w.heap.size w u4)/\u4.cell? ⟨g,v,none⟩=some (.int .i64 (stp (ag sizes) (ag other) v:Nat)):=⟨hB,cv⟩;refine aw 8 (.pointer (some ⟨g,v,none⟩)) ?_;refine aw 9 (.int .i64 (stp (ag sizes) (ag other) v:Nat)) ?_
 all_goals
  refine aF [12] (cA ?_ aD);have c9:=h9.cell;have f9:=h9.frozen;intro K' hK';go_simp;have e9:Boxed (u4.setCell ⟨B9,0,none⟩ (.func (.func 234) #[] lb)) B9 140 (.func (.func 234) #[] lb):=h9.set _;have Pc:Boxed (u4.setCell ⟨B9,0,none⟩ (.func (.func 234) #[] lb)) cV 3 (.int .i64 0):=eO h10 B9 0 _ (by omega);replace hF:=hF.kept (zm.set u4 0 (.func (.func 234) #[] lb) bq r9);replace hB:=acQ hB B9 0 (.func (.func 234) #[] lb) w9;replace cv:(u4.setCell ⟨B9,0,none⟩ (.func (.func 234) #[] lb)).cell? ⟨g,v,none⟩=_:=(bX _ _ _ _ (fun e=>g9 (bR Addr.block e))).trans cv;have lz:u4.heap.size<=(u4.setCell ⟨B9,0,none⟩ (.func (.func 234) #[] lb)).heap.size:=(iG u4 _ _).size;replace l9:=aR l9 lz;replace l10:=aR l10 lz;replace bq:=aS bq lz;refine hK'.o _ _ ⟨hB,cv⟩ (fun ak=>?_);clear hK' K' aq h9 h10 c9 f9 lz;have aq:=ak;clear ak;generalize (u4.setCell ⟨B9,0,none⟩ (.func (.func 234) #[] lb))=v1 at *;have c10:=Pc.cell;have f10:=Pc.frozen;refine aF [13] (cA ?_ aD);intro K' hK';go_simp;have x9:Boxed (v1.setCell ⟨cV,0,none⟩ (.int .i64 (stp (ag sizes) (ag other) v:Nat))) B9 140 (.func (.func 234) #[] lb):=eO e9 cV 0 _ (by omega);have YL:=Pc.set (.int .i64 (stp (ag sizes) (ag other) v:Nat));replace hF:=hF.kept (zm.set v1 0 (.int .i64 (stp (ag sizes) (ag other) v:Nat)) bq qI);replace hB:=acQ hB cV 0 (.int .i64 (stp (ag sizes) (ag other) v:Nat)) bI;replace cv:(v1.setCell ⟨cV,0,none⟩ (.int .i64 (stp (ag sizes) (ag other) v:Nat))).cell? ⟨g,v,none⟩=_:=(bX _ _ _ _ (fun e=>g10 (bR Addr.block e))).trans cv
  have lz:v1.heap.size<=(v1.setCell ⟨cV,0,none⟩ (.int .i64 (stp (ag sizes) (ag other) v:Nat))).heap.size:=(iG v1 _ _).size;replace l9:=aR l9 lz;replace l10:=aR l10 lz;replace bq:=aS bq lz;refine hK'.o _ _ ⟨hB,cv⟩ (fun _=>dW (by kernel_rfl) ?_ _);clear hK' K' aq e9 Pc c10 f10 lz;generalize (v1.setCell ⟨cV,0,none⟩ (.int .i64 (stp (ag sizes) (ag other) v:Nat)))=v2 at *;go_wp2;go_ret;exact⟨_,rfl,⟨B9,cV,_,rfl,w9,bI,l9,l10,ar _,x9.cell,YL.cell,hF.wider iy bq (ar _)⟩,hB⟩
variable {pv:Value} {V':World}
abbrev dP (f:Fr):Value:=.agg #[.bool f.1,.string f.2.1,.string f.2.2]
structure JF (w V:World) (pv:Value) (B:Nat) (n:Bool) (x y:ByteArray):Prop where
 how:Boxed V w.heap.size 224 pv
 res:aC V (w.heap.size+1) false ⟨#[]⟩ ⟨#[]⟩
 left:aC V B n x y
 aa:Below w.heap.size w V
 lt:w.heap.size+1<B
theorem JF.step {B:Nat} {n:Bool} {x y:ByteArray} (h:JF w V pv B n x y) (hb:Below V.heap.size V V'):JF w V' pv B n x y:=
 ⟨(hb.block _ h.how.lt).trans h.how,h.res.aa hb h.res.lt,h.left.aa hb h.left.lt,h.aa.trans (hb.ae h.aa.size),h.lt⟩
theorem JF.drew {B:Nat} {n:Bool} {x y:ByteArray} (h:JF w V pv B n x y):JF w V.drew pv B n x y:=⟨h.how,h.res,h.left,h.aa.drew,h.lt⟩
theorem JF.put {B:Nat} {n:Bool} {x y:ByteArray} (h:JF w V pv B n x y) (n':Bool) (x' y':ByteArray):JF w (((V.setCell ⟨B,0,none⟩ (.bool n')).setCell ⟨B,1,none⟩ (.string x')).setCell ⟨B,2,none⟩ (.string y')) pv B n' x' y':=by
 have h1:=h.lt;exact⟨eO (eO (eO h.how B 0 _ (by omega)) B 1 _ (by omega)) B 2 _ (by omega),((h.res.far (by omega) _).far (by omega) _).far (by omega) _,h.left.put n' x' y',bF h.aa (by omega) _ _ _,h.lt⟩
theorem aiL (pf tf:Nat) (ll GL:Array Value) (ep:∀args w,(callFunc pf args).run Tryz.prog w=.ok (.enter pf args) w) (et:∀args w,(callFunc tf args).run Tryz.prog w=.ok (.enter tf args) w) (n:Nat) (T L:Nat ->Fr) (w:World) (h1:1<=n) (hn:n<=65536)
  (ht:∀k,k< n ->∀V,Below w.heap.size w V ->Calls Tryz.prog tf (#[.int .i64 (k:Nat)]++GL) V fun e w'=>e=.returned (dP (T k))/\Below V.heap.size V w')
  (hp:∀k,k+1< n ->∀V,Below w.heap.size w V ->Calls Tryz.prog pf (#[dP (L k),dP (T (k+1))]++ll) V fun e w'=>e=.returned (dP (L (k+1)))/\Below V.heap.size V w')
  (h0:L 0=T 0):
  Calls Tryz.prog 205 #[.agg #[.func (.func pf) #[] ll],.int .i64 (n:Nat),.func (.func tf) #[] GL] w fun e w'=>e=.returned (dP (L (n - 1)))/\Below w.heap.size w w':=by
 have HT:=hid ht;have HP:=hid hp;clear ht hp;go_enter Tryz.func205,Tryz.ntmps205;go_wp2_with fail
 have hb0:Below w.heap.size w ((w.alloc (.cells #[.func (.func pf) #[] ll] 224)).alloc (.cells #[.bool false,.string ⟨#[]⟩,.string ⟨#[]⟩] 32)):=((au _ w).alloc (ar _) _).alloc (by simp) _;have b0:Boxed ((w.alloc (.cells #[.func (.func pf) #[] ll] 224)).alloc (.cells #[.bool false,.string ⟨#[]⟩,.string ⟨#[]⟩] 32)) w.heap.size 224 (.func (.func pf) #[] ll):=(a7 w _ _).alloc _
 have b1:aC ((w.alloc (.cells #[.func (.func pf) #[] ll] 224)).alloc (.cells #[.bool false,.string ⟨#[]⟩,.string ⟨#[]⟩] 32)) (w.heap.size+1) false ⟨#[]⟩ ⟨#[]⟩:=by
  have h:=aC.new (w.alloc (.cells #[.func (.func pf) #[] ll] 224)) false ⟨#[]⟩ ⟨#[]⟩;rwa [cN] at h
 have hsz:((w.alloc (.cells #[.func (.func pf) #[] ll] 224)).alloc (.cells #[.bool false,.string ⟨#[]⟩,.string ⟨#[]⟩] 32)).heap.size=w.heap.size+1+1:=by simp
 generalize ((w.alloc (.cells #[.func (.func pf) #[] ll] 224)).alloc (.cells #[.bool false,.string ⟨#[]⟩,.string ⟨#[]⟩] 32))=W at *;have Qu:=hid h0;refine(HT.o 0 (by omega) _ hb0).ae ?_;rcases Hs:T 0 with ⟨n0,x0,y0⟩;rintro e w1 ⟨rfl,hb1⟩;rw[Hs] at h0;have Qe:=hid h0;clear h0 Hs Qu;have hs1:=hb1.size;have c0:=(aZ b0 hb1);have c1:=b1.aa hb1 b1.lt;have cB:=hb0.trans (hb1.ae hb0.size);go_wp2_with fail
 have Mk:Hid (JF w (w1.alloc (.cells #[.bool n0,.string x0,.string y0] 32)) (.func (.func pf) #[] ll) w1.heap.size n0 x0 y0):=⟨c0.alloc _,c1.alloc _,aC.new w1 n0 x0 y0,cB.alloc cB.size _,by omega⟩;generalize w1.heap.size=B at *;clear b0 b1 hb0 hsz hb1 hs1 c0 c1 cB;go_loopw [13] (fun iv wr=>∃i:Nat,i+1<=n/\iv=.int .i64 i/\Hid (JF w wr (.func (.func pf) #[] ll) B (L i).1 (L i).2.1 (L i).2.2)) (fun iv _=>n - (intOf iv).toNat)
 case atStart=>exact⟨0,h1,rfl,by rw[Qe.o];exact Mk⟩
 case round=>
  obtain⟨i,hi,rfl,HJ⟩:=hrel;clear Mk Qe;by_cases hlt:i+1<n
  ·have Dv:=HT.o (i+1) hlt;have pH:=HP.o i hlt;rw[Int.natCast_succ] at Dv;rcases hL:L i with ⟨ni,xi,yi⟩;rcases hT:T (i+1) with ⟨nt,xt,yt⟩;rcases Ul:L (i+1) with ⟨nl,xl,yl⟩;rw[hL] at HJ pH;rw[hT] at Dv pH;rw[Ul] at pH;have FD:=hid Dv;have q8:=hid pH;have mE:=hid Ul;clear Dv pH hL hT Ul;have J0:=HJ.o;simp only at J0;obtain⟨k0,k1,k2,f0,f1,f2⟩:=J0.left.facts;have um:=J0.drew;(have hwi:IntKind.i64.wrap ((i:Int)+1)=(i:Int)+1:=by rw[eo];omega);go_upto_region 5 with fail
   refine jJ (S:=fun V=>V.cell? ⟨w.heap.size,0,none⟩=some (.func (.func pf) #[] ll)) (by kernel_rfl) um.how.cell (fun aq=>?_);have d0:=um.left.c0;have d1:=um.left.c1;have d2:=um.left.c2;refine aw 0 (.pointer (some ⟨w.heap.size,0,none⟩)) ?_;refine aw 1 (.func (.func pf) #[] ll) ?_;refine aw 3 (.func (.func tf) #[] GL) ?_;refine aw 4 (.int .i64 (i:Nat)) ?_;refine aw 5 (.int .i64 ((i:Int)+1)) ?_;refine aF [2,6] (cA ?_ (cA ?_ aD))
   focus
    intro K' hK';go_simp;refine hK'.o _ _ um.how.cell (fun ak=>?_);clear hK' K' aq;have aq:=ak;clear ak;refine aF [6] (cA ?_ aD);intro K' hK';go_simp;refine(FD.o _ um.aa).ae ?_;rintro e w2 ⟨rfl,hb2⟩;have J1:=um.step hb2;obtain⟨e0,e1,e2,_,_,_⟩:=J1.left.facts
   rotate_left
   focus
    intro K' hK';go_simp;refine(FD.o _ um.aa).ae ?_;rintro e w2 ⟨rfl,hb2⟩;have J1:=um.step hb2;obtain⟨e0,e1,e2,_,_,_⟩:=J1.left.facts;refine hK'.o _ _ J1.how.cell (fun ak=>?_);clear hK' K' aq;have aq:=ak;clear ak;refine aF [2] (cA ?_ aD);intro K' hK';go_simp
   all_goals
    refine hK'.o _ _ J1.how.cell (fun ak=>?_);clear hK' K' aq;have aq:=ak;clear ak;refine aF [7] (cA ?_ aD);intro K' hK';go_simp;refine(q8.o _ J1.aa).ae ?_;rintro e w3 ⟨rfl,hb3⟩;have J2:=J1.step hb3;refine hK'.o _ _ J2.how.cell (fun ak=>?_);clear hK' K' aq;have aq:=ak;clear ak;obtain⟨q0,q1,q2,p0,p1,p2⟩:=J2.left.facts;refine aF [8] (cA ?_ aD);intro K' hK';go_simp;have J3:=J2.put nl xl yl;refine hK'.o _ _ J3.how.cell (fun _=>dW (by kernel_rfl) ?_ _);clear hK' K' aq;go_wp2;go_roundw
    case rel=>exact⟨i+1,by omega,by rw[Int.natCast_succ],by rw[mE.o];exact J3⟩
    case measure=>simp[intOf];omega
  ·have hin:i+1=n:=by omega
   (have HE:Hid (L (n - 1)=L i):=by show _=_;rw[show n - 1=i by omega]);have J0:=HJ.o;obtain⟨k0,k1,k2,f0,f1,f2⟩:=J0.left.facts;obtain⟨r0,r1,r2,t0,t1,t2⟩:=J0.res.facts;go_wp2;refine bB ((J0.res.put _ _ _).result rfl _ rfl) rfl ?_;exact⟨by rw[HE.o],bF J0.aa (by omega) _ _ _⟩
abbrev aT (f:Fr):Rat:=val f.1 f.2.1 f.2.2
def great (f g:Fr):Fr:=if cQ (aT f) (aT g)<0 then g else f
theorem akb (f g:Fr) (w:World) (s1:f.2.1.size+f.2.2.size<=100000) (s2:g.2.1.size+g.2.2.size<=100000):
  Calls Tryz.prog 235 #[dP f,dP g] w fun e w'=>e=.returned (dP (great f g))/\Below w.heap.size w w':=by
 obtain⟨n,x,y⟩:=f;obtain⟨m,u,v⟩:=g;have HC:=hid (fun V:World=>O9 (w:=V) (cQ (val n x y) (val m u v)) rfl rfl rfl s1 s2);have HG:Hid (great (n,x,y) (m,u,v)=if cQ (val n x y) (val m u v)<0 then(m,u,v) else(n,x,y)):=rfl;generalize great (n,x,y) (m,u,v)=r at *;generalize cQ (val n x y) (val m u v)=k at *;have b0:aC (((w.alloc (FC n x y)).alloc (FC m u v)).alloc (FC false ⟨#[]⟩ ⟨#[]⟩)) w.heap.size n x y:=((aC.new w n x y).alloc _).alloc _;have b1:aC (((w.alloc (FC n x y)).alloc (FC m u v)).alloc (FC false ⟨#[]⟩ ⟨#[]⟩)) (w.heap.size+1) m u v:=(aC.at (w:=w.alloc (FC n x y)) (by simp) m u v).alloc _;have b2:aC (((w.alloc (FC n x y)).alloc (FC m u v)).alloc (FC false ⟨#[]⟩ ⟨#[]⟩)) (w.heap.size+1+1) false ⟨#[]⟩ ⟨#[]⟩:=aC.at (w:=(w.alloc (FC n x y)).alloc (FC m u v)) (by simp) false ⟨#[]⟩ ⟨#[]⟩;have hb0:Below w.heap.size w (((w.alloc (FC n x y)).alloc (FC m u v)).alloc (FC false ⟨#[]⟩ ⟨#[]⟩)):=(((au _ w).alloc (ar _) _).alloc (by simp) _).alloc (by simp;omega) _;go_enter Tryz.func235,Tryz.ntmps235;go_wp2_with fail
 generalize (((w.alloc (FC n x y)).alloc (FC m u v)).alloc (FC false ⟨#[]⟩ ⟨#[]⟩))=W at b0 b1 b2 hb0⊢;refine(HC.o _).ae ?_;rintro e w1 ⟨rfl,hb1⟩;have c0:=b0.aa hb1 b0.lt;have c1:=b1.aa hb1 b1.lt;have c2:=b2.aa hb1 b2.lt;have hB:=hb0.trans (hb1.ae hb0.size);obtain⟨k0,k1,k2,f0,f1,f2⟩:=c0.facts;obtain⟨j0,j1,j2,i0,i1,i2⟩:=c1.facts;obtain⟨l0,l1,l2,g0,g1,g2⟩:=c2.facts;by_cases hk:k<0
 ·have HR:Hid (r=(m,u,v)):=by show _=_;rw[HG.o,aaf hk]
  clear HG;go_wp2;refine bB ((c2.put _ _ _).result rfl _ rfl) rfl ?_;exact⟨by rw[HR.o],bF hB (by omega) _ _ _⟩
 ·have HR:Hid (r=(n,x,y)):=by show _=_;rw[HG.o,aaO hk]
  have dH:0<=k:=by omega
  clear HG;go_wp2;refine bB ((c2.put _ _ _).result rfl _ rfl) rfl ?_;exact⟨by rw[HR.o],bF hB (by omega) _ _ _⟩
theorem X9 (w:World):Calls Tryz.prog 202 #[] w fun e w'=>e=.returned (.agg #[.func (.func 141) #[] #[]])/\Below w.heap.size w w':=by
 go_enter Tryz.func202,Tryz.ntmps202;go_wp2;refine bB (Gi rfl _ _ w.heap.size _ _ _ _ rfl (a7 w _ _) Tryz.underlying224 rfl (by kernel_rfl)) rfl ?_;exact⟨rfl,(au _ w).alloc (ar _) _⟩
theorem aka (w:World):Calls Tryz.prog 203 #[] w fun e w'=>e=.returned (.agg #[.func (.func 235) #[] #[]])/\Below w.heap.size w w':=by
 go_enter Tryz.func203,Tryz.ntmps203;go_wp2;refine bB (Gi rfl _ _ w.heap.size _ _ _ _ rfl (a7 w _ _) Tryz.underlying224 rfl (by kernel_rfl)) rfl ?_;exact⟨rfl,(au _ w).alloc (ar _) _⟩
def oO:List Fr ->List Value
 |[]=>[]
 |f::l=>.bool f.1::.string f.2.1::.string f.2.2::oO l
theorem UN:∀l:List Fr,(oO l).length=3*l.length
 |[]=>rfl
 |f::l=>by simp only[oO,eU,UN l];omega
theorem O4:∀(l:List Fr) (k:Nat) (h:k<l.length),(oO l)[k*3]? =some (.bool l[k].1)/\(oO l)[k*3+1]? =some (.string l[k].2.1)/\(oO l)[k*3+2]? =some (.string l[k].2.2)
 |[],_,h=>absurd h (by simp)
 |f::l,0,_=>⟨rfl,rfl,rfl⟩
 |f::l,k+1,h=>by
  have h':k<l.length:=by simpa using h
  obtain⟨h1,h2,h3⟩:=O4 l k h';have e:(k+1)*3=k*3+1+1+1:=by omega
  refine⟨?_,?_,?_⟩
  ·rw[e];exact h1
  ·rw[show (k+1)*3+1=(k*3+1)+1+1+1 by omega];exact h2
  ·rw[show (k+1)*3+2=(k*3+2)+1+1+1 by omega];exact h3
theorem UM:∀(l:List Fr) (k:Nat) (f:Fr),(((oO l).set (k*3) (.bool f.1)).set (k*3+1) (.string f.2.1)).set (k*3+2) (.string f.2.2)=oO (l.set k f)
 |[],k,f=>by simp[oO]
 |x::l,0,f=>by simp[oO]
 |x::l,k+1,f=>by
  rw[show (k+1)*3=k*3+1+1+1 by omega,show k*3+1+1+1+1=(k*3+1)+1+1+1 by omega,show k*3+1+1+1+2=(k*3+2)+1+1+1 by omega];simp only[oO,List.set_cons_succ,UM l k f]
def jY (w:World) (g:Nat) (l:List Fr):Prop:=w.heap[g]? =some (.cells (oO l).toArray 32 (0,0))
theorem jY.lt {l:List Fr} (h:jY w g l):g<w.heap.size:=(eL.1 h).1
theorem jY.fz {l:List Fr} (h:jY w g l) (j:Nat):w.frozen? ⟨g,j,none⟩=false:=pN w g j _ _ h
theorem jY.aa {b:Nat} {l:List Fr} (h:jY w g l) (hb:Below b w w') (hg:g<b):jY w' g l:=(hb.block g hg).trans h
theorem jY.cells {l:List Fr} (h:jY w g l) (k:Nat) (hk:k<l.length):w.cell? ⟨g,k*3,none⟩=some (.bool l[k].1)/\w.cell? ⟨g,k*3+1,none⟩=some (.string l[k].2.1)/\w.cell? ⟨g,k*3+2,none⟩=some (.string l[k].2.2):=by
 obtain⟨h1,h2,h3⟩:=O4 l k hk;refine⟨?_,?_,?_⟩<;>rw[cC w g _ _ _ (0,0) h]<;>simpa using (by assumption)
theorem jY.fr {l:List Fr} (h:jY w g l):bZ w (some ⟨g,0,none⟩) l:=fun k hk=>by
 obtain⟨h1,h2,h3⟩:=h.cells k hk;refine⟨g,0,rfl,h.lt,?_,?_,?_⟩
 ·rw[bT];exact h1
 ·rw[bT];exact h2
 ·rw[bT];exact h3
theorem jY.put {l:List Fr} (h:jY w g l) (k:Nat) (f:Fr):jY (((w.setCell ⟨g,k*3,none⟩ (.bool f.1)).setCell ⟨g,k*3+1,none⟩ (.string f.2.1)).setCell ⟨g,k*3+2,none⟩ (.string f.2.2)) g (l.set k f):=by
 have h1:=mM w g (k*3) _ _ (.bool f.1) h;have h2:=mM _ g (k*3+1) _ _ (.string f.2.1) h1;have h3:=mM _ g (k*3+2) _ _ (.string f.2.2) h2;rw[jY,h3, <- UM];simp
variable {xs:List Value}
def y8:Fr:=(false,⟨#[]⟩,⟨#[]⟩)
def rA (l:List Fr) (i:Nat):List Fr:=l.take i++List.replicate (l.length - i) y8
theorem Zx (l:List Fr):rA l 0=List.replicate l.length y8:=by simp[rA]
theorem R7 (l:List Fr) (h:i<=l.length):(rA l i).length=l.length:=by simp[rA];omega
theorem Zz (l:List Fr):rA l l.length=l:=by simp[rA]
theorem Zy (l:List Fr) (h:i<l.length):(rA l i).set i l[i]=rA l (i+1):=by
 rw[rA,rA,Ed _ _ (by simp;omega),fR h];have e:l.length - i=(l.length - (i+1))+1:=by omega
 rw[e,Jc,eZ,uG (by omega),qE,Ec,rW];rfl
theorem Tryz.infoFrac:(Tryz.prog.info? 32).map (fun i=>(i.zero,i.size,i.bytes))=some (some (.agg #[.bool false,.string ⟨#[]⟩,.string ⟨#[]⟩]),3,40):=by kernel_rfl
theorem bh.put {u v:Value} (h:bh w g u v) (x y:Value):bh ((w.setCell ⟨g,0,none⟩ x).setCell ⟨g,1,none⟩ y) g x y:=by
 have h1:=mM w g 0 _ _ x h;have h2:=mM _ g 1 _ _ y h1;exact h2
theorem jY.off {l:List Fr} (h:jY w g l) (b j:Nat) (y:Value) (hne:g≠b):jY (w.setCell ⟨b,j,none⟩ y) g l:=(je w ⟨b,j,none⟩ y g hne).trans h
theorem acN {base:Nat} {t:TypeId} (h:w.ownsRow base t 3 (.slice (some ⟨g,0,none⟩) n n) n xs):w.heap[g]? =some (.cells xs.toArray t (0,0)):=by
 rcases h.2 with ⟨h',_⟩ |⟨g',cap',cur,h',_,hg,CL,_,hsz,lA⟩
 ·cases h'
 ·cases h';rw[hg, <- lA,jd (by simp;omega)]
theorem ab2:∀(n j:Nat),j<3*n ->(oO (List.replicate n y8))[j]? =some (#[Value.bool false,Value.string ⟨#[]⟩,Value.string ⟨#[]⟩][j % 3]!)
 |0,j,h=>by omega
 |n+1,0,_=>rfl
 |n+1,1,_=>rfl
 |n+1,2,_=>rfl
 |n+1,j+3,h=>by
  rw[show (j+3) % 3=j % 3 by omega,Jc];exact ab2 n j (by omega)
theorem aax (n:Nat):(madeCells (Value.agg #[Value.bool false,Value.string ⟨#[]⟩,Value.string ⟨#[]⟩]).cells (n*3)).toList=oO (List.replicate n y8):=by
 apply Gu;intro j;by_cases h:j<3*n
 ·rw[ab2 n j h,madeCells];have h':j<n*3:=by omega
  simp[h',Value.cells]
 ·rw[iF (by rw[yu,size_madeCells];omega),iF (by rw[UN,Gs];omega)]
theorem K8 (a b:Option Addr) (ca cb:Nat) (sizes vars:List Int) (F:Nat) (lb:Array Value) (eF:∀args w,(callFunc F args).run Tryz.prog w=.ok (.enter F args) w) (l:List Fr) (w:World) (hs:aaK w a sizes) (hv:aaK w b vars) (aJ:eH sizes) (aX:Up vars sizes.length) (hl:l.length=cnt (ag sizes) (ag vars))
  (ht:∀k (h:k<l.length),∀V,Below w.heap.size w V ->Calls Tryz.prog F (#[.int .i64 (k:Nat)]++lb) V fun e w'=>e=.returned (dP l[k])/\Below V.heap.size V w'):
  Calls Tryz.prog 89 #[.slice a sizes.length ca,.slice b vars.length cb,.func (.func F) #[] lb] w fun e w'=>∃g:Nat,e=.returned (.agg #[.slice b vars.length cb,.slice (some ⟨g,0,none⟩) l.length l.length])/\w.heap.size<=g/\jY w' g l/\Below w.heap.size w w':=by
 obtain⟨i0,cU,hz0,hz1,hz2⟩:=eT Tryz.infoFrac;have HS:=hid hs;have HV:=hid hv;have HT:=hid ht;have HC:=hid (fun V h1 h2=>acx a b ca cb sizes vars V h1 h2 aJ aX);have nD:=aJ.eight;have hvl:=aX.length;have hsm:cnt (ag sizes) (ag vars)<=65536:=pw aJ.sz_le (by rw[cS];omega);rw[<- hl] at hsm HC;clear hs hv ht hl aJ aX;go_enter Tryz.func89,Tryz.ntmps89;go_wp2_with fail
 have b0:(w.alloc (.cells #[.slice none 0 0,.slice none 0 0] 39)).heap[w.heap.size]? =some (.cells #[.slice none 0 0,.slice none 0 0] 39 (0,0)):=kd _ _;have hb0:Below w.heap.size w (w.alloc (.cells #[.slice none 0 0,.slice none 0 0] 39)):=(au _ w).alloc (ar _) _;have hs0:(w.alloc (.cells #[.slice none 0 0,.slice none 0 0] 39)).heap.size=w.heap.size+1:=by simp
 generalize (w.alloc (.cells #[.slice none 0 0,.slice none 0 0] 39))=W at b0 hb0 hs0⊢;refine(HC.o _ (HS.o.aa hb0) (HV.o.aa hb0)).ae ?_;rintro e w1 ⟨rfl,hb1⟩;have hs1:=hb1.size;have b1:w1.heap[w.heap.size]? =some (.cells #[.slice none 0 0,.slice none 0 0] 39 (0,0)):=(hb1.block _ (by omega)).trans b0;have hB1:=hb0.trans (hb1.ae hb0.size)
 go_wp2_with (first
  |(at_make;refine mL _ rfl _ _ 37 rfl w1.heap.size 32 i0 (.agg #[.bool false,.string ⟨#[]⟩,.string ⟨#[]⟩]) 3 Tryz.underlying37 cU hz0 hz1 .i64 .i64 _ _ l.length rfl rfl (by go_num) (by go_num) (by rw[hz2];omega) (by unfold maxLen;omega) (ar _) ?_;intro w2 hown2 hgrow2))
 have hr2:=acN hown2;rw[aax] at hr2;have iT:Hid (jY w2 w1.heap.size (List.replicate l.length y8)):=hr2;have hB2:Below w1.heap.size w1 w2:=(au _ w1).grown hgrow2 (ar _) (fun k e=>by cases e);have b2:w2.heap[w.heap.size]? =some (.cells #[.slice none 0 0,.slice none 0 0] 39 (0,0)):=(hB2.block _ (by omega)).trans b1;have bc:=hid (hB1.trans (hB2.ae hB1.size));have Kk:w.heap.size+1<=w1.heap.size:=by omega
 generalize w1.heap.size=G at *;clear hown2 hgrow2 hr2 hB2 b1 b0 hb0 hb1 hB1 hs1 hs0;have jZ:Hid (bh w2 w.heap.size (.slice none 0 0) (.slice none 0 0)):=b2;clear b2;go_wp2_with fail
 go_loopw [15] (fun iv wr=>∃i:Nat,i<=l.length/\iv=.int .i64 i/\Hid (jY wr G (rA l i))/\Hid (bh wr w.heap.size (.slice none 0 0) (.slice none 0 0))/\Hid (Below w.heap.size w wr)) (fun iv _=>l.length - (intOf iv).toNat)
 case atStart=>exact⟨0,aU _,rfl,by rw[Zx];exact iT,jZ,bc⟩
 case round=>
  obtain⟨i,hi,rfl,HR,HX,HB⟩:=hrel;clear iT jZ bc;by_cases hlt:i<l.length
  ·have HST:=hid (Zy l hlt);have FD:=hid (HT.o i hlt);have hpl:=R7 l hi;generalize l[i]=f at *;obtain⟨fn,fx,fy⟩:=f;go_wp2_with fail
   refine(FD.o _ HB.o).ae ?_;rintro e w3 ⟨rfl,hb3⟩;have jH:=HR.o.aa hb3 HR.o.lt;have lO:bh w3 w.heap.size (.slice none 0 0) (.slice none 0 0):=(hb3.block _ (eL.1 HX.o).1).trans HX.o;have dU:=HB.o.trans (hb3.ae HB.o.size);obtain⟨k0,k1,k2⟩:=jH.cells i (by omega);have f0:=jH.fz (i*3);have f1:=jH.fz (i*3+1);have f2:=jH.fz (i*3+2);generalize (rA l i)[i]=z at *;obtain⟨zn,zx,zy⟩:=z;simp only at k0 k1 k2;have HP:=hid (jH.put i (fn,fx,fy));rw[HST.o] at HP;have z7:Hid (bh (((w3.setCell ⟨G,i*3,none⟩ (.bool fn)).setCell ⟨G,i*3+1,none⟩ (.string fx)).setCell ⟨G,i*3+2,none⟩ (.string fy)) w.heap.size (.slice none 0 0) (.slice none 0 0)):=(je _ ⟨G,i*3+2,none⟩ _ w.heap.size (by show w.heap.size≠G;omega)).trans ((je _ ⟨G,i*3+1,none⟩ _ w.heap.size (by show w.heap.size≠G;omega)).trans ((je _ ⟨G,i*3,none⟩ _ w.heap.size (by show w.heap.size≠G;omega)).trans lO));have uF:=hid (((dU.setCell (p:=⟨G,i*3,none⟩) (by show w.heap.size<=G;omega) (.bool fn)).setCell (p:=⟨G,i*3+1,none⟩) (by show w.heap.size<=G;omega) (.string fx)).setCell (p:=⟨G,i*3+2,none⟩) (by show w.heap.size<=G;omega) (.string fy));clear jH lO dU hb3 FD;go_wp2;go_roundw
   case rel=>exact⟨i+1,by omega,by go_num,HP,z7,uF⟩
   case measure=>simp[intOf];omega
  ·obtain rfl:i=l.length:=by omega
   have eA:=HR.o;rw[Zz] at eA;obtain⟨t0,t1⟩:wr.cell? ⟨w.heap.size,0,none⟩=some (.slice none 0 0)/\wr.cell? ⟨w.heap.size,1,none⟩=some (.slice none 0 0):=⟨HX.o.c0,HX.o.c1⟩;have g0:wr.frozen? ⟨w.heap.size,0,none⟩=false:=pN wr w.heap.size 0 _ _ HX.o;have g1:wr.frozen? ⟨w.heap.size,1,none⟩=false:=pN wr w.heap.size 1 _ _ HX.o;go_wp2;refine bB (Gi rfl _ _ w.heap.size _ _ _ _ rfl (HX.o.put _ _) Tryz.underlying39 rfl (by kernel_rfl)) rfl ?_;exact⟨G,rfl,by omega,(eA.off _ 0 _ (by omega)).off _ 1 _ (by omega),(HB.o.setCell (p:=⟨w.heap.size,0,none⟩) (ar _) _).setCell (p:=⟨w.heap.size,1,none⟩) (ar _) _⟩
variable {vs:List Nat}
theorem Ic:∀ {vs:List Nat} {k i:Nat},vs.Nodup ->(h:i<vs.length) ->(bM S vs k)[i]? =some (aO S vs k vs[i])
 |[],_,_,_,h=>absurd h (by simp)
 |u::vs,k,0,_,_=>by simp[bM,aO]
 |u::vs,k,i+1,hn,h=>by
  rw[pP] at hn;have h':i<vs.length:=by simpa using h
  have e:¬vs[i]=u:=fun e=>hn.1 (by rw[<- e];exact bH h');rw[bM,List.getElem?_cons_succ,Ic hn.2 h',apU,aO,aaO e]
def pZ (n:Nat) (f:Nat ->Nat):List Nat:=(List.range n).map f
theorem Em (n:Nat) (f:Nat ->Nat):(pZ n f).length=n:=by simp[pZ]
theorem Ru (h:v<n):(pZ n f)[v]? =some (f v):=by simp[pZ,h]
theorem aeY {g:Nat ->Nat} (h:∀v,v< n ->f v=g v):pZ n f=pZ n g:=rq fun v hv=>h v (bG.1 hv)
theorem aeX (v x:Nat):(pZ n f).set v x=pZ n (aQ f v x):=by
 apply Gu;intro u;rw[List.getElem?_set];by_cases hu:u<n
 ·rw[Ru hu,Ru hu,aQ,Em];by_cases e:v=u
  ·subst e;rw[aaf rfl,aaf hu,aaf rfl]
  ·rw[aaO e,aaO (fun h=>e h.symm)]
 ·rw[iF (by rw[Em];omega),iF (by rw[Em];omega),Em];by_cases e:v=u
  ·rw[aaf e,aaO (by omega)]
  ·rw[aaO e]
theorem R1 (S:List Nat) (f:Nat ->Nat) (h:i<vs.length):pos S f (vs.take (i+1))=pos S f (vs.take i)*sz S vs[i]+f vs[i]:=by
 rw[fR h,ags]
theorem adY {x:Nat} (hf:∀u,f u<sz S u) (hx:x<sz S v) (u:Nat):aQ f v x u<sz S u:=by
 rw[aQ];by_cases e:u=v
 ·rw[aaf e,e];exact hx
 ·rw[aaO e];exact hf u
def qF (q:Rat):Fr:=(aH q,nu q,de q)
theorem K4 (q:Rat):dP (qF q)=.agg #[.bool (aH q),.string (nu q),.string (de q)]:=rfl
theorem qQ (q:Rat):aT (qF q)=q:=gC q
def bA (l:List Fr) (k:Nat):Fr:=l[k]?.getD y8
theorem pz {l:List Fr} (h:k<l.length):bA l k=l[k]:=by rw[bA,af h];rfl
theorem amh {l:List Fr} (h:k<l.length):(bA l k).2.1.size+(bA l k).2.2.size+2<=fw l:=by rw[pz h];exact O1 (bH h)
def xz (S vars rest:List Nat) (v x:Nat) (l:List Fr):List Fr:=(List.range (cnt S rest)).map fun K=>qF (aT (bA l (pos S (aQ (aO S rest K) v x) vars)))
def ab0 (most:Bool) (T:Nat ->Fr):Nat ->Fr
 |0=>T 0
 |k+1=>if most then great (ab0 most T k) (T (k+1)) else qF (aT (ab0 most T k)+aT (T (k+1)))
def qL (S vars rest:List Nat) (v:Nat) (most:Bool) (l:List Fr):List Fr:=(List.range (cnt S rest)).map fun K=>qF (aT (ab0 most (fun x=>bA l (pos S (aQ (aO S rest K) v x) vars)) (sz S v - 1)))
def uM (S va vb U:List Nat) (la lb:List Fr):List Fr:=(List.range (cnt S U)).map fun K=>qF (aT (bA la (pos S (aO S U K) va))*aT (bA lb (pos S (aO S U K) vb)))
def bw (l:List Int) (v:Int):List Int:=l.filter fun u=>!(u==v)
def Cw (m:Nat) (l:List Fr):Prop:=∀k,k<l.length ->(bA l k).2.1.size+(bA l k).2.2.size+2<=m
theorem Cw.up {l:List Fr} (h:Cw m l) (hn:m<=n):Cw n l:=fun k hk=>aS (h k hk) hn
def sw:List Fr ->Nat
 |[]=>0
 |f::l=>f.2.1.size+f.2.2.size+sw l
theorem bh.off {u v:Value} (h:bh w g u v) (b j:Nat) (y:Value) (hne:g≠b):bh (w.setCell ⟨b,j,none⟩ y) g u v:=(je w ⟨b,j,none⟩ y g hne).trans h
theorem xC {sizes vars:List Int} (h:jr sizes vars m=0):eH sizes/\Up vars sizes.length/\m=cnt (ag sizes) (ag vars):=by
 rw[jr] at h;by_cases h1:countB sizes vars=true
 ·rw[aaf h1] at h;by_cases h2:m=cnt (ag sizes) (ag vars)
  ·exact⟨(Ph h1).1,(Ph h1).2,h2⟩
  ·rw[aaO h2] at h;omega
 ·rw[aaO h1] at h;omega
open Go.Sort Go.Lib
def eC (B:Nat) (b:Option Addr) (cb:Nat):Prop:=(b=none ->cb=0)/\∀g o,b=some ⟨g,o,none⟩ ->B<=g
theorem eC.up {B C:Nat} {b:Option Addr} (h:eC B b cb) (hC:C<=B):eC C b cb:=⟨h.1,fun g o e=>aS hC (h.2 g o e)⟩
theorem eC.nil (B:Nat):eC B Option.none 0:=⟨fun _=>rfl,fun g o e=>by cases e⟩
theorem eC.at {B G:Nat} (h:B<=G):eC B (Option.some ⟨G,0,Option.none⟩) cb:=⟨(fun e=>by cases e),fun g o e=>by cases e;exact h⟩
def cX (w:World) (B:Nat) (v:Value) (l:List Int):Prop:=w.ownsRow B 3 1 v l.length (l.map (Value.int .i64))
theorem cX.cases {B:Nat} {v:Value} (h:cX w B v l):(v=.slice none 0 0/\l=[])∨∃g cap,v=.slice (some ⟨g,0,none⟩) l.length cap/\B<=g/\g<w.heap.size/\l.length<=cap/\cap<=maxLen/\Holds (Value.int .i64) w g 0 l.toArray:=by
 rcases h.2 with ⟨h1,h2⟩ |⟨g,cap,cur,h1,h2,h3,h4,h5,h6,h7⟩
 ·exact .inl ⟨h1,Ee.1 h2⟩
 ·refine .inr ⟨g,cap,h1,h2,(eL.1 h3).1,h4,h5,fun j hj=>?_⟩;have hj':j<l.length:=by simpa using hj
  refine⟨?_,pN w g _ _ _ h3⟩;rw[bT,cC w g j _ _ (0,0) h3]
  have e:cur[j]? =(cur.toList.take (l.length*1))[j]?:=by
   rw[rV,aaf (by omega),wm]
  rw[e,h7,oh,af hj'];simp[hj']
theorem EP {d:Array Int} (h:Holds (Value.int .i64) w g 0 d) (hg:g<w.heap.size) (hl:∀j (hj:j<l.length),∃hd:j<d.size,d[j]=l[j]):aaK w (some ⟨g,0,none⟩) l:=fun k hk=>by
 obtain⟨hd,e⟩:=hl k hk;refine⟨g,0,rfl,hg,?_⟩;have:=(h k hd).1;rw[I6 d k hd,e] at this;exact this
theorem cX.ints {B:Nat} {v:Value} (h:cX w B v l):∃d cd,v=.slice d l.length cd/\aaK w d l:=by
 rcases h.cases with ⟨rfl,rfl⟩ |⟨g,cap,rfl,_,hg,_,_,hh⟩
 ·exact⟨none,0,rfl,fun k hk=>absurd hk (by simp)⟩
 ·exact⟨_,_,rfl,EP hh hg fun j hj=>⟨by simpa using hj,by simp⟩⟩
theorem aaP {b o:Nat} (h:aaK w (some ⟨b,o,none⟩) l):∀j,j<l.length ->w.cell? ⟨b,o+j,none⟩=some (.int .i64 (l.getD j 0)):=fun j hj=>by
 obtain⟨g,o',e,_,hc⟩:=h j hj;cases e;rw[hc,b7,af hj];rfl
theorem Nf (b:Option Addr) (cb:Nat) (l:List Int) (w:World) (h:aaK w b l) (hn:l.length<=1000000):
  Calls Tryz.prog 76 #[.slice b l.length cb] w fun e w'=>∃v,e=.returned v/\cX w' w.heap.size v l/\Below w.heap.size w w':=by
 cases b with
 |none=>
  have hl:l=[]:=by
   cases l with
   |nil=>rfl
   |cons x l=>obtain⟨g,o,e,_⟩:=h 0 (by simp);cases e
  subst hl;refine(Tryz.slices_Clone_int_nil 0 cb w).ae ?_;rintro e w' ⟨rfl,rfl⟩;exact⟨_,rfl,⟨rfl,.inl ⟨rfl,rfl⟩⟩,au _ _⟩
 |some a=>
  cases l with
  |nil=>
   refine(Tryz.slices_Clone_int_zero a cb w).ae ?_;rintro e w' ⟨v,rfl,hr,_,hb⟩;exact⟨v,rfl,hr,hb⟩
  |cons x l=>
   obtain⟨g,o,e,_⟩:=h 0 (by simp);cases e;refine(Tryz.slices_Clone_int g o (x::l).length cb (x::l) w (ar _) (by omega) (aaP h)).ae ?_;rintro e w' ⟨v,rfl,hr,_,hb⟩;rw[fJ] at hr;exact⟨v,rfl,hr,hb⟩
theorem GS (b:Option Addr) (cb:Nat) (l:List Int) (x:Int) (w:World) (h:aaK w b l) (hn:l.length<=140737488355328):
  Calls Tryz.prog 49 #[.slice b l.length cb,.int .i64 x] w fun e w'=>e=.returned (.bool (l.contains x))/\Below w.heap.size w w':=by
 cases l with
 |nil=>
  refine(Tryz.slices_Contains_int_empty b cb x w).ae ?_;rintro e w' ⟨rfl,rfl⟩;exact⟨rfl,au _ _⟩
 |cons y l=>
  obtain⟨g,o,rfl,_⟩:=h 0 (by simp);refine(Tryz.slices_Contains_int g o (y::l).length cb (y::l) x w (ar _) (by omega) (aaP h)).ae ?_;rintro e w' ⟨rfl,rfl⟩;rw[fJ];exact⟨rfl,au _ _⟩
theorem Xx (u v:Int) (B:Nat) (W:World) (hc:W.cell? ⟨B,0,none⟩=some (.int .i64 v)):
  FnGives Tryz.prog 197 #[.pointer (some ⟨B,0,none⟩)] #[.int .i64 u] (.bool (u==v)) W:=by
 show Calls Tryz.prog 197 #[.int .i64 u,.pointer (some ⟨B,0,none⟩)] W _;go_enter Tryz.func197,Tryz.ntmps197;go_wp2
 all_goals (go_ret;exact⟨by simp_all,0,rfl⟩)
theorem adX (v:Int) (B:Nat) (w:World) (hB:B<w.heap.size) (hc:w.cell? ⟨B,0,none⟩=some (.int .i64 v)):
  PredAt Tryz.prog 197 #[.pointer (some ⟨B,0,none⟩)] (Value.int .i64) (fun u=>u==v) w:=
 fun W x hb=>Xx x v B W ((hb.cell (p:=⟨B,0,none⟩) hB).trans hc)
theorem adW (v:Int) (B blk off size:Nat) (w:World) (hB:B<w.heap.size) (hne:B≠blk) (hc:w.cell? ⟨B,0,none⟩=some (.int .i64 v)):
  PredOver Tryz.prog 197 #[.pointer (some ⟨B,0,none⟩)] (Value.int .i64) (fun u=>u==v) blk off size w:=
 fun n os dk x _=>Xx x v B _ (by
  unfold sortWorld;rw[cell?_grow _ _ _ (by show B<(putRow _ _ _ _ _).heap.size;rw[size_putRow];exact hB),cell?_putRow_other _ _ blk off _ _ (Or.inl hne)];exact hc)
theorem Yx (fv:Value) (w:World):Calls Tryz.prog 152 #[.slice none 0 0,fv] w fun e w'=>e=.returned (.slice none 0 0)/\Below w.heap.size w w':=by
 go_enter Tryz.func152,Tryz.ntmps152;go_wp2_with fail
 refine(Tryz.slices_IndexFunc_empty (α:=Int) none 0 fv w).ae ?_;rintro e w1 ⟨rfl,rfl⟩;go_wp2;go_ret;exact⟨rfl,au _ _⟩
theorem Vi {B:Nat} {a:World} {os:Array Obj} (d:Array Int) (h:Below B a w) (hw:B<=w.heap.size) (hg:B<=g):Below B a (grow (putRow (Value.int .i64) (Sort.ahead w n) g 0 d) os):=
 h.grown (MF d) hw fun k e=>by cases e;exact hg
theorem Vj {B:Nat} {a:World} (d:Array Int) (h:Below B a w) (hw:B<=w.heap.size) (hg:B<=g):Below B a (putRow (Value.int .i64) (Sort.ahead w n) g 0 d):=by
 have:=Vi (n:=n) (os:= #[]) d h hw hg;rwa [grow_empty] at this
theorem Q1 (b:Option Addr) (cb:Nat) (vars:List Int) (v:Int) (w:World) (hv:aaK w b vars) (hn:vars.length<=1000000):
  Calls Tryz.prog 155 #[.slice b vars.length cb,.int .i64 v] w fun e w'=>∃(d:Option Addr) (cd:Nat),e=.returned (.slice d (bw vars v).length cd)/\aaK w' d (bw vars v)/\eC w.heap.size d cd/\Below w.heap.size w w':=by
 have HV:=hid hv;obtain⟨L,hL⟩:∃L,L=bw vars v:=⟨_,rfl⟩;rw[<- hL];have HL:=hid hL;clear hv hL;go_enter Tryz.func155,Tryz.ntmps155;go_wp2_with fail
 have hb0:Below w.heap.size w (w.alloc (.cells #[.int .i64 v] 3)):=(au _ w).alloc (ar _) _;have hx:=a7 w 3 (.int .i64 v);generalize (w.alloc (.cells #[.int .i64 v] 3))=W at hb0 hx⊢;refine(Nf b cb vars _ (HV.o.aa hb0) hn).ae ?_;rintro e w1 ⟨x,rfl,hr,hb1⟩;have hx1:=aZ hx hb1;have hB1:=hb0.trans (hb1.ae hb0.size);have hlt:=hx.lt;have hs1:=hb0.size;rcases hr.cases with ⟨rfl,rfl⟩ |⟨g,cap,rfl,hg0,hg,hc1,hc2,hh⟩
 ·go_wp2_with fail
  refine(Yx _ _).ae ?_;rintro e w2 ⟨rfl,hb2⟩;go_wp2;go_ret;have KR:L=[]:=HL.o;subst KR;exact⟨none,0,rfl,fun k hk=>absurd hk (by simp),eC.nil _,hB1.trans (hb2.ae hB1.size)⟩
 ·have hcon:=Tryz.slices_DeleteFunc (Value.int .i64) (fun _=>rfl) (fun u=>u==v) 197 #[.pointer (some ⟨w.heap.size,0,none⟩)] (enters_of Tryz.func197 (by kernel_rfl) rfl) 0 Tryz.zeroValue3 g 0 cap vars.toArray w1 (adX v _ _ hx1.lt hx1.cell) (adW v _ g 0 _ _ hx1.lt (by omega) hx1.cell) hh (by simp;omega) (by simpa using hc1);have hsz:vars.toArray.size=vars.length:=by simp
  rw[hsz] at hcon;have jR:vars.toArray.toList.filter (fun x=>!(x==v))=bw vars v:=by simp[bw]
  rw[jR, <- HL.o] at hcon;have dh:L.length<=vars.length:=by rw[HL.o];exact pR _ _
  have Mv:=hid hcon;have HH:=hid hh;have pJ:=hid dh;clear hcon hh hr hsz jR hc1 hc2 dh;go_wp2_with fail
  refine Mv.o.ae ?_;rintro e w2 ⟨rfl,q,rfl⟩;go_wp2;go_ret
  have Hl:(L++List.replicate (vars.length - L.length) 0).toArray.size=vars.toArray.size:=by
   have:=pJ.o;simp;omega
  refine⟨some ⟨g,0,none⟩,cap,rfl,EP (holds_putRow (Value.int .i64) (Sort.ahead w1 q) g 0 vars.toArray _ HH.o Hl) (by rw[size_putRow];exact hg) (fun j hj=>⟨by simp;omega,by simp[uI,hj]⟩),eC.at (by omega),Vj _ hB1 hB1.size (by omega)⟩
variable {fn:Func} {x':Value}
def uh (B:Nat) (vars:List Int) (l:List Fr) (k:Int) (e:Ending) (w':World):Prop:=∃(b c:Option Addr) (cb cc:Nat),e=.returned (.tuple #[.agg #[.slice b vars.length cb,.slice c l.length cc],.int .i64 k])/\aaK w' b vars/\bZ w' c l/\eC B b cb/\eC B c cc
theorem bh.result2 (h:bh w g x y) {p u:Tmp} (hr:fn.results= #[.cell p 39,.tmp u]) (tmps:Array Value) (hp:tmps.getD p undef=.pointer (some ⟨g,0,none⟩)):
  (results fn tmps).run Tryz.prog w=.ok (.tuple #[.agg #[x,y],tmps.getD u undef]) w:=by
 rw[results_cell_tmp hr,hp];simp only[asAddr,DZ,zR];rw[run_loadVar_row w g _ 39 _ _ _ h Tryz.underlying39 rfl (by kernel_rfl)];simp only[zR]
def cM (v:Value):Prop:=∃a n c,v=Value.slice a n c
theorem aaK.farT {c:Option Addr} (h:aaK V c l) (hb:bh V g x y) (hx:cM x) (hy:cM y) (j:Nat) (u:Value):aaK (V.setCell ⟨g,j,none⟩ u) c l:=fun k hk=>by
 obtain⟨g',o,rfl,hlt,hc⟩:=h k hk;obtain⟨a1,n1,c1,rfl⟩:=hx;obtain⟨a2,n2,c2,rfl⟩:=hy
 have hne:¬g'=g:=fun e=>by
  subst e;rw[cC V g' (o+k) _ _ (0,0) hb] at hc;match hm:o+k with
  |0=>rw[hm] at hc;simp at hc
  |1=>rw[hm] at hc;simp at hc
  |m+2=>rw[hm] at hc;simp at hc
 exact⟨g',o,rfl,aR hlt (iG V _ _).size,(bX _ _ _ _ (fun e=>hne (bR Addr.block e).symm)).trans hc⟩
theorem aaK.putT {c:Option Addr} (h:aaK V c l) (hb:bh V g x y) (hx:cM x) (hy:cM y) (hx':cM x') (y':Value):aaK ((V.setCell ⟨g,0,none⟩ x').setCell ⟨g,1,none⟩ y') c l:=by
 have h1:bh (V.setCell ⟨g,0,none⟩ x') g x' y:=mM V g 0 _ _ x' hb;exact(h.farT hb hx hy 0 _).farT h1 hx' hy 1 _
theorem slv (a:Option Addr) (n c:Nat):cM (.slice a n c):=⟨a,n,c,rfl⟩
theorem bh.facts (h:bh w g x y):w.cell? ⟨g,0,none⟩=some x/\w.cell? ⟨g,1,none⟩=some y/\w.frozen? ⟨g,0,none⟩=false/\w.frozen? ⟨g,1,none⟩=false:=⟨h.c0,h.c1,pN w g 0 _ _ h,pN w g 1 _ _ h⟩
theorem mr {B:Nat} {a:World} (h:Below B a w) (hg:B<=g) (u v:Value):Below B a ((w.setCell ⟨g,0,none⟩ u).setCell ⟨g,1,none⟩ v):=(h.setCell hg u).setCell hg v
variable {la:List Int} {rest:List Oper}
theorem ae2 (n:Nat) (hn:n<=100000) (w:World):
  Calls Tryz.prog 252 #[.slice none 0 0,.int .i64 (n:Nat)] w fun e w'=>∃v,e=.returned v/\cX w' w.heap.size v []/\Below w.heap.size w w':=by
 obtain⟨i0,cU,hz0,hz1,hz2⟩:=eT Tryz.infoInt;by_cases h:n=0
 ·subst h;go_enter Tryz.func252,Tryz.ntmps252;go_wp2;go_ret;exact⟨_,rfl,⟨rfl,.inl ⟨rfl,rfl⟩⟩,au _ _⟩
 ·have hold:(Builtin.firstCells i0.size 0 (.slice none 0 0)).run Tryz.prog w.drew=.ok ([]:List Value).toArray w.drew:=run_firstCells_none w.drew i0.size 0 0 0
  have Tk:∀ty,(Builtin.append_ #[27,3] ty #[.slice none 0 0,.int .i64 (n:Int)]).run Tryz.prog w=.ok (.slice (some ⟨w.heap.size,0,none⟩) (0+n) (grownCap w (0+n) 0 3)) (w.drew.alloc (.cells (([]:List Value).toArray++Builtin.zeroCells (Value.int .i64 0).cells n++Builtin.zeroCells (Value.int .i64 0).cells (grownCap w (0+n) 0 3 - (0+n))) 3)):=fun ty=>
   Lib.run_append_grow_zeros w 27 3 ty 3 i0 (.int .i64 0) .i64 .i64 Tryz.underlying27 Tryz.underlying3 cU hz0 none 0 0 [] hold n (by omega) (by omega) (by omega) (by omega) (by rw[hz2];omega) (ME (by omega) (by rw[hz2];omega))
  have Qv:0+n<=grownCap w (0+n) 0 3:=grownCap_ge w _ _ _;have KT:=grownCap_le_maxLen w (0+n) 0 3 (by unfold maxLen;omega);rw[bT] at Tk Qv KT;obtain⟨G,hG⟩:∃G,G=grownCap w n 0 3:=⟨_,rfl⟩;rw[<- hG] at Tk Qv KT;have HGM:=hid KT;have aoq:G<=9223372036854775807:=by unfold maxLen at KT;omega
  have iy:(0:Int)<(n:Int):=by omega
  clear hold hG KT;go_enter Tryz.func252,Tryz.ntmps252;go_wp2_with (at_builtin;refine Lib.wpList_append_run _ rfl _ _ _ _ rfl _ _ rfl rfl _ _ (Tk _) ?_)
  go_ret;refine⟨_,rfl,⟨rfl,.inr ⟨w.heap.size,G,_,rfl,ar _,kd w.drew _,aU _,HGM.o,?_,by simp⟩⟩,((au _ w).drew).alloc (ar _) _⟩;simp[size_zeroCells];omega
theorem GF {o:Oper} {a:Act} (hgd:o.guard=none) (s x:Operand)
  (ho:o.op=.call {callee:=.builtin .append,args:= #[s,x],argTypes:= #[27,27]}) (base:Nat) (v:Value) (xs la:List Int) (hs:a.eval s=v) (hown:cX w base v xs) (p:Option Addr) (ca:Nat) (hx:a.eval x=.slice p la.length ca) (hi:aaK w p la) (hp:p=none ->ca=0) (hlen:xs.length+la.length<=100000) (hbase:base<=w.heap.size)
  (h:∀v' w',cX w' base v' (xs++la) ->w.grownBy w' v.ownBlock ->wpList Tryz.prog ops Q rest (a.put o.dst v') w'):wpList Tryz.prog ops Q (o::rest) a w:=by
 obtain⟨i0,cU,hz0,hz1,hz2⟩:=eT Tryz.infoInt;cases p with
 |none=>
  have hl:la=[]:=by
   cases la with
   |nil=>rfl
   |cons x l=>obtain⟨g,o,e,_⟩:=hi 0 (by simp);cases e
  subst hl;have h0:=hp rfl;subst h0;have h1:=h v w (by rw[Eg];exact hown) ⟨rfl,rfl,rfl,ar _,fun _ _ _=>rfl⟩;exact wpList_append_own_none hgd s x 27 ho base 3 i0 1 Tryz.underlying27 cU v xs.length _ hs hown hx h1
 |some ad=>
  refine Qz _ hgd s x 27 ho base 3 i0 (.int .i64 0) 1 8 Tryz.underlying27 cU hz0 hz1 hz2 rfl (by decide) v xs.length _ hs hown ad la.length ca (la.map (Value.int .i64)) hx (by simp) ?_ ?_ (by unfold maxLen;omega) (by omega) hbase ?_
  ·intro j u hj;rw[oh] at hj;cases hq:la[j]? with
   |none=>rw[hq] at hj;cases hj
   |some z=>
    rw[hq] at hj;cases hj;obtain⟨CO,Hp⟩:=o0.1 hq;obtain⟨g,o',e,_,hc⟩:=hi j CO;cases e;rw[<- Hp];rw[Addr.add];by_cases h0:j=0
    ·subst h0;simpa using hc
    ·simpa [h0] using hc
  ·intro u hu;obtain⟨z,_,rfl⟩:=aaQ.1 hu;rfl
  ·intro v' w' h1 h2 _;refine h v' w' ?_ h2;rw[cX,dM,fY];exact h1
def y9 (la lb:List Int) (i:Nat):List Int:=if i=0 then[] else if i=1 then la else la++lb
theorem cX.own {B:Nat} {v:Value} (h:cX w B v l):∀k,v.ownBlock=some k ->B<=k:=by
 intro k hk;rcases h.2 with ⟨rfl,_⟩ |⟨g,cap,cur,rfl,h2,_⟩
 ·cases hk
 ·cases hk;exact h2
theorem akT {lb:List Int} (lF:la.length<=1000) (lD:lb.length<=1000) (i:Nat):(y9 la lb i).length<=2000:=by
 rw[y9];by_cases h:i=0
 ·rw[aaf h];simp
 ·rw[aaO h];by_cases h1:i=1
  ·rw[aaf h1];omega
  ·rw[aaO h1,dM];omega
theorem ae4 (R:Nat) (a b:Option Addr) (ca cb:Nat) (la lb:List Int) (w:World) (hR:R<w.heap.size) (r0:w.cell? ⟨R,0,none⟩=some (.slice a la.length ca)) (r1:w.cell? ⟨R,1,none⟩=some (.slice b lb.length cb)) (ha:aaK w a la) (hb:aaK w b lb) (ha0:a=none ->ca=0) (hb0:b=none ->cb=0) (lF:la.length<=1000) (lD:lb.length<=1000):
  Calls Tryz.prog 236 #[.slice (some ⟨R,0,none⟩) 2 2] w fun e w'=>∃v,e=.returned v/\cX w' w.heap.size v (la++lb)/\Below w.heap.size w w':=by
 have one:∀i,i< 2 ->∃(p:Option Addr) (c:Nat) (l:List Int),w.cell? ⟨R,i,none⟩=some (.slice p l.length c)/\aaK w p l/\(p=none ->c=0)/\l.length<=1000/\y9 la lb (i+1)=y9 la lb i++l:=by
  intro i hi;by_cases h:i=0
  ·subst h;exact⟨a,ca,la,r0,ha,ha0,lF,by simp[y9]⟩
  ·obtain rfl:i=1:=by omega
   exact⟨b,cb,lb,r1,hb,hb0,lD,by simp[y9]⟩
 have L6:=hid one;have kz:=hid (fun i=>akT lF lD i);have h2:y9 la lb 2=la++lb:=by simp[y9]
 rw[<- h2];have hz:y9 la lb 0=[]:=rfl;clear one r0 r1 ha hb ha0 hb0 h2 lF lD;generalize y9 la lb=F at *;go_enter Tryz.func236,Tryz.ntmps236;go_wp2_with fail
 go_loopw [3,11] (fun sv iv wr=>∃i:Nat,i<=2/\iv=.int .i64 i/\sv=.int .i64 ((F i).length:Nat)/\Hid (Below w.heap.size w wr)) (fun _ iv _=>2 - (intOf iv).toNat)
 case atStart=>exact⟨0,by omega,rfl,by rw[hz];rfl,au _ _⟩
 case round=>
  obtain⟨i,hi,rfl,rfl,HW⟩:=hrel;by_cases hlt:i<2
  ·obtain⟨p,c,l,hc,hI,hp,hl,hf⟩:=L6.o i hlt;have hcw:=(HW.o.cell (p:=⟨R,i,none⟩) hR).trans hc;have jR:=kz.o i;(have hw1:IntKind.i64.wrap (((F i).length:Int)+(l.length:Int))=((F i).length:Int)+(l.length:Int):=by rw[eo];omega);(have HE:Hid (((F (i+1)).length:Int)=((F i).length:Int)+(l.length:Int)):=by show _=_;rw[hf,dM];exact ru _ _);(have nB:(0:Int)<=((F i).length:Int)+(l.length:Int):=by omega);clear hf hc hp hI;go_wp2;go_roundw
   case rel=>exact⟨i+1,by omega,by go_num,by rw[HE.o],HW⟩
   case measure=>simp[intOf];omega
  ·obtain rfl:i=2:=by omega
   have jR:=kz.o 2;go_wp2_with fail
   refine(ae2 (F 2).length (by omega) _).ae ?_;rintro e w1 ⟨v1,rfl,hr1,hb1⟩;have eR:=hid (HW.o.trans (hb1.ae HW.o.size));have ur:Hid (∀b,b<=wr.heap.size ->cX w1 b v1 []):=fun b hb=>⟨hr1.1,hr1.2.imp id (fun ⟨g,cap,cur,h1,h2,h3⟩=>⟨g,cap,cur,h1,aS hb h2,h3⟩)⟩;have HR:=hid (ur.o w.heap.size HW.o.size);clear hr1 hb1 ur;go_wp2_with fail
   go_loopw [6,27] (fun sv iv wr=>∃i:Nat,i<=2/\iv=.int .i64 i/\Hid (cX wr w.heap.size sv (F i))/\Hid (Below w.heap.size w wr)) (fun _ iv _=>2 - (intOf iv).toNat)
   case atStart=>exact⟨0,by omega,rfl,by rw[hz];exact HR,eR⟩
   case round=>
    obtain⟨i,hi,rfl,j6,Io⟩:=hrel;by_cases hlt:i<2
    ·obtain⟨p,c,l,hc,hI,hp,hl,hf⟩:=L6.o i hlt;have hcw:=(Io.o.cell (p:=⟨R,i,none⟩) hR).trans hc;have jR:=kz.o i;have HI:=hid (hI.aa Io.o);have HP:=hid hp;have HE:=hid hf;have xS:=hid j6.o.own;clear hf hc hp hI;go_wp2_with (at_builtin;refine GF rfl _ _ rfl w.heap.size _ (F i) l rfl j6.o p c rfl HI.o HP.o (by omega) Io.o.size ?_;intro v' w2 hr2 hg2)
     have iT:=hid hr2;have bc:=hid (Io.o.grown hg2 Io.o.size xS.o);clear hr2 hg2;go_roundw
     case rel=>exact⟨i+1,by omega,by go_num,by rw[HE.o];exact iT,bc⟩
     case measure=>simp[intOf];omega
    ·obtain rfl:i=2:=by omega
     go_wp2;go_ret;exact⟨_,rfl,j6.o,Io.o⟩
theorem JS (w:World) (u:Int):aaK (w.alloc (.cells #[.int .i64 u] 3)) (some ⟨w.heap.size,0,none⟩) [u]:=fun k hk=>by
 obtain rfl:k=0:=by simp at hk;omega
 exact⟨w.heap.size,0,rfl,by simp,(a7 w _ _).cell⟩
theorem cX.under {B:Nat} {v:Value} (h:cX w B v l) (hb:Below w.heap.size w w'):cX w' B v l:=by
 refine⟨h.1,h.2.imp id ?_⟩;rintro⟨g,cap,cur,h1,h2,h3,h4⟩;exact⟨g,cap,cur,h1,h2,(hb.block g (eL.1 h3).1).trans h3,h4⟩
theorem akJ {out:List Nat} (h:v∈out):gJ P out v=false:=by simp[gJ,h]
theorem akI {out p:List Nat} (hp:P.getD v []=p) (h:¬∀u∈p,u∈out):gJ P out v=false:=by rw[gJ,hp,abg h,Bool.and_false]
theorem akH {out p:List Nat} (hp:P.getD v []=p) (h:¬v∈out) (h':∀u∈p,u∈out):gJ P out v=true:=by rw[gJ,hp,cJ h',abg h];rfl
theorem ahh (G c:Nat) (P:List (List Nat)) (w:World) (hU:cI w G (P.map aA)) (hn:P.length<=8) (hP:∀p∈P,∀u∈p,u<8):
  Calls Tryz.prog 124 #[.slice (some ⟨G,0,none⟩) P.length c] w fun e w'=>∃x,e=.returned x/\cX w' w.heap.size x (iL (aY P P.length))/\Below w.heap.size w w':=by
 obtain⟨i0,cU,hz0,hz1,hz2⟩:=eT Tryz.infoInt;have HU:=hid hU
 have HP:Hid (∀i,i<P.length ->(∀u∈P.getD i [],u<8)/\∃h:i<(P.map aA).length,(P.map aA)[i]=aA (P.getD i [])):=fun i hi=>by
  have e:P.getD i []=P[i]:=by rw[b7,af hi];rfl
  rw[e];exact⟨hP _ (bH hi),by simpa using hi,by simp⟩
 have BA:Hid (∀k,∀u∈aY P k,u<8):=fun k u hu=>aR (Ep P k u hu) hn;have HLN:=hid (Ct P);have FK:Hid (∀k v,v<P.length ->gJ P (aY P k) v=true ->(∀u,u< v ->gJ P (aY P k) u=false) ->aY P (k+1)=aY P k++[v]):=fun k v h1 h2 h3=>adn (ahI h1 h2 h3);have HST:Hid (∀k,k<=P.length ->(∀u,u<P.length ->gJ P (aY P k) u=false) ->aY P P.length=aY P k):=fun k h1 h2=>ZR (ahJ h2) h1;have L9:Hid (aY P 0=[]):=rfl;generalize hF:aY P=F at *;clear hU hP hF;go_enter Tryz.func124,Tryz.ntmps124;go_wp2_with fail
 go_step3
 go_wp2_with (first
  |(at_make;refine wpList_make_own _ rfl _ _ 27 rfl w.heap.size 3 i0 (.int .i64 0) 1 Tryz.underlying27 cU hz0 hz1 .i64 .i64 _ P.length rfl rfl (by go_num) (by rw[hz2];omega) (by unfold maxLen;omega) (ar _) ?_;intro w2 hown2 hgrow2))
 have HI:Hid (cX w2 w.heap.size (.slice (some ⟨w.heap.size,0,none⟩) 0 P.length) []):=hown2;have bc:Hid (Below w.heap.size w w2):=(au _ w).grown hgrow2 (ar _) (fun k e=>by cases e);clear hown2 hgrow2;go_wp2_with fail
 go_step3
 go_wp2_with fail
 go_loopw [3,4,12] (fun sv lv iv wr=>∃k:Nat,k<=P.length/\iv=.int .i64 k/\sv=.int .u32 (aA (F k):Nat)/\Hid (cX wr w.heap.size lv (iL (F k)))/\Hid (Below w.heap.size w wr)) (fun _ _ iv _=>P.length - (intOf iv).toNat)
 case atStart=>exact⟨0,aU _,rfl,by rw[L9.o];rfl,by rw[L9.o];exact HI,bc⟩
 case round=>
  obtain⟨k,hk,rfl,rfl,HR,HB⟩:=hrel;clear HI bc;by_cases hlt:k<P.length
  ·have Ji:=hid (HU.o.aa HB.o HU.o.lt);go_wp2_with fail
   go_loopw [3,4,16] (fun sv lv jv wq=>∃v:Nat,v<=P.length/\jv=.int .i64 v/\sv=.int .u32 (aA (F k):Nat)/\lv=u4/\Hid (∀u,u< v ->gJ P (F k) u=false)/\wq=wr) (fun _ _ jv _=>P.length - (intOf jv).toNat)
   case atStart=>exact⟨0,aU _,rfl,rfl,rfl,fun u h=>absurd h (by omega),rfl⟩
   case round=>
    obtain⟨v,hv,rfl,rfl,rfl,HN,rfl⟩:=hrel;by_cases hvl:v<P.length
    ·obtain⟨MW,hm1,bq⟩:=HP.o v hvl;have c0:=Ji.o.cell v hm1;rw[bq] at c0;have gY:=hid MW;have HFO:Hid (v∈F k ->gJ P (F k) v=false):=akJ;have HFP:Hid (¬(∀u∈P.getD v [],u∈F k) ->gJ P (F k) v=false):=akI rfl;have HFY:Hid (¬v∈F k ->(∀u∈P.getD v [],u∈F k) ->gJ P (F k) v=true):=akH rfl
     have mE:Hid (gJ P (F k) v=false ->∀u,u<v+1 ->gJ P (F k) u=false):=fun h u hu=>by
      rcases cD u v with h2 |h2
      ·exact HN.o u h2
      ·obtain rfl:u=v:=by omega
       exact h
     clear MW hm1 bq;generalize P.getD v []=p at *;go_wp2_with fail
     refine(Ry (F k) v _ (BA.o k) (by omega)).ae ?_;rintro e w3 ⟨rfl,rfl⟩;by_cases hin:v∈F k
     ·rw[cJ hin];have HE:=hid (mE.o (HFO.o hin));clear hin;go_wp2;go_roundw
      case rel=>exact⟨v+1,by omega,by go_num,rfl,rfl,HE,trivial⟩
      case measure=>simp[intOf];omega
     ·rw[abg hin];have IM:=hid hin;clear hin;go_wp2_with fail
      refine(afw (F k) p _ (BA.o k) gY.o).ae ?_;rintro e w4 ⟨rfl,rfl⟩;by_cases hh:∀u∈p,u∈F k
      ·rw[cJ hh];have hS:=FK.o k v hvl (HFY.o IM.o hh) HN.o;(have HM:Hid (aA (v::F k)=aA (F (k+1))):=SB fun z=>by rw[hS,dK,aa5,fX];exact or_comm);(have Ws:Hid (iL (F (k+1))=iL (F k)++[(v:Int)]):=by show _=_;rw[hS,N9];rfl)
       have IL:Hid ((iL (F k)).length<=8):=by
        have:=HLN.o k;show (iL (F k)).length<=8;rw[ba];omega
       clear hh hS;have xS:=hid HR.o.own;have ky:Hid (cX (w4.alloc (.cells #[.int .i64 (v:Nat)] 3)) w.heap.size _ (iL (F k))):=I7 HR.o _;have dC:=hid (HB.o.alloc HB.o.size (.cells #[.int .i64 (v:Nat)] 3));have F2:=hid (JS w4 (v:Nat));go_wp2_with (at_builtin;refine GF rfl _ _ rfl w.heap.size _ (iL (F k)) [((v:Nat):Int)] rfl ky.o (some ⟨w4.heap.size,0,none⟩) 1 rfl F2.o (fun e=>by cases e) (by have:=IL.o;simp;omega) dC.o.size ?_;intro v' w5 oC wV)
       have sW:=hid oC;have eD:=hid (dC.o.grown wV dC.o.size xS.o);clear oC wV;refine(GW (F k) v _ (BA.o k) (by omega)).ae ?_;rintro e w6 ⟨rfl,rfl⟩;rw[HM.o];go_wp2;go_roundw
       case rel=>exact⟨k+1,by omega,by go_num,rfl,by rw[Ws.o];exact sW,eD⟩
       case measure=>simp[intOf];omega
      ·rw[abg hh];have HE:=hid (mE.o (HFP.o hh));clear hh;go_wp2;go_roundw
       case rel=>exact⟨v+1,by omega,by go_num,rfl,rfl,HE,trivial⟩
       case measure=>simp[intOf];omega
    ·obtain rfl:v=P.length:=by omega
     have HE:=hid (HST.o k hk HN.o);go_wp2;(try rw[Exit.noGoto_ret]);go_ret;exact⟨_,rfl,by rw[HE.o];exact HR.o,HB.o⟩
  ·obtain rfl:k=P.length:=by omega
   go_wp2;(try rw[Exit.noGoto_ret]);go_ret;exact⟨_,rfl,HR.o,HB.o⟩
section
attribute [local go_sem] Oper.semAt_some
theorem YS (s:List Nat) (w:World) (hs:∀u∈s,u<8):
  Calls Tryz.prog 189 #[.int .u32 (aA s:Nat)] w fun e w'=>e=.returned (.int .i64 ((fM s 8).length:Nat))/\∃k,w'=w.drewN k:=by
 have hm:=uT hs;have HO:=hid (fun U=>ahs (aA s) U hm);rw[agu] at HO;generalize (fM s 8).length=c at *;generalize aA s=m at *;go_enter Tryz.func189,Tryz.ntmps189;go_wp2_with fail
 refine(HO.o _).ae ?_;rintro e w1 ⟨rfl,k,rfl⟩;go_wp2;go_ret;exact⟨rfl,k,rfl⟩
theorem aib (s:List Nat) (v:Nat) (hs:∀u∈s,u<8) (hv:v<8):aA s&&&(4294967295 - 2^v)=aA (s.filter fun u=>decide (u≠v)):=by
 have h2:2^v<2^8:=QF (by decide) hv;have e:4294967295 - 2^v=2^32 - (2^v+1):=by omega
 have hs':2^v<2^32:=by omega
 apply MK;intro i;rw[e,aps,QD hs',rD,rD,Nat.testBit_two_pow];by_cases hi:i∈s
 ·have h8:=hs i hi;have UA:i<32:=by omega
  by_cases gO:v=i
  ·subst gO;simp[hi]
  ·have h':¬i=v:=fun e=>gO e.symm;simp[hi,UA,gO,h']
 ·simp[hi]
theorem JB (s:List Nat) (v:Nat) (w:World) (hs:∀u∈s,u<8) (hv:v<8):
  Calls Tryz.prog 145 #[.int .u32 (aA s:Nat),.int .i64 (v:Nat)] w fun e w'=>e=.returned (.int .u32 (aA (s.filter fun u=>decide (u≠v)):Nat))/\w'=w:=by
 have hm:=uT hs;have h2:2^v<256:=show 2^v<2^8 from QF (by decide) hv
 have HE:Hid (bits BinOp.andNot IntKind.u32 (aA s:Nat) (2^v % 4294967296)=((aA (s.filter fun u=>decide (u≠v)):Nat):Int)):=by
  show _=_
  have e:((2:Int)^v % 4294967296)=((2^v:Nat):Int):=by
   (have e2:((2:Int)^v)=((2^v:Nat):Int):=by rw[Int.natCast_pow];rfl);rw[e2];generalize (2^v:Nat)=q at *;omega
  rw[e,u32_andNot_nat _ _ (by omega) (by omega),aib s v hs hv]
 generalize aA (s.filter fun u=>decide (u≠v))=r at *;generalize aA s=m at *;go_enter Tryz.func145,Tryz.ntmps145;go_wp2;go_ret;exact⟨by rw[HE.o];rfl,rfl⟩
theorem ai0 (l:List Nat):(iL l).map (Value.int .i64)=l.map iv:=by simp[iL,iv]
theorem aaE (s:List Nat) (w:World) (hs:∀u∈s,u<8):
  Calls Tryz.prog 135 #[.int .u32 (aA s:Nat)] w fun e w'=>∃v,e=.returned v/\cX w' w.heap.size v (iL (fM s 8))/\Below w.heap.size w w':=by
 refine(gZ (n:=6)).1 ?_;obtain⟨i0,hi,hz0,hz1,hz2⟩:=eT Tryz.infoInt;have hc8:=SI s 8;have HC:=hid (fun U=>YS s U hs);obtain⟨cl,hcl⟩:∃cl,cl=(fM s 8).length:=⟨_,rfl⟩;rw[<- hcl] at HC hc8;clear hcl;refine tz Tryz.func135 rfl trivial ?_ rfl;simp only[Tryz.ntmps135,mP,eU,lg,Nat.reduceAdd,Nat.reduceSub,mV,mU,mQ,lZ,iD,fg]
 gi_wp2_with (first
  |(refine⟨trivial,?_⟩;gi_at_call 189;refine(gZ.2 (HC.o _)).ae ?_;rintro e w0 ⟨rfl,hw0⟩)
  |(gi_at_make;refine wpListIn_make_own _ rfl _ _ 27 rfl w.heap.size 3 i0 (.int .i64 0) 1 Tryz.underlying27 hi hz0 hz1 .i64 .i64 _ cl rfl rfl (by omega) (by rw[hz2];omega) (by unfold maxLen;omega) (by obtain⟨k,rfl⟩:=hw0;exact ar _) ?_;intro w1 hown1 Ks))
 have hb0:Below w.heap.size w w0:=by obtain⟨k,rfl⟩:=hw0;exact below_drewN (au _ w) k
 have hs0:w0.heap.size=w.heap.size:=by obtain⟨k,rfl⟩:=hw0;rfl
 clear hw0;have Hk:=Ks.size;have hB1:Below w.heap.size w w1:=hb0.grown Ks (by omega) (fun k e=>by cases e);have bO:=a7 w1 27 (.slice (some ⟨w0.heap.size,0,none⟩) 0 cl);have hB2:Below w.heap.size w (w1.alloc (.cells #[.slice (some ⟨w0.heap.size,0,none⟩) 0 cl] 27)):=hB1.alloc (by omega) _;have ajc:w.heap.size<=w1.heap.size:=by omega
 clear hs0 Hk
 refine Ei (by omega) s hs rfl rfl
  (fun k V=>(∃v,Boxed V w1.heap.size 27 v/\V.ownsRow w.heap.size 3 1 v (fM s k).length ((fM s k).map iv)/\True)/\Below w.heap.size w V)
  (eI (fG (holdsRow_own w.heap.size w1.heap.size 27 3 1 (fun k:Nat=>(fM s k).length) (fun k=>(fM s k).map iv) (fun _ _=>True)) _) (yg (ar _) (by simp;omega)))
  ⟨⟨_,bO,hown1.alloc _,trivial⟩,hB2⟩
  (fun k=> {tmps:= #[.int .u32 (aA s:Nat),undef,.slice none 0 0,.pointer (some ⟨w1.heap.size,0,none⟩),.int .i64 (k:Nat),.int .u32 (aA s:Nat),.int .i64 (cl:Nat),.slice (some ⟨w0.heap.size,0,none⟩) 0 cl,.int .u32 (aA s:Nat),.func (.func 144) #[.int .u32 (aA s:Nat)] #[],.int .i64 (k:Nat),undef,undef,undef,undef,undef],defers:=[]}) ?assign ?body ?skip ?done
 case assign=>
  intro l k W K hK;gi_wp2
  exact hK
 case body=>
  rintro l k V hk hm ⟨⟨v,hv,hrow,_⟩,hB⟩;have hc:=hv.cell;have nD:=SI s k;gi_wp2_with (gi_at_builtin;refine wpListIn_append_own _ rfl _ _ 27 rfl w.heap.size 3 i0 (.int .i64 0) 1 8 Tryz.underlying27 hi hz0 hz1 hz2 rfl (by decide) _ _ _ rfl (hrow.alloc _) ⟨V.heap.size,0,none⟩ 1 1 [.int .i64 (k:Nat)] rfl rfl (cell_one_new _ _ _) (by simp[Value.oneCell']) (by unfold maxLen;omega) (by omega) (by have:=hB.size;simp;omega) ?_;intro v' w3 hown' hgrow _;obtain⟨g',cap',rfl⟩:=ownsRow_succ hown';obtain⟨ny,hv2,hr2,hk2,hb2⟩:=hv.appended (by decide) hrow hB.size ajc hown' hgrow;have hc1:=ny.cell;have EY:=ny.frozen)
  exact⟨hk2.from _,⟨⟨_,hv2,by rw[SH hm];simpa [iv] using hr2,trivial⟩,hB.trans hb2⟩⟩
 case skip=>
  rintro k V hk hm h;rwa [N3 hm]
 case done=>
  rintro D V hD ⟨⟨v,hv,hrow,_⟩,hB⟩ hK;have hc:=hv.cell;gi_wp2
  refine⟨by simp,.inl ⟨_,_,rfl,zN hK,?_⟩⟩;refine⟨_,zO rfl _ _ _,v,rfl,?_,hB.trans (tA (w:=w) (ar _) V D _ _ (by simp at hD;omega) hK rfl rfl)⟩;rw[cX,ai0,ba];exact ownsRow_putObj hrow _ hK rfl
end
theorem aic (a b:List Nat):aA a |||aA b=aA (a++b):=by
 apply MK;intro i;rw[Nat.testBit_or,rD,rD,rD];by_cases h:i∈a<;>by_cases h2:i∈b<;>simp[h,h2]
theorem asr (a b:List Nat):aA a&&&aA b=aA (a.filter fun x=>decide (x∈b)):=by
 apply MK;intro i;rw[aps,rD,rD,rD];by_cases h:i∈a<;>by_cases h2:i∈b<;>simp[h,h2]
theorem aid (a b:List Nat) (ha:∀u∈a,u<8) (hb:∀u∈b,u<8):aA a&&&(4294967295 - aA b)=aA (a.filter fun x=>decide (¬x∈b)):=by
 have h1:=uT hb;have e:4294967295 - aA b=2^32 - (aA b+1):=by omega
 have hs':aA b<2^32:=by omega
 apply MK;intro i;rw[e,aps,QD hs',rD,rD,rD];by_cases h:i∈a
 ·have h8:=ha i h;have UA:i<32:=by omega
  by_cases h2:i∈b<;>simp[h,h2,UA]
 ·simp[h]
theorem Vh (a b:List Nat) (ha:∀u∈a,u<8) (hb:∀u∈b,u<8):bits BinOp.or IntKind.u32 (aA a:Nat) (aA b:Nat)=((aA (a++b):Nat):Int):=by
 have h1:=uT ha;have h2:=uT hb;rw[u32_or_nat _ _ (by omega) (by omega),aic]
theorem arF (a b:List Nat) (ha:∀u∈a,u<8) (hb:∀u∈b,u<8):bits BinOp.and IntKind.u32 (aA a:Nat) (aA b:Nat)=((aA (a.filter fun x=>decide (x∈b)):Nat):Int):=by
 have h1:=uT ha;have h2:=uT hb;rw[u32_and_nat _ _ (by omega) (by omega),asr]
theorem ams (a b:List Nat) (ha:∀u∈a,u<8) (hb:∀u∈b,u<8):bits BinOp.andNot IntKind.u32 (aA a:Nat) (aA b:Nat)=((aA (a.filter fun x=>decide (¬x∈b)):Nat):Int):=by
 have h1:=uT ha;have h2:=uT hb;rw[u32_andNot_nat _ _ (by omega) (by omega),aid a b ha hb]
theorem K9 (h:∀u∈s,u<8) (p:Nat ->Bool):∀u∈s.filter p,u<8:=fun u hu=>h u (abp.1 hu).1
theorem acZ {a b:List Nat} (ha:∀u∈a,u<8) (hb:∀u∈b,u<8):∀u∈a++b,u<8:=fun u hu=>(aa5.1 hu).elim (ha u) (hb u)
theorem Dd (hP:∀p∈P,∀u∈p,u<8) (v:Nat):∀u∈P.getD v [],u<8:=by
 by_cases h:v<P.length
 ·rw[b7,af h];exact hP _ (bH h)
 ·rw[b7,iF (by omega)];intro u hu;simp at hu
theorem Ey (h:v<P.length):(P.map aA)[v]'(by rw[c5];exact h)=aA (P.getD v []):=by rw[acj,b7,af h];rfl
def J5 (B:List (List Nat)) (v u:Nat):Nat:=(fM (((B.getD v []).filter fun x=>decide (¬x∈B.getD u [])).filter fun x=>decide (x≠u)) 8).length
def qR (B:List (List Nat)) (v k:Nat):Nat:=((fM (B.getD v []) k).map (J5 B v)).sum
theorem ach {B:List (List Nat)} (h:k∈B.getD v []):qR B v (k+1)=qR B v k+J5 B v k:=by rw[qR,SH h,fY,List.sum_append,qR];simp
theorem aci {B:List (List Nat)} (h:¬k∈B.getD v []):qR B v (k+1)=qR B v k:=by rw[qR,N3 h,qR]
theorem aaJ (B:List (List Nat)) (v u:Nat):J5 B v u<=8:=SI _ _
theorem Pb (B:List (List Nat)) (v:Nat):∀k,qR B v k<=8*k
 |0=>by simp[qR,fM]
 |k+1=>by
  have h1:=Pb B v k;have h2:=aaJ B v k;by_cases h:k∈B.getD v []
  ·rw[ach h];omega
  ·rw[aci h];omega
def p7 (B:List (List Nat)) (v:Nat):Nat:=qR B v 8/2
section
attribute [local go_sem] Oper.semAt_some
variable {U W':World}
theorem jE {W:World} {B:Nat} {t:TypeId} {v:Value} (h:Boxed W B t v) (b j:Nat) (y:Value) (hne:B≠b):Boxed (W.setCell ⟨b,j,none⟩ y) B t v:=(je W ⟨b,j,none⟩ y B hne).trans h
theorem xF {W:World} {B b:Nat} {t:TypeId} {v:Value} (h:Boxed W B t v) (hb:Below b W W') (hB:B<b):Boxed W' B t v:=(hb.block B hB).trans h
theorem SX (h:Below V.heap.size V V'):KeepsOthers V V':=⟨h.size,fun k _ hk _=>(h.block k (eL.1 hk).1).trans hk⟩
theorem SY (h:KeepsOthers V U) (k:Nat):KeepsOthers V (U.drewN k):=⟨h.1,h.2⟩
theorem aiI (G n c v:Nat) (P:List (List Nat)) (w:World) (hn:P.length=n) (h8:n<=8) (hU:cI w G (P.map aA)) (hP:∀p∈P,∀u∈p,u<n) (hv:v<n):
  Calls Tryz.prog 233 #[.slice (some ⟨G,0,none⟩) n c,.int .i64 (v:Nat)] w fun e w'=>e=.returned (.int .i64 (p7 P v:Nat))/\Below w.heap.size w w':=by
 refine(gZ (n:=6)).1 ?_;have tX:∀p∈P,∀u∈p,u<8:=fun p hp u hu=>by have:=hP p hp u hu;omega
 have hs:=Dd tX v;have E9:=hU.lt;have kv:=hU.cell v (by rw[c5];omega);rw[Ey (by omega)] at kv;have Qf:=hid kv
 have uD:Hid (∀u,u< n ->w.cell? ⟨G,u,none⟩=some (.int .u32 (aA (P.getD u []):Nat))):=fun u hu=>by
  have:=hU.cell u (by rw[c5];omega);rwa [Ey (by omega)] at this
 have Mc:Hid (∀k,k∈P.getD v [] ->k<n):=fun k hk=>by
  rw[b7,af (by omega)] at hk;exact hP _ (bH _) k hk
 have WI:=hid (fun u=>Dd tX u);have HEY:=hid (fun k h=>ach (B:=P) (v:=v) (k:=k) h);have HEN:=hid (fun k h=>aci (B:=P) (v:=v) (k:=k) h);have WH:=hid (fun k=>Pb P v k);have zH:=hid (fun u=>aaJ P v u);have ku:=hid (fun (u:Nat) (hu:u<8) (U:World)=>JB ((P.getD v []).filter fun x=>decide (¬x∈P.getD u [])) u U (K9 hs _) hu);have Qq:=hid (fun (u:Nat) (U:World)=>YS (((P.getD v []).filter fun x=>decide (¬x∈P.getD u [])).filter fun x=>decide (x≠u)) U (K9 (K9 hs _) _));have WY:=hid (fun (u:Nat)=>ams (P.getD v []) (P.getD u []) hs (Dd tX u));have HLD:Hid (∀u,(fM (((P.getD v []).filter fun x=>decide (¬x∈P.getD u [])).filter fun x=>decide (x≠u)) 8).length=J5 P v u):=fun u=>rfl
 have anu:Hid ((qR P v 8:Int).tdiv 2=(p7 P v:Nat)):=by
  show _=_;rw[p7];exact(tC _ _).symm▸rfl
 have hw0:G<w.heap.size:=E9;have e64:=Pb P v 8;generalize p7 P v=res at *;generalize CT:P.getD v []=bv at *;clear hU hP tX kv CT;refine tz Tryz.func233 rfl trivial ?_ rfl;simp only[Tryz.ntmps233,mP,eU,lg,Nat.reduceAdd,Nat.reduceSub,mV,mU,mQ,lZ,iD,fg];obtain⟨W0,hW0⟩:∃W0,W0=((w.alloc (.cells #[.slice (some ⟨G,0,none⟩) n c] 109)).alloc (.cells #[.int .i64 (v:Nat)] 3)).alloc (.cells #[.int .i64 0] 3):=⟨_,rfl⟩;have b0:Boxed W0 w.heap.size 109 (.slice (some ⟨G,0,none⟩) n c):=by rw[hW0];exact((a7 w _ _).alloc _).alloc _
 have b1:Boxed W0 (w.heap.size+1) 3 (.int .i64 (v:Nat)):=by
  have h:=(a7 (w.alloc (.cells #[.slice (some ⟨G,0,none⟩) n c] 109)) 3 (.int .i64 (v:Nat))).alloc (.cells #[.int .i64 0] 3);rw[cN] at h;rw[hW0];exact h
 have b2:Boxed W0 (w.heap.size+1+1) 3 (.int .i64 (qR P v 0:Nat)):=by
  have h:=a7 ((w.alloc (.cells #[.slice (some ⟨G,0,none⟩) n c] 109)).alloc (.cells #[.int .i64 (v:Nat)] 3)) 3 (.int .i64 0);rw[cN,cN] at h;rw[hW0];exact h
 have hB0:Below w.heap.size w W0:=by
  rw[hW0];exact(((au _ w).alloc (ar _) _).alloc (by simp) _).alloc (by simp;omega) _
 have k0:=b0.cell;have k1:=b1.cell;have kG:=(hB0.cell (p:=⟨G,v,none⟩) hw0).trans Qf.o;rw[hW0] at k0 k1 kG;gi_wp2
 rw[<- hW0];clear k0 k1 kG hW0;have vk:w.heap.size+1+1<W0.heap.size:=b2.lt
 refine Ei (by omega) bv hs rfl rfl
  (fun k V=>Boxed V w.heap.size 109 (.slice (some ⟨G,0,none⟩) n c)/\Boxed V (w.heap.size+1) 3 (.int .i64 (v:Nat))/\Boxed V (w.heap.size+1+1) 3 (.int .i64 (qR P v k:Nat))/\Below w.heap.size w V)
  (eI (fG (iC _ _ (fun _=>_)) _) (eI (fG (iC _ _ (fun _=>_)) _) (eI (fG (iC _ _ (fun k:Nat=>.int .i64 (qR P v k:Nat))) _) (yg (ar _) (by omega)))))
  ⟨b0,b1,b2,hB0⟩
  (fun k=> {tmps:= #[.slice (some ⟨G,0,none⟩) n c,.int .i64 (v:Nat),.pointer (some ⟨w.heap.size,0,none⟩),.pointer (some ⟨w.heap.size+1,0,none⟩),.int .i64 0,.pointer (some ⟨w.heap.size+1+1,0,none⟩),.int .i64 (k:Nat),.slice (some ⟨G,0,none⟩) n c,.int .i64 (v:Nat),.pointer (some ⟨G,v,none⟩),.int .u32 (aA bv:Nat),.func (.func 144) #[.int .u32 (aA bv:Nat)] #[],.int .i64 (k:Nat),undef,undef,undef,undef,undef,undef,undef,undef,undef,undef,undef,undef,undef,undef,undef,undef],defers:=[]}) ?assign ?body ?skip ?done
 case assign=>
  intro l k W K hK;gi_wp2
  exact hK
 case body=>
  rintro l k V hk hm ⟨h0,h1,h2,hB⟩;have hkn:=Mc.o k hm;have k0:=h0.cell;have k1:=h1.cell;have k2:=h2.cell;have kG:=(hB.cell (p:=⟨G,v,none⟩) hw0).trans Qf.o;have kU:=(hB.cell (p:=⟨G,k,none⟩) hw0).trans (uD.o k hkn);have hAN:=WY.o k;have sS:=hid (ku.o k hk);have Qo:=hid (Qq.o k);rw[HLD.o k] at Qo;have hel:=WH.o k;have hle:=zH.o k;have HEk:=hid (HEY.o k hm);generalize aA (bv.filter fun x=>decide (¬x∈P.getD k []))=m1 at *;generalize aA ((bv.filter fun x=>decide (¬x∈P.getD k [])).filter fun x=>decide (x≠k))=m2 at *;generalize aA (P.getD k [])=mu at *;generalize J5 P v k=le at *;generalize qR P v k=en at *;generalize aA bv=mv at *;have S8:IntKind.i64.wrap ((en:Int)+(le:Int))=((en+le:Nat):Int):=by rw[eo];omega
  have f2:=h2.frozen;gi_wp2_with fail
  refine uL (fun u=>u.cell? ⟨w.heap.size,0,none⟩=some (.slice (some ⟨G,0,none⟩) n c)/\u.cell? ⟨w.heap.size+1,0,none⟩=some (.int .i64 (v:Nat))/\u.cell? ⟨G,v,none⟩=some (.int .u32 (mv:Nat))/\u.cell? ⟨G,k,none⟩=some (.int .u32 (mu:Nat))) (by kernel_rfl) (by kernel_rfl) (fun ⟨_,_,h⟩=>h) ⟨k0,k1,kG,kU⟩ ?_;intro aq;have hD:KeepsOthers V V.drew:=wk V;have q0:Boxed V.drew w.heap.size 109 (.slice (some ⟨G,0,none⟩) n c):=h0;have q1:Boxed V.drew (w.heap.size+1) 3 (.int .i64 (v:Nat)):=h1;have q2:Boxed V.drew (w.heap.size+1+1) 3 (.int .i64 (en:Nat)):=h2;have qB:=hB.drew;have yC:=q2.cell;clear k0 k1 k2 kG kU f2 h0 h1 h2 hB b0 b1 b2 hB0;have k2:=yC;clear yC;generalize V.drew=U0 at *;refine aw 1 (.slice (some ⟨G,0,none⟩) n c) ?_;refine aw 2 (.int .i64 (v:Nat)) ?_;refine aw 3 (.pointer (some ⟨G,v,none⟩)) ?_;refine aw 4 (.int .u32 (mv:Nat)) ?_;refine aw 5 (.slice (some ⟨G,0,none⟩) n c) ?_;refine aw 6 (.int .i64 (k:Nat)) ?_;refine aw 7 (.pointer (some ⟨G,k,none⟩)) ?_;refine aw 8 (.int .u32 (mu:Nat)) ?_;refine aw 9 (.int .u32 (m1:Nat)) ?_;refine aw 10 (.int .i64 (k:Nat)) ?_;refine aF [0,11] (cA ?_ (cA ?_ aD))
  focus
   intro K' hK';go_simp;clear k2;refine hK'.o _ _ aq (fun ak=>?_);clear hK' K' ak;refine aF [11] (cA ?_ aD);intro K' hK';go_simp;refine(sS.o _).ae ?_;rintro e U1 ⟨rfl,fO⟩;subst fO;refine hK'.o _ _ aq (fun ak=>?_);clear hK' K' ak;generalize U1=U0 at *;refine aF [12] (cA ?_ aD);intro K' hK';go_simp;refine(Qo.o _).ae ?_;rintro e U1 ⟨rfl,kk,fO⟩;(have p0:Boxed U1 w.heap.size 109 (.slice (some ⟨G,0,none⟩) n c):=by rw[fO];exact q0);(have p1:Boxed U1 (w.heap.size+1) 3 (.int .i64 (v:Nat)):=by rw[fO];exact q1);(have p2:Boxed U1 (w.heap.size+1+1) 3 (.int .i64 (en:Nat)):=by rw[fO];exact q2);(have pB:Below w.heap.size w U1:=by rw[fO];exact below_drewN qB kk);(have pD:KeepsOthers V U1:=by rw[fO];exact SY hD kk);refine hK'.o _ _ (by rw[fO];exact aq) (fun ak=>?_);clear hK' K' fO q0 q1 q2 qB hD aq;have aq:=ak;have q0:=p0;have q1:=p1;have q2:=p2;have qB:=pB;have hD:=pD;clear ak p0 p1 p2 pB pD;clear U0;generalize U1=U0 at *
  rotate_left
  focus
   intro K' hK';go_simp;refine(sS.o _).ae ?_;rintro e U1 ⟨rfl,fO⟩;subst fO;refine hK'.o _ _ aq (fun ak=>?_);clear hK' K' ak;generalize U1=U0 at *;refine aF [0,12] (cA ?_ (cA ?_ aD))
   focus
    intro K' hK';go_simp;clear k2;refine hK'.o _ _ aq (fun ak=>?_);clear hK' K' ak;refine aF [12] (cA ?_ aD);intro K' hK';go_simp;refine(Qo.o _).ae ?_;rintro e U1 ⟨rfl,kk,fO⟩;(have p0:Boxed U1 w.heap.size 109 (.slice (some ⟨G,0,none⟩) n c):=by rw[fO];exact q0);(have p1:Boxed U1 (w.heap.size+1) 3 (.int .i64 (v:Nat)):=by rw[fO];exact q1);(have p2:Boxed U1 (w.heap.size+1+1) 3 (.int .i64 (en:Nat)):=by rw[fO];exact q2);(have pB:Below w.heap.size w U1:=by rw[fO];exact below_drewN qB kk);(have pD:KeepsOthers V U1:=by rw[fO];exact SY hD kk);refine hK'.o _ _ (by rw[fO];exact aq) (fun ak=>?_);clear hK' K' fO q0 q1 q2 qB hD aq;have aq:=ak;have q0:=p0;have q1:=p1;have q2:=p2;have qB:=pB;have hD:=pD;clear ak p0 p1 p2 pB pD;clear U0;generalize U1=U0 at *
   rotate_left
   focus
    intro K' hK';go_simp;refine(Qo.o _).ae ?_;rintro e U1 ⟨rfl,kk,fO⟩;(have p0:Boxed U1 w.heap.size 109 (.slice (some ⟨G,0,none⟩) n c):=by rw[fO];exact q0);(have p1:Boxed U1 (w.heap.size+1) 3 (.int .i64 (v:Nat)):=by rw[fO];exact q1);(have p2:Boxed U1 (w.heap.size+1+1) 3 (.int .i64 (en:Nat)):=by rw[fO];exact q2);(have pB:Below w.heap.size w U1:=by rw[fO];exact below_drewN qB kk);(have pD:KeepsOthers V U1:=by rw[fO];exact SY hD kk);refine hK'.o _ _ (by rw[fO];exact aq) (fun ak=>?_);clear hK' K' fO q0 q1 q2 qB hD aq;have aq:=ak;have q0:=p0;have q1:=p1;have q2:=p2;have qB:=pB;have hD:=pD;clear ak p0 p1 p2 pB pD;clear k2;have k2:=q2.cell;clear U0;generalize U1=U0 at *;refine aF [0] (cA ?_ aD);intro K' hK';go_simp;clear k2;refine hK'.o _ _ aq (fun ak=>?_);clear hK' K' ak
  all_goals
   have f2:=q2.frozen;have k2:=q2.cell;refine aw 13 (.int .i64 ((en+le:Nat):Int)) ?_;refine aF [14] (cA ?_ aD);intro K' hK';go_simp;refine hK'.o _ _ ⟨(jE q0 (w.heap.size+1+1) 0 _ (by omega)).cell,(jE q1 (w.heap.size+1+1) 0 _ (by omega)).cell,(bX _ _ _ _ (fun e=>(show ¬w.heap.size+1+1=G by omega) (bR Addr.block e))).trans aq.2.2.1,(bX _ _ _ _ (fun e=>(show ¬w.heap.size+1+1=G by omega) (bR Addr.block e))).trans aq.2.2.2⟩ (fun _=>dW (by kernel_rfl) ?_ _);clear hK' K' aq;gi_wp2
   exact⟨(hD.trans (iG U0 _ _)).from _,jE q0 _ 0 _ (by omega),jE q1 _ 0 _ (by omega),by rw[HEk.o];exact q2.set _,qB.setCell (p:=⟨w.heap.size+1+1,0,none⟩) (by show w.heap.size<=w.heap.size+1+1;omega) _⟩
 case skip=>
  rintro k V hk hm h;rw[HEN.o k hm];exact h
 case done=>
  rintro D V hD ⟨h0,h1,h2,hB⟩ hK;have hc:=h2.cell;gi_wp2
  refine⟨by simp,.inl ⟨_,_,rfl,zN hK,?_⟩⟩;refine⟨_,zO rfl _ _ _,?_,hB.trans (tA (w:=w) (ar _) V D _ _ (by omega) hK rfl rfl)⟩;rw[<- anu.o];rfl
end
section
attribute [local go_sem] Oper.semAt_some
variable {u:Nat}
def yE (P:List (List Nat)) (v u:Nat):List Nat:=((P.getD u []++P.getD v []).filter fun x=>decide (x≠u)).filter fun x=>decide (x≠v)
def ic (P:List (List Nat)) (v k:Nat):List (List Nat):=(List.range P.length).map fun u=>if u<k/\u∈P.getD v [] then yE P v u else P.getD u []
theorem GM (P:List (List Nat)) (v k:Nat):(ic P v k).length=P.length:=by simp[ic]
theorem aec (P:List (List Nat)) (v:Nat):ic P v 0=P:=by
 apply pS (by simp[ic]);intro i h1 h2;simp[ic,b7,h2]
theorem aed (hm:k∈P.getD v []):ic P v (k+1)=(ic P v k).set k (yE P v k):=by
 apply pS (by simp[ic]);intro i h1 h2;rw[List.getElem_set];simp only[ic,acj,qH];by_cases h:k=i
 ·subst h;rw[aaf ⟨by omega,hm⟩,aaf rfl]
 ·rw[aaO h];have e:(i<k+1/\i∈P.getD v [])↔(i<k/\i∈P.getD v []):=⟨fun ⟨a,b⟩=>⟨by omega,b⟩,fun ⟨a,b⟩=>⟨by omega,b⟩⟩;simp only[e]
theorem aee (hm:¬k∈P.getD v []):ic P v (k+1)=ic P v k:=by
 apply rq;intro i hi;have e:(i<k+1/\i∈P.getD v [])↔(i<k/\i∈P.getD v []):=⟨fun ⟨a,b⟩=>⟨by rcases cD i k with h |h;exact h;exact absurd (show i=k by omega) (fun e=>hm (e▸b)),b⟩,fun ⟨a,b⟩=>⟨by omega,b⟩⟩;simp only[e]
theorem aef (hu:u<P.length) (h:¬(u<k/\u∈P.getD v [])):(ic P v k).getD u []=P.getD u []:=by
 have h1:u<(ic P v k).length:=by rw[GM];exact hu
 have e:(ic P v k).getD u []=(ic P v k)[u]:=by rw[b7,af h1];rfl
 rw[e];simp only[ic,acj,qH];rw[aaO h]
def rZ (P:List (List Nat)) (v:Nat):List (List Nat):=ic P v 8
theorem Nk {β:Type} (g:Nat) (f:β ->List Nat):Own (fun s W=>cI W g (f s)):=fun s X Y row hs hg hrow=>by
 refine(hg.block g hs.lt (fun e=>?_)).trans hs;obtain⟨o,ho,hc⟩:=hrow g e.symm;rw[hs] at ho;cases ho;cases hc
theorem ZH {β:Type} {G B:Nat} (hB:w.heap.size<=B):OwnFrom B (fun (_:β) W=>w.grownBy W (some G)):=fun _ W W' row hs hg hr=>
 ⟨hg.os.trans hs.os,hg.tape.trans hs.tape,hg.output.trans hs.output,aS hs.size hg.size,fun k hk hne=>(hg.block k (aR hk hs.size) (fun e=>by
  have:=(hr k e.symm).1;omega)).trans (hs.block k hk hne)⟩
theorem aj9 (h:Below w.heap.size w w') (G:Nat):w.grownBy w' (some G):=⟨h.os,h.tape,h.output,h.size,fun k hk _=>h.block k hk⟩
theorem adT {a b c:World} {G:Nat} (h:a.grownBy b (some G)) (k:b.grownBy c (some G)):a.grownBy c (some G):=
 ⟨k.os.trans h.os,k.tape.trans h.tape,k.output.trans h.output,aS h.size k.size,fun i hi hne=>(k.block i (aR hi h.size) hne).trans (h.block i hi hne)⟩
theorem aj8 (w:World) (G j:Nat) (y:Value):w.grownBy (w.setCell ⟨G,j,none⟩ y) (some G):=⟨rfl,rfl,rfl,by simp,fun k _ hne=>je w ⟨G,j,none⟩ y k (fun e=>hne (bR some e))⟩
theorem abP {a b:World} {G:Nat} (h:a.grownBy b (some G)):a.grownBy b.drew (some G):=⟨h.os,h.tape,h.output,h.size,h.block⟩
theorem aeo (G n c v:Nat) (P:List (List Nat)) (w:World) (hn:P.length=n) (h8:n<=8) (hU:cI w G (P.map aA)) (hP:∀p∈P,∀u∈p,u<n) (hv:v<n) (Hh:¬v∈P.getD v []):
  Calls Tryz.prog 196 #[.slice (some ⟨G,0,none⟩) n c,.int .i64 (v:Nat)] w fun e w'=>(∃r,e=.returned r)/\cI w' G ((rZ P v).map aA)/\w.grownBy w' (some G):=by
 refine(gZ (n:=6)).1 ?_;have tX:∀p∈P,∀u∈p,u<8:=fun p hp u hu=>by have:=hP p hp u hu;omega
 have hs:=Dd tX v;have hw0:=hU.lt
 have Mc:Hid (∀k,k∈P.getD v [] ->k<n):=fun k hk=>by
  rw[b7,af (by omega)] at hk;exact hP _ (bH _) k hk
 have Gb:Hid (∀(V:World) (k u:Nat),u< n ->¬(u<k/\u∈P.getD v []) ->cI V G ((ic P v k).map aA) ->V.cell? ⟨G,u,none⟩=some (.int .u32 (aA (P.getD u []):Nat))/\V.frozen? ⟨G,u,none⟩=false):=fun V k u hu hne hR=>by
  have h1:u<(ic P v k).length:=by rw[GM];omega
  have:=hR.cell u (by rw[c5];exact h1);rw[Ey h1,aef (by omega) hne] at this;exact⟨this,hR.fz u⟩
 have kS:Hid (∀(V:World) (k:Nat),k∈P.getD v [] ->cI V G ((ic P v k).map aA) ->cI (V.setCell ⟨G,k,none⟩ (.int .u32 (aA (yE P v k):Nat))) G ((ic P v (k+1)).map aA)):=fun V k hm hR=>by
  have:=hR.set k (aA (yE P v k));rwa [aed hm,Gr]
 have eQ:Hid (∀k,¬k∈P.getD v [] ->ic P v (k+1)=ic P v k):=fun k h=>aee h;have uy:Hid (∀k,¬(v<k/\v∈P.getD v [])):=fun k h=>Hh h.2;have LZ:=hid (fun u=>Vh (P.getD u []) (P.getD v []) (Dd tX u) hs);have zt:=hid (fun (u:Nat) (hu:u<8) (U:World)=>JB (P.getD u []++P.getD v []) u U (acZ (Dd tX u) hs) hu);have sG:Hid (∀(u:Nat) (U:World),Calls Tryz.prog 145 #[.int .u32 (aA ((P.getD u []++P.getD v []).filter fun x=>decide (x≠u)):Nat),.int .i64 (v:Nat)] U fun e w'=>e=.returned (.int .u32 (aA (yE P v u):Nat))/\w'=U):=fun u U=>JB _ v U (K9 (acZ (Dd tX u) hs) _) (by omega);have iA:cI w G ((ic P v 0).map aA):=by rw[aec];exact hU
 have oK:rZ P v=ic P v 8:=rfl;rw[oK];have Qf:=hid (Gb.o w 0 v hv (uy.o 0) iA);generalize CT:P.getD v []=bv at *;have iV:=hid CT;clear hU hP tX oK Hh CT;refine tz Tryz.func196 rfl trivial ?_ rfl;simp only[Tryz.ntmps196,mP,eU,lg,Nat.reduceAdd,Nat.reduceSub,mV,mU,mQ,lZ,iD,fg];obtain⟨W0,hW0⟩:∃W0,W0=(w.alloc (.cells #[.slice (some ⟨G,0,none⟩) n c] 109)).alloc (.cells #[.int .i64 (v:Nat)] 3):=⟨_,rfl⟩;have b0:Boxed W0 w.heap.size 109 (.slice (some ⟨G,0,none⟩) n c):=by rw[hW0];exact(a7 w _ _).alloc _
 have b1:Boxed W0 (w.heap.size+1) 3 (.int .i64 (v:Nat)):=by
  have h:=a7 (w.alloc (.cells #[.slice (some ⟨G,0,none⟩) n c] 109)) 3 (.int .i64 (v:Nat));rw[cN] at h;rw[hW0];exact h
 have hB0:Below w.heap.size w W0:=by
  rw[hW0];exact((au _ w).alloc (ar _) _).alloc (by simp) _
 have k0:=b0.cell;have k1:=b1.cell;have kG:=(hB0.cell (p:=⟨G,v,none⟩) hw0).trans Qf.o.1;rw[hW0] at k0 k1 kG;gi_wp2
 rw[<- hW0];clear k0 k1 kG hW0;have vk:w.heap.size+1<W0.heap.size:=b1.lt
 refine Ei (by omega) bv hs rfl rfl
  (fun k V=>Boxed V w.heap.size 109 (.slice (some ⟨G,0,none⟩) n c)/\Boxed V (w.heap.size+1) 3 (.int .i64 (v:Nat))/\cI V G ((ic P v k).map aA)/\w.grownBy V (some G))
  (eI (fG (iC _ _ (fun _=>_)) _) (eI (fG (iC _ _ (fun _=>_)) _) (eI (fG (Nk _ (fun k:Nat=>(ic P v k).map aA)) _) (ZH (by omega)))))
  ⟨b0,b1,iA.aa hB0 hw0,aj9 hB0 G⟩
  (fun k=> {tmps:= #[.slice (some ⟨G,0,none⟩) n c,.int .i64 (v:Nat),.pointer (some ⟨w.heap.size,0,none⟩),.pointer (some ⟨w.heap.size+1,0,none⟩),.int .i64 (k:Nat),.slice (some ⟨G,0,none⟩) n c,.int .i64 (v:Nat),.pointer (some ⟨G,v,none⟩),.int .u32 (aA bv:Nat),.func (.func 144) #[.int .u32 (aA bv:Nat)] #[],.int .i64 (k:Nat),undef,undef,undef,undef,undef,undef,undef,undef,undef,undef,undef,undef,undef,undef,undef,undef],defers:=[]}) ?assign ?body ?skip ?done
 case assign=>
  intro l k W K hK;gi_wp2
  exact hK
 case body=>
  rintro l k V hk hm ⟨h0,h1,h2,hB⟩;have hkn:=Mc.o k hm;have hkv:k≠v:=fun e=>uy.o (k+1) ⟨by omega,e▸hm⟩;have k0:=h0.cell;have k1:=h1.cell;have kG:=(Gb.o V k v hv (uy.o k) h2).1;rw[iV.o] at kG;have KI:=Gb.o V k k hkn (by omega) h2;have P7:=LZ.o k;have anf:=hid (zt.o k hk);have ane:=hid (sG.o k);have LM:=hid (fun U hU=>kS.o U k hm hU);generalize aA ((P.getD k []++bv).filter fun x=>decide (x≠k))=m2 at *;generalize aA (P.getD k []++bv)=m1 at *;generalize aA (P.getD k [])=mu at *;generalize aA (yE P v k)=m3 at *;generalize aA bv=mv at *;gi_wp2_with fail
  refine uL (fun u=>u.cell? ⟨w.heap.size,0,none⟩=some (.slice (some ⟨G,0,none⟩) n c)/\u.cell? ⟨w.heap.size+1,0,none⟩=some (.int .i64 (v:Nat))/\u.cell? ⟨G,v,none⟩=some (.int .u32 (mv:Nat))) (by kernel_rfl) (by kernel_rfl) (fun ⟨_,_,h⟩=>h) ⟨k0,k1,kG⟩ ?_;intro aq;have hD:KeepsOthers V V.drew:=wk V;have q0:Boxed V.drew w.heap.size 109 (.slice (some ⟨G,0,none⟩) n c):=h0;have q1:Boxed V.drew (w.heap.size+1) 3 (.int .i64 (v:Nat)):=h1;have q2:cI V.drew G ((ic P v k).map aA):=h2;have qB:=abP hB;have kU:V.drew.cell? ⟨G,k,none⟩=some (.int .u32 (mu:Nat)):=KI.1;have fU:V.drew.frozen? ⟨G,k,none⟩=false:=KI.2;clear k0 k1 kG KI h0 h1 h2 hB b0 b1 hB0;generalize V.drew=U0 at *;refine aw 0 (.slice (some ⟨G,0,none⟩) n c) ?_;refine aw 1 (.int .i64 (k:Nat)) ?_;refine aw 2 (.slice (some ⟨G,0,none⟩) n c) ?_;refine aw 3 (.int .i64 (k:Nat)) ?_;refine aw 4 (.pointer (some ⟨G,k,none⟩)) ?_;refine aw 6 (.slice (some ⟨G,0,none⟩) n c) ?_;refine aw 7 (.int .i64 (v:Nat)) ?_;refine aw 8 (.pointer (some ⟨G,v,none⟩)) ?_;refine aw 9 (.int .u32 (mv:Nat)) ?_;refine aw 11 (.int .i64 (k:Nat)) ?_;refine aw 13 (.int .i64 (v:Nat)) ?_;refine aF [5] (cA ?_ aD);intro K' hK';go_simp;refine hK'.o _ _ aq (fun ak=>?_);clear hK' K' ak;refine aw 10 (.int .u32 (m1:Nat)) ?_;refine aF [12] (cA ?_ aD);intro K' hK';go_simp;refine(anf.o _).ae ?_;rintro e U1 ⟨rfl,fO⟩;subst fO;refine hK'.o _ _ aq (fun ak=>?_);clear hK' K' ak;generalize U1=U0 at *;refine aF [14] (cA ?_ aD);intro K' hK';go_simp;refine(ane.o _).ae ?_;rintro e U1 ⟨rfl,fO⟩
  subst fO;refine hK'.o _ _ aq (fun ak=>?_);clear hK' K' ak;generalize U1=U0 at *;refine aw 15 (.pointer (some ⟨G,k,none⟩)) ?_;refine aF [16] (cA ?_ aD);intro K' hK';go_simp;refine hK'.o _ _ ⟨(jE q0 G k _ (by omega)).cell,(jE q1 G k _ (by omega)).cell,(bX _ _ _ _ (fun e=>hkv (bR Addr.off e))).trans aq.2.2⟩ (fun _=>dW (by kernel_rfl) ?_ _);clear hK' K' aq;gi_wp2
  exact⟨(hD.trans (iG U0 _ _)).from _,jE q0 G k _ (by omega),jE q1 G k _ (by omega),LM.o U0 q2,adT qB (aj8 U0 G k _)⟩
 case skip=>
  rintro k V hk hm h;rw[eQ.o k hm];exact h
 case done=>
  rintro D V hD ⟨h0,h1,h2,hB⟩ hK;gi_wp2
  refine⟨by simp,.inl ⟨_,_,rfl,zN hK,?_⟩⟩;refine⟨_,results_none rfl _ _ _,⟨_,rfl⟩,Nk G (fun (_:Unit)=>(ic P v 8).map aA) () V _ (some D) h2 (grownBy_putObj' V D _) (fun r e=>by cases e;exact⟨_,hK,rfl⟩),?_⟩;exact ZH (β:=Unit) (ar _) () V _ (some D) hB (grownBy_putObj' V D _) (fun r e=>by cases e;exact⟨by omega,_,hK,rfl⟩)
end
section
attribute [local go_sem] Oper.semAt_some
def jD (f:Nat ->Nat) (s:List Nat):Nat ->Option (Nat×Nat)
 |0=>none
 |k+1=>if k∈s then(match jD f s k with |none=>some (k,f k) |some (b,m)=>if f k<m then some (k,f k) else some (b,m)) else jD f s k
def K3:Option (Nat×Nat) ->Nat
 |none=>0
 |some (b,_)=>b
def UL:Option (Nat×Nat) ->Int
 |none=> -1
 |some (_,m)=>(m:Int)
theorem aku (h:¬k∈s):jD f s (k+1)=jD f s k:=by rw[jD,aaO h]
theorem akx (h:k∈s) (e:jD f s k=none):jD f s (k+1)=some (k,f k):=by rw[jD,aaf h,e]
theorem akw {b:Nat} (h:k∈s) (e:jD f s k=some (b,m)) (hl:f k<m):jD f s (k+1)=some (k,f k):=by rw[jD,aaf h,e];exact aaf hl
theorem akv {b:Nat} (h:k∈s) (e:jD f s k=some (b,m)) (hl:¬f k<m):jD f s (k+1)=some (b,m):=by rw[jD,aaf h,e];exact aaO hl
def jU (P:List (List Nat)) (s:List Nat):Nat:=K3 (jD (p7 P) s 8)
theorem aiJ (P:List (List Nat)) (v:Nat):p7 P v<=32:=by
 have:=Pb P v 8;rw[p7];omega
theorem akY (G n c:Nat) (P:List (List Nat)) (s:List Nat) (w:World) (hn:P.length=n) (h8:n<=8) (hU:cI w G (P.map aA)) (hP:∀p∈P,∀u∈p,u<n) (hs:∀u∈s,u<n):
  Calls Tryz.prog 195 #[.slice (some ⟨G,0,none⟩) n c,.int .u32 (aA s:Nat)] w fun e w'=>e=.returned (.int .i64 (jU P s:Nat))/\Below w.heap.size w w':=by
 refine(gZ (n:=6)).1 ?_;have CE:∀u∈s,u<8:=fun u hu=>by have:=hs u hu;omega
 have hw0:=hU.lt;have HL:=hid (fun (V:World) (hB:Below w.heap.size w V) (k:Nat) (hk:k<n)=>aiI G n c k P V hn h8 (hU.aa hB hw0) hP hk);have HN:=hid (fun k (h:¬k∈s)=>aku (f:=p7 P) h);have HF:=hid (fun k (h:k∈s) e=>akx (f:=p7 P) h e);have HS:=hid (fun k b m (h:k∈s) e hl=>akw (f:=p7 P) (b:=b) (m:=m) h e hl);have HM:=hid (fun k b m (h:k∈s) e hl=>akv (f:=p7 P) (b:=b) (m:=m) h e hl);have Ir:=hid hs;have fN:jU P s=K3 (jD (p7 P) s 8):=rfl;rw[fN];have hf0:jD (p7 P) s 0=none:=rfl;have pJ:=hid (fun k=>aiJ P k);generalize jD (p7 P) s=fw at *;generalize p7 P=lk at *;clear hU hP hs fN;refine tz Tryz.func195 rfl trivial ?_ rfl;simp only[Tryz.ntmps195,mP,eU,lg,Nat.reduceAdd,Nat.reduceSub,mV,mU,mQ,lZ,iD,fg];obtain⟨W0,hW0⟩:∃W0,W0=((w.alloc (.cells #[.slice (some ⟨G,0,none⟩) n c] 109)).alloc (.cells #[.int .i64 0] 3)).alloc (.cells #[.int .i64 (-1)] 3):=⟨_,rfl⟩;have b0:Boxed W0 w.heap.size 109 (.slice (some ⟨G,0,none⟩) n c):=by rw[hW0];exact((a7 w _ _).alloc _).alloc _
 have b1:Boxed W0 (w.heap.size+1) 3 (.int .i64 (K3 (fw 0):Nat)):=by
  have h:=(a7 (w.alloc (.cells #[.slice (some ⟨G,0,none⟩) n c] 109)) 3 (.int .i64 0)).alloc (.cells #[.int .i64 (-1)] 3);rw[cN] at h;rw[hW0,hf0];exact h
 have b2:Boxed W0 (w.heap.size+1+1) 3 (.int .i64 (UL (fw 0))):=by
  have h:=a7 ((w.alloc (.cells #[.slice (some ⟨G,0,none⟩) n c] 109)).alloc (.cells #[.int .i64 0] 3)) 3 (.int .i64 (-1));rw[cN,cN] at h;rw[hW0,hf0];exact h
 have hB0:Below w.heap.size w W0:=by
  rw[hW0];exact(((au _ w).alloc (ar _) _).alloc (by simp) _).alloc (by simp;omega) _
 gi_wp2
 rw[<- hW0];clear hW0;have vk:w.heap.size+1+1<W0.heap.size:=b2.lt
 refine Ei (by omega) s CE rfl rfl
  (fun k V=>Boxed V w.heap.size 109 (.slice (some ⟨G,0,none⟩) n c)/\Boxed V (w.heap.size+1) 3 (.int .i64 (K3 (fw k):Nat))/\Boxed V (w.heap.size+1+1) 3 (.int .i64 (UL (fw k)))/\Below w.heap.size w V)
  (eI (fG (iC _ _ (fun _=>_)) _) (eI (fG (iC _ _ (fun k:Nat=>.int .i64 (K3 (fw k):Nat))) _) (eI (fG (iC _ _ (fun k:Nat=>.int .i64 (UL (fw k)))) _) (yg (ar _) (by omega)))))
  ⟨b0,b1,b2,hB0⟩
  (fun k=> {tmps:= #[.slice (some ⟨G,0,none⟩) n c,.int .u32 (aA s:Nat),.pointer (some ⟨w.heap.size,0,none⟩),undef,.int .i64 0,.pointer (some ⟨w.heap.size+1,0,none⟩),.pointer (some ⟨w.heap.size+1+1,0,none⟩),.int .i64 (k:Nat),undef,.int .u32 (aA s:Nat),.func (.func 144) #[.int .u32 (aA s:Nat)] #[],.int .i64 (k:Nat),undef,undef,undef,undef,undef,undef,undef,undef,undef,undef,undef,undef,undef],defers:=[]}) ?assign ?body ?skip ?done
 case assign=>
  intro l k W K hK;gi_wp2
  exact hK
 case body=>
  rintro l k V hk hm ⟨h0,h1,h2,hB⟩;have Wm:=hid (HL.o V hB k (Ir.o k hm));have aoa:=pJ.o k;have HFk:=hid (HF.o k hm);have PY:=hid (fun b m=>HS.o k b m hm);have HMk:=hid (fun b m=>HM.o k b m hm);have k0:=h0.cell;have iV:=hid hB;have HQ:=hid (And.intro h0 (And.intro h1 h2));have hlt2:=h2.lt;clear h0 h1 h2 hB b0 b1 b2 hB0;generalize fw k=st at *;generalize lk k=lv at *;have hlv:¬(lv:Int)<0:=by omega
  cases st with
  |none=>
   have he:=HFk.o rfl;have HE:=hid he;clear he;gi_wp2_with (refine⟨trivial,?_⟩;gi_at_call 233;refine(MX l (gZ.2 Wm.o)).ae ?_;rintro e V2 ⟨rfl,hb⟩;have q0:=xF HQ.o.1 hb (by omega);have q1:=xF HQ.o.2.1 hb (by omega);have q2:=xF HQ.o.2.2 hb hlt2;have j1:=q1.cell;have j2:=q2.cell;have g1:=q1.frozen;have g2:=q2.frozen;have LP:V2.cell? ⟨w.heap.size+1+1,0,none⟩=some (.int .i64 (-1)):=j2;clear j2)
   refine⟨((SX hb).trans ((iG V2 _ _).trans (iG _ _ _))).from _,jE (jE q0 _ 0 _ (by omega)) _ 0 _ (by omega),?_,?_,?_⟩
   ·rw[HE.o];exact jE (q1.set _) _ 0 _ (by omega)
   ·rw[HE.o];exact(jE q2 _ 0 _ (by omega)).set _
   ·exact((iV.o.trans (hb.ae iV.o.size)).setCell (p:=⟨w.heap.size+1,0,none⟩) (by simp) _).setCell (p:=⟨w.heap.size+1+1,0,none⟩) (by show w.heap.size<=w.heap.size+1+1;omega) _
  |some bm=>
   obtain⟨b,m⟩:=bm;(have hm0:¬(m:Int)<0:=by omega);by_cases yT:lv<m
   ·have he:=PY.o b m rfl yT;have HE:=hid he;(have ajs:(lv:Int)<(m:Int):=by omega);clear he;gi_wp2_with (refine⟨trivial,?_⟩;gi_at_call 233;refine(MX l (gZ.2 Wm.o)).ae ?_;rintro e V2 ⟨rfl,hb⟩;have q0:=xF HQ.o.1 hb (by omega);have q1:=xF HQ.o.2.1 hb (by omega);have q2:=xF HQ.o.2.2 hb hlt2;have j1:=q1.cell;have j2:=q2.cell;have g1:=q1.frozen;have g2:=q2.frozen;have LP:V2.cell? ⟨w.heap.size+1+1,0,none⟩=some (.int .i64 (m:Nat)):=j2;clear j2)
    refine⟨((SX hb).trans ((iG V2 _ _).trans (iG _ _ _))).from _,jE (jE q0 _ 0 _ (by omega)) _ 0 _ (by omega),?_,?_,?_⟩
    ·rw[HE.o];exact jE (q1.set _) _ 0 _ (by omega)
    ·rw[HE.o];exact(jE q2 _ 0 _ (by omega)).set _
    ·exact((iV.o.trans (hb.ae iV.o.size)).setCell (p:=⟨w.heap.size+1,0,none⟩) (by simp) _).setCell (p:=⟨w.heap.size+1+1,0,none⟩) (by show w.heap.size<=w.heap.size+1+1;omega) _
   ·have he:=HMk.o b m rfl yT;have HE:=hid he;(have ajs:¬(lv:Int)<(m:Int):=by omega);clear he yT;gi_wp2_with (refine⟨trivial,?_⟩;gi_at_call 233;refine(MX l (gZ.2 Wm.o)).ae ?_;rintro e V2 ⟨rfl,hb⟩;have q0:=xF HQ.o.1 hb (by omega);have q1:=xF HQ.o.2.1 hb (by omega);have q2:=xF HQ.o.2.2 hb hlt2;have j2:=q2.cell;have LP:V2.cell? ⟨w.heap.size+1+1,0,none⟩=some (.int .i64 (m:Nat)):=j2;clear j2)
    exact⟨(SX hb).from _,q0,by rw[HE.o];exact q1,by rw[HE.o];exact q2,iV.o.trans (hb.ae iV.o.size)⟩
 case skip=>
  rintro k V hk hm h;rw[HN.o k hm];exact h
 case done=>
  rintro D V hD ⟨h0,h1,h2,hB⟩ hK;have hc:=h1.cell;gi_wp2
  refine⟨by simp,.inl ⟨_,_,rfl,zN hK,?_⟩⟩;exact⟨_,zO rfl _ _ _,rfl,hB.trans (tA (w:=w) (ar _) V D _ _ (by omega) hK rfl rfl)⟩
end
variable {j:Nat}
def qW (w:World) (g:Nat) (l:List Value):Prop:=w.heap[g]? =some (.cells l.toArray 27 (0,0))
theorem qW.cell {l:List Value} (h:qW w g l) (j:Nat) (hj:j<l.length):w.cell? ⟨g,j,none⟩=some l[j]:=by
 rw[cC w g j _ _ (0,0) h];simp[hj]
theorem qW.fz {l:List Value} (h:qW w g l) (j:Nat):w.frozen? ⟨g,j,none⟩=false:=pN w g j _ _ h
theorem qW.lt {l:List Value} (h:qW w g l):g<w.heap.size:=(eL.1 h).1
theorem qW.aa {b:Nat} {l:List Value} (h:qW w g l) (hb:Below b w w') (hg:g<b):qW w' g l:=(hb.block g hg).trans h
theorem qW.set {l:List Value} (h:qW w g l) (j:Nat) (y:Value):qW (w.setCell ⟨g,j,none⟩ y) g (l.set j y):=by
 have h2:=mM w g j _ _ y h;rw[qW,h2];simp
theorem Tryz.infoInts1:(Tryz.prog.info? 27).map (fun i=>(i.zero,i.size,i.bytes))=some (some (.slice none 0 0),1,24):=by kernel_rfl
theorem aiz (n:Nat):(madeCells (Value.slice none 0 0).cells (n*1)).toList=List.replicate n (Value.slice none 0 0):=by
 rw[show (Value.slice none 0 0).cells= #[Value.slice none 0 0] from rfl,I3,mN]
def gN (s:List Nat):List Int:=iL (fM s 8)
def adg (w:World) (P:List (List Nat)) (l:List Value) (i:Nat):Prop:=l.length=P.length/\∀j (hj:j<P.length),j< i ->∃d cd,l[j]? =some (.slice d (gN P[j]).length cd)/\aaK w d (gN P[j])
theorem adg.aa {l:List Value} (h:adg w P l i) (hb:Below w.heap.size w w'):adg w' P l i:=⟨h.1,fun j hj hi=>by
 obtain⟨d,cd,h1,h2⟩:=h.2 j hj hi;exact⟨d,cd,h1,h2.aa hb⟩⟩
theorem aaK.off {d:Option Addr} (h:aaK w d l) (hne:∀g' o',d=some ⟨g',o',none⟩ ->l≠[] ->g'≠g):aaK (w.setCell ⟨g,j,none⟩ y) d l:=fun k hk=>by
 obtain⟨g',o',h1,h2,h3⟩:=h k hk;have hn:=hne g' o' h1 (fun e=>by rw[e] at hk;simp at hk);refine⟨g',o',h1,by simpa using h2,?_⟩;rw[<- h3];have e:=je w ⟨g,j,none⟩ y g' (by show g'≠g;exact hn);exact kA e
theorem aaN {d:Option Addr} {vs:List Value} (h:aaK w d l) (hg:qW w g vs) (hv:∀v∈vs,∃a n c,v=.slice a n c):∀g' o',d=some ⟨g',o',none⟩ ->l≠[] ->g'≠g:=fun g' o' hd hl e=>by
 subst e;have hp:0<l.length:=apt.2 hl;obtain⟨g2,o2,h1,h2,h3⟩:=h 0 hp;rw[hd] at h1;cases h1;rw[cC w g' _ _ _ (0,0) hg] at h3;rw[List.getElem?_toArray] at h3;obtain⟨a,n,c,e⟩:=hv _ (apT h3);cases e
def R2 (l:List Value):Prop:=∀v∈l,∃a n c,v=Value.slice a n c
theorem aaD (a:Option Addr) (ca:Nat) (P:List (List Nat)) (w:World) (hP:∀p∈P,∀u∈p,u<8) (hn:P.length<=5000) (hS:∀k (h:k<P.length),∃g o,a=some ⟨g,o,none⟩/\g<w.heap.size/\w.cell? ⟨g,o+k,none⟩=some (.int .u32 (aA P[k]:Nat))):
  Calls Tryz.prog 146 #[.slice a P.length ca] w fun e w'=>∃G,e=.returned (.slice (some ⟨G,0,none⟩) P.length P.length)/\w.heap.size<=G/\fh w' (some ⟨G,0,none⟩) (P.map gN)/\Below w.heap.size w w':=by
 obtain⟨i0,cU,hz0,hz1,hz2⟩:=eT Tryz.infoInts1;have HS:=hid hS;have HP:=hid hP;have xW:=hid (fun (s:List Nat) (hs:∀u∈s,u<8) (U:World)=>aaE s U hs);clear hS hP;go_enter Tryz.func146,Tryz.ntmps146
 go_wp2_with (first
  |(at_make;refine mL _ rfl _ _ 23 rfl w.heap.size 27 i0 (.slice none 0 0) 1 Tryz.underlying23 cU hz0 hz1 .i64 .i64 _ _ P.length rfl rfl (by go_num) (by go_num) (by rw[hz2];omega) (by unfold maxLen;omega) (ar _) ?_;intro w2 hown2 hgrow2))
 have hb2:=pC hown2;rw[aiz] at hb2;have bc:Hid (Below w.heap.size w w2):=(au _ w).grown hgrow2 (ar _) (fun k e=>by cases e);have HI:Hid (qW w2 w.heap.size (List.replicate P.length (.slice none 0 0))):=hb2;clear hown2 hgrow2 hb2;go_wp2_with fail
 go_loopw [11] (fun iv wr=>∃(i:Nat) (vs:List Value),i<=P.length/\iv=.int .i64 i/\Hid (qW wr w.heap.size vs)/\Hid (adg wr P vs i)/\Hid (R2 vs)/\Hid (Below w.heap.size w wr)) (fun iv _=>P.length - (intOf iv).toNat)
 case atStart=>exact⟨0,_,aU _,rfl,HI,⟨by simp,fun j _ h=>absurd h (by omega)⟩,fun v hv=>⟨none,0,0,(List.mem_replicate.1 hv).2⟩,bc⟩
 case round=>
  obtain⟨i,vs,hi,rfl,HR,VZ,VW,HB⟩:=hrel;clear HI bc;by_cases hlt:i<P.length
  ·obtain⟨g,o,rfl,hg,c0⟩:=HS.o i hlt;have c1:=(HB.o.cell (p:=⟨g,o+i,none⟩) hg).trans c0;have HL:=hid (xW.o P[i] (HP.o _ (bH hlt)));have hlv:=VZ.o.1;clear c0;go_wp2_with fail
   refine(HL.o _).ae ?_;rintro e w3 ⟨v,rfl,hv,hb3⟩;obtain⟨d,cd,rfl,hI⟩:=hv.ints;have lH:=HR.o.aa hb3 HR.o.lt;have abJ:=VZ.o.aa hb3;have k3:=lH.cell i (by omega);have f3:=lH.fz i;have BU:=hid ((HB.o.trans (hb3.ae HB.o.size)).setCell (p:=⟨w.heap.size,i,none⟩) (ar _) (.slice d (gN P[i]).length cd));have js:=hid (lH.set i (.slice d (gN P[i]).length cd))
   have anj:Hid (R2 (vs.set i (.slice d (gN P[i]).length cd))):=fun x hx=>by
    rcases Xe hx with h |h
    ·exact VW.o x h
    ·exact⟨_,_,_,h⟩
   have anm:Hid (adg (w3.setCell ⟨w.heap.size,i,none⟩ (.slice d (gN P[i]).length cd)) P (vs.set i (.slice d (gN P[i]).length cd)) (i+1)):=by
    refine⟨by rw[rU];exact hlv,fun j hj ml=>?_⟩;by_cases e:j=i
    ·subst e;exact⟨d,cd,by rw[List.getElem?_set_self (by omega)],aaK.off hI (aaN hI lH VW.o)⟩
    ·obtain⟨d',zi,h1,h2⟩:=abJ.2 j hj (by omega);exact⟨d',zi,by rw[QN (fun e'=>e e'.symm)];exact h1,aaK.off h2 (aaN h2 lH VW.o)⟩
   rw[show iL (fM P[i] 8)=gN P[i] from rfl];generalize (gN P[i]).length=ln at *;generalize vs[i]'(by omega)=z at *;clear lH abJ hb3 hI hv c1;go_wp2;go_roundw
   case rel=>exact⟨i+1,_,by omega,by go_num,js,anm,anj,BU⟩
   case measure=>simp[intOf];omega
  ·obtain rfl:i=P.length:=by omega
   have HFI:Hid (fh wr (some ⟨w.heap.size,0,none⟩) (P.map gN)):=fun k hk=>by
    rw[c5] at hk;obtain⟨d,cd,h1,h2⟩:=VZ.o.2 k hk hk;obtain⟨h3,h4⟩:=o0.1 h1;refine⟨w.heap.size,0,d,cd,rfl,HR.o.lt,?_,by rw[acj];exact h2⟩;rw[bT,HR.o.cell k h3,h4,acj]
   go_wp2;go_ret;exact⟨w.heap.size,rfl,ar _,HFI.o,HB.o⟩
variable {u:Nat} {nv v':Value} {w9 wr wr':World}
def xJ (w:World) (B:Nat) (v:Value) (l:List Nat):Prop:=w.ownsRow B 115 1 v l.length (l.map uv)
theorem xJ.own {B:Nat} {v:Value} {l:List Nat} (h:xJ w B v l):∀k,v.ownBlock=some k ->B<=k:=by
 intro k hk;rcases h.2 with ⟨rfl,_⟩ |⟨g,cap,cur,rfl,h2,_⟩
 ·cases hk
 ·cases hk;exact h2
theorem xJ.slv {B:Nat} {v:Value} {l:List Nat} (h:xJ w B v l):∃d n c,v=.slice d n c:=by
 rcases h.2 with ⟨rfl,_⟩ |⟨g,cap,cur,rfl,h2,_⟩
 ·exact⟨_,_,_,rfl⟩
 ·exact⟨_,_,_,rfl⟩
theorem ZF {W:World} {B1 B2:Nat} {e1 e2:TypeId} {v1 v2:Value} {n1 n2:Nat} {x1 x2:List Value} (h1:W.ownsRow B1 e1 1 v1 n1 x1) (h2:W.ownsRow B2 e2 1 v2 n2 x2) (he:e1≠e2):v2.ownBlock=none∨v2.ownBlock≠v1.ownBlock:=by
 rcases h2.2 with ⟨rfl,_⟩ |⟨g,cap,cur,rfl,_,hg,_⟩
 ·exact .inl rfl
 ·refine .inr fun e=>?_;rcases h1.2 with ⟨rfl,_⟩ |⟨g',cap',cur',rfl,_,iK,_⟩
  ·cases e
  ·have e':g=g':=lV e;subst e';rw[hg] at iK;injection iK with h3;injection h3 with _ h4 _;exact he h4.symm
theorem ZG {W:World} {B G:Nat} {e:TypeId} {v:Value} {x:List Value} (h:W.ownsRow B e 1 v n x) (hG:G<B):v.ownBlock=none∨v.ownBlock≠some G:=by
 rcases h.2 with ⟨rfl,_⟩ |⟨g,cap,cur,rfl,hB,_⟩
 ·exact .inl rfl
 ·exact .inr fun e=>by
   have e':g=G:=lV e;omega
theorem UB {G:Nat} {row:Option Nat} (h:w.grownBy V (some G)) (hg:V.grownBy V' row) (hr:∀r,row=some r ->w.heap.size<=r):w.grownBy V' (some G):=
 ⟨hg.os.trans h.os,hg.tape.trans h.tape,hg.output.trans h.output,aS h.size hg.size,fun k hk hne=>(hg.block k (aR hk h.size) (fun e=>by
  have:=hr k e.symm;omega)).trans (h.block k hk hne)⟩
theorem Tryz.infoSet2:(Tryz.prog.info? 115).map (fun i=>(i.zero,i.size,i.bytes))=some (some (.int .u32 0),1,4):=by kernel_rfl
theorem adJ {o:Oper} {a:Act} (s x:Operand)
  (ho:o.op=.call {callee:=.builtin .append,args:= #[s,x],argTypes:= #[109,109]}) (base:Nat) (v:Value) (l:List Nat) (f:Nat) (hs:a.eval s=v) (hown:xJ w base v l) (g:Nat) (hx:a.eval x=.slice (some ⟨g,0,none⟩) 1 1) (hg:w.cell? ⟨g,0,none⟩=some (uv f)) (hlen:l.length+1<=100000) (hbase:base<=w.heap.size)
  (h:∀v' w',xJ w' base v' (l++[f]) ->w.grownBy w' v.ownBlock ->K (a.put o.dst v') w'):o.wp Tryz.prog a w K Q:=by
 obtain⟨i0,cU,hz0,hz1,hz2⟩:=eT Tryz.infoSet2;refine wp_append_own _ s x 109 ho base 115 i0 (.int .u32 0) 1 4 Tryz.underlying109 cU hz0 hz1 hz2 rfl (by decide) v l.length _ hs hown ⟨g,0,none⟩ 1 1 [uv f] hx rfl ?_ ?_ (by unfold maxLen;omega) (by omega) hbase ?_
 ·intro j u hj;match j,hj with
  |0,hj=>cases hj;exact hg
  |j+1,hj=>simp at hj
 ·intro u hu;simp only[dK,qG,acA] at hu;subst hu;rfl
 ·intro v' w' h1 h2 _;refine h v' w' ?_ h2;rw[xJ,dM,fY];exact h1
theorem adL {o:Oper} {a:Act} (s x:Operand)
  (ho:o.op=.call {callee:=.builtin .append,args:= #[s,x],argTypes:= #[27,27]}) (base:Nat) (v:Value) (l:List Int) (f:Int) (hs:a.eval s=v) (hown:cX w base v l) (g:Nat) (hx:a.eval x=.slice (some ⟨g,0,none⟩) 1 1) (hg:w.cell? ⟨g,0,none⟩=some (.int .i64 f)) (hlen:l.length+1<=100000) (hbase:base<=w.heap.size)
  (h:∀v' w',cX w' base v' (l++[f]) ->w.grownBy w' v.ownBlock ->K (a.put o.dst v') w'):o.wp Tryz.prog a w K Q:=by
 obtain⟨i0,cU,hz0,hz1,hz2⟩:=eT Tryz.infoInt;refine wp_append_own _ s x 27 ho base 3 i0 (.int .i64 0) 1 8 Tryz.underlying27 cU hz0 hz1 hz2 rfl (by decide) v l.length _ hs hown ⟨g,0,none⟩ 1 1 [.int .i64 f] hx rfl ?_ ?_ (by unfold maxLen;omega) (by omega) hbase ?_
 ·intro j u hj;match j,hj with
  |0,hj=>cases hj;exact hg
  |j+1,hj=>simp at hj
 ·intro u hu;simp only[dK,qG,acA] at hu;subst hu;rfl
 ·intro v' w' h1 h2 _;refine h v' w' ?_ h2;rw[cX,dM,fY];exact h1
def wA:Nat ->List Nat
 |0=>[]
 |i+1=>i::wA i
theorem Aj {x:Nat}:x∈wA i↔x<i:=by
 induction i with
 |zero=>simp[wA]
 |succ i ih=>rw[wA,dK,ih];omega
structure FlS where
 ord:List Nat
 bag:List (List Nat)
 lft:List Nat
 nei:List (List Nat)
def flS (P:List (List Nat)) (n:Nat):Nat ->FlS
 |0=>⟨[],[],wA n,P⟩
 |k+1=>⟨(flS P n k).ord++[jU (flS P n k).nei (flS P n k).lft],(flS P n k).bag++[jU (flS P n k).nei (flS P n k).lft::(flS P n k).nei.getD (jU (flS P n k).nei (flS P n k).lft) []],(flS P n k).lft.filter (fun u=>decide (u≠jU (flS P n k).nei (flS P n k).lft)),rZ (flS P n k).nei (jU (flS P n k).nei (flS P n k).lft)⟩
structure sP (n:Nat) (P:List (List Nat)):Prop where
 len:P.length=n
 lt:∀p∈P,∀u∈p,u<n
 self:∀u,¬u∈P.getD u []
theorem sP.at (h:sP n P) (v:Nat):∀u∈P.getD v [],u<n:=by
 by_cases hv:v<P.length
 ·rw[b7,af hv];exact h.lt _ (bH hv)
 ·rw[b7,iF (by omega)];intro u hu;simp at hu
theorem Sx {x:Nat}:x∈yE P v u↔(x∈P.getD u []∨x∈P.getD v [])/\x≠u/\x≠v:=by
 simp only[yE,abp,aa5,QA];exact⟨fun ⟨⟨a,b⟩,c⟩=>⟨a,b,c⟩,fun ⟨a,b,c⟩=>⟨⟨a,b⟩,c⟩⟩
theorem sP.take (h:sP n P) (v:Nat):sP n (rZ P v):=by
 refine⟨by rw[rZ,GM];exact h.len,fun p hp u hu=>?_,fun u hu=>?_⟩
 ·obtain⟨i,hi,rfl⟩:=aaQ.1 hp;by_cases hc:i<8/\i∈P.getD v []
  ·rw[aaf hc,Sx] at hu;exact hu.1.elim (h.at i u) (h.at v u)
  ·rw[aaO hc] at hu;exact h.at i u hu
 ·by_cases hl:u<P.length
  ·have e:(rZ P v).getD u []=if u<8/\u∈P.getD v [] then yE P v u else P.getD u []:=by
    rw[b7,af (by rw[rZ,GM];exact hl)];simp[rZ,ic]
   rw[e] at hu;by_cases hc:u<8/\u∈P.getD v []
   ·rw[aaf hc,Sx] at hu;exact hu.2.1 rfl
   ·rw[aaO hc] at hu;exact h.self u hu
  ·rw[b7,iF (by rw[rZ,GM];omega)] at hu;simp at hu
theorem O2:∀ {k b m:Nat},jD f s k=some (b,m) ->b∈s
 |0,_,_,h=>by cases h
 |k+1,b,m,h=>by
  by_cases hk:k∈s
  ·rw[jD,aaf hk] at h;cases hf:jD f s k with
   |none=>rw[hf] at h;cases h;exact hk
   |some x=>
    obtain⟨b',m'⟩:=x;rw[hf] at h;simp only at h;by_cases hl:f k<m'
    ·rw[aaf hl] at h;cases h;exact hk
    ·rw[aaO hl] at h;cases h;exact O2 hf
  ·rw[jD,aaO hk] at h;exact O2 h
theorem ab9 (h1:1<=n) (hs:∀u∈s,u<n):jU P s<n:=by
 rw[jU];cases h:jD (p7 P) s 8 with
 |none=>exact h1
 |some x=>
  obtain⟨b,m⟩:=x;exact hs b (O2 h)
theorem O6 (h:sP n P):∀k,sP n (flS P n k).nei/\(∀u∈(flS P n k).lft,u<n)/\(flS P n k).ord.length=k/\(flS P n k).bag.length=k
 |0=>⟨h,fun u hu=>Aj.1 hu,rfl,rfl⟩
 |k+1=>by
  obtain⟨h1,h2,h3,h4⟩:=O6 h k;exact⟨h1.take _,fun u hu=>h2 u (abp.1 hu).1,by simp[flS,h3],by simp[flS,h4]⟩
structure nY (w wr:World) (G:Nat) (nv bv:Value) (o:List Int) (b Q:List Nat):Prop where
 row:cI wr G Q
 grow:w.grownBy wr (some G)
 nd:cX wr w.heap.size nv o
 bg:xJ wr w.heap.size bv b
theorem nY.aa {G:Nat} {bv:Value} {o:List Int} {b Q:List Nat} (h:nY w wr G nv bv o b Q) (hb:Below wr.heap.size wr wr'):nY w wr' G nv bv o b Q:=
 ⟨h.row.aa hb h.row.lt,UB h.grow (row:=none) ⟨hb.os,hb.tape,hb.output,hb.size,fun k hk _=>hb.block k hk⟩ (fun r e=>by cases e),h.nd.under hb,NG h.bg hb (ar _)⟩
theorem nY.nodes {G:Nat} {bv:Value} {o o':List Int} {b Q:List Nat} (h:nY w wr G nv bv o b Q) (hG:G<w.heap.size) (hr:cX w9 w.heap.size v' o') (hg:wr.grownBy w9 nv.ownBlock):nY w w9 G v' bv o' b Q:=
 ⟨(hg.block G h.row.lt (fun e=>by have:=h.nd.own G e.symm;omega)).trans h.row,UB h.grow hg (fun r e=>h.nd.own r e),hr,QC h.bg hg (ZF h.nd h.bg (by decide))⟩
theorem nY.bags {G:Nat} {bv:Value} {o:List Int} {b b' Q:List Nat} (h:nY w wr G nv bv o b Q) (hG:G<w.heap.size) (hr:xJ w9 w.heap.size v' b') (hg:wr.grownBy w9 bv.ownBlock):nY w w9 G nv v' o b' Q:=
 ⟨(hg.block G h.row.lt (fun e=>by have:=h.bg.own G e.symm;omega)).trans h.row,UB h.grow hg (fun r e=>h.bg.own r e),QC h.nd hg (ZF h.bg h.nd (by decide)),hr⟩
theorem nY.o {G:Nat} {bv:Value} {o:List Int} {b Q Q':List Nat} (h:nY w wr G nv bv o b Q) (hG:G<w.heap.size) (hr:cI w9 G Q') (hg:wr.grownBy w9 (some G)):nY w w9 G nv bv o b Q':=
 ⟨hr,adT h.grow hg,QC h.nd hg (ZG h.nd hG),QC h.bg hg (ZG h.bg hG)⟩
theorem nY.drew {G:Nat} {bv:Value} {o:List Int} {b Q:List Nat} (h:nY w wr G nv bv o b Q):nY w wr.drew G nv bv o b Q:=⟨h.row,abP h.grow,h.nd,h.bg⟩
theorem akf (G n c:Nat) (P:List (List Nat)) (w:World) (h1:1<=n) (h8:n<=8) (hU:cI w G (P.map aA)) (hP:sP n P):
  Calls Tryz.prog 148 #[.slice (some ⟨G,0,none⟩) n c] w fun e w'=>∃nv bv,e=.returned (.tuple #[nv,bv])/\nY w w' G nv bv (iL (flS P n n).ord) ((flS P n n).bag.map aA) ((flS P n n).nei.map aA):=by
 have hG:=hU.lt;have zE:=hid (fun k=>O6 hP k);have zr:Hid (nY w w G (.slice none 0 0) (.slice none 0 0) (iL (flS P n 0).ord) ((flS P n 0).bag.map aA) ((flS P n 0).nei.map aA)):=⟨hU,⟨rfl,rfl,rfl,ar _,fun _ _ _=>rfl⟩,⟨rfl,.inl ⟨rfl,rfl⟩⟩,⟨rfl,.inl ⟨rfl,rfl⟩⟩⟩;have HWI:=hid (fun (i:Nat) (hi:i<8) (U:World)=>GW (wA i) i U (fun u hu=>by have:=Aj.1 hu;omega) hi);have Ur:Hid (∀i,aA (i::wA i)=aA (wA (i+1))):=fun i=>rfl;have ank:Hid (∀k,flS P n (k+1)=⟨(flS P n k).ord++[jU (flS P n k).nei (flS P n k).lft],(flS P n k).bag++[jU (flS P n k).nei (flS P n k).lft::(flS P n k).nei.getD (jU (flS P n k).nei (flS P n k).lft) []],(flS P n k).lft.filter (fun u=>decide (u≠jU (flS P n k).nei (flS P n k).lft)),rZ (flS P n k).nei (jU (flS P n k).nei (flS P n k).lft)⟩):=fun k=>rfl;have Qe:Hid ((flS P n 0).lft=wA n):=rfl;generalize flS P n=fl at *;clear hU hP;go_enter Tryz.func148,Tryz.ntmps148;go_wp2_with fail
 go_loopw [4,9] (fun sv iv wr=>∃i:Nat,i<=n/\sv=.int .u32 (aA (wA i):Nat)/\iv=.int .i64 i/\wr=w) (fun _ iv _=>n - (intOf iv).toNat)
 case atStart=>exact⟨0,aU _,rfl,rfl,rfl⟩
 case round=>
  obtain⟨i,hi,rfl,rfl,hwr⟩:=hrel;replace hwr:=hwr.symm;subst hwr;by_cases hlt:i<n
  ·have Im:=hid (HWI.o i (by omega));rw[Ur.o i] at Im;generalize aA (wA i)=m0 at *;go_wp2_with fail
   refine(Im.o _).ae ?_;rintro e w1 ⟨rfl,hw1⟩;subst hw1;go_wp2;go_roundw
   case rel=>exact⟨i+1,by omega,rfl,by go_num,trivial⟩
   case measure=>simp[intOf];omega
  ·obtain rfl:i=n:=by omega
   rw[<- Qe.o];clear hi hlt HWI Ur;go_wp2_with fail
   go_loopw [2,3,4,18] (fun nv bv sv iv wr'=>∃k:Nat,k<=i/\iv=.int .i64 k/\sv=.int .u32 (aA (fl k).lft:Nat)/\Hid (nY w wr' G nv bv (iL (fl k).ord) ((fl k).bag.map aA) ((fl k).nei.map aA))) (fun _ _ _ iv _=>i - (intOf iv).toNat)
   case atStart=>exact⟨0,aU _,rfl,rfl,zr⟩
   case round=>
    obtain⟨k,hk,rfl,rfl,HX⟩:=hrel;clear zr;by_cases hlt:k<i
    ·obtain⟨hNb,OL,hOl,hBl⟩:=zE.o k;have PY:=hid (ank.o k);(obtain⟨d2,n2,e2,rfl⟩:∃d n c,u2=Value.slice d n c:=by obtain⟨d,cd,e, -⟩:=HX.o.nd.ints;exact⟨_,_,_,e⟩);obtain⟨d3,n3,e3,rfl⟩:=HX.o.bg.slv;generalize fl k=S at *;have OC:=ab9 (P:=S.nei) h1 OL;have HFW:=hid (fun (U:World) (hU:cI U G (S.nei.map aA))=>akY G i c S.nei S.lft U hNb.len h8 hU hNb.lt OL);have xM:=hid (fun (U:World) (hU:cI U G (S.nei.map aA))=>aeo G i c (jU S.nei S.lft) S.nei U hNb.len h8 hU hNb.lt OC (hNb.self _));have HWT:=hid (fun (U:World)=>GW (S.nei.getD (jU S.nei S.lft) []) (jU S.nei S.lft) U (fun u hu=>by have:=hNb.at _ u hu;omega) (by omega));have ku:=hid (fun (U:World)=>JB S.lft (jU S.nei S.lft) U (fun u hu=>by have:=OL u hu;omega) (by omega))
     have F9:Hid (∀U:World,cI U G (S.nei.map aA) ->U.cell? ⟨G,jU S.nei S.lft,none⟩=some (.int .u32 (aA (S.nei.getD (jU S.nei S.lft) []):Nat))):=fun U hR=>by
      have hl:=hNb.len;have:=hR.cell (jU S.nei S.lft) (by rw[c5];omega);rwa [Ey (by omega)] at this
     generalize Hh:jU S.nei S.lft=v at *;clear Hh hNb OL;generalize hm4:aA (S.lft.filter fun u=>decide (u≠v))=m4 at *;have vS:=hid hm4;clear hm4;go_wp2_with fail
     refine(HFW.o _ HX.o.row).ae ?_;rintro e w1 ⟨rfl,hb⟩;have T7:=HX.o.aa hb;clear hb HX;have kc:=F9.o _ T7.row;have zG:Hid (aA (v::S.nei.getD v [])=aA (v::S.nei.getD v [])):=rfl;generalize hm1:aA (v::S.nei.getD v [])=m1 at *;replace zG:Hid (aA (v::S.nei.getD v [])=m1):=hm1;clear hm1;generalize aA (S.nei.getD v [])=m0 at *;go_upto_region 10 with fail
     refine jJ (S:=fun u=>u.cell? ⟨G,v,none⟩=some (.int .u32 (m0:Nat))) (by kernel_rfl) kc (fun aq=>?_);have yZ:=T7.drew;(have hlo:(iL S.ord).length<=8:=by rw[ba];omega);(have lD:(S.bag.map aA).length<=8:=by rw[c5];omega);clear kc T7;generalize w1.drew=U0 at *;refine aw 0 (.slice d2 n2 e2) ?_;refine aw 1 (.int .i64 (v:Nat)) ?_;refine aw 4 (.slice d3 n3 e3) ?_;refine aw 5 (.slice (some ⟨G,0,none⟩) i c) ?_;refine aw 6 (.int .i64 (v:Nat)) ?_;refine aw 7 (.pointer (some ⟨G,v,none⟩)) ?_;(try simp only[gE,aP]);refine cK 8 (.int .u32 (m0:Nat)) ?_ ?_
     ·intro u' aL;have s0:=aL;go_simp
     refine aw 9 (.int .i64 (v:Nat)) ?_;refine aF [2] (cA ?_ aD);intro K' hK';go_simp;have lG:=(au _ U0).alloc (ar _) (.cells #[.int .i64 (v:Nat)] 3);have po:=yZ.aa lG;have HC:=(a7 U0 3 (.int .i64 (v:Nat))).cell;refine hK'.o _ _ ((lG.cell (p:=⟨G,v,none⟩) yZ.row.lt).trans aq) (fun ak=>?_);clear hK' K' aq yZ lG;have aq:=ak;clear ak;generalize (U0.alloc (.cells #[.int .i64 (v:Nat)] 3))=U1 at *;generalize U0.heap.size=BN at *;refine aF [3] (cA ?_ aD);intro K' hK';rw[aaf (by rfl)];refine adL _ _ rfl w.heap.size _ (iL S.ord) (v:Nat) rfl po.nd BN rfl HC (by omega) po.grow.size ?_;intro v' w9 EN jo;(obtain⟨d9,n9,Ps,rfl⟩:∃d n c,v'=Value.slice d n c:=by obtain⟨d,cd,e, -⟩:=EN.ints;exact⟨_,_,_,e⟩);have CW:=po.nodes hG EN jo;refine hK'.o _ _ ((kA (jo.block G po.row.lt (fun e=>by have:=po.nd.own G e.symm;omega))).trans aq) (fun ak=>?_);clear hK' K' aq po EN jo HC;have aq:=ak;clear ak;have EZ:True:=trivial;clear EZ;generalize hd:d9=dn at *;generalize nC:n9=nn at *;generalize hc9:Ps=cn at *;clear hd nC hc9 d9 n9 Ps;refine aF [10] (cA ?_ aD);intro K' hK';go_simp;refine(HWT.o _).ae ?_;rintro e U2 ⟨rfl,KI⟩;subst KI;refine hK'.o _ _ aq (fun ak=>?_);clear hK' K' ak;have yZ:=CW;clear CW;generalize U2=U0 at *;refine aF [11] (cA ?_ aD);intro K' hK';go_simp;have lG:=(au _ U0).alloc (ar _) (.cells #[.int .u32 (m1:Nat)] 115);have po:=yZ.aa lG;have HC:=(a7 U0 115 (.int .u32 (m1:Nat))).cell;refine hK'.o _ _ ((lG.cell (p:=⟨G,v,none⟩) yZ.row.lt).trans aq) (fun ak=>?_);clear hK' K' aq yZ lG;have aq:=ak
     clear ak;generalize (U0.alloc (.cells #[.int .u32 (m1:Nat)] 115))=U1 at *;generalize U0.heap.size=BN at *;refine aF [12] (cA ?_ aD);intro K' hK';rw[aaf (by rfl)];refine adJ _ _ rfl w.heap.size _ (S.bag.map aA) m1 rfl po.bg BN rfl HC (by omega) po.grow.size ?_;intro v' w9 EN jo;obtain⟨d9,n9,Ps,rfl⟩:∃d n c,v'=Value.slice d n c:=EN.slv;have CW:=po.bags hG EN jo;refine hK'.o _ _ ((kA (jo.block G po.row.lt (fun e=>by have:=po.bg.own G e.symm;omega))).trans aq) (fun ak=>?_);clear hK' K' aq po EN jo HC;have aq:=ak;clear ak;refine aw 13 (.slice dn nn cn) ?_;refine aw 14 (.slice d9 n9 Ps) ?_;(try simp only[gE,aP]);refine dW (by kernel_rfl) ?_ _;clear aq;have T3:=CW;clear CW;generalize w9=w3 at *;go_wp2_with fail
     refine(ku.o _).ae ?_;rintro e w4 ⟨rfl,hw4⟩;subst hw4;go_wp2_with fail
     refine(xM.o _ T3.row).ae ?_;rintro e w5 ⟨⟨rr,rfl⟩,oC,wV⟩;have qp:=hid (T3.o hG oC wV);clear oC wV T3;go_wp2;go_roundw
     case rel=>exact⟨k+1,by omega,by go_num,by rw[PY.o];show _=Value.int .u32 (aA (S.lft.filter fun u=>decide (u≠v)):Nat);rw[vS.o],by rw[PY.o];show nY _ _ _ _ _ (iL (S.ord++[v])) ((S.bag++[v::S.nei.getD v []]).map aA) _;rw[N9,fY,show [v::S.nei.getD v []].map aA=[m1] from by rw[<- zG.o];rfl];exact qp⟩
     case measure=>simp[intOf];omega
    ·obtain rfl:k=i:=by omega
     (obtain⟨d2,n2,e2,rfl⟩:∃d n c,u2=Value.slice d n c:=by obtain⟨d,cd,e, -⟩:=HX.o.nd.ints;exact⟨_,_,_,e⟩);obtain⟨d3,n3,e3,rfl⟩:=HX.o.bg.slv;go_wp2;go_ret2;exact⟨_,_,rfl,HX.o⟩
variable {ds:List Deferred} {B' lo:Nat} {W':World}
def Shut (lo:Nat):Nat ->List Deferred ->World ->Prop
 |_,[],_=>True
 |B,d::ds,W=>∃r,lo<=r/\r<B/\d= {target:=.collected r,args:= #[]}/\W.heap[r]? =some (.deferred (some []))/\Shut lo r ds W
theorem Shut.ae {B:Nat} {W:World} (h:Shut lo B ds W) (hb:B<=B'):Shut lo B' ds W:=by
 cases ds with
 |nil=>trivial
 |cons d ds=>
  obtain⟨r,h1,h2,h3⟩:=h;exact⟨r,h1,by omega,h3⟩
theorem Shut.keep:∀ {ds:List Deferred} {B:Nat} {W W':World},Shut lo B ds W ->(∀r,r< B ->W'.heap[r]? =W.heap[r]?) ->Shut lo B ds W'
 |[],_,_,_,_,_=>trivial
 |d::ds,B,W,W',h,hk=>by
  obtain⟨r,h1,h2,h3,h4,h5⟩:=h;exact⟨r,h1,h2,h3,(hk r h2).trans h4,h5.keep fun k hlt=>hk k (by omega)⟩
theorem Shut.aa {B:Nat} {W:World} (h:Shut lo B ds W) (hb:Below B W W'):Shut lo B ds W':=h.keep fun r hr=>hb.block r hr
theorem Ez {F:Fence} {P:Program} {tmps:Array Value} {R:Ending ->World ->Prop} {K:World ->Prop}
  (hK:∀W r,K W ->lo<=r ->W.heap[r]? =some (.deferred (some [])) ->K (W.putObj r (.deferred none))) (hend:∀W,K W ->LeavesInM F n P fn tmps R [] .returning W):
  ∀(ds:List Deferred) (B:Nat) (W:World),Shut lo B ds W ->K W ->LeavesInM F n P fn tmps R ds .returning W
 |[],_,W,_,hW=>hend W hW
 |d::ds,B,W,h,hW=>by
  obtain⟨r,h1,h2,rfl,h4,h5⟩:=h;refine⟨by simp,.inl ⟨r,_,rfl,zN h4,Ez hK hend ds r _ ?_ (hK W r hW h1 h4)⟩⟩;exact h5.keep fun k hk=>yh (by omega)
section
attribute [local go_sem] Oper.semAt_some
variable {c:Nat}
def nL (U:List (List Nat)) (u:Nat):Nat ->List Nat
 |0=>[]
 |v+1=>if u∈U.getD v [] then v::nL U u v else nL U u v
theorem Lh {U:List (List Nat)}:∀ {v x:Nat},x∈nL U u v↔x<v/\u∈U.getD x []
 |0,x=>by simp[nL]
 |v+1,x=>by
  rw[nL];by_cases h:u∈U.getD v []
  ·rw[aaf h,dK,Lh];constructor
   ·rintro(rfl |⟨h1,h2⟩)
    ·exact⟨by omega,h⟩
    ·exact⟨by omega,h2⟩
   ·rintro⟨h1,h2⟩;by_cases e:x=v
    ·exact .inl e
    ·exact .inr ⟨by omega,h2⟩
  ·rw[aaO h,Lh];constructor
   ·rintro⟨h1,h2⟩;exact⟨by omega,h2⟩
   ·rintro⟨h1,h2⟩;exact⟨by rcases cD x v with h3 |h3;exact h3;exact absurd (show x=v by omega) (fun e=>h (e▸h2)),h2⟩
def lJ (U:List (List Nat)) (n v k:Nat):List (List Nat):=(List.range n).map fun u=>if u<k/\u∈U.getD v [] then v::nL U u v else nL U u v
def lK (U:List (List Nat)) (n v:Nat):List (List Nat):=(List.range n).map fun u=>nL U u v
theorem alZ (U:List (List Nat)) (n v:Nat):lJ U n v 0=lK U n v:=by simp[lJ,lK]
theorem al4 {U:List (List Nat)} (h:n<=8):lJ U n v 8=lK U n (v+1):=by
 apply rq;intro u hu;have:=bG.1 hu;rw[nL];by_cases h1:u∈U.getD v []
 ·rw[aaf ⟨by omega,h1⟩,aaf h1]
 ·rw[aaO (fun e=>h1 e.2),aaO h1]
theorem al0 {U:List (List Nat)} (hm:k∈U.getD v []):lJ U n v (k+1)=(lJ U n v k).set k (v::nL U k v):=by
 apply pS (by simp[lJ]);intro i h1 h2;rw[List.getElem_set];simp only[lJ,acj,qH];by_cases h:k=i
 ·subst h;rw[aaf ⟨by omega,hm⟩,aaf rfl]
 ·rw[aaO h];have e:(i<k+1/\i∈U.getD v [])↔(i<k/\i∈U.getD v []):=⟨fun ⟨a,b⟩=>⟨by omega,b⟩,fun ⟨a,b⟩=>⟨by omega,b⟩⟩;simp only[e]
theorem al1 {U:List (List Nat)} (hm:¬k∈U.getD v []):lJ U n v (k+1)=lJ U n v k:=by
 apply rq;intro i hi;have e:(i<k+1/\i∈U.getD v [])↔(i<k/\i∈U.getD v []):=⟨fun ⟨a,b⟩=>⟨by rcases cD i k with h |h;exact h;exact absurd (show i=k by omega) (fun e=>hm (e▸b)),b⟩,fun ⟨a,b⟩=>⟨by omega,b⟩⟩;simp only[e]
theorem al3 {U:List (List Nat)} (hu:u<n) (h:¬u<k):(lJ U n v k)[u]? =some (nL U u v):=by
 simp[lJ,hu,h]
theorem al2 (U:List (List Nat)) (n v k:Nat):(lJ U n v k).length=n:=by simp[lJ]
theorem acF (U:List (List Nat)) (n v:Nat):(lK U n v).length=n:=by simp[lK]
theorem Shut.putAt {B:Nat} {W:World} (h:Shut lo B ds W) (hg:g<lo) (v:Value):Shut lo B ds (W.setCell ⟨g,j,none⟩ v):=by
 induction ds generalizing B with
 |nil=>trivial
 |cons d ds ih=>
  obtain⟨r,h1,h2,h3,h4,h5⟩:=h;exact⟨r,h1,h2,h3,(je W ⟨g,j,none⟩ v r (by show r≠g;omega)).trans h4,ih h5⟩
theorem Rv {β:Type} {B:Nat}:OwnFrom B (fun (_:β) W=>B<=W.heap.size/\Shut lo B ds W):=fun _ W W' row hs hg hr=>
 ⟨aS hs.1 hg.size,hs.2.keep fun k hk=>hg.block k (by omega) (fun e=>by have:=(hr k e.symm).1;omega)⟩
def rQ (w:World) (n c:Nat) (l:List Nat) (W:World):Prop:=cI W w.heap.size l/\Boxed W (w.heap.size+1) 109 (.slice (some ⟨w.heap.size,0,none⟩) n c)/\Below w.heap.size w W
theorem rQ.shut {l:List Nat} (hlo:w.heap.size+1<lo) (W:World) (r:Nat) (h:rQ w n c l W) (hr:lo<=r) (hd:W.heap[r]? =some (.deferred (some []))):rQ w n c l (W.putObj r (.deferred none)):=
 ⟨(yh (by omega)).trans h.1,(yh (by omega)).trans h.2.1,h.2.2.trans (tA (w:=w) (ar _) W r _ _ (by omega) hd rfl rfl)⟩
theorem rQ.own {β:Type} {B:Nat} (f:β ->List Nat) (hB:w.heap.size<=B):OwnFrom B (fun (s:β) W=>rQ w n c (f s) W):=
 eI (fG (Nk _ f) _) (eI (fG (iC _ _ (fun _=>_)) _) (yg (ar _) hB))
theorem rQ.aa {W:World} {l:List Nat} (h:rQ w n c l W) (hb:Below W.heap.size W W'):rQ w n c l W':=⟨h.1.aa hb h.1.lt,xF h.2.1 hb h.2.1.lt,h.2.2.trans (hb.ae h.2.2.size)⟩
theorem alS (G n c:Nat) (U:List (List Nat)) (w:World) (hn:U.length=n) (h8:n<=8) (hU:cI w G (U.map aA)) (hP:∀p∈U,∀u∈p,u<n):
  Calls Tryz.prog 126 #[.slice (some ⟨G,0,none⟩) n c] w fun e w'=>e=.returned (.slice (some ⟨w.heap.size,0,none⟩) n n)/\cI w' w.heap.size ((lK U n n).map aA)/\Below w.heap.size w w':=by
 refine(gZ (n:=6)).1 ?_;obtain⟨i0,cU,hz0,hz1,hz2⟩:=eT Tryz.infoSet;have hG:=hU.lt;have tX:∀p∈U,∀u∈p,u<8:=fun p hp u hu=>by have:=hP p hp u hu;omega
 have uD:Hid (∀(V:World) (v:Nat),Below w.heap.size w V ->v< n ->V.cell? ⟨G,v,none⟩=some (.int .u32 (aA (U.getD v []):Nat))):=fun V v hB hv=>by
  have:=(hU.aa hB hG).cell v (by rw[c5];omega);rwa [Ey (by omega)] at this
 have WI:=hid (fun v=>Dd tX v)
 have Mc:Hid (∀v k,v< n ->k∈U.getD v [] ->k<n):=fun v k hv hk=>by
  rw[b7,af (by omega)] at hk;exact hP _ (bH _) k hk
 have HWI:=hid (fun (u v:Nat) (hv:v<n) (V:World)=>GW (nL U u v) v V (fun x hx=>by have:=(Lh.1 hx).1;omega) (by omega))
 have Gb:Hid (∀(V:World) (g v k u:Nat),u< n ->¬u< k ->cI V g ((lJ U n v k).map aA) ->V.cell? ⟨g,u,none⟩=some (.int .u32 (aA (nL U u v):Nat))/\V.frozen? ⟨g,u,none⟩=false):=fun V g v k u hu hne hR=>by
  have h1:u<(lJ U n v k).length:=by rw[al2];exact hu
  have h2:=hR.cell u (by rw[c5];exact h1);obtain⟨h3,h4⟩:=o0.1 (al3 (U:=U) (v:=v) hu hne);rw[acj,h4] at h2;exact⟨h2,hR.fz u⟩
 have kS:Hid (∀(V:World) (g v k:Nat),k∈U.getD v [] ->cI V g ((lJ U n v k).map aA) ->cI (V.setCell ⟨g,k,none⟩ (.int .u32 (aA (v::nL U k v):Nat))) g ((lJ U n v (k+1)).map aA)):=fun V g v k hm hR=>by
  have:=hR.set k (aA (v::nL U k v));rwa [al0 hm,Gr]
 have eQ:Hid (∀v k,¬k∈U.getD v [] ->lJ U n v (k+1)=lJ U n v k):=fun v k h=>al1 h;have HZ:=hid (fun v=>alZ U n v);have HA:=hid (fun v=>al4 (U:=U) (v:=v) h8)
 have hz:(lK U n 0).map aA=List.replicate n 0:=by
  apply pS (by simp[lK]);intro i h1 h2;simp[lK,nL,aA]
 clear hU hP tX;refine tz Tryz.func126 rfl trivial ?_ rfl;simp only[Tryz.ntmps126,mP,eU,lg,Nat.reduceAdd,Nat.reduceSub,mV,mU,mQ,lZ,iD,fg];have hmk:=fun V=>run_make_row' (P:=Tryz.prog) 109 115 (.int .u32 0) 4 Tryz.underlying109 Tryz.infoSet rfl .i64 .i64 n (by omega) (by omega) V;gi_wp2
 clear hmk;obtain⟨W2,hW2⟩:∃W2,W2=(w.alloc (.cells (madeCells #[.int .u32 0] n) 115)).alloc (.cells #[.slice (some ⟨w.heap.size,0,none⟩) n n] 109):=⟨_,rfl⟩
 have hL2:rQ w n n ((lK U n 0).map aA) W2:=by
  rw[hW2,hz];refine⟨?_,?_,((au _ w).alloc (ar _) _).alloc (by simp) _⟩
  ·have h:=kd w (.cells (madeCells #[.int .u32 0] n) 115)
   have e:(madeCells #[.int .u32 0] n).toList=(List.replicate n (0:Nat)).map uv:=by
    have:=SJ n;rwa [mN] at this
   (have e2:madeCells #[Value.int .u32 0] n=((List.replicate n (0:Nat)).map uv).toArray:=by rw[<- e]);rw[cI,rY _ _ _ (by simp),h,e2]
  ·have h:=a7 (w.alloc (.cells (madeCells #[.int .u32 0] n) 115)) 109 (.slice (some ⟨w.heap.size,0,none⟩) n n);rwa [cN] at h
 rw[<- hW2];have hs2:W2.heap.size=w.heap.size+2:=by rw[hW2];simp
 have rh:=hid hL2;clear hW2 hL2 hz;refine wpIn_loop (fun a' w'=>∃(v:Nat) (ds:List Deferred) (u4 u5 u13 u14 u15 u16 Ju Jt Ak:Value),a'= {tmps:= #[.slice (some ⟨G,0,none⟩) n c,undef,.slice none 0 0,.pointer (some ⟨w.heap.size+1,0,none⟩),u4,u5,undef,.slice (some ⟨G,0,none⟩) n c,.int .i64 (n:Nat),.slice (some ⟨w.heap.size,0,none⟩) n n,.slice (some ⟨G,0,none⟩) n c,.int .i64 (n:Nat),.int .i64 (v:Nat),u13,u14,u15,u16,Ju,Jt,undef,undef,undef,undef,undef,undef,undef,undef,undef,undef,Ak,undef],defers:=ds}/\v<=n/\Hid (rQ w n n ((lK U n v).map aA) w')/\Hid (Shut (w.heap.size+2) w'.heap.size ds w')) (fun a' _=>n - (intOf (a'.tmps.getD 12 undef)).toNat) ?_ ?_
 ·exact⟨0,[],_,_,_,_,_,_,_,_,_,rfl,aU _,rh,trivial⟩
 intro a' wr hinv;obtain⟨v,ds,u4,u5,u13,u14,u15,u16,Ju,Jt,Ak,rfl,hv,mH,nT⟩:=hinv;clear rh;by_cases hlt:v<n
 ·have kv:=uD.o wr v mH.o.2.2 hlt;have hs:=WI.o v;have HMv:=hid (fun k hk=>Mc.o v k hlt hk);have HWv:=hid (fun u=>HWI.o u v hlt);have WO:=hid (fun V g k u=>Gb.o V g v k u);have VU:=hid (fun V g k=>kS.o V g v k);have Wd:=hid (fun k=>eQ.o v k);have TZ:=HZ.o v;have Ux:=HA.o v;generalize U.getD v []=bv at *;have cZ:w.heap.size+1<wr.heap.size:=mH.o.2.1.lt;gi_wp2
  obtain⟨W3,hW3⟩:∃W3,W3=wr.alloc (.cells #[.int .i64 (v:Nat)] 3):=⟨_,rfl⟩;have b4:Boxed W3 wr.heap.size 3 (.int .i64 (v:Nat)):=by rw[hW3];exact a7 wr _ _
  have hb3:Below wr.heap.size wr W3:=by rw[hW3];exact(au _ wr).alloc (ar _) _
  have hs3:W3.heap.size=wr.heap.size+1:=by rw[hW3];simp
  rw[<- hW3];clear hW3 kv;have hL3:=mH.o.aa hb3;have KL:=(nT.o.aa hb3).ae (show wr.heap.size<=W3.heap.size by omega);have xP:=hid (nT.o);clear mH nT xP;rw[<- TZ] at hL3
  refine Ei (by omega) bv hs rfl rfl
   (fun k V=>rQ w n n ((lJ U n v k).map aA) V/\Boxed V wr.heap.size 3 (.int .i64 (v:Nat))/\(W3.heap.size<=V.heap.size/\Shut (w.heap.size+2) W3.heap.size ds V))
   (eI (rQ.own (fun k:Nat=>(lJ U n v k).map aA) (by omega)) (eI (fG (iC _ _ (fun _=>_)) _) Rv))
   ⟨hL3,b4,ar _,KL⟩
   (fun k=> {tmps:= #[.slice (some ⟨G,0,none⟩) n c,undef,.slice none 0 0,.pointer (some ⟨w.heap.size+1,0,none⟩),.pointer (some ⟨wr.heap.size,0,none⟩),.int .u32 (aA bv:Nat),.int .i64 (k:Nat),.slice (some ⟨G,0,none⟩) n c,.int .i64 (n:Nat),.slice (some ⟨w.heap.size,0,none⟩) n n,.slice (some ⟨G,0,none⟩) n c,.int .i64 (n:Nat),.int .i64 (v:Nat),.bool true,.int .i64 (v:Nat),.pointer (some ⟨G,v,none⟩),.int .u32 (aA bv:Nat),.int .u32 (aA bv:Nat),.func (.func 144) #[.int .u32 (aA bv:Nat)] #[],.int .i64 (k:Nat),undef,undef,undef,undef,undef,undef,undef,undef,undef,Ak,undef],defers:=[]}) ?assign ?body ?skip ?done
  case assign=>
   intro l k W K hK;gi_wp2
   exact hK
  case body=>
   rintro l k V hk hm ⟨h0,h4,wM,p8⟩;have hkn:=HMv.o k hm;have k1:=h0.2.1.cell;have k4:=h4.cell;obtain⟨kU,fU⟩:=WO.o V w.heap.size k k hkn (by omega) h0.1;have sS:=hid (HWv.o k);have LM:=hid (fun W hW=>VU.o W w.heap.size k hm hW);generalize aA (v::nL U k v)=m1 at *;generalize aA (nL U k v)=m0 at *;generalize aA bv=mv at *;gi_wp2_with fail
   refine uL (fun u=>u.cell? ⟨w.heap.size+1,0,none⟩=some (.slice (some ⟨w.heap.size,0,none⟩) n n)/\u.cell? ⟨wr.heap.size,0,none⟩=some (.int .i64 (v:Nat))) (by kernel_rfl) (by kernel_rfl) (fun ⟨_,_,h⟩=>h) ⟨k1,k4⟩ ?_;intro aq;have hD:KeepsOthers V V.drew:=wk V;have q0:rQ w n n ((lJ U n v k).map aA) V.drew:=⟨h0.1,h0.2.1,h0.2.2.drew⟩;have q4:Boxed V.drew wr.heap.size 3 (.int .i64 (v:Nat)):=h4;have qS:Shut (w.heap.size+2) W3.heap.size ds V.drew:=p8.keep fun _ _=>rfl;have qz:W3.heap.size<=V.drew.heap.size:=wM;have Zk:V.drew.cell? ⟨w.heap.size,k,none⟩=some (.int .u32 (m0:Nat)):=kU;have fU2:V.drew.frozen? ⟨w.heap.size,k,none⟩=false:=fU;clear k1 k4 kU fU h0 h4 p8 wM b4 hb3 hL3 KL;generalize V.drew=U0 at *;refine aw 0 (.slice (some ⟨w.heap.size,0,none⟩) n n) ?_;refine aw 1 (.int .i64 (k:Nat)) ?_;refine aw 2 (.slice (some ⟨w.heap.size,0,none⟩) n n) ?_;refine aw 3 (.int .i64 (k:Nat)) ?_;refine aw 4 (.pointer (some ⟨w.heap.size,k,none⟩)) ?_;refine aw 6 (.int .i64 (v:Nat)) ?_;refine aF [5] (cA ?_ aD);intro K' hK';go_simp;refine hK'.o _ _ aq (fun ak=>?_);clear hK' K' ak;refine aF [7] (cA ?_ aD);intro K' hK';go_simp;refine(sS.o _).ae ?_;rintro e U1 ⟨rfl,fO⟩;subst fO;refine hK'.o _ _ aq (fun ak=>?_);clear hK' K' ak;generalize U1=U0 at *;refine aw 8 (.pointer (some ⟨w.heap.size,k,none⟩)) ?_;refine aF [9] (cA ?_ aD);intro K' hK';go_simp;refine hK'.o _ _ ⟨(jE q0.2.1 w.heap.size k _ (by omega)).cell,(jE q4 w.heap.size k _ (by omega)).cell⟩ (fun _=>dW (by kernel_rfl) ?_ _);clear hK' K' aq;gi_wp2
   exact⟨(hD.trans (iG U0 _ _)).from _,⟨LM.o U0 q0.1,jE q0.2.1 w.heap.size k _ (by omega),q0.2.2.setCell (p:=⟨w.heap.size,k,none⟩) (ar _) _⟩,jE q4 w.heap.size k _ (by omega),by simpa using qz,qS.putAt (by omega) _⟩
  case skip=>
   rintro k V hk hm h;rw[Wd.o k hm];exact h
  case done=>
   rintro D V hD ⟨h0,h4,wM,p8⟩ hK;rw[Ux] at h0;have A6:D<V.heap.size:=(eL.1 hK).1;have FH:Hid (Shut (w.heap.size+2) V.heap.size ({target:=.collected D,args:= #[]}::ds) V):=⟨D,by omega,A6,rfl,hK,p8.ae hD⟩;have FX:=hid h0;clear h0 h4 p8 hK;gi_wp2
   refine⟨⟨v+1,_,_,_,_,_,_,_,_,_,_,rfl,by omega,FX,FH⟩,?_⟩;simp[intOf];omega
 ·obtain rfl:v=n:=by omega
  have kc:=mH.o.2.1.cell;gi_wp2
  refine Ez (lo:=w.heap.size+2) (K:=rQ w v v ((lK U v v).map aA)) (rQ.shut (by omega)) (fun Z hZ=>⟨_,zO rfl _ _ _,rfl,hZ.1,hZ.2.2⟩) _ wr.heap.size wr nT.o mH.o
end
theorem qg (h:gB L=true):1<=L.length/\L.length<=8/\ug L L.length=true/\Az L=true:=by
 rw[gB,ia,ia,ei] at h;exact⟨h.1.1.1,h.1.1.2,h.1.2,h.2⟩
theorem ako (h:gB L=true):∀p∈aI L,∀u∈p,u<8:=by
 obtain⟨h1,h2,h3,h4⟩:=qg h;intro p hp;obtain⟨l,hl,rfl⟩:=aaQ.1 hp;exact Y1 h2 (eJ.1 h3 l hl)
theorem UI (a:Option Addr) (ca:Nat) (L:List (List Int)) (w:World) (h:fh w a L) (hl:∀l∈L,l.length<=140737488355328):
  Calls Tryz.prog 72 #[.slice a L.length ca] w fun e w'=>Below w.heap.size w w'/\
   ((bE L=0/\∃G,e=.returned (.tuple #[.slice (some ⟨G,0,none⟩) L.length L.length,.int .i64 0])/\w.heap.size<=G/\cI w' G (jO L))∨(bE L≠0/\e=.returned (.tuple #[.slice none 0 0,.int .i64 (bE L)]))):=by
 have HF:=hid h;have HR:=hid (fun (V:World) (hV:fh V a L)=>Y4 a ca L V hV hl);have DK:Hid (gB L=false ->bE L=11):=fun h=>aaO (by rw[h];decide);have j8:Hid (gB L=true ->(aY (aI L) L.length).length<L.length ->bE L=10):=fun h1 h2=>by rw[bE,aaf h1,aaf h2]
 have ri:Hid (gB L=true ->¬(aY (aI L) L.length).length<L.length ->bE L=0):=fun h1 h2=>by rw[bE,aaf h1,aaO h2]
 have HO:Hid (gB L=true ->∀(G c:Nat) (V:World),cI V G (jO L) ->Calls Tryz.prog 124 #[.slice (some ⟨G,0,none⟩) L.length c] V fun e w'=>∃x,e=.returned x/\cX w' V.heap.size x (iL (aY (aI L) L.length))/\Below V.heap.size V w'):=fun hg G c V hV=>by
  have h8:=(qg hg).2.1;have:=ahh G c (aI L) V (by rw[<- Hf];exact hV) (by rw[lp];exact h8) (ako hg);rwa [lp] at this
 generalize bE L=ge at *;generalize jO L=ms at *;clear h hl;go_enter Tryz.func72,Tryz.ntmps72;go_wp2_with fail
 refine(HR.o _ HF.o).ae ?_;rintro e w1 ⟨hb,⟨hg,G,rfl,hG,hU⟩ |⟨hg,v,rfl⟩⟩
 ·have oU:=hid hU;have HOG:=hid (HO.o hg G L.length);have HB:=hid hb;have F5:=hid hg;clear hU hb hg HO HR;go_wp2_with fail
  refine(HOG.o _ oU.o).ae ?_;rintro e w2 ⟨x,rfl,hx,hb2⟩;obtain⟨d,cd,rfl,_⟩:=hx.ints;have bc:=hid (HB.o.trans (hb2.ae HB.o.size));have LH:=hid (oU.o.aa hb2 oU.o.lt);have pJ:Hid ((iL (aY (aI L) L.length)).length=(aY (aI L) L.length).length):=ba _;clear hx hb2;by_cases hlt:(aY (aI L) L.length).length<L.length
  ·have HE:=hid (j8.o F5.o hlt);(have tR:(iL (aY (aI L) L.length)).length<L.length:=by rw[pJ.o];exact hlt);clear hlt;generalize (iL (aY (aI L) L.length)).length=m at *;go_wp2;go_ret2;exact⟨bc.o,.inr ⟨by rw[HE.o];decide,by rw[HE.o];rfl⟩⟩
  ·have HE:=hid (ri.o F5.o hlt);(have tR:¬(iL (aY (aI L) L.length)).length<L.length:=by rw[pJ.o];exact hlt);clear hlt;generalize (iL (aY (aI L) L.length)).length=m at *;go_wp2;go_ret2;exact⟨bc.o,.inl ⟨HE.o,G,rfl,hG,LH.o⟩⟩
 ·have HE:=hid (DK.o hg);have HB:=hid hb;clear hg hb;go_wp2;go_ret2;exact⟨HB.o,.inr ⟨by rw[HE.o];decide,by rw[HE.o];rfl⟩⟩
theorem akl (a:Option Addr) (ca:Nat) (L:List (List Int)) (w:World) (h:fh w a L) (hl:∀l∈L,l.length<=140737488355328):
  Calls Tryz.prog 130 #[.slice a L.length ca] w fun e w'=>e=.returned (.int .i64 (bE L))/\Below w.heap.size w w':=by
 have HF:=hid h;have HR:=hid (fun (V:World) (hV:fh V a L)=>UI a ca L V hV hl);generalize bE L=ge at *;clear h hl;go_enter Tryz.func130,Tryz.ntmps130;go_wp2_with fail
 refine(HR.o _ HF.o).ae ?_;rintro e w1 ⟨hb,⟨rfl,G,rfl,hG,hU⟩ |⟨hg,rfl⟩⟩
 ·clear hU;go_wp2;go_ret;exact⟨rfl,hb⟩
 ·clear hg;go_wp2;go_ret;exact⟨rfl,hb⟩
theorem alv {l1 l2:List Nat} (h1:i<l1.length) (h2:i<l2.length) (h:l1[i]≠l2[i]):decide (l1=l2)=false:=abg fun e=>h (by subst e;rfl)
theorem alw {l1 l2:List Nat} (hl:l1.length=l2.length) (h:∀i (h1:i<l1.length) (h2:i<l2.length),l1[i]=l2[i]):decide (l1=l2)=true:=cJ (pS hl h)
theorem afm (G1 G2 n c1 c2:Nat) (l1 l2:List Nat) (w:World) (e1:l1.length=n) (e2:l2.length=n) (hn:n<=5000) (h1:cI w G1 l1) (h2:cI w G2 l2):
  Calls Tryz.prog 194 #[.slice (some ⟨G1,0,none⟩) n c1,.slice (some ⟨G2,0,none⟩) n c2] w fun e w'=>e=.returned (.bool (decide (l1=l2)))/\Below w.heap.size w w':=by
 have H1:=hid h1;have H2:=hid h2;have HN:=hid (fun i (a:i<l1.length) (b:i<l2.length) h=>alv a b h);have HE:=hid (fun h=>alw (l1:=l1) (l2:=l2) (by omega) h);generalize decide (l1=l2)=r at *;clear h1 h2;go_enter Tryz.func194,Tryz.ntmps194;go_wp2_with fail
 go_loopw [13] (fun iv wr=>∃i:Nat,i<=n/\iv=.int .i64 i/\Hid (∀j (a:j<l1.length) (b:j<l2.length),j< i ->l1[j]=l2[j])/\Hid (Below w.heap.size w wr)) (fun iv _=>n - (intOf iv).toNat)
 case atStart=>exact⟨0,aU _,rfl,fun j _ _ h=>absurd h (by omega),au _ _⟩
 case round=>
  obtain⟨i,hi,rfl,HI,HB⟩:=hrel;by_cases hlt:i<n
  ·have a1:=(H1.o.aa HB.o H1.o.lt).cell i (by omega);have a2:=(H2.o.aa HB.o H2.o.lt).cell i (by omega);have j7:=hid (HN.o i (by omega) (by omega))
   have HS:Hid (l1[i]'(by omega)=l2[i]'(by omega) ->∀j (a:j<l1.length) (b:j<l2.length),j<i+1 ->l1[j]=l2[j]):=fun h j a b hj=>by
    rcases cD j i with h3 |h3
    ·exact HI.o j a b h3
    ·obtain rfl:j=i:=by omega
     exact h
   generalize l1[i]'(by omega)=x at *;generalize l2[i]'(by omega)=y at *;go_upto_region 6 with fail
   go_quiet (fail)
   have Xi:=hid (below_drewN HB.o nq);clear a1 a2;generalize wr.drewN nq=w2 at *;by_cases wG:x=y
   ·have iR:=hid (HS.o wG);subst wG;go_wp2;go_roundw
    case rel=>exact⟨i+1,by omega,by go_num,iR,Xi⟩
    case measure=>simp[intOf];omega
   ·have HR:=hid (j7.o wG)
    have hb:((x:Int) !=(y:Int))=true:=by
     (have:¬(x:Int)=(y:Int):=by omega);simpa using this
    clear wG;go_wp2;go_ret;exact⟨by rw[HR.o];rfl,Xi.o⟩
  ·obtain rfl:i=n:=by omega
   have HR:=hid (HE.o fun j a b=>HI.o j a b (by omega));go_wp2;go_ret;exact⟨by rw[HR.o];rfl,HB.o⟩
def tG (L:List (List Int)):Bool:=gB L&&decide (jO L=(lK (aI L) L.length L.length).map aA)
theorem JP (h:gB L=true):∀p∈aI L,∀u∈p,u<L.length:=by
 obtain⟨_,_,hr,_⟩:=qg h;intro p hp u hu;obtain⟨l,hl,rfl⟩:=aaQ.1 hp;obtain⟨x,hx,rfl⟩:=aaQ.1 hu;obtain⟨i,hi,rfl⟩:=iE hl;have h2:=Al (PA hr hi);obtain⟨j,hj,rfl⟩:=iE hx;have:=h2.each j hj;omega
theorem Hc (h:gB L=true):sP L.length (aI L):=by
 refine⟨lp L,JP h,fun u hu=>?_⟩;obtain⟨_,_,_,hs⟩:=qg h;by_cases hl:u<L.length
 ·rw[NB hl] at hu;rw[Sv hl hu] at hs;cases hs
 ·rw[b7,iF (by rw[lp];omega)] at hu;simp at hu
theorem afH (a:Option Addr) (ca:Nat) (L:List (List Int)) (w:World) (h:fh w a L) (hl:∀l∈L,l.length<=140737488355328):
  Calls Tryz.prog 147 #[.slice a L.length ca] w fun e w'=>Below w.heap.size w w'/\
   ((tG L=true/\∃G,e=.returned (.tuple #[.slice (some ⟨G,0,none⟩) L.length L.length,.bool true])/\w.heap.size<=G/\cI w' G (jO L))∨(tG L=false/\e=.returned (.tuple #[.slice none 0 0,.bool false]))):=by
 have Kb:=hid (Y4 a ca L w h hl);have oX:Hid (tG L=(gB L&&decide (jO L=(lK (aI L) L.length L.length).map aA))):=rfl
 have Mw:Hid (gB L=true ->∀(G:Nat) (U:World),cI U G (jO L) ->Calls Tryz.prog 126 #[.slice (some ⟨G,0,none⟩) L.length L.length] U fun e w'=>e=.returned (.slice (some ⟨U.heap.size,0,none⟩) L.length L.length)/\cI w' U.heap.size ((lK (aI L) L.length L.length).map aA)/\Below U.heap.size U w'):=fun hg G U hU=>by
  rw[Hf] at hU;exact alS G L.length L.length (aI L) U (lp L) (qg hg).2.1 hU (JP hg)
 have F8:Hid (gB L=true ->∀(G1 G2:Nat) (U:World),cI U G1 (jO L) ->cI U G2 ((lK (aI L) L.length L.length).map aA) ->Calls Tryz.prog 194 #[.slice (some ⟨G1,0,none⟩) L.length L.length,.slice (some ⟨G2,0,none⟩) L.length L.length] U fun e w'=>e=.returned (.bool (decide (jO L=(lK (aI L) L.length L.length).map aA)))/\Below U.heap.size U w'):=fun hg G1 G2 U h1 h2=>afm G1 G2 L.length L.length L.length _ _ U (aaw L) (by rw[c5,acF]) (by have:=(qg hg).2.1;omega) h1 h2;generalize tG L=nb at *;generalize decide (jO L=(lK (aI L) L.length L.length).map aA)=dq at *;generalize (lK (aI L) L.length L.length).map aA=cm at *;clear h hl;go_enter Tryz.func147,Tryz.ntmps147;go_wp2_with fail
 refine Kb.o.ae ?_;rintro e w1 ⟨hb,⟨hg,G,rfl,hG,hU⟩ |⟨hg,v,rfl⟩⟩
 ·have HC:=hid (Mw.o hg G);have HE:=hid (F8.o hg G);rw[hg] at oX;have HU:=hid hU;have HB:=hid hb;clear hU hb Mw F8;go_wp2_with fail
  refine(HC.o _ HU.o).ae ?_;rintro e w2 ⟨rfl,hr2,hb2⟩;have LH:=hid (HU.o.aa hb2 HU.o.lt);have iT:=hid hr2;have bc:=hid (HB.o.trans (hb2.ae HB.o.size));clear hr2 hb2 HC;go_wp2_with fail
  refine(HE.o _ _ LH.o iT.o).ae ?_;rintro e w3 ⟨rfl,hb3⟩;have BG:=hid (LH.o.aa hb3 LH.o.lt);have dU:=hid (bc.o.trans (hb3.ae bc.o.size));clear hb3 HE;cases dq
  ·go_wp2;go_ret2;exact⟨dU.o,.inr ⟨oX.o,rfl⟩⟩
  ·go_wp2;go_ret2;exact⟨dU.o,.inl ⟨oX.o,G,rfl,hG,BG.o⟩⟩
 ·rw[hg] at oX;have HB:=hid hb;clear hb Mw F8 hg;go_wp2;go_ret2;exact⟨HB.o,.inr ⟨oX.o,rfl⟩⟩
theorem xJ.cells {B:Nat} {v:Value} {l:List Nat} (h:xJ w B v l):∃d cd,v=.slice d l.length cd/\∀k (hk:k<l.length),∃g o,d=some ⟨g,o,none⟩/\g<w.heap.size/\w.cell? ⟨g,o+k,none⟩=some (.int .u32 (l[k]:Nat)):=by
 rcases h.2 with ⟨h1,h2⟩ |⟨g,cap,cur,h1,h2,h3,h4,h5,h6,h7⟩
 ·have:l=[]:=Ee.1 h2;subst this;exact⟨none,0,h1,fun k hk=>absurd hk (by simp)⟩
 ·refine⟨_,_,h1,fun j hj=>⟨g,0,rfl,(eL.1 h3).1,?_⟩⟩;rw[bT,cC w g j _ _ (0,0) h3]
  have e:cur[j]? =(cur.toList.take (l.length*1))[j]?:=by
   rw[rV,aaf (by omega),wm]
  rw[e,h7,oh,af hj];rfl
def FlR (L:List (List Int)) (e:Ending) (w':World):Prop:=
 (tG L=true/\∃d cd G,e=.returned (.tuple #[.slice d L.length cd,.slice (some ⟨G,0,none⟩) L.length L.length,.int .i64 0])/\aaK w' d (iL (flS (aI L) L.length L.length).ord)/\fh w' (some ⟨G,0,none⟩) ((flS (aI L) L.length L.length).bag.map gN))∨
 (tG L=false/\e=.returned (.tuple #[.slice none 0 0,.slice none 0 0,.int .i64 11]))
theorem akk (a:Option Addr) (ca:Nat) (L:List (List Int)) (w:World) (h:fh w a L) (hl:∀l∈L,l.length<=140737488355328):
  Calls Tryz.prog 94 #[.slice a L.length ca] w fun e w'=>FlR L e w'/\Below w.heap.size w w':=by
 have P6:=hid (afH a ca L w h hl)
 have HFI:Hid (tG L=true ->∀(G:Nat) (U:World),cI U G (jO L) ->Calls Tryz.prog 148 #[.slice (some ⟨G,0,none⟩) L.length L.length] U fun e w'=>∃nv bv,e=.returned (.tuple #[nv,bv])/\nY U w' G nv bv (iL (flS (aI L) L.length L.length).ord) ((flS (aI L) L.length L.length).bag.map aA) ((flS (aI L) L.length L.length).nei.map aA)):=fun hn G U hU=>by
  have hg:gB L=true:=by
   rw[tG,ia] at hn;exact hn.1
  rw[Hf] at hU;exact akf G L.length L.length (aI L) U (qg hg).1 (qg hg).2.1 hU (Hc hg)
 have zE:Hid (tG L=true ->(flS (aI L) L.length L.length).ord.length=L.length/\(flS (aI L) L.length L.length).bag.length=L.length/\L.length<=8/\∀p∈(flS (aI L) L.length L.length).bag,∀u∈p,u<8):=fun hn=>by
  have hg:gB L=true:=by
   rw[tG,ia] at hn;exact hn.1
  have h8:=(qg hg).2.1;have h1:=(qg hg).1;have hk:=fun k=>O6 (Hc hg) k;refine⟨(hk L.length).2.2.1,(hk L.length).2.2.2,h8,?_⟩
  have key:∀k,∀p∈(flS (aI L) L.length k).bag,∀u∈p,u<8:=fun k=>by
   induction k with
   |zero=>intro p hp;simp[flS] at hp
   |succ k ih=>
    intro p hp u hu;rw[flS] at hp;rcases aa5.1 hp with hp |hp
    ·exact ih p hp u hu
    ·rw[fX.1 hp] at hu;rcases dK.1 hu with rfl |hu
     ·have:=ab9 (P:=(flS (aI L) L.length k).nei) h1 (hk k).2.1;omega
     ·have:=(hk k).1.at _ u hu;omega
  exact key _
 clear h hl;go_enter Tryz.func94,Tryz.ntmps94;go_wp2_with fail
 refine P6.o.ae ?_;rintro e w1 ⟨hb,⟨hn,G,rfl,hG,hU⟩ |⟨hn,rfl⟩⟩
 ·have HF:=hid (HFI.o hn G _ hU);obtain⟨ho,hbl,h8,jS⟩:=zE.o hn;have HN:=hid hn;have HB:=hid hb;have IX:=hid jS;clear hU hb HFI zE hn jS;generalize hS:flS (aI L) L.length L.length=S at *;have vB:=hid hS;clear hS;go_wp2_with fail
  refine HF.o.ae ?_;rintro e w2 ⟨nv,bv,rfl,hX⟩;obtain⟨d,cd,rfl,hI⟩:=hX.nd.ints;obtain⟨d2,sM,rfl,hC⟩:=hX.bg.cells;have bc:Hid (Below w.heap.size w w2):=⟨hX.grow.os.trans HB.o.os,hX.grow.tape.trans HB.o.tape,hX.grow.output.trans HB.o.output,aS HB.o.size hX.grow.size,fun k hk=>(hX.grow.block k (aR hk HB.o.size) (fun e=>by have:=lV e;omega)).trans (HB.o.block k hk)⟩;have e1:(iL S.ord).length=L.length:=by rw[ba];exact ho
  have e2:(S.bag.map aA).length=L.length:=by rw[c5];exact hbl
  rw[e1,e2]
  have xW:=hid (aaD d2 sM S.bag w2 IX.o (by omega) (fun k hk=>by
   obtain⟨g,o,h1,h2,h3⟩:=hC k (by rw[c5];exact hk);exact⟨g,o,h1,h2,by rw[h3,acj]⟩))
  rw[hbl] at xW;have HI:=hid hI;clear hX hI hC e1 e2;go_wp2_with fail
  refine xW.o.ae ?_;rintro e w3 ⟨G3,rfl,OO,hL3,hb3⟩;have Qk:=hid (HI.o.aa hb3);have Me:=hid hL3;have dU:=hid (bc.o.trans (hb3.ae bc.o.size));clear hb3 hL3;go_wp2;refine bB (results_tmp3 rfl _ _ _) rfl ?_;exact⟨.inl ⟨HN.o,d,cd,G3,rfl,by rw[vB.o];exact Qk.o,by rw[vB.o];exact Me.o⟩,dU.o⟩
 ·have HN:=hid hn;have HB:=hid hb;clear hn hb;go_wp2;refine bB (results_tmp3 rfl _ _ _) rfl ?_;exact⟨.inr ⟨HN.o,rfl⟩,HB.o⟩
def Dn (t:TypeId) (w w':World):Prop:=∀(k:Nat) (c:Array Value) (fr:Nat×Nat),w.heap[k]? =some (Obj.cells c t fr) ->w'.heap[k]? =some (Obj.cells c t fr)
theorem Dn.aa {t:TypeId} (hb:Below w.heap.size w w'):Dn t w w':=fun k _ _ h=>(hb.block k (eL.1 h).1).trans h
theorem JR {B:Nat} {e:TypeId} {s:Nat} {v:Value} (h:w.ownsRow B e s v n xs) (hk:Dn e w w'):w'.ownsRow B e s v n xs:=by
 refine⟨h.1,?_⟩;rcases h.2 with h1 |⟨g,cap,cur,h1,h2,h3,h4⟩
 ·exact .inl h1
 ·exact .inr ⟨g,cap,cur,h1,h2,hk _ _ _ h3,h4⟩
theorem aqS {B:Nat} {e:TypeId} {s:Nat} {v:Value} (h:w.ownsRow B e s v n xs):∀g,v.ownBlock=some g ->B<=g:=fun g hg=>by
 rcases h.2 with ⟨h1, -⟩ |⟨g',cap,cur,h1,h2,h3,h4⟩
 ·rw[h1] at hg;cases hg
 ·rw[h1] at hg;cases hg;exact h2
theorem abU (h1:1<=L.length) (h2:L.length<=8) (h:∀i (hi:i<L.length),dD L[i] L.length=true/\¬i∈ag L[i]):gB L=true:=by
 rw[gB,cJ (p:=1<=L.length/\L.length<=8) ⟨h1,h2⟩,aah fun i hi=>(h i hi).2]
 have:ug L L.length=true:=eJ.2 fun l hl=>by
  obtain⟨i,hi,rfl⟩:=iE hl;exact(h i hi).1
 rw[this];rfl
theorem adN {o:Oper} {a:Act} (hgd:o.guard=none) (s x:Operand)
  (ho:o.op=.call {callee:=.builtin .append,args:= #[s,x],argTypes:= #[27,27]}) (base:Nat) (v:Value) (l:List Int) (f:Int) (hs:a.eval s=v) (hown:cX w base v l) (g:Nat) (hx:a.eval x=.slice (some ⟨g,0,none⟩) 1 1) (hg:w.cell? ⟨g,0,none⟩=some (.int .i64 f)) (hlen:l.length+1<=100000) (hbase:base<=w.heap.size)
  (h:∀v' w',cX w' base v' (l++[f]) ->w.grownBy w' v.ownBlock ->(v'.ownBlock=v.ownBlock∨∀k,v'.ownBlock=some k ->w.heap.size<=k) ->wpList Tryz.prog ops Q rest (a.put o.dst v') w'):wpList Tryz.prog ops Q (o::rest) a w:=by
 obtain⟨i0,cU,hz0,hz1,hz2⟩:=eT Tryz.infoInt
 have hnews:∀j u,[Value.int .i64 f][j]? =some u ->w.cell? ((⟨g,0,none⟩:Addr).add j)=some u:=fun j u hj=>by
  match j,hj with
  |0,hj=>cases hj;exact hg
  |j+1,hj=>simp at hj
 have yQ:∀u∈[Value.int .i64 f],u.oneCell'=true:=fun u hu=>by
  simp only[dK,qG,acA] at hu;subst hu;rfl
 have hmax:l.length+1<=maxLen:=by unfold maxLen;omega
 obtain⟨v',w',hr,h2,h3, -⟩:=run_append_own (P:=Tryz.prog) w base 27 o.type 3 i0 (.int .i64 0) 1 8 Tryz.underlying27 cU hz0 hz1 hz2 rfl (by decide) v l.length _ hown ⟨g,0,none⟩ 1 1 [.int .i64 f] rfl hnews yQ hmax (by omega) hbase
 have hnew:v'.ownBlock=v.ownBlock∨∀k,v'.ownBlock=some k ->w.heap.size<=k:=by
  rcases hown.2 with ⟨h4,h5⟩ |⟨g',cap,cur,h4,hbg,iK,CL,hcm,hcs,aaT⟩
  ·right
   have e:=run_append_nil (P:=Tryz.prog) w 27 o.type 3 i0 (.int .i64 0) Tryz.underlying27 cU hz0 ⟨g,0,none⟩ 1 1 [.int .i64 f] (by rw[hz1];rfl) hnews (by decide) (by decide) (by rw[hz2];decide);rw[h4] at hr;rw[hr] at e;cases e;intro k hk;cases hk;exact ar _
  ·rw[h4] at hr;by_cases hroom:l.length+1<=cap
   ·left
    have e:=run_append_room (P:=Tryz.prog) w 27 o.type 3 i0 Tryz.underlying27 cU g' l.length cap cur iK ⟨g,0,none⟩ 1 1 [.int .i64 f] (by rw[hz1];rfl) hnews yQ hroom (by rw[hz1,hcs];simp;omega);rw[hr] at e;cases e;rw[h4];rfl
   ·right
    have hown':=hown;rw[h4] at hown';have e:=run_append_grow (P:=Tryz.prog) w 27 o.type 3 i0 (.int .i64 0) Tryz.underlying27 cU hz0 ⟨g',0,none⟩ l.length cap (l.map (Value.int .i64)) (by rw[hz1];simp) (World.ownsRow.cells hown' rfl) ⟨g,0,none⟩ 1 1 [.int .i64 f] (by rw[hz1];rfl) hnews (by omega) (by omega) (ME (by omega) (by rw[hz2];omega));rw[hr] at e;cases e;intro k hk;cases hk;exact ar _
 refine wpList_plain hgd fun _ hK=>?_;unfold Oper.wp execOp;simp only[ho,resolve,invoke,builtin,I8,DZ,zR,Je,gQ,ld,hs,hx,hr];refine hK _ _ (h v' w' ?_ h3 hnew);rw[cX,dM,fY];exact h2
section
attribute [local go_sem] Oper.semAt_some
theorem YT {P:Program} (w:World) (base:Nat) (t ty e:TypeId) (i:TypeInfo) (z:Value) (size bytes:Nat) (ht:P.underlying t=some (.slice e)) (hi:P.info? e=some i) (hz:i.zero=some z) (hsize:i.size=size) (hby:i.bytes=bytes) (hzs:z.cells.size=size) (hsz:0<size)
  (v:Value) (n:Nat) (xs:List Value) (hown:w.ownsRow base e size v n xs) (a:Addr) (m c:Nat) (news:List Value) (hl:news.length=m*size) (hnews:∀j u,news[j]? =some u ->w.cell? (a.add j)=some u) (h1:∀u∈news,u.oneCell'=true)
  (h63:n+m<=maxLen) (hbytes:(n+m)*bytes<=140737488355328) (hbase:base<=w.heap.size) (hm:0<m):
  ∃v' w',(Builtin.append_ #[t,t] ty #[v,.slice (some a) m c]).run P w=.ok v' w'/\w'.ownsRow base e size v' (n+m) (xs++news)/\w.grownBy w' v.ownBlock/\(v'.ownBlock=v.ownBlock∨∀k,v'.ownBlock=some k ->w.heap.size<=k):=by
 obtain⟨v',w',hr,h2,h3, -⟩:=run_append_own (P:=P) w base t ty e i z size bytes ht hi hz hsize hby hzs hsz v n xs hown a m c news hl hnews h1 h63 hbytes hbase;refine⟨v',w',hr,h2,h3,?_⟩;have an3:n+m<=9223372036854775807:=by simp only[maxLen] at h63;omega
 subst hsize;subst hby
 rcases hown.2 with ⟨h4,h5⟩ |⟨g',cap,cur,h4,hbg,iK,CL,hcm,hcs,aaT⟩
 ·right
  have e':=run_append_nil (P:=P) w t ty e i z ht hi hz a m c news hl hnews hm (by omega) (by
   have hb:=hbytes;rw[h5,bT] at hb;omega)
  rw[h4] at hr;rw[hr] at e';cases e';intro k hk;cases hk;exact ar _
 ·rw[h4] at hr;by_cases hroom:n+m<=cap
  ·left
   (have oJ:n*i.size+news.length<=cur.size:=by rw[hl,hcs, <- fW];exact jK _ hroom);have e':=run_append_room (P:=P) w t ty e i ht hi g' n cap cur iK a m c news hl hnews h1 hroom oJ;rw[hr] at e';cases e';rw[h4];rfl
  ·right
   have hown':=hown;rw[h4] at hown';have e':=run_append_grow (P:=P) w t ty e i z ht hi hz ⟨g',0,none⟩ n cap xs hown'.1 (World.ownsRow.cells hown' rfl) a m c news hl hnews (by omega) (by omega) (ME (by omega) hbytes);rw[hr] at e';cases e';intro k hk;cases hk;exact ar _
theorem ar2 {F:Fence} {P:Program} (w:World) {o:Oper} {a:Act}
  (hg:o.guard=none) (s x:Operand) (t:TypeId) (hop:o.op=Op.call {callee:=Callee.builtin Builtin.append,args:= #[s,x],argTypes:= #[t,t]})
  (base:Nat) (e:TypeId) (i:TypeInfo) (z:Value) (size bytes:Nat) (h1:P.underlying t=some (.slice e)) (h2:P.info? e=some i) (h3:i.zero=some z) (h4:i.size=size) (h5:i.bytes=bytes) (h6:z.cells.size=size) (h7:0<size)
  (v:Value) (k:Nat) (xs:List Value) (hs:a.eval s=v) (hown:w.ownsRow base e size v k xs) (ad:Addr) (m c:Nat) (news:List Value) (hx:a.eval x=.slice (some ad) m c) (hn:news.length=m*size)
  (hc:∀j u,news[j]? =some u ->w.cell? (ad.add j)=some u) (h1c:∀u∈news,u.oneCell'=true) (b1:k+m<=maxLen) (b2:(k+m)*bytes<=140737488355328) (b3:base<=w.heap.size) (hm:0<m)
  (hK:∀v' w',w'.ownsRow base e size v' (k+m) (xs++news) ->w.grownBy w' v.ownBlock ->(v'.ownBlock=v.ownBlock∨∀k,v'.ownBlock=some k ->w.heap.size<=k) ->wpListIn F n P ops Q rest (a.put o.dst v') w'):
  wpListIn F n P ops Q (o::rest) a w:=by
 refine wpListIn_plain hg fun K hK'=>?_;obtain⟨v',w',hrun,r1,r2,r3⟩:=YT (P:=P) w base t o.type e i z size bytes h1 h2 h3 h4 h5 h6 h7 v k xs hown ad m c news hn hc h1c b1 b2 b3 hm;unfold Oper.wpIn;refine⟨?_,?_⟩
 ·simp[Oper.about,hop,resolve,Target.leads,DZ]
 ·rw[Oper.semAt_plain F _ _ (by rw[hop];intro c hc';cases hc')];simp[execOp,hop,resolve,invoke,builtin,hs,hx,hrun,Result.andThen];exact hK' _ _ (hK v' w' r1 r2 r3)
def D9:List (Nat×Bool) ->List Value
 |[]=>[]
 |p::l=>.int .i64 (p.1:Nat)::.bool p.2::D9 l
theorem aqi:∀l,(D9 l).length=l.length*2
 |[]=>rfl
 |p::l=>by
  show (D9 l).length+1+1=(l.length+1)*2;rw[aqi l];omega
theorem aqj (m:List (Nat×Bool)):∀l,D9 (l++m)=D9 l++D9 m
 |[]=>rfl
 |q::l=>by
  show _::_::D9 (l++m)=_::_::(D9 l++D9 m);rw[aqj m l]
def NL (w:World) (B:Nat) (v:Value) (l:List (Nat×Bool)):Prop:=w.ownsRow B 168 2 v l.length (D9 l)
theorem Tryz.infoComing:(Tryz.prog.info? 168).map (fun i=>(i.zero,i.size,i.bytes))=some (some (.agg #[.int .i64 0,.bool false]),2,16):=by kernel_rfl
def tu (w V:World) (lv v:Value):Prop:=w.grownBy V lv.ownBlock/\(v.ownBlock=lv.ownBlock∨∀g,v.ownBlock=some g ->w.heap.size<=g)
theorem asm {β:Type} {row:Option Nat} {B:Nat} (hB:w.heap.size<=B):OwnFrom B (fun (_:β) W=>w.grownBy W row):=fun _ W W' r hs hg hr=>⟨hg.os.trans hs.os,hg.tape.trans hs.tape,hg.output.trans hs.output,aS hs.size hg.size,fun k hk hne=>(hg.block k (aR hk hs.size) (fun e=>by
 have:=(hr k e.symm).1;omega)).trans (hs.block k hk hne)⟩
theorem ar6 (w:World) (a b:Value) (t:TypeId):∀j u,[a,b][j]? =some u ->(w.alloc (.cells #[a,b] t)).cell? ((⟨w.heap.size,0,none⟩:Addr).add j)=some u:=fun j u hj=>by
 have h:=kd w (.cells #[a,b] t);match j,hj with
 |0,hj=>cases hj;exact(cC _ w.heap.size 0 _ _ (0,0) h).trans rfl
 |1,hj=>cases hj;exact(cC _ w.heap.size 1 _ _ (0,0) h).trans rfl
 |j+2,hj=>simp at hj
theorem tu.more {lv v:Value} {tmp:Obj} (h:tu w V lv v) (hg:(V.alloc tmp).grownBy V' v.ownBlock) (hn:v'.ownBlock=v.ownBlock∨∀k,v'.ownBlock=some k ->(V.alloc tmp).heap.size<=k) (b j:Nat) (hb:w.heap.size<=b) (y:Value):tu w (V'.setCell ⟨b,j,none⟩ y) lv v':=by
 have hs:=h.1.size;have ha:V.heap.size<=(V.alloc tmp).heap.size:=((au V.heap.size V).alloc (ar _) tmp).size;refine⟨⟨hg.os.trans h.1.os,hg.tape.trans h.1.tape,hg.output.trans h.1.output,aS (aS hs ha) (aS hg.size (by simp)),fun k hk hne=>?_⟩,?_⟩
 ·refine(je V' ⟨b,j,none⟩ y k (by show k≠b;omega)).trans ((hg.block k (by omega) fun e=>?_).trans ((((au V.heap.size V).alloc (ar _) tmp).block k (by omega)).trans (h.1.block k hk hne)));rcases h.2 with h2 |h2
  ·exact hne (by rw[e,h2])
  ·have:=h2 k e.symm;omega
 ·rcases hn with hn |hn
  ·rcases h.2 with h2 |h2
   ·exact .inl (hn.trans h2)
   ·exact .inr fun g iK=>h2 g (by rw[<- hn];exact iK)
  ·exact .inr fun g iK=>by
    have:=hn g iK;omega
theorem aqg (B:Nat) (lv:Value) (l:List (Nat×Bool)) (s:List Nat) (c:Bool) (w:World) (hs:∀u∈s,u<8) (hl:NL w B lv l) (dh:l.length<=1000) (hB:B<=w.heap.size):
  Calls Tryz.prog 128 #[lv,.int .u32 (aA s:Nat),.bool c] w fun e w'=>∃v,e=.returned v/\NL w' B v (l++(fM s 8).map fun u=>(u,c))/\tu w w' lv v:=by
 refine(gZ (n:=6)).1 ?_;obtain⟨i0,hi,hz0,hz1,hz2⟩:=eT Tryz.infoComing
 obtain⟨dl,nl,cl,rfl⟩:∃d n c,lv=.slice d n c:=by
  rcases hl.2 with ⟨h1, -⟩ |⟨g,cap,cur,h1, -⟩
  ·exact⟨_,_,_,h1⟩
  ·exact⟨_,_,_,h1⟩
 refine tz Tryz.func128 rfl trivial ?_ rfl;simp only[Tryz.ntmps128,mP,eU,lg,Nat.reduceAdd,Nat.reduceSub,mV,mU,mQ,lZ,iD,fg];have HL:=hid hl;clear hl;gi_wp2_with fail
 have bO:=a7 w 165 (.slice dl nl cl);have bO2:=bO.alloc (.cells #[.bool c] 4);have bC:=a7 (w.alloc (.cells #[.slice dl nl cl] 165)) 4 (.bool c);have Dc:=(au w.heap.size w).alloc (ar _) (.cells #[.slice dl nl cl] 165);have Hk:(w.alloc (.cells #[.slice dl nl cl] 165)).heap.size=w.heap.size+1:=by simp
 have Uz:=Dc.alloc Dc.size (.cells #[.bool c] 4);rw[Hk] at bC;have hg0:w.grownBy ((w.alloc (.cells #[.slice dl nl cl] 165)).alloc (.cells #[.bool c] 4)) (Value.slice dl nl cl).ownBlock:=⟨Uz.os,Uz.tape,Uz.output,Uz.size,fun k hk _=>Uz.block k hk⟩
 refine Ei (by omega) s hs rfl rfl
  (fun k V=>(∃v,Boxed V w.heap.size 165 v/\V.ownsRow B 168 2 v (l++(fM s k).map fun u=>(u,c)).length (D9 (l++(fM s k).map fun u=>(u,c)))/\(v.ownBlock=(Value.slice dl nl cl).ownBlock∨∀g,v.ownBlock=some g ->w.heap.size<=g))/\Boxed V (w.heap.size+1) 4 (.bool c)/\w.grownBy V (Value.slice dl nl cl).ownBlock)
  (eI (fG (holdsRow_own B w.heap.size 165 168 2 (fun k:Nat=>(l++(fM s k).map fun u=>(u,c)).length) (fun k=>D9 (l++(fM s k).map fun u=>(u,c))) (fun _ v=>v.ownBlock=(Value.slice dl nl cl).ownBlock∨∀g,v.ownBlock=some g ->w.heap.size<=g)) _) (eI (fG (iC (w.heap.size+1) 4 (fun _:Nat=>.bool c)) _) (asm Uz.size)))
  ⟨⟨_,bO2,by simpa [fM] using (I7 (I7 HL.o _) _),.inl rfl⟩,bC,hg0⟩
  (fun k=> {tmps:= #[.slice dl nl cl,.int .u32 (aA s:Nat),.bool c,.pointer (some ⟨w.heap.size,0,none⟩),undef,.pointer (some ⟨w.heap.size+1,0,none⟩),.slice none 0 0,.int .i64 (k:Nat),.int .u32 (aA s:Nat),.func (.func 144) #[.int .u32 (aA s:Nat)] #[],.int .i64 (k:Nat),undef,undef,undef,undef,undef,undef,undef],defers:=[]}) ?assign ?body ?skip ?done
 case assign=>
  intro l k W K hK;gi_wp2
  exact hK
 case body=>
  rintro r k V hk hm ⟨⟨v,hv,hrow,Gx⟩,Cl,hgr⟩;have hc:=hv.cell;have hcc:=Cl.cell;have hm8:=SI s k;have hlen:(l++(fM s k).map fun u=>(u,c)).length<=1008:=by rw[dM,c5];omega
  have hBV:B<=V.heap.size:=aS hB hgr.size;have HG:tu w V (Value.slice dl nl cl) v:=⟨hgr,Gx⟩;generalize Ie:(l++(fM s k).map fun u=>(u,c))=LL at *;gi_wp2_with (gi_at_builtin;refine ar2 _ rfl _ _ 165 rfl B 168 i0 (.agg #[.int .i64 0,.bool false]) 2 16 Tryz.underlying165 hi hz0 hz1 hz2 rfl (by decide) _ _ _ rfl (hrow.alloc _) ⟨V.heap.size,0,none⟩ 1 1 [.int .i64 (k:Nat),.bool c] rfl rfl (ar6 _ _ _ _) (by simp[Value.oneCell']) (by unfold maxLen;omega) (by omega) (by simp;omega) (by decide) ?_;intro v' w3 hown' hgrow hnew;obtain⟨g',cap',rfl⟩:=ownsRow_succ hown';obtain⟨ny,hv2,hr2,hk2,hb2⟩:=hv.appended (by decide) hrow hBV hB hown' hgrow;have hc1:=ny.cell;have EY:=ny.frozen)
  have asK:Boxed w3 (w.heap.size+1) 4 (.bool c):=(Cl.alloc _).kept hgrow (Cl.not_row (by decide) hrow);have xp:=HG.more hgrow hnew w.heap.size 0 (ar _) (.slice (some ⟨g',0,none⟩) (LL.length+1) cap');have eLL:(l++(fM s (k+1)).map fun u=>(u,c))=LL++[(k,c)]:=by rw[SH hm,fY, <- rW,Ie];rfl
  refine⟨hk2.from _,⟨⟨_,hv2,?_,xp.2⟩,jE asK w.heap.size 0 _ (by omega),xp.1⟩⟩;rw[eLL,dM,aqj];exact hr2
 case skip=>
  rintro k V hk hm h;rwa [N3 hm]
 case done=>
  rintro D V hD ⟨⟨v,hv,hrow,Gx⟩,Cl,hgr⟩ hK;have hc:=hv.cell;gi_wp2
  refine⟨by simp,.inl ⟨_,_,rfl,zN hK,?_⟩⟩;refine⟨_,zO rfl _ _ _,v,rfl,ownsRow_putObj hrow _ hK rfl,⟨hgr.os,hgr.tape,hgr.output,aS hgr.size (by simp),fun k hk hne=>(yh (by simp at hD;omega)).trans (hgr.block k hk hne)⟩,Gx⟩
end
def qM (c:Nat):Bool:=decide (97<=c/\c<=122)
def xA (c:Nat):Bool:=decide (48<=c/\c<=57)
def acT (c:Nat):Bool:=qM c ||xA c ||decide (c=95)
def pU (s:ByteArray):Bool:=(s.data.toList.all fun c=>acT c.toNat)&&qM (s.data.toList.headD 0).toNat
def isVar (s:ByteArray):Bool:=s.toList==[118,97,114]
def EA (s:ByteArray):Bool:=s.toList==[101,108,115,101]
def uR (s:ByteArray):Bool:=decide (s.size<=12)&&!isVar s&&!EA s&&pU s
theorem aap (c:Nat) (w:World):Calls Tryz.prog 247 #[.int .u8 (c:Nat)] w fun e w'=>e=.returned (.bool (qM c))/\w'=w:=by
 rw[qM];by_cases h1:97<=c
 ·have HE:Hid (decide ((c:Int)<=122)=decide (97<=c/\c<=122)):=zP.2 ⟨fun h=>⟨h1,by omega⟩,fun h=>by omega⟩;have e1:(97:Int)<=(c:Int):=by omega
  go_enter Tryz.func247,Tryz.ntmps247;go_wp2;go_ret;exact⟨by rw[<- HE.o];rfl,rfl⟩
 ·have HE:Hid (decide (97<=c/\c<=122)=false):=abg fun h=>h1 h.1;rw[HE.o];have e1:(c:Int)<97:=by omega
  clear h1;go_enter Tryz.func247,Tryz.ntmps247;go_wp2;go_ret;exact⟨rfl,rfl⟩
theorem ah3 (c:Nat) (w:World):Calls Tryz.prog 257 #[.int .u8 (c:Nat)] w fun e w'=>e=.returned (.bool (xA c))/\w'=w:=by
 rw[xA];by_cases h1:48<=c
 ·have HE:Hid (decide ((c:Int)<=57)=decide (48<=c/\c<=57)):=zP.2 ⟨fun h=>⟨h1,by omega⟩,fun h=>by omega⟩;have e1:(48:Int)<=(c:Int):=by omega
  go_enter Tryz.func257,Tryz.ntmps257;go_wp2;go_ret;exact⟨by rw[<- HE.o];rfl,rfl⟩
 ·have HE:Hid (decide (48<=c/\c<=57)=false):=abg fun h=>h1 h.1;rw[HE.o];have e1:(c:Int)<48:=by omega
  clear h1;go_enter Tryz.func257,Tryz.ntmps257;go_wp2;go_ret;exact⟨rfl,rfl⟩
theorem ah0 (c:Nat) (w:World):Calls Tryz.prog 246 #[.int .u8 (c:Nat)] w fun e w'=>e=.returned (.bool (acT c))/\w'=w:=by
 have HW:Hid (acT c=(qM c ||xA c ||decide (c=95))):=rfl;have HL:=hid (aap c);have HF:=hid (ah3 c);generalize acT c=r at *;go_enter Tryz.func246,Tryz.ntmps246;go_wp2_with fail
 refine(HL.o _).ae ?_;rintro e w1 ⟨rfl,rfl⟩;cases hl:qM c with
 |true=>
  rw[hl] at HW;have HE:Hid (r=true):=HW.o;clear hl;go_wp2;go_ret;exact⟨by rw[HE.o];rfl,rfl⟩
 |false=>
  rw[hl] at HW;go_wp2_with fail
  refine(HF.o _).ae ?_;rintro e w2 ⟨rfl,rfl⟩;cases hf:xA c with
  |true=>
   rw[hf] at HW;have HE:Hid (r=true):=HW.o;clear hl hf;go_wp2;go_ret;exact⟨by rw[HE.o];rfl,rfl⟩
  |false=>
   rw[hf] at HW
   have HE:Hid (r=((c:Int)==95)):=by
    show _=_;rw[HW.o,Bool.false_or,Bool.false_or,ac6,ei,rp];omega
   clear hl hf;go_wp2;go_ret;exact⟨by rw[HE.o];rfl,rfl⟩
theorem XY {s:ByteArray} (h:k<s.size):s.data.toList.take (k+1)=s.data.toList.take k++[s[k]]:=by
 have h':k<s.data.toList.length:=by simpa using h
 rw[fR h'];rfl
theorem Xv {s:ByteArray} (h:k<s.size) (e:acT s[k].toNat=false):pU s=false:=by
 have hm:s[k]∈s.data.toList:=by
  have:s.data.toList[k]'(by simpa using h)=s[k]:=rfl;rw[<- this];exact bH _
 have:(s.data.toList.all fun c=>acT c.toNat)=false:=by
  rw[Gw];exact⟨_,hm,by rw[e];decide⟩
 rw[pU,this];rfl
theorem abu {s:ByteArray} (h:0<s.size):s.data.toList.headD 0=s[0]:=by
 obtain⟨⟨l⟩⟩:=s;cases l with
 |nil=>exact absurd h (by decide)
 |cons c l=>rfl
theorem Xu {s:ByteArray} (h:0<s.size) (e:(s.data.toList.take s.size).all (fun c=>acT c.toNat)=true):pU s=qM s[0].toNat:=by
 have e2:s.data.toList.all (fun c=>acT c.toNat)=true:=by
  rwa [jd (by simp)] at e
 rw[pU,e2,Jj,abu h]
theorem ahZ (s:ByteArray) (w:World) (hs:s.size<=140737488355328):
  Calls Tryz.prog 221 #[.string s] w fun e w'=>e=.returned (.bool (uR s))/\w'=w:=by
 have HN:Hid (uR s=(decide (s.size<=12)&&!isVar s&&!EA s&&pU s)):=rfl;have LG:=hid (fun k h e=>Xv (s:=s) (k:=k) h e);have VL:=hid (fun h e=>Xu (s:=s) h e)
 have VM:Hid (s.size=0 ->pU s=false):=fun h=>by
  have:s.data.toList=[]:=Ee.1 (by rw[yu];exact h);rw[pU,this];rfl
 generalize uR s=nb at *;generalize pU s=wb at *;by_cases h0:s.size=0
 ·have HE:Hid (nb=false):=by show _=_;rw[HN.o,VM.o h0];simp
  have e1:(s.size:Int)<1:=by omega
  clear h0 HN;go_enter Tryz.func221,Tryz.ntmps221;go_wp2;go_ret;exact⟨by rw[HE.o];rfl,rfl⟩
 by_cases vE:12<s.size
 ·have HE:Hid (nb=false):=by show _=_;rw[HN.o,abg (show ¬s.size<=12 by omega)];rfl
  have e1:(1:Int)<=(s.size:Int):=by omega
  have e2:(12:Int)<(s.size:Int):=by omega
  clear h0 HN;go_enter Tryz.func221,Tryz.ntmps221;go_wp2;go_ret;exact⟨by rw[HE.o];rfl,rfl⟩
 have e1:(1:Int)<=(s.size:Int):=by omega
 have e2:(s.size:Int)<=12:=by omega
 cases hv:isVar s with
 |true=>
  have HE:Hid (nb=false):=by show _=_;rw[HN.o,hv];simp
  rw[isVar] at hv;clear HN h0 vE;go_enter Tryz.func221,Tryz.ntmps221;go_wp2;go_ret;exact⟨by rw[HE.o];rfl,rfl⟩
 |false=>
  cases he:EA s with
  |true=>
   (have HE:Hid (nb=false):=by show _=_;rw[HN.o,he];simp);rw[isVar] at hv;rw[EA] at he;clear HN h0 vE;go_enter Tryz.func221,Tryz.ntmps221;go_wp2;go_ret;exact⟨by rw[HE.o];rfl,rfl⟩
  |false=>
   (have HE:Hid (nb=wb):=by show _=_;rw[HN.o,hv,he,cJ (show s.size<=12 by omega)];simp);rw[isVar] at hv;rw[EA] at he;(have h1:0<s.size:=by omega);clear HN h0 vE;go_enter Tryz.func221,Tryz.ntmps221;go_wp2_with fail
   go_loopw [22] (fun iv wr=>∃k:Nat,k<=s.size/\iv=.int .i64 k/\Hid ((s.data.toList.take k).all (fun c=>acT c.toNat)=true)/\wr=w) (fun iv _=>s.size - (intOf iv).toNat)
   case atStart=>exact⟨0,aU _,rfl,rfl,rfl⟩
   case round=>
    obtain⟨k,hk,rfl,HA,rfl⟩:=hrel;by_cases hlt:k<s.size
    ·have HB:=hid (LG.o k hlt)
     have HT:Hid (acT s[k].toNat=true ->(s.data.toList.take (k+1)).all (fun c=>acT c.toNat)=true):=fun h=>by
      rw[XY hlt,List.all_append,HA.o];simp[h]
     go_wp2_with fail
     refine(ah0 s[k].toNat _).ae ?_;rintro e w1 ⟨rfl,rfl⟩;cases hw:acT s[k].toNat with
     |false=>
      have HF:=hid (HB.o hw);clear hw;go_wp2;go_ret;exact⟨by rw[HE.o,HF.o];rfl,rfl⟩
     |true=>
      have HS:=hid (HT.o hw);clear hw;go_wp2;go_roundw
      case rel=>exact⟨k+1,by omega,by go_num,HS,trivial⟩
      case measure=>simp[intOf];omega
    ·obtain rfl:k=s.size:=by omega
     have HF:=hid (VL.o h1 HA.o);go_wp2_with fail
     refine(aap s[0].toNat _).ae ?_;rintro e w1 ⟨rfl,rfl⟩;go_wp2;go_ret;exact⟨by rw[HE.o,HF.o];rfl,rfl⟩
def StS (w:World) (a:Option Addr) (l:List ByteArray):Prop:=∀k (h:k<l.length),∃g o,a=some ⟨g,o,none⟩/\g<w.heap.size/\w.cell? ⟨g,o+k,none⟩=some (.string l[k])
theorem StS.aa {l:List ByteArray} (h:StS w a l) (hb:Below w.heap.size w w'):StS w' a l:=fun k hk=>by
 obtain⟨g,o,h1,h2,h3⟩:=h k hk;exact⟨g,o,h1,aR h2 hb.size,(hb.cell (p:=⟨g,o+k,none⟩) h2).trans h3⟩
theorem StS.take {l:List ByteArray} (h:StS w a l) (i:Nat):StS w a (l.take i):=fun k hk=>by
 have dH:k<l.length:=by rw[eZ] at hk;omega
 obtain⟨g,o,h1,h2,h3⟩:=h k dH;refine⟨g,o,h1,h2,?_⟩;rw[Aa];exact h3
def iO (f:Nat ->Int):Nat ->Int
 |0=>0
 |n+1=>if iO f n=0 then f n else iO f n
theorem ac8 {f:Nat ->Int}:∀ {n:Nat},(∀j,j< n ->f j=0) ->iO f n=0
 |0,_=>rfl
 |n+1,h=>by rw[iO,aaf (ac8 fun j hj=>h j (by omega)),h n (by omega)]
theorem Bd {f:Nat ->Int} (h:∀j,j< i ->f j=0) (hi:f i≠0):∀ {n:Nat},i< n ->iO f n=f i
 |0,hn=>by omega
 |n+1,hn=>by
  rcases cD i n with h1 |h1
  ·rw[iO,Bd h hi h1,aaO hi]
  ·obtain rfl:i=n:=by omega
   rw[iO,aaf (ac8 h)]
theorem Eh {f:Nat ->Int} (h:∀j,j< i ->f j=0) (hi:f i=0):∀j,j<i+1 ->f j=0:=fun j hj=>by
 rcases cD j i with h1 |h1
 ·exact h j h1
 ·obtain rfl:j=i:=by omega
  exact hi
def uU (l:List ByteArray) (v:ByteArray):Bool:=l.any fun x=>decide (x=v)
def rC (l:List ByteArray) (i:Nat):Int:=if uR (l.getD i ⟨#[]⟩)=true then(if uU (l.take i) (l.getD i ⟨#[]⟩)=true then 7 else 0) else 4
def iw (l:List ByteArray):Int:=iO (rC l) l.length
theorem UE {l:List ByteArray} (h:i<l.length):l.getD i ⟨#[]⟩=l[i]:=by rw[b7,af h];rfl
def o7 (l:List ByteArray) (v:ByteArray):Int:=match l.findIdx? (fun x=>decide (x=v)) with
 |some i=>(i:Int)
 |none=> -1
theorem Pt {a b:ByteArray}:(a.toList==b.toList)=decide (a=b):=by
 rw[ac6,rp,ei];constructor
 ·intro h;rw[toList_data,toList_data] at h;obtain⟨⟨x⟩⟩:=a;obtain⟨⟨y⟩⟩:=b;simp only at h;rw[h]
 ·intro h;rw[h]
theorem Zs {l:List ByteArray} {v:ByteArray} (h:i<l.length) (e:l[i]=v) (hn:∀j (hj:j<l.length),j< i ->¬l[j]=v):o7 l v=i:=by
 have:l.findIdx? (fun x=>decide (x=v))=some i:=List.findIdx?_eq_some_iff_getElem.2 ⟨h,cJ e,fun j hj=>by
  rw[ei];exact hn j (by omega) hj⟩
 rw[o7,this]
theorem Zr {l:List ByteArray} {v:ByteArray} (hn:∀j (hj:j<l.length),¬l[j]=v):o7 l v= -1:=by
 have:l.findIdx? (fun x=>decide (x=v))=none:=List.findIdx?_eq_none_iff.2 fun x hx=>by
  obtain⟨j,hj,rfl⟩:=iE hx;exact abg (hn j hj)
 rw[o7,this]
theorem agH (l:List ByteArray) (v:ByteArray):decide (0<=o7 l v)=uU l v:=by
 rw[ac6,ei,uU,rX,o7];cases e:l.findIdx? (fun x=>decide (x=v)) with
 |some i=>
  obtain⟨h,hp,_⟩:=List.findIdx?_eq_some_iff_getElem.1 e;exact⟨fun _=>⟨l[i],bH h,hp⟩,fun _=>by show (0:Int)<=(i:Int);omega⟩
 |none=>
  have:=List.findIdx?_eq_none_iff.1 e;exact⟨fun h=>by exact absurd (show (0:Int)<= -1 from h) (by decide),fun ⟨x,hx,hp⟩=>by rw[this x hx] at hp;cases hp⟩
theorem ae1 (a:Option Addr) (ca:Nat) (l:List ByteArray) (v:ByteArray) (w:World) (h:StS w a l) (hn:l.length<=140737488355328):
  Calls Tryz.prog 248 #[.slice a l.length ca,.string v] w fun e w'=>e=.returned (.int .i64 (o7 l v))/\w'=w:=by
 have HF:=hid h;have HP:=hid (fun i h e hn=>Zs (l:=l) (v:=v) (i:=i) h e hn);have HQ:=hid (fun hn=>Zr (l:=l) (v:=v) hn);generalize o7 l v=r at *;clear h;go_enter Tryz.func248,Tryz.ntmps248;go_wp2_with fail
 go_loopw [8] (fun iv wr=>∃i:Nat,i<=l.length/\iv=.int .i64 i/\Hid (∀j (hj:j<l.length),j< i ->¬l[j]=v)/\wr=w) (fun iv _=>l.length - (intOf iv).toNat)
 case atStart=>exact⟨0,aU _,rfl,fun j _ h=>absurd h (by omega),rfl⟩
 case round=>
  obtain⟨i,hi,rfl,HN,rfl⟩:=hrel;by_cases hlt:i<l.length
  ·obtain⟨g,o,rfl,hg,c0⟩:=HF.o i hlt;have pH:=hid (fun e=>HP.o i hlt e HN.o)
   have j7:Hid (¬l[i]=v ->∀j (hj:j<l.length),j<i+1 ->¬l[j]=v):=fun h j hj ml=>by
    rcases cD j i with h2 |h2
    ·exact HN.o j hj h2
    ·obtain rfl:j=i:=by omega
     exact h
   generalize l[i]=x at *;by_cases e:x=v
   ·have HE:=hid (pH.o e);subst e;go_wp2;go_ret;exact⟨by rw[HE.o];rfl,rfl⟩
   ·have HE:=hid (j7.o e);(have e1:(v.toList==x.toList)=false:=by rw[Pt];exact abg fun h=>e h.symm);clear e;go_wp2;go_roundw
    case rel=>exact⟨i+1,by omega,by go_num,HE,trivial⟩
    case measure=>simp[intOf];omega
  ·obtain rfl:i=l.length:=by omega
   have HE:=hid (HQ.o fun j hj=>HN.o j hj hj);go_wp2;go_ret;exact⟨by rw[HE.o];rfl,rfl⟩
theorem ae3 (a:Option Addr) (ca:Nat) (l:List ByteArray) (v:ByteArray) (w:World) (h:StS w a l) (hn:l.length<=140737488355328):
  Calls Tryz.prog 222 #[.slice a l.length ca,.string v] w fun e w'=>e=.returned (.bool (uU l v))/\w'=w:=by
 have HF:=hid h;have HI:=hid (fun (V:World) (hV:StS V a l)=>ae1 a ca l v V hV hn);have HM:=hid (agH l v);generalize uU l v=m at *;generalize o7 l v=r at *;clear h;go_enter Tryz.func222,Tryz.ntmps222;go_wp2_with fail
 refine(HI.o _ HF.o).ae ?_;rintro e w1 ⟨rfl,rfl⟩;go_wp2;go_ret;exact⟨by rw[<- HM.o];rfl,rfl⟩
theorem aam {l:List ByteArray} (h:i<l.length) (e:uR l[i]=false):rC l i=4:=by rw[rC,UE h,e,aaO (by decide)]
theorem aao {l:List ByteArray} (h:i<l.length) (e:uR l[i]=true) (e':uU (l.take i) l[i]=true):rC l i=7:=by rw[rC,UE h,e,aaf rfl,e',aaf rfl]
theorem aan {l:List ByteArray} (h:i<l.length) (e:uR l[i]=true) (e':uU (l.take i) l[i]=false):rC l i=0:=by rw[rC,UE h,e,aaf rfl,e',aaO (by decide)]
theorem acE (a:Option Addr) (ca:Nat) (l:List ByteArray) (w:World) (h:StS w a l) (hn:l.length<=140737488355328) (hc:l.length<=ca) (hs:∀s∈l,s.size<=140737488355328):
  Calls Tryz.prog 174 #[.slice a l.length ca] w fun e w'=>e=.returned (.int .i64 (iw l))/\w'=w:=by
 have HF:=hid h;have fT:=hid hs;have HA:Hid (∀i,i<l.length ->(∀j,j< i ->rC l j=0) ->∀k,rC l i=k ->k≠0 ->iw l=k):=fun i hi hz k hk hk0=>by rw[iw,Bd hz (by rw[hk];exact hk0) hi,hk]
 have HZ:Hid ((∀j,j<l.length ->rC l j=0) ->iw l=0):=fun h=>ac8 h;have HW:=hid (fun i h e=>aam (l:=l) (i:=i) h e);have HD:=hid (fun i h e e'=>aao (l:=l) (i:=i) h e e');have HO:=hid (fun i h e e'=>aan (l:=l) (i:=i) h e e');generalize iw l=r at *;clear h hs;go_enter Tryz.func174,Tryz.ntmps174;go_wp2_with fail
 go_loopw [7] (fun iv wr=>∃i:Nat,i<=l.length/\iv=.int .i64 i/\Hid (∀j,j< i ->rC l j=0)/\wr=w) (fun iv _=>l.length - (intOf iv).toNat)
 case atStart=>exact⟨0,aU _,rfl,fun j h=>absurd h (by omega),rfl⟩
 case round=>
  obtain⟨i,hi,rfl,HN,rfl⟩:=hrel;by_cases hlt:i<l.length
  ·obtain⟨g,o,rfl,hg,c0⟩:=HF.o i hlt;have hsz:=fT.o l[i] (bH hlt);have Im:=hid (fun e=>HA.o i hlt HN.o 4 (HW.o i hlt e) (by decide));have WM:=hid (fun e e'=>HA.o i hlt HN.o 7 (HD.o i hlt e e') (by decide));have IC:=hid (fun e e'=>Eh HN.o (HO.o i hlt e e'));have PW:=hid (HF.o.take i);(have EH:(l.take i).length=i:=by rw[eZ];omega)
   have ye:Hid (∀(v:ByteArray) (V:World),StS V (some ⟨g,o,none⟩) (l.take i) ->Calls Tryz.prog 222 #[.slice (some ⟨g,o,none⟩) i ca,.string v] V fun e w'=>e=.returned (.bool (uU (l.take i) v))/\w'=V):=fun v V hV=>by
    have:=ae3 (some ⟨g,o,none⟩) ca (l.take i) v V hV (by omega);rwa [EH] at this
   clear EH;generalize l[i]=x at *;go_wp2_with fail
   refine(ahZ x _ hsz).ae ?_;rintro e w1 ⟨rfl,rfl⟩;cases jA:uR x with
   |false=>
    have HE:=hid (Im.o jA);clear jA;go_wp2;go_ret;exact⟨by rw[HE.o];rfl,rfl⟩
   |true=>
    go_wp2_with fail
    refine(ye.o x _ PW.o).ae ?_;rintro e w2 ⟨rfl,rfl⟩;cases hm:uU (l.take i) x with
    |true=>
     have HE:=hid (WM.o jA hm);clear jA hm;go_wp2;go_ret;exact⟨by rw[HE.o];rfl,rfl⟩
    |false=>
     have HE:=hid (IC.o jA hm);clear jA hm;go_wp2;go_roundw
     case rel=>exact⟨i+1,by omega,by go_num,HE,trivial⟩
     case measure=>simp[intOf];omega
  ·obtain rfl:i=l.length:=by omega
   have HE:=hid (HZ.o HN.o);go_wp2;go_ret;exact⟨by rw[HE.o];rfl,rfl⟩
variable {z:Value}
abbrev Vr:Type:=ByteArray×List ByteArray
def sO (w:World) (a:Option Addr) (V:List Vr):Prop:=∀k (h:k<V.length),∃g o b c,a=some ⟨g,o,none⟩/\g<w.heap.size/\w.cell? ⟨g,o+k*2,none⟩=some (.string V[k].1)/\w.cell? ⟨g,o+k*2+1,none⟩=some (.slice b V[k].2.length c)/\StS w b V[k].2/\V[k].2.length<=c
theorem sO.aa {V:List Vr} (h:sO w a V) (hb:Below w.heap.size w w'):sO w' a V:=fun k hk=>by
 obtain⟨g,o,b,c,h1,h2,h3,h4,h5,h6⟩:=h k hk;exact⟨g,o,b,c,h1,aR h2 hb.size,(hb.cell (p:=⟨g,o+k*2,none⟩) h2).trans h3,(hb.cell (p:=⟨g,o+k*2+1,none⟩) h2).trans h4,h5.aa hb,h6⟩
abbrev NC (x y z:Value):Obj:=.cells #[x,y,z] 26
abbrev VC (x y:Value):Obj:=.cells #[x,y] 69
def gX (w:World) (g:Nat) (x y z:Value):Prop:=w.heap[g]? =some (.cells #[x,y,z] 26 (0,0))
theorem gX.at (hg:w.heap.size=g) (x y z:Value):gX (w.alloc (NC x y z)) g x y z:=by subst hg;exact kd w _
theorem gX.lt (h:gX w g x y z):g<w.heap.size:=(eL.1 h).1
theorem gX.aa {b:Nat} (h:gX w g x y z) (hb:Below b w w') (hg:g<b):gX w' g x y z:=(hb.block g hg).trans h
theorem gX.cells (h:gX w g x y z):w.cell? ⟨g,0,none⟩=some x/\w.cell? ⟨g,1,none⟩=some y/\w.cell? ⟨g,2,none⟩=some z:=by
 refine⟨?_,?_,?_⟩<;>(rw[cC w g _ _ _ (0,0) h];rfl)
theorem Q5 (w:World) (x y:Value):(w.alloc (VC x y)).cell? ⟨w.heap.size,0,none⟩=some x/\(w.alloc (VC x y)).cell? ⟨w.heap.size,1,none⟩=some y:=by
 have h:(w.alloc (VC x y)).heap[w.heap.size]? =some (.cells #[x,y] 69 (0,0)):=kd w _;exact⟨by rw[cC _ _ _ _ _ (0,0) h];rfl,by rw[cC _ _ _ _ _ (0,0) h];rfl⟩
def ah (V:List Vr):List Nat:=V.map fun x=>x.2.length
theorem gR (V:List Vr):(ah V).length=V.length:=by simp[ah]
theorem Co {V:List Vr} (h:i<V.length):(ah V)[i]? =some V[i].2.length:=by simp[ah,h]
theorem NX (a b c:Option Addr) (ca cb cc n m:Nat) (V:List Vr) (w:World) (h:sO w a V) (hV:V.length<=5000):
  Calls Tryz.prog 25 #[.agg #[.slice a V.length ca,.slice b n cb,.slice c m cc]] w fun e w'=>∃G,e=.returned (.slice (some ⟨G,0,none⟩) V.length V.length)/\w.heap.size<=G/\bV w' G (ah V)/\Below w.heap.size w w':=by
 obtain⟨i0,cU,hz0,hz1,hz2⟩:=eT Tryz.infoInt;have HF:=hid h;have HG:Hid (∀i (h:i<V.length),(ah V)[i]? =some V[i].2.length):=fun i h=>Co h;have bJ:=gR V;generalize ah V=ds at *;clear h;have hN:=gX.at (w:=w) rfl (.slice a V.length ca) (.slice b n cb) (.slice c m cc);have hB0:=(au _ w).alloc (ar _) (NC (.slice a V.length ca) (.slice b n cb) (.slice c m cc));obtain⟨c0, -, -⟩:=hN.cells;have Ov:=hN.lt;go_enter Tryz.func25,Tryz.ntmps25;go_upto_region 1 with fail
 generalize (w.alloc (NC (.slice a V.length ca) (.slice b n cb) (.slice c m cc)))=w1 at *
 go_wp2_with (first
  |(at_make;refine mL _ rfl _ _ 27 rfl w1.heap.size 3 i0 (.int .i64 0) 1 Tryz.underlying27 cU hz0 hz1 .i64 .i64 _ _ V.length rfl rfl (by go_num) (by go_num) (by rw[hz2];omega) (by unfold maxLen;omega) (ar _) ?_;intro w2 hown2 hgrow2;have hB2:Below w1.heap.size w1 w2:=(au _ w1).grown hgrow2 (ar _) (fun k e=>by cases e);have Dr:=(hN.aa hB2 Ov).cells.1;clear c0))
 have hb2:=pC hown2;rw[AB] at hb2;have HI:Hid (bV w2 w1.heap.size (List.replicate V.length 0)):=hb2;have bc:Hid (Below w.heap.size w w2):=hB0.trans (hB2.ae hB0.size);have hG:=hB0.size;clear hown2 hgrow2 hb2 hB2;clear Dr;go_loopw [13] (fun iv wr=>∃i:Nat,i<=V.length/\iv=.int .i64 i/\Hid (bV wr w1.heap.size (kD ds i))/\Hid (Below w.heap.size w wr)) (fun iv _=>V.length - (intOf iv).toNat)
 case atStart=>exact⟨0,aU _,rfl,by rw[Ny,bJ];exact HI,bc⟩
 case round=>
  obtain⟨i,hi,rfl,HR,HB⟩:=hrel;clear HI bc;by_cases hlt:i<V.length
  ·obtain⟨g,o,b',c',rfl,hg,c0,c1, -, -⟩:=(HF.o.aa HB.o) i hlt;obtain⟨pj,i7⟩:=o0.1 (HG.o i hlt);have HPS:=hid (Nz ds pj);rw[i7] at HPS;generalize V[i]=v at *;obtain⟨nm,vs⟩:=v;simp only at c0 c1 HPS;obtain⟨d0,d1⟩:=Q5 wr (.string nm) (.slice b' vs.length c');have aN:=(au _ wr).alloc (ar _) (VC (.string nm) (.slice b' vs.length c'));have A3:=HR.o.aa aN HR.o.lt;have k0:=A3.cell i (by rw[Aw _ (by omega)];omega);have f0:=A3.fz i;have hS:=A3.set i vs.length;rw[HPS.o] at hS;have HS:=hid hS;have BU:=hid ((HB.o.trans (aN.ae HB.o.size)).setCell (p:=⟨w1.heap.size,i,none⟩) hG (.int .i64 (vs.length:Nat)));generalize (kD ds i)[i]'(by rw[Aw _ (by omega)];omega)=z at *;clear pj i7 aN A3 hS;go_wp2;go_roundw
   case rel=>exact⟨i+1,by omega,by go_num,HS,BU⟩
   case measure=>simp[intOf];omega
  ·obtain rfl:i=V.length:=by omega
   have eA:=HR.o;rw[<- bJ,NA] at eA;have HFI:=hid eA;clear eA;go_wp2;go_ret;exact⟨w1.heap.size,rfl,hG,HFI.o,HB.o⟩
theorem aiZ {l:List Nat} {x:Nat} (h:l[i]? =some x):iL (l.take (i+1))=iL (l.take i)++[(x:Int)]:=by
 obtain⟨h1,h2⟩:=o0.1 h;rw[fR h1,h2,N9];rfl
theorem Y6 (a b c:Option Addr) (ca cb cc n m:Nat) (V:List Vr) (w:World) (h:sO w a V) (hV:V.length<=5000):
  Calls Tryz.prog 54 #[.agg #[.slice a V.length ca,.slice b n cb,.slice c m cc]] w fun e w'=>∃x,e=.returned x/\cX w' w.heap.size x (iL (ah V))/\Below w.heap.size w w':=by
 obtain⟨i0,cU,hz0,hz1,hz2⟩:=eT Tryz.infoInt;have HF:=hid h;have HG:Hid (∀i (h:i<V.length),(ah V)[i]? =some V[i].2.length):=fun i h=>Co h;have bJ:=gR V;generalize ah V=ds at *;clear h;have hN:=gX.at (w:=w) rfl (.slice a V.length ca) (.slice b n cb) (.slice c m cc);have Qs:=hid ((au _ w).alloc (ar _) (NC (.slice a V.length ca) (.slice b n cb) (.slice c m cc)));go_enter Tryz.func54,Tryz.ntmps54;go_wp2_with fail
 generalize (w.alloc (NC (.slice a V.length ca) (.slice b n cb) (.slice c m cc)))=w1 at *;have HN:=hid hN;clear hN;go_loopw [3,4] (fun xv iv wr=>∃i:Nat,i<=V.length/\iv=.int .i64 i/\Hid (cX wr (w.heap.size+1) xv (iL (ds.take i)))/\Hid (Below (w.heap.size+1) w1 wr)) (fun _ iv _=>V.length - (intOf iv).toNat)
 case atStart=>exact⟨0,aU _,rfl,⟨rfl,.inl ⟨rfl,rfl⟩⟩,au _ _⟩
 case round=>
  obtain⟨i,hi,rfl,HR,HB⟩:=hrel;have vA:=HN.o.aa HB.o (by omega);obtain⟨c0, -, -⟩:=vA.cells;have hw1:=HN.o.lt;have kT:Hid (Below w.heap.size w wr):=Qs.o.trans (HB.o.ae (by omega));by_cases hlt:i<V.length
  ·obtain⟨g,o,b',c',rfl,hg, -,c1, -, -⟩:=(HF.o.aa kT.o) i hlt;have sU:=hid (aiZ (HG.o i hlt))
   have zH:Hid ((iL (ds.take i)).length<=5000):=by
    show (iL (ds.take i)).length<=5000;rw[ba,eZ];omega
   generalize V[i]=v at *;obtain⟨nm,vs⟩:=v;simp only at c1 sU;have xS:=hid HR.o.own;have ky:Hid (cX (wr.alloc (.cells #[.int .i64 (vs.length:Nat)] 3)) (w.heap.size+1) _ (iL (ds.take i))):=I7 HR.o _;have hsz:w.heap.size+1<=wr.heap.size:=vA.lt;have dC:=hid (HB.o.alloc hsz (.cells #[.int .i64 (vs.length:Nat)] 3));have F2:=hid (JS wr (vs.length:Nat));(have EI:w.heap.size+1<=(wr.alloc (.cells #[.int .i64 (vs.length:Nat)] 3)).heap.size:=by simp;omega);clear vA;go_wp2_with (at_builtin;refine GF rfl _ _ rfl (w.heap.size+1) _ (iL (ds.take i)) [((vs.length:Nat):Int)] rfl ky.o (some ⟨wr.heap.size,0,none⟩) 1 rfl F2.o (fun e=>by cases e) (by have:=zH.o;simp;omega) EI ?_;intro v' w3 hr3 hg3)
   have jH:=hid hr3;have dU:=hid (dC.o.grown hg3 EI xS.o);clear hr3 hg3;go_roundw
   case rel=>exact⟨i+1,by omega,by go_num,by rw[sU.o];exact jH,dU⟩
   case measure=>simp[intOf];omega
  ·obtain rfl:i=V.length:=by omega
   have eA:=HR.o;rw[jd (by omega)] at eA;have HFI:=hid (show cX wr w.heap.size _ (iL ds) from ⟨eA.1,eA.2.imp id fun ⟨g,cap,cur,h1,h2,h3⟩=>⟨g,cap,cur,h1,by omega,h3⟩⟩);clear eA vA;go_wp2;go_ret;exact⟨_,rfl,HFI.o,kT.o⟩
def oQ (w:World) (g:Nat) (l:List ByteArray):Prop:=w.heap[g]? =some (.cells (l.map Value.string).toArray 9 (0,0))
theorem oQ.cell {l:List ByteArray} (h:oQ w g l) (j:Nat) (hj:j<l.length):w.cell? ⟨g,j,none⟩=some (.string l[j]):=by
 rw[cC w g j _ _ (0,0) h];simp[hj]
theorem oQ.fz {l:List ByteArray} (h:oQ w g l) (j:Nat):w.frozen? ⟨g,j,none⟩=false:=pN w g j _ _ h
theorem oQ.lt {l:List ByteArray} (h:oQ w g l):g<w.heap.size:=(eL.1 h).1
theorem oQ.aa {b:Nat} {l:List ByteArray} (h:oQ w g l) (hb:Below b w w') (hg:g<b):oQ w' g l:=(hb.block g hg).trans h
theorem oQ.set {l:List ByteArray} (h:oQ w g l) (j:Nat) (y:ByteArray):oQ (w.setCell ⟨g,j,none⟩ (.string y)) g (l.set j y):=by
 have h2:=mM w g j _ _ (.string y) h;rw[oQ,h2];simp[Gr]
theorem oQ.st {l:List ByteArray} (h:oQ w g l):StS w (some ⟨g,0,none⟩) l:=fun k hk=>⟨g,0,rfl,h.lt,by rw[bT];exact h.cell k hk⟩
theorem aiy (n:Nat):(madeCells (Value.string ⟨#[]⟩).cells (n*1)).toList=(List.replicate n (⟨#[]⟩:ByteArray)).map Value.string:=by
 rw[show (Value.string ⟨#[]⟩).cells= #[Value.string ⟨#[]⟩] from rfl,I3,mN,MN]
theorem Tryz.infoStr:(Tryz.prog.info? 9).map (fun i=>(i.zero,i.size,i.bytes))=some (some (.string ⟨#[]⟩),1,16):=by kernel_rfl
def uN (l:List ByteArray) (i:Nat):List ByteArray:=l.take i++List.replicate (l.length - i) ⟨#[]⟩
theorem agR (l:List ByteArray):uN l 0=List.replicate l.length ⟨#[]⟩:=by simp[uN]
theorem Zw (l:List ByteArray) (h:i<=l.length):(uN l i).length=l.length:=by simp[uN];omega
theorem agT (l:List ByteArray):uN l l.length=l:=by simp[uN]
theorem agS (l:List ByteArray) (h:i<l.length):(uN l i).set i l[i]=uN l (i+1):=by
 have h1:l.length - i=(l.length - (i+1))+1:=by omega
 have h2:(l.take i).length=i:=by rw[eZ];omega
 rw[uN,uN,h1,Jc,Ed _ _ (by omega),h2,qE,Ec,fR h,rW];rfl
def gF (V:List Vr):List ByteArray:=V.map fun x=>x.1
theorem SA (V:List Vr):(gF V).length=V.length:=by simp[gF]
theorem aal {V:List Vr} (h:i<V.length):(gF V)[i]? =some V[i].1:=by simp[gF,h]
theorem ahY (a:Option Addr) (ca:Nat) (V:List Vr) (w:World) (h:sO w a V) (hV:V.length<=5000):
  Calls Tryz.prog 175 #[.slice a V.length ca] w fun e w'=>∃G,e=.returned (.slice (some ⟨G,0,none⟩) V.length V.length)/\oQ w' G (gF V)/\Below w.heap.size w w':=by
 obtain⟨i0,cU,hz0,hz1,hz2⟩:=eT Tryz.infoStr;have HF:=hid h;have HG:Hid (∀i (h:i<V.length),(gF V)[i]? =some V[i].1):=fun i h=>aal h;have bJ:=SA V;generalize gF V=ds at *;clear h;go_enter Tryz.func175,Tryz.ntmps175
 go_wp2_with (first
  |(at_make;refine mL _ rfl _ _ 67 rfl w.heap.size 9 i0 (.string ⟨#[]⟩) 1 Tryz.underlying67 cU hz0 hz1 .i64 .i64 _ _ V.length rfl rfl (by go_num) (by go_num) (by rw[hz2];omega) (by unfold maxLen;omega) (ar _) ?_;intro w2 hown2 hgrow2))
 have hb2:=pC hown2;rw[aiy] at hb2;have bc:Hid (Below w.heap.size w w2):=(au _ w).grown hgrow2 (ar _) (fun k e=>by cases e);have HI:Hid (oQ w2 w.heap.size (List.replicate V.length ⟨#[]⟩)):=hb2;clear hown2 hgrow2 hb2;go_wp2_with fail
 go_loopw [11] (fun iv wr=>∃i:Nat,i<=V.length/\iv=.int .i64 i/\Hid (oQ wr w.heap.size (uN ds i))/\Hid (Below w.heap.size w wr)) (fun iv _=>V.length - (intOf iv).toNat)
 case atStart=>exact⟨0,aU _,rfl,by rw[agR,bJ];exact HI,bc⟩
 case round=>
  obtain⟨i,hi,rfl,HR,HB⟩:=hrel;clear HI bc;by_cases hlt:i<V.length
  ·obtain⟨g,o,b',c',rfl,hg,c0,c1, -, -⟩:=(HF.o.aa HB.o) i hlt;obtain⟨pj,i7⟩:=o0.1 (HG.o i hlt);have HPS:=hid (agS ds pj);rw[i7] at HPS;generalize V[i]=v at *;obtain⟨nm,vs⟩:=v;simp only at c0 c1 HPS;obtain⟨d0,d1⟩:=Q5 wr (.string nm) (.slice b' vs.length c');have aN:=(au _ wr).alloc (ar _) (VC (.string nm) (.slice b' vs.length c'));have A3:=HR.o.aa aN HR.o.lt;have k0:=A3.cell i (by rw[Zw _ (by omega)];omega);have f0:=A3.fz i;have hS:=A3.set i nm;rw[HPS.o] at hS;have HS:=hid hS;have BU:=hid ((HB.o.trans (aN.ae HB.o.size)).setCell (p:=⟨w.heap.size,i,none⟩) (ar _) (.string nm));generalize (uN ds i)[i]'(by rw[Zw _ (by omega)];omega)=z at *;clear pj i7 aN A3 hS;go_wp2;go_roundw
   case rel=>exact⟨i+1,by omega,by go_num,HS,BU⟩
   case measure=>simp[intOf];omega
  ·obtain rfl:i=V.length:=by omega
   have eA:=HR.o;rw[<- bJ,agT] at eA;have HFI:=hid eA;clear eA;go_wp2;go_ret;exact⟨w.heap.size,rfl,HFI.o,HB.o⟩
def mY (V:List Vr) (i:Nat):Int:=if 1<=(V.getD i (⟨#[]⟩,[])).2.length/\(V.getD i (⟨#[]⟩,[])).2.length<=4 then iw (V.getD i (⟨#[]⟩,[])).2 else 2
def jy (V:List Vr):Int:=if iw (gF V)=0 then iO (mY V) V.length else iw (gF V)
theorem UD {V:List Vr} (h:i<V.length):V.getD i (⟨#[]⟩,[])=V[i]:=by rw[b7,af h];rfl
def RY (V:List Vr):Prop:=V.length<=5000/\∀x∈V,x.1.size<=5000/\x.2.length<=5000/\∀s∈x.2,s.size<=5000
theorem XD {V:List Vr} (h:i<V.length) (e:¬(1<=V[i].2.length/\V[i].2.length<=4)):mY V i=2:=by rw[mY,UD h,aaO e]
theorem XC {V:List Vr} (h:i<V.length) (e:1<=V[i].2.length/\V[i].2.length<=4):mY V i=iw V[i].2:=by rw[mY,UD h,aaf e]
theorem alT (a:Option Addr) (ca:Nat) (V:List Vr) (w:World) (h:sO w a V) (hs:RY V):
  Calls Tryz.prog 131 #[.slice a V.length ca] w fun e w'=>e=.returned (.int .i64 (jy V))/\Below w.heap.size w w':=by
 have HF:=hid h;have Iu:=hid hs;have hV:=hs.1;have fB:Hid (iw (gF V)≠0 ->jy V=iw (gF V)):=fun h=>aaO h;have dZ:Hid (iw (gF V)=0 ->jy V=iO (mY V) V.length):=fun h=>aaf h;have hnl:=SA V
 have IG:Hid (∀s∈gF V,s.size<=140737488355328):=fun s hs'=>by
  obtain⟨x,hx,rfl⟩:=aaQ.1 hs';have:=(hs.2 x hx).1;omega
 have eQ:=hid (fun (V':World) (hV':sO V' a V)=>ahY a ca V V' hV' hV)
 have Qq:Hid (∀(G:Nat) (V':World),oQ V' G (gF V) ->Calls Tryz.prog 174 #[.slice (some ⟨G,0,none⟩) V.length V.length] V' fun e w'=>e=.returned (.int .i64 (iw (gF V)))/\w'=V'):=fun G V' hR=>by
  have:=acE (some ⟨G,0,none⟩) V.length (gF V) V' hR.st (by omega) (by omega) IG.o;rwa [hnl] at this
 generalize jy V=ve at *;generalize iw (gF V)=ne at *;clear h hs hnl IG;go_enter Tryz.func131,Tryz.ntmps131;go_wp2_with fail
 refine(eQ.o _ HF.o).ae ?_;rintro e w1 ⟨G,rfl,hR,hb1⟩;have HR:=hid hR;have eR:=hid hb1;clear hR hb1 eQ;go_wp2_with fail
 refine(Qq.o G _ HR.o).ae ?_;rintro e w2 ⟨rfl,rfl⟩;by_cases h0:ne=0
 ·subst h0;have HE:=hid (dZ.o rfl);clear fB dZ Qq HR;have HA:Hid (∀i,i<V.length ->(∀j,j< i ->mY V j=0) ->∀k,mY V i=k ->k≠0 ->ve=k):=fun i hi hz k hk hk0=>by rw[HE.o,Bd hz (by rw[hk];exact hk0) hi,hk]
  have HZ:Hid ((∀j,j<V.length ->mY V j=0) ->ve=0):=fun h=>by rw[HE.o];exact ac8 h
  have HL:=hid (fun i h e=>XD (V:=V) (i:=i) h e);have HN:=hid (fun i h e=>XC (V:=V) (i:=i) h e);go_wp2_with fail
  go_loopw [15] (fun iv wr=>∃i:Nat,i<=V.length/\iv=.int .i64 i/\Hid (∀j,j< i ->mY V j=0)/\Hid (Below w.heap.size w wr)) (fun iv _=>V.length - (intOf iv).toNat)
  case atStart=>exact⟨0,aU _,rfl,fun j h=>absurd h (by omega),eR⟩
  case round=>
   obtain⟨i,hi,rfl,xL,HB⟩:=hrel;clear eR;by_cases hlt:i<V.length
   ·obtain⟨g,o,b',c',rfl,hg,c0,c1,A2,sB⟩:=(HF.o.aa HB.o) i hlt;have hsm:=Iu.o.2 V[i] (bH hlt);have uB:=hid (fun e=>HA.o i hlt xL.o 2 (HL.o i hlt e) (by decide));have j7:=hid (fun e k hk hk0=>HA.o i hlt xL.o k ((HN.o i hlt e).trans hk) hk0);have rL:=hid (fun e (hk:iw V[i].2=0)=>Eh xL.o ((HN.o i hlt e).trans hk));generalize V[i]=v at *;obtain⟨nm,vs⟩:=v;simp only at c0 c1 A2 sB hsm uB j7 rL;obtain⟨d0,d1⟩:=Q5 wr (.string nm) (.slice b' vs.length c');have aN:=(au _ wr).alloc (ar _) (VC (.string nm) (.slice b' vs.length c'));have dC:=hid (HB.o.trans (aN.ae HB.o.size));have HST:=hid (A2.aa aN);have uq:=hid hsm.2.2;have hvl:=hsm.2.1;clear aN hsm A2;by_cases h1:1<=vs.length
    ·by_cases h4:vs.length<=4
     ·have e1:(1:Int)<=(vs.length:Int):=by omega
      (have e2:(vs.length:Int)<=4:=by omega);have HNN:=hid (j7.o ⟨h1,h4⟩);have Bo:=hid (rL.o ⟨h1,h4⟩);clear uB j7 rL;go_wp2_with fail
      refine(acE b' c' vs _ HST.o (by omega) sB (fun s hs'=>by have:=uq.o s hs';omega)).ae ?_;rintro e w3 ⟨rfl,rfl⟩;generalize iw vs=q at *;by_cases hq:q=0
      ·subst hq;have VF:=hid (Bo.o rfl);go_wp2;go_roundw
       case rel=>exact⟨i+1,by omega,by go_num,VF,dC⟩
       case measure=>simp[intOf];omega
      ·have HQ:=hid (HNN.o q rfl hq);(have Tn:(q==0)=false:=by simpa using hq);clear hq;go_wp2;go_ret;exact⟨by rw[HQ.o];rfl,dC.o⟩
     ·have HQ:=hid (uB.o fun h=>h4 h.2);(have e1:(1:Int)<=(vs.length:Int):=by omega);(have e2:(4:Int)<(vs.length:Int):=by omega);clear h4 uB j7 rL;go_wp2;go_ret;exact⟨by rw[HQ.o];rfl,dC.o⟩
    ·have HQ:=hid (uB.o fun h=>h1 h.1);(have e1:(vs.length:Int)<1:=by omega);clear h1 uB j7 rL;go_wp2;go_ret;exact⟨by rw[HQ.o];rfl,dC.o⟩
   ·obtain rfl:i=V.length:=by omega
    have HQ:=hid (HZ.o xL.o);go_wp2;go_ret;exact⟨by rw[HQ.o];rfl,HB.o⟩
 ·have HE:=hid (fB.o h0);have jA:(ne==0)=false:=by simpa using h0
  clear h0 fB dZ;go_wp2;go_ret;exact⟨by rw[HE.o];rfl,eR.o⟩
variable {p:Rat}
def iJ (l:List Fr):Bool:=(l.all fun f=>decide (¬aT f<0))&&decide (aV l=1)
theorem Pk:cQ p 0<0↔p<0:=by
 rw[cQ];by_cases h:p<0
 ·rw[aaf h];exact⟨fun _=>h,fun _=>by decide⟩
 ·rw[aaO h];by_cases e:p=0
  ·rw[aaf e];exact⟨fun h=>absurd h (by decide),fun h'=>absurd h' h⟩
  ·rw[aaO e];exact⟨fun h=>absurd h (by decide),fun h'=>absurd h' h⟩
theorem alI:(cQ p 1==0)=decide (p=1):=by
 rw[ac6,rp,ei,cQ];by_cases h:p<1
 ·rw[aaf h];exact⟨fun h=>absurd h (by decide),fun e=>by rw[e] at h;exact absurd h (by decide)⟩
 ·rw[aaO h];by_cases e:p=1
  ·rw[aaf e];exact⟨fun _=>e,fun _=>rfl⟩
  ·rw[aaO e];exact⟨fun h=>absurd h (by decide),fun h'=>absurd h' e⟩
theorem YW {l:List Fr} (h:i<l.length) (e:aT l[i]<0):iJ l=false:=by
 have:(l.all fun f=>decide (¬aT f<0))=false:=by
  rw[Gw];exact⟨l[i],bH h,by simpa using e⟩
 rw[iJ,this];rfl
theorem YX {l:List Fr} (h:∀i (hi:i<l.length),¬aT l[i]<0):iJ l=decide (aV l=1):=by
 have:(l.all fun f=>decide (¬aT f<0))=true:=by
  rw[eJ];intro f hf;obtain⟨i,hi,rfl⟩:=iE hf;exact cJ (h i hi)
 rw[iJ,this,Jj]
theorem Zf:qw 1<=2:=by
 show (B 1).size+(B 1).size<=2;have:=MB;omega
theorem abX {l:List Fr} (h:i<l.length) (hw:fw l<=10000):l[i].2.1.size+l[i].2.2.size<=10000:=by have:=O1 (bH h);omega
theorem aiN (a:Option Addr) (ca:Nat) (l:List Fr) (w:World) (h:bZ w a l) (hw:fw l<=10000) (hn:l.length<=10000):
  Calls Tryz.prog 177 #[.slice a l.length ca] w fun e w'=>e=.returned (.bool (iJ l))/\Below w.heap.size w w':=by
 have HF:=hid h;have HW:=hid hw;have HO:=hid (fun V:World=>Lb (k:=0) (w:=V) 0 0 rfl (by decide) (by rfl));have uw:=hid (fun V:World=>Lb (k:=1) (w:=V) 1 1 rfl (by decide) (by rfl));have HS:=hid (fun (V:World) (hV:bZ V a l)=>ak1 a ca l V hV hw hn);have HN:=hid (fun i h e=>YW (l:=l) (i:=i) h e);have HA:=hid (fun h=>YX (l:=l) h)
 have HQ:Hid (val (aH (aV l)) (nu (aV l)) (de (aV l))=aV l/\(nu (aV l)).size+(de (aV l)).size<=100000):=⟨gC _,by
  have h1:=O7 (UR l);rw[ng];omega⟩
 have HZ:Hid (val (aH 0) (nu 0) (de 0)=0/\(nu 0).size+(de 0).size<=100000):=⟨gC _,by have:=GZ;rw[ng];omega⟩
 have H1:Hid (val (aH 1) (nu 1) (de 1)=1/\(nu 1).size+(de 1).size<=100000):=⟨gC _,by
  have h1:qw 1<=2:=Zf;rw[ng];omega⟩
 generalize iJ l=rb at *;clear h hw;simp only[C] at HO uw HS;generalize aH 0=zn at *;generalize nu 0=zx at *;generalize de 0=zy at *;generalize aH 1=on at *;generalize nu 1=ox at *;generalize de 1=oy at *;go_enter Tryz.func177,Tryz.ntmps177;go_wp2_with fail
 refine(HO.o _).ae ?_;rintro e w1 ⟨rfl,hb1⟩;have Qs:=hid (hb1.alloc hb1.size (FC zn zx zy));have Tf:=hid (aC.new w1 zn zx zy);have hw1:=hb1.size;clear hb1;go_wp2_with fail
 generalize (w1.alloc (FC zn zx zy))=w2 at *;generalize w1.heap.size=B at *;go_loopw [9] (fun iv wr=>∃i:Nat,i<=l.length/\iv=.int .i64 i/\Hid (∀j (hj:j<l.length),j< i ->¬aT l[j]<0)/\Hid (aC wr B zn zx zy)/\Hid (Below w.heap.size w wr)) (fun iv _=>l.length - (intOf iv).toNat)
 case atStart=>exact⟨0,aU _,rfl,fun j _ h=>absurd h (by omega),Tf,Qs⟩
 case round=>
  obtain⟨i,hi,rfl,HP,HX,HB⟩:=hrel;clear Tf Qs;by_cases hlt:i<l.length
  ·obtain⟨g,o,rfl,hg,c0,c1,c2⟩:=(HF.o.aa HB.o) i hlt;have fN:=abX hlt HW.o;have j7:=hid (HN.o i hlt)
   have pH:Hid (¬aT l[i]< 0 ->∀j (hj:j<l.length),j<i+1 ->¬aT l[j]<0):=fun h j hj ml=>by
    rcases cD j i with h2 |h2
    ·exact HP.o j hj h2
    ·obtain rfl:j=i:=by omega
     exact h
   generalize l[i]=f at *;obtain⟨fn,fx,fy⟩:=f;simp only at c0 c1 c2 fN;have aN:=(au _ wr).alloc (ar _) (FC fn fx fy);obtain⟨k0,k1,k2, -⟩:=(aC.new wr fn fx fy).facts;have T4:=HX.o.aa aN HX.o.lt;obtain⟨z0,z1,z2, -⟩:=T4.facts;have Ik:=hid T4;have dC:=hid (HB.o.trans (aN.ae HB.o.size));clear aN T4;go_wp2_with fail
   generalize (wr.alloc (FC fn fx fy))=w3 at *;refine(O9 (w:=w3) (cQ (val fn fx fy) 0) rfl HZ.o.1 rfl (by omega) HZ.o.2).ae ?_;rintro e w4 ⟨rfl,hb4⟩;have Bu:=hid (Ik.o.aa hb4 Ik.o.lt);have fV:=hid (dC.o.trans (hb4.ae dC.o.size));clear k0 k1 k2 z0 z1 z2 hb4;by_cases tO:val fn fx fy<0
   ·have HE:=hid (j7.o tO);have hc:cQ (val fn fx fy) 0<0:=Pk.2 tO;clear tO;generalize cQ (val fn fx fy) 0=q at *;go_wp2;go_ret;exact⟨by rw[HE.o];rfl,fV.o⟩
   ·have HE:=hid (pH.o tO)
    have hc:0<=cQ (val fn fx fy) 0:=by
     have:¬cQ (val fn fx fy) 0<0:=fun h=>tO (Pk.1 h);omega
    clear tO;generalize cQ (val fn fx fy) 0=q at *;go_wp2;go_roundw
    case rel=>exact⟨i+1,by omega,by go_num,HE,Bu,fV⟩
    case measure=>simp[intOf];omega
  ·obtain rfl:i=l.length:=by omega
   have HE:=hid (HA.o fun j hj=>HP.o j hj hj);have WQ:=hid (alI (p:=aV l));generalize aV l=s at *;go_wp2_with fail
   refine(HS.o _ (HF.o.aa HB.o)).ae ?_;rintro e w5 ⟨rfl,hb5⟩;have eD:=hid (HB.o.trans (hb5.ae HB.o.size));clear hb5;go_wp2_with fail
   refine(uw.o _).ae ?_;rintro e w6 ⟨rfl,bD⟩;have IY:=hid (eD.o.trans (bD.ae eD.o.size));clear bD;go_wp2_with fail
   refine(O9 (w:=w6) (cQ s 1) HQ.o.1 H1.o.1 rfl HQ.o.2 H1.o.2).ae ?_;rintro e w7 ⟨rfl,bK⟩;have HB7:=hid (IY.o.trans (bK.ae IY.o.size));clear bK;go_wp2;go_ret;exact⟨by rw[HE.o, <- WQ.o];rfl,HB7.o⟩
end Go.Proofs.YtdnhgjeihdllbaaGreatDoor
