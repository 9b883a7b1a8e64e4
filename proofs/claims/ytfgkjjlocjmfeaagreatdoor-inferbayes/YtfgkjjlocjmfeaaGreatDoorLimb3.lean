/- Part3: part 3. -/
import Derived.Test.YtfgkjjlocjmfeaaGreatDoorLimb2
set_option maxRecDepth 100000
set_option maxHeartbeats 400000000
set_option linter.unusedSimpArgs false
set_option linter.unusedVariables false
namespace Go.Proofs.YtfgkjjlocjmfeaaGreatDoor
open Go.RowKit Go.Shelf
variable {V:List Vr} {g i:Nat} {w w':World}
theorem agZ {l:List Nat} {x:Nat} (h:l[i]? =some x):iL (l.take (i+1))=iL (l.take i)++[(x:Int)]:=by
 obtain⟨h1,h2⟩:=nY.1 h;rw[fP h1,h2,OV];rfl
theorem adQ (a b c:Option Addr) (ca cb cc n m:Nat) (V:List Vr) (w:World) (h:rY w a V) (hV:V.length<=5000):
  Calls Tryz.prog 54 #[.agg #[.slice a V.length ca,.slice b n cb,.slice c m cc]] w fun e w'=>∃x,e=.returned x/\bA w' w.heap.size x (iL (ar V))/\Below w.heap.size w w':=by
 obtain⟨i0,bY,hz0,hz1,hz2⟩:=dH Tryz.infoInt;have HF:=hid h;have HG:Hid (∀i (h:i<V.length),(ar V)[i]? =some V[i].2.length):=fun i h=>FY h;have cZ:=kI V;generalize ar V=ds at *;clear h;have hN:=cR.at (w:=w) rfl (.slice a V.length ca) (.slice b n cb) (.slice c m cc);have CZ:=hid ((au _ w).alloc (aq _) (NC (.slice a V.length ca) (.slice b n cb) (.slice c m cc)));go_enter Tryz.func54,Tryz.ntmps54;go_wp2_with fail
 generalize (w.alloc (NC (.slice a V.length ca) (.slice b n cb) (.slice c m cc)))=w1 at *;have HN:=hid hN;clear hN;go_loopw [3,4] (fun xv iv wr=>∃i:Nat,i<=V.length/\iv=.int .i64 i/\Hid (bA wr (w.heap.size+1) xv (iL (ds.take i)))/\Hid (Below (w.heap.size+1) w1 wr)) (fun _ iv _=>V.length - (intOf iv).toNat)
 case atStart=>exact⟨0,aU _,rfl,⟨rfl,.inl ⟨rfl,rfl⟩⟩,au _ _⟩
 case round=>
  obtain⟨i,hi,rfl,HR,HB⟩:=hrel;have wK:=HN.o.aa HB.o (by omega);obtain⟨c0, -, -⟩:=wK.cells;have hw1:=HN.o.lt;have xw:Hid (Below w.heap.size w wr):=CZ.o.trans (HB.o.af (by omega));by_cases hlt:i<V.length
  ·obtain⟨g,o,b',c',rfl,hg, -,c1, -, -⟩:=(HF.o.aa xw.o) i hlt;have AA:=hid (agZ (HG.o i hlt))
   have q8:Hid ((iL (ds.take i)).length<=5000):=by
    show (iL (ds.take i)).length<=5000;rw[bs,dP];omega
   generalize V[i]=v at *;obtain⟨nm,vs⟩:=v;simp only at c1 AA;have nP:=hid HR.o.own;have mM:Hid (bA (wr.alloc (.cells #[.int .i64 (vs.length:Nat)] 3)) (w.heap.size+1) _ (iL (ds.take i))):=E9 HR.o _;have hsz:w.heap.size+1<=wr.heap.size:=wK.lt;have bW:=hid (HB.o.alloc hsz (.cells #[.int .i64 (vs.length:Nat)] 3));have kY:=hid (Dy wr (vs.length:Nat));(have KO:w.heap.size+1<=(wr.alloc (.cells #[.int .i64 (vs.length:Nat)] 3)).heap.size:=by simp;omega);clear wK;go_wp2_with (at_builtin;refine vO rfl _ _ rfl (w.heap.size+1) _ (iL (ds.take i)) [((vs.length:Nat):Int)] rfl mM.o (some ⟨wr.heap.size,0,none⟩) 1 rfl kY.o (fun e=>by cases e) (by have:=q8.o;simp;omega) KO ?_;intro v' w3 hr3 hg3)
   have kV:=hid hr3;have eZ:=hid (bW.o.grown hg3 KO nP.o);clear hr3 hg3;go_roundw
   case rel=>exact⟨i+1,by omega,by go_num,by rw[AA.o];exact kV,eZ⟩
   case measure=>simp[intOf];omega
  ·obtain rfl:i=V.length:=by omega
   have jz:=HR.o;rw[jn (by omega)] at jz;have cC:=hid (show bA wr w.heap.size _ (iL ds) from ⟨jz.1,jz.2.imp id fun ⟨g,cap,cur,h1,h2,h3⟩=>⟨g,cap,cur,h1,by omega,h3⟩⟩);clear jz wK;go_wp2;go_ret;exact⟨_,rfl,cC.o,xw.o⟩
def mo (w:World) (g:Nat) (l:List ByteArray):Prop:=w.heap[g]? =some (.cells (l.map Value.string).toArray 9 (0,0))
theorem mo.cell {l:List ByteArray} (h:mo w g l) (j:Nat) (hj:j<l.length):w.cell? ⟨g,j,none⟩=some (.string l[j]):=by
 rw[bX w g j _ _ (0,0) h];simp[hj]
theorem mo.fz {l:List ByteArray} (h:mo w g l) (j:Nat):w.frozen? ⟨g,j,none⟩=false:=kZ w g j _ _ h
theorem mo.lt {l:List ByteArray} (h:mo w g l):g<w.heap.size:=(dm.1 h).1
theorem mo.aa {b:Nat} {l:List ByteArray} (h:mo w g l) (hb:Below b w w') (hg:g<b):mo w' g l:=(hb.block g hg).trans h
theorem mo.set {l:List ByteArray} (h:mo w g l) (j:Nat) (y:ByteArray):mo (w.setCell ⟨g,j,none⟩ (.string y)) g (l.set j y):=by
 have h2:=jY w g j _ _ (.string y) h;rw[mo,h2];simp[A5]
theorem mo.st {l:List ByteArray} (h:mo w g l):qQ w (some ⟨g,0,none⟩) l:=fun k hk=>⟨g,0,rfl,h.lt,by rw[bD];exact h.cell k hk⟩
theorem ago (n:Nat):(madeCells (Value.string ⟨#[]⟩).cells (n*1)).toList=(List.replicate n (⟨#[]⟩:ByteArray)).map Value.string:=by
 rw[show (Value.string ⟨#[]⟩).cells= #[Value.string ⟨#[]⟩] from rfl,E7,nW,Jq]
theorem Tryz.infoStr:(Tryz.prog.info? 9).map (fun i=>(i.zero,i.size,i.bytes))=some (some (.string ⟨#[]⟩),1,16):=by kernel_rfl
def sP (l:List ByteArray) (i:Nat):List ByteArray:=l.take i++List.replicate (l.length - i) ⟨#[]⟩
theorem aeI (l:List ByteArray):sP l 0=List.replicate l.length ⟨#[]⟩:=by simp[sP]
theorem Vq (l:List ByteArray) (h:i<=l.length):(sP l i).length=l.length:=by simp[sP];omega
theorem aeK (l:List ByteArray):sP l l.length=l:=by simp[sP]
theorem aeJ (l:List ByteArray) (h:i<l.length):(sP l i).set i l[i]=sP l (i+1):=by
 have h1:l.length - i=(l.length - (i+1))+1:=by omega
 have h2:(l.take i).length=i:=by rw[dP];omega
 rw[sP,sP,h1,Fp,A3 _ _ (by omega),h2,oX,A2,fP h,nZ];rfl
def j9 (V:List Vr):List ByteArray:=V.map fun x=>x.1
theorem Wv (V:List Vr):(j9 V).length=V.length:=by simp[j9]
theorem afJ (h:i<V.length):(j9 V)[i]? =some V[i].1:=by simp[j9,h]
theorem afK (a:Option Addr) (ca:Nat) (V:List Vr) (w:World) (h:rY w a V) (hV:V.length<=5000):
  Calls Tryz.prog 175 #[.slice a V.length ca] w fun e w'=>∃G,e=.returned (.slice (some ⟨G,0,none⟩) V.length V.length)/\mo w' G (j9 V)/\Below w.heap.size w w':=by
 obtain⟨i0,bY,hz0,hz1,hz2⟩:=dH Tryz.infoStr;have HF:=hid h;have HG:Hid (∀i (h:i<V.length),(j9 V)[i]? =some V[i].1):=fun i h=>afJ h;have cZ:=Wv V;generalize j9 V=ds at *;clear h;go_enter Tryz.func175,Tryz.ntmps175
 go_wp2_with (first
  |(at_make;refine mR _ rfl _ _ 67 rfl w.heap.size 9 i0 (.string ⟨#[]⟩) 1 Tryz.underlying67 bY hz0 hz1 .i64 .i64 _ _ V.length rfl rfl (by go_num) (by go_num) (by rw[hz2];omega) (by unfold maxLen;omega) (aq _) ?_;intro w2 hown2 hgrow2))
 have hb2:=pS hown2;rw[ago] at hb2;have bB:Hid (Below w.heap.size w w2):=(au _ w).grown hgrow2 (aq _) (fun k e=>by cases e);have HI:Hid (mo w2 w.heap.size (List.replicate V.length ⟨#[]⟩)):=hb2;clear hown2 hgrow2 hb2;go_wp2_with fail
 go_loopw [11] (fun iv wr=>∃i:Nat,i<=V.length/\iv=.int .i64 i/\Hid (mo wr w.heap.size (sP ds i))/\Hid (Below w.heap.size w wr)) (fun iv _=>V.length - (intOf iv).toNat)
 case atStart=>exact⟨0,aU _,rfl,by rw[aeI,cZ];exact HI,bB⟩
 case round=>
  obtain⟨i,hi,rfl,HR,HB⟩:=hrel;clear HI bB;by_cases hlt:i<V.length
  ·obtain⟨g,o,b',c',rfl,hg,c0,c1, -, -⟩:=(HF.o.aa HB.o) i hlt;obtain⟨qu,pL⟩:=nY.1 (HG.o i hlt);have pX:=hid (aeJ ds qu);rw[pL] at pX;generalize V[i]=v at *;obtain⟨nm,vs⟩:=v;simp only at c0 c1 pX;obtain⟨d0,d1⟩:=Dg wr (.string nm) (.slice b' vs.length c');have bc:=(au _ wr).alloc (aq _) (VC (.string nm) (.slice b' vs.length c'));have yq:=HR.o.aa bc HR.o.lt;have k0:=yq.cell i (by rw[Vq _ (by omega)];omega);have f0:=yq.fz i;have hS:=yq.set i nm;rw[pX.o] at hS;have HS:=hid hS;have CX:=hid ((HB.o.trans (bc.af HB.o.size)).setCell (p:=⟨w.heap.size,i,none⟩) (aq _) (.string nm));generalize (sP ds i)[i]'(by rw[Vq _ (by omega)];omega)=z at *;clear qu pL bc yq hS;go_wp2;go_roundw
   case rel=>exact⟨i+1,by omega,by go_num,HS,CX⟩
   case measure=>simp[intOf];omega
  ·obtain rfl:i=V.length:=by omega
   have jz:=HR.o;rw[<- cZ,aeK] at jz;have cC:=hid jz;clear jz;go_wp2;go_ret;exact⟨w.heap.size,rfl,cC.o,HB.o⟩
def om (V:List Vr) (i:Nat):Int:=if 1<=(V.getD i (⟨#[]⟩,[])).2.length/\(V.getD i (⟨#[]⟩,[])).2.length<=4 then l6 (V.getD i (⟨#[]⟩,[])).2 else 2
def lY (V:List Vr):Int:=if l6 (j9 V)=0 then iD (om V) V.length else l6 (j9 V)
theorem QR (h:i<V.length):V.getD i (⟨#[]⟩,[])=V[i]:=by rw[bU,a8 h];rfl
def VSm (V:List Vr):Prop:=V.length<=5000/\∀x∈V,x.1.size<=5000/\x.2.length<=5000/\∀s∈x.2,s.size<=5000
theorem ab6 (h:i<V.length) (e:¬(1<=V[i].2.length/\V[i].2.length<=4)):om V i=2:=by rw[om,QR h,aD e]
theorem ab5 (h:i<V.length) (e:1<=V[i].2.length/\V[i].2.length<=4):om V i=l6 V[i].2:=by rw[om,QR h,aA e]
theorem ajR (a:Option Addr) (ca:Nat) (V:List Vr) (w:World) (h:rY w a V) (hs:VSm V):
  Calls Tryz.prog 131 #[.slice a V.length ca] w fun e w'=>e=.returned (.int .i64 (lY V))/\Below w.heap.size w w':=by
 have HF:=hid h;have R2:=hid hs;have hV:=hs.1;have q9:Hid (l6 (j9 V)≠0 ->lY V=l6 (j9 V)):=fun h=>aD h;have oT:Hid (l6 (j9 V)=0 ->lY V=iD (om V) V.length):=fun h=>aA h;have hnl:=Wv V
 have HNS:Hid (∀s∈j9 V,s.size<=140737488355328):=fun s hs'=>by
  obtain⟨x,hx,rfl⟩:=aW.1 hs';have:=(hs.2 x hx).1;omega
 have gG:=hid (fun (V':World) (hV':rY V' a V)=>afK a ca V V' hV' hV)
 have My:Hid (∀(G:Nat) (V':World),mo V' G (j9 V) ->Calls Tryz.prog 174 #[.slice (some ⟨G,0,none⟩) V.length V.length] V' fun e w'=>e=.returned (.int .i64 (l6 (j9 V)))/\w'=V'):=fun G V' hR=>by
  have:=aaF (some ⟨G,0,none⟩) V.length (j9 V) V' hR.st (by omega) (by omega) HNS.o;rwa [hnl] at this
 generalize lY V=ve at *;generalize l6 (j9 V)=ne at *;clear h hs hnl HNS;go_enter Tryz.func131,Tryz.ntmps131;go_wp2_with fail
 refine(gG.o _ HF.o).af ?_;rintro e w1 ⟨G,rfl,hR,hb1⟩;have HR:=hid hR;have eU:=hid hb1;clear hR hb1 gG;go_wp2_with fail
 refine(My.o G _ HR.o).af ?_;rintro e w2 ⟨rfl,rfl⟩;by_cases h0:ne=0
 ·subst h0;have HE:=hid (oT.o rfl);clear q9 oT My HR;have HA:Hid (∀i,i<V.length ->(∀j,j< i ->om V j=0) ->∀k,om V i=k ->k≠0 ->ve=k):=fun i hi hz k hk hk0=>by rw[HE.o,Hy hz (by rw[hk];exact hk0) hi,hk]
  have HZ:Hid ((∀j,j<V.length ->om V j=0) ->ve=0):=fun h=>by rw[HE.o];exact yC h
  have HL:=hid (fun i h e=>ab6 (V:=V) (i:=i) h e);have HN:=hid (fun i h e=>ab5 (V:=V) (i:=i) h e);go_wp2_with fail
  go_loopw [15] (fun iv wr=>∃i:Nat,i<=V.length/\iv=.int .i64 i/\Hid (∀j,j< i ->om V j=0)/\Hid (Below w.heap.size w wr)) (fun iv _=>V.length - (intOf iv).toNat)
  case atStart=>exact⟨0,aU _,rfl,fun j h=>absurd h (by omega),eU⟩
  case round=>
   obtain⟨i,hi,rfl,LV,HB⟩:=hrel;clear eU;by_cases hlt:i<V.length
   ·obtain⟨g,o,b',c',rfl,hg,c0,c1,Qt,qC⟩:=(HF.o.aa HB.o) i hlt;have hsm:=R2.o.2 V[i] (bM hlt);have ET:=hid (fun e=>HA.o i hlt LV.o 2 (HL.o i hlt e) (by decide));have si:=hid (fun e k hk hk0=>HA.o i hlt LV.o k ((HN.o i hlt e).trans hk) hk0);have Ix:=hid (fun e (hk:l6 V[i].2=0)=>MU LV.o ((HN.o i hlt e).trans hk));generalize V[i]=v at *;obtain⟨nm,vs⟩:=v;simp only at c0 c1 Qt qC hsm ET si Ix;obtain⟨d0,d1⟩:=Dg wr (.string nm) (.slice b' vs.length c');have bc:=(au _ wr).alloc (aq _) (VC (.string nm) (.slice b' vs.length c'));have bW:=hid (HB.o.trans (bc.af HB.o.size));have HST:=hid (Qt.aa bc);have tE:=hid hsm.2.2;have ie:=hsm.2.1;clear bc hsm Qt;by_cases h1:1<=vs.length
    ·by_cases h4:vs.length<=4
     ·have e1:(1:Int)<=(vs.length:Int):=by omega
      (have e2:(vs.length:Int)<=4:=by omega);have HNN:=hid (si.o ⟨h1,h4⟩);have HZZ:=hid (Ix.o ⟨h1,h4⟩);clear ET si Ix;go_wp2_with fail
      refine(aaF b' c' vs _ HST.o (by omega) qC (fun s hs'=>by have:=tE.o s hs';omega)).af ?_;rintro e w3 ⟨rfl,rfl⟩;generalize l6 vs=q at *;by_cases hq:q=0
      ·subst hq;have HZ2:=hid (HZZ.o rfl);go_wp2;go_roundw
       case rel=>exact⟨i+1,by omega,by go_num,HZ2,bW⟩
       case measure=>simp[intOf];omega
      ·have HQ:=hid (HNN.o q rfl hq);(have hqb:(q==0)=false:=by simpa using hq);clear hq;go_wp2;go_ret;exact⟨by rw[HQ.o];rfl,bW.o⟩
     ·have HQ:=hid (ET.o fun h=>h4 h.2);(have e1:(1:Int)<=(vs.length:Int):=by omega);(have e2:(4:Int)<(vs.length:Int):=by omega);clear h4 ET si Ix;go_wp2;go_ret;exact⟨by rw[HQ.o];rfl,bW.o⟩
    ·have HQ:=hid (ET.o fun h=>h1 h.1);(have e1:(vs.length:Int)<1:=by omega);clear h1 ET si Ix;go_wp2;go_ret;exact⟨by rw[HQ.o];rfl,bW.o⟩
   ·obtain rfl:i=V.length:=by omega
    have HQ:=hid (HZ.o LV.o);go_wp2;go_ret;exact⟨by rw[HQ.o];rfl,HB.o⟩
 ·have HE:=hid (q9.o h0);have rL:(ne==0)=false:=by simpa using h0
  clear h0 q9 oT;go_wp2;go_ret;exact⟨by rw[HE.o];rfl,eU.o⟩
variable {p:Rat}
def jH (l:List Fr):Bool:=(l.all fun f=>decide (¬a7 f<0))&&decide (bH l=1)
theorem aaC:fB p 0<0↔p<0:=by
 rw[fB];by_cases h:p<0
 ·rw[aA h];exact⟨fun _=>h,fun _=>by decide⟩
 ·rw[aD h];by_cases e:p=0
  ·rw[aA e];exact⟨fun h=>absurd h (by decide),fun h'=>absurd h' h⟩
  ·rw[aD e];exact⟨fun h=>absurd h (by decide),fun h'=>absurd h' h⟩
theorem ajJ:(fB p 1==0)=decide (p=1):=by
 rw[tZ,p8,eh,fB];by_cases h:p<1
 ·rw[aA h];exact⟨fun h=>absurd h (by decide),fun e=>by rw[e] at h;exact absurd h (by decide)⟩
 ·rw[aD h];by_cases e:p=1
  ·rw[aA e];exact⟨fun _=>e,fun _=>rfl⟩
  ·rw[aD e];exact⟨fun h=>absurd h (by decide),fun h'=>absurd h' e⟩
theorem adx {l:List Fr} (h:i<l.length) (e:a7 l[i]<0):jH l=false:=by
 have:(l.all fun f=>decide (¬a7 f<0))=false:=by
  rw[De];exact⟨l[i],bM h,by simpa using e⟩
 rw[jH,this];rfl
theorem ady {l:List Fr} (h:∀i (hi:i<l.length),¬a7 l[i]<0):jH l=decide (bH l=1):=by
 have:(l.all fun f=>decide (¬a7 f<0))=true:=by
  rw[fE];intro f hf;obtain⟨i,hi,rfl⟩:=iZ hf;exact cS (h i hi)
 rw[jH,this,Df]
theorem ad7:qw 1<=2:=by
 show (B 1).size+(B 1).size<=2;have:=ME;omega
theorem aiw {l:List Fr} (h:i<l.length) (hw:fw l<=10000):l[i].2.1.size+l[i].2.2.size<=10000:=by have:=QX (bM h);omega
theorem agM (a:Option Addr) (ca:Nat) (l:List Fr) (w:World) (h:dA w a l) (hw:fw l<=10000) (hn:l.length<=10000):
  Calls Tryz.prog 177 #[.slice a l.length ca] w fun e w'=>e=.returned (.bool (jH l))/\Below w.heap.size w w':=by
 have HF:=hid h;have HW:=hid hw;have HO:=hid (fun V:World=>H5 (k:=0) (w:=V) 0 0 rfl (by decide) (by rfl));have q7:=hid (fun V:World=>H5 (k:=1) (w:=V) 1 1 rfl (by decide) (by rfl));have HS:=hid (fun (V:World) (hV:dA V a l)=>ai2 a ca l V hV hw hn);have HN:=hid (fun i h e=>adx (l:=l) (i:=i) h e);have HA:=hid (fun h=>ady (l:=l) h)
 have HQ:Hid (val (aM (bH l)) (nu (bH l)) (de (bH l))=bH l/\(nu (bH l)).size+(de (bH l)).size<=100000):=⟨gi _,by
  have h1:=Lz (Z6 l);rw[nj];omega⟩
 have HZ:Hid (val (aM 0) (nu 0) (de 0)=0/\(nu 0).size+(de 0).size<=100000):=⟨gi _,by have:=Vb;rw[nj];omega⟩
 have H1:Hid (val (aM 1) (nu 1) (de 1)=1/\(nu 1).size+(de 1).size<=100000):=⟨gi _,by
  have h1:qw 1<=2:=ad7;rw[nj];omega⟩
 generalize jH l=rb at *;clear h hw;simp only[C] at HO q7 HS;generalize aM 0=zn at *;generalize nu 0=zx at *;generalize de 0=zy at *;generalize aM 1=on at *;generalize nu 1=ox at *;generalize de 1=oy at *;go_enter Tryz.func177,Tryz.ntmps177;go_wp2_with fail
 refine(HO.o _).af ?_;rintro e w1 ⟨rfl,hb1⟩;have CZ:=hid (hb1.alloc hb1.size (FC zn zx zy));have HZB:=hid (aF.new w1 zn zx zy);have hw1:=hb1.size;clear hb1;go_wp2_with fail
 generalize (w1.alloc (FC zn zx zy))=w2 at *;generalize w1.heap.size=B at *;go_loopw [9] (fun iv wr=>∃i:Nat,i<=l.length/\iv=.int .i64 i/\Hid (∀j (hj:j<l.length),j< i ->¬a7 l[j]<0)/\Hid (aF wr B zn zx zy)/\Hid (Below w.heap.size w wr)) (fun iv _=>l.length - (intOf iv).toNat)
 case atStart=>exact⟨0,aU _,rfl,fun j _ h=>absurd h (by omega),HZB,CZ⟩
 case round=>
  obtain⟨i,hi,rfl,HP,HX,HB⟩:=hrel;clear HZB CZ;by_cases hlt:i<l.length
  ·obtain⟨g,o,rfl,hg,c0,c1,c2⟩:=(HF.o.aa HB.o) i hlt;have kM:=aiw hlt HW.o;have si:=hid (HN.o i hlt)
   have yP:Hid (¬a7 l[i]< 0 ->∀j (hj:j<l.length),j<i+1 ->¬a7 l[j]<0):=fun h j hj pH=>by
    rcases cT j i with h2 |h2
    ·exact HP.o j hj h2
    ·obtain rfl:j=i:=by omega
     exact h
   generalize l[i]=f at *;obtain⟨fn,fx,fy⟩:=f;simp only at c0 c1 c2 kM;have bc:=(au _ wr).alloc (aq _) (FC fn fx fy);obtain⟨k0,k1,k2, -⟩:=(aF.new wr fn fx fy).facts;have Qo:=HX.o.aa bc HX.o.lt;obtain⟨z0,z1,z2, -⟩:=Qo.facts;have jC:=hid Qo;have bW:=hid (HB.o.trans (bc.af HB.o.size));clear bc Qo;go_wp2_with fail
   generalize (wr.alloc (FC fn fx fy))=w3 at *;refine(Q8 (w:=w3) (fB (val fn fx fy) 0) rfl HZ.o.1 rfl (by omega) HZ.o.2).af ?_;rintro e w4 ⟨rfl,hb4⟩;have yJ:=hid (jC.o.aa hb4 jC.o.lt);have eY:=hid (bW.o.trans (hb4.af bW.o.size));clear k0 k1 k2 z0 z1 z2 hb4;by_cases D9:val fn fx fy<0
   ·have HE:=hid (si.o D9);have hc:fB (val fn fx fy) 0<0:=aaC.2 D9;clear D9;generalize fB (val fn fx fy) 0=q at *;go_wp2;go_ret;exact⟨by rw[HE.o];rfl,eY.o⟩
   ·have HE:=hid (yP.o D9)
    have hc:0<=fB (val fn fx fy) 0:=by
     have:¬fB (val fn fx fy) 0<0:=fun h=>D9 (aaC.1 h);omega
    clear D9;generalize fB (val fn fx fy) 0=q at *;go_wp2;go_roundw
    case rel=>exact⟨i+1,by omega,by go_num,HE,yJ,eY⟩
    case measure=>simp[intOf];omega
  ·obtain rfl:i=l.length:=by omega
   have HE:=hid (HA.o fun j hj=>HP.o j hj hj);have HCS:=hid (ajJ (p:=bH l));generalize bH l=s at *;go_wp2_with fail
   refine(HS.o _ (HF.o.aa HB.o)).af ?_;rintro e w5 ⟨rfl,hb5⟩;have eT:=hid (HB.o.trans (hb5.af HB.o.size));clear hb5;go_wp2_with fail
   refine(q7.o _).af ?_;rintro e w6 ⟨rfl,eA⟩;have AQ:=hid (eT.o.trans (eA.af eT.o.size));clear eA;go_wp2_with fail
   refine(Q8 (w:=w6) (fB s 1) HQ.o.1 H1.o.1 rfl HQ.o.2 H1.o.2).af ?_;rintro e w7 ⟨rfl,c5⟩;have HB7:=hid (AQ.o.trans (c5.af AQ.o.size));clear c5;go_wp2;go_ret;exact⟨by rw[HE.o, <- HCS.o];rfl,HB7.o⟩
theorem UZ (w:World):Calls Tryz.prog 22 #[.int .i64 0] w fun e w'=>e=.returned (.agg #[.bool (aM 0),.string (nu 0),.string (de 0)])/\Below w.heap.size w w':=by
 have:=J7 0 w (by omega) (by omega);exact this
theorem adS (w:World):Calls Tryz.prog 22 #[.int .i64 1] w fun e w'=>e=.returned (.agg #[.bool (aM 1),.string (nu 1),.string (de 1)])/\Below w.heap.size w w':=by
 have:=J7 1 w (by omega) (by omega);exact this
theorem aiS (Bt Bf Bv:Nat) (c:Option Addr) (cc:Nat) (lb:Array Value) (l:List Fr) (k val P:Nat) (hP:P<l.length) (w:World) (rT:Bt<w.heap.size) (xc:w.cell? ⟨Bt,1,none⟩=some (.slice c l.length cc)) (yA:Bf<w.heap.size) (xf:w.cell? ⟨Bf,0,none⟩=some (.func (.func 200) #[] lb)) (Ej:Bv<w.heap.size) (xv:w.cell? ⟨Bv,0,none⟩=some (.int .i64 (val:Nat))) (hf:dA w c l) (h1:Cw 100000 l)
  (hc:∀V,Below w.heap.size w V ->Calls Tryz.prog 200 (#[.int .i64 (k:Nat),.int .i64 (val:Nat)]++lb) V fun e w'=>e=.returned (.int .i64 (P:Nat))/\Below V.heap.size V w'):
  Calls Tryz.prog 157 #[.int .i64 (k:Nat),.pointer (some ⟨Bt,0,none⟩),.pointer (some ⟨Bf,0,none⟩),.pointer (some ⟨Bv,0,none⟩)] w fun e w'=>e=.returned (gF (qF (a7 (bT l P))))/\Below w.heap.size w w':=by
 obtain⟨g,o,rfl,hg,a0,a1,a2⟩:=hf P hP;have hsz:=h1 P hP;rw[<- rV hP] at a0 a1 a2;have HW:=hid hc;have HC:=hid (fun V:World=>S7 (w:=V) (a7 (bT l P)) rfl (show (bT l P).2.1.size+(bT l P).2.2.size<=100000 by omega));rw[Lr];generalize a7 (bT l P)=r at *;clear hf hc h1 hsz;generalize bT l P=f at *;obtain⟨fn,fx,fy⟩:=f;simp only at a0 a1 a2 HC;have hb0:aF (w.alloc (FC false ⟨#[]⟩ ⟨#[]⟩)) w.heap.size false ⟨#[]⟩ ⟨#[]⟩:=aF.new w _ _ _;have hB:Below w.heap.size w (w.alloc (FC false ⟨#[]⟩ ⟨#[]⟩)):=(au _ w).alloc (aq _) _;go_enter Tryz.func157,Tryz.ntmps157;go_upto_region 1 with fail
 generalize (w.alloc (FC false ⟨#[]⟩ ⟨#[]⟩))=W at *;replace hb0:=hb0.drew;replace hB:=hB.drew;have held:∀u,Below w.heap.size w u ->u.cell? ⟨Bt,1,none⟩=some (.slice (some ⟨g,o,none⟩) l.length cc)/\u.cell? ⟨Bf,0,none⟩=some (.func (.func 200) #[] lb)/\u.cell? ⟨Bv,0,none⟩=some (.int .i64 (val:Nat))/\u.cell? ⟨g,o+P*3,none⟩=some (.bool fn)/\u.cell? ⟨g,o+P*3+1,none⟩=some (.string fx)/\u.cell? ⟨g,o+P*3+2,none⟩=some (.string fy):=fun u h=>⟨(h.cell (p:=⟨Bt,1,none⟩) rT).trans xc,(h.cell (p:=⟨Bf,0,none⟩) yA).trans xf,(h.cell (p:=⟨Bv,0,none⟩) Ej).trans xv,(h.cell (p:=⟨g,_,none⟩) hg).trans a0,(h.cell (p:=⟨g,_,none⟩) hg).trans a1,(h.cell (p:=⟨g,_,none⟩) hg).trans a2⟩;have HELD:=hid held;clear held a0 a1 a2 xc xf xv;refine jE (S:=fun u=>u.cell? ⟨Bt,1,none⟩=some (.slice (some ⟨g,o,none⟩) l.length cc)/\u.cell? ⟨Bf,0,none⟩=some (.func (.func 200) #[] lb)/\u.cell? ⟨Bv,0,none⟩=some (.int .i64 (val:Nat))/\u.cell? ⟨g,o+P*3,none⟩=some (.bool fn)/\u.cell? ⟨g,o+P*3+1,none⟩=some (.string fx)/\u.cell? ⟨g,o+P*3+2,none⟩=some (.string fy)) (by kernel_rfl) (HELD.o _ hB) (fun ak=>?_);generalize W.drew=u0 at *;refine aw 0 (.pointer (some ⟨Bt,1,none⟩)) ?_;refine aw 1 (.slice (some ⟨g,o,none⟩) l.length cc) ?_;refine aw 2 (.func (.func 200) #[] lb) ?_;refine aw 3 (.int .i64 (k:Nat)) ?_;refine aw 4 (.int .i64 (val:Nat)) ?_;refine aH [5] (cA ?_ aG);intro K' hK';go_simp;refine(HW.o _ hB).af ?_;rintro e u1 ⟨rfl,hb⟩;replace hb0:=hb0.aa hb hb0.lt;replace hB:=hB.trans (hb.af hB.size)
 refine hK'.o _ _ (HELD.o _ hB) (fun ah=>?_);clear hK' K' ak;have ak:=ah;clear ah hb;refine aw 6 (.pointer (some ⟨g,o+P*3,none⟩)) ?_;refine aw 7 (.agg #[.bool fn,.string fx,.string fy]) ?_;refine aH [8] (cA ?_ aG);intro K' hK';go_simp;refine(HC.o _).af ?_;rintro e u2 ⟨rfl,hb⟩;replace hb0:=hb0.aa hb hb0.lt;replace hB:=hB.trans (hb.af hB.size);refine hK'.o _ _ (HELD.o _ hB) (fun ah=>?_);clear hK' K' ak;have ak:=ah;clear ah hb;try simp only[gE,aP]
 obtain⟨k0,k1,k2,f0,f1,f2⟩:=hb0.facts;refine aH [9] (cA ?_ aG);intro K' hK';go_simp;have hput:=hb0.put (aM r) (nu r) (de r);have qJ:=cQ hB (g:=w.heap.size) (aq _) (.bool (aM r)) (.string (nu r)) (.string (de r));generalize (((u2.setCell ⟨w.heap.size,0,none⟩ (.bool (aM r))).setCell ⟨w.heap.size,1,none⟩ (.string (nu r))).setCell ⟨w.heap.size,2,none⟩ (.string (de r)))=v9 at *;refine hK'.o _ _ (HELD.o _ qJ) (fun _=>eK (by kernel_rfl) ?_ _);clear hK' K' ak;go_wp2;refine bS (hput.result rfl _ rfl) rfl ?_;exact⟨rfl,qJ⟩
theorem ae7 (Bt Bf Bv:Nat) (c:Option Addr) (cc:Nat) (lb:Array Value) (l:List Fr) (k val P:Nat) (hP:P<l.length) (w:World) (rT:Bt<w.heap.size) (xc:w.cell? ⟨Bt,1,none⟩=some (.slice c l.length cc)) (yA:Bf<w.heap.size) (xf:w.cell? ⟨Bf,0,none⟩=some (.func (.func 200) #[] lb)) (Ej:Bv<w.heap.size) (xv:w.cell? ⟨Bv,0,none⟩=some (.int .i64 (k:Nat))) (hf:dA w c l)
  (hc:∀V,Below w.heap.size w V ->Calls Tryz.prog 200 (#[.int .i64 (k:Nat),.int .i64 (val:Nat)]++lb) V fun e w'=>e=.returned (.int .i64 (P:Nat))/\Below V.heap.size V w'):
  Calls Tryz.prog 206 #[.int .i64 (val:Nat),.pointer (some ⟨Bt,0,none⟩),.pointer (some ⟨Bf,0,none⟩),.pointer (some ⟨Bv,0,none⟩)] w fun e w'=>e=.returned (gF (bT l P))/\Below w.heap.size w w':=by
 obtain⟨g,o,rfl,hg,a0,a1,a2⟩:=hf P hP;rw[<- rV hP] at a0 a1 a2;have HW:=hid hc;clear hf hc;generalize bT l P=f at *;obtain⟨fn,fx,fy⟩:=f;simp only at a0 a1 a2;have hb0:aF (w.alloc (FC false ⟨#[]⟩ ⟨#[]⟩)) w.heap.size false ⟨#[]⟩ ⟨#[]⟩:=aF.new w _ _ _;have hB:Below w.heap.size w (w.alloc (FC false ⟨#[]⟩ ⟨#[]⟩)):=(au _ w).alloc (aq _) _;go_enter Tryz.func206,Tryz.ntmps206;go_upto_region 1 with fail
 generalize (w.alloc (FC false ⟨#[]⟩ ⟨#[]⟩))=W at *;replace hb0:=hb0.drew;replace hB:=hB.drew;have held:∀u,Below w.heap.size w u ->u.cell? ⟨Bt,1,none⟩=some (.slice (some ⟨g,o,none⟩) l.length cc)/\u.cell? ⟨Bf,0,none⟩=some (.func (.func 200) #[] lb)/\u.cell? ⟨Bv,0,none⟩=some (.int .i64 (k:Nat))/\u.cell? ⟨g,o+P*3,none⟩=some (.bool fn)/\u.cell? ⟨g,o+P*3+1,none⟩=some (.string fx)/\u.cell? ⟨g,o+P*3+2,none⟩=some (.string fy):=fun u h=>⟨(h.cell (p:=⟨Bt,1,none⟩) rT).trans xc,(h.cell (p:=⟨Bf,0,none⟩) yA).trans xf,(h.cell (p:=⟨Bv,0,none⟩) Ej).trans xv,(h.cell (p:=⟨g,_,none⟩) hg).trans a0,(h.cell (p:=⟨g,_,none⟩) hg).trans a1,(h.cell (p:=⟨g,_,none⟩) hg).trans a2⟩;have HELD:=hid held;clear held a0 a1 a2 xc xf xv;refine jE (S:=fun u=>u.cell? ⟨Bt,1,none⟩=some (.slice (some ⟨g,o,none⟩) l.length cc)/\u.cell? ⟨Bf,0,none⟩=some (.func (.func 200) #[] lb)/\u.cell? ⟨Bv,0,none⟩=some (.int .i64 (k:Nat))/\u.cell? ⟨g,o+P*3,none⟩=some (.bool fn)/\u.cell? ⟨g,o+P*3+1,none⟩=some (.string fx)/\u.cell? ⟨g,o+P*3+2,none⟩=some (.string fy)) (by kernel_rfl) (HELD.o _ hB) (fun ak=>?_);generalize W.drew=u0 at *;refine aw 0 (.pointer (some ⟨Bt,1,none⟩)) ?_;refine aw 1 (.slice (some ⟨g,o,none⟩) l.length cc) ?_;refine aw 2 (.func (.func 200) #[] lb) ?_;refine aw 3 (.int .i64 (k:Nat)) ?_;refine aw 4 (.int .i64 (val:Nat)) ?_;refine aH [5] (cA ?_ aG);intro K' hK';go_simp;refine(HW.o _ hB).af ?_;rintro e u1 ⟨rfl,hb⟩;replace hb0:=hb0.aa hb hb0.lt;replace hB:=hB.trans (hb.af hB.size)
 refine hK'.o _ _ (HELD.o _ hB) (fun ah=>?_);clear hK' K' ak;have ak:=ah;clear ah hb;refine aw 6 (.pointer (some ⟨g,o+P*3,none⟩)) ?_;refine aw 7 (.agg #[.bool fn,.string fx,.string fy]) ?_;try simp only[gE,aP]
 obtain⟨k0,k1,k2,f0,f1,f2⟩:=hb0.facts;refine aH [8] (cA ?_ aG);intro K' hK';go_simp;have hput:=hb0.put (fn) (fx) (fy);have qJ:=cQ hB (g:=w.heap.size) (aq _) (.bool (fn)) (.string (fx)) (.string (fy));generalize (((u1.setCell ⟨w.heap.size,0,none⟩ (.bool (fn))).setCell ⟨w.heap.size,1,none⟩ (.string (fx))).setCell ⟨w.heap.size,2,none⟩ (.string (fy)))=v9 at *;refine hK'.o _ _ (HELD.o _ qJ) (fun _=>eK (by kernel_rfl) ?_ _);clear hK' K' ak;go_wp2;refine bS (hput.result rfl _ rfl) rfl ?_;exact⟨rfl,qJ⟩
variable {l other:List Int} {K T ca cb cc k m n v:Nat} {a:Option Addr} {V':World}
def NR (w V:World) (T R:Nat) (u v:Value):Prop:=bw V T u v/\bw V R (.slice none 0 0) (.slice none 0 0)/\Below w.heap.size w V
theorem NR.step {V:World} {R:Nat} {u v:Value} (h:NR w V T R u v) (hb:Below V.heap.size V V'):NR w V' T R u v:=⟨h.1.aa hb h.1.lt,h.2.1.aa hb h.2.1.lt,h.2.2.trans (hb.af h.2.2.size)⟩
theorem NR.off {V:World} {R:Nat} {u v:Value} (h:NR w V T R u v) (B j:Nat) (y:Value) (hT:T≠B) (hR:R≠B) (hB:w.heap.size<=B):NR w (V.setCell ⟨B,j,none⟩ y) T R u v:=⟨h.1.off B j y hT,h.2.1.off B j y hR,h.2.2.setCell (p:=⟨B,j,none⟩) hB y⟩
theorem NR.fin {V:World} {R:Nat} {u v:Value} (h:NR w V T R u v) (hR:w.heap.size<=R) {vars:List Int} {b:Option Addr} {l:List Fr} {G:Nat} (pM:fM w.heap.size b cb) (hgn:w.heap.size<=G) (hi:aC V b vars) (hr:ji V G l) (hG:G≠R) (x y:Value) (hx:x=.slice b vars.length cb) (hy:y=.slice (some ⟨G,0,none⟩) l.length cc):
  bw ((V.setCell ⟨R,0,none⟩ x).setCell ⟨R,1,none⟩ y) R x y/\rZ w.heap.size vars l 0 (.returned (.tuple #[.agg #[x,y],.int .i64 0])) ((V.setCell ⟨R,0,none⟩ x).setCell ⟨R,1,none⟩ y)/\Below w.heap.size w ((V.setCell ⟨R,0,none⟩ x).setCell ⟨R,1,none⟩ y):=by
 subst hx hy;exact⟨h.2.1.put _ _,⟨b,some ⟨G,0,none⟩,cb,cc,rfl,hi.putT h.2.1 (slv _ _ _) (slv _ _ _) (slv _ _ _) _,((hr.off _ 0 _ hG).off _ 1 _ hG).fr,pM,fM.at hgn⟩,mK h.2.2 hR _ _⟩
theorem gj:Up l n↔(∀x∈l,0<=x/\x<n)/\l.Pairwise (·<·):=by
 constructor
 ·intro h;refine⟨fun x hx=>?_,vK.2 fun i j hi hj uy=>h.lt i j hj uy⟩;obtain⟨i,hi,rfl⟩:=iZ hx;exact h.each i hi
 ·rintro⟨h1,h2⟩;exact⟨fun i hi=>h1 _ (bM hi),fun i j hj hi=>vK.1 h2 i j (by omega) hj hi⟩
theorem rG {vars:List Int} (h:Up vars n) (v:Int):Up (bJ vars v) n:=by
 rw[gj] at h⊢;exact⟨fun x hx=>h.1 x (dE.1 hx).1,h.2.filter _⟩
theorem KE {vars:List Int} (h:Up vars n):¬v∈ag (bJ vars (v:Int)):=fun hm=>by
 obtain⟨x,hx,e⟩:=aW.1 hm;have h1:=(gj.1 (rG h v)).1 x hx;have h2:=(dE.1 hx).2;simp at h2;omega
theorem Z5 (S vars rest:List Nat) (v x:Nat) (l:List Fr):(uO S vars rest v x l).length=cnt S rest:=by simp[uO]
theorem aiR (S vars rest:List Nat) (v x:Nat) (l:List Fr) (h:k<(uO S vars rest v x l).length):(uO S vars rest v x l)[k]=qF (a7 (bT l (pos S (aQ (aV S rest k) v x) vars))):=by simp[uO]
theorem r5.shape {W:World} {f:Value} {b:Option Addr} {sizes vars:List Int} (h:r5 W n m f a b ca cb sizes vars other v):∃lb,f=.func (.func 200) #[] lb:=by
 obtain⟨_,_,_,he,_⟩:=h;exact⟨_,he⟩
theorem r5.top {W:World} {f:Value} {b:Option Addr} {sizes vars:List Int} (h:r5 W n m f a b ca cb sizes vars other v):m<=W.heap.size:=by
 obtain⟨_,_,_,_,_,_,_,_,hm,_⟩:=h;exact hm
theorem r5.aa {W V:World} {f:Value} {b:Option Addr} {sizes vars:List Int} (h:r5 W n m f a b ca cb sizes vars other v) (hb:Below W.heap.size W V):r5 V n m f a b ca cb sizes vars other v:=h.kept (wT.of_below hb h.top)
theorem M6 {sizes vars rest:List Int} {x:Nat} (hk:jh sizes vars m=0) (hK:K<cnt (ag sizes) (ag rest)) (hx:x<sz (ag sizes) v):pos (ag sizes) (aQ (aV (ag sizes) (ag rest) K) v x) (ag vars)<m:=by
 obtain⟨h1,h2,h3⟩:=yE hk;rw[h3];exact o7 _ (ab3 (fun u=>qP h1.pos _ _ u hK) hx) _
theorem acG (a b c:Option Addr) (ca cb cc:Nat) (sizes vars:List Int) (l:List Fr) (v x:Nat) (w:World) (hs:aC w a sizes) (hv:aC w b vars) (hf:dA w c l) (hn:sizes.length<=140737488355328) (hm:vars.length<=140737488355328) (hk:jh sizes vars l.length=0) (hw:Cw 100000 l) (hv':v<sizes.length) (hx':x<sz (ag sizes) v):
  Calls Tryz.prog 97 #[.slice a sizes.length ca,.agg #[.slice b vars.length cb,.slice c l.length cc],.int .i64 (v:Nat),.int .i64 (x:Nat)] w fun e w'=>rZ w.heap.size (bJ vars (v:Int)) (uO (ag sizes) (ag vars) (ag (bJ vars (v:Int))) v x l) 0 e w'/\Below w.heap.size w w':=by
 obtain⟨aJ,aT,hlc⟩:=yE hk;have SB:=hid (fun V h=>agL a ca sizes v x V h aJ hv');rw[cS (show 0<=(x:Int)/\(x:Int)<(sz (ag sizes) v:Int) by omega)] at SB;have hx4:x<=4:=by have:=aJ.sz_le v;omega
 have ik:=fun V h1 h2=>Bg a b c ca cb cc l.length sizes vars V h1 h2 hn hm;rw[hk] at ik;have HC:=hid ik;clear ik;have h0:(0:Int)<=(v:Int):=by omega
 have h1:(v:Int)<(sizes.length:Int):=by omega
 have hrl:(bJ vars (v:Int)).length<=vars.length:=lT _ _;have O4:=aT.length;have nE:=aJ.eight;have cC:=hid aJ;have iV:=hid aT;have Ay:=hid (rG aT (v:Int));have CJ:=hid (KE (v:=v) aT);have gV:=hid (fun K (hK:K<cnt (ag sizes) (ag (bJ vars (v:Int))))=>M6 hk hK hx');have jP:=Z5 (ag sizes) (ag vars) (ag (bJ vars (v:Int))) v x l;have vD:=hid (fun (k:Nat) (h:k<(uO (ag sizes) (ag vars) (ag (bJ vars (v:Int))) v x l).length)=>aiR (ag sizes) (ag vars) (ag (bJ vars (v:Int))) v x l h);have kT:=hid (fun V h=>M5 b cb vars (v:Int) V h (by omega));generalize uO (ag sizes) (ag vars) (ag (bJ vars (v:Int))) v x l=FL at *;generalize bJ vars (v:Int)=rest at *;have HST:=hid (fun V d cd h1 h2=>Nv a d b ca cd cb sizes rest vars v V h1 h2 aJ aT hv');have HF:=hid hf;have HW:=hid hw;have ij:=hid jP;clear hx' hk aJ aT hlc hf hw jP;have HS:=hid hs;have HV:=hid hv;have hH:NR w (((w.alloc (TC (.slice b vars.length cb) (.slice c l.length cc))).alloc (.cells #[.int .i64 (x:Nat)] 3)).alloc (TC (.slice none 0 0) (.slice none 0 0))) w.heap.size (w.heap.size+1+1) (.slice b vars.length cb) (.slice c l.length cc):=⟨((bw.at (w:=w) rfl _ _).alloc _).alloc _,bw.at (by simp) _ _,(((au _ w).alloc (aq _) _).alloc (by simp) _).alloc (by simp;omega) _⟩
 have hX:Boxed (((w.alloc (TC (.slice b vars.length cb) (.slice c l.length cc))).alloc (.cells #[.int .i64 (x:Nat)] 3)).alloc (TC (.slice none 0 0) (.slice none 0 0))) (w.heap.size+1) 3 (.int .i64 (x:Nat)):=by
  have h:=(aY (w.alloc (TC (.slice b vars.length cb) (.slice c l.length cc))) 3 (.int .i64 (x:Nat))).alloc (TC (.slice none 0 0) (.slice none 0 0));rwa [di] at h
 have c0:=hH.1.c0;have c1:=hH.1.c1;go_enter Tryz.func97,Tryz.ntmps97;go_wp2_with fail
 generalize (((w.alloc (TC (.slice b vars.length cb) (.slice c l.length cc))).alloc (.cells #[.int .i64 (x:Nat)] 3)).alloc (TC (.slice none 0 0) (.slice none 0 0)))=W at *;refine(HC.o _ (HS.o.aa hH.2.2) (HV.o.aa hH.2.2)).af ?_;rintro e w1 ⟨rfl,hb1⟩;replace hH:=hH.step hb1;replace hX:=aS hX hb1;clear c0 c1 hb1;have cx:=hX.cell;go_wp2_with fail
 refine(SB.o _ (HS.o.aa hH.2.2)).af ?_;rintro e w2 ⟨rfl,hb2⟩;replace hH:=hH.step hb2;replace hX:=aS hX hb2;clear cx hb2 SB HC;have c0:=hH.1.c0;go_wp2_with fail
 refine(kT.o _ (HV.o.aa hH.2.2)).af ?_;rintro e w3 ⟨d,cd,rfl,hi,pM,hb3⟩;have CV:=hid (pM.up hH.2.2.size);clear pM;replace hH:=hH.step hb3;replace hX:=aS hX hb3;clear c0 hb3 kT;have c0:=hH.1.c0;go_wp2_with fail
 refine(HST.o _ d cd (HS.o.aa hH.2.2) (HV.o.aa hH.2.2)).af ?_;rintro e w4 ⟨f,rfl,qG,hb4⟩;have hl3:=hH.2.1.lt;replace hH:=hH.step hb4;replace hX:=aS hX hb4;replace hi:=hi.aa hb4;obtain⟨lb,rfl⟩:=qG.shape;have jN:=hb4.size;clear c0 hb4 HST;generalize w3.heap.size=n3 at *;have eA:Below w4.heap.size w4 (w4.alloc (.cells #[.func (.func 200) #[] lb] 100)):=(au _ w4).alloc (aq _) _;have hY:Boxed (w4.alloc (.cells #[.func (.func 200) #[] lb] 100)) w4.heap.size 100 (.func (.func 200) #[] lb):=aY w4 _ _;replace hH:=hH.step eA;replace hX:=aS hX eA;replace qG:=qG.aa eA;replace hi:=hi.aa eA;go_wp2_with fail
 clear eA;generalize (w4.alloc (.cells #[.func (.func 200) #[] lb] 100))=w5 at *;generalize w4.heap.size=B12 at *
 have qp:=Hz a d ca cd sizes rest 157 #[.pointer (some ⟨w.heap.size,0,none⟩),.pointer (some ⟨B12,0,none⟩),.pointer (some ⟨w.heap.size+1,0,none⟩)] (enters_of Tryz.func157 (by kernel_rfl) rfl) FL w5 (HS.o.aa hH.2.2) hi cC.o Ay.o ij.o (fun k hk V hb=>by
  rw[vD.o k hk];have eV:k<cnt (ag sizes) (ag rest):=by rw[<- ij.o];exact hk
  have hB:=hH.2.2.trans (hb.af hH.2.2.size);refine aiS w.heap.size B12 (w.heap.size+1) c cc lb l k x _ (gV.o k eV) V (aO hH.1.lt hb.size) ((hb.cell (p:=⟨w.heap.size,1,none⟩) hH.1.lt).trans hH.1.c1) (aO hY.lt hb.size) (aS hY hb).cell (aO hX.lt hb.size) (aS hX hb).cell (HF.o.aa hB) HW.o ?_;intro V' hb';have hb2:=hb.trans (hb'.af hb.size);exact((qG.aa hb2).calls (HS.o.aa (hB.trans (hb'.af hB.size))) (hi.aa hb2) cC.o Ay.o iV.o CJ.o eV hx4))
 have y5:=hid qp;clear qp;refine y5.o.af ?_;rintro e w6 ⟨G,rfl,hG,hrow,eA⟩;have hl6:=hH.2.1.lt;replace hH:=hH.step eA;replace hi:=hi.aa eA;obtain⟨k0,k1,f0,f1⟩:=hH.2.1.facts;obtain⟨e1,e2,e3⟩:=hH.fin (by omega) (cb:=cd) (cc:=FL.length) CV.o (by omega) hi hrow (by omega) (.slice d rest.length cd) (.slice (some ⟨G,0,none⟩) FL.length FL.length) rfl rfl;go_wp2;refine bS (e1.result2 rfl _ rfl) rfl ?_;exact⟨e2,e3⟩
variable {ops:Array Oper} {rest:List Oper}
def iT (w:World) (B:Nat) (v:Value) (l:List Fr):Prop:=w.ownsRow B 32 3 v l.length (iQ l)
theorem iT.empty (w:World) (B:Nat):iT w B (.slice none 0 0) []:=⟨rfl,.inl ⟨rfl,rfl⟩⟩
theorem iT.aa {B:Nat} {v:Value} {l:List Fr} (h:iT w B v l) (hb:Below w.heap.size w w'):iT w' B v l:=by
 refine⟨h.1,h.2.imp id ?_⟩;rintro⟨g,cap,cur,h1,h2,h3,h4⟩;exact⟨g,cap,cur,h1,h2,(hb.block g (dm.1 h3).1).trans h3,h4⟩
theorem iT.own {B:Nat} {v:Value} {l:List Fr} (h:iT w B v l):∀k,v.ownBlock=some k ->B<=k:=by
 intro k hk;rcases h.2 with ⟨rfl,_⟩ |⟨g,cap,cur,rfl,h2,_⟩
 ·cases hk
 ·cases hk;exact h2
theorem iT.fr {B:Nat} {v:Value} {l:List Fr} (h:iT w B v l):∃d cd,v=.slice d l.length cd/\dA w d l:=by
 rcases h.2 with ⟨h1,h2⟩ |⟨g,cap,cur,h1,h2,h3,h4,h5,h6,h7⟩
 ·have:l=[]:=Db.1 h2;subst this;exact⟨none,0,h1,fun k hk=>absurd hk (by simp)⟩
 ·refine⟨_,_,h1,fun k hk=>?_⟩;obtain⟨e1,e2,e3⟩:=Lu l k hk
  have at_:∀j,j<l.length*3 ->cur[j]? =(iQ l)[j]?:=fun j hj=>by
   rw[<- h7,sI,aA hj,xL]
  refine⟨g,0,rfl,(dm.1 h3).1,?_,?_,?_⟩
  ·rw[bX w g _ _ _ (0,0) h3,bD,at_ _ (by omega)];exact e1
  ·rw[bX w g _ _ _ (0,0) h3,bD,at_ _ (by omega)];exact e2
  ·rw[bX w g _ _ _ (0,0) h3,bD,at_ _ (by omega)];exact e3
theorem aiL (l:List Fr) (f:Fr):iQ (l++[f])=iQ l++[.bool f.1,.string f.2.1,.string f.2.2]:=by
 induction l with
 |nil=>rfl
 |cons x l ih=>simp only[eE,iQ,ih]
theorem abO {o:Oper} {a:Act} {Q:Exit ->Act ->World ->Prop} (hgd:o.guard=none) (s x:Operand)
  (ho:o.op=.call {callee:=.builtin .append,args:= #[s,x],argTypes:= #[37,37]}) (base:Nat) (v:Value) (l:List Fr) (f:Fr) (hs:a.eval s=v) (hown:iT w base v l) (g:Nat) (hx:a.eval x=.slice (some ⟨g,0,none⟩) 1 1) (hg:aF w g f.1 f.2.1 f.2.2) (hlen:l.length+1<=100000) (hbase:base<=w.heap.size)
  (h:∀v' w',iT w' base v' (l++[f]) ->w.grownBy w' v.ownBlock ->wpList Tryz.prog ops Q rest (a.put o.dst v') w'):wpList Tryz.prog ops Q (o::rest) a w:=by
 obtain⟨i0,bY,hz0,hz1,hz2⟩:=dH Tryz.infoFrac;refine AV _ hgd s x 37 ho base 32 i0 (.agg #[.bool false,.string ⟨#[]⟩,.string ⟨#[]⟩]) 3 40 Tryz.underlying37 bY hz0 hz1 hz2 rfl (by decide) v l.length _ hs hown ⟨g,0,none⟩ 1 1 [.bool f.1,.string f.2.1,.string f.2.2] hx rfl ?_ ?_ (by unfold maxLen;omega) (by omega) hbase ?_
 ·intro j u hj;match j,hj with
  |0,hj=>cases hj;exact hg.c0
  |1,hj=>cases hj;exact hg.c1
  |2,hj=>cases hj;exact hg.c2
  |j+3,hj=>simp at hj
 ·intro u hu;simp only[dG,kC,sF] at hu;rcases hu with rfl |rfl |rfl<;>rfl
 ·intro v' w' h1 h2 _;refine h v' w' ?_ h2;rw[iT,cK,aiL];exact h1
theorem Co {sizes vars:List Int} (h1:dZ sizes) (h2:Up vars sizes.length):countB sizes vars=true:=by
 rw[countB,iK];constructor
 ·rw[lC,iK,eh];refine⟨⟨h1.one,h1.eight⟩,fE.2 fun x hx=>?_⟩;obtain⟨i,hi,rfl⟩:=iZ hx;rw[xW,eh];exact h1.each i hi
 ·rw[dR,fE];intro i hi;have hi':=cH.1 hi;rw[j8,eh,getD_eq hi'];refine⟨(h2.each i hi').1,(h2.each i hi').2,fun h0=>?_⟩;rw[getD_eq (show i - 1<vars.length by omega)];exact h2.lt (i - 1) i hi' (by omega)
theorem ad5 (a b:Option Addr) (ca cb:Nat) (sizes vars:List Int) (w:World) (hs:aC w a sizes) (hv:aC w b vars) (aJ:dZ sizes) (aT:Up vars sizes.length):
  Calls Tryz.prog 55 #[.slice a sizes.length ca,.slice b vars.length cb] w fun e w'=>e=.returned (.tuple #[.int .i64 (cnt (ag sizes) (ag vars):Nat),.int .i64 0])/\Below w.heap.size w w':=by
 have h8:=aJ.eight;have h9:=aT.length;have h:=U6 a b ca cb sizes vars w hs hv (by omega) (by omega);rw[Cp (Co aJ aT)] at h;exact h
variable {R:List (List Fr)}
def Jd (w:World) (a:Option Addr) (R:List (List Fr)):Prop:=∀k (h:k<R.length),∃g o b c,a=some ⟨g,o,none⟩/\g<w.heap.size/\w.cell? ⟨g,o+k,none⟩=some (.slice b R[k].length c)/\dA w b R[k]/\R[k].length<=c
theorem Jd.aa (h:Jd w a R) (hb:Below w.heap.size w w'):Jd w' a R:=fun k hk=>by
 obtain⟨g,o,b,c,h1,h2,h3,h4,h5⟩:=h k hk;exact⟨g,o,b,c,h1,aO h2 hb.size,(hb.cell (p:=⟨g,o+k,none⟩) h2).trans h3,h4.aa hb,h5⟩
def eQ (l:List Fr) (k i:Nat):List Fr:=(l.drop (i*k)).take k
def kJ (S:List Nat) (L:List (List Int)) (R:List (List Fr)) (v:Nat):Int:=
 if (R.getD v []).length=cnt S (ag (L.getD v []))*sz S v then(if ((List.range (cnt S (ag (L.getD v [])))).all fun i=>jH (eQ (R.getD v []) (sz S v) i))=true then 0 else 9) else 8
def bj (V:List Vr) (L:List (List Int)) (R:List (List Fr)):Int:=
 if L.length=V.length/\R.length=V.length then(if bQ L=0 then(if lY V=0 then iD (kJ (ar V) L R) V.length else lY V) else bQ L) else 8
theorem dA.chunk {o:Nat} {l:List Fr} (h:dA w (some ⟨g,o,none⟩) l) (hm:(i+1)*k<=l.length) (hk:m=k):dA w (some ⟨g,o+i*k*3,none⟩) (eQ l k i)/\(eQ l k i).length=m:=by
 have hlen:(eQ l k i).length=k:=by
  rw[eQ,dP,lU];have:(i+1)*k=i*k+k:=by rw[eL,jF]
  omega
 refine⟨fun j hj=>?_,by rw[hlen,hk]⟩;have e:(i+1)*k=i*k+k:=by rw[eL,jF]
 rw[hlen] at hj;obtain⟨g',o',h1,h2,h3,h4,h5⟩:=h (i*k+j) (by omega);cases h1
 have ej:(eQ l k i)[j]'(by rw[hlen];exact hj)=l[i*k+j]'(by omega):=by
  simp only[eQ,zm,List.getElem_drop]
 refine⟨g,o+i*k*3,rfl,h2,?_,?_,?_⟩
 ·rw[ej,show o+i*k*3+j*3=o+(i*k+j)*3 by rw[eL];omega];exact h3
 ·rw[ej,show o+i*k*3+j*3=o+(i*k+j)*3 by rw[eL];omega];exact h4
 ·rw[ej,show o+i*k*3+j*3=o+(i*k+j)*3 by rw[eL];omega];exact h5
theorem aix (l:List Fr) (k i:Nat):fw (eQ l k i)<=fw l:=by
 have h1:=ZU (l.drop (i*k)) k;have h2:=QY (l.take (i*k)) (l.drop (i*k));rw[zl] at h2;rw[eQ];omega
def kq (w:World) (B:Nat) (v:Value) (l:List ByteArray):Prop:=w.ownsRow B 9 1 v l.length (l.map Value.string)
theorem kq.own {B:Nat} {v:Value} {l:List ByteArray} (h:kq w B v l):∀k,v.ownBlock=some k ->B<=k:=by
 intro k hk;rcases h.2 with ⟨rfl,_⟩ |⟨g,cap,cur,rfl,h2,_⟩
 ·cases hk
 ·cases hk;exact h2
theorem kq.st {B:Nat} {v:Value} {l:List ByteArray} (h:kq w B v l):∃d cd,v=.slice d l.length cd/\qQ w d l:=by
 rcases h.2 with ⟨h1,h2⟩ |⟨g,cap,cur,h1,h2,h3,h4,h5,h6,h7⟩
 ·have:l=[]:=Db.1 h2;subst this;exact⟨none,0,h1,fun k hk=>absurd hk (by simp)⟩
 ·refine⟨_,_,h1,fun j hj=>⟨g,0,rfl,(dm.1 h3).1,?_⟩⟩;rw[bD,bX w g j _ _ (0,0) h3]
  have e:cur[j]? =(cur.toList.take (l.length*1))[j]?:=by
   rw[sI,aA (by omega),xL]
  rw[e,h7,kD,a8 hj];rfl
theorem abI {o:Oper} {a:Act} {Q:Exit ->Act ->World ->Prop} (hgd:o.guard=none) (s x:Operand)
  (ho:o.op=.call {callee:=.builtin .append,args:= #[s,x],argTypes:= #[67,67]}) (base:Nat) (v:Value) (l:List ByteArray) (f:ByteArray) (hs:a.eval s=v) (hown:kq w base v l) (g:Nat) (hx:a.eval x=.slice (some ⟨g,0,none⟩) 1 1) (hg:w.cell? ⟨g,0,none⟩=some (.string f)) (hlen:l.length+1<=100000) (hbase:base<=w.heap.size)
  (h:∀v' w',kq w' base v' (l++[f]) ->w.grownBy w' v.ownBlock ->wpList Tryz.prog ops Q rest (a.put o.dst v') w'):wpList Tryz.prog ops Q (o::rest) a w:=by
 obtain⟨i0,bY,hz0,hz1,hz2⟩:=dH Tryz.infoStr;refine AV _ hgd s x 67 ho base 9 i0 (.string ⟨#[]⟩) 1 16 Tryz.underlying67 bY hz0 hz1 hz2 rfl (by decide) v l.length _ hs hown ⟨g,0,none⟩ 1 1 [.string f] hx rfl ?_ ?_ (by unfold maxLen;omega) (by omega) hbase ?_
 ·intro j u hj;match j,hj with
  |0,hj=>cases hj;exact hg
  |j+1,hj=>simp at hj
 ·intro u hu;simp only[dG,kC,sF] at hu;subst hu;rfl
 ·intro v' w' h1 h2 _;refine h v' w' ?_ h2;rw[kq,cK,dL];exact h1
theorem afi (w:World) (u:ByteArray):(w.alloc (.cells #[.string u] 9)).cell? ⟨w.heap.size,0,none⟩=some (.string u):=(aY w _ _).cell
variable {L:List (List Int)} {x y z:Value} {wr wr':World}
structure jA (w:World) (a b c:Option Addr) (V:List Vr) (L:List (List Int)) (R:List (List Fr)):Prop where
 vars:rY w a V
 pars:fC w b L
 rows:Jd w c R
theorem jA.aa {b c:Option Addr} (h:jA w a b c V L R) (hb:Below w.heap.size w w'):jA w' a b c V L R:=⟨h.vars.aa hb,h.pars.aa hb,h.rows.aa hb⟩
structure vh (V:List Vr) (L:List (List Int)) (R:List (List Fr)):Prop where
 vars:VSm V
 pars:L.length<=5000/\∀l∈L,l.length<=5000
 rows:R.length<=5000/\∀l∈R,l.length<=5000/\fw l<=10000
def NK (w wr:World) (x y z:Value):Prop:=cR wr w.heap.size x y z/\Below w.heap.size w wr
theorem NK.step (h:NK w wr x y z) (hb:Below wr.heap.size wr wr'):NK w wr' x y z:=⟨h.1.aa hb h.1.lt,h.2.trans (hb.af h.2.size)⟩
theorem NK.grow (h:NK w wr x y z) (hb:Below (w.heap.size+1) wr wr'):NK w wr' x y z:=⟨h.1.aa hb (by omega),h.2.trans (hb.af (by omega))⟩
theorem NK.new (w:World) (x y z:Value):NK w (w.alloc (NC x y z)) x y z:=⟨cR.at rfl x y z,(au _ w).alloc (aq _) _⟩
theorem Z8 (hl:L.length=V.length) (hg:bQ L=0) (hv:lY V=0):dZ (iL (ar V))/\L.length<=8/\∀v (h:v<L.length),Up L[v] L.length:=by
 have hgb:gB L=true:=by
  rw[bQ] at hg;by_cases h:gB L=true
  ·exact h
  ·rw[aD h] at hg;exact absurd hg (by decide)
 obtain⟨h1,h8,h3,_⟩:=pP hgb
 have hf:∀i,i<V.length ->om V i=0:=by
  rw[lY] at hv;by_cases h:l6 (j9 V)=0
  ·rw[aA h] at hv;intro i hi
   have key:∀ {n:Nat},iD (om V) n=0 ->∀j,j< n ->om V j=0:=by
    intro n;induction n with
    |zero=>intro _ j hj;omega
    |succ n ih=>
     intro hz j hj;rw[iD] at hz;by_cases e:iD (om V) n=0
     ·rw[aA e] at hz;rcases cT j n with h2 |h2
      ·exact ih e j h2
      ·obtain rfl:j=n:=by omega
       exact hz
     ·rw[aD e] at hz;exact absurd hz e
   exact key hv i hi
  ·rw[aD h] at hv;exact absurd hv h
 refine⟨⟨by rw[bs,kI];omega,by rw[bs,kI];omega,fun i hi=>?_⟩,h8,fun v hv=>xQ (Ry h3 hv)⟩;rw[bs,kI] at hi;have h4:=hf i hi;rw[om,QR hi] at h4
 have h5:1<=V[i].2.length/\V[i].2.length<=4:=by
  by_cases e:1<=V[i].2.length/\V[i].2.length<=4
  ·exact e
  ·rw[aD e] at h4;exact absurd h4 (by decide)
 have e:(iL (ar V))[i]'(by rw[bs,kI];exact hi)=(V[i].2.length:Int):=by simp[iL,ar]
 rw[e];omega
variable {S:List Nat} {f:Nat ->Nat}
def LK (w wr:World) (x y z:Value):Prop:=NK w wr x y z/\aF wr (w.heap.size+1) false ⟨#[]⟩ ⟨#[]⟩
theorem LK.new (w:World) (x y z:Value):LK w ((w.alloc (NC x y z)).alloc (FC false ⟨#[]⟩ ⟨#[]⟩)) x y z:=⟨(NK.new w x y z).step ((au _ _).alloc (aq _) _),aF.at (by simp) _ _ _⟩
theorem LK.drewN (h:LK w wr x y z) (k:Nat):LK w (wr.drewN k) x y z:=⟨⟨h.1.1,below_drewN h.1.2 k⟩,h.2⟩
theorem aeh (hp:∀v,sz S v<=4) (f:Nat ->Nat) (hf:∀u,f u<sz S u) {P:List Nat} (hl:P.length<=8) (i:Nat):pos S f (P.take i)<=65536:=by
 have h1:=o7 f hf (P.take i);have h2:=qM hp (vs:=P.take i) (by rw[dP];omega);omega
def qj (S:List Nat) (P:List Nat) (f:Nat ->Nat) (v:Nat):Nat:=pos S f P*sz S v+f v
theorem WV {P:List Nat} (hf:∀u,f u<sz S u) (v:Nat):qj S P f v<cnt S P*sz S v:=by
 have h1:=o7 f hf P;have h2:=hf v;rw[qj]
 calc pos S f P*sz S v+f v<pos S f P*sz S v+sz S v:=by omega
  _=(pos S f P+1)*sz S v:=by rw[eL,jF]
  _<=cnt S P*sz S v:=jl _ h1
theorem agw (a b c d:Option Addr) (ca cb cc cd v:Nat) (V:List Vr) (L:List (List Int)) (R:List (List Fr)) (A:List Nat) (w:World) (h:jA w a b c V L R) (hA:aC w d (iL A)) (Lj:A.length=V.length) (hV8:V.length<=8) (hv:v<V.length) (dV:v<L.length) (oA:v<R.length) (hS:dZ (iL (ar V))) (hU:Up L[v] V.length) (hlen:R[v].length=cnt (ar V) (ag L[v])*sz (ar V) v) (f:Nat ->Nat) (hf:∀u,f u<sz (ar V) u) (PT:∀u,u<V.length ->A[u]? =some (f u)):
  Calls Tryz.prog 151 #[.agg #[.slice a V.length ca,.slice b L.length cb,.slice c R.length cc],.int .i64 (v:Nat),.slice d A.length cd] w fun e w'=>e=.returned (gF (bT R[v] (qj (ar V) (ag L[v]) f v)))/\Below w.heap.size w w':=by
 have hT:=WV (S:=ar V) (P:=ag L[v]) hf v;rw[<- hlen] at hT;rw[rV hT];have jN:∀u,sz (ar V) u<=4:=fun u=>by have:=hS.sz_le u;rwa [fF] at this
 have hpl:(ag L[v]).length<=8:=by rw[cY];have:=hU.length;omega
 have alG:L[v].length<=8:=by have:=hU.length;omega
 have gV:=hid (fun i=>aeh jN f hf hpl i);have pX:=hid (fun i (hi:i<(ag L[v]).length)=>Vj (ar V) f hi)
 have vu:Hid (pos (ar V) f ((ag L[v]).take L[v].length)=pos (ar V) f (ag L[v])):=by
  show _=_;rw[jn (by rw[cY];omega)]
 have xr:Hid (∀u,f u<4):=fun u=>aO (hf u) (jN u);have HZ4:=hid jN;have iV:=hid hU;have HSG:=hid (fun u (hu:u<V.length)=>FY hu);have fN:Hid (∀u (hu:u<V.length),sz (ar V) u=V[u].2.length):=fun u hu=>by rw[sz,FY hu];rfl
 have SM:=hid PT;have HI:=hid h;have HA:=hid hA;have hTe:qj (ar V) (ag L[v]) f v=pos (ar V) f (ag L[v])*sz (ar V) v+f v:=rfl;obtain⟨gp,eN,bp,cp,rfl,gA,p1,gK⟩:=h.pars v dV;obtain⟨gr,gZ,br,cr,rfl,hgr,r1,Gn,KS⟩:=h.rows v oA;obtain⟨gf,ek,rfl,K4,m0,m1,m2⟩:=Gn _ hT;obtain⟨gv,ov,bv,cv,rfl,Ec, -,n1, -, -⟩:=h.vars v hv;obtain⟨ga,oa,rfl,wI,a1⟩:=hA v (by rw[bs];omega)
 have ea:(iL A)[v]'(by rw[bs];omega)=((f v:Nat):Int):=by
  obtain⟨h1,h2⟩:=nY.1 (PT v hv);simp only[iL,lV,h2]
 rw[ea] at a1;rw[<- fN.o v hv] at n1;have xe:=hid gK;have HM:=hid (show _/\_/\_/\_/\_/\_/\_ from ⟨p1,r1,n1,a1,m0,m1,m2⟩);have hf4:=xr.o v;have DL:=HZ4.o v;have Gv:=gV.o (ag L[v]).length;rw[gX] at Gv
 have hrl:R[v].length<=262144:=by
  rw[hlen];have h1:=qM jN hpl;exact aL (jm h1 DL) (by decide)
 have HRC:=hid KS;generalize hTT:qj (ar V) (ag L[v]) f v=T at *;generalize hfr:R[v][T]=fr at *;obtain⟨fn,fx,fy⟩:=fr;simp only at HM;clear h hA PT gK Gn p1 r1 n1 a1 m0 m1 m2 hlen hf jN hS hU ea hTT hfr KS;generalize R[v]=rl at *;generalize L[v]=pl at *;have jk:=hid (LK.new w (.slice (some ⟨gv,ov,none⟩) V.length ca) (.slice (some ⟨gp,eN,none⟩) L.length cb) (.slice (some ⟨gr,gZ,none⟩) R.length cc));obtain⟨c0,c1,c2⟩:=jk.o.1.1.cells;have p1:=(jk.o.1.2.cell (p:=⟨gp,eN+v,none⟩) gA).trans HM.o.1;go_enter Tryz.func151,Tryz.ntmps151;go_wp2_with fail
 generalize ((w.alloc (NC (.slice (some ⟨gv,ov,none⟩) V.length ca) (.slice (some ⟨gp,eN,none⟩) L.length cb) (.slice (some ⟨gr,gZ,none⟩) R.length cc))).alloc (FC false ⟨#[]⟩ ⟨#[]⟩))=w1 at *;clear c0 c1 c2 p1;go_loopw [7,16] (fun kv iv wr=>∃i:Nat,i<=pl.length/\iv=.int .i64 i/\kv=.int .i64 (pos (ar V) f ((ag pl).take i):Nat)/\Hid (LK w wr (.slice (some ⟨gv,ov,none⟩) V.length ca) (.slice (some ⟨gp,eN,none⟩) L.length cb) (.slice (some ⟨gr,gZ,none⟩) R.length cc))) (fun _ iv _=>pl.length - (intOf iv).toNat)
 case atStart=>exact⟨0,aU _,rfl,rfl,jk⟩
 case round=>
  obtain⟨i,hi,rfl,rfl,HK⟩:=hrel;clear jk;obtain⟨c0,c1,c2⟩:=HK.o.1.1.cells;have p1:=(HK.o.1.2.cell (p:=⟨gp,eN+v,none⟩) gA).trans HM.o.1;by_cases hlt:i<pl.length
  ·obtain⟨gl,ol,rfl,cE,l1⟩:=(xe.o.aa HK.o.1.2) i hlt;obtain⟨iA,iN⟩:=iV.o.nat hlt;(have wH:i<(ag pl).length:=by rw[cY];exact hlt);have dt:=pX.o i wH;rw[mW hlt] at dt;have yj:=gV.o i;rw[<- iA] at l1;generalize pl[i].toNat=u at *;obtain⟨gv',ov',bu,cu,ev,alS, -,n2, -, -⟩:=(HI.o.aa HK.o.1.2).vars u iN;cases ev;rw[<- fN.o u iN] at n2;obtain⟨ga',oa',ea',alU,a2⟩:=(HA.o.aa HK.o.1.2) u (by rw[bs];omega);cases ea'
   have eu:(iL A)[u]'(by rw[bs];omega)=((f u:Nat):Int):=by
    obtain⟨h1,h2⟩:=nY.1 (SM.o u iN);simp only[iL,lV,h2]
   rw[eu] at a2;have hfu:=xr.o u;have hzu:=HZ4.o u;have HPX:Hid (pos (ar V) f ((ag pl).take (i+1))=pos (ar V) f ((ag pl).take i)*sz (ar V) u+f u):=dt;clear dt eu wH iA;generalize Ci:pos (ar V) f ((ag pl).take (i+1))=P1 at *;generalize pos (ar V) f ((ag pl).take i)=P0 at *;generalize sz (ar V) u=su at *;generalize f u=fu at *;have h1:P0*su<=65536*4:=jm yj hzu
   have hm1:IntKind.i64.wrap ((P0:Int)*(su:Int))=((P0*su:Nat):Int):=by
    rw[gI, <- jG];omega
   have bq:IntKind.i64.wrap (((P0*su:Nat):Int)+(fu:Int))=(P1:Int):=by
    rw[gI];have:=HPX.o;omega
   generalize P0*su=Q0 at *;have qZ:=hid Ci;clear Ci h1 HPX;go_upto_region 5 with fail
   go_quiet (fail)
   have HKn:=hid (HK.o.drewN nq);generalize wr.drewN nq=w2 at *;go_wp2;go_roundw
   case rel=>exact⟨i+1,by omega,by go_num,by rw[qZ.o],HKn⟩
   case measure=>simp[intOf];omega
  ·obtain rfl:i=pl.length:=by omega
   rw[vu.o];have r1:=(HK.o.1.2.cell (p:=⟨gr,gZ+v,none⟩) hgr).trans HM.o.2.1;have n1:=(HK.o.1.2.cell (p:=⟨gv,ov+v*2+1,none⟩) Ec).trans HM.o.2.2.1;have a1:=(HK.o.1.2.cell (p:=⟨ga,oa+v,none⟩) wI).trans HM.o.2.2.2.1;have m0:=(HK.o.1.2.cell (p:=⟨gf,ek+T*3,none⟩) K4).trans HM.o.2.2.2.2.1;have m1:=(HK.o.1.2.cell (p:=⟨gf,ek+T*3+1,none⟩) K4).trans HM.o.2.2.2.2.2.1;have m2:=(HK.o.1.2.cell (p:=⟨gf,ek+T*3+2,none⟩) K4).trans HM.o.2.2.2.2.2.2;have h1:pos (ar V) f (ag pl)*sz (ar V) v<=65536*4:=jm Gv DL;generalize pos (ar V) f (ag pl)=p at *;generalize sz (ar V) v=k at *;generalize f v=x at *
   have hm1:IntKind.i64.wrap ((p:Int)*(k:Int))=((p*k:Nat):Int):=by
    rw[gI, <- jG];omega
   have bq:IntKind.i64.wrap (((p*k:Nat):Int)+(x:Int))=(T:Int):=by
    rw[gI];omega
   generalize p*k=pk at *;clear hTe h1;go_upto_region 7 with fail
   have Lc:=HK.o;refine jE (S:=fun u=>u.cell? ⟨w.heap.size,2,none⟩=some (.slice (some ⟨gr,gZ,none⟩) R.length cc)/\u.cell? ⟨gr,gZ+v,none⟩=some (.slice (some ⟨gf,ek,none⟩) rl.length cr)/\u.cell? ⟨w.heap.size,0,none⟩=some (.slice (some ⟨gv,ov,none⟩) V.length ca)/\u.cell? ⟨gv,ov+v*2+1,none⟩=some (.slice bv k cv)/\u.cell? ⟨ga,oa+v,none⟩=some (.int .i64 (x:Nat))/\u.cell? ⟨gf,ek+T*3,none⟩=some (.bool fn)/\u.cell? ⟨gf,ek+T*3+1,none⟩=some (.string fx)/\u.cell? ⟨gf,ek+T*3+2,none⟩=some (.string fy)) (by kernel_rfl) ⟨c2,r1,c0,n1,a1,m0,m1,m2⟩ (fun ak=>?_);have Lc:LK w wr.drew (.slice (some ⟨gv,ov,none⟩) V.length ca) (.slice (some ⟨gp,eN,none⟩) L.length cb) (.slice (some ⟨gr,gZ,none⟩) R.length cc):=⟨⟨HK.o.1.1,HK.o.1.2.drew⟩,HK.o.2⟩;clear c0 c1 c2 p1 r1 n1 a1 m0 m1 m2;generalize wr.drew=u0 at *;refine aw 0 (.pointer (some ⟨w.heap.size,2,none⟩)) ?_;refine aw 1 (.slice (some ⟨gr,gZ,none⟩) R.length cc) ?_;refine aw 2 (.int .i64 (v:Nat)) ?_;refine aw 3 (.pointer (some ⟨gr,gZ+v,none⟩)) ?_;refine aw 4 (.slice (some ⟨gf,ek,none⟩) rl.length cr) ?_;refine aw 5 (.int .i64 (p:Nat)) ?_;refine aw 6 (.pointer (some ⟨w.heap.size,0,none⟩)) ?_;refine aw 7 (.slice (some ⟨gv,ov,none⟩) V.length ca) ?_;refine aw 8 (.int .i64 (v:Nat)) ?_;refine aw 9 (.pointer (some ⟨gv,ov+v*2,none⟩)) ?_;refine aw 10 (.pointer (some ⟨gv,ov+v*2+1,none⟩)) ?_;refine aw 11 (.slice bv k cv) ?_;refine aw 12 (.int .i64 (k:Nat)) ?_;refine aw 13 (.int .i64 (pk:Nat)) ?_;refine aw 14 (.slice (some ⟨ga,oa,none⟩) A.length cd) ?_
   refine aw 15 (.int .i64 (v:Nat)) ?_;refine aw 16 (.pointer (some ⟨ga,oa+v,none⟩)) ?_;refine aw 17 (.int .i64 (x:Nat)) ?_;refine aw 18 (.int .i64 (T:Nat)) ?_;refine aw 19 (.pointer (some ⟨gf,ek+T*3,none⟩)) ?_;refine aw 20 (.agg #[.bool fn,.string fx,.string fy]) ?_;(try simp only[gE,aP]);obtain⟨k0,k1,k2,f0,f1,f2⟩:=Lc.2.facts;(have Ea:w.heap.size≠w.heap.size+1:=by omega);(have Pr:gr≠w.heap.size+1:=by omega);(have Pq:gv≠w.heap.size+1:=by omega);(have Ps:ga≠w.heap.size+1:=by omega);(have ym:gf≠w.heap.size+1:=by omega);refine aH [21] (cA ?_ aG);intro K' hK';go_simp;have jz:=Lc.2.put fn fx fy;have G8:=cQ Lc.1.2 (show w.heap.size<=w.heap.size+1 by omega) (.bool fn) (.string fx) (.string fy)
   refine hK'.o _ _ ⟨((dO _ _ _ _ (fun e=>Ea (cU Addr.block e).symm)).trans ((dO _ _ _ _ (fun e=>Ea (cU Addr.block e).symm)).trans ((dO _ _ _ _ (fun e=>Ea (cU Addr.block e).symm)).trans ak.1))),((dO _ _ _ _ (fun e=>Pr (cU Addr.block e).symm)).trans ((dO _ _ _ _ (fun e=>Pr (cU Addr.block e).symm)).trans ((dO _ _ _ _ (fun e=>Pr (cU Addr.block e).symm)).trans ak.2.1))),((dO _ _ _ _ (fun e=>Ea (cU Addr.block e).symm)).trans ((dO _ _ _ _ (fun e=>Ea (cU Addr.block e).symm)).trans ((dO _ _ _ _ (fun e=>Ea (cU Addr.block e).symm)).trans ak.2.2.1))),((dO _ _ _ _ (fun e=>Pq (cU Addr.block e).symm)).trans ((dO _ _ _ _ (fun e=>Pq (cU Addr.block e).symm)).trans ((dO _ _ _ _ (fun e=>Pq (cU Addr.block e).symm)).trans ak.2.2.2.1))),((dO _ _ _ _ (fun e=>Ps (cU Addr.block e).symm)).trans ((dO _ _ _ _ (fun e=>Ps (cU Addr.block e).symm)).trans ((dO _ _ _ _ (fun e=>Ps (cU Addr.block e).symm)).trans ak.2.2.2.2.1))),((dO _ _ _ _ (fun e=>ym (cU Addr.block e).symm)).trans ((dO _ _ _ _ (fun e=>ym (cU Addr.block e).symm)).trans ((dO _ _ _ _ (fun e=>ym (cU Addr.block e).symm)).trans ak.2.2.2.2.2.1))),((dO _ _ _ _ (fun e=>ym (cU Addr.block e).symm)).trans ((dO _ _ _ _ (fun e=>ym (cU Addr.block e).symm)).trans ((dO _ _ _ _ (fun e=>ym (cU Addr.block e).symm)).trans ak.2.2.2.2.2.2.1))),((dO _ _ _ _ (fun e=>ym (cU Addr.block e).symm)).trans ((dO _ _ _ _ (fun e=>ym (cU Addr.block e).symm)).trans ((dO _ _ _ _ (fun e=>ym (cU Addr.block e).symm)).trans ak.2.2.2.2.2.2.2)))⟩ (fun ah=>?_)
   clear hK' K' ak ah k0 k1 k2 f0 f1 f2;generalize (((u0.setCell ⟨w.heap.size+1,0,none⟩ (.bool fn)).setCell ⟨w.heap.size+1,1,none⟩ (.string fx)).setCell ⟨w.heap.size+1,2,none⟩ (.string fy))=u9 at *;(try simp only[gE,aP]);refine eK (by kernel_rfl) ?_ _;go_wp2;refine bS (jz.result rfl _ rfl) rfl ?_;exact⟨rfl,G8⟩
structure NOK (V:List Vr) (L:List (List Int)) (R:List (List Fr)):Prop where
 len:L.length=V.length
 lenR:R.length=V.length
 n8:V.length<=8
 fine:dZ (iL (ar V))
 up:∀v (h:v<L.length),Up L[v] V.length
 rows:∀v (h:v<L.length) (h':v<R.length),R[v].length=cnt (ar V) (ag L[v])*sz (ar V) v
theorem Hx {f:Nat ->Int}:∀ {n:Nat},iD f n=0 ->∀j,j< n ->f j=0
 |0,_,j,hj=>by omega
 |n+1,hz,j,hj=>by
  rw[iD] at hz;by_cases e:iD f n=0
  ·rw[aA e] at hz;rcases cT j n with h2 |h2
   ·exact Hx e j h2
   ·obtain rfl:j=n:=by omega
    exact hz
  ·rw[aD e] at hz;exact absurd hz e
theorem iz (h:bj V L R=0):NOK V L R:=by
 rw[bj] at h;by_cases h1:L.length=V.length/\R.length=V.length
 ·rw[aA h1] at h;by_cases h2:bQ L=0
  ·rw[aA h2] at h;by_cases h3:lY V=0
   ·rw[aA h3] at h;obtain⟨hf,h8,hu⟩:=Z8 h1.1 h2 h3;refine⟨h1.1,h1.2,by omega,hf,fun v hv=>by rw[<- h1.1];exact hu v hv,fun v hv hr=>?_⟩;have h4:=Hx h v (by omega);rw[kJ,bU,a8 hr,bU,a8 hv] at h4;by_cases h5:R[v].length=cnt (ar V) (ag L[v])*sz (ar V) v
    ·exact h5
    ·simp only[xE] at h4;rw[aD h5] at h4;exact absurd h4 (by decide)
   ·rw[aD h3] at h;exact absurd h h3
  ·rw[aD h2] at h;exact absurd h h2
 ·rw[aD h1] at h;exact absurd h (by decide)
def eO (V:List Vr) (L:List (List Int)) (R:List (List Fr)) (f:Nat ->Nat) (v:Nat):Fr:=bT (R.getD v []) (qj (ar V) (ag (L.getD v [])) f v)
def qh (V:List Vr) (L:List (List Int)) (R:List (List Fr)) (f:Nat ->Nat):Nat ->Rat
 |0=>1
 |k+1=>qh V L R f k*a7 (eO V L R f k)
theorem KC (hL:v<L.length) (hR:v<R.length):eO V L R f v=bT R[v] (qj (ar V) (ag L[v]) f v):=by
 rw[eO,bU,a8 hR,bU,a8 hL];rfl
theorem agD (aZ:NOK V L R) (hf:∀u,f u<sz (ar V) u) (hw:∀l∈R,fw l<=4200) (hv:v<V.length):(eO V L R f v).2.1.size+(eO V L R f v).2.2.size<=4200:=by
 have hL:v<L.length:=by rw[aZ.len];exact hv
 have hR:v<R.length:=by rw[aZ.lenR];exact hv
 rw[KC hL hR];have h1:=WV (S:=ar V) (P:=ag L[v]) hf v;rw[<- aZ.rows v hL hR] at h1;have h2:=aj8 h1;have h3:=hw R[v] (bM hR);omega
theorem LK.step {V:World} (h:LK w V x y z) (hb:Below V.heap.size V V'):LK w V' x y z:=⟨h.1.step hb,h.2.aa hb h.2.lt⟩
variable {q:Rat}
theorem Hw (h:Fits m q) (hm:m<=n):Fits n q:=by
 obtain⟨A,D,h1,h2,h3,h4⟩:=h;exact⟨A,D,h1,h2,aO h3 (Dv hm),aO h4 (Dv hm)⟩
theorem ZP (f g:Fr):great f g=f∨great f g=g:=by
 rw[great];by_cases h:fB (a7 f) (a7 g)<0
 ·rw[aA h];exact .inr rfl
 ·rw[aD h];exact .inl rfl
theorem NV (q:Rat):(qF q).2.1.size+(qF q).2.2.size=qw q:=rfl
theorem VO (most:Bool) (T:Nat ->Fr):∀k,(∀x,x<=k ->(T x).2.1.size+(T x).2.2.size+2<=8192) ->Fits ((k+1)*8192) (a7 (j7 most T k))
 |0,h=>Hw (Q4 _ _ _) (by have:=h 0 (aq _);show (T 0).2.1.size+(T 0).2.2.size+1<=_;omega)
 |k+1,h=>by
  have h1:=VO most T k fun x hx=>h x (by omega);have h2:Fits 8191 (a7 (T (k+1))):=Hw (Q4 _ _ _) (by have:=h (k+1) (aq _);omega);rw[j7];cases most with
  |true=>
   rw[aA rfl];rcases ZP (j7 true T k) (T (k+1)) with e |e
   ·rw[e];exact Hw h1 (by omega)
   ·rw[e];exact Hw h2 (by omega)
  |false=>
   rw[aD (by decide),mi];exact Hw (Z7 h1 h2) (by omega)
theorem ae0 (k:Nat):2*((k+1)*8192)<=2*((k+1+1)*8192):=by omega
theorem aeZ (k:Nat):8192<=2*((k+1+1)*8192):=by omega
theorem aid {f g:Fr} {A:Nat} (h1:f.2.1.size+f.2.2.size<=A) (h2:g.2.1.size+g.2.2.size<=A):(great f g).2.1.size+(great f g).2.2.size<=A:=by
 rcases ZP f g with e |e
 ·rw[e];exact h1
 ·rw[e];exact h2
theorem Ob (most:Bool) (T:Nat ->Fr):∀k,(∀x,x<=k ->(T x).2.1.size+(T x).2.2.size+2<=8192) ->(j7 most T k).2.1.size+(j7 most T k).2.2.size<=2*((k+1)*8192)
 |0,h=>by have:=h 0 (aq _);rw[j7];omega
 |k+1,h=>by
  have h1:=Ob most T k fun x hx=>h x (by omega);have h2:=h (k+1) (aq _);have h3:=VO most T (k+1) h;rw[j7] at h3⊢;cases most with
  |true=>
   rw[aA rfl];exact aid (aL h1 (ae0 k)) (aL (aL (Jl _ 2) h2) (aeZ k))
  |false=>
   rw[aD (by decide)] at h3⊢;rw[mi] at h3;have h4:=Lz h3;rw[NV];exact h4
def RI (most:Bool) (pf:Nat):Prop:=(∀args w,(callFunc pf args).run Tryz.prog w=.ok (.enter pf args) w)/\∀(f g:Fr) (V:World),f.2.1.size+f.2.2.size<=100000 ->g.2.1.size+g.2.2.size<=100000 ->Calls Tryz.prog pf #[gF f,gF g] V fun e w'=>e=.returned (gF (if most then great f g else qF (a7 f+a7 g)))/\Below V.heap.size V w'
theorem aeL:RI false 141:=⟨enters_of Tryz.func141 (by kernel_rfl) rfl,fun f g V h1 h2=>ai9 (n:=f.1) (m:=g.1) (x:=f.2.1) (y:=f.2.2) (u:=g.2.1) (v:=g.2.2) (w:=V) (a7 f+a7 g) rfl rfl rfl h1 h2⟩
theorem aeM:RI true 235:=⟨enters_of Tryz.func235 (by kernel_rfl) rfl,fun f g V h1 h2=>aic f g V h1 h2⟩
theorem VQ (most:Bool) (pf:Nat) (Po:RI most pf) (Bh Bs Bv Bt Bf:Nat) (a c:Option Addr) (ca cc:Nat) (sizes:List Int) (lb:Array Value) (l:List Fr) (k v n:Nat) (P:Nat ->Nat) (hP:∀x,x< n ->P x<l.length) (dW:1<=n) (zS:n<=4) (dU:v<sizes.length) (wF:sizes[v]=(n:Int)) (w:World)
  (hBh:Bh<w.heap.size) (xh:w.cell? ⟨Bh,0,none⟩=some (.func (.func pf) #[] #[])) (uK:Bs<w.heap.size) (xs:w.cell? ⟨Bs,0,none⟩=some (.slice a sizes.length ca)) (Ej:Bv<w.heap.size) (xv:w.cell? ⟨Bv,0,none⟩=some (.int .i64 (v:Nat))) (rT:Bt<w.heap.size) (xc:w.cell? ⟨Bt,1,none⟩=some (.slice c l.length cc)) (yA:Bf<w.heap.size) (xf:w.cell? ⟨Bf,0,none⟩=some (.func (.func 200) #[] lb)) (hs:aC w a sizes) (hf:dA w c l) (h1:Cw 8192 l)
  (hc:∀x,x< n ->∀V,Below w.heap.size w V ->Calls Tryz.prog 200 (#[.int .i64 (k:Nat),.int .i64 (x:Nat)]++lb) V fun e w'=>e=.returned (.int .i64 (P x:Nat))/\Below V.heap.size V w'):
  Calls Tryz.prog 204 #[.int .i64 (k:Nat),.pointer (some ⟨Bh,0,none⟩),.pointer (some ⟨Bs,0,none⟩),.pointer (some ⟨Bv,0,none⟩),.pointer (some ⟨Bt,0,none⟩),.pointer (some ⟨Bf,0,none⟩)] w fun e w'=>e=.returned (gF (qF (a7 (j7 most (fun x=>bT l (P x)) (n - 1)))))/\Below w.heap.size w w':=by
 obtain⟨g,o,rfl,hg,cs⟩:=hs v dU;rw[wF] at cs;have zP:∀x,x< n ->(bT l (P x)).2.1.size+(bT l (P x)).2.2.size+2<=8192:=fun x hx=>h1 _ (hP x hx);have DU:=Ob most (fun x=>bT l (P x)) (n - 1) fun x hx=>zP x (by omega)
 have hJ:∀W,Below w.heap.size w W ->∀Bk,Bk<W.heap.size ->W.cell? ⟨Bk,0,none⟩=some (.int .i64 (k:Nat)) ->Calls Tryz.prog 205 #[.agg #[.func (.func pf) #[] #[]],.int .i64 (n:Nat),.func (.func 206) #[] #[.pointer (some ⟨Bt,0,none⟩),.pointer (some ⟨Bf,0,none⟩),.pointer (some ⟨Bk,0,none⟩)]] W fun e w'=>e=.returned (gF (j7 most (fun x=>bT l (P x)) (n - 1)))/\Below W.heap.size W w':=by
  intro W hW Bk Ek xk;refine agK pf 206 #[] _ Po.1 (enters_of Tryz.func206 (by kernel_rfl) rfl) n (fun x=>bT l (P x)) (j7 most (fun x=>bT l (P x))) W dW (by omega) ?_ ?_ rfl
  ·intro x hx V hb;have hB:=hW.trans (hb.af hW.size);exact ae7 Bt Bf Bk c cc lb l k x (P x) (hP x hx) V (aO rT hB.size) ((hB.cell (p:=⟨Bt,1,none⟩) rT).trans xc) (aO yA hB.size) ((hB.cell (p:=⟨Bf,0,none⟩) yA).trans xf) (aO Ek hb.size) ((hb.cell (p:=⟨Bk,0,none⟩) Ek).trans xk) (hf.aa hB) fun V' hb'=>hc x hx V' (hB.trans (hb'.af hB.size))
  ·intro x hx V hb;have e1:=Ob most (fun x=>bT l (P x)) x fun y hy=>zP y (by omega);have e2:=zP (x+1) hx;exact Po.2 _ _ V (by omega) (by show (bT l (P (x+1))).2.1.size+(bT l (P (x+1))).2.2.size<=_;omega)
 have HJ:=hid hJ;have HC:=hid (fun V:World=>S7 (w:=V) (a7 (j7 most (fun x=>bT l (P x)) (n - 1))) rfl (show (j7 most (fun x=>bT l (P x)) (n - 1)).2.1.size+(j7 most (fun x=>bT l (P x)) (n - 1)).2.2.size<=100000 by omega));rw[Lr];generalize a7 (j7 most (fun x=>bT l (P x)) (n - 1))=r at *;generalize j7 most (fun x=>bT l (P x)) (n - 1)=f at *;clear hJ DU zP hc hf hs hP Po xc xf;obtain⟨fn,fx,fy⟩:=f;simp only at HC HJ;have hv0:(0:Int)<=(v:Int):=by omega
 have ny:(v:Int)<(sizes.length:Int):=by omega
 have hb0:aF ((w.alloc (.cells #[.int .i64 (k:Nat)] 3)).alloc (FC false ⟨#[]⟩ ⟨#[]⟩)) (w.heap.size+1) false ⟨#[]⟩ ⟨#[]⟩:=aF.at (by simp) _ _ _;have hk0:Boxed ((w.alloc (.cells #[.int .i64 (k:Nat)] 3)).alloc (FC false ⟨#[]⟩ ⟨#[]⟩)) w.heap.size 3 (.int .i64 (k:Nat)):=(aY w _ _).alloc _;have hB:Below w.heap.size w ((w.alloc (.cells #[.int .i64 (k:Nat)] 3)).alloc (FC false ⟨#[]⟩ ⟨#[]⟩)):=((au _ w).alloc (aq _) _).alloc (by simp) _;go_enter Tryz.func204,Tryz.ntmps204;go_upto_region 1 with fail
 generalize ((w.alloc (.cells #[.int .i64 (k:Nat)] 3)).alloc (FC false ⟨#[]⟩ ⟨#[]⟩))=W at *;replace hb0:=hb0.drew;replace hB:=hB.drew;replace hk0:Boxed W.drew w.heap.size 3 (.int .i64 (k:Nat)):=hk0;have held:∀u,Below w.heap.size w u ->u.cell? ⟨Bh,0,none⟩=some (.func (.func pf) #[] #[])/\u.cell? ⟨Bs,0,none⟩=some (.slice (some ⟨g,o,none⟩) sizes.length ca)/\u.cell? ⟨Bv,0,none⟩=some (.int .i64 (v:Nat))/\u.cell? ⟨g,o+v,none⟩=some (.int .i64 (n:Nat)):=fun u h=>⟨(h.cell (p:=⟨Bh,0,none⟩) hBh).trans xh,(h.cell (p:=⟨Bs,0,none⟩) uK).trans xs,(h.cell (p:=⟨Bv,0,none⟩) Ej).trans xv,(h.cell (p:=⟨g,_,none⟩) hg).trans cs⟩;have HELD:=hid held;clear held xh xs xv cs;refine jE (S:=fun u=>u.cell? ⟨Bh,0,none⟩=some (.func (.func pf) #[] #[])/\u.cell? ⟨Bs,0,none⟩=some (.slice (some ⟨g,o,none⟩) sizes.length ca)/\u.cell? ⟨Bv,0,none⟩=some (.int .i64 (v:Nat))/\u.cell? ⟨g,o+v,none⟩=some (.int .i64 (n:Nat))) (by kernel_rfl) (HELD.o _ hB) (fun ak=>?_);generalize W.drew=u0 at *;refine aw 0 (.agg #[.func (.func pf) #[] #[]]) ?_;refine aw 1 (.slice (some ⟨g,o,none⟩) sizes.length ca) ?_;refine aw 2 (.int .i64 (v:Nat)) ?_;refine aw 3 (.pointer (some ⟨g,o+v,none⟩)) ?_;refine aw 4 (.int .i64 (n:Nat)) ?_;refine aw 5 (.func (.func 206) #[] #[.pointer (some ⟨Bt,0,none⟩),.pointer (some ⟨Bf,0,none⟩),.pointer (some ⟨w.heap.size,0,none⟩)]) ?_;refine aH [6] (cA ?_ aG);intro K' hK';go_simp;refine(HJ.o _ hB _ hk0.lt hk0.cell).af ?_;rintro e u1 ⟨rfl,hb⟩;replace hb0:=hb0.aa hb hb0.lt;clear hk0
 replace hB:=hB.trans (hb.af hB.size);refine hK'.o _ _ (HELD.o _ hB) (fun ah=>?_);clear hK' K' ak;have ak:=ah;clear ah hb;refine aH [7] (cA ?_ aG);intro K' hK';go_simp;refine(HC.o _).af ?_;rintro e u2 ⟨rfl,hb⟩;replace hb0:=hb0.aa hb hb0.lt;replace hB:=hB.trans (hb.af hB.size);refine hK'.o _ _ (HELD.o _ hB) (fun ah=>?_);clear hK' K' ak;have ak:=ah;clear ah hb;try simp only[gE,aP]
 obtain⟨k0,k1,k2,f0,f1,f2⟩:=hb0.facts;refine aH [8] (cA ?_ aG);intro K' hK';go_simp;have hput:=hb0.put (aM r) (nu r) (de r);have qJ:=cQ hB (g:=w.heap.size+1) (by omega) (.bool (aM r)) (.string (nu r)) (.string (de r));generalize (((u2.setCell ⟨w.heap.size+1,0,none⟩ (.bool (aM r))).setCell ⟨w.heap.size+1,1,none⟩ (.string (nu r))).setCell ⟨w.heap.size+1,2,none⟩ (.string (de r)))=v9 at *;refine hK'.o _ _ (HELD.o _ qJ) (fun _=>eK (by kernel_rfl) ?_ _);clear hK' K' ak;go_wp2;refine bS (hput.result rfl _ rfl) rfl ?_;exact⟨rfl,qJ⟩
def OH (w V:World) (s u v x:Value):Prop:=Boxed V w.heap.size 27 s/\NR w V (w.heap.size+1) (w.heap.size+1+1+1) u v/\Boxed V (w.heap.size+1+1) 3 x
theorem OH.step {V:World} {s u v:Value} (h:OH w V s u v x) (hb:Below V.heap.size V V'):OH w V' s u v x:=⟨aS h.1 hb,h.2.1.step hb,aS h.2.2 hb⟩
theorem OH.new (w:World) (s u v x:Value):OH w ((((w.alloc (.cells #[s] 27)).alloc (TC u v)).alloc (.cells #[x] 3)).alloc (TC (.slice none 0 0) (.slice none 0 0))) s u v x:=by
 have h2:Boxed (((w.alloc (.cells #[s] 27)).alloc (TC u v)).alloc (.cells #[x] 3)) (w.heap.size+1+1) 3 x:=by
  have h:=aY ((w.alloc (.cells #[s] 27)).alloc (TC u v)) 3 x;rwa [di,di] at h
 exact⟨(((aY w _ _).alloc _).alloc _).alloc _,⟨((bw.at (by simp) _ _).alloc _).alloc _,bw.at (by simp) _ _,((((au _ w).alloc (aq _) _).alloc (by simp) _).alloc (by simp;omega) _).alloc (by simp;omega) _⟩,h2.alloc _⟩
theorem OH.off {V:World} {s u v:Value} (h:OH w V s u v x) (B j:Nat) (y:Value) (hB:w.heap.size+1+1+1<B):OH w (V.setCell ⟨B,j,none⟩ y) s u v x:=⟨fJ h.1 B j y (by omega),h.2.1.off B j y (by omega) (by omega) (by omega),fJ h.2.2 B j y (by omega)⟩
theorem OH.top {V:World} {s u v:Value} (h:OH w V s u v x):w.heap.size+1+1+1<V.heap.size:=h.2.1.2.1.lt
theorem Oc (S vars rest:List Nat) (v:Nat) (most:Bool) (l:List Fr):(ow S vars rest v most l).length=cnt S rest:=by simp[ow]
theorem VP (S vars rest:List Nat) (v:Nat) (most:Bool) (l:List Fr) (h:k<(ow S vars rest v most l).length):(ow S vars rest v most l)[k]=qF (a7 (j7 most (fun x=>bT l (pos S (aQ (aV S rest k) v x) vars)) (sz S v - 1))):=by simp[ow]
theorem acC (a b c:Option Addr) (ca cb cc:Nat) (sizes vars:List Int) (l:List Fr) (v:Nat) (w:World) (hs:aC w a sizes) (hv:aC w b vars) (hf:dA w c l) (hn:sizes.length<=140737488355328) (hm:vars.length<=140737488355328) (hk:jh sizes vars l.length=0) (hw:Cw 8192 l) (hv':vars.contains (v:Int)=true) (dU:v<sizes.length):
  Calls Tryz.prog 160 #[.slice a sizes.length ca,.agg #[.slice b vars.length cb,.slice c l.length cc],.int .i64 (v:Nat),.bool false] w fun e w'=>rZ w.heap.size (bJ vars (v:Int)) (ow (ag sizes) (ag vars) (ag (bJ vars (v:Int))) v false l) 0 e w'/\Below w.heap.size w w':=by
 obtain⟨aJ,aT,hlc⟩:=yE hk;have vE:=hid (fun V h=>FX b cb vars (v:Int) V h hm);rw[hv'] at vE;have ik:=fun V h1 h2=>Bg a b c ca cb cc l.length sizes vars V h1 h2 hn hm;rw[hk] at ik;have HC:=hid ik;clear ik;have hrl:(bJ vars (v:Int)).length<=vars.length:=lT _ _;have O4:=aT.length;have nE:=aJ.eight;have cC:=hid aJ;have iV:=hid aT;have Ay:=hid (rG aT (v:Int));have CJ:=hid (KE (v:=v) aT);have gV:=hid (fun K (hK:K<cnt (ag sizes) (ag (bJ vars (v:Int)))) x (hx:x<sz (ag sizes) v)=>M6 hk hK hx);have jP:=Oc (ag sizes) (ag vars) (ag (bJ vars (v:Int))) v false l;have vD:=hid (fun (k:Nat) (h:k<(ow (ag sizes) (ag vars) (ag (bJ vars (v:Int))) v false l).length)=>VP (ag sizes) (ag vars) (ag (bJ vars (v:Int))) v false l h);have kT:=hid (fun V h=>M5 b cb vars (v:Int) V h (by omega));generalize ow (ag sizes) (ag vars) (ag (bJ vars (v:Int))) v false l=FL at *;generalize bJ vars (v:Int)=rest at *;have HST:=hid (fun V d cd h1 h2=>Nv a d b ca cd cb sizes rest vars v V h1 h2 aJ aT dU);have HF:=hid hf;have HW:=hid hw;have ij:=hid jP;have HN:=hid (aJ.sz_eq dU);have sj:=hid (aJ.sz_le v);have AL:=hid (kF aJ.pos v);have tE:=hid dU;clear hv' hk aJ aT hlc hf hw jP;have HS:=hid hs;have HV:=hid hv;have hH:=OH.new w (.slice a sizes.length ca) (.slice b vars.length cb) (.slice c l.length cc) (.int .i64 (v:Nat));have c0:=hH.2.1.1.c0;have c1:=hH.2.1.1.c1;have cs:=hH.1.cell;go_enter Tryz.func160,Tryz.ntmps160;go_wp2_with fail
 generalize ((((w.alloc (.cells #[.slice a sizes.length ca] 27)).alloc (TC (.slice b vars.length cb) (.slice c l.length cc))).alloc (.cells #[.int .i64 (v:Nat)] 3)).alloc (TC (.slice none 0 0) (.slice none 0 0)))=W at *;refine(HC.o _ (HS.o.aa hH.2.1.2.2) (HV.o.aa hH.2.1.2.2)).af ?_;rintro e w1 ⟨rfl,hb1⟩;replace hH:=hH.step hb1;clear c0 c1 cs hb1;have c0:=hH.2.1.1.c0;have cx:=hH.2.2.cell;go_wp2_with fail
 refine(vE.o _ (HV.o.aa hH.2.1.2.2)).af ?_;rintro e w2 ⟨rfl,hb2⟩;replace hH:=hH.step hb2;clear c0 cx hb2 vE;go_wp2_with fail
 refine(T9 _).af ?_;rintro e w3 ⟨rfl,hb3⟩;replace hH:=hH.step hb3;clear hb3;have hb4:Below w3.heap.size w3 (w3.alloc (.cells #[.func (.func 141) #[] #[]] 224)):=(au _ w3).alloc (aq _) _;have hJ:Boxed (w3.alloc (.cells #[.func (.func 141) #[] #[]] 224)) w3.heap.size 224 (.func (.func 141) #[] #[]):=aY w3 _ _;have bL:=hH.top;replace hH:=hH.step hb4;clear hb4;have c0:=hH.2.1.1.c0;have cx:=hH.2.2.cell;go_wp2_with fail
 clear c0 cx;generalize (w3.alloc (.cells #[.func (.func 141) #[] #[]] 224))=w5 at *;generalize w3.heap.size=BJ at *;refine(kT.o _ (HV.o.aa hH.2.1.2.2)).af ?_;rintro e w6 ⟨d,cd,rfl,hi,pM,eA⟩;have CV:=hid (pM.up hH.2.1.2.2.size);clear pM;replace hH:=hH.step eA;replace hJ:=aS hJ eA;clear eA kT;have c0:=hH.2.1.1.c0;have cx:=hH.2.2.cell;have cs:=hH.1.cell;go_wp2_with fail
 refine(HST.o _ d cd (HS.o.aa hH.2.1.2.2) (HV.o.aa hH.2.1.2.2)).af ?_;rintro e w7 ⟨f,rfl,qG,c5⟩;replace hH:=hH.step c5;replace hJ:=aS hJ c5;replace hi:=hi.aa c5;obtain⟨lb,rfl⟩:=qG.shape;clear c0 cx cs c5 HST;generalize w6.heap.size=n3 at *;have fp:Below w7.heap.size w7 (w7.alloc (.cells #[.func (.func 200) #[] lb] 100)):=(au _ w7).alloc (aq _) _;have hY:Boxed (w7.alloc (.cells #[.func (.func 200) #[] lb] 100)) w7.heap.size 100 (.func (.func 200) #[] lb):=aY w7 _ _;replace hH:=hH.step fp;replace hJ:=aS hJ fp;replace qG:=qG.aa fp;replace hi:=hi.aa fp;have cs:=hH.1.cell;go_wp2_with fail
 clear fp cs;generalize (w7.alloc (.cells #[.func (.func 200) #[] lb] 100))=w8 at *;generalize w7.heap.size=C0 at *
 have qp:=Hz a d ca cd sizes rest 204 #[.pointer (some ⟨BJ,0,none⟩),.pointer (some ⟨w.heap.size,0,none⟩),.pointer (some ⟨w.heap.size+1+1,0,none⟩),.pointer (some ⟨w.heap.size+1,0,none⟩),.pointer (some ⟨C0,0,none⟩)] (enters_of Tryz.func204 (by kernel_rfl) rfl) FL w8 (HS.o.aa hH.2.1.2.2) hi cC.o Ay.o ij.o (fun k hk V hb=>by
  rw[vD.o k hk];have eV:k<cnt (ag sizes) (ag rest):=by rw[<- ij.o];exact hk
  have hB:=hH.2.1.2.2.trans (hb.af hH.2.1.2.2.size);refine VQ false 141 aeL BJ w.heap.size (w.heap.size+1+1) (w.heap.size+1) C0 a c ca cc sizes lb l k v (sz (ag sizes) v) (fun x=>pos (ag sizes) (aQ (aV (ag sizes) (ag rest) k) v x) (ag vars)) (fun x hx=>gV.o k eV x hx) AL.o sj.o tE.o HN.o.symm V (aO hJ.lt hb.size) (aS hJ hb).cell (aO hH.1.lt hb.size) (aS hH.1 hb).cell (aO hH.2.2.lt hb.size) (aS hH.2.2 hb).cell (aO hH.2.1.1.lt hb.size) ((hb.cell (p:=⟨w.heap.size+1,1,none⟩) hH.2.1.1.lt).trans hH.2.1.1.c1) (aO hY.lt hb.size) (aS hY hb).cell (HS.o.aa hB) (HF.o.aa hB) HW.o ?_;intro x hx V' hb';have hb2:=hb.trans (hb'.af hb.size);have h4:=sj.o;exact((qG.aa hb2).calls (HS.o.aa (hB.trans (hb'.af hB.size))) (hi.aa hb2) cC.o Ay.o iV.o CJ.o eV (by omega)))
 have y5:=hid qp;clear qp;refine y5.o.af ?_;rintro e w9 ⟨G,rfl,hG,hrow,rO⟩;have Yn:=hH.top;replace hH:=hH.step rO;replace hi:=hi.aa rO;obtain⟨k0,k1,f0,f1⟩:=hH.2.1.2.1.facts;obtain⟨e1,e2,e3⟩:=hH.2.1.fin (by omega) (cb:=cd) (cc:=FL.length) CV.o (by omega) hi hrow (by omega) (.slice d rest.length cd) (.slice (some ⟨G,0,none⟩) FL.length FL.length) rfl rfl;go_wp2;refine bS (e1.result2 rfl _ rfl) rfl ?_;exact⟨e2,e3⟩
theorem acD (a b c:Option Addr) (ca cb cc:Nat) (sizes vars:List Int) (l:List Fr) (v:Nat) (w:World) (hs:aC w a sizes) (hv:aC w b vars) (hf:dA w c l) (hn:sizes.length<=140737488355328) (hm:vars.length<=140737488355328) (hk:jh sizes vars l.length=0) (hw:Cw 8192 l) (hv':vars.contains (v:Int)=true) (dU:v<sizes.length):
  Calls Tryz.prog 160 #[.slice a sizes.length ca,.agg #[.slice b vars.length cb,.slice c l.length cc],.int .i64 (v:Nat),.bool true] w fun e w'=>rZ w.heap.size (bJ vars (v:Int)) (ow (ag sizes) (ag vars) (ag (bJ vars (v:Int))) v true l) 0 e w'/\Below w.heap.size w w':=by
 obtain⟨aJ,aT,hlc⟩:=yE hk;have vE:=hid (fun V h=>FX b cb vars (v:Int) V h hm);rw[hv'] at vE;have ik:=fun V h1 h2=>Bg a b c ca cb cc l.length sizes vars V h1 h2 hn hm;rw[hk] at ik;have HC:=hid ik;clear ik;have hrl:(bJ vars (v:Int)).length<=vars.length:=lT _ _;have O4:=aT.length;have nE:=aJ.eight;have cC:=hid aJ;have iV:=hid aT;have Ay:=hid (rG aT (v:Int));have CJ:=hid (KE (v:=v) aT);have gV:=hid (fun K (hK:K<cnt (ag sizes) (ag (bJ vars (v:Int)))) x (hx:x<sz (ag sizes) v)=>M6 hk hK hx);have jP:=Oc (ag sizes) (ag vars) (ag (bJ vars (v:Int))) v true l;have vD:=hid (fun (k:Nat) (h:k<(ow (ag sizes) (ag vars) (ag (bJ vars (v:Int))) v true l).length)=>VP (ag sizes) (ag vars) (ag (bJ vars (v:Int))) v true l h);have kT:=hid (fun V h=>M5 b cb vars (v:Int) V h (by omega));generalize ow (ag sizes) (ag vars) (ag (bJ vars (v:Int))) v true l=FL at *;generalize bJ vars (v:Int)=rest at *;have HST:=hid (fun V d cd h1 h2=>Nv a d b ca cd cb sizes rest vars v V h1 h2 aJ aT dU);have HF:=hid hf;have HW:=hid hw;have ij:=hid jP;have HN:=hid (aJ.sz_eq dU);have sj:=hid (aJ.sz_le v);have AL:=hid (kF aJ.pos v);have tE:=hid dU;clear hv' hk aJ aT hlc hf hw jP;have HS:=hid hs;have HV:=hid hv;have hH:=OH.new w (.slice a sizes.length ca) (.slice b vars.length cb) (.slice c l.length cc) (.int .i64 (v:Nat));have c0:=hH.2.1.1.c0;have c1:=hH.2.1.1.c1;have cs:=hH.1.cell;go_enter Tryz.func160,Tryz.ntmps160;go_wp2_with fail
 generalize ((((w.alloc (.cells #[.slice a sizes.length ca] 27)).alloc (TC (.slice b vars.length cb) (.slice c l.length cc))).alloc (.cells #[.int .i64 (v:Nat)] 3)).alloc (TC (.slice none 0 0) (.slice none 0 0)))=W at *;refine(HC.o _ (HS.o.aa hH.2.1.2.2) (HV.o.aa hH.2.1.2.2)).af ?_;rintro e w1 ⟨rfl,hb1⟩;replace hH:=hH.step hb1;clear c0 c1 cs hb1;have c0:=hH.2.1.1.c0;have cx:=hH.2.2.cell;go_wp2_with fail
 refine(vE.o _ (HV.o.aa hH.2.1.2.2)).af ?_;rintro e w2 ⟨rfl,hb2⟩;replace hH:=hH.step hb2;clear c0 cx hb2 vE;go_wp2_with fail
 refine(T9 _).af ?_;rintro e w3 ⟨rfl,hb3⟩;replace hH:=hH.step hb3;clear hb3;have hb4:Below w3.heap.size w3 (w3.alloc (.cells #[.func (.func 141) #[] #[]] 224)):=(au _ w3).alloc (aq _) _;have hJ:Boxed (w3.alloc (.cells #[.func (.func 141) #[] #[]] 224)) w3.heap.size 224 (.func (.func 141) #[] #[]):=aY w3 _ _;have bL:=hH.top;replace hH:=hH.step hb4;clear hb4;go_wp2_with fail
 generalize (w3.alloc (.cells #[.func (.func 141) #[] #[]] 224))=w3' at *;generalize w3.heap.size=BJ at *;refine(aib _).af ?_;rintro e w4 ⟨rfl,hb4⟩;replace hH:=hH.step hb4;replace hJ:=aS hJ hb4;clear hb4;have j0:=hJ.cell;have j1:=hJ.frozen;replace hH:=hH.off BJ 0 (.func (.func 235) #[] #[]) bL;have c0:=hH.2.1.1.c0;have cx:=hH.2.2.cell;replace hJ:=hJ.set (.func (.func 235) #[] #[]);go_wp2_with fail
 clear j0 j1 c0 cx;generalize (w4.setCell ⟨BJ,0,none⟩ (.func (.func 235) #[] #[]))=w5 at *;refine(kT.o _ (HV.o.aa hH.2.1.2.2)).af ?_;rintro e w6 ⟨d,cd,rfl,hi,pM,eA⟩;have CV:=hid (pM.up hH.2.1.2.2.size);clear pM;replace hH:=hH.step eA;replace hJ:=aS hJ eA;clear eA kT;have c0:=hH.2.1.1.c0;have cx:=hH.2.2.cell;have cs:=hH.1.cell;go_wp2_with fail
 refine(HST.o _ d cd (HS.o.aa hH.2.1.2.2) (HV.o.aa hH.2.1.2.2)).af ?_;rintro e w7 ⟨f,rfl,qG,c5⟩;replace hH:=hH.step c5;replace hJ:=aS hJ c5;replace hi:=hi.aa c5;obtain⟨lb,rfl⟩:=qG.shape;clear c0 cx cs c5 HST;generalize w6.heap.size=n3 at *;have fp:Below w7.heap.size w7 (w7.alloc (.cells #[.func (.func 200) #[] lb] 100)):=(au _ w7).alloc (aq _) _;have hY:Boxed (w7.alloc (.cells #[.func (.func 200) #[] lb] 100)) w7.heap.size 100 (.func (.func 200) #[] lb):=aY w7 _ _;replace hH:=hH.step fp;replace hJ:=aS hJ fp;replace qG:=qG.aa fp;replace hi:=hi.aa fp;have cs:=hH.1.cell;go_wp2_with fail
 clear fp cs;generalize (w7.alloc (.cells #[.func (.func 200) #[] lb] 100))=w8 at *;generalize w7.heap.size=C0 at *
 have qp:=Hz a d ca cd sizes rest 204 #[.pointer (some ⟨BJ,0,none⟩),.pointer (some ⟨w.heap.size,0,none⟩),.pointer (some ⟨w.heap.size+1+1,0,none⟩),.pointer (some ⟨w.heap.size+1,0,none⟩),.pointer (some ⟨C0,0,none⟩)] (enters_of Tryz.func204 (by kernel_rfl) rfl) FL w8 (HS.o.aa hH.2.1.2.2) hi cC.o Ay.o ij.o (fun k hk V hb=>by
  rw[vD.o k hk];have eV:k<cnt (ag sizes) (ag rest):=by rw[<- ij.o];exact hk
  have hB:=hH.2.1.2.2.trans (hb.af hH.2.1.2.2.size);refine VQ true 235 aeM BJ w.heap.size (w.heap.size+1+1) (w.heap.size+1) C0 a c ca cc sizes lb l k v (sz (ag sizes) v) (fun x=>pos (ag sizes) (aQ (aV (ag sizes) (ag rest) k) v x) (ag vars)) (fun x hx=>gV.o k eV x hx) AL.o sj.o tE.o HN.o.symm V (aO hJ.lt hb.size) (aS hJ hb).cell (aO hH.1.lt hb.size) (aS hH.1 hb).cell (aO hH.2.2.lt hb.size) (aS hH.2.2 hb).cell (aO hH.2.1.1.lt hb.size) ((hb.cell (p:=⟨w.heap.size+1,1,none⟩) hH.2.1.1.lt).trans hH.2.1.1.c1) (aO hY.lt hb.size) (aS hY hb).cell (HS.o.aa hB) (HF.o.aa hB) HW.o ?_;intro x hx V' hb';have hb2:=hb.trans (hb'.af hb.size);have h4:=sj.o;exact((qG.aa hb2).calls (HS.o.aa (hB.trans (hb'.af hB.size))) (hi.aa hb2) cC.o Ay.o iV.o CJ.o eV (by omega)))
 have y5:=hid qp;clear qp;refine y5.o.af ?_;rintro e w9 ⟨G,rfl,hG,hrow,rO⟩;have Yn:=hH.top;replace hH:=hH.step rO;replace hi:=hi.aa rO;obtain⟨k0,k1,f0,f1⟩:=hH.2.1.2.1.facts;obtain⟨e1,e2,e3⟩:=hH.2.1.fin (by omega) (cb:=cd) (cc:=FL.length) CV.o (by omega) hi hrow (by omega) (.slice d rest.length cd) (.slice (some ⟨G,0,none⟩) FL.length FL.length) rfl rfl;go_wp2;refine bS (e1.result2 rfl _ rfl) rfl ?_;exact⟨e2,e3⟩
open Go.Sort Go.Lib
variable {la:List Int}
theorem UN:∀ {a b:List Int},a.Pairwise (·<·) ->b.Pairwise (·<·) ->(∀x,x∈a↔x∈b) ->a=b
 |[],[],_,_,_=>rfl
 |[],y::b,_,_,h=>absurd ((h y).2 dB) (by simp)
 |x::a,[],_,_,h=>absurd ((h x).1 dB) (by simp)
 |x::a,y::b,ha,hb,h=>by
  rw[List.pairwise_cons] at ha hb
  have e:x=y:=by
   have h1:=(h x).1 dB;have h2:=(h y).2 dB;rw[dG] at h1 h2;rcases h1 with h1 |h1
   ·exact h1
   ·rcases h2 with h2 |h2
    ·exact h2.symm
    ·have:=hb.1 x h1;have:=ha.1 y h2;omega
  subst e;rw[UN ha.2 hb.2 fun z=>?_];constructor
  ·intro hz;have h1:=(h z).1 (dF _ hz);have:=ha.1 z hz;rw[dG] at h1;rcases h1 with h1 |h1
   ·omega
   ·exact h1
  ·intro hz;have h1:=(h z).2 (dF _ hz);have:=hb.1 z hz;rw[dG] at h1;rcases h1 with h1 |h1
   ·omega
   ·exact h1
theorem aay {d:Array Int} (hs:∀i j,i<=j ->j<d.size ->d[i]!<=d[j]!):∀m,m<=d.size ->(compactUpTo d m).Pairwise (·<·)/\∀x,x∈compactUpTo d m↔∃j,j<m/\d[j]! =x
 |0,_=>⟨by simp[compactUpTo],fun x=>by simp[compactUpTo]⟩
 |m+1,hm=>by
  obtain⟨h1,h2⟩:=aay hs m (by omega);rw[compactUpTo_succ];by_cases hk:keeps d m=true
  ·rw[aA hk];constructor
   ·rw[List.pairwise_append];refine⟨h1,by simp,fun x hx y hy=>?_⟩;obtain⟨j,hj,rfl⟩:=(h2 x).1 hx;rw[eD] at hy;subst hy;rw[keeps,eh] at hk;rcases hk with hk |hk
    ·omega
    ·have e1:=hs j (m - 1) (by omega) (by omega);have e2:=hs (m - 1) m (by omega) (by omega);omega
   ·intro x;rw[cI,h2,eD];constructor
    ·rintro(⟨j,hj,rfl⟩ |rfl)
     ·exact⟨j,by omega,rfl⟩
     ·exact⟨m,by omega,rfl⟩
    ·rintro⟨j,hj,rfl⟩;by_cases e:j=m
     ·exact .inr (by rw[e])
     ·exact .inl ⟨j,by omega,rfl⟩
  ·rw[aD hk,xJ];refine⟨h1,fun x=>?_⟩;rw[h2];have eV:¬(m=0∨d[m]!≠d[m - 1]!):=fun h=>hk (by rw[keeps,eh];exact h);have hm0:m≠0:=fun h=>eV (.inl h);have hmm:d[m]! =d[m - 1]!:=A8 fun h=>eV (.inr h);constructor
   ·rintro⟨j,hj,rfl⟩;exact⟨j,by omega,rfl⟩
   ·rintro⟨j,hj,rfl⟩;by_cases e:j=m
    ·exact⟨m - 1,by omega,by rw[e,hmm]⟩
    ·exact⟨j,by omega,rfl⟩
def jw (la lb:List Int):List Int:=Lib.compact ((la++lb).mergeSort fun x y=>decide (x<=y))
theorem FP (la lb:List Int):(jw la lb).Pairwise (·<·)/\∀x,x∈jw la lb↔x∈la∨x∈lb:=by
 have hp:((la++lb).mergeSort fun x y=>decide (x<=y)).Pairwise (fun x y=>decide (x<=y)=true):=List.pairwise_mergeSort (fun a b c h1 h2=>by simp at h1 h2⊢;omega) (fun a b=>by simp;omega) _;have hm:∀x,x∈((la++lb).mergeSort fun x y=>decide (x<=y))↔x∈la∨x∈lb:=fun x=>by rw[List.mem_mergeSort,cI]
 rw[jw];generalize ((la++lb).mergeSort fun x y=>decide (x<=y))=zs at hp hm
 have hs:∀i j,i<=j ->j<zs.toArray.size ->zs.toArray[i]!<=zs.toArray[j]!:=fun i j uy hj=>by
  have hj':j<zs.length:=by simpa using hj
  rw[E8 zs.toArray i (by omega),E8 zs.toArray j hj];by_cases e:i=j
  ·subst e;exact Int.le_refl _
  ·have:=vK.1 hp i j (by omega) hj' (by omega);simpa using this
 obtain⟨h1,h2⟩:=aay hs zs.toArray.size (aq _);have e:Lib.compact zs=compactUpTo zs.toArray zs.toArray.size:=by rw[Lib.compact];simp
 rw[e];refine⟨h1,fun x=>?_⟩;rw[h2, <- hm];constructor
 ·rintro⟨j,hj,rfl⟩;rw[E8 zs.toArray j hj];simp
 ·intro hx;obtain⟨j,hj,rfl⟩:=iZ hx;exact⟨j,by simpa using hj,by rw[E8 zs.toArray j (by simpa using hj)];simp⟩
theorem ack:jw [] []=[]:=List.eq_nil_iff_forall_not_mem.2 fun x hx=>by have:=((FP [] []).2 x).1 hx;simp at this
theorem Xk {k:Int}:jc k l=true↔k∈l:=by simp[jc]
theorem Dj {lb:List Int} (ha:Up la n) (hb:Up lb n):Up (jw la lb) n:=by
 obtain⟨h1,h2⟩:=FP la lb;exact gj.2 ⟨fun x hx=>((h2 x).1 hx).elim ((gj.1 ha).1 x) ((gj.1 hb).1 x),h1⟩
theorem acy (a b:Option Addr) (ca cb:Nat) (la lb:List Int) (w:World) (ha:aC w a la) (hb:aC w b lb) (ha0:a=none ->ca=0) (hb0:b=none ->cb=0) (kh:la.length<=1000) (iC:lb.length<=1000):
  Calls Tryz.prog 207 #[.slice a la.length ca,.slice b lb.length cb] w fun e w'=>∃(d:Option Addr) (cd:Nat),e=.returned (.slice d (jw la lb).length cd)/\aC w' d (jw la lb)/\fM w.heap.size d cd/\Below w.heap.size w w':=by
 obtain⟨L,hL⟩:∃L,L=jw la lb:=⟨_,rfl⟩;rw[<- hL];have HL:=hid hL;have z6:Below w.heap.size w (w.alloc (.cells #[.slice a la.length ca,.slice b lb.length cb] 27)):=(au _ w).alloc (aq _) _;have hrow:(w.alloc (.cells #[.slice a la.length ca,.slice b lb.length cb] 27)).heap[w.heap.size]? =some (.cells #[.slice a la.length ca,.slice b lb.length cb] 27 (0,0)):=im _ _;have I8:=hid (ac8 w.heap.size a b ca cb la lb (w.alloc (.cells #[.slice a la.length ca,.slice b lb.length cb] 27)) (by simp) (by rw[bX _ _ _ _ _ (0,0) hrow];rfl) (by rw[bX _ _ _ _ _ (0,0) hrow];rfl) (ha.aa z6) (hb.aa z6) ha0 hb0 kh iC);clear hL ha hb ha0 hb0 hrow;go_enter Tryz.func207,Tryz.ntmps207;go_wp2_with fail
 generalize (w.alloc (.cells #[.slice a la.length ca,.slice b lb.length cb] 27))=W at *;refine I8.o.af ?_;rintro e w1 ⟨v,rfl,hr,hb1⟩;have hB1:=z6.trans (hb1.af z6.size);have hs0:=z6.size;rcases hr.cases with ⟨rfl,hnil⟩ |⟨g,cap,rfl,hg0,hg,hc1,hc2,hh⟩
 ·have Hk:L=[]:=by
   have h1:la=[]:=(List.append_eq_nil_iff.1 hnil).1;have h2:lb=[]:=(List.append_eq_nil_iff.1 hnil).2;rw[HL.o,h1,h2,ack]
  subst Hk;go_wp2_with fail
  refine(Tryz.slices_Sort_int_none none 0 _).af ?_;rintro e w2 ⟨rfl,rfl⟩;go_wp2_with fail
  refine(Tryz.slices_Compact_int_empty none 0 _).af ?_;rintro e w3 ⟨rfl,rfl⟩;go_wp2;go_ret;exact⟨none,0,rfl,fun k hk=>absurd hk (by simp),fM.nil _,hB1⟩
 ·have c4:(la++lb).length<=2000:=by rw[cK];omega
  have XH:=Tryz.slices_Sort_int g 0 cap (la++lb) w1 hh hg (by omega);have hlen:((la++lb).mergeSort fun x y=>decide (x<=y)).length=(la++lb).length:=Js _;have hcl:=Lib.compact_length_le ((la++lb).mergeSort fun x y=>decide (x<=y));rw[<- show jw la lb=Lib.compact ((la++lb).mergeSort fun x y=>decide (x<=y)) from rfl, <- HL.o] at hcl;have R1:=hid XH;have akY:Hid (Lib.compact ((la++lb).mergeSort fun x y=>decide (x<=y))=L):=HL.o.symm;generalize ((la++lb).mergeSort fun x y=>decide (x<=y))=zs at *;have HH:=hid hh;clear XH hh hr hc2 hb1;generalize hLL:(la++lb).length=n at *;go_wp2_with fail
  refine R1.o.af ?_;rintro e w2 ⟨rfl,q,os,rfl⟩;have hsz:zs.toArray.size=(la++lb).toArray.size:=by simp;rw[hlen, <- hLL];simp
  have Ac:Holds (Value.int .i64) (grow (putRow (Value.int .i64) (Sort.ahead w1 q) g 0 zs.toArray) os) g 0 zs.toArray:=fun j hj=>by
   obtain⟨h1,h2⟩:=holds_putRow (Value.int .i64) (Sort.ahead w1 q) g 0 _ zs.toArray HH.o hsz j hj;(have gA:g<(putRow (Value.int .i64) (Sort.ahead w1 q) g 0 zs.toArray).heap.size:=by rw[size_putRow];exact hg);refine⟨(cell?_grow _ _ _ gA).trans h1,?_⟩;rw[frozen?_grow _ _ _ gA];exact h2
  have GR:g<(grow (putRow (Value.int .i64) (Sort.ahead w1 q) g 0 zs.toArray) os).heap.size:=aO hg (Ji (w:=w1) (g:=g) (n:=q) (os:=os) zs.toArray).size;have hB2:=Rn (n:=q) (os:=os) zs.toArray hB1 hB1.size (show w.heap.size<=g by omega);generalize grow (putRow (Value.int .i64) (Sort.ahead w1 q) g 0 zs.toArray) os=w2 at *;have P7:=Tryz.slices_Compact_int g 0 cap zs w2 Ac (by omega) (by omega);rw[hlen,akY.o] at P7;have alh:=hid P7;have SD:=hid Ac;clear P7 Ac hsz;go_wp2_with fail
  refine alh.o.af ?_;rintro e w3 ⟨rfl,q2,rfl⟩;go_wp2;go_ret
  have rJ:(L++List.replicate (n - L.length) 0).toArray.size=zs.toArray.size:=by
   simp;omega
  exact⟨some ⟨g,0,none⟩,cap,rfl,D7 (holds_putRow (Value.int .i64) (Sort.ahead w2 q2) g 0 zs.toArray _ SD.o rJ) (by rw[size_putRow];exact GR) (fun j hj=>⟨by simp;omega,by simp[nX,hj]⟩),fM.at (by omega),Ro _ hB2 hB2.size (by omega)⟩
theorem aed (Ba Fa Bb Fb:Nat) (c d:Option Addr) (ca cb:Nat) (fa fb:Array Value) (la lb:List Fr) (k P Q:Nat) (hP:P<la.length) (hQ:Q<lb.length) (w:World)
  (hBa:Ba<w.heap.size) (xa:w.cell? ⟨Ba,1,none⟩=some (.slice c la.length ca)) (bE:Fa<w.heap.size) (ya:w.cell? ⟨Fa,0,none⟩=some (.func (.func 234) #[] fa)) (hBb:Bb<w.heap.size) (xb:w.cell? ⟨Bb,1,none⟩=some (.slice d lb.length cb)) (bP:Fb<w.heap.size) (yb:w.cell? ⟨Fb,0,none⟩=some (.func (.func 234) #[] fb)) (ha:dA w c la) (hb:dA w d lb) (wa:Cw 100000 la) (wb:Cw 100000 lb)
  (h1:∀V,Below w.heap.size w V ->Calls Tryz.prog 234 (#[.int .i64 (k:Nat)]++fa) V fun e w'=>e=.returned (.int .i64 (P:Nat))/\Below V.heap.size V w')
  (h2:∀V,Below w.heap.size w V ->Calls Tryz.prog 234 (#[.int .i64 (k:Nat)]++fb) V fun e w'=>e=.returned (.int .i64 (Q:Nat))/\Below V.heap.size V w'):
  Calls Tryz.prog 208 #[.int .i64 (k:Nat),.pointer (some ⟨Ba,0,none⟩),.pointer (some ⟨Fa,0,none⟩),.pointer (some ⟨Bb,0,none⟩),.pointer (some ⟨Fb,0,none⟩)] w fun e w'=>e=.returned (gF (qF (a7 (bT la P)*a7 (bT lb Q))))/\Below w.heap.size w w':=by
 obtain⟨g,o,rfl,hg,a0,a1,a2⟩:=ha P hP;obtain⟨h,p,rfl,hh,b0,b1,b2⟩:=hb Q hQ;have hsa:=wa P hP;have Pc:=wb Q hQ;rw[<- rV hP] at a0 a1 a2;rw[<- rV hQ] at b0 b1 b2;have HC:=hid (fun V:World=>aag (w:=V) (a7 (bT la P)*a7 (bT lb Q)) rfl rfl rfl (show (bT la P).2.1.size+(bT la P).2.2.size<=100000 by omega) (show (bT lb Q).2.1.size+(bT lb Q).2.2.size<=100000 by omega));rw[Lr];have H1:=hid h1;have H2:=hid h2;generalize a7 (bT la P)*a7 (bT lb Q)=r at *;clear ha hb h1 h2 hsa Pc wa wb;generalize bT la P=f at *;generalize bT lb Q=f' at *;obtain⟨xn,xx,xy⟩:=f;obtain⟨yn,yx,yy⟩:=f';simp only at a0 a1 a2 b0 b1 b2 HC;have hb0:aF (w.alloc (FC false ⟨#[]⟩ ⟨#[]⟩)) w.heap.size false ⟨#[]⟩ ⟨#[]⟩:=aF.new w _ _ _;have hB:Below w.heap.size w (w.alloc (FC false ⟨#[]⟩ ⟨#[]⟩)):=(au _ w).alloc (aq _) _;go_enter Tryz.func208,Tryz.ntmps208;go_upto_region 1 with fail
 generalize (w.alloc (FC false ⟨#[]⟩ ⟨#[]⟩))=W at *;replace hb0:=hb0.drew;replace hB:=hB.drew;have held:∀u,Below w.heap.size w u ->u.cell? ⟨Ba,1,none⟩=some (.slice (some ⟨g,o,none⟩) la.length ca)/\u.cell? ⟨Fa,0,none⟩=some (.func (.func 234) #[] fa)/\u.cell? ⟨Bb,1,none⟩=some (.slice (some ⟨h,p,none⟩) lb.length cb)/\u.cell? ⟨Fb,0,none⟩=some (.func (.func 234) #[] fb)/\u.cell? ⟨g,o+P*3,none⟩=some (.bool xn)/\u.cell? ⟨g,o+P*3+1,none⟩=some (.string xx)/\u.cell? ⟨g,o+P*3+2,none⟩=some (.string xy)/\u.cell? ⟨h,p+Q*3,none⟩=some (.bool yn)/\u.cell? ⟨h,p+Q*3+1,none⟩=some (.string yx)/\u.cell? ⟨h,p+Q*3+2,none⟩=some (.string yy):=fun u e=>⟨(e.cell (p:=⟨Ba,1,none⟩) hBa).trans xa,(e.cell (p:=⟨Fa,0,none⟩) bE).trans ya,(e.cell (p:=⟨Bb,1,none⟩) hBb).trans xb,(e.cell (p:=⟨Fb,0,none⟩) bP).trans yb,(e.cell (p:=⟨g,_,none⟩) hg).trans a0,(e.cell (p:=⟨g,_,none⟩) hg).trans a1,(e.cell (p:=⟨g,_,none⟩) hg).trans a2,(e.cell (p:=⟨h,_,none⟩) hh).trans b0,(e.cell (p:=⟨h,_,none⟩) hh).trans b1,(e.cell (p:=⟨h,_,none⟩) hh).trans b2⟩;have HELD:=hid held;clear held a0 a1 a2 b0 b1 b2 xa ya xb yb
 refine jE (S:=fun u=>u.cell? ⟨Ba,1,none⟩=some (.slice (some ⟨g,o,none⟩) la.length ca)/\u.cell? ⟨Fa,0,none⟩=some (.func (.func 234) #[] fa)/\u.cell? ⟨Bb,1,none⟩=some (.slice (some ⟨h,p,none⟩) lb.length cb)/\u.cell? ⟨Fb,0,none⟩=some (.func (.func 234) #[] fb)/\u.cell? ⟨g,o+P*3,none⟩=some (.bool xn)/\u.cell? ⟨g,o+P*3+1,none⟩=some (.string xx)/\u.cell? ⟨g,o+P*3+2,none⟩=some (.string xy)/\u.cell? ⟨h,p+Q*3,none⟩=some (.bool yn)/\u.cell? ⟨h,p+Q*3+1,none⟩=some (.string yx)/\u.cell? ⟨h,p+Q*3+2,none⟩=some (.string yy)) (by kernel_rfl) (HELD.o _ hB) (fun ak=>?_);generalize W.drew=u0 at *;refine aw 0 (.pointer (some ⟨Ba,1,none⟩)) ?_;try simp only[gE,aP]
 refine cN 1 (.slice (some ⟨g,o,none⟩) la.length ca) ?_ ?_
 ·intro u' aN;obtain⟨s1,s2,s3,s4,s5,s6,s7,s8,s9,F0⟩:=aN;go_simp
 try simp only[gE,aP]
 refine cN 2 (.func (.func 234) #[] fa) ?_ ?_
 ·intro u' aN;obtain⟨s1,s2,s3,s4,s5,s6,s7,s8,s9,F0⟩:=aN;go_simp
 refine aw 3 (.int .i64 (k:Nat)) ?_;refine aw 7 (.pointer (some ⟨Bb,1,none⟩)) ?_;try simp only[gE,aP]
 refine cN 8 (.slice (some ⟨h,p,none⟩) lb.length cb) ?_ ?_
 ·intro u' aN;obtain⟨s1,s2,s3,s4,s5,s6,s7,s8,s9,F0⟩:=aN;go_simp
 try simp only[gE,aP]
 refine cN 9 (.func (.func 234) #[] fb) ?_ ?_
 ·intro u' aN;obtain⟨s1,s2,s3,s4,s5,s6,s7,s8,s9,F0⟩:=aN;go_simp
 refine aw 10 (.int .i64 (k:Nat)) ?_;refine aH [4] (cA ?_ aG);intro K' hK';go_simp;refine(H1.o _ hB).af ?_;rintro e u1 ⟨rfl,hb⟩;replace hb0:=hb0.aa hb hb0.lt;replace hB:=hB.trans (hb.af hB.size);refine hK'.o _ _ (HELD.o _ hB) (fun ah=>?_);clear hK' K' ak;have ak:=ah;clear ah hb;refine aw 5 (.pointer (some ⟨g,o+P*3,none⟩)) ?_;try simp only[gE,aP]
 refine cN 6 (.agg #[.bool xn,.string xx,.string xy]) ?_ ?_
 ·intro u' aN;obtain⟨s1,s2,s3,s4,s5,s6,s7,s8,s9,F0⟩:=aN;go_simp
 refine aH [11] (cA ?_ aG);intro K' hK';go_simp;refine(H2.o _ hB).af ?_;rintro e u2 ⟨rfl,hb⟩;replace hb0:=hb0.aa hb hb0.lt;replace hB:=hB.trans (hb.af hB.size);refine hK'.o _ _ (HELD.o _ hB) (fun ah=>?_);clear hK' K' ak;have ak:=ah;clear ah hb;refine aw 12 (.pointer (some ⟨h,p+Q*3,none⟩)) ?_;try simp only[gE,aP]
 refine cN 13 (.agg #[.bool yn,.string yx,.string yy]) ?_ ?_
 ·intro u' aN;obtain⟨s1,s2,s3,s4,s5,s6,s7,s8,s9,F0⟩:=aN;go_simp
 refine aH [14] (cA ?_ aG);intro K' hK';go_simp;refine(HC.o _).af ?_;rintro e u3 ⟨rfl,hb⟩;replace hb0:=hb0.aa hb hb0.lt;replace hB:=hB.trans (hb.af hB.size);refine hK'.o _ _ (HELD.o _ hB) (fun ah=>?_);clear hK' K' ak;have ak:=ah;clear ah hb;try simp only[gE,aP]
 obtain⟨k0,k1,k2,f0,f1,f2⟩:=hb0.facts;refine aH [15] (cA ?_ aG);intro K' hK';go_simp;have hput:=hb0.put (aM r) (nu r) (de r);have qJ:=cQ hB (g:=w.heap.size) (aq _) (.bool (aM r)) (.string (nu r)) (.string (de r));generalize (((u3.setCell ⟨w.heap.size,0,none⟩ (.bool (aM r))).setCell ⟨w.heap.size,1,none⟩ (.string (nu r))).setCell ⟨w.heap.size,2,none⟩ (.string (de r)))=v9 at *;refine hK'.o _ _ (HELD.o _ qJ) (fun _=>eK (by kernel_rfl) ?_ _);clear hK' K' ak;go_wp2;refine bS (hput.result rfl _ rfl) rfl ?_;exact⟨rfl,qJ⟩
variable {j:Nat}
def RH (w:World) (g:Nat) (x y z t:Value):Prop:=w.heap[g]? =some (.cells #[x,y,z,t] 39 (0,0))
theorem RH.lt {t:Value} (h:RH w g x y z t):g<w.heap.size:=(dm.1 h).1
def PH (w V:World) (x y z t:Value):Prop:=bw V w.heap.size x y/\bw V (w.heap.size+1) z t/\bw V (w.heap.size+1+1) (.slice none 0 0) (.slice none 0 0)/\RH V (w.heap.size+1+1+1) x y z t/\Below w.heap.size w V
theorem PH.step {V:World} {t:Value} (h:PH w V x y z t) (hb:Below V.heap.size V V'):PH w V' x y z t:=⟨h.1.aa hb h.1.lt,h.2.1.aa hb h.2.1.lt,h.2.2.1.aa hb h.2.2.1.lt,(hb.block _ h.2.2.2.1.lt).trans h.2.2.2.1,h.2.2.2.2.trans (hb.af h.2.2.2.2.size)⟩
theorem PH.drew {V:World} {t:Value} (h:PH w V x y z t):PH w V.drew x y z t:=⟨h.1,h.2.1,h.2.2.1,h.2.2.2.1,h.2.2.2.2.drew⟩
theorem PH.new (w:World) (x y z t:Value):PH w ((((w.alloc (TC x y)).alloc (TC z t)).alloc (TC (.slice none 0 0) (.slice none 0 0))).alloc (.cells #[x,y,z,t] 39)) x y z t:=by
 refine⟨((bw.at rfl _ _).alloc _ |>.alloc _).alloc _,((bw.at (by simp) _ _).alloc _).alloc _,(bw.at (by simp) _ _).alloc _,?_,((((au _ w).alloc (aq _) _).alloc (by simp) _).alloc (by simp;omega) _).alloc (by simp;omega) _⟩;have h:=im (((w.alloc (TC x y)).alloc (TC z t)).alloc (TC (.slice none 0 0) (.slice none 0 0))) (.cells #[x,y,z,t] 39);rw[di,di,di] at h;exact h
theorem PH.row {V:World} {t:Value} (h:PH w V x y z t):(V.cell? ⟨w.heap.size+1+1+1,0,none⟩=some x/\V.cell? ⟨w.heap.size+1+1+1,1,none⟩=some y)/\V.cell? ⟨w.heap.size+1+1+1,2,none⟩=some z/\V.cell? ⟨w.heap.size+1+1+1,3,none⟩=some t:=by
 refine⟨⟨?_,?_⟩,?_,?_⟩<;>(rw[bX _ _ _ _ _ (0,0) h.2.2.2.1];rfl)
theorem DC {V:World} {B b:Nat} {t:TypeId} (h:Boxed V B t .nilFunc) (hx:V.cell? ⟨b,j,none⟩=some x) (hn:x≠.nilFunc):b≠B:=fun e=>by
 subst e;rw[bX V b j _ _ (0,0) h] at hx;match j with
 |0=>simp at hx;exact hn hx.symm
 |j+1=>simp at hx
theorem OO {V:World} {B:Nat} {t:TypeId} {c:Option Addr} (h:Boxed V B t .nilFunc) (hi:aC V c l) (y:Value):aC (V.setCell ⟨B,0,none⟩ y) c l:=fun k hk=>by
 obtain⟨g,o,rfl,hlt,hc⟩:=hi k hk;have hne:=DC h hc (by simp);exact⟨g,o,rfl,aO hlt (jo V _ _).size,(dO _ _ _ _ (fun e=>hne (cU Addr.block e).symm)).trans hc⟩
theorem lH.nil {V:World} {B:Nat} {t:TypeId} {f:Value} {b:Option Addr} {sizes vars:List Int} (h:lH V n m f a b ca cb sizes vars other) (hb:Boxed V B t .nilFunc) (y:Value):lH (V.setCell ⟨B,0,none⟩ y) n m f a b ca cb sizes vars other:=by
 obtain⟨Bv,Bs,Bt,g,ct,h0,hn,hm,hM,h4,h5,h6,h7⟩:=h;have far:∀(b j:Nat) (x:Value),V.cell? ⟨b,j,none⟩=some x ->x≠.nilFunc ->(V.setCell ⟨B,0,none⟩ y).cell? ⟨b,j,none⟩=some x:=fun b j x hx hn=>(dO _ _ _ _ (fun e=>DC hb hx hn (cU Addr.block e).symm)).trans hx;exact⟨Bv,Bs,Bt,g,ct,h0,hn,hm,aL hM (jo V _ _).size,far _ _ _ h4 (by simp),far _ _ _ h5 (by simp),far _ _ _ h6 (by simp),OO hb h7 y⟩
theorem PH.nil {V:World} {t:Value} {B:Nat} {ty:TypeId} (h:PH w V x y z t) (hx:dh x) (hz:dh z) (hb:Boxed V B ty .nilFunc) (hB:w.heap.size<=B) (u:Value):PH w (V.setCell ⟨B,0,none⟩ u) x y z t:=by
 obtain⟨a1,n1,c1,rfl⟩:=hx;obtain⟨a2,n2,c2,rfl⟩:=hz;have h4:=h.row.1.1;exact⟨h.1.off B 0 u (DC hb h.1.c0 (by simp)),h.2.1.off B 0 u (DC hb h.2.1.c0 (by simp)),h.2.2.1.off B 0 u (DC hb h.2.2.1.c0 (by simp)),(jq V ⟨B,0,none⟩ u _ (DC hb h4 (by simp))).trans h.2.2.2.1,h.2.2.2.2.setCell (p:=⟨B,0,none⟩) hB u⟩
theorem Vi (S va vb U:List Nat) (la lb:List Fr):(sN S va vb U la lb).length=cnt S U:=by simp[sN]
theorem aec (S va vb U:List Nat) (la lb:List Fr) (h:k<(sN S va vb U la lb).length):(sN S va vb U la lb)[k]=qF (a7 (bT la (pos S (aV S U k) va))*a7 (bT lb (pos S (aV S U k) vb))):=by simp[sN]
theorem Uo {sizes vars U:List Int} (hk:jh sizes vars m=0) (hK:K<cnt (ag sizes) (ag U)):pos (ag sizes) (aV (ag sizes) (ag U) K) (ag vars)<m:=by
 obtain⟨h1,h2,h3⟩:=yE hk;rw[h3];exact o7 _ (fun u=>qP h1.pos _ _ u hK) _
theorem acB (a b c b' c':Option Addr) (ca cb cc eX oI:Nat) (sizes va vb:List Int) (la lb:List Fr) (w:World) (hs:aC w a sizes) (sW:aC w b va) (oz:aC w b' vb) (YF:dA w c la) (hfb:dA w c' lb) (hn:sizes.length<=140737488355328) (hma:va.length<=140737488355328) (hmb:vb.length<=140737488355328) (hb0:b=none ->cb=0) (z6:b'=none ->eX=0) (hka:jh sizes va la.length=0) (hkb:jh sizes vb lb.length=0) (O3:Cw 100000 la) (Xu:Cw 100000 lb):
  Calls Tryz.prog 161 #[.slice a sizes.length ca,.agg #[.slice b va.length cb,.slice c la.length cc],.agg #[.slice b' vb.length eX,.slice c' lb.length oI]] w fun e w'=>rZ w.heap.size (jw va vb) (sN (ag sizes) (ag va) (ag vb) (ag (jw va vb)) la lb) 0 e w'/\Below w.heap.size w w':=by
 obtain⟨aJ,kK, -⟩:=yE hka;obtain⟨-,BM, -⟩:=yE hkb;obtain⟨R,jf,hR1⟩:∃R:Nat ->Int,R 0=jh sizes va la.length/\R 1=jh sizes vb lb.length:=⟨fun i=>if i=0 then jh sizes va la.length else jh sizes vb lb.length,rfl,rfl⟩
 have HKZ:Hid (∀i,i< 2 ->R i=0):=by
  intro i hi;by_cases h:i=0
  ·subst h;rw[jf];exact hka
  ·obtain rfl:i=1:=by omega
   rw[hR1];exact hkb
 have nE:=aJ.eight;have kh:=kK.length;have iC:=BM.length;have CA:=hid (fun V h1 h2=>acy b b' cb eX va vb V h1 h2 hb0 z6 (by omega) (by omega));have vu:=hid (fun K (hK:K<cnt (ag sizes) (ag (jw va vb)))=>Uo hka hK);have my:=hid (fun K (hK:K<cnt (ag sizes) (ag (jw va vb)))=>Uo hkb hK);have ij:=hid (Vi (ag sizes) (ag va) (ag vb) (ag (jw va vb)) la lb);have vD:=hid (fun (k:Nat) (h:k<(sN (ag sizes) (ag va) (ag vb) (ag (jw va vb)) la lb).length)=>aec (ag sizes) (ag va) (ag vb) (ag (jw va vb)) la lb h);have pV:=hid (Dj kK BM);generalize sN (ag sizes) (ag va) (ag vb) (ag (jw va vb)) la lb=FL at *;generalize jw va vb=U at *;have IG:=hid (fun V d cd h1 h2=>Nu a d b ca cd cb sizes U va V h1 h2 aJ kK);have vn:=hid (fun V d cd h1 h2=>Nu a d b' ca cd eX sizes U vb V h1 h2 aJ BM);have cC:=hid aJ;have HUA:=hid kK;have HUB:=hid BM;have SM:=hid YF;have HFB:=hid hfb;have HWA:=hid O3;have RO:=hid Xu;clear hka hkb aJ kK BM YF hfb O3 Xu hb0 z6
 have one:∀i,i< 2 ->∃(p q:Option Addr) (n m cp cq:Nat) (r:Int),(∀V,PH w V (.slice b va.length cb) (.slice c la.length cc) (.slice b' vb.length eX) (.slice c' lb.length oI) ->V.cell? ⟨w.heap.size+1+1+1,i*2,none⟩=some (.slice p n cp)/\V.cell? ⟨w.heap.size+1+1+1,i*2+1,none⟩=some (.slice q m cq))/\(∀V,Below w.heap.size w V ->Calls Tryz.prog 86 #[.slice a sizes.length ca,.agg #[.slice p n cp,.slice q m cq]] V fun e w'=>e=.returned (.int .i64 r)/\Below V.heap.size V w')/\R i=r:=by
  intro i hi;by_cases h:i=0
  ·subst h;exact⟨b,c,va.length,la.length,cb,cc,_,fun V h=>h.row.1,fun V h=>Bg a b c ca cb cc la.length sizes va V (hs.aa h) (sW.aa h) hn hma,jf⟩
  ·obtain rfl:i=1:=by omega
   exact⟨b',c',vb.length,lb.length,eX,oI,_,fun V h=>h.row.2,fun V h=>Bg a b' c' ca eX oI lb.length sizes vb V (hs.aa h) (oz.aa h) hn hmb,hR1⟩
 have IV:=hid one;have HS:=hid hs;have EB:=hid sW;have oM:=hid oz;clear one jf hR1 hs sW oz;have hH:=PH.new w (.slice b va.length cb) (.slice c la.length cc) (.slice b' vb.length eX) (.slice c' lb.length oI);have c0:=hH.1.c0;have c1:=hH.1.c1;have c2:=hH.2.1.c0;have c3:=hH.2.1.c1;go_enter Tryz.func161,Tryz.ntmps161;go_wp2_with fail
 generalize ((((w.alloc (TC (.slice b va.length cb) (.slice c la.length cc))).alloc (TC (.slice b' vb.length eX) (.slice c' lb.length oI))).alloc (TC (.slice none 0 0) (.slice none 0 0))).alloc (.cells #[.slice b va.length cb,.slice c la.length cc,.slice b' vb.length eX,.slice c' lb.length oI] 39))=W at *;have HPH:=hid hH;clear c0 c1 c2 c3 hH;go_loopw [18] (fun iv wr=>∃i:Nat,i<=2/\iv=.int .i64 i/\Hid (∀j,j< i ->R j=0)/\Hid (PH w wr (.slice b va.length cb) (.slice c la.length cc) (.slice b' vb.length eX) (.slice c' lb.length oI))) (fun iv _=>2 - (intOf iv).toNat)
 case atStart=>exact⟨0,by omega,rfl,fun j hj=>absurd hj (by omega),HPH⟩
 case round=>
  obtain⟨i,hi,rfl,HZ,HP⟩:=hrel;clear HPH;by_cases hlt:i<2
  ·obtain⟨p,q,n,m,cp,cq,r,hcl,hck,hr⟩:=IV.o i hlt;obtain⟨d0,d1⟩:=hcl _ HP.o;have ik:=hid hck;have HR:=hid hr;clear hcl hck hr;have hb1:Below wr.heap.size wr (wr.alloc (TC (.slice p n cp) (.slice q m cq))):=(au _ wr).alloc (aq _) _;have hx:=bw.at (w:=wr) rfl (.slice p n cp) (.slice q m cq);have e0:=hx.c0;have e1:=hx.c1;go_wp2_with fail
   replace HP:=hid (HP.o.step hb1);clear d0 d1 e0 e1 hb1;generalize (wr.alloc (TC (.slice p n cp) (.slice q m cq)))=w2 at *;refine(ik.o _ HP.o.2.2.2.2).af ?_;rintro e w3 ⟨rfl,hb3⟩;replace HP:=hid (HP.o.step hb3);clear hb3 hx;by_cases Gr:r=0
   ·subst Gr;go_wp2;go_roundw
    case rel=>exact⟨i+1,by omega,by go_num,fun j hj=>by
      by_cases e:j=i
      ·rw[e];exact HR.o
      ·exact HZ.o j (by omega),HP⟩
    case measure=>simp[intOf];omega
   ·have rS:=HKZ.o i hlt;rw[HR.o] at rS;exact absurd rS Gr
  ·obtain rfl:i=2:=by omega
   have hH:=HP.o;have c0:=hH.1.c0;have c2:=hH.2.1.c0;clear HP HZ IV;go_wp2_with fail
   refine(CA.o _ (EB.o.aa hH.2.2.2.2) (oM.o.aa hH.2.2.2.2)).af ?_;rintro e w1 ⟨d,cd,rfl,hi,pM,hb1⟩;have CV:=hid (pM.up hH.2.2.2.2.size);clear pM;replace hH:=hH.step hb1;clear c0 c2 hb1;go_upto_region 9 with fail
   replace hH:=hH.drew;replace hi:aC w1.drew d U:=hi;refine jE (S:=fun u=>u.cell? ⟨w.heap.size,0,none⟩=some (.slice b va.length cb)/\u.cell? ⟨w.heap.size+1,0,none⟩=some (.slice b' vb.length eX)) (by kernel_rfl) ⟨hH.1.c0,hH.2.1.c0⟩ (fun ak=>?_);generalize w1.drew=u0 at *;refine aw 0 (.slice a sizes.length ca) ?_;refine aw 1 (.slice d U.length cd) ?_;refine aw 2 (.pointer (some ⟨w.heap.size,0,none⟩)) ?_;refine aw 3 (.slice b va.length cb) ?_;refine aw 5 (.slice a sizes.length ca) ?_;refine aw 6 (.slice d U.length cd) ?_;refine aw 7 (.pointer (some ⟨w.heap.size+1,0,none⟩)) ?_;refine aw 8 (.slice b' vb.length eX) ?_;refine aH [4,10,11] (cA ?_ (cA ?_ (cA ?_ aG)))
   focus
    intro K' hK';go_simp;refine(IG.o _ d cd (HS.o.aa hH.2.2.2.2) (EB.o.aa hH.2.2.2.2)).af ?_;rintro e u1 ⟨f,rfl,bE,hb⟩;obtain⟨fa,rfl⟩:=bE.shape;replace hH:=hH.step hb;replace hi:=hi.aa hb;refine hK'.o _ _ ⟨hH.1.c0,hH.2.1.c0⟩ (fun ah=>?_);clear hK' K' ak;have ak:=ah;clear ah hb;generalize u0.heap.size=na at bE;generalize u1.heap.size=ma at bE;refine aH [9,10,11] (cA ?_ (cA ?_ (cA ?_ aG)))
    focus
     intro K' hK';go_simp;refine(vn.o _ d cd (HS.o.aa hH.2.2.2.2) (oM.o.aa hH.2.2.2.2)).af ?_;rintro e u2 ⟨f,rfl,bP,hb⟩;obtain⟨fb,rfl⟩:=bP.shape;replace hH:=hH.step hb;replace hi:=hi.aa hb;replace bE:=bE.aa hb;refine hK'.o _ _ ⟨hH.1.c0,hH.2.1.c0⟩ (fun ah=>?_);clear hK' K' ak;have ak:=ah;clear ah hb;generalize u1.heap.size=nb at bP;generalize u2.heap.size=mb at bP;refine aH [10,11] (cA ?_ (cA ?_ aG))
     focus
      intro K' hK';go_simp;have hb:Below u2.heap.size u2 (u2.alloc (.cells #[.nilFunc] 140)):=(au _ u2).alloc (aq _) _;have h10:Boxed (u2.alloc (.cells #[.nilFunc] 140)) u2.heap.size 140 .nilFunc:=aY u2 _ _;have bV:=hH.2.2.2.2.size;replace hH:=hH.step hb;replace hi:=hi.aa hb;replace bE:=bE.aa hb;replace bP:=bP.aa hb;refine hK'.o _ _ ⟨hH.1.c0,hH.2.1.c0⟩ (fun ah=>?_);clear hK' K' ak;have ak:=ah;clear ah hb;generalize (u2.alloc (.cells #[.nilFunc] 140))=u3 at *;generalize u2.heap.size=cJ at *;refine aH [11] (cA ?_ aG);intro K' hK';go_simp;have hb:Below u3.heap.size u3 (u3.alloc (.cells #[.nilFunc] 140)):=(au _ u3).alloc (aq _) _;have h11:Boxed (u3.alloc (.cells #[.nilFunc] 140)) u3.heap.size 140 .nilFunc:=aY u3 _ _;have sM:=hH.2.2.2.2.size;(have ne:cJ≠u3.heap.size:=by have:=h10.lt;omega);replace hH:=hH.step hb;replace hi:=hi.aa hb;replace bE:=bE.aa hb;replace bP:=bP.aa hb;replace h10:=aS h10 hb;refine hK'.o _ _ ⟨hH.1.c0,hH.2.1.c0⟩ (fun ah=>?_);clear hK' K' ak;have ak:=ah;clear ah hb;generalize (u3.alloc (.cells #[.nilFunc] 140))=u4 at *;generalize u3.heap.size=mQ at *
     rotate_left
     focus
      intro K' hK';go_simp;have hb:Below u2.heap.size u2 (u2.alloc (.cells #[.nilFunc] 140)):=(au _ u2).alloc (aq _) _;have h11:Boxed (u2.alloc (.cells #[.nilFunc] 140)) u2.heap.size 140 .nilFunc:=aY u2 _ _;have sM:=hH.2.2.2.2.size;replace hH:=hH.step hb;replace hi:=hi.aa hb;replace bE:=bE.aa hb;replace bP:=bP.aa hb;refine hK'.o _ _ ⟨hH.1.c0,hH.2.1.c0⟩ (fun ah=>?_);clear hK' K' ak;have ak:=ah;clear ah hb;generalize (u2.alloc (.cells #[.nilFunc] 140))=u3 at *;generalize u2.heap.size=mQ at *;refine aH [10] (cA ?_ aG);intro K' hK';go_simp;have hb:Below u3.heap.size u3 (u3.alloc (.cells #[.nilFunc] 140)):=(au _ u3).alloc (aq _) _;have h10:Boxed (u3.alloc (.cells #[.nilFunc] 140)) u3.heap.size 140 .nilFunc:=aY u3 _ _;have bV:=hH.2.2.2.2.size;(have ne:mQ≠u3.heap.size:=by have:=h11.lt;omega);replace hH:=hH.step hb;replace hi:=hi.aa hb;replace bE:=bE.aa hb;replace bP:=bP.aa hb;replace h11:=aS h11 hb;refine hK'.o _ _ ⟨hH.1.c0,hH.2.1.c0⟩ (fun ah=>?_);clear hK' K' ak;have ak:=ah;clear ah hb;generalize (u3.alloc (.cells #[.nilFunc] 140))=u4 at *;generalize u3.heap.size=cJ at *
    rotate_left 2
    focus
     intro K' hK';go_simp;have hb:Below u1.heap.size u1 (u1.alloc (.cells #[.nilFunc] 140)):=(au _ u1).alloc (aq _) _;have h10:Boxed (u1.alloc (.cells #[.nilFunc] 140)) u1.heap.size 140 .nilFunc:=aY u1 _ _;have bV:=hH.2.2.2.2.size;replace hH:=hH.step hb;replace hi:=hi.aa hb;replace bE:=bE.aa hb;refine hK'.o _ _ ⟨hH.1.c0,hH.2.1.c0⟩ (fun ah=>?_);clear hK' K' ak;have ak:=ah;clear ah hb;generalize (u1.alloc (.cells #[.nilFunc] 140))=u2 at *;generalize u1.heap.size=cJ at *;refine aH [9,11] (cA ?_ (cA ?_ aG))
     focus
      intro K' hK';go_simp;refine(vn.o _ d cd (HS.o.aa hH.2.2.2.2) (oM.o.aa hH.2.2.2.2)).af ?_;rintro e u3 ⟨f,rfl,bP,hb⟩;obtain⟨fb,rfl⟩:=bP.shape;replace hH:=hH.step hb;replace hi:=hi.aa hb;replace bE:=bE.aa hb;replace h10:=aS h10 hb;refine hK'.o _ _ ⟨hH.1.c0,hH.2.1.c0⟩ (fun ah=>?_);clear hK' K' ak;have ak:=ah;clear ah hb;generalize u2.heap.size=nb at bP;generalize u3.heap.size=mb at bP;refine aH [11] (cA ?_ aG);intro K' hK';go_simp;have hb:Below u3.heap.size u3 (u3.alloc (.cells #[.nilFunc] 140)):=(au _ u3).alloc (aq _) _;have h11:Boxed (u3.alloc (.cells #[.nilFunc] 140)) u3.heap.size 140 .nilFunc:=aY u3 _ _;have sM:=hH.2.2.2.2.size;(have ne:cJ≠u3.heap.size:=by have:=h10.lt;omega);replace hH:=hH.step hb;replace hi:=hi.aa hb;replace bE:=bE.aa hb;replace bP:=bP.aa hb;replace h10:=aS h10 hb;refine hK'.o _ _ ⟨hH.1.c0,hH.2.1.c0⟩ (fun ah=>?_);clear hK' K' ak;have ak:=ah;clear ah hb;generalize (u3.alloc (.cells #[.nilFunc] 140))=u4 at *;generalize u3.heap.size=mQ at *
     rotate_left
     focus
      intro K' hK';go_simp;have hb:Below u2.heap.size u2 (u2.alloc (.cells #[.nilFunc] 140)):=(au _ u2).alloc (aq _) _;have h11:Boxed (u2.alloc (.cells #[.nilFunc] 140)) u2.heap.size 140 .nilFunc:=aY u2 _ _;have sM:=hH.2.2.2.2.size;(have ne:cJ≠u2.heap.size:=by have:=h10.lt;omega);replace hH:=hH.step hb;replace hi:=hi.aa hb;replace bE:=bE.aa hb;replace h10:=aS h10 hb;refine hK'.o _ _ ⟨hH.1.c0,hH.2.1.c0⟩ (fun ah=>?_);clear hK' K' ak;have ak:=ah;clear ah hb;generalize (u2.alloc (.cells #[.nilFunc] 140))=u3 at *;generalize u2.heap.size=mQ at *;refine aH [9] (cA ?_ aG);intro K' hK';go_simp;refine(vn.o _ d cd (HS.o.aa hH.2.2.2.2) (oM.o.aa hH.2.2.2.2)).af ?_;rintro e u4 ⟨f,rfl,bP,hb⟩;obtain⟨fb,rfl⟩:=bP.shape;replace hH:=hH.step hb;replace hi:=hi.aa hb;replace bE:=bE.aa hb;replace h10:=aS h10 hb;replace h11:=aS h11 hb;refine hK'.o _ _ ⟨hH.1.c0,hH.2.1.c0⟩ (fun ah=>?_);clear hK' K' ak;have ak:=ah;clear ah hb;generalize u3.heap.size=nb at bP;generalize u4.heap.size=mb at bP
    rotate_left 2
    focus
     intro K' hK';go_simp;have hb:Below u1.heap.size u1 (u1.alloc (.cells #[.nilFunc] 140)):=(au _ u1).alloc (aq _) _;have h11:Boxed (u1.alloc (.cells #[.nilFunc] 140)) u1.heap.size 140 .nilFunc:=aY u1 _ _;have sM:=hH.2.2.2.2.size;replace hH:=hH.step hb;replace hi:=hi.aa hb;replace bE:=bE.aa hb;refine hK'.o _ _ ⟨hH.1.c0,hH.2.1.c0⟩ (fun ah=>?_);clear hK' K' ak;have ak:=ah;clear ah hb;generalize (u1.alloc (.cells #[.nilFunc] 140))=u2 at *;generalize u1.heap.size=mQ at *;refine aH [9,10] (cA ?_ (cA ?_ aG))
     focus
      intro K' hK';go_simp;refine(vn.o _ d cd (HS.o.aa hH.2.2.2.2) (oM.o.aa hH.2.2.2.2)).af ?_;rintro e u3 ⟨f,rfl,bP,hb⟩;obtain⟨fb,rfl⟩:=bP.shape;replace hH:=hH.step hb;replace hi:=hi.aa hb;replace bE:=bE.aa hb;replace h11:=aS h11 hb;refine hK'.o _ _ ⟨hH.1.c0,hH.2.1.c0⟩ (fun ah=>?_);clear hK' K' ak;have ak:=ah;clear ah hb;generalize u2.heap.size=nb at bP;generalize u3.heap.size=mb at bP;refine aH [10] (cA ?_ aG);intro K' hK';go_simp;have hb:Below u3.heap.size u3 (u3.alloc (.cells #[.nilFunc] 140)):=(au _ u3).alloc (aq _) _;have h10:Boxed (u3.alloc (.cells #[.nilFunc] 140)) u3.heap.size 140 .nilFunc:=aY u3 _ _;have bV:=hH.2.2.2.2.size;(have ne:mQ≠u3.heap.size:=by have:=h11.lt;omega);replace hH:=hH.step hb;replace hi:=hi.aa hb;replace bE:=bE.aa hb;replace bP:=bP.aa hb;replace h11:=aS h11 hb;refine hK'.o _ _ ⟨hH.1.c0,hH.2.1.c0⟩ (fun ah=>?_);clear hK' K' ak;have ak:=ah;clear ah hb;generalize (u3.alloc (.cells #[.nilFunc] 140))=u4 at *;generalize u3.heap.size=cJ at *
     rotate_left
     focus
      intro K' hK';go_simp;have hb:Below u2.heap.size u2 (u2.alloc (.cells #[.nilFunc] 140)):=(au _ u2).alloc (aq _) _;have h10:Boxed (u2.alloc (.cells #[.nilFunc] 140)) u2.heap.size 140 .nilFunc:=aY u2 _ _;have bV:=hH.2.2.2.2.size;(have ne:mQ≠u2.heap.size:=by have:=h11.lt;omega);replace hH:=hH.step hb;replace hi:=hi.aa hb;replace bE:=bE.aa hb;replace h11:=aS h11 hb;refine hK'.o _ _ ⟨hH.1.c0,hH.2.1.c0⟩ (fun ah=>?_);clear hK' K' ak;have ak:=ah;clear ah hb;generalize (u2.alloc (.cells #[.nilFunc] 140))=u3 at *;generalize u2.heap.size=cJ at *;refine aH [9] (cA ?_ aG);intro K' hK';go_simp;refine(vn.o _ d cd (HS.o.aa hH.2.2.2.2) (oM.o.aa hH.2.2.2.2)).af ?_;rintro e u4 ⟨f,rfl,bP,hb⟩;obtain⟨fb,rfl⟩:=bP.shape;replace hH:=hH.step hb;replace hi:=hi.aa hb;replace bE:=bE.aa hb;replace h10:=aS h10 hb;replace h11:=aS h11 hb;refine hK'.o _ _ ⟨hH.1.c0,hH.2.1.c0⟩ (fun ah=>?_);clear hK' K' ak;have ak:=ah;clear ah hb;generalize u3.heap.size=nb at bP;generalize u4.heap.size=mb at bP
   rotate_left 6
   focus
    intro K' hK';go_simp;have hb:Below u0.heap.size u0 (u0.alloc (.cells #[.nilFunc] 140)):=(au _ u0).alloc (aq _) _;have h10:Boxed (u0.alloc (.cells #[.nilFunc] 140)) u0.heap.size 140 .nilFunc:=aY u0 _ _;have bV:=hH.2.2.2.2.size;replace hH:=hH.step hb;replace hi:=hi.aa hb;refine hK'.o _ _ ⟨hH.1.c0,hH.2.1.c0⟩ (fun ah=>?_);clear hK' K' ak;have ak:=ah;clear ah hb;generalize (u0.alloc (.cells #[.nilFunc] 140))=u1 at *;generalize u0.heap.size=cJ at *;refine aH [4,11] (cA ?_ (cA ?_ aG))
    focus
     intro K' hK';go_simp;refine(IG.o _ d cd (HS.o.aa hH.2.2.2.2) (EB.o.aa hH.2.2.2.2)).af ?_;rintro e u2 ⟨f,rfl,bE,hb⟩;obtain⟨fa,rfl⟩:=bE.shape;replace hH:=hH.step hb;replace hi:=hi.aa hb;replace h10:=aS h10 hb;refine hK'.o _ _ ⟨hH.1.c0,hH.2.1.c0⟩ (fun ah=>?_);clear hK' K' ak;have ak:=ah;clear ah hb;generalize u1.heap.size=na at bE;generalize u2.heap.size=ma at bE;refine aH [9,11] (cA ?_ (cA ?_ aG))
     focus
      intro K' hK';go_simp;refine(vn.o _ d cd (HS.o.aa hH.2.2.2.2) (oM.o.aa hH.2.2.2.2)).af ?_;rintro e u3 ⟨f,rfl,bP,hb⟩;obtain⟨fb,rfl⟩:=bP.shape;replace hH:=hH.step hb;replace hi:=hi.aa hb;replace bE:=bE.aa hb;replace h10:=aS h10 hb;refine hK'.o _ _ ⟨hH.1.c0,hH.2.1.c0⟩ (fun ah=>?_);clear hK' K' ak;have ak:=ah;clear ah hb;generalize u2.heap.size=nb at bP;generalize u3.heap.size=mb at bP;refine aH [11] (cA ?_ aG);intro K' hK';go_simp;have hb:Below u3.heap.size u3 (u3.alloc (.cells #[.nilFunc] 140)):=(au _ u3).alloc (aq _) _;have h11:Boxed (u3.alloc (.cells #[.nilFunc] 140)) u3.heap.size 140 .nilFunc:=aY u3 _ _;have sM:=hH.2.2.2.2.size;(have ne:cJ≠u3.heap.size:=by have:=h10.lt;omega);replace hH:=hH.step hb;replace hi:=hi.aa hb;replace bE:=bE.aa hb;replace bP:=bP.aa hb;replace h10:=aS h10 hb;refine hK'.o _ _ ⟨hH.1.c0,hH.2.1.c0⟩ (fun ah=>?_);clear hK' K' ak;have ak:=ah;clear ah hb;generalize (u3.alloc (.cells #[.nilFunc] 140))=u4 at *;generalize u3.heap.size=mQ at *
     rotate_left
     focus
      intro K' hK';go_simp;have hb:Below u2.heap.size u2 (u2.alloc (.cells #[.nilFunc] 140)):=(au _ u2).alloc (aq _) _;have h11:Boxed (u2.alloc (.cells #[.nilFunc] 140)) u2.heap.size 140 .nilFunc:=aY u2 _ _;have sM:=hH.2.2.2.2.size;(have ne:cJ≠u2.heap.size:=by have:=h10.lt;omega);replace hH:=hH.step hb;replace hi:=hi.aa hb;replace bE:=bE.aa hb;replace h10:=aS h10 hb;refine hK'.o _ _ ⟨hH.1.c0,hH.2.1.c0⟩ (fun ah=>?_);clear hK' K' ak;have ak:=ah;clear ah hb;generalize (u2.alloc (.cells #[.nilFunc] 140))=u3 at *;generalize u2.heap.size=mQ at *;refine aH [9] (cA ?_ aG);intro K' hK';go_simp;refine(vn.o _ d cd (HS.o.aa hH.2.2.2.2) (oM.o.aa hH.2.2.2.2)).af ?_;rintro e u4 ⟨f,rfl,bP,hb⟩;obtain⟨fb,rfl⟩:=bP.shape;replace hH:=hH.step hb;replace hi:=hi.aa hb;replace bE:=bE.aa hb;replace h10:=aS h10 hb;replace h11:=aS h11 hb;refine hK'.o _ _ ⟨hH.1.c0,hH.2.1.c0⟩ (fun ah=>?_);clear hK' K' ak;have ak:=ah;clear ah hb;generalize u3.heap.size=nb at bP;generalize u4.heap.size=mb at bP
    rotate_left 2
    focus
     intro K' hK';go_simp;have hb:Below u1.heap.size u1 (u1.alloc (.cells #[.nilFunc] 140)):=(au _ u1).alloc (aq _) _;have h11:Boxed (u1.alloc (.cells #[.nilFunc] 140)) u1.heap.size 140 .nilFunc:=aY u1 _ _;have sM:=hH.2.2.2.2.size;(have ne:cJ≠u1.heap.size:=by have:=h10.lt;omega);replace hH:=hH.step hb;replace hi:=hi.aa hb;replace h10:=aS h10 hb;refine hK'.o _ _ ⟨hH.1.c0,hH.2.1.c0⟩ (fun ah=>?_);clear hK' K' ak;have ak:=ah;clear ah hb;generalize (u1.alloc (.cells #[.nilFunc] 140))=u2 at *;generalize u1.heap.size=mQ at *;refine aH [4] (cA ?_ aG);intro K' hK';go_simp;refine(IG.o _ d cd (HS.o.aa hH.2.2.2.2) (EB.o.aa hH.2.2.2.2)).af ?_;rintro e u3 ⟨f,rfl,bE,hb⟩;obtain⟨fa,rfl⟩:=bE.shape;replace hH:=hH.step hb;replace hi:=hi.aa hb;replace h10:=aS h10 hb;replace h11:=aS h11 hb;refine hK'.o _ _ ⟨hH.1.c0,hH.2.1.c0⟩ (fun ah=>?_);clear hK' K' ak;have ak:=ah;clear ah hb;generalize u2.heap.size=na at bE;generalize u3.heap.size=ma at bE;refine aH [9] (cA ?_ aG);intro K' hK';go_simp;refine(vn.o _ d cd (HS.o.aa hH.2.2.2.2) (oM.o.aa hH.2.2.2.2)).af ?_;rintro e u4 ⟨f,rfl,bP,hb⟩;obtain⟨fb,rfl⟩:=bP.shape;replace hH:=hH.step hb;replace hi:=hi.aa hb;replace bE:=bE.aa hb;replace h10:=aS h10 hb;replace h11:=aS h11 hb;refine hK'.o _ _ ⟨hH.1.c0,hH.2.1.c0⟩ (fun ah=>?_);clear hK' K' ak;have ak:=ah;clear ah hb;generalize u3.heap.size=nb at bP;generalize u4.heap.size=mb at bP
   rotate_left 3
   focus
    intro K' hK';go_simp;have hb:Below u0.heap.size u0 (u0.alloc (.cells #[.nilFunc] 140)):=(au _ u0).alloc (aq _) _;have h11:Boxed (u0.alloc (.cells #[.nilFunc] 140)) u0.heap.size 140 .nilFunc:=aY u0 _ _;have sM:=hH.2.2.2.2.size;replace hH:=hH.step hb;replace hi:=hi.aa hb;refine hK'.o _ _ ⟨hH.1.c0,hH.2.1.c0⟩ (fun ah=>?_);clear hK' K' ak;have ak:=ah;clear ah hb;generalize (u0.alloc (.cells #[.nilFunc] 140))=u1 at *;generalize u0.heap.size=mQ at *;refine aH [4,10] (cA ?_ (cA ?_ aG))
    focus
     intro K' hK';go_simp;refine(IG.o _ d cd (HS.o.aa hH.2.2.2.2) (EB.o.aa hH.2.2.2.2)).af ?_;rintro e u2 ⟨f,rfl,bE,hb⟩;obtain⟨fa,rfl⟩:=bE.shape;replace hH:=hH.step hb;replace hi:=hi.aa hb;replace h11:=aS h11 hb;refine hK'.o _ _ ⟨hH.1.c0,hH.2.1.c0⟩ (fun ah=>?_);clear hK' K' ak;have ak:=ah;clear ah hb;generalize u1.heap.size=na at bE;generalize u2.heap.size=ma at bE;refine aH [9,10] (cA ?_ (cA ?_ aG))
     focus
      intro K' hK';go_simp;refine(vn.o _ d cd (HS.o.aa hH.2.2.2.2) (oM.o.aa hH.2.2.2.2)).af ?_;rintro e u3 ⟨f,rfl,bP,hb⟩;obtain⟨fb,rfl⟩:=bP.shape;replace hH:=hH.step hb;replace hi:=hi.aa hb;replace bE:=bE.aa hb;replace h11:=aS h11 hb;refine hK'.o _ _ ⟨hH.1.c0,hH.2.1.c0⟩ (fun ah=>?_);clear hK' K' ak;have ak:=ah;clear ah hb;generalize u2.heap.size=nb at bP;generalize u3.heap.size=mb at bP;refine aH [10] (cA ?_ aG);intro K' hK';go_simp;have hb:Below u3.heap.size u3 (u3.alloc (.cells #[.nilFunc] 140)):=(au _ u3).alloc (aq _) _;have h10:Boxed (u3.alloc (.cells #[.nilFunc] 140)) u3.heap.size 140 .nilFunc:=aY u3 _ _;have bV:=hH.2.2.2.2.size;(have ne:mQ≠u3.heap.size:=by have:=h11.lt;omega);replace hH:=hH.step hb;replace hi:=hi.aa hb;replace bE:=bE.aa hb;replace bP:=bP.aa hb;replace h11:=aS h11 hb;refine hK'.o _ _ ⟨hH.1.c0,hH.2.1.c0⟩ (fun ah=>?_);clear hK' K' ak;have ak:=ah;clear ah hb;generalize (u3.alloc (.cells #[.nilFunc] 140))=u4 at *;generalize u3.heap.size=cJ at *
     rotate_left
     focus
      intro K' hK';go_simp;have hb:Below u2.heap.size u2 (u2.alloc (.cells #[.nilFunc] 140)):=(au _ u2).alloc (aq _) _;have h10:Boxed (u2.alloc (.cells #[.nilFunc] 140)) u2.heap.size 140 .nilFunc:=aY u2 _ _;have bV:=hH.2.2.2.2.size;(have ne:mQ≠u2.heap.size:=by have:=h11.lt;omega);replace hH:=hH.step hb;replace hi:=hi.aa hb;replace bE:=bE.aa hb;replace h11:=aS h11 hb;refine hK'.o _ _ ⟨hH.1.c0,hH.2.1.c0⟩ (fun ah=>?_);clear hK' K' ak;have ak:=ah;clear ah hb;generalize (u2.alloc (.cells #[.nilFunc] 140))=u3 at *;generalize u2.heap.size=cJ at *;refine aH [9] (cA ?_ aG);intro K' hK';go_simp;refine(vn.o _ d cd (HS.o.aa hH.2.2.2.2) (oM.o.aa hH.2.2.2.2)).af ?_;rintro e u4 ⟨f,rfl,bP,hb⟩;obtain⟨fb,rfl⟩:=bP.shape;replace hH:=hH.step hb;replace hi:=hi.aa hb;replace bE:=bE.aa hb;replace h10:=aS h10 hb;replace h11:=aS h11 hb;refine hK'.o _ _ ⟨hH.1.c0,hH.2.1.c0⟩ (fun ah=>?_);clear hK' K' ak;have ak:=ah;clear ah hb;generalize u3.heap.size=nb at bP;generalize u4.heap.size=mb at bP
    rotate_left 2
    focus
     intro K' hK';go_simp;have hb:Below u1.heap.size u1 (u1.alloc (.cells #[.nilFunc] 140)):=(au _ u1).alloc (aq _) _;have h10:Boxed (u1.alloc (.cells #[.nilFunc] 140)) u1.heap.size 140 .nilFunc:=aY u1 _ _;have bV:=hH.2.2.2.2.size;(have ne:mQ≠u1.heap.size:=by have:=h11.lt;omega);replace hH:=hH.step hb;replace hi:=hi.aa hb;replace h11:=aS h11 hb;refine hK'.o _ _ ⟨hH.1.c0,hH.2.1.c0⟩ (fun ah=>?_);clear hK' K' ak;have ak:=ah;clear ah hb;generalize (u1.alloc (.cells #[.nilFunc] 140))=u2 at *;generalize u1.heap.size=cJ at *;refine aH [4] (cA ?_ aG);intro K' hK';go_simp;refine(IG.o _ d cd (HS.o.aa hH.2.2.2.2) (EB.o.aa hH.2.2.2.2)).af ?_;rintro e u3 ⟨f,rfl,bE,hb⟩;obtain⟨fa,rfl⟩:=bE.shape;replace hH:=hH.step hb;replace hi:=hi.aa hb;replace h10:=aS h10 hb;replace h11:=aS h11 hb;refine hK'.o _ _ ⟨hH.1.c0,hH.2.1.c0⟩ (fun ah=>?_);clear hK' K' ak;have ak:=ah;clear ah hb;generalize u2.heap.size=na at bE;generalize u3.heap.size=ma at bE;refine aH [9] (cA ?_ aG);intro K' hK';go_simp;refine(vn.o _ d cd (HS.o.aa hH.2.2.2.2) (oM.o.aa hH.2.2.2.2)).af ?_;rintro e u4 ⟨f,rfl,bP,hb⟩;obtain⟨fb,rfl⟩:=bP.shape;replace hH:=hH.step hb;replace hi:=hi.aa hb;replace bE:=bE.aa hb;replace h10:=aS h10 hb;replace h11:=aS h11 hb;refine hK'.o _ _ ⟨hH.1.c0,hH.2.1.c0⟩ (fun ah=>?_);clear hK' K' ak;have ak:=ah;clear ah hb;generalize u3.heap.size=nb at bP;generalize u4.heap.size=mb at bP
   all_goals
    have c10:=h10.cell;have f10:=h10.frozen;refine aH [12] (cA ?_ aG);intro K' hK';go_simp;replace hH:=hH.nil (slv _ _ _) (slv _ _ _) h10 bV (.func (.func 234) #[] fa);replace hi:=OO h10 hi (.func (.func 234) #[] fa);replace bE:=bE.nil h10 (.func (.func 234) #[] fa);replace bP:=bP.nil h10 (.func (.func 234) #[] fa);replace h11:=fJ h11 cJ 0 (.func (.func 234) #[] fa) (by omega);replace h10:=h10.set (.func (.func 234) #[] fa);clear c10 f10;generalize (u4.setCell ⟨cJ,0,none⟩ (.func (.func 234) #[] fa))=v1 at *;refine hK'.o _ _ ⟨hH.1.c0,hH.2.1.c0⟩ (fun ah=>?_);clear hK' K' ak;have ak:=ah;clear ah;have c11:=h11.cell;have f11:=h11.frozen;refine aH [13] (cA ?_ aG);intro K' hK';go_simp;replace hH:=hH.nil (slv _ _ _) (slv _ _ _) h11 sM (.func (.func 234) #[] fb);replace hi:=OO h11 hi (.func (.func 234) #[] fb);replace bE:=bE.nil h11 (.func (.func 234) #[] fb);replace bP:=bP.nil h11 (.func (.func 234) #[] fb);replace h10:=fJ h10 mQ 0 (.func (.func 234) #[] fb) (by omega);replace h11:=h11.set (.func (.func 234) #[] fb);clear c11 f11;generalize (v1.setCell ⟨mQ,0,none⟩ (.func (.func 234) #[] fb))=v2 at *;refine hK'.o _ _ ⟨hH.1.c0,hH.2.1.c0⟩ (fun _=>eK (by kernel_rfl) ?_ _);clear hK' K' ak;go_wp2_with fail
    have qp:=Hz a d ca cd sizes U 208 #[.pointer (some ⟨w.heap.size,0,none⟩),.pointer (some ⟨cJ,0,none⟩),.pointer (some ⟨w.heap.size+1,0,none⟩),.pointer (some ⟨mQ,0,none⟩)] (enters_of Tryz.func208 (by kernel_rfl) rfl) FL v2 (HS.o.aa hH.2.2.2.2) hi cC.o pV.o ij.o (fun k hk V hb=>by
     rw[vD.o k hk];(have eV:k<cnt (ag sizes) (ag U):=by rw[<- ij.o];exact hk);have hB:=hH.2.2.2.2.trans (hb.af hH.2.2.2.2.size);refine aed w.heap.size cJ (w.heap.size+1) mQ c c' cc oI fa fb la lb k _ _ (vu.o k eV) (my.o k eV) V (aO hH.1.lt hb.size) ((hb.cell (p:=⟨w.heap.size,1,none⟩) hH.1.lt).trans hH.1.c1) (aO h10.lt hb.size) (aS h10 hb).cell (aO hH.2.1.lt hb.size) ((hb.cell (p:=⟨w.heap.size+1,1,none⟩) hH.2.1.lt).trans hH.2.1.c1) (aO h11.lt hb.size) (aS h11 hb).cell (SM.o.aa hB) (HFB.o.aa hB) HWA.o RO.o ?_ ?_
     ·intro V' hb';have hb2:=hb.trans (hb'.af hb.size);exact(bE.aa hb2).calls (HS.o.aa (hB.trans (hb'.af hB.size))) (hi.aa hb2) cC.o pV.o HUA.o eV
     ·intro V' hb';have hb2:=hb.trans (hb'.af hb.size);exact(bP.aa hb2).calls (HS.o.aa (hB.trans (hb'.af hB.size))) (hi.aa hb2) cC.o pV.o HUB.o eV)
    have y5:=hid qp;clear qp;refine y5.o.af ?_;rintro e w9 ⟨G,rfl,hG,hrow,rO⟩;have Yn:=hH.2.2.1.lt;replace hH:=hH.step rO;replace hi:=hi.aa rO;have hNR:NR w w9 w.heap.size (w.heap.size+1+1) (.slice b va.length cb) (.slice c la.length cc):=⟨hH.1,hH.2.2.1,hH.2.2.2.2⟩;obtain⟨k0,k1,f0,f1⟩:=hH.2.2.1.facts;obtain⟨e1,e2,e3⟩:=hNR.fin (by omega) (cb:=cd) (cc:=FL.length) CV.o (by omega) hi hrow (by omega) (.slice d U.length cd) (.slice (some ⟨G,0,none⟩) FL.length FL.length) rfl rfl;go_wp2;refine bS (e1.result2 rfl _ rfl) rfl ?_;exact⟨e2,e3⟩
variable {u:Nat} {h:Nat ->Rat}
theorem vV (S:List Nat) {g:Nat ->Nat}:∀ {vs:List Nat},(∀u∈vs,f u=g u) ->pos S f vs=pos S g vs:=by
 intro vs h
 have key:∀(vs:List Nat) (k:Nat),(∀u∈vs,f u=g u) ->vs.foldl (fun k v=>k*sz S v+f v) k=vs.foldl (fun k v=>k*sz S v+g v) k:=by
  intro vs;induction vs with
  |nil=>intro k _;rfl
  |cons v vs ih=>
   intro k h;rw[zo,zo,h v dB,ih _ fun u hu=>h u (dF _ hu)]
 exact key vs 0 h
theorem Vk (S:List Nat) (f:Nat ->Nat) (v:Nat) (vs:List Nat):pos S f (v::vs)=f v*cnt S vs+pos S f vs:=by
 show vs.foldl (fun k v=>k*sz S v+f v) (0*sz S v+f v)=_;rw[Lv S f vs,mC,bD]
theorem Aq (hp:Pos S) (hf:∀u,f u<sz S u):∀ {vs:List Nat},vs.Nodup ->∀u∈vs,aV S vs (pos S f vs) u=f u
 |[],_,u,hu=>by cases hu
 |v::vs,hn,u,hu=>by
  rw[mU] at hn;have hlt:=o7 f hf vs;have hc:=Ic hp vs;rw[Vk,aV];by_cases e:u=v
  ·rw[aA e,e,cV,Nat.mul_add_div hc,vJ hlt,fO]
  ·rw[aD e,cV,Nat.mul_add_mod,iY hlt];exact Aq hp hf hn.2 u ((dG.1 hu).resolve_left e)
theorem LM (g:Nat ->Fr) (h:k<n):bT ((List.range n).map g) k=g k:=by
 rw[rV (by simpa using h)];simp
def Bp (most:Bool) (p q:Rat):Rat:=if most then(if p<q then q else p) else p+q
def ja (most:Bool) (g:Nat ->Rat):Nat ->Rat
 |0=>g 0
 |k+1=>Bp most (ja most g k) (g (k+1))
theorem aaD:fB p q<0↔p<q:=by
 rw[fB];by_cases h:p<q
 ·rw[aA h];exact⟨fun _=>h,fun _=>by decide⟩
 ·rw[aD h];by_cases e:p=q
  ·rw[aA e];exact⟨fun h=>absurd h (by decide),fun h'=>absurd h' h⟩
  ·rw[aD e];exact⟨fun h=>absurd h (by decide),fun h'=>absurd h' h⟩
theorem ZW (most:Bool) (T:Nat ->Fr):∀k,a7 (j7 most T k)=ja most (fun x=>a7 (T x)) k
 |0=>rfl
 |k+1=>by
  rw[j7,ja, <- ZW most T k];cases most with
  |false=>simp only[Bp,Bool.false_eq_true,if_false];exact mi _
  |true=>
   simp only[Bp,if_true,great];by_cases h:fB (a7 (j7 true T k)) (a7 (T (k+1)))<0
   ·rw[aA h,aA (aaD.1 h)]
   ·rw[aD h,aD fun e=>h (aaD.2 e)]
theorem Ko (most:Bool) {g:Nat ->Rat}:∀ {k:Nat},(∀x,x<=k ->g x=h x) ->ja most g k=ja most h k
 |0,e=>e 0 (aq _)
 |k+1,e=>by rw[ja,ja,Ko most fun x hx=>e x (by omega),e (k+1) (aq _)]
theorem JK (f:Nat ->Nat) (x y:Nat) (h:u≠v):aQ (aQ f v x) u y=aQ (aQ f u y) v x:=by
 funext z
 simp only[aQ];by_cases e:z=u
 ·rw[aA e,aD (by omega),aA e]
 ·rw[aD e,aD e]
theorem VJ {vars rest:List Nat} (hp:Pos S) (hr:rest.Nodup) (hv:∀u∈vars,u=v∨u∈rest) (most:Bool) (l:List Fr) (hf:∀u,f u<sz S u):
  a7 (bT (ow S vars rest v most l) (pos S f rest))=ja most (fun x=>a7 (bT l (pos S (aQ f v x) vars))) (sz S v - 1):=by
 rw[ow,LM _ (o7 f hf rest),mi,ZW];refine Ko most fun x _=>?_;rw[vV S (f:=aQ (aV S rest (pos S f rest)) v x) (g:=aQ f v x)];intro u hu;simp only[aQ];by_cases e:u=v
 ·rw[aA e,aA e]
 ·rw[aD e,aD e];exact Aq hp hf hr u ((hv u hu).resolve_left e)
theorem aeb {va vb U:List Nat} (hp:Pos S) (hr:U.Nodup) (sW:∀u∈va,u∈U) (oz:∀u∈vb,u∈U) (la lb:List Fr) (hf:∀u,f u<sz S u):
  a7 (bT (sN S va vb U la lb) (pos S f U))=a7 (bT la (pos S f va))*a7 (bT lb (pos S f vb)):=by
 rw[sN,LM _ (o7 f hf U),mi,vV S (f:=aV S U (pos S f U)) (g:=f) fun u hu=>Aq hp hf hr u (sW u hu),vV S (f:=aV S U (pos S f U)) (g:=f) fun u hu=>Aq hp hf hr u (oz u hu)]
def Sml (s:Nat) (l:List Fr):Prop:=∀f∈l,∃q,f=qF q/\qw q<=s
theorem LL (h:∀v,sz S v<=3):∀vs:List Nat,cnt S vs<=3^vs.length
 |[]=>aq _
 |v::vs=>by rw[cnt,dI,gH,cV];exact jm (LL h vs) (h v)
structure TL (sizes vars:List Int) (l:List Fr) (s:Nat):Prop where
 up:Up vars sizes.length
 len:l.length=cnt (ag sizes) (ag vars)
 sml:Sml s l
theorem agl {x v:Int}:x∈bJ l v↔x∈l/\x≠v:=by simp[bJ]
theorem zJ {vars:List Int} (h:Up vars n) (u:Nat):∀x∈ag vars,x=u∨x∈ag (bJ vars (u:Int)):=by
 intro x hx;obtain⟨y,hy,rfl⟩:=aW.1 hx;have h1:=(gj.1 h).1 y hy;by_cases e:y=(u:Int)
 ·left;omega
 ·exact .inr (aW.2 ⟨y,agl.2 ⟨hy,e⟩,rfl⟩)
theorem afr (Bt Bs:Nat) (c:Option Addr) (cc:Nat) (l:List Fr) (s:Rat) (k:Nat) (hk:k<l.length) (w:World) (rT:Bt<w.heap.size) (xc:w.cell? ⟨Bt,1,none⟩=some (.slice c l.length cc)) (hs:aF w Bs (aM s) (nu s) (de s)) (hf:dA w c l) (h1:l[k].2.1.size+l[k].2.2.size<=100000) (h2:(nu s).size+(de s).size<=100000):
  Calls Tryz.prog 90 #[.int .i64 (k:Nat),.pointer (some ⟨Bt,0,none⟩),.pointer (some ⟨Bs,0,none⟩)] w fun e w'=>e=.returned (gF (qF (a7 l[k]*s)))/\Below w.heap.size w w':=by
 obtain⟨g,o,rfl,hg,a0,a1,a2⟩:=hf k hk;have HC:=hid (fun V:World=>aag (w:=V) (a7 l[k]*s) rfl (gi s) rfl h1 h2);rw[Lr];generalize a7 l[k]*s=r at *;clear hf h1 h2;generalize l[k]=f at *;obtain⟨fn,fx,fy⟩:=f;simp only at a0 a1 a2 HC;obtain⟨z0,z1,z2, -⟩:=hs.facts;have uK:=hs.lt;clear hs;have hb0:aF (w.alloc (FC false ⟨#[]⟩ ⟨#[]⟩)) w.heap.size false ⟨#[]⟩ ⟨#[]⟩:=aF.new w _ _ _;have hB:Below w.heap.size w (w.alloc (FC false ⟨#[]⟩ ⟨#[]⟩)):=(au _ w).alloc (aq _) _;go_enter Tryz.func90,Tryz.ntmps90;go_upto_region 1 with fail
 generalize (w.alloc (FC false ⟨#[]⟩ ⟨#[]⟩))=W at *;replace hb0:=hb0.drew;replace hB:=hB.drew;have held:∀u,Below w.heap.size w u ->u.cell? ⟨Bt,1,none⟩=some (.slice (some ⟨g,o,none⟩) l.length cc)/\u.cell? ⟨g,o+k*3,none⟩=some (.bool fn)/\u.cell? ⟨g,o+k*3+1,none⟩=some (.string fx)/\u.cell? ⟨g,o+k*3+2,none⟩=some (.string fy)/\u.cell? ⟨Bs,0,none⟩=some (.bool (aM s))/\u.cell? ⟨Bs,1,none⟩=some (.string (nu s))/\u.cell? ⟨Bs,2,none⟩=some (.string (de s)):=fun u h=>⟨(h.cell (p:=⟨Bt,1,none⟩) rT).trans xc,(h.cell (p:=⟨g,_,none⟩) hg).trans a0,(h.cell (p:=⟨g,_,none⟩) hg).trans a1,(h.cell (p:=⟨g,_,none⟩) hg).trans a2,(h.cell (p:=⟨Bs,0,none⟩) uK).trans z0,(h.cell (p:=⟨Bs,1,none⟩) uK).trans z1,(h.cell (p:=⟨Bs,2,none⟩) uK).trans z2⟩;have HELD:=hid held;clear held a0 a1 a2 z0 z1 z2 xc;refine jE (S:=fun u=>u.cell? ⟨Bt,1,none⟩=some (.slice (some ⟨g,o,none⟩) l.length cc)/\u.cell? ⟨g,o+k*3,none⟩=some (.bool fn)/\u.cell? ⟨g,o+k*3+1,none⟩=some (.string fx)/\u.cell? ⟨g,o+k*3+2,none⟩=some (.string fy)/\u.cell? ⟨Bs,0,none⟩=some (.bool (aM s))/\u.cell? ⟨Bs,1,none⟩=some (.string (nu s))/\u.cell? ⟨Bs,2,none⟩=some (.string (de s))) (by kernel_rfl) (HELD.o _ hB) (fun ak=>?_);generalize W.drew=u0 at *;refine aw 0 (.pointer (some ⟨Bt,1,none⟩)) ?_;refine aw 1 (.slice (some ⟨g,o,none⟩) l.length cc) ?_;refine aw 2 (.int .i64 (k:Nat)) ?_;refine aw 3 (.pointer (some ⟨g,o+k*3,none⟩)) ?_;refine aw 4 (.agg #[.bool fn,.string fx,.string fy]) ?_;refine aw 5 (.agg #[.bool (aM s),.string (nu s),.string (de s)]) ?_
 refine aH [6] (cA ?_ aG);intro K' hK';go_simp;refine(HC.o _).af ?_;rintro e u1 ⟨rfl,hb⟩;replace hb0:=hb0.aa hb hb0.lt;replace hB:=hB.trans (hb.af hB.size);refine hK'.o _ _ (HELD.o _ hB) (fun ah=>?_);clear hK' K' ak;have ak:=ah;clear ah hb;try simp only[gE,aP]
 obtain⟨k0,k1,k2,f0,f1,f2⟩:=hb0.facts;refine aH [7] (cA ?_ aG);intro K' hK';go_simp;have hput:=hb0.put (aM r) (nu r) (de r);have qJ:=cQ hB (g:=w.heap.size) (aq _) (.bool (aM r)) (.string (nu r)) (.string (de r));generalize (((u1.setCell ⟨w.heap.size,0,none⟩ (.bool (aM r))).setCell ⟨w.heap.size,1,none⟩ (.string (nu r))).setCell ⟨w.heap.size,2,none⟩ (.string (de r)))=v9 at *;refine hK'.o _ _ (HELD.o _ qJ) (fun _=>eK (by kernel_rfl) ?_ _);clear hK' K' ak;go_wp2;refine bS (hput.result rfl _ rfl) rfl ?_;exact⟨rfl,qJ⟩
theorem Ks (l:List Fr):(jy l).length=l.length:=by simp[jy]
theorem Wj (l:List Fr) (h:k<(jy l).length):(jy l)[k]=qF (a7 (l[k]'(by rw[Ks] at h;exact h))*(1/bH l)):=by simp[jy]
theorem NT (h:q≠0):qw (1/q)<=qw q+1:=by
 have e:val (aM q) (nu q) (de q)≠0:=by rw[gi];exact h
 have h0:=fun h=>e (Fz.2 h);have e1:1/q=val (aM q) (de q) (nu q):=by rw[M7 _ _ _ (fun h=>h0 (.inl h)) (fun h=>h0 (.inr h)),gi,rp,vH]
 rw[e1];refine aL (Bl _ _ _) ?_;show (B q.den).size+(B q.num.natAbs).size+1<=qw q+1;rw[qw];omega
theorem acE (a b c:Option Addr) (ca cb cc:Nat) (sizes vars:List Int) (l:List Fr) (w:World) (hs:aC w a sizes) (hv:aC w b vars) (hf:dA w c l) (hn:sizes.length<=140737488355328) (hm:vars.length<=140737488355328) (hk:jh sizes vars l.length=0) (hw:∀k (h:k<l.length),l[k].2.1.size+l[k].2.2.size<=40000) (pz:∀k,k<=l.length ->qw (bH (l.take k))<=40000) (c4:l.length<=10000) (hz:bH l=0):
  Calls Tryz.prog 41 #[.slice a sizes.length ca,.agg #[.slice b vars.length cb,.slice c l.length cc]] w fun e w'=>uW [] [] 3 e w'/\Below w.heap.size w w':=by
 obtain⟨aJ,aT,hlc⟩:=yE hk;have hq:=pz l.length (aq _);rw[gX] at hq;have ik:=fun V h1 h2=>Bg a b c ca cb cc l.length sizes vars V h1 h2 hn hm;rw[hk] at ik;have ik:=hid ik;have iH:=hid (fun V h=>Q7 c cc l V h hw pz c4);have HO:=hid (fun V:World=>H5 (k:=1) (w:=V) 1 1 rfl (by decide) (by rfl));have HS:=hid hs;have HV:=hid hv;have HF:=hid hf;have HD:=hid (fun V:World=>ai4 (n:=aM 1) (x:=nu 1) (y:=de 1) (w:=V) ((gi (bH l)).trans hz));clear hs hv hf hn hm hk hw pz hlc aT aJ hz;obtain⟨dn,B8⟩:∃d,false=d:=⟨_,rfl⟩;obtain⟨dx,G0⟩:∃d:ByteArray,⟨#[]⟩=d:=⟨_,rfl⟩;obtain⟨dy,GZ⟩:∃d:ByteArray,⟨#[]⟩=d:=⟨_,rfl⟩
 have Mv:Hid (∀V:World,Calls Tryz.prog 87 #[.agg #[.bool (aM 1),.string (nu 1),.string (de 1)],.agg #[.bool (aM (bH l)),.string (nu (bH l)),.string (de (bH l))]] V fun e w'=>e=.returned (.tuple #[.agg #[.bool dn,.string dx,.string dy],.int .i64 3])/\Below V.heap.size V w'):=by
  rw[<- B8, <- G0, <- GZ];exact HD
 clear HD B8 G0 GZ;have HD:=Mv;clear Mv;obtain⟨dk,Cb⟩:∃d:Int,3=d:=⟨_,rfl⟩;rw[Cb] at HD;have G4:(dk==0)=false:=by rw[<- Cb];rfl
 have pM:¬dk=0:=by omega
 have hH:=NH.new w (.slice b vars.length cb) (.slice c l.length cc);have c0:=hH.1.c0;have c1:=hH.1.c1;go_enter Tryz.func41,Tryz.ntmps41;go_wp2_with fail
 generalize ((w.alloc (TC (.slice b vars.length cb) (.slice c l.length cc))).alloc (TC (.slice none 0 0) (.slice none 0 0)))=W at *;refine(ik.o _ (HS.o.aa hH.2.2) (HV.o.aa hH.2.2)).af ?_;rintro e w1 ⟨rfl,hb1⟩;replace hH:=hH.step hb1;clear c0 c1 hb1 ik;go_upto_region 4 with fail
 replace hH:=hH.drew;refine jE (S:=fun u=>u.cell? ⟨w.heap.size,1,none⟩=some (.slice c l.length cc)) (by kernel_rfl) hH.1.c1 (fun ak=>?_);generalize w1.drew=u0 at *;refine aw 1 (.pointer (some ⟨w.heap.size,1,none⟩)) ?_;refine aw 2 (.slice c l.length cc) ?_;refine aH [0,8] (cA ?_ (cA ?_ aG))
 focus
  intro K' hK';go_simp;refine(HO.o _).af ?_;rintro e u1 ⟨rfl,hb⟩;replace hH:=hH.step hb;refine hK'.o _ _ hH.1.c1 (fun ah=>?_);clear hK' K' ak;have ak:=ah;clear ah hb;refine aH [3,8] (cA ?_ (cA ?_ aG))
  focus
   intro K' hK';go_simp;refine(iH.o _ (HF.o.aa hH.2.2)).af ?_;rintro e u2 ⟨rfl,hb⟩;replace hH:=hH.step hb;refine hK'.o _ _ hH.1.c1 (fun ah=>?_);clear hK' K' ak;have ak:=ah;clear ah hb;refine aH [4,8] (cA ?_ (cA ?_ aG))
   focus
    intro K' hK';go_simp;refine(HD.o _).af ?_;rintro e u3 ⟨rfl,hb⟩;replace hH:=hH.step hb;refine hK'.o _ _ hH.1.c1 (fun ah=>?_);clear hK' K' ak;have ak:=ah;clear ah hb;refine aw 5 (.tuple #[.agg #[.bool dn,.string dx,.string dy],.int .i64 dk]) ?_;refine aw 6 (.agg #[.bool dn,.string dx,.string dy]) ?_;refine aw 7 (.int .i64 dk) ?_;refine aH [8] (cA ?_ aG);intro K' hK';go_simp;have hb:Below u3.heap.size u3 (u3.alloc (FC false ⟨#[]⟩ ⟨#[]⟩)):=(au _ u3).alloc (aq _) _;have h7:aF (u3.alloc (FC false ⟨#[]⟩ ⟨#[]⟩)) u3.heap.size false ⟨#[]⟩ ⟨#[]⟩:=aF.new u3 _ _ _;have l7:=hH.lt;replace hH:=hH.step hb;refine hK'.o _ _ hH.1.c1 (fun ah=>?_);clear hK' K' ak;have ak:=ah;clear ah hb;generalize (u3.alloc (FC false ⟨#[]⟩ ⟨#[]⟩))=u4 at *;generalize u3.heap.size=B7 at *
   rotate_left
   focus
    intro K' hK';go_simp;have hb:Below u2.heap.size u2 (u2.alloc (FC false ⟨#[]⟩ ⟨#[]⟩)):=(au _ u2).alloc (aq _) _;have h7:aF (u2.alloc (FC false ⟨#[]⟩ ⟨#[]⟩)) u2.heap.size false ⟨#[]⟩ ⟨#[]⟩:=aF.new u2 _ _ _;have l7:=hH.lt;replace hH:=hH.step hb;refine hK'.o _ _ hH.1.c1 (fun ah=>?_);clear hK' K' ak;have ak:=ah;clear ah hb;generalize (u2.alloc (FC false ⟨#[]⟩ ⟨#[]⟩))=u3 at *;generalize u2.heap.size=B7 at *;refine aH [4] (cA ?_ aG);intro K' hK';go_simp;refine(HD.o _).af ?_;rintro e u4 ⟨rfl,hb⟩;replace hH:=hH.step hb;replace h7:=h7.aa hb h7.lt;refine hK'.o _ _ hH.1.c1 (fun ah=>?_);clear hK' K' ak;have ak:=ah;clear ah hb;refine aw 5 (.tuple #[.agg #[.bool dn,.string dx,.string dy],.int .i64 dk]) ?_;refine aw 6 (.agg #[.bool dn,.string dx,.string dy]) ?_;refine aw 7 (.int .i64 dk) ?_
  rotate_left 2
  focus
   intro K' hK';go_simp;have hb:Below u1.heap.size u1 (u1.alloc (FC false ⟨#[]⟩ ⟨#[]⟩)):=(au _ u1).alloc (aq _) _;have h7:aF (u1.alloc (FC false ⟨#[]⟩ ⟨#[]⟩)) u1.heap.size false ⟨#[]⟩ ⟨#[]⟩:=aF.new u1 _ _ _;have l7:=hH.lt;replace hH:=hH.step hb;refine hK'.o _ _ hH.1.c1 (fun ah=>?_);clear hK' K' ak;have ak:=ah;clear ah hb;generalize (u1.alloc (FC false ⟨#[]⟩ ⟨#[]⟩))=u2 at *;generalize u1.heap.size=B7 at *;refine aH [3] (cA ?_ aG);intro K' hK';go_simp;refine(iH.o _ (HF.o.aa hH.2.2)).af ?_;rintro e u3 ⟨rfl,hb⟩;replace hH:=hH.step hb;replace h7:=h7.aa hb h7.lt;refine hK'.o _ _ hH.1.c1 (fun ah=>?_);clear hK' K' ak;have ak:=ah;clear ah hb;refine aH [4] (cA ?_ aG);intro K' hK';go_simp;refine(HD.o _).af ?_;rintro e u4 ⟨rfl,hb⟩;replace hH:=hH.step hb;replace h7:=h7.aa hb h7.lt;refine hK'.o _ _ hH.1.c1 (fun ah=>?_);clear hK' K' ak;have ak:=ah;clear ah hb;refine aw 5 (.tuple #[.agg #[.bool dn,.string dx,.string dy],.int .i64 dk]) ?_;refine aw 6 (.agg #[.bool dn,.string dx,.string dy]) ?_;refine aw 7 (.int .i64 dk) ?_
 rotate_left 3
 focus
  intro K' hK';go_simp;have hb:Below u0.heap.size u0 (u0.alloc (FC false ⟨#[]⟩ ⟨#[]⟩)):=(au _ u0).alloc (aq _) _;have h7:aF (u0.alloc (FC false ⟨#[]⟩ ⟨#[]⟩)) u0.heap.size false ⟨#[]⟩ ⟨#[]⟩:=aF.new u0 _ _ _;have l7:=hH.lt;replace hH:=hH.step hb;refine hK'.o _ _ hH.1.c1 (fun ah=>?_);clear hK' K' ak;have ak:=ah;clear ah hb;generalize (u0.alloc (FC false ⟨#[]⟩ ⟨#[]⟩))=u1 at *;generalize u0.heap.size=B7 at *;refine aH [0] (cA ?_ aG);intro K' hK';go_simp;refine(HO.o _).af ?_;rintro e u2 ⟨rfl,hb⟩;replace hH:=hH.step hb;replace h7:=h7.aa hb h7.lt;refine hK'.o _ _ hH.1.c1 (fun ah=>?_);clear hK' K' ak;have ak:=ah;clear ah hb;refine aH [3] (cA ?_ aG);intro K' hK';go_simp;refine(iH.o _ (HF.o.aa hH.2.2)).af ?_;rintro e u3 ⟨rfl,hb⟩;replace hH:=hH.step hb;replace h7:=h7.aa hb h7.lt;refine hK'.o _ _ hH.1.c1 (fun ah=>?_);clear hK' K' ak;have ak:=ah;clear ah hb;refine aH [4] (cA ?_ aG);intro K' hK';go_simp;refine(HD.o _).af ?_;rintro e u4 ⟨rfl,hb⟩;replace hH:=hH.step hb;replace h7:=h7.aa hb h7.lt;refine hK'.o _ _ hH.1.c1 (fun ah=>?_);clear hK' K' ak;have ak:=ah;clear ah hb;refine aw 5 (.tuple #[.agg #[.bool dn,.string dx,.string dy],.int .i64 dk]) ?_;refine aw 6 (.agg #[.bool dn,.string dx,.string dy]) ?_;refine aw 7 (.int .i64 dk) ?_
 all_goals
  try simp only[gE,aP]
  obtain⟨k0,k1,k2,f0,f1,f2⟩:=h7.facts;refine aH [9] (cA ?_ aG);intro K' hK';go_simp;have h8:=h7.put dn dx dy;replace hH:=((hH.off B7 0 (.bool dn) l7).off B7 1 (.string dx) l7).off B7 2 (.string dy) l7;clear k0 k1 k2 f0 f1 f2 h7;generalize (((u4.setCell ⟨B7,0,none⟩ (.bool dn)).setCell ⟨B7,1,none⟩ (.string dx)).setCell ⟨B7,2,none⟩ (.string dy))=v9 at *;refine hK'.o _ _ hH.1.c1 (fun ah=>?_);clear hK' K' ak;have ak:=ah;clear ah;refine aw 10 (.int .i64 dk) ?_;try simp only[gE,aP]
  refine eK (by kernel_rfl) ?_ _;obtain⟨k0,k1,f0,f1⟩:=hH.2.1.facts;go_wp2;refine bS ((hH.2.1.put _ _).result2 rfl _ rfl) rfl ?_;exact⟨by rw[<- Cb];exact uW.empty 3 _,mK hH.2.2 (by omega) _ _⟩
theorem acF (a b c:Option Addr) (ca cb cc:Nat) (sizes vars:List Int) (l:List Fr) (w:World) (hs:aC w a sizes) (hv:aC w b vars) (hf:dA w c l) (hn:sizes.length<=140737488355328) (hm:vars.length<=140737488355328) (hk:jh sizes vars l.length=0) (hw:∀k (h:k<l.length),l[k].2.1.size+l[k].2.2.size<=40000) (pz:∀k,k<=l.length ->qw (bH (l.take k))<=40000) (c4:l.length<=10000) (hz:bH l≠0):
  Calls Tryz.prog 41 #[.slice a sizes.length ca,.agg #[.slice b vars.length cb,.slice c l.length cc]] w fun e w'=>uW vars (jy l) 0 e w'/\Below w.heap.size w w':=by
 obtain⟨aJ,aT,hlc⟩:=yE hk;have hq:=pz l.length (aq _);rw[gX] at hq;have ik:=fun V h1 h2=>Bg a b c ca cb cc l.length sizes vars V h1 h2 hn hm;rw[hk] at ik;have ik:=hid ik;have iH:=hid (fun V h=>Q7 c cc l V h hw pz c4);have HO:=hid (fun V:World=>H5 (k:=1) (w:=V) 1 1 rfl (by decide) (by rfl));have HS:=hid hs;have HV:=hid hv;have HF:=hid hf;have HN:=hid (fun V Bs (k:Nat) (hk:k<l.length) (h1:w.heap.size<V.heap.size) (h2:V.cell? ⟨w.heap.size,1,none⟩=some (.slice c l.length cc)) (h3:aF V Bs (aM (1/bH l)) (nu (1/bH l)) (de (1/bH l))) (h4:dA V c l)=>afr w.heap.size Bs c cc l (1/bH l) k hk V h1 h2 h3 h4 (aL (hw k hk) (by decide)) (by have:=NT hz;show qw (1/bH l)<=100000;omega));have HD:=hid (fun V:World=>ai6 (n:=aM 1) (x:=nu 1) (y:=de 1) (w:=V) (1/bH l) (gi 1) (gi (bH l)) hz rfl (show qw 1<=100000 by have:=Bl false (B 1) (B 1);exact aL (by decide+kernel) (aq 100000)) (show qw (bH l)<=100000 by omega));have Mh:Hid (∀(k:Nat) (h:k<(jy l).length) (h':k<l.length),(jy l)[k]=qF (a7 l[k]*(1/bH l))):=fun k h _=>Wj l h;have hnl:=Ks l;clear hs hv hf hn hm hk hw pz hz hq;have cC:=hid aJ;have iV:=hid aT;have HLC:=hid hlc;have O4:=aT.length;have nE:=aJ.eight;clear hlc aT aJ;generalize jy l=NL at *;generalize 1/bH l=r at *;obtain⟨dn,B8⟩:∃d,aM r=d:=⟨_,rfl⟩;obtain⟨dx,G0⟩:∃d:ByteArray,nu r=d:=⟨_,rfl⟩;obtain⟨dy,GZ⟩:∃d:ByteArray,de r=d:=⟨_,rfl⟩;rw[B8,G0,GZ] at HD HN;clear B8 G0 GZ;obtain⟨dk,Cb⟩:∃d:Int,0=d:=⟨_,rfl⟩;rw[Cb] at HD;have G4:(dk==0)=true:=by rw[<- Cb];rfl
 clear Cb;have hH:=NH.new w (.slice b vars.length cb) (.slice c l.length cc);have c0:=hH.1.c0;have c1:=hH.1.c1;go_enter Tryz.func41,Tryz.ntmps41;go_wp2_with fail
 generalize ((w.alloc (TC (.slice b vars.length cb) (.slice c l.length cc))).alloc (TC (.slice none 0 0) (.slice none 0 0)))=W at *;refine(ik.o _ (HS.o.aa hH.2.2) (HV.o.aa hH.2.2)).af ?_;rintro e w1 ⟨rfl,hb1⟩;replace hH:=hH.step hb1;clear c0 c1 hb1 ik;go_upto_region 4 with fail
 replace hH:=hH.drew;refine jE (S:=fun u=>u.cell? ⟨w.heap.size,1,none⟩=some (.slice c l.length cc)) (by kernel_rfl) hH.1.c1 (fun ak=>?_);generalize w1.drew=u0 at *;refine aw 1 (.pointer (some ⟨w.heap.size,1,none⟩)) ?_;refine aw 2 (.slice c l.length cc) ?_;refine aH [0,8] (cA ?_ (cA ?_ aG))
 focus
  intro K' hK';go_simp;refine(HO.o _).af ?_;rintro e u1 ⟨rfl,hb⟩;replace hH:=hH.step hb;refine hK'.o _ _ hH.1.c1 (fun ah=>?_);clear hK' K' ak;have ak:=ah;clear ah hb;refine aH [3,8] (cA ?_ (cA ?_ aG))
  focus
   intro K' hK';go_simp;refine(iH.o _ (HF.o.aa hH.2.2)).af ?_;rintro e u2 ⟨rfl,hb⟩;replace hH:=hH.step hb;refine hK'.o _ _ hH.1.c1 (fun ah=>?_);clear hK' K' ak;have ak:=ah;clear ah hb;refine aH [4,8] (cA ?_ (cA ?_ aG))
   focus
    intro K' hK';go_simp;refine(HD.o _).af ?_;rintro e u3 ⟨rfl,hb⟩;replace hH:=hH.step hb;refine hK'.o _ _ hH.1.c1 (fun ah=>?_);clear hK' K' ak;have ak:=ah;clear ah hb;refine aw 5 (.tuple #[.agg #[.bool dn,.string dx,.string dy],.int .i64 dk]) ?_;refine aw 6 (.agg #[.bool dn,.string dx,.string dy]) ?_;refine aw 7 (.int .i64 dk) ?_;refine aH [8] (cA ?_ aG);intro K' hK';go_simp;have hb:Below u3.heap.size u3 (u3.alloc (FC false ⟨#[]⟩ ⟨#[]⟩)):=(au _ u3).alloc (aq _) _;have h7:aF (u3.alloc (FC false ⟨#[]⟩ ⟨#[]⟩)) u3.heap.size false ⟨#[]⟩ ⟨#[]⟩:=aF.new u3 _ _ _;have l7:=hH.lt;replace hH:=hH.step hb;refine hK'.o _ _ hH.1.c1 (fun ah=>?_);clear hK' K' ak;have ak:=ah;clear ah hb;generalize (u3.alloc (FC false ⟨#[]⟩ ⟨#[]⟩))=u4 at *;generalize u3.heap.size=B7 at *
   rotate_left
   focus
    intro K' hK';go_simp;have hb:Below u2.heap.size u2 (u2.alloc (FC false ⟨#[]⟩ ⟨#[]⟩)):=(au _ u2).alloc (aq _) _;have h7:aF (u2.alloc (FC false ⟨#[]⟩ ⟨#[]⟩)) u2.heap.size false ⟨#[]⟩ ⟨#[]⟩:=aF.new u2 _ _ _;have l7:=hH.lt;replace hH:=hH.step hb;refine hK'.o _ _ hH.1.c1 (fun ah=>?_);clear hK' K' ak;have ak:=ah;clear ah hb;generalize (u2.alloc (FC false ⟨#[]⟩ ⟨#[]⟩))=u3 at *;generalize u2.heap.size=B7 at *;refine aH [4] (cA ?_ aG);intro K' hK';go_simp;refine(HD.o _).af ?_;rintro e u4 ⟨rfl,hb⟩;replace hH:=hH.step hb;replace h7:=h7.aa hb h7.lt;refine hK'.o _ _ hH.1.c1 (fun ah=>?_);clear hK' K' ak;have ak:=ah;clear ah hb;refine aw 5 (.tuple #[.agg #[.bool dn,.string dx,.string dy],.int .i64 dk]) ?_;refine aw 6 (.agg #[.bool dn,.string dx,.string dy]) ?_;refine aw 7 (.int .i64 dk) ?_
  rotate_left 2
  focus
   intro K' hK';go_simp;have hb:Below u1.heap.size u1 (u1.alloc (FC false ⟨#[]⟩ ⟨#[]⟩)):=(au _ u1).alloc (aq _) _;have h7:aF (u1.alloc (FC false ⟨#[]⟩ ⟨#[]⟩)) u1.heap.size false ⟨#[]⟩ ⟨#[]⟩:=aF.new u1 _ _ _;have l7:=hH.lt;replace hH:=hH.step hb;refine hK'.o _ _ hH.1.c1 (fun ah=>?_);clear hK' K' ak;have ak:=ah;clear ah hb;generalize (u1.alloc (FC false ⟨#[]⟩ ⟨#[]⟩))=u2 at *;generalize u1.heap.size=B7 at *;refine aH [3] (cA ?_ aG);intro K' hK';go_simp;refine(iH.o _ (HF.o.aa hH.2.2)).af ?_;rintro e u3 ⟨rfl,hb⟩;replace hH:=hH.step hb;replace h7:=h7.aa hb h7.lt;refine hK'.o _ _ hH.1.c1 (fun ah=>?_);clear hK' K' ak;have ak:=ah;clear ah hb;refine aH [4] (cA ?_ aG);intro K' hK';go_simp;refine(HD.o _).af ?_;rintro e u4 ⟨rfl,hb⟩;replace hH:=hH.step hb;replace h7:=h7.aa hb h7.lt;refine hK'.o _ _ hH.1.c1 (fun ah=>?_);clear hK' K' ak;have ak:=ah;clear ah hb;refine aw 5 (.tuple #[.agg #[.bool dn,.string dx,.string dy],.int .i64 dk]) ?_;refine aw 6 (.agg #[.bool dn,.string dx,.string dy]) ?_;refine aw 7 (.int .i64 dk) ?_
 rotate_left 3
 focus
  intro K' hK';go_simp;have hb:Below u0.heap.size u0 (u0.alloc (FC false ⟨#[]⟩ ⟨#[]⟩)):=(au _ u0).alloc (aq _) _;have h7:aF (u0.alloc (FC false ⟨#[]⟩ ⟨#[]⟩)) u0.heap.size false ⟨#[]⟩ ⟨#[]⟩:=aF.new u0 _ _ _;have l7:=hH.lt;replace hH:=hH.step hb;refine hK'.o _ _ hH.1.c1 (fun ah=>?_);clear hK' K' ak;have ak:=ah;clear ah hb;generalize (u0.alloc (FC false ⟨#[]⟩ ⟨#[]⟩))=u1 at *;generalize u0.heap.size=B7 at *;refine aH [0] (cA ?_ aG);intro K' hK';go_simp;refine(HO.o _).af ?_;rintro e u2 ⟨rfl,hb⟩;replace hH:=hH.step hb;replace h7:=h7.aa hb h7.lt;refine hK'.o _ _ hH.1.c1 (fun ah=>?_);clear hK' K' ak;have ak:=ah;clear ah hb;refine aH [3] (cA ?_ aG);intro K' hK';go_simp;refine(iH.o _ (HF.o.aa hH.2.2)).af ?_;rintro e u3 ⟨rfl,hb⟩;replace hH:=hH.step hb;replace h7:=h7.aa hb h7.lt;refine hK'.o _ _ hH.1.c1 (fun ah=>?_);clear hK' K' ak;have ak:=ah;clear ah hb;refine aH [4] (cA ?_ aG);intro K' hK';go_simp;refine(HD.o _).af ?_;rintro e u4 ⟨rfl,hb⟩;replace hH:=hH.step hb;replace h7:=h7.aa hb h7.lt;refine hK'.o _ _ hH.1.c1 (fun ah=>?_);clear hK' K' ak;have ak:=ah;clear ah hb;refine aw 5 (.tuple #[.agg #[.bool dn,.string dx,.string dy],.int .i64 dk]) ?_;refine aw 6 (.agg #[.bool dn,.string dx,.string dy]) ?_;refine aw 7 (.int .i64 dk) ?_
 all_goals
  try simp only[gE,aP]
  obtain⟨k0,k1,k2,f0,f1,f2⟩:=h7.facts;refine aH [9] (cA ?_ aG);intro K' hK';go_simp;have h8:=h7.put dn dx dy;replace hH:=((hH.off B7 0 (.bool dn) l7).off B7 1 (.string dx) l7).off B7 2 (.string dy) l7;clear k0 k1 k2 f0 f1 f2 h7;generalize (((u4.setCell ⟨B7,0,none⟩ (.bool dn)).setCell ⟨B7,1,none⟩ (.string dx)).setCell ⟨B7,2,none⟩ (.string dy))=v9 at *;refine hK'.o _ _ hH.1.c1 (fun ah=>?_);clear hK' K' ak;have ak:=ah;clear ah;refine aw 10 (.int .i64 dk) ?_;try simp only[gE,aP]
  refine eK (by kernel_rfl) ?_ _;have c0:=hH.1.c0;go_wp2_with fail
  refine(JT b cb vars _ (HV.o.aa hH.2.2) (by omega)).af ?_;rintro e w2 ⟨x,rfl,hr2,hb2⟩;obtain⟨d,cd,rfl,rN⟩:=hr2.ints;clear c0 hr2;replace hH:=hH.step hb2;replace h8:=h8.aa hb2 h8.lt;clear hb2;have hlt:=hH.1.lt;have qp:=Hz a d ca cd sizes vars 90 #[.pointer (some ⟨w.heap.size,0,none⟩),.pointer (some ⟨B7,0,none⟩)] (enters_of Tryz.func90 (by kernel_rfl) rfl) NL w2 (HS.o.aa hH.2.2) rN cC.o iV.o (by rw[hnl];exact HLC.o) (fun k hk V hb=>by rw[Mh.o k hk (by omega)];exact HN.o V B7 k (by omega) (aO hlt hb.size) ((hb.cell (p:=⟨w.heap.size,1,none⟩) hlt).trans hH.1.c1) (h8.aa hb h8.lt) (HF.o.aa (hH.2.2.trans (hb.af hH.2.2.size))));have y5:=hid qp;clear qp;go_wp2_with fail
  refine y5.o.af ?_;rintro e w3 ⟨G,rfl,hG,hrow,hb3⟩;have hl3:=hH.lt;replace hH:=hH.step hb3;replace rN:=rN.aa hb3;obtain⟨k0,k1,f0,f1⟩:=hH.2.1.facts;obtain⟨e1,e2,e3⟩:=hH.fin (cb:=cd) (cc:=l.length) rN hrow (by omega) (.slice d vars.length cd) (.slice (some ⟨G,0,none⟩) l.length l.length) rfl (by rw[hnl]);go_wp2;refine bS (e1.result2 rfl _ rfl) rfl ?_;exact⟨e2,e3⟩
theorem bA.aa {B:Nat} {v:Value} (h:bA w B v l) (hb:Below w.heap.size w w'):bA w' B v l:=by
 refine⟨h.1,h.2.imp id ?_⟩;rintro⟨g,cap,cur,h1,h2,h3,h4⟩;exact⟨g,cap,cur,h1,h2,(hb.block g (dm.1 h3).1).trans h3,h4⟩
theorem bA.intS {B:Nat} {d:Option Addr} {cd:Nat} {U:List Int} (h:bA w B (.slice d U.length cd) U):aC w d U:=by
 obtain⟨d',wO,e,hi⟩:=h.ints;cases e;exact hi
def sO (c:Int) (n:Nat):Nat:=(if c<0 then(-(c+1)).toNat else c.toNat) % n
theorem Kc (c:Int) (h:1<=n):sO c n<n:=gh _ h
theorem UY (c:Int) (n:Nat) (w:World) (h1: -9223372036854775808<=c) (h2:c<=9223372036854775807) (hn:1<=n) (hn':n<=1000):
  Calls Tryz.prog 60 #[.int .i64 c,.int .i64 (n:Nat)] w fun e w'=>e=.returned (.int .i64 (sO c n:Nat))/\w'=w:=by
 have HP:Hid (sO c n=(if c<0 then(-(c+1)).toNat else c.toNat) % n):=rfl;have hlt:=Kc c hn;generalize sO c n=P at *;by_cases hc:c<0
 ·rw[aA hc] at HP;obtain⟨d,hd⟩:∃d:Nat,c= -((d:Int)+1):=⟨(-(c+1)).toNat,by omega⟩;subst hd
  have HE:Hid ((d:Int) % (n:Int)=(P:Int)):=by
   show _=_;rw[HP.o,show (-(-((d:Int)+1)+1)).toNat=d by omega,rA]
  have hw:IntKind.i64.wrap (-((d:Int)+1)+1)= -(d:Int):=by rw[gI];omega
  have hw2:IntKind.i64.wrap (- -(d:Int))=(d:Int):=by rw[gI];omega
  go_enter Tryz.func60,Tryz.ntmps60;go_wp2;go_ret;exact⟨by rw[HE.o];rfl,rfl⟩
 ·rw[aD hc] at HP;obtain⟨d,rfl⟩:∃d:Nat,c=d:=⟨c.toNat,by omega⟩
  have HE:Hid ((d:Int) % (n:Int)=(P:Int)):=by
   show _=_;rw[HP.o,mE,rA]
  go_enter Tryz.func60,Tryz.ntmps60;go_wp2;go_ret;exact⟨by rw[HE.o];rfl,rfl⟩
theorem J6 (c:Int) (n:Nat) (w:World) (h1: -9223372036854775808<=c) (h2:c<=9223372036854775807) (hn:1<=n) (hn':n<=1000):
  Calls Tryz.prog 60 #[.int .i64 c,.int .i64 (n:Nat)] w fun e w'=>e=.returned (.int .i64 (sO c n:Nat))/\Below w.heap.size w w':=by
 refine(UY c n w h1 h2 hn hn').af ?_;rintro e w' ⟨h,rfl⟩;exact⟨h,au _ _⟩
theorem Ou (w:World) (u:Int):aC (w.alloc (.cells #[.int .i64 u] 3)) (some ⟨w.heap.size,0,none⟩) [u]:=fun k hk=>by
 obtain rfl:k=0:=by simp at hk;omega
 exact⟨w.heap.size,0,rfl,by simp,(aY w _ _).cell⟩
def gU (L:List (List Int)) (v:Nat):List Int:=jw (L.getD v []) [(v:Int)]
def gL (V:List Vr) (L:List (List Int)) (R:List (List Fr)) (v:Nat):List Fr:=(List.range (cnt (ar V) (ag (gU L v)))).map fun K=>qF (a7 (eO V L R (aV (ar V) (ag (gU L v)) K) v))
theorem M9 (h:v<n):Up [(v:Int)] n:=gj.2 ⟨fun x hx=>by have:=eD.1 hx;omega,List.pairwise_singleton _ _⟩
def GK (w V:World) (x y z:Value):Prop:=NK w V x y z/\bw V (w.heap.size+1) (.slice none 0 0) (.slice none 0 0)
theorem GK.new (w:World) (x y z:Value):GK w ((w.alloc (NC x y z)).alloc (TC (.slice none 0 0) (.slice none 0 0))) x y z:=⟨(NK.new w x y z).step ((au _ _).alloc (aq _) _),bw.at (by simp) _ _⟩
theorem GK.step {V:World} (h:GK w V x y z) (hb:Below V.heap.size V V'):GK w V' x y z:=⟨h.1.step hb,h.2.aa hb h.2.lt⟩
variable {vs:List Nat}
theorem ajE {a b:List Nat} (h:a.Perm b):cnt S a=cnt S b:=by
 induction h with
 |nil=>rfl
 |cons x _ ih=>simp only[cnt,ih]
 |swap x y l=>simp only[cnt];rw[xF]
 |trans _ _ h1 h2=>exact h1.trans h2
theorem Wl (h:bj V L R=0) (hv:v<L.length):¬v∈ag L[v]:=by
 rw[bj] at h;by_cases h1:L.length=V.length/\R.length=V.length
 ·rw[aA h1] at h;by_cases h2:bQ L=0
  ·rw[bQ] at h2;by_cases h3:gB L=true
   ·rw[gB,iK,iK,vW,fE] at h3;have:=h3.2 v (cH.2 hv);rw[bU,a8 hv] at this;simpa using this
   ·rw[aD h3] at h2;cases h2
  ·rw[aD h2] at h;exact absurd h h2
 ·rw[aD h1] at h;cases h
theorem Us (dV:v<L.length) (aT:Up L[v] n) (hno:¬v∈ag L[v]):(([(v:Int)]++L[v]).mergeSort fun x y=>decide (x<=y))=gU L v:=by
 have H6:L.getD v []=L[v]:=by rw[bU,a8 dV];rfl
 obtain⟨h1,h2⟩:=FP L[v] [(v:Int)];rw[gU,H6];have wF:¬(v:Int)∈L[v]:=fun h=>hno (by rw[ag];exact aW.2 ⟨_,h,mE v⟩);have hp:(([(v:Int)]++L[v]).mergeSort fun x y=>decide (x<=y)).Pairwise (fun x y=>decide (x<=y)=true):=List.pairwise_mergeSort (fun a b c h1 h2=>by simp at h1 h2⊢;omega) (fun a b=>by simp;omega) _
 have ly:([(v:Int)]++L[v]).Nodup:=by
  rw[List.singleton_append,mU];exact⟨wF,(gj.1 aT).2.imp fun h=>by omega⟩
 have hn:(([(v:Int)]++L[v]).mergeSort fun x y=>decide (x<=y)).Nodup:=(MO _ _).nodup_iff.2 ly;refine UN ?_ h1 fun x=>?_
 ·rw[vK];intro i j hi hj uy;have q1:=vK.1 hp i j hi hj uy;have q2:=vK.1 hn i j hi hj uy;have q1':=rk q1;omega
 ·rw[List.mem_mergeSort,h2,cI];exact Or.comm
theorem ajF (S:List Nat) (dV:v<L.length) (aT:Up L[v] n) (hno:¬v∈ag L[v]):cnt S (ag (gU L v))=cnt S (ag L[v])*sz S v:=by
 rw[<- Us dV aT hno];have h:(([(v:Int)]++L[v]).mergeSort fun x y=>decide (x<=y)).Perm ([(v:Int)]++L[v]):=MO _ _;have h2:=ajE (S:=S) (h.map Int.toNat);rw[ag,h2,dL,fQ,k7,List.singleton_append,cnt,mE,cV];rfl
def wk (A f:Nat ->Nat) (vs:List Nat) (i:Nat):Nat ->Nat:=fun u=>if u∈vs.take i then f u else A u
theorem agh (A f:Nat ->Nat) (vs:List Nat):wk A f vs 0=A:=by funext u;simp[wk]
theorem agi (A f:Nat ->Nat) (n:Nat) (h:i<vs.length):(ng n (wk A f vs i)).set vs[i] (f vs[i])=ng n (wk A f vs (i+1)):=by
 rw[ac1];refine ac2 fun u _=>?_;rw[aQ,wk,wk,fP h];by_cases e:u=vs[i]
 ·rw[aA e,aA (cI.2 (.inr (eD.2 e))),e]
 ·rw[aD e];by_cases e2:u∈vs.take i
  ·rw[aA e2,aA (cI.2 (.inl e2))]
  ·rw[aD e2,aD (fun hh=>by rcases cI.1 hh with hh |hh;exact e2 hh;exact e (eD.1 hh))]
theorem agj {A:Nat ->Nat} (hA:∀u,¬u∈vs ->A u=0) (hf:∀u,¬u∈vs ->f u=0):wk A f vs vs.length=f:=by
 funext u
 rw[wk,gX];by_cases e:u∈vs
 ·rw[aA e]
 ·rw[aD e,hA u e,hf u e]
def ba (g:Nat ->Rat):Nat ->Rat
 |0=>0
 |n+1=>ba g n+g n
theorem jx {g:Nat ->Rat}:∀ {n:Nat},(∀x,x< n ->g x=h x) ->ba g n=ba h n
 |0,_=>rfl
 |n+1,e=>by rw[ba,ba,jx fun x hx=>e x (by omega),e n (by omega)]
theorem JS:∀n,ba (fun _=>0) n=0
 |0=>rfl
 |n+1=>by rw[ba,JS n,Rat.add_zero]
theorem Ud (g h:Nat ->Rat):∀n,ba (fun x=>g x+h x) n=ba g n+ba h n
 |0=>by simp[ba,Rat.add_zero]
 |n+1=>by
  rw[ba,ba,ba,Ud g h n];rw[Fi,Fi, <- Fi (ba h n),Rat.add_comm (ba h n) (g n),Fi]
theorem Bi (c:Rat) (g:Nat ->Rat):∀n,ba (fun x=>c*g x) n=c*ba g n
 |0=>by simp[ba,Rat.mul_zero]
 |n+1=>by rw[ba,ba,Bi c g n,Rat.mul_add]
theorem Nn (g:Nat ->Nat ->Rat) (m:Nat):∀n,ba (fun x=>ba (fun y=>g x y) m) n=ba (fun y=>ba (fun x=>g x y) n) m
 |0=>by simp only[ba];rw[JS]
 |n+1=>by
  rw[ba,Nn g m n, <- Ud];rfl
theorem Ub (g:Nat ->Rat) (m:Nat):∀n,ba g (m+n)=ba g m+ba (fun y=>g (m+y)) n
 |0=>by simp[ba,Rat.add_zero]
 |n+1=>by rw[<- zk,ba,Ub g m n,ba,Fi]
theorem Uc (g:Nat ->Rat) (b:Nat):∀a,ba g (a*b)=ba (fun x=>ba (fun y=>g (x*b+y)) b) a
 |0=>by rw[mC];rfl
 |a+1=>by rw[eL,jF,Ub,Uc g b a,ba]
def dT (S:List Nat):List Nat ->((Nat ->Nat) ->Rat) ->(Nat ->Nat) ->Rat
 |[],F,f=>F f
 |v::vs,F,f=>ba (fun x=>dT S vs F (aQ f v x)) (sz S v)
def over (vs:List Nat) (f g:Nat ->Nat):Nat ->Nat:=fun u=>if u∈vs then g u else f u
theorem aeV (f g:Nat ->Nat):over [] f g=f:=by funext u;simp[over]
theorem Wh (F:(Nat ->Nat) ->Rat):∀(vs:List Nat) (f:Nat ->Nat),vs.Nodup ->ba (fun k=>F (over vs f (aV S vs k))) (cnt S vs)=dT S vs F f
 |[],f,_=>by
  show 0+F (over [] f _)=F f;rw[aeV,Rat.zero_add]
 |v::vs,f,hn=>by
  rw[mU] at hn;rw[cnt,Uc,dT];refine jx fun x hx=>?_;rw[<- Wh F vs (aQ f v x) hn.2];refine jx fun y hy=>?_;congr 1
  funext u
  have h1:(x*cnt S vs+y)/cnt S vs=x:=by rw[cV,Nat.mul_add_div (by omega),vJ hy,fO]
  have h2:(x*cnt S vs+y) % cnt S vs=y:=by rw[cV,Nat.mul_add_mod,iY hy]
  simp only[over,aV,h1,h2,aQ,dG];by_cases e:u=v
  ·subst e;rw[aA (.inl rfl),aA rfl,aD hn.1,aA rfl]
  ·rw[aD e];by_cases e2:u∈vs
   ·rw[aA (.inr e2),aA e2]
   ·rw[aD (fun h=>h.elim e e2),aD e2,aD e]
theorem Bq {F G:(Nat ->Nat) ->Rat} (h:∀g,(∀u,g u<sz S u) ->F g=G g):∀(vs:List Nat) (f:Nat ->Nat),(∀u,f u<sz S u) ->dT S vs F f=dT S vs G f
 |[],f,hf=>h f hf
 |v::vs,f,hf=>by
  rw[dT,dT];refine jx fun x hx=>Bq h vs _ fun u=>?_;rw[aQ];by_cases e:u=v
  ·rw[aA e,e];exact hx
  ·rw[aD e];exact hf u
theorem Gb (F:(Nat ->Nat) ->Rat) (v:Nat):∀(vs:List Nat) (f:Nat ->Nat),dT S (vs++[v]) F f=dT S vs (fun g=>ba (fun x=>F (aQ g v x)) (sz S v)) f
 |[],f=>rfl
 |u::vs,f=>by
  rw[eE,dT,dT];exact jx fun x _=>Gb F v vs _
theorem Gc (F:(Nat ->Nat) ->Rat) {a b:List Nat} (h:a.Perm b):a.Nodup ->∀f,dT S a F f=dT S b F f:=by
 induction h with
 |nil=>intro _ f;rfl
 |cons x _ ih=>
  intro hn f;rw[mU] at hn;rw[dT,dT];exact jx fun y _=>ih hn.2 _
 |swap x y l=>
  intro hn f
  have hne:y≠x:=by
   rw[mU] at hn;exact fun e=>hn.1 (by rw[e];exact dB)
  simp only[dT];rw[Nn];refine jx fun p _=>jx fun q _=>?_;rw[JK f q p (Ne.symm hne)]
 |trans h1 _ ih1 OS=>
  intro hn f;rw[ih1 hn f,OS (h1.nodup_iff.1 hn) f]
def dJ (V:List Vr) (L:List (List Int)) (R:List (List Fr)) (f:Nat ->Nat):List Nat ->Rat
 |[]=>1
 |v::vs=>a7 (eO V L R f v)*dJ V L R f vs
theorem Du (V:List Vr) (L:List (List Int)) (R:List (List Fr)) (f:Nat ->Nat) (b:List Nat):∀a,dJ V L R f (a++b)=dJ V L R f a*dJ V L R f b
 |[]=>by rw[gY,dJ,vH]
 |v::a=>by rw[eE,dJ,dJ,Du V L R f b a,tW]
theorem NY (V:List Vr) (L:List (List Int)) (R:List (List Fr)) (f:Nat ->Nat):∀n,qh V L R f n=dJ V L R f (List.range n)
 |0=>rfl
 |n+1=>by rw[qh,NY V L R f n,oY,Du,dJ,dJ,tV]
theorem Vh {a b:List Nat} (h:a.Perm b):dJ V L R f a=dJ V L R f b:=by
 induction h with
 |nil=>rfl
 |cons x _ ih=>rw[dJ,dJ,ih]
 |swap x y l=>simp only[dJ];rw[<- tW, <- tW,Fg (a7 (eO V L R f y))]
 |trans _ _ h1 h2=>exact h1.trans h2
theorem WW {x:Nat} (h1:u≠v) (h2:¬v∈ag (L.getD u [])):eO V L R (aQ f v x) u=eO V L R f u:=by
 rw[eO,eO,qj,qj]
 have e:pos (ar V) (aQ f v x) (ag (L.getD u []))=pos (ar V) f (ag (L.getD u [])):=vV _ fun z hz=>by
  rw[aQ,aD];intro e;exact h2 (e▸hz)
 rw[e,aQ,aD h1]
theorem F4 {x:Nat}:∀ {o:List Nat},(∀u∈o,u≠v/\¬v∈ag (L.getD u [])) ->dJ V L R (aQ f v x) o=dJ V L R f o
 |[],_=>rfl
 |u::o,h=>by
  obtain⟨h1,h2⟩:=h u dB;rw[dJ,dJ,WW h1 h2,F4 fun z hz=>h z (dF _ hz)]
theorem aiC:∀(l:List Fr),bH l=ba (fun x=>a7 (bT l x)) l.length:=by
 intro l
 have key:∀n,n<=l.length ->bH (l.take n)=ba (fun x=>a7 (bT l x)) n:=by
  intro n;induction n with
  |zero=>intro _;rfl
  |succ n ih=>
   intro hn;rw[fP (by omega),Lq,ih (by omega),ba,rV (by omega)];rfl
 have:=key l.length (aq _);rwa [gX] at this
theorem row_one (h0:bj V L R=0) (hv:v<V.length) (hf:∀u,f u<sz (ar V) u):ba (fun x=>a7 (eO V L R (aQ f v x) v)) (sz (ar V) v)=1:=by
 have aZ:=iz h0;have dV:v<L.length:=by rw[aZ.len];exact hv
 have oA:v<R.length:=by rw[aZ.lenR];exact hv
 have hno:=Wl h0 dV;have hlen:=aZ.rows v dV oA;have hp:=o7 f hf (ag L[v])
 have hrow:jH (eQ R[v] (sz (ar V) v) (pos (ar V) f (ag L[v])))=true:=by
  have h1:iD (kJ (ar V) L R) V.length=0:=by
   rw[bj] at h0;by_cases h1:L.length=V.length/\R.length=V.length
   ·rw[aA h1] at h0;by_cases h2:bQ L=0
    ·rw[aA h2] at h0;by_cases h3:lY V=0
     ·rwa [aA h3] at h0
     ·rw[aD h3] at h0;exact absurd h0 h3
    ·rw[aD h2] at h0;exact absurd h0 h2
   ·rw[aD h1] at h0;exact absurd h0 (by decide)
  have h2:=Hx h1 v hv;rw[kJ,bU,a8 oA,bU,a8 dV] at h2;simp only[xE] at h2;rw[aA hlen] at h2;by_cases h3:((List.range (cnt (ar V) (ag L[v]))).all fun i=>jH (eQ R[v] (sz (ar V) v) i))=true
  ·rw[fE] at h3;exact h3 _ (cH.2 hp)
  ·rw[aD h3] at h2;exact absurd h2 (by decide)
 rw[jH,iK] at hrow;have hs:bH (eQ R[v] (sz (ar V) v) (pos (ar V) f (ag L[v])))=1:=rk hrow.2;have hmul:(pos (ar V) f (ag L[v])+1)*sz (ar V) v<=R[v].length:=by rw[hlen];exact jl _ hp
 have e1:(pos (ar V) f (ag L[v])+1)*sz (ar V) v=pos (ar V) f (ag L[v])*sz (ar V) v+sz (ar V) v:=by rw[eL,jF]
 have hcl:(eQ R[v] (sz (ar V) v) (pos (ar V) f (ag L[v]))).length=sz (ar V) v:=by
  rw[eQ,dP,lU];omega
 rw[aiC,hcl] at hs;rw[<- hs];refine jx fun x hx=>?_;rw[KC dV oA,qj]
 have e2:pos (ar V) (aQ f v x) (ag L[v])=pos (ar V) f (ag L[v]):=vV _ fun z hz=>by
  rw[aQ,aD];intro e;exact hno (e▸hz)
 rw[e2,aQ,aA rfl,rV (by omega),rV (by omega)];simp only[eQ,zm,List.getElem_drop]
theorem Kq (P:List (List Nat)):∀k,∀u∈aR P k,∀z∈P.getD u [],z∈aR P k
 |0,u,hu=>by cases hu
 |k+1,u,hu=>by
  rw[aR] at hu⊢;cases e:po P (aR P k) with
  |none=>
   rw[e] at hu;exact Kq P k u hu
  |some v=>
   rw[e] at hu;intro z hz;refine cI.2 (.inl ?_);rcases cI.1 hu with h |h
   ·exact Kq P k u h z hz
   ·obtain rfl:=eD.1 h;have uz:gO P (aR P k) u=true:=List.find?_some e;rw[gO,iK] at uz;exact rk uz.2 z hz
theorem Wc (h0:bj V L R=0):∀k,(aR (aI L) k).length=k ->k<=L.length ->(aR (aI L) k).Nodup/\∀f,(∀u,f u<sz (ar V) u) ->dT (ar V) (aR (aI L) k) (fun g=>dJ V L R g (aR (aI L) k)) f=1
 |0,_,_=>⟨List.nodup_nil,fun _ _=>rfl⟩
 |k+1,hl,hk=>by
  have aZ:=iz h0;have Gz:=Dx (aI L) k;cases e:po (aI L) (aR (aI L) k) with
  |none=>
   rw[aR,e] at hl;exact absurd hl (by show (aR (aI L) k).length≠_;omega)
  |some v=>
   have e1:=Kp e;rw[e1] at hl⊢;rw[cK,Jr] at hl;obtain⟨hn,hs⟩:=Wc h0 k (by omega) (by omega);have uz:gO (aI L) (aR (aI L) k) v=true:=List.find?_some e;rw[gO,iK] at uz;(have wF:¬v∈aR (aI L) k:=by simpa using uz.1);(have ie:v<L.length:=by have:=cH.1 (Td e);rwa [jI] at this);refine⟨?_,fun f hf=>?_⟩
   ·rw[A4];refine⟨hn,by simp,fun a ha b hb=>?_⟩;rw[eD.1 hb];exact fun e=>wF (e▸ha)
   ·rw[Gb, <- hs f hf];refine Bq (fun g hg=>?_) _ f hf;rw[jx (h:=fun x=>dJ V L R g (aR (aI L) k)*a7 (eO V L R (aQ g v x) v))]
    ·rw[Bi,row_one h0 (by rw[<- aZ.len];exact ie) hg,tV]
    ·intro x _;rw[Du,dJ,dJ,tV,F4];intro u hu;refine⟨fun e=>wF (e▸hu),fun hp=>?_⟩
     exact wF (Kq (aI L) k u hu v (by
      have wu:=Bo (aI L) k u hu;rw[jI] at wu;rw[Ki wu];rw[bU,a8 wu] at hp;exact hp))
theorem Ot:∀(n:Nat) (l:List Nat),l.Nodup ->(∀x∈l,x<n) ->l.length<=n
 |0,l,_,h=>by
  cases l with
  |nil=>exact aq _
  |cons a l=>exact absurd (h a dB) (by omega)
 |n+1,l,hn,h=>by
  by_cases hm:n∈l
  ·have h1:=MQ hm
   have h2:=Ot n (l.erase n) (hn.erase n) (fun x hx=>by
    have h3:=h x (List.mem_of_mem_erase hx);(have hne:x≠n:=fun e=>by subst e;exact hn.not_mem_erase hx);omega)
   have h4:=List.length_pos_of_mem hm;omega
  ·have h2:=Ot n l hn (fun x hx=>by
    have h3:=h x hx;have hne:x≠n:=fun e=>hm (e▸hx);omega)
   omega
theorem Vp:∀(n:Nat) (l:List Nat),l.Nodup ->(∀x∈l,x<n) ->l.length=n ->l.Perm (List.range n)
 |0,l,_,_,h=>by
  have:=Db.1 h;subst this;exact List.Perm.refl _
 |n+1,l,hn,h,hl=>by
  have hm:n∈l:=A8 fun hm=>by
   have:=Ot n l hn (fun x hx=>by
    have h3:=h x hx;have hne:x≠n:=fun e=>hm (e▸hx);omega)
   omega
  have h1:=MQ hm
  have h2:=Vp n (l.erase n) (hn.erase n) (fun x hx=>by
   have h3:=h x (List.mem_of_mem_erase hx);(have hne:x≠n:=fun e=>by subst e;exact hn.not_mem_erase hx);omega) (by omega)
  rw[oY];exact(List.perm_cons_erase hm).trans ((h2.cons n).trans (List.perm_append_singleton n (List.range n)).symm)
theorem Oh (h:bj V L R=0):(aR (aI L) L.length).length=L.length:=by
 rw[bj] at h;by_cases h1:L.length=V.length/\R.length=V.length
 ·rw[aA h1] at h;by_cases h2:bQ L=0
  ·rw[bQ] at h2;by_cases h3:gB L=true
   ·rw[aA h3] at h2;by_cases h4:(aR (aI L) L.length).length<L.length
    ·rw[aA h4] at h2;cases h2
    ·have:=Dx (aI L) L.length;omega
   ·rw[aD h3] at h2;cases h2
  ·rw[aD h2] at h;exact absurd h h2
 ·rw[aD h1] at h;cases h
theorem aeW (k:Nat):over vs (fun _=>0) (aV S vs k)=aV S vs k:=by
 funext u
 rw[over];by_cases e:u∈vs
 ·rw[aA e]
 ·rw[aD e,Ev e]
theorem VL (g:Nat ->Rat):∀m,ja false g m=ba g (m+1)
 |0=>by show g 0=0+g 0;rw[Rat.zero_add]
 |m+1=>by
  rw[ja,VL g m];rfl
theorem agE {g:Nat ->Nat} (h:∀u,u=v∨u∈ag (L.getD v []) ->f u=g u):eO V L R f v=eO V L R g v:=by
 rw[eO,eO,qj,qj,vV (ar V) (f:=f) (g:=g) fun u hu=>h u (.inr hu),h v (.inl rfl)]
def vg (A:Nat ->Prop) (G:(Nat ->Nat) ->Rat):Prop:=∀v,¬A v ->∀g x,G (aQ g v x)=G g
def rj (L:List (List Int)) (A:Nat ->Prop):Prop:=∀v,A v ->∀u∈ag (L.getD v []),A u
theorem agB {A:Nat ->Prop} (hA:rj L A) (hv:A v):vg A (fun g=>a7 (eO V L R g v)):=fun u hu g x=>by
 show a7 (eO V L R (aQ g u x) v)=a7 (eO V L R g v);have h1:v≠u:=fun e=>hu (by rw[<- e];exact hv);rw[WW h1 (fun hm=>hu (hA v hv u hm))]
theorem ab0 (f:Nat ->Nat) (v x y:Nat):aQ (aQ f v x) v y=aQ f v y:=by
 funext u
 simp only[aQ];by_cases e:u=v
 ·rw[aA e,aA e]
 ·rw[aD e,aD e,aD e]
theorem vg.sum {A:Nat ->Prop} {G:(Nat ->Nat) ->Rat} (hG:vg A G) (v n:Nat):vg A (fun g=>ba (fun x=>G (aQ g v x)) n):=fun u hu g y=>by
 refine jx fun x _=>?_;by_cases e:u=v
 ·subst e;rw[ab0]
 ·rw[JK g y x (fun h=>e h.symm)];exact hG u hu _ _
theorem vg.mul {A:Nat ->Prop} {G H:(Nat ->Nat) ->Rat} (hG:vg A G) (hH:vg A H):vg A (fun g=>G g*H g):=fun u hu g x=>by
 show G (aQ g u x)*H (aQ g u x)=G g*H g;rw[hG u hu,hH u hu]
theorem Rx (h0:bj V L R=0) {b:Nat ->Bool} (hA:rj L fun v=>b v=true):∀k,(aR (aI L) k).length=k ->k<=L.length ->∀(G:(Nat ->Nat) ->Rat),vg (fun v=>b v=true) G ->∀f,(∀u,f u<sz (ar V) u) ->
  dT (ar V) (aR (aI L) k) (fun g=>G g*dJ V L R g (aR (aI L) k)) f=dT (ar V) ((aR (aI L) k).filter b) (fun g=>G g*dJ V L R g ((aR (aI L) k).filter b)) f
 |0,_,_,_,_,_,_=>rfl
 |k+1,hl,hk,G,hG,f,hf=>by
  have aZ:=iz h0;have Gz:=Dx (aI L) k;cases e:po (aI L) (aR (aI L) k) with
  |none=>
   rw[aR,e] at hl;exact absurd hl (by show (aR (aI L) k).length≠_;omega)
  |some v=>
   have e1:=Kp e;rw[e1] at hl⊢;rw[cK,Jr] at hl;have uz:gO (aI L) (aR (aI L) k) v=true:=List.find?_some e;rw[gO,iK] at uz;(have wF:¬v∈aR (aI L) k:=by simpa using uz.1);(have ie:v<L.length:=by have:=cH.1 (Td e);rwa [jI] at this)
   have pJ:∀u∈aR (aI L) k,u≠v/\¬v∈ag (L.getD u []):=fun u hu=>by
    refine⟨fun e=>wF (e▸hu),fun hp=>?_⟩
    exact wF (Kq (aI L) k u hu v (by
     have wu:=Bo (aI L) k u hu;rw[jI] at wu;rw[Ki wu];rw[bU,a8 wu] at hp;exact hp))
   rw[Gb,xI];by_cases hv:b v=true
   ·have ih:=Rx h0 hA k (by omega) (by omega) (fun g=>ba (fun x=>G (aQ g v x)*a7 (eO V L R (aQ g v x) v)) (sz (ar V) v)) ((hG.mul (agB hA hv)).sum v _) f hf;rw[show ([v].filter b)=[v] by simp[hv],Gb];rw[Bq (F:=fun g=>ba (fun x=>G (aQ g v x)*dJ V L R (aQ g v x) (aR (aI L) k++[v])) (sz (ar V) v)) (G:=fun g=>ba (fun x=>G (aQ g v x)*a7 (eO V L R (aQ g v x) v)) (sz (ar V) v)*dJ V L R g (aR (aI L) k)) ?_ _ f hf,ih]
    ·refine Bq ?_ _ f hf;intro g _;rw[Fg, <- Bi];refine jx fun x _=>?_;rw[Du,dJ,dJ,tV,F4 fun u hu=>pJ u (dE.1 hu).1];grind
    ·intro g _;rw[Fg, <- Bi];refine jx fun x _=>?_;rw[Du,dJ,dJ,tV,F4 pJ];grind
   ·have ih:=Rx h0 hA k (by omega) (by omega) G hG f hf;rw[show ([v].filter b)=[] by simp[hv],xJ, <- ih];refine Bq ?_ _ f hf;intro g hg;rw[jx (h:=fun x=>(G g*dJ V L R g (aR (aI L) k))*a7 (eO V L R (aQ g v x) v))]
    ·rw[Bi,row_one h0 (by rw[<- aZ.len];exact ie) hg,tV]
    ·intro x _;rw[Du,dJ,dJ,tV,F4 pJ,hG v hv];grind
def Fit (S:List Nat) (f:Nat ->Nat):Prop:=∀u,f u<sz S u
theorem Fit.with (h:Fit S f) {x:Nat} (hx:x<sz S v):Fit S (aQ f v x):=fun u=>by
 rw[aQ];by_cases e:u=v
 ·rw[aA e,e];exact hx
 ·rw[aD e];exact h u
def tQ (S:List Nat) (t:List Nat×List Fr) (f:Nat ->Nat):Rat:=a7 (bT t.2 (pos S f t.1))
theorem acA {t:List Nat×List Fr} {x:Nat} (h:¬v∈t.1):tQ S t (aQ f v x)=tQ S t f:=by
 rw[tQ,tQ,vV S (f:=aQ f v x) (g:=f)];intro u hu;rw[aQ,aD];intro e;exact h (e▸hu)
theorem acz {va vb U:List Nat} (hp:Pos S) (hr:U.Nodup) (sW:∀u∈va,u∈U) (oz:∀u∈vb,u∈U) (la lb:List Fr) (hf:Fit S f):tQ S (U,sN S va vb U la lb) f=tQ S (va,la) f*tQ S (vb,lb) f:=aeb hp hr sW oz la lb hf
theorem T1 {vars rest:List Nat} (hp:Pos S) (hr:rest.Nodup) (hv:∀u∈vars,u=v∨u∈rest) (l:List Fr) (hf:Fit S f):tQ S (rest,ow S vars rest v false l) f=ba (fun x=>tQ S (vars,l) (aQ f v x)) (sz S v):=by
 have h:=VJ hp hr hv false l hf;rw[VL,show sz S v - 1+1=sz S v by have:=kF hp v;omega] at h;exact h
theorem T2 {vars rest:List Nat} (hp:Pos S) (hr:rest.Nodup) (hv:∀u∈vars,u=v∨u∈rest) (l:List Fr) (hf:Fit S f):tQ S (rest,ow S vars rest v true l) f=ja true (fun x=>tQ S (vars,l) (aQ f v x)) (sz S v - 1):=VJ hp hr hv true l hf
theorem Ni {vars rest:List Nat} (hp:Pos S) (hr:rest.Nodup) {x:Nat} (hv:∀u∈vars,u=v∨u∈rest) (l:List Fr) (hf:Fit S f):tQ S (rest,uO S vars rest v x l) f=tQ S (vars,l) (aQ f v x):=by
 rw[tQ,tQ,uO,LM _ (o7 f hf rest),mi];rw[vV S (f:=aQ (aV S rest (pos S f rest)) v x) (g:=aQ f v x)];intro u hu;simp only[aQ];by_cases e:u=v
 ·rw[aA e,aA e]
 ·rw[aD e,aD e];exact Aq hp hf hr u ((hv u hu).resolve_left e)
theorem Nh (h0:bj V L R=0) (hv:v<V.length) (hf:Fit (ar V) f):tQ (ar V) (ag (gU L v),gL V L R v) f=a7 (eO V L R f v):=by
 have aZ:=iz h0;have dV:v<L.length:=by rw[aZ.len];exact hv
 have dt:Pos (ar V):=by have:=aZ.fine.pos;rwa [fF] at this
 have H6:L.getD v []=L[v]:=by rw[bU,a8 dV];rfl
 have aT:Up (gU L v) V.length:=by rw[gU,H6];exact Dj (aZ.up v dV) (M9 hv)
 have hmem:∀u,u=v∨u∈ag (L.getD v []) ->u∈ag (gU L v):=fun u hu=>by
  obtain⟨_,h2⟩:=FP (L.getD v []) [(v:Int)];rcases hu with rfl |hu
  ·exact aW.2 ⟨(u:Int),(h2 _).2 (.inr (eD.2 rfl)),mE u⟩
  ·obtain⟨z,hz,rfl⟩:=aW.1 hu;exact aW.2 ⟨z,(h2 _).2 (.inl hz),rfl⟩
 rw[tQ,gL,LM _ (o7 f hf _),mi];congr 1
 exact agE fun u hu=>Aq dt hf aT.nodup u (hmem u hu)
def pQ (S:List Nat) (f:Nat ->Nat):List (List Nat×List Fr) ->Rat
 |[]=>1
 |t::P=>tQ S t f*pQ S f P
theorem N7 (S:List Nat) (f:Nat ->Nat) (Q:List (List Nat×List Fr)):∀P,pQ S f (P++Q)=pQ S f P*pQ S f Q
 |[]=>by rw[gY,pQ,vH]
 |t::P=>by rw[eE,pQ,pQ,N7 S f Q P,tW]
theorem N6 {x:Nat}:∀ {P:List (List Nat×List Fr)},(∀t∈P,¬v∈t.1) ->pQ S (aQ f v x) P=pQ S f P
 |[],_=>rfl
 |t::P,h=>by rw[pQ,pQ,acA (h t dB),N6 fun s hs=>h s (dF _ hs)]
theorem N5 (S:List Nat) (f:Nat ->Nat) (p:List Nat×List Fr ->Bool):∀P:List (List Nat×List Fr),pQ S f P=pQ S f (P.filter fun t=>!p t)*pQ S f (P.filter p)
 |[]=>by simp[pQ]
 |t::P=>by
  rw[pQ,N5 S f p P];cases h:p t
  ·rw[zq (by simp[h]),zr (by simp[h]),pQ,tW]
  ·rw[zr (by simp[h]),zq h,pQ, <- tW, <- tW,Fg (tQ S t f)]
theorem aeR {P:List (List Nat×List Fr)} {q r:List Nat×List Fr} (hq:∀g,Fit S g ->tQ S q g=pQ S g (P.filter fun t=>decide (v∈t.1))) (hr:∀g,Fit S g ->tQ S r g=ba (fun x=>tQ S q (aQ g v x)) (sz S v)) (hf:Fit S f):
  pQ S f ((P.filter fun t=>!decide (v∈t.1))++[r])=ba (fun x=>pQ S (aQ f v x) P) (sz S v):=by
 rw[N7,pQ,pQ,tV,hr f hf, <- Bi];refine jx fun x hx=>?_;have pJ:=N6 (S:=S) (f:=f) (v:=v) (x:=x) (P:=P.filter fun t=>!decide (v∈t.1)) (fun t ht=>by simpa using (dE.1 ht).2);rw[N5 S (aQ f v x) (fun t=>decide (v∈t.1)) P,hq _ (hf.with hx),pJ]
variable {ws:List Nat}
def Ep (S:List Nat):List Nat ->((Nat ->Nat) ->Rat) ->(Nat ->Nat) ->Rat
 |[],F=>F
 |v::vs,F=>Ep S vs fun f=>ba (fun x=>F (aQ f v x)) (sz S v)
theorem aal (S:List Nat):∀(vs:List Nat) (F:(Nat ->Nat) ->Rat) (f:Nat ->Nat),Ep S vs F f=dT S vs.reverse F f
 |[],F,f=>rfl
 |v::vs,F,f=>by rw[Ep,aal S vs,List.reverse_cons,Gb]
theorem ajb (h:vs.Perm ws) (hn:vs.Nodup) (F:(Nat ->Nat) ->Rat) (f:Nat ->Nat):Ep S vs F f=dT S ws F f:=by
 rw[aal];exact Gc F ((List.reverse_perm vs).trans h) ((List.reverse_perm vs).nodup_iff.2 hn) f
def x5 (v x:Nat) (g:Nat ->Nat):Rat:=if g v=x then 1 else 0
theorem Wd {x y:Nat} (F:(Nat ->Nat) ->Rat):∀(vs:List Nat) (f:Nat ->Nat),¬v∈vs ->f v=y ->dT S vs (fun g=>x5 v x g*F g) f=(if y=x then 1 else 0)*dT S vs F f
 |[],f,_,hf=>by
  show x5 v x f*F f=_;rw[x5,hf];rfl
 |u::vs,f,hv,hf=>by
  rw[dT,dT, <- Bi];refine jx fun z _=>?_;refine Wd F vs _ (fun h=>hv (dF _ h)) ?_;rw[aQ,aD (fun e=>hv (by rw[e];exact dB)),hf]
theorem Om {x:Nat} (F:(Nat ->Nat) ->Rat):∀(vs:List Nat) (f:Nat ->Nat),¬v∈vs ->dT S vs F (aQ f v x)=dT S vs (fun g=>F (aQ g v x)) f
 |[],f,_=>rfl
 |u::vs,f,hv=>by
  rw[dT,dT];refine jx fun z _=>?_;have hne:v≠u:=fun e=>hv (by rw[e];exact dB);rw[JK f x z (fun e=>hne e.symm),Om F vs _ fun h=>hv (dF _ h)]
theorem Np {g:Nat ->Rat} {x:Nat}:∀ {n:Nat},x< n ->ba (fun y=>(if y=x then 1 else 0)*g y) n=g x
 |0,h=>by omega
 |n+1,h=>by
  rw[ba];rcases cT x n with h1 |h1
  ·rw[Np h1,aD (by omega),Rat.zero_mul,Rat.add_zero]
  ·obtain rfl:x=n:=by omega
   rw[aA rfl,vH,jx (h:=fun _=>0) fun y hy=>by rw[aD (by omega),Rat.zero_mul],JS,Rat.zero_add]
theorem afq {x:Nat} (F:(Nat ->Nat) ->Rat) (h:vs.Perm (v::ws)) (hn:vs.Nodup) (hx:x<sz S v) (f:Nat ->Nat):dT S vs (fun g=>x5 v x g*F g) f=dT S ws (fun g=>F (aQ g v x)) f:=by
 have gM:=h.nodup_iff.1 hn;rw[mU] at gM;rw[Gc _ h hn f,dT, <- Om F ws f gM.1];rw[jx (h:=fun y=>(if y=x then 1 else 0)*dT S ws F (aQ f v y)) fun y _=>Wd F ws _ gM.1 (by rw[aQ,aA rfl])];exact Np hx
def gQ:List (Nat×Nat) ->(Nat ->Nat) ->Rat
 |[],_=>1
 |p::l,g=>x5 p.1 p.2 g*gQ l g
def eG:List (Nat×Nat) ->(Nat ->Nat) ->Nat ->Nat
 |[],g=>g
 |p::l,g=>eG l (aQ g p.1 p.2)
theorem Ru {x:Nat}:∀ {l:List (Nat×Nat)},(∀p∈l,p.1≠v) ->∀g,gQ l (aQ g v x)=gQ l g
 |[],_,_=>rfl
 |p::l,h,g=>by
  rw[gQ,gQ,Ru (fun q hq=>h q (dF _ hq)),x5,x5,aQ,aD (h p dB)]
theorem NW {x:Nat}:∀ {l:List (Nat×Nat)},(∀p∈l,p.1≠v) ->∀g,eG l (aQ g v x)=aQ (eG l g) v x
 |[],_,_=>rfl
 |p::l,h,g=>by
  rw[eG,eG,JK g x p.2 (h p dB),NW fun q hq=>h q (dF _ hq)]
theorem We:∀(l:List (Nat×Nat)) (F:(Nat ->Nat) ->Rat) {vs ws:List Nat},vs.Perm (l.map (·.1)++ws) ->vs.Nodup ->(∀p∈l,p.2<sz S p.1) ->∀f,dT S vs (fun g=>gQ l g*F g) f=dT S ws (fun g=>F (eG l g)) f
 |[],F,vs,ws,h,hn,_,f=>by
  rw[Gc _ h hn f];show dT S ws (fun g=>1*F g) f=_;simp only[vH,eG]
 |p::l,F,vs,ws,h,hn,hx,f=>by
  have gM:=h.nodup_iff.1 hn;rw[fQ,eE] at gM h;rw[mU] at gM;have pJ:∀q∈l,q.1≠p.1:=fun q hq e=>gM.1 (cI.2 (.inl (by rw[<- e];exact aW.2 ⟨q,hq,rfl⟩)))
  have e1:(fun g=>gQ (p::l) g*F g)=fun g=>x5 p.1 p.2 g*(gQ l g*F g):=by
   funext g
   rw[gQ,tW]
  rw[e1,afq (fun g=>gQ l g*F g) h hn (hx p dB) f]
  have e2:(fun g=>gQ l (aQ g p.1 p.2)*F (aQ g p.1 p.2))=fun g=>gQ l g*F (aQ g p.1 p.2):=by
   funext g
   rw[Ru pJ]
  rw[e2,We l (fun g=>F (aQ g p.1 p.2)) (List.Perm.refl _) gM.2 (fun q hq=>hx q (dF _ hq)) f];congr 1
  funext g
  rw[show eG (p::l) g=eG l (aQ g p.1 p.2) from rfl];congr 1
  exact(NW pJ g).symm
theorem VY (p q:Rat):p<=Bp true p q/\q<=Bp true p q:=by
 simp only[Bp,if_true];by_cases h:p<q
 ·rw[aA h];exact⟨Rat.le_of_lt h,C7⟩
 ·rw[aD h];exact⟨C7,Rat.not_lt.1 h⟩
theorem Oa (g:Nat ->Rat):∀ {k x:Nat},x<=k ->g x<=ja true g k
 |0,x,h=>by rw[Nat.le_zero.1 h];exact C7
 |k+1,x,h=>by
  rw[ja];rcases cT k x with hx |hx
  ·rw[show x=k+1 from by omega];exact(VY _ _).2
  ·exact Fh (Oa g hx) (VY _ _).1
theorem F9 (g:Nat ->Rat):∀k,∃x,x<=k/\ja true g k=g x
 |0=>⟨0,aq _,rfl⟩
 |k+1=>by
  obtain⟨x,hx,e⟩:=F9 g k;rw[ja];simp only[Bp,if_true];by_cases h:ja true g k<g (k+1)
  ·rw[aA h];exact⟨k+1,aq _,rfl⟩
  ·rw[aD h];exact⟨x,by omega,e⟩
theorem ae1 {A:Rat} (hA:0<=A) (g:Nat ->Rat) (k:Nat):ja true (fun x=>A*g x) k=A*ja true g k:=by
 refine Rat.le_antisymm ?_ ?_
 ·obtain⟨x,hx,e⟩:=F9 (fun x=>A*g x) k;rw[e];exact S8 (Oa g hx) hA
 ·obtain⟨x,hx,e⟩:=F9 g k;rw[e];exact Oa (fun x=>A*g x) hx
theorem ab1 (f:Nat ->Nat) (v:Nat):aQ f v (f v)=f:=by
 funext u;rw[aQ];by_cases h:u=v
 ·rw[aA h,h]
 ·rw[aD h]
theorem ab4 (f:Nat ->Nat) (v x:Nat):aQ f v x v=x:=by rw[aQ,aA rfl]
theorem ab2 (f:Nat ->Nat) (x:Nat) (h:u≠v):aQ f v x u=f u:=by rw[aQ,aD h]
def elimM (S:List Nat):List Nat ->((Nat ->Nat) ->Rat) ->(Nat ->Nat) ->Rat
 |[],F=>F
 |v::vs,F=>elimM S vs fun f=>ja true (fun x=>F (aQ f v x)) (sz S v - 1)
theorem aeS {P:List (List Nat×List Fr)} {q r:List Nat×List Fr} (hp:Pos S) (hq:∀g,Fit S g ->tQ S q g=pQ S g (P.filter fun t=>decide (v∈t.1))) (hr:∀g,Fit S g ->tQ S r g=ja true (fun x=>tQ S q (aQ g v x)) (sz S v - 1)) (hn:∀g,Fit S g ->∀t∈P,0<=tQ S t g) (hf:Fit S f):
  pQ S f ((P.filter fun t=>!decide (v∈t.1))++[r])=ja true (fun x=>pQ S (aQ f v x) P) (sz S v - 1):=by
 have hsz:=kF hp v
 have uu:∀Q:List (List Nat×List Fr),(∀t∈Q,t∈P) ->0<=pQ S f Q:=fun Q=>by
  induction Q with
  |nil=>intro _;rw[pQ];decide
  |cons t Q ih=>intro h;rw[pQ];exact Ff (hn f hf t (h t dB)) (ih fun s hs=>h s (dF _ hs))
 rw[N7,pQ,pQ,tV,hr f hf, <- ae1 (uu _ fun t ht=>(dE.1 ht).1)];refine Ko true fun x hx=>?_;have pJ:=N6 (S:=S) (f:=f) (v:=v) (x:=x) (P:=P.filter fun t=>!decide (v∈t.1)) (fun t ht=>by simpa using (dE.1 ht).2);rw[N5 S (aQ f v x) (fun t=>decide (v∈t.1)) P,hq _ (hf.with (by omega)),pJ]
theorem ae2 {g:Nat ->Rat} (h:∀x,x<=k ->0<=g x):0<=ja true g k:=by
 obtain⟨x,hx,e⟩:=F9 g k;rw[e];exact h x hx
theorem N1 (hp:Pos S):∀ {vs:List Nat} {k:Nat},vs.Nodup ->k<cnt S vs ->pos S (aV S vs k) vs=k
 |[],k,_,h=>by
  have:k<1:=h;rw[show k=0 from by omega];rfl
 |u::vs,k,hn,h=>by
  rw[mU] at hn;have hc:0<cnt S vs:=MK (aU _) (o7 (S:=S) (fun _=>0) (fun u=>kF hp u) vs)
  have e:pos S (aV S (u::vs) k) vs=pos S (aV S vs (k % cnt S vs)) vs:=vV S fun v hv=>by
   rw[aV,aD];exact fun e=>hn.1 (e▸hv)
  rw[Vk,e,N1 hp hn.2 (gh _ hc),aV,aA rfl,cV];exact Nat.div_add_mod _ _
theorem KB (h0:bj V L R=0) (hv:v<V.length) (hf:Fit (ar V) f):0<=a7 (eO V L R f v):=by
 have aZ:=iz h0;have dV:v<L.length:=by rw[aZ.len];exact hv
 have oA:v<R.length:=by rw[aZ.lenR];exact hv
 have hlen:=aZ.rows v dV oA;have hp:=o7 f hf (ag L[v])
 have hrow:jH (eQ R[v] (sz (ar V) v) (pos (ar V) f (ag L[v])))=true:=by
  have h1:iD (kJ (ar V) L R) V.length=0:=by
   rw[bj] at h0;by_cases h1:L.length=V.length/\R.length=V.length
   ·rw[aA h1] at h0;by_cases h2:bQ L=0
    ·rw[aA h2] at h0;by_cases h3:lY V=0
     ·rwa [aA h3] at h0
     ·rw[aD h3] at h0;exact absurd h0 h3
    ·rw[aD h2] at h0;exact absurd h0 h2
   ·rw[aD h1] at h0;exact absurd h0 (by decide)
  have h2:=Hx h1 v hv;rw[kJ,bU,a8 oA,bU,a8 dV] at h2;simp only[xE] at h2;rw[aA hlen] at h2;by_cases h3:((List.range (cnt (ar V) (ag L[v]))).all fun i=>jH (eQ R[v] (sz (ar V) v) i))=true
  ·rw[fE] at h3;exact h3 _ (cH.2 hp)
  ·rw[aD h3] at h2;exact absurd h2 (by decide)
 rw[jH,iK,fE] at hrow;have hmul:(pos (ar V) f (ag L[v])+1)*sz (ar V) v<=R[v].length:=by rw[hlen];exact jl _ hp
 have e1:(pos (ar V) f (ag L[v])+1)*sz (ar V) v=pos (ar V) f (ag L[v])*sz (ar V) v+sz (ar V) v:=by rw[eL,jF]
 have hcl:(eQ R[v] (sz (ar V) v) (pos (ar V) f (ag L[v]))).length=sz (ar V) v:=by
  rw[eQ,dP,lU];omega
 have YB:=hf v;have hm:=hrow.1 _ (bM (l:=eQ R[v] (sz (ar V) v) (pos (ar V) f (ag L[v]))) (n:=f v) (by omega));rw[KC dV oA,qj,rV (by omega)];have:=Rat.not_lt.1 (rk hm);simpa only[eQ,zm,List.getElem_drop] using this
theorem OM (h0:bj V L R=0) (hf:Fit (ar V) f):∀ {n:Nat},n<=V.length ->0<=qh V L R f n
 |0,_=>by rw[qh];decide
 |n+1,h=>by rw[qh];exact Ff (OM h0 hf (by omega)) (KB h0 (by omega) hf)
theorem aie (h0:bj V L R=0) (hv:v<V.length) (hf:Fit (ar V) f):0<=tQ (ar V) (ag (gU L v),gL V L R v) f:=by
 rw[Nh h0 hv hf];exact KB h0 hv hf
def Ce (l:List (Nat×Nat)) (g:Nat ->Nat):Bool:=l.all fun p=>g p.1==p.2
theorem K6:∀(l:List (Nat×Nat)) (g:Nat ->Nat),gQ l g=if Ce l g then 1 else 0
 |[],_=>rfl
 |p::l,g=>by
  rw[gQ,K6 l g,x5,Ce,Ce,List.all_cons];by_cases h:g p.1=p.2
  ·rw[aA h,vH,p8.2 h,Df]
  ·rw[aD h,Rat.zero_mul,C6.2 h,Bool.false_and];rfl
theorem J8:∀ {l:List (Nat×Nat)},¬u∈l.map (·.1) ->∀g,eG l g u=g u
 |[],_,_=>rfl
 |p::l,h,g=>by
  rw[fQ,dG,not_or] at h;rw[eG,J8 h.2,ab2 g _ h.1]
theorem J9 {p:Nat×Nat}:∀ {l:List (Nat×Nat)},(l.map (·.1)).Nodup ->p∈l ->∀g,eG l g p.1=p.2
 |q::l,hn,h,g=>by
  rw[fQ,mU] at hn;rcases dG.1 h with rfl |h
  ·rw[eG,J8 hn.1,ab4]
  ·exact J9 hn.2 h _
theorem akr {A:Nat ->Prop}:∀ {l:List (Nat×Nat)},(∀p∈l,A p.1) ->vg A (gQ l)
 |[],_=>fun _ _ _ _=>rfl
 |p::l,h=>fun v hv g x=>by
  have hne:∀q∈p::l,q.1≠v:=fun q hq e=>hv (e▸h q hq);exact Ru hne g
theorem aku (h0:bj V L R=0) {As:List Nat} (hn:As.Nodup) (hlt:∀v∈As,v<V.length) (hc:rj L (·∈As)) {G:(Nat ->Nat) ->Rat} (hG:vg (·∈As) G):
  ba (fun k=>G (aV (ar V) (List.range V.length) k)*qh V L R (aV (ar V) (List.range V.length) k) V.length) (cnt (ar V) (List.range V.length))=dT (ar V) As (fun g=>G g*dJ V L R g As) (fun _=>0):=by
 have aZ:=iz h0;have dt:Pos (ar V):=by have:=aZ.fine.pos;rwa [fF] at this
 obtain⟨KU,_⟩:=Wc h0 L.length (Oh h0) (aq _)
 have hp:(aR (aI L) L.length).Perm (List.range V.length):=by
  rw[<- aZ.len];refine Vp L.length _ KU (fun x hx=>?_) (Oh h0);have:=Bo (aI L) L.length x hx;rwa [jI] at this
 have hz:Fit (ar V) (fun _:Nat=>0):=fun u=>kF dt u;have e:=Wh (S:=ar V) (fun g=>G g*qh V L R g V.length) (List.range V.length) (fun _=>0) Da;rw[jx (h:=fun k=>G (aV (ar V) (List.range V.length) k)*qh V L R (aV (ar V) (List.range V.length) k) V.length) fun k _=>by rw[aeW]] at e
 have hf:((aR (aI L) L.length).filter fun v=>decide (v∈As)).Perm As:=by
  refine(Jo (KU.filter _) hn).2 fun v=>?_;rw[dE,eh];refine⟨fun h=>h.2,fun h=>⟨hp.mem_iff.2 (cH.2 (hlt v h)),h⟩⟩
 rw[e, <- Gc _ hp KU,Bq (G:=fun g=>G g*dJ V L R g (aR (aI L) L.length)) (fun g _=>by rw[NY,Vh hp]) _ _ hz,Rx (b:=fun v=>decide (v∈As)) h0 (fun v hv u hu=>cS (hc v (rk hv) u hu)) L.length (Oh h0) (aq _) G (fun v hv g x=>hG v (fun h=>hv (cS h)) g x) _ hz,Gc _ hf (KU.filter _)];refine Bq (fun g _=>?_) _ _ hz;rw[Vh hf]
theorem aee (h0:bj V L R=0) {As:List Nat} {l:List (Nat×Nat)} (hn:As.Nodup) (hlt:∀v∈As,v<V.length) (hc:rj L (·∈As)) (hl:As.Perm (l.map (·.1)++ws)) (hx:∀p∈l,p.2<sz (ar V) p.1):
  ba (fun k=>gQ l (aV (ar V) (List.range V.length) k)*qh V L R (aV (ar V) (List.range V.length) k) V.length) (cnt (ar V) (List.range V.length))=dT (ar V) ws (fun g=>dJ V L R (eG l g) As) (fun _=>0):=by
 rw[aku h0 hn hlt hc (akr fun p hp=>hl.mem_iff.2 (cI.2 (.inl (aW.2 ⟨p,hp,rfl⟩))))];exact We l (fun g=>dJ V L R g As) hl hn hx _
variable {free:List Nat}
abbrev Tb:=List Int×List Fr
def tN (t:Tb):List Nat×List Fr:=(ag t.1,t.2)
structure df (S:List Nat) (n:Nat) (t:Tb):Prop where
 up:Up t.1 n
 len:t.2.length=cnt S (ag t.1)
def wh (S:List Nat) (a t:Tb):Tb:=(jw a.1 t.1,sN S (ag a.1) (ag t.1) (ag (jw a.1 t.1)) a.2 t.2)
def zE:Tb:=([],[qF 1])
def allT (S:List Nat) (P:List Tb):Tb:=P.foldl (wh S) zE
def outT (S:List Nat) (v:Nat) (most:Bool) (t:Tb):Tb:=(bJ t.1 v,ow S (ag t.1) (ag (bJ t.1 (v:Int))) v most t.2)
def jS (S:List Nat) (v x:Nat) (t:Tb):Tb:=(bJ t.1 v,uO S (ag t.1) (ag (bJ t.1 (v:Int))) v x t.2)
theorem JN {a b:List Int}:∀u,u∈ag (jw a b)↔u∈ag a∨u∈ag b:=fun u=>by
 obtain⟨_,h⟩:=FP a b;simp only[ag,aW];constructor
 ·rintro⟨x,hx,e⟩;rcases (h x).1 hx with h |h
  ·exact .inl ⟨x,h,e⟩
  ·exact .inr ⟨x,h,e⟩
 ·rintro(⟨x,hx,e⟩ |⟨x,hx,e⟩)
  ·exact⟨x,(h x).2 (.inl hx),e⟩
  ·exact⟨x,(h x).2 (.inr hx),e⟩
theorem OG {a:List Int} (h:Up a n):∀u,u∈ag (bJ a (v:Int))↔u∈ag a/\u≠v:=fun u=>by
 constructor
 ·intro hu;refine⟨?_,fun e=>KE h (e▸hu)⟩;obtain⟨x,hx,e⟩:=aW.1 hu;exact aW.2 ⟨x,(dE.1 hx).1,e⟩
 ·rintro⟨hu,hne⟩;rcases zJ h v u hu with rfl |h
  ·exact absurd rfl hne
  ·exact h
theorem df.mul {a t:Tb} (ha:df S n a) (ht:df S n t):df S n (wh S a t):=⟨Dj ha.up ht.up,Vi ..⟩
theorem df.one (S:List Nat) (n:Nat):df S n zE:=⟨gj.2 ⟨fun _ h=>absurd h kC,List.Pairwise.nil⟩,rfl⟩
theorem df.o {t:Tb} (ht:df S n t) (v:Nat) (most:Bool):df S n (outT S v most t):=⟨rG ht.up _,Oc ..⟩
theorem df.fix {t:Tb} (ht:df S n t) (v x:Nat):df S n (jS S v x t):=⟨rG ht.up _,Z5 ..⟩
theorem afW {a t:Tb} (hp:Pos S) (ha:df S n a) (ht:df S n t) (hf:Fit S f):tQ S (tN (wh S a t)) f=tQ S (tN a) f*tQ S (tN t) f:=
 acz hp (Dj ha.up ht.up).nodup (fun u h=>(JN u).2 (.inl h)) (fun u h=>(JN u).2 (.inr h)) _ _ hf
theorem Z2 (hp:Pos S):∀ {P:List Tb} {a:Tb},df S n a ->(∀t∈P,df S n t) ->df S n (P.foldl (wh S) a)/\(∀u,u∈ag (P.foldl (wh S) a).1↔u∈ag a.1∨∃t∈P,u∈ag t.1)/\∀f,Fit S f ->tQ S (tN (P.foldl (wh S) a)) f=tQ S (tN a) f*pQ S f (P.map tN)
 |[],a,ha,_=>⟨ha,fun u=>⟨.inl,fun h=>h.elim id fun ⟨_,ht,_⟩=>absurd ht kC⟩,fun f _=>by rw[k7,pQ,tV];rfl⟩
 |t::P,a,ha,h=>by
  have ht:=h t dB;obtain⟨h1,h2,h3⟩:=Z2 hp (ha.mul ht) (fun s hs=>h s (dF _ hs)) (P:=P);refine⟨h1,fun u=>?_,fun f hf=>?_⟩
  ·rw[zo,h2 u];show u∈ag (jw a.1 t.1)∨_↔_;rw[JN,or_assoc];refine or_congr Iff.rfl ⟨?_,?_⟩
   ·rintro(h |⟨s,hs,h⟩)
    ·exact⟨t,dB,h⟩
    ·exact⟨s,dF _ hs,h⟩
   ·rintro⟨s,hs,hu⟩;rcases dG.1 hs with rfl |hs
    ·exact .inl hu
    ·exact .inr ⟨s,hs,hu⟩
  ·rw[zo,h3 f hf,afW hp ha ht hf,fQ,pQ,tW]
theorem wQ (hp:Pos S) {P:List Tb} (h:∀t∈P,df S n t):df S n (allT S P)/\(∀u,u∈ag (allT S P).1↔∃t∈P,u∈ag t.1)/\∀f,Fit S f ->tQ S (tN (allT S P)) f=pQ S f (P.map tN):=by
 obtain⟨h1,h2,h3⟩:=Z2 hp (df.one S n) h;refine⟨h1,fun u=>(h2 u).trans ⟨fun h=>h.elim (fun h=>absurd h kC) id,.inr⟩,fun f hf=>?_⟩;rw[allT,h3 f hf];have:tQ S (tN zE) f=1:=mi 1;rw[this,vH]
def j6 (S:List Nat) (v:Nat) (most:Bool) (P:List Tb):List Tb:=(P.filter fun t=>!decide (v∈ag t.1))++[outT S v most (allT S (P.filter fun t=>decide (v∈ag t.1)))]
structure PI (S:List Nat) (n:Nat) (free:List Nat) (P:List Tb) (F:(Nat ->Nat) ->Rat):Prop where
 ok:∀t∈P,df S n t
 sub:∀t∈P,∀u∈ag t.1,u∈free
 sup:∀u∈free,∃t∈P,u∈ag t.1
 val:∀g,Fit S g ->pQ S g (P.map tN)=F g
def NN (S:List Nat) (P:List Tb):Prop:=∀t∈P,∀g,Fit S g ->0<=tQ S (tN t) g
theorem VB {g:Nat ->Nat} (hg:Fit S g):∀ {P:List Tb},NN S P ->0<=pQ S g (P.map tN)
 |[],_=>by rw[k7,pQ];decide
 |t::P,h=>by rw[fQ,pQ];exact Ff (h t dB g hg) (VB hg fun s hs=>h s (dF _ hs))
theorem PI.parts {P:List Tb} {F:(Nat ->Nat) ->Rat} (hp:Pos S) (h:PI S n free P F) (v:Nat) (most:Bool):
  (∀t∈j6 S v most P,df S n t)/\(∀t∈j6 S v most P,∀u∈ag t.1,u∈free.filter fun u=>!(u==v))/\∀u∈free.filter (fun u=>!(u==v)),∃t∈j6 S v most P,u∈ag t.1:=by
 obtain⟨h1,h2,_⟩:=wQ hp (P:=P.filter fun t=>decide (v∈ag t.1)) (n:=n) fun t ht=>h.ok t (dE.1 ht).1;have hf:∀u,u∈free.filter (fun u=>!(u==v))↔u∈free/\u≠v:=fun u=>by simp[dE]
 have hr:=OG (v:=v) h1.up;refine⟨fun t ht=>?_,fun t ht u hu=>?_,fun u hu=>?_⟩
 ·rcases cI.1 ht with ht |ht
  ·exact h.ok t (dE.1 ht).1
  ·rw[eD.1 ht];exact h1.o v most
 ·rw[hf];rcases cI.1 ht with ht |ht
  ·obtain⟨ht,hv⟩:=dE.1 ht;exact⟨h.sub t ht u hu,fun e=>by simp[<- e,hu] at hv⟩
  ·rw[eD.1 ht] at hu;obtain⟨hu,hne⟩:=(hr u).1 hu;obtain⟨s,hs,hu⟩:=(h2 u).1 hu;exact⟨h.sub s (dE.1 hs).1 u hu,hne⟩
 ·obtain⟨hu,hne⟩:=(hf u).1 hu;obtain⟨t,ht,mg⟩:=h.sup u hu;by_cases hv:v∈ag t.1
  ·exact⟨_,cI.2 (.inr (eD.2 rfl)),(hr u).2 ⟨(h2 u).2 ⟨t,dE.2 ⟨ht,cS hv⟩,mg⟩,hne⟩⟩
  ·exact⟨t,cI.2 (.inl (dE.2 ⟨ht,by simp[hv]⟩)),mg⟩
theorem PI.o {P:List Tb} {F:(Nat ->Nat) ->Rat} (hp:Pos S) (h:PI S n free P F) (v:Nat):
  PI S n (free.filter fun u=>!(u==v)) (j6 S v false P) (fun g=>ba (fun x=>F (aQ g v x)) (sz S v)):=by
 obtain⟨a,b,c⟩:=h.parts hp v false;obtain⟨h1,h2,h3⟩:=wQ hp (P:=P.filter fun t=>decide (v∈ag t.1)) (n:=n) fun t ht=>h.ok t (dE.1 ht).1;refine⟨a,b,c,fun g hg=>?_⟩;have e1:(P.map tN).filter (fun t=>!decide (v∈t.1))=(P.filter fun t=>!decide (v∈ag t.1)).map tN:=by rw[Jv];rfl
 have e2:(P.map tN).filter (fun t=>decide (v∈t.1))=(P.filter fun t=>decide (v∈ag t.1)).map tN:=by rw[Jv];rfl
 have key:=aeR (S:=S) (f:=g) (v:=v) (P:=P.map tN) (q:=tN (allT S (P.filter fun t=>decide (v∈ag t.1)))) (r:=tN (outT S v false (allT S (P.filter fun t=>decide (v∈ag t.1))))) (fun k hk=>by rw[e2];exact h3 k hk) (fun k hk=>T1 hp (rG h1.up _).nodup (zJ h1.up v) _ hk) hg;rw[e1] at key;rw[j6,dL,List.map_singleton,key];exact jx fun x hx=>h.val _ (hg.with hx)
theorem PI.most {P:List Tb} {F:(Nat ->Nat) ->Rat} (hp:Pos S) (h:PI S n free P F) (hn:NN S P) (v:Nat):
  PI S n (free.filter fun u=>!(u==v)) (j6 S v true P) (fun g=>ja true (fun x=>F (aQ g v x)) (sz S v - 1))/\NN S (j6 S v true P):=by
 obtain⟨a,b,c⟩:=h.parts hp v true;obtain⟨h1,h2,h3⟩:=wQ hp (P:=P.filter fun t=>decide (v∈ag t.1)) (n:=n) fun t ht=>h.ok t (dE.1 ht).1;have hsz:=kF hp v;have e1:(P.map tN).filter (fun t=>!decide (v∈t.1))=(P.filter fun t=>!decide (v∈ag t.1)).map tN:=by rw[Jv];rfl
 have e2:(P.map tN).filter (fun t=>decide (v∈t.1))=(P.filter fun t=>decide (v∈ag t.1)).map tN:=by rw[Jv];rfl
 have er:∀k,Fit S k ->tQ S (tN (outT S v true (allT S (P.filter fun t=>decide (v∈ag t.1))))) k=ja true (fun x=>tQ S (tN (allT S (P.filter fun t=>decide (v∈ag t.1)))) (aQ k v x)) (sz S v - 1):=fun k hk=>T2 hp (rG h1.up _).nodup (zJ h1.up v) _ hk;refine⟨⟨a,b,c,fun g hg=>?_⟩,fun t ht g hg=>?_⟩
 ·have key:=aeS (S:=S) (f:=g) (v:=v) (P:=P.map tN) (q:=tN (allT S (P.filter fun t=>decide (v∈ag t.1)))) (r:=tN (outT S v true (allT S (P.filter fun t=>decide (v∈ag t.1))))) hp (fun k hk=>by rw[e2];exact h3 k hk) er (fun k hk t ht=>by
   obtain⟨s,hs,rfl⟩:=aW.1 ht;exact hn s hs k hk) hg
  rw[e1] at key;rw[j6,dL,List.map_singleton,key];exact Ko true fun x hx=>h.val _ (hg.with (by omega))
 ·rcases cI.1 ht with ht |ht
  ·exact hn t (dE.1 ht).1 g hg
  ·rw[eD.1 ht,er g hg];refine ae2 fun x hx=>?_;rw[h3 _ (hg.with (by omega))];exact VB (hg.with (by omega)) fun s hs=>hn s (dE.1 hs).1
theorem PI.fix {P:List Tb} {F:(Nat ->Nat) ->Rat} (hp:Pos S) (h:PI S n free P F) {x:Nat} (hx:x<sz S v):
  PI S n (free.filter fun u=>!(u==v)) (P.map (jS S v x)) (fun g=>F (aQ g v x)):=by
 have hf:∀u,u∈free.filter (fun u=>!(u==v))↔u∈free/\u≠v:=fun u=>by simp[dE]
 refine⟨fun t ht=>?_,fun t ht u hu=>?_,fun u hu=>?_,fun g hg=>?_⟩
 ·obtain⟨s,hs,rfl⟩:=aW.1 ht;exact(h.ok s hs).fix v x
 ·obtain⟨s,hs,rfl⟩:=aW.1 ht;obtain⟨hu,hne⟩:=(OG (h.ok s hs).up u).1 hu;exact(hf u).2 ⟨h.sub s hs u hu,hne⟩
 ·obtain⟨hu,hne⟩:=(hf u).1 hu;obtain⟨t,ht,mg⟩:=h.sup u hu;exact⟨_,aW.2 ⟨t,ht,rfl⟩,(OG (h.ok t ht).up u).2 ⟨mg,hne⟩⟩
 ·rw[<- h.val _ (hg.with hx)]
  have:∀ {Q:List Tb},(∀t∈Q,df S n t) ->pQ S g ((Q.map (jS S v x)).map tN)=pQ S (aQ g v x) (Q.map tN):=fun {Q}=>by
   induction Q with
   |nil=>intro _;rfl
   |cons t Q ih=>
    intro hQ;rw[fQ,fQ,fQ,pQ,pQ,ih fun s hs=>hQ s (dF _ hs)];congr 1
    exact Ni hp (rG (hQ t dB).up _).nodup (zJ (hQ t dB).up v) _ hg
  exact this h.ok
theorem NN.fix {P:List Tb} (hp:Pos S) (ho:∀t∈P,df S n t) (h:NN S P) {x:Nat} (hx:x<sz S v):NN S (P.map (jS S v x)):=fun t ht g hg=>by
 obtain⟨s,hs,rfl⟩:=aW.1 ht;have e:tQ S (tN (jS S v x s)) g=tQ S (tN s) (aQ g v x):=Ni hp (rG (ho s hs).up _).nodup (zJ (ho s hs).up v) _ hg;rw[e];exact h s hs _ (hg.with hx)
variable {Q:List (Value×Value)} {P:List Tb} {v':Value} {W':World}
def dw (w:World) (x y:Value) (t:Tb):Prop:=∃b c cb cc,x=.slice b t.1.length cb/\y=.slice c t.2.length cc/\aC w b t.1/\dA w c t.2/\(b=none ->cb=0)
theorem dw.aa {t:Tb} (h:dw w x y t) (hb:Below w.heap.size w w'):dw w' x y t:=by
 obtain⟨b,c,cb,cc,h1,h2,h3,h4,h5⟩:=h;exact⟨b,c,cb,cc,h1,h2,h3.aa hb,h4.aa hb,h5⟩
def fY (w:World) (a:Option Addr) (P:List Tb):Prop:=∀k (h:k<P.length),∃g o x y,a=some ⟨g,o,none⟩/\g<w.heap.size/\w.cell? ⟨g,o+k*2,none⟩=some x/\w.cell? ⟨g,o+k*2+1,none⟩=some y/\dw w x y P[k]
theorem fY.aa (h:fY w a P) (hb:Below w.heap.size w w'):fY w' a P:=fun k hk=>by
 obtain⟨g,o,x,y,h1,h2,h3,h4,h5⟩:=h k hk;exact⟨g,o,x,y,h1,aO h2 hb.size,(hb.cell (p:=⟨g,_,none⟩) h2).trans h3,(hb.cell (p:=⟨g,_,none⟩) h2).trans h4,h5.aa hb⟩
def dM:List (Value×Value) ->List Value
 |[]=>[]
 |p::l=>p.1::p.2::dM l
theorem FQ:∀l,(dM l).length=l.length*2
 |[]=>rfl
 |p::l=>by
  show (dM l).length+1+1=(l.length+1)*2;rw[FQ l];omega
theorem FR (m:List (Value×Value)):∀l,dM (l++m)=dM l++dM m
 |[]=>rfl
 |q::l=>by
  show _::_::dM (l++m)=_::_::(dM l++dM m);rw[FR m l]
theorem JO:∀(l:List (Value×Value)) (k:Nat) (h:k<l.length),(dM l)[k*2]? =some l[k].1/\(dM l)[k*2+1]? =some l[k].2
 |p::l,0,_=>⟨rfl,rfl⟩
 |p::l,k+1,h=>by
  have:=JO l k (by simpa using h);rw[show (k+1)*2=k*2+1+1 by omega];exact this
def eR (R:Nat) (t:Tb) (p:Value×Value):Prop:=(∀g o n c,p.1=.slice (some ⟨g,o,none⟩) n c ->t.1≠[] ->g≠R)/\∀g o n c,p.2=.slice (some ⟨g,o,none⟩) n c ->t.2≠[] ->g≠R
structure ku (w:World) (B:Nat) (v:Value) (Q:List (Value×Value)) (P:List Tb):Prop where
 len:Q.length=P.length
 own:w.ownsRow B 39 2 v P.length (dM Q)
 val:∀k (h:k<P.length) (h':k<Q.length),dw w Q[k].1 Q[k].2 P[k]
 far:∀R,v.ownBlock=some R ->∀k (h:k<P.length) (h':k<Q.length),eR R P[k] Q[k]
theorem ku.nil (w:World) (B:Nat):ku w B (.slice none 0 0) [] []:=⟨rfl,⟨rfl,.inl ⟨rfl,rfl⟩⟩,(fun k h=>absurd h (by simp)),fun R e=>by cases e⟩
theorem ku.row {B:Nat} {v:Value} (h:ku w B v Q P):∃a c,v=.slice a P.length c/\fY w a P:=by
 rcases h.own.2 with ⟨h1,h2⟩ |⟨g,cap,cur,h1,h2,h3,h4,h5,h6,h7⟩
 ·exact⟨none,0,by rw[h1,h2],fun k hk=>absurd hk (by omega)⟩
 ·refine⟨_,cap,h1,fun k hk=>?_⟩;have fk:k<Q.length:=by rw[h.len];exact hk
  obtain⟨q0,q1⟩:=JO Q k fk;have hcl:=FQ Q
  have hc:∀j u,(dM Q)[j]? =some u ->w.cell? ⟨g,j,none⟩=some u:=fun j u hj=>by
   rw[bX w g j _ _ (0,0) h3];have nG:=(nY.1 hj).1;rw[<- h7,sI,aA (by have:=h.len;omega),xL] at hj;exact hj
  exact⟨g,0,_,_,rfl,(dm.1 h3).1,by rw[bD];exact hc _ _ q0,by rw[bD];exact hc _ _ q1,h.val k hk fk⟩
theorem Gj {W:World} {R:Option Nat} {b:Option Addr} (h:aC W b l) (hn:∀g o,b=some ⟨g,o,none⟩ ->l≠[] ->some g≠R) (hg:W.grownBy W' R):aC W' b l:=fun k dX=>by
 obtain⟨g,o,e,cE,hc⟩:=h k dX;have hne:=hn g o e (fun e=>by rw[e] at dX;exact absurd dX (by simp));exact⟨g,o,e,aO cE hg.size,(lQ (hg.block g cE hne)).trans hc⟩
theorem aiE {W:World} {R:Option Nat} {b:Option Addr} {l:List Fr} (h:dA W b l) (hn:∀g o,b=some ⟨g,o,none⟩ ->l≠[] ->some g≠R) (hg:W.grownBy W' R):dA W' b l:=fun k dX=>by
 obtain⟨g,o,e,cE,h0,h1,h2⟩:=h k dX;have hne:=hn g o e (fun e=>by rw[e] at dX;exact absurd dX (by simp));have hb:=hg.block g cE hne;exact⟨g,o,e,aO cE hg.size,(lQ (a:=⟨g,_,none⟩) hb).trans h0,(lQ (a:=⟨g,_,none⟩) hb).trans h1,(lQ (a:=⟨g,_,none⟩) hb).trans h2⟩
theorem dw.keepR {W:World} {R:Option Nat} {t:Tb} (h:dw W x y t) (hn:∀r,R=some r ->eR r t (x,y)) (hg:W.grownBy W' R):dw W' x y t:=by
 obtain⟨b,c,cb,cc,rfl,rfl,h3,h4,h5⟩:=h;refine⟨b,c,cb,cc,rfl,rfl,Gj h3 (fun g o e hne hR=>?_) hg,aiE h4 (fun g o e hne hR=>?_) hg,h5⟩
 ·exact(hn g hR.symm).1 g o _ _ (by rw[e]) hne rfl
 ·exact(hn g hR.symm).2 g o _ _ (by rw[e]) hne rfl
theorem dw.lt {t:Tb} (h:dw w x y t) {R:Nat} (hR:w.heap.size<=R):eR R t (x,y):=by
 obtain⟨b,c,cb,cc,rfl,rfl,h3,h4,h5⟩:=h;refine⟨fun g o n c' e hne hg=>?_,fun g o n c' e hne hg=>?_⟩
 ·injection e with e1 _ _;obtain⟨g',o',e',iO,_⟩:=h3 0 (by cases ht:t.1 with |nil=>exact absurd ht hne |cons x l=>simp);rw[e1] at e';cases e';omega
 ·injection e with e1 _ _;obtain⟨g',o',e',iO,_⟩:=h4 0 (by cases ht:t.2 with |nil=>exact absurd ht hne |cons x l=>simp);rw[e1] at e';cases e';omega
theorem ku.push {B:Nat} {v:Value} {t:Tb} (h:ku w B v Q P) (ht:dw w x y t) (hf:∀R,v.ownBlock=some R ->eR R t (x,y)) (ho:w'.ownsRow B 39 2 v' (P.length+1) (dM Q++[x,y])) (hg:w.grownBy w' v.ownBlock) (hn:v'.ownBlock=v.ownBlock∨∀k,v'.ownBlock=some k ->w.heap.size<=k):ku w' B v' (Q++[(x,y)]) (P++[t]):=by
 have e1:(P++[t]).length=P.length+1:=by simp
 refine⟨by simp[h.len],by rw[e1,FR];exact ho,fun k hk eV=>?_,fun R hR k hk eV=>?_⟩
 ·by_cases dX:k<P.length
  ·have fk:k<Q.length:=by rw[h.len];exact dX
   rw[nX fk,nX dX];exact(h.val k dX fk).keepR (fun r hr=>h.far r hr k dX fk) hg
  ·have fk:¬k<Q.length:=by rw[h.len];exact dX
   rw[ru (by omega),ru (by omega)];simp only[Jt];exact ht.keepR hf hg
 ·by_cases dX:k<P.length
  ·have fk:k<Q.length:=by rw[h.len];exact dX
   rw[nX fk,nX dX];rcases hn with hn |hn
   ·exact h.far R (by rw[<- hn];exact hR) k dX fk
   ·exact(h.val k dX fk).lt (hn R hR)
  ·have fk:¬k<Q.length:=by rw[h.len];exact dX
   rw[ru (by omega),ru (by omega)];simp only[Jt];rcases hn with hn |hn
   ·exact hf R (by rw[<- hn];exact hR)
   ·exact ht.lt (hn R hR)
theorem ku.under {B:Nat} {v:Value} (h:ku w B v Q P) (hb:Below w.heap.size w w'):ku w' B v Q P:=
 ⟨h.len,Dw h.own (yH.aa hb),fun k h1 h2=>(h.val k h1 h2).aa hb,h.far⟩
theorem ku.lt {B:Nat} {v:Value} (h:ku w B v Q P):∀R,v.ownBlock=some R ->B<=R/\R<w.heap.size:=fun R hR=>by
 rcases h.own.2 with ⟨h1,h2⟩ |⟨g,cap,cur,h1,h2,h3,_⟩
 ·rw[h1] at hR;cases hR
 ·rw[h1] at hR;cases hR;exact⟨h2,(dm.1 h3).1⟩
theorem eR.new {B R:Nat} {t:Tb} {b c:Option Addr} (hb:fM B b cb) (hc:fM B c cc) (hR:R<B):eR R t (.slice b n cb,.slice c m cc):=
 ⟨fun g o n' c' e _=>by
  injection e with e1 _ _;have:=hb.2 g o e1;omega,fun g o n' c' e _=>by
  injection e with e1 _ _;have:=hc.2 g o e1;omega⟩
theorem Tryz.infoTable:(Tryz.prog.info? 39).map (fun i=>(i.zero,i.size,i.bytes))=some (some (.agg #[.slice none 0 0,.slice none 0 0]),2,48):=by kernel_rfl
def ic (l M:List Int):List Int:=l.filter fun x=>!jc x M
theorem agk {M:List Int} (h:i<l.length):ic (l.take (i+1)) M=ic (l.take i) M++if jc l[i] M=true then[] else[l[i]]:=by
 rw[fP h,ic,ic,xI];congr 1
 cases e:jc l[i] M
 ·simp[e]
 ·simp[e]
theorem adW (a b:Option Addr) (ca cb:Nat) (l M:List Int) (w:World) (hv:aC w a l) (hm:aC w b M) (hn:l.length<=1000) (hn':M.length<=1000):
  Calls Tryz.prog 20 #[.slice a l.length ca,.slice b M.length cb] w fun e w'=>∃x,e=.returned x/\bA w' w.heap.size x (ic l M)/\Below w.heap.size w w':=by
 obtain⟨i0,bY,hz0,hz1,hz2⟩:=dH Tryz.infoInt;have HV:=hid hv;have SC:=hid (fun (k:Int) (V:World) (h:aC V b M)=>adY k b cb M V h (by omega));have HM:=hid hm;have HT:=hid (fun (i:Nat) (h:i<l.length)=>agk (M:=M) h);have q8:=hid (fun i=>show (ic (l.take i) M).length<=l.length from aL (lT _ _) (by rw[dP];omega));have hall:ic (l.take l.length) M=ic l M:=by rw[gX]
 have hnil:ic (l.take 0) M=[]:=by rw[Fo];rfl
 rw[<- hall];clear hv hm hall;generalize hg:(fun i=>ic (l.take i) M)=F at *;have hF:∀i,ic (l.take i) M=F i:=fun i=>by rw[<- hg]
 simp only[hF] at HT q8 hnil⊢;clear hg hF;go_enter Tryz.func20,Tryz.ntmps20;go_wp2_with fail
 go_loopw [5,6] (fun xv iv wr=>∃i:Nat,i<=l.length/\iv=.int .i64 i/\Hid (bA wr w.heap.size xv (F i))/\Hid (Below w.heap.size w wr)) (fun _ iv _=>l.length - (intOf iv).toNat)
 case atStart=>exact⟨0,aU _,rfl,by rw[hnil];exact⟨rfl,.inl ⟨rfl,rfl⟩⟩,au _ _⟩
 case round=>
  obtain⟨i,hi,rfl,HR,HB⟩:=hrel;by_cases hlt:i<l.length
  ·obtain⟨g,o,rfl,hg,c0⟩:=(HV.o.aa HB.o) i hlt;have hT:=HT.o i hlt;have hle:=q8.o i;generalize l[i]=u at *;go_wp2_with fail
   refine(SC.o u _ (HM.o.aa HB.o)).af ?_;rintro e w1 ⟨rfl,rfl⟩;cases hin:jc u M with
   |true=>
    rw[hin,aA rfl,xJ] at hT;have vk:=hid hT;clear hT hin;go_wp2;go_roundw
    case rel=>exact⟨i+1,by omega,by go_num,by rw[vk.o];exact HR,HB⟩
    case measure=>simp[intOf];omega
   |false=>
    rw[hin,aD (by decide)] at hT;have vk:=hid hT;have nP:=hid HR.o.own;have mM:Hid (bA (w1.alloc (.cells #[.int .i64 u] 3)) w.heap.size _ (F i)):=E9 HR.o _;have bW:=hid (HB.o.alloc HB.o.size (.cells #[.int .i64 u] 3));have kY:=hid (Ou w1 u);clear hT hin;go_wp2_with (at_builtin;refine vO rfl _ _ rfl w.heap.size _ (F i) [u] rfl mM.o (some ⟨w1.heap.size,0,none⟩) 1 rfl kY.o (fun e=>by cases e) (by simp;omega) bW.o.size ?_;intro v' w2 hr2 hg2)
    have eJ:=hid hr2;have bB:=hid (bW.o.grown hg2 bW.o.size nP.o);clear hr2 hg2;go_roundw
    case rel=>exact⟨i+1,by omega,by go_num,by rw[vk.o];exact eJ,bB⟩
    case measure=>simp[intOf];omega
  ·obtain rfl:i=l.length:=by omega
   go_wp2;go_ret;exact⟨_,rfl,HR.o,HB.o⟩
theorem Ty (n:Nat):Up [] n:=gj.2 ⟨fun x hx=>(by cases hx),List.Pairwise.nil⟩
theorem Up.wider {L:List Int} (h:Up L i) (uy:i<=j):Up L j:=gj.2 ⟨fun x hx=>by have:=(gj.1 h).1 x hx;omega,(gj.1 h).2⟩
theorem Up.snoc {L:List Int} (h:Up L i):Up (L++[(i:Int)]) (i+1):=by
 refine gj.2 ⟨fun x hx=>?_,?_⟩
 ·rcases cI.1 hx with hx |hx
  ·have:=(gj.1 h).1 x hx;omega
  ·have:=eD.1 hx;omega
 ·rw[List.pairwise_append];refine⟨(gj.1 h).2,List.pairwise_singleton _ _,fun x hx y hy=>?_⟩;have:=(gj.1 h).1 x hx;have:=eD.1 hy;omega
theorem adP (a:Option Addr) (ca n:Nat) (l:List Int) (w:World) (hv:aC w a l) (hr:∀x∈l, -9223372036854775808<=x/\x<=9223372036854775807) (hn:l.length<=140737488355328) (ly:1<=n) (hn':n<=1000):
  Calls Tryz.prog 18 #[.slice a l.length ca,.int .i64 (n:Nat)] w fun e w'=>∃x L,e=.returned x/\bA w' w.heap.size x L/\Up L n/\Below w.heap.size w w':=by
 obtain⟨i0,bY,hz0,hz1,hz2⟩:=dH Tryz.infoInt;have HV:=hid hv;have HRG:=hid hr;clear hv hr;go_enter Tryz.func18,Tryz.ntmps18;go_wp2_with fail
 go_loopw [5,6] (fun xv iv wr=>∃(i:Nat) (L:List Int),i<=n/\iv=.int .i64 i/\Hid (Up L i)/\Hid (bA wr w.heap.size xv L)/\Hid (Below w.heap.size w wr)) (fun _ iv _=>n - (intOf iv).toNat)
 case atStart=>exact⟨0,[],aU _,rfl,Ty 0,⟨rfl,.inl ⟨rfl,rfl⟩⟩,au _ _⟩
 case round=>
  obtain⟨i,L,hi,rfl,HU,HR,HB⟩:=hrel;by_cases hlt:i<n
  ·go_wp2_with fail
   have Mp:Hid (bA wr w.heap.size u5 L):=HR;go_loopw [7,8] (fun bv jv wq=>∃(j:Nat) (b:Bool),j<=l.length/\jv=.int .i64 j/\bv=.bool b/\Hid (bA wq w.heap.size u5 L)/\Hid (Below w.heap.size w wq)) (fun _ jv _=>l.length - (intOf jv).toNat)
   case atStart=>exact⟨0,false,aU _,rfl,rfl,HR,HB⟩
   case round=>
    obtain⟨j,b,hj,rfl,rfl,EK,tT⟩:=hrel;clear HR HB Mp;by_cases nG:j<l.length
    ·cases b with
     |true=>
      go_wp2;go_roundw
      case rel=>exact⟨j+1,true,by omega,by go_num,rfl,EK,tT⟩
      case measure=>simp[intOf];omega
     |false=>
      obtain⟨g,o,rfl,hg,c0⟩:=(HV.o.aa tT.o) j nG;have XR:=HRG.o l[j] (bM nG);generalize l[j]=z at *;go_wp2_with fail
      refine(J6 z n _ XR.1 XR.2 (by omega) (by omega)).af ?_;rintro e w1 ⟨rfl,hb1⟩;generalize sO z n=P at *;have qX:=hid (EK.o.aa hb1);have eU:=hid (tT.o.trans (hb1.af tT.o.size));clear EK tT hb1 c0;go_wp2;go_roundw
      case rel=>exact⟨j+1,_,by omega,by go_num,rfl,qX,eU⟩
      case measure=>simp[intOf];omega
    ·obtain rfl:j=l.length:=by omega
     cases b with
     |false=>
      go_wp2;go_roundw
      case rel=>exact⟨i+1,L,by omega,by go_num,HU.o.wider (by omega),EK,tT⟩
      case measure=>simp[intOf];omega
     |true=>
      have hle:=HU.o.length;have nP:=hid EK.o.own;have mM:Hid (bA (wr.alloc (.cells #[.int .i64 (i:Nat)] 3)) w.heap.size _ L):=E9 EK.o _;have bW:=hid (tT.o.alloc tT.o.size (.cells #[.int .i64 (i:Nat)] 3));have kY:=hid (Ou wr (i:Nat));go_wp2_with (at_builtin;refine vO rfl _ _ rfl w.heap.size _ L [((i:Nat):Int)] rfl mM.o (some ⟨wr.heap.size,0,none⟩) 1 rfl kY.o (fun e=>by cases e) (by simp;omega) bW.o.size ?_;intro v' w3 hr3 hg3)
      have kV:=hid hr3;have eZ:=hid (bW.o.grown hg3 bW.o.size nP.o);clear hr3 hg3;go_roundw
      case rel=>exact⟨i+1,_,by omega,by go_num,HU.o.snoc,kV,eZ⟩
      case measure=>simp[intOf];omega
  ·obtain rfl:i=n:=by omega
   go_wp2;go_ret;exact⟨_,L,rfl,HR.o,HU.o,HB.o⟩
structure aa5 (n:Nat) (ord:Nat ->Nat) (nr:Nat ->Nat ->Nat ->Prop):Prop where
 all:∀v,v< n ->∃i,i<n/\ord i=v
 inj:∀i j,i< n ->j< n ->ord i=ord j ->i=j
 lt:∀u w,nr 0 u w ->u<n/\w<n
 self:∀u,¬nr 0 u u
 symm:∀u w,nr 0 u w ->nr 0 w u
 step:∀i,i< n ->∀u w,nr (i+1) u w↔u≠ord i/\w≠ord i/\u≠w/\(nr i u w∨nr i u (ord i)/\nr i (ord i) w)
variable {s:List Nat}
theorem Ku:∀ {l m:List Nat},l.Nodup ->(∀x∈l,x∈m) ->l.length<=m.length
 |[],_,_,_=>aU _
 |a::l,m,hn,hs=>by
  have ha:a∈m:=hs a (dB ..);have h1:=mU.1 hn;have:=Ku (l:=l) (m:=m.erase a) h1.2 (fun x hx=>(List.mem_erase_of_ne (fun e=>h1.1 (by rw[<- e];exact hx))).2 (hs x (dF _ hx)));rw[MQ ha] at this;have hp:=List.length_pos_of_mem ha;show l.length+1<=m.length;omega
def jJ (P:List (List Nat)) (n i:Nat):Nat:=jg (bt P n i).nei (bt P n i).lft
theorem ZV:∀ {k x:Nat},x< k ->x∈s ->∃b m,iP f s k=some (b,m)
 |k+1,x,hx,hs=>by
  rw[iP];by_cases hk:k∈s
  ·rw[aA hk];cases iP f s k with
   |none=>exact⟨_,_,rfl⟩
   |some p=>
    obtain⟨b,m⟩:=p;simp only;split
    ·exact⟨_,_,rfl⟩
    ·exact⟨_,_,rfl⟩
  ·rw[aD hk];exact ZV (by rcases cT x k with h |h;exact h;exact absurd (by rw[show k=x by omega];exact hs) hk) hs
theorem aiY {P:List (List Nat)} {x:Nat} (hx:x<8) (hs:x∈s):jg P s∈s:=by
 obtain⟨b,m,e⟩:=ZV (f:=np P) hx hs;rw[jg,e];exact Lp e
structure FI (P:List (List Nat)) (n k:Nat):Prop where
 left:∀x,x∈(bt P n k).lft↔x<n/\∀i,i< k ->jJ P n i≠x
 inj:∀i j,i< k ->j< k ->jJ P n i=jJ P n j ->i=j
 lt:∀i,i< k ->jJ P n i<n
 sym:∀u,u∈(bt P n k).lft ->∀w,w∈(bt P n k).nei.getD u [] ->w∈(bt P n k).lft/\u∈(bt P n k).nei.getD w []/\u≠w
theorem FI.here {P:List (List Nat)} (h:FI P n k) (hk:k<n) (h8:n<=8):jJ P n k∈(bt P n k).lft:=by
 have hne:∃x,x∈(bt P n k).lft:=by
  refine A8 fun hno=>?_
  have hall:∀x∈List.range n,x∈(List.range k).map (jJ P n):=fun x hx=>by
   refine A8 fun hm=>hno ⟨x,(h.left x).2 ⟨cH.1 hx,fun i hi e=>hm (aW.2 ⟨i,cH.2 hi,e⟩)⟩⟩
  have:=Ku Da hall;rw[A6,cX,A6] at this;omega
 obtain⟨x,hx⟩:=hne;exact aiY (by have:=((h.left x).1 hx).1;omega) hx
theorem acw {P:List (List Nat)} (hu:u<P.length):(qg P v).getD u []=if u<8/\u∈P.getD v [] then vX P v u else P.getD u []:=by
 rw[bU,a8 (by rw[qg,Dk];exact hu)];simp[qg,fR]
theorem FI.next {P:List (List Nat)} (hN:qT n P) (h:FI P n k) (hk:k<n) (h8:n<=8) {w:Nat} (hu:u∈(bt P n k).lft) (_hne:u≠jJ P n k):w∈(bt P n (k+1)).nei.getD u []↔w≠jJ P n k/\u≠w/\(w∈(bt P n k).nei.getD u []∨jJ P n k∈(bt P n k).nei.getD u []/\w∈(bt P n k).nei.getD (jJ P n k) []):=by
 have hl:=(Lx hN k).1;have KM:u<n:=((h.left u).1 hu).1;have hv:=h.here hk h8;show w∈(qg (bt P n k).nei (jJ P n k)).getD u []↔_;rw[acw (by rw[hl.len];exact KM)];by_cases hc:u∈(bt P n k).nei.getD (jJ P n k) []
 ·rw[aA ⟨by omega,hc⟩,Ov];have hs:=(h.sym _ hv u hc).2.1;exact⟨fun ⟨a,b,c⟩=>⟨c,fun e=>b e.symm,a.imp id fun a=>⟨hs,a⟩⟩,fun ⟨a,b,c⟩=>⟨c.imp id fun c=>c.2,fun e=>b e.symm,a⟩⟩
 ·rw[aD fun e=>hc e.2];constructor
  ·intro hw;have hs:=h.sym u hu w hw;exact⟨fun e=>hc (by rw[<- e];exact hs.2.1),hs.2.2,.inl hw⟩
  ·rintro⟨_,_,c |c⟩
   ·exact c
   ·exact absurd (h.sym u hu _ c.1).2.1 hc
theorem FI.step {P:List (List Nat)} (hN:qT n P) (h:FI P n k) (hk:k<n) (h8:n<=8):FI P n (k+1):=by
 have hv:=h.here hk h8
 have Py:∀x,x∈(bt P n (k+1)).lft↔x∈(bt P n k).lft/\x≠jJ P n k:=fun x=>by
  show x∈(bt P n k).lft.filter (fun u=>decide (u≠jJ P n k))↔_;rw[dE,eh]
 have hnew:∀i,i< k ->jJ P n i≠jJ P n k:=((h.left _).1 hv).2;refine⟨fun x=>?_,fun i j hi hj e=>?_,fun i hi=>?_,fun u hu w hw=>?_⟩
 ·rw[Py,h.left];constructor
  ·rintro⟨⟨a,b⟩,c⟩;refine⟨a,fun i hi e=>?_⟩;rcases cT i k with h' |h'
   ·exact b i h' e
   ·exact c (by rw[<- e,show i=k by omega])
  ·rintro⟨a,b⟩;exact⟨⟨a,fun i hi=>b i (by omega)⟩,fun e=>b k (by omega) e.symm⟩
 ·rcases cT i k with h1 |h1
  ·rcases cT j k with h2 |h2
   ·exact h.inj i j h1 h2 e
   ·exact absurd (by rw[e,show j=k by omega]) (hnew i h1)
  ·rcases cT j k with h2 |h2
   ·exact absurd (by rw[<- e,show i=k by omega]) (hnew j h2)
   ·omega
 ·rcases cT i k with h1 |h1
  ·exact h.lt i h1
  ·rw[show i=k by omega];exact((h.left _).1 hv).1
 ·rw[Py] at hu;obtain⟨a,b,c⟩:=(h.next hN hk h8 hu.1 hu.2).1 hw
  have hwl:w∈(bt P n k).lft:=by
   rcases c with c |c
   ·exact(h.sym u hu.1 w c).1
   ·exact(h.sym _ hv w c.2).1
  refine⟨(Py w).2 ⟨hwl,a⟩,(h.next hN hk h8 hwl a).2 ⟨hu.2,fun e=>b e.symm,?_⟩,b⟩;rcases c with c |c
  ·exact .inl (h.sym u hu.1 w c).2.1
  ·exact .inr ⟨(h.sym _ hv w c.2).2.1,(h.sym u hu.1 _ c.1).2.1⟩
theorem FI.all {P:List (List Nat)} (hN:qT n P) (hs:∀u,u< n ->∀w,w∈P.getD u [] ->u∈P.getD w []) (h8:n<=8):∀k,k<=n ->FI P n k
 |0,_=>⟨fun x=>⟨fun h=>⟨xO.1 h,fun i hi=>absurd hi (Fk _)⟩,fun h=>xO.2 h.1⟩,fun i _ hi=>absurd hi (Fk _),fun i hi=>absurd hi (Fk _),fun u hu w hw=>by
  have BO:u<n:=xO.1 hu;exact⟨xO.2 (hN.at u w hw),hs u BO w hw,fun e=>hN.self u (by rw[<- e] at hw;exact hw)⟩⟩
 |k+1,hk=>(FI.all hN hs h8 k (by omega)).step hN (by omega) h8
def Wi (P:List (List Nat)) (n i u w:Nat):Prop:=u∈(bt P n i).lft/\w∈(bt P n i).nei.getD u []
theorem aiV {P:List (List Nat)} (hN:qT n P) (hs:∀u,u< n ->∀w,w∈P.getD u [] ->u∈P.getD w []) (h8:n<=8):aa5 n (jJ P n) (Wi P n):=by
 have hF:=FI.all hN hs h8;refine⟨fun v hv=>?_,fun i j hi hj e=>(hF n (aq _)).inj i j hi hj e,fun u w hw=>⟨xO.1 hw.1,hN.at u w hw.2⟩,fun u hu=>hN.self u hu.2,fun u w hw=>⟨xO.2 (hN.at u w hw.2),hs u (xO.1 hw.1) w hw.2⟩,fun i hi u w=>?_⟩
 ·refine A8 fun hno=>?_
  have jO:(v::(List.range n).map (jJ P n)).Nodup:=by
   refine mU.2 ⟨fun hm=>?_,?_⟩
   ·obtain⟨i,hi,e⟩:=aW.1 hm;exact hno ⟨i,cH.1 hi,e⟩
   ·refine C9.2 (Da.imp_of_mem fun {a b} ha hb hab e=>hab ((hF n (aq _)).inj a b (cH.1 ha) (cH.1 hb) e))
  have:=Ku jO (m:=List.range n) fun x hx=>by
   rcases dG.1 hx with rfl |hx
   ·exact cH.2 hv
   ·obtain⟨i,hi,e⟩:=aW.1 hx;rw[<- e];exact cH.2 ((hF n (aq _)).lt i (cH.1 hi))
  rw[dI,cX,A6] at this;omega
 ·have h:=hF i (by omega);have hv:=h.here hi h8
  have hl:u∈(bt P n (i+1)).lft↔u∈(bt P n i).lft/\u≠jJ P n i:=by
   show u∈(bt P n i).lft.filter (fun u=>decide (u≠jJ P n i))↔_;rw[dE,eh]
  constructor
  ·rintro⟨a,b⟩;obtain⟨a1,a2⟩:=hl.1 a;obtain⟨c1,c2,c3⟩:=(h.next hN hi h8 a1 a2).1 b;exact⟨a2,c1,c2,c3.imp (fun c=>⟨a1,c⟩) fun c=>⟨⟨a1,c.1⟩,⟨hv,c.2⟩⟩⟩
  ·rintro⟨a,b,c,d⟩;have a1:u∈(bt P n i).lft:=d.elim (fun d=>d.1) fun d=>d.1.1;exact⟨hl.2 ⟨a1,a⟩,(h.next hN hi h8 a1 a).2 ⟨b,c,d.imp (fun d=>d.2) fun d=>⟨d.1.2,d.2.2⟩⟩⟩
theorem Z3 (P:List (List Nat)) (n:Nat):∀k,(bt P n k).ord=(List.range k).map (jJ P n)
 |0=>rfl
 |k+1=>by rw[oY,dL, <- Z3 P n k];rfl
theorem afv (hg:gB L=true):rE L=true↔∀v u,v<L.length ->u<L.length ->(decide (u∈(aI L).getD v [])=decide (v∈(aI L).getD u [])):=by
 rw[rE,hg,Df,eh,DI];have hl:∀v,v<L.length ->v<(aI L).length:=fun v hv=>by rw[jI];exact hv
 have hlt:=F6 hg
 have hat:∀v,v<L.length ->∀u,u∈(aI L).getD v [] ->u<L.length:=fun v hv u hu=>by
  rw[bU,a8 (hl v hv)] at hu;exact hlt _ (bM (hl v hv)) u hu
 have key:∀v,v<L.length ->((((aI L).map az)[v]? =((ko (aI L) L.length L.length).map az)[v]?)↔∀u,u<L.length ->(decide (u∈(aI L).getD v [])=decide (v∈(aI L).getD u []))):=fun v hv=>by
  have e1:((aI L).map az)[v]? =some (az ((aI L).getD v [])):=by rw[kD,bU,a8 (hl v hv)];rfl
  have e2:((ko (aI L) L.length L.length).map az)[v]? =some (az (lF (aI L) v L.length)):=by simp[ko,hv]
  rw[e1,e2];constructor
  ·intro e u hu;have e':=mS e;have h1:=pq ((aI L).getD v []) u;have h2:=pq (lF (aI L) v L.length) u;rw[<- h1,e',h2,AW,Ie];exact⟨fun h=>h.2,fun h=>⟨hu,h⟩⟩
  ·intro h;congr 1
   refine Oy fun u=>?_;rw[Ie];constructor
   ·intro hu;have:=hat v hv u hu;exact⟨this,(AW.1 (h u this)).1 hu⟩
   ·exact fun hu=>(AW.1 (h u hu.1)).2 hu.2
 constructor
 ·intro e v u hv hu;exact(key v hv).1 (by rw[e]) u hu
 ·intro h;refine Fw fun v=>?_;rcases cT v L.length with hv |hv
  ·exact(key v hv).2 fun u hu=>h v u hv hu
  ·rw[iJ (by rw[cX,jI];exact hv),iJ (by rw[cX,aaG];exact hv)]
variable {Pa:Nat ->Nat ->Prop}
def jX (Pa:Nat ->Nat ->Prop) (u v:Nat):Prop:=∀M:Nat ->Prop,(∀v,Pa u v ->M v) ->(∀v w,M v ->Pa v w ->M w) ->M v
theorem jX.one (h:Pa u v):jX Pa u v:=fun _ h1 _=>h1 _ h
theorem jX.more {w:Nat} (h:jX Pa u v) (hp:Pa v w):jX Pa u w:=fun M h1 h2=>h2 _ _ (h M h1 h2) hp
theorem jX.ind {M:∀v,jX Pa u v ->Prop} (one:∀ {v:Nat} (h:Pa u v),M v (.one h)) (more:∀ {v w:Nat} (h:jX Pa u v) (hp:Pa v w),M v h ->M w (h.more hp)):∀ {v:Nat} (h:jX Pa u v),M v h:=fun {_} h=>by
 obtain⟨_,k⟩:=h (fun v=>∃h,M v h) (fun _ hp=>⟨_,one hp⟩) (fun _ _ ⟨_,ih⟩ hp=>⟨_,more _ hp ih⟩);exact k
theorem jX.last {w:Nat} (h:jX Pa u w):Pa u w∨∃v,jX Pa u v/\Pa v w:=by
 induction h using jX.ind with
 |one hp=>exact .inl hp
 |more h hp _=>exact .inr ⟨_,h,hp⟩
section
attribute [local go_sem] Oper.semAt_some
variable {c lo:Nat}
def ml (P:List (List Nat)) (t:List Nat) (k:Nat):List Nat:=t++(eo t k).flatMap fun v=>P.getD v []
theorem akE (P:List (List Nat)) (t:List Nat):ml P t 0=t:=by simp[ml,eo]
theorem akF {P:List (List Nat)} {t:List Nat} (h:k∈t):ml P t (k+1)=ml P t k++P.getD k []:=by rw[ml,OB h,List.flatMap_append, <- nZ,ml];simp
theorem akG {P:List (List Nat)} {t:List Nat} (h:¬k∈t):ml P t (k+1)=ml P t k:=by rw[ml,Kz h,ml]
def fK (P:List (List Nat)) (s:List Nat):Nat ->List Nat
 |0=>s
 |r+1=>ml P (fK P s r) 8
theorem aa3 {P:List (List Nat)} {t:List Nat} (hP:∀v,∀u∈P.getD v [],u<n) (ht:∀u∈t,u<n) (k:Nat):∀u∈ml P t k,u<n:=fun u hu=>by
 rcases cI.1 hu with h |h
 ·exact ht u h
 ·obtain⟨v,_,h2⟩:=List.mem_flatMap.1 h;exact hP v u h2
theorem Io {P:List (List Nat)} (hP:∀v,∀u∈P.getD v [],u<n) (hs:∀u∈s,u<n):∀r,∀u∈fK P s r,u<n
 |0=>hs
 |r+1=>aa3 hP (Io hP hs r) 8
def tU (w:World) (G n c m:Nat) (W:World):Prop:=Boxed W w.heap.size 109 (.slice (some ⟨G,0,none⟩) n c)/\Boxed W (w.heap.size+1) 115 (.int .u32 (m:Nat))/\Below w.heap.size w W
theorem tU.shut {G:Nat} (hlo:w.heap.size+1<lo) (W:World) (r:Nat) (h:tU w G n c m W) (hr:lo<=r) (hd:W.heap[r]? =some (.deferred (some []))):tU w G n c m (W.putObj r (.deferred none)):=
 ⟨(vG (by omega)).trans h.1,(vG (by omega)).trans h.2.1,h.2.2.trans (sH (w:=w) (aq _) W r _ _ (by omega) hd rfl rfl)⟩
theorem tU.own {β:Type} {G B:Nat} (f:β ->Nat) (hB:w.heap.size<=B):OwnFrom B (fun (s:β) W=>tU w G n c (f s) W):=
 eC (fD (iW _ _ (fun _=>_)) _) (eC (fD (iW _ _ (fun s:β=>.int .u32 (f s:Nat))) _) (xC (aq _) hB))
theorem akB (G n c:Nat) (P:List (List Nat)) (s:List Nat) (w:World) (hn:P.length=n) (h8:n<=8) (hU:b9 w G (P.map az)) (hP:∀p∈P,∀u∈p,u<n) (hs:∀u∈s,u<n):
  Calls Tryz.prog 127 #[.slice (some ⟨G,0,none⟩) n c,.int .u32 (az s:Nat)] w fun e w'=>e=.returned (.int .u32 (az (fK P s n):Nat))/\Below w.heap.size w w':=by
 refine(fZ (n:=6)).1 ?_;have hG:=hU.lt
 have rQ:∀v,∀u∈P.getD v [],u<n:=fun v u hu=>by
  by_cases hv:v<P.length
  ·rw[bU,a8 hv] at hu;exact hP _ (bM hv) u hu
  ·rw[bU,iJ (by omega)] at hu;simp at hu
 have CR:Hid (∀(V:World) (v:Nat),Below w.heap.size w V ->v< n ->V.cell? ⟨G,v,none⟩=some (.int .u32 (az (P.getD v []):Nat))):=fun V v hB hv=>by
  have:=(hU.aa hB hG).cell v (by rw[cX];omega);rwa [BC (by omega)] at this
 have Mj:=hid (fun r=>Io rQ hs r);have IU:=hid (fun (r k:Nat)=>Rm (ml P (fK P s r) k) (P.getD k []) (fun u hu=>by have:=aa3 rQ (Io rQ hs r) k u hu;omega) (fun u hu=>by have:=rQ k u hu;omega));have HY:=hid (fun (r k:Nat) (h:k∈fK P s r)=>akF (P:=P) h);have HN:=hid (fun (r k:Nat) (h:¬k∈fK P s r)=>akG (P:=P) h);have HZ:=hid (fun (r:Nat)=>akE P (fK P s r));have iH:Hid (∀r,ml P (fK P s r) 8=fK P s (r+1)):=fun r=>rfl;have h0:fK P s 0=s:=rfl;clear hU hP rQ hs;refine sG Tryz.func127 rfl trivial ?_ rfl;simp only[Tryz.ntmps127,lR,dI,k8,Nat.reduceAdd,Nat.reduceSub,lX,lW,lS,k9,gY,eE];obtain⟨W2,hW2⟩:∃W2,W2=(w.alloc (.cells #[.slice (some ⟨G,0,none⟩) n c] 109)).alloc (.cells #[.int .u32 (az s:Nat)] 115):=⟨_,rfl⟩
 have hL2:tU w G n c (az (fK P s 0)) W2:=by
  rw[hW2,h0];refine⟨(aY w _ _).alloc _,?_,((au _ w).alloc (aq _) _).alloc (by simp) _⟩;have h:=aY (w.alloc (.cells #[.slice (some ⟨G,0,none⟩) n c] 109)) 115 (.int .u32 (az s:Nat));rwa [di] at h
 have k0:=hL2.1.cell;rw[hW2] at k0;gi_wp2
 rw[<- hW2];have hs2:W2.heap.size=w.heap.size+2:=by rw[hW2];simp
 have oQ:=hid hL2;clear hW2 hL2 k0 h0;generalize hab:fK P s=ab at *;have y9:=hid hab;clear hab;generalize az s=WM at *;refine wpIn_loop (fun a' w'=>∃(r:Nat) (ds:List Deferred) (u9 u10 u11 Di:Value),a'= {tmps:= #[.slice (some ⟨G,0,none⟩) n c,.int .u32 (WM:Nat),.pointer (some ⟨w.heap.size,0,none⟩),.pointer (some ⟨w.heap.size+1,0,none⟩),.int .u32 0,undef,.slice (some ⟨G,0,none⟩) n c,.int .i64 (n:Nat),.int .i64 (r:Nat),u9,u10,u11,undef,undef,undef,undef,undef,undef,undef,Di,undef],defers:=ds}/\r<=n/\Hid (tU w G n c (az (ab r)) w')/\Hid (Shut (w.heap.size+2) w'.heap.size ds w')) (fun a' _=>n - (intOf (a'.tmps.getD 8 undef)).toNat) ?_ ?_
 ·exact⟨0,[],_,_,_,_,rfl,aU _,oQ,trivial⟩
 intro a' wr hinv;obtain⟨r,ds,u9,u10,u11,Di,rfl,hr,kX,oO⟩:=hinv;clear oQ;by_cases hlt:r<n
 ·have ht:=Mj.o r;have Iy:=hid (HY.o r);have EP:=hid (HN.o r);have HOr:=hid (IU.o r);have hZr:=HZ.o r;have hSr:=iH.o r;have cP:w.heap.size+1<wr.heap.size:=kX.o.2.1.lt;have ks:=kX.o.2.1.cell;have Gl:∀u∈ab r,u<8:=fun u hu=>by have:=ht u hu;omega
  generalize ab r=t at *;gi_wp2
  clear ks;have hL3:=kX.o;rw[<- hZr] at hL3
  refine Bc (by omega) t Gl rfl rfl
   (fun k V=>tU w G n c (az (ml P t k)) V/\(wr.heap.size<=V.heap.size/\Shut (w.heap.size+2) wr.heap.size ds V))
   (eC (tU.own (fun k:Nat=>az (ml P t k)) (by omega)) Nx)
   ⟨hL3,aq _,oO.o⟩
   (fun k=> {tmps:= #[.slice (some ⟨G,0,none⟩) n c,.int .u32 (WM:Nat),.pointer (some ⟨w.heap.size,0,none⟩),.pointer (some ⟨w.heap.size+1,0,none⟩),.int .u32 0,.int .i64 (k:Nat),.slice (some ⟨G,0,none⟩) n c,.int .i64 (n:Nat),.int .i64 (r:Nat),.bool true,.int .u32 (az t:Nat),.func (.func 144) #[.int .u32 (az t:Nat)] #[],.int .i64 (k:Nat),undef,undef,undef,undef,undef,undef,Di,undef],defers:=[]}) ?assign ?body ?skip ?done
  case assign=>
   intro l k W K hK;gi_wp2
   exact hK
  case body=>
   rintro l k V hk hm ⟨h0,uq,nC⟩;have hkn:=ht k hm;have k0:=h0.1.cell;have kG:=CR.o V k h0.2.2 hkn;have Zt:=HOr.o k;have HYk:=hid (Iy.o k hm);have ks:=h0.2.1.cell;have fs:=h0.2.1.frozen;generalize hm1:az (ml P t k++P.getD k [])=m1 at *;have xj:=hid hm1;clear hm1;generalize az (ml P t k)=m0 at *;generalize az (P.getD k [])=mu at *;generalize az t=mt at *;gi_wp2_with fail
   refine vU (fun u=>u.cell? ⟨w.heap.size,0,none⟩=some (.slice (some ⟨G,0,none⟩) n c)/\u.cell? ⟨G,k,none⟩=some (.int .u32 (mu:Nat))) (by kernel_rfl) (by kernel_rfl) (fun ⟨_,_,h⟩=>h) ⟨k0,kG⟩ ?_;intro ak;have hD:KeepsOthers V V.drew:=xK V;have q0:tU w G n c m0 V.drew:=⟨h0.1,h0.2.1,h0.2.2.drew⟩;have qS:Shut (w.heap.size+2) wr.heap.size ds V.drew:=nC.keep fun _ _=>rfl;have qz:wr.heap.size<=V.drew.heap.size:=uq;have ks2:V.drew.cell? ⟨w.heap.size+1,0,none⟩=some (.int .u32 (m0:Nat)):=ks;have fs2:V.drew.frozen? ⟨w.heap.size+1,0,none⟩=false:=fs;clear k0 kG ks fs h0 nC uq hL3;generalize V.drew=U0 at *;refine aw 1 (.slice (some ⟨G,0,none⟩) n c) ?_;refine aw 2 (.int .i64 (k:Nat)) ?_;refine aw 3 (.pointer (some ⟨G,k,none⟩)) ?_;refine aw 4 (.int .u32 (mu:Nat)) ?_;refine aH [0] (cA ?_ aG);intro K' hK';go_simp;refine hK'.o _ _ ak (fun ah=>?_);clear hK' K' ah;refine aw 5 (.int .u32 (m1:Nat)) ?_;refine aH [6] (cA ?_ aG);intro K' hK';go_simp;refine hK'.o _ _ ⟨(iR q0.1 (w.heap.size+1) 0 _ (by omega)).cell,(dO _ _ _ _ (fun e=>(show ¬w.heap.size+1=G by omega) (cU Addr.block e))).trans ak.2⟩ (fun _=>eK (by kernel_rfl) ?_ _);clear hK' K' ak;gi_wp2
   exact⟨(hD.trans (jo U0 _ _)).from _,⟨iR q0.1 (w.heap.size+1) 0 _ (by omega),by rw[HYk.o,xj.o];exact q0.2.1.set _,q0.2.2.setCell (p:=⟨w.heap.size+1,0,none⟩) (by simp) _⟩,by simpa using qz,qS.putAt (by omega) _⟩
  case skip=>
   rintro k V hk hm h;rw[EP.o k hm];exact h
  case done=>
   rintro D V hD ⟨h0,uq,nC⟩ hK;rw[hSr] at h0;have yw:D<V.heap.size:=(dm.1 hK).1;have CC:Hid (Shut (w.heap.size+2) V.heap.size ({target:=.collected D,args:= #[]}::ds) V):=⟨D,by omega,yw,rfl,hK,nC.af hD⟩;have I1:=hid h0;clear h0 nC hK;gi_wp2
   refine⟨⟨r+1,_,_,_,_,_,rfl,by omega,I1,CC⟩,?_⟩;simp[intOf];omega
 ·obtain rfl:r=n:=by omega
  have kc:=kX.o.2.1.cell;gi_wp2
  refine BF (lo:=w.heap.size+2) (K:=tU w G r c (az (ab r))) (tU.shut (by omega)) (fun Z hZ=>⟨_,zg rfl _ _ _,by rw[y9.o];rfl,hZ.2.2⟩) _ wr.heap.size wr oO.o kX.o
end
def AbR (L:List (List Int)) (l:List Int) (e:Ending) (w':World):Prop:=
 (bQ L≠0/\e=.returned (.tuple #[.slice none 0 0,.int .i64 (bQ L)]))∨
 (bQ L=0/\dR l L.length=false/\e=.returned (.tuple #[.slice none 0 0,.int .i64 11]))∨
 (bQ L=0/\dR l L.length=true/\∃d cd,e=.returned (.tuple #[.slice d (fj (fK (aI L) (ag l) L.length)).length cd,.int .i64 0])/\aC w' d (fj (fK (aI L) (ag l) L.length)))
theorem tz (h:bQ L=0):gB L=true:=by
 rw[bQ] at h;by_cases e:gB L=true
 ·exact e
 ·rw[aD e] at h;exact absurd h (by decide)
theorem air (a b:Option Addr) (ca cb:Nat) (L:List (List Int)) (l:List Int) (w:World) (h:fC w a L) (hl:∀l∈L,l.length<=140737488355328) (hb:aC w b l) (c4:l.length<=140737488355328):
  Calls Tryz.prog 78 #[.slice a L.length ca,.slice b l.length cb] w fun e w'=>AbR L l e w'/\Below w.heap.size w w':=by
 have HR:=hid (QW a ca L w h hl);have HB:=hid hb;have yM:=hid (fun (U:World) (hU:aC U b l) (hn:L.length<=8)=>UF b cb l L.length U hU c4 hn)
 have y9:Hid (bQ L=0 ->dR l L.length=true ->∀(G c:Nat) (U:World),b9 U G (jb L) ->Calls Tryz.prog 127 #[.slice (some ⟨G,0,none⟩) L.length c,.int .u32 (az (ag l):Nat)] U fun e w'=>e=.returned (.int .u32 (az (fK (aI L) (ag l) L.length):Nat))/\Below U.heap.size U w'):=fun hg hr G c U hU=>by
  rw[DI] at hU;have hgb:=tz hg
  exact akB G L.length c (aI L) (ag l) U (jI L) (pP hgb).2.1 hU (F6 hgb) (fun u hu=>by
   obtain⟨x,hx,rfl⟩:=aW.1 hu;obtain⟨j,hj,rfl⟩:=iZ hx;have:=(xQ hr).each j hj;omega)
 have yZ:Hid (bQ L=0 ->dR l L.length=true ->∀U:World,Calls Tryz.prog 135 #[.int .u32 (az (fK (aI L) (ag l) L.length):Nat)] U fun e w'=>∃v,e=.returned v/\bA w' U.heap.size v (iL (eo (fK (aI L) (ag l) L.length) 8))/\Below U.heap.size U w'):=fun hg hr U=>WT _ U (fun u hu=>by
  have hgb:=tz hg;have h8:=(pP hgb).2.1
  have:=Io (n:=L.length) (P:=aI L) (s:=ag l) (fun v u hu=>(DD hgb).at v u hu) (fun u hu=>by
   obtain⟨x,hx,rfl⟩:=aW.1 hu;obtain⟨j,hj,rfl⟩:=iZ hx;have:=(xQ hr).each j hj;omega) L.length u hu
  omega)
 have kx:Hid (dR l L.length=true ->setA l L.length=az (ag l)):=UG;clear h hl hb;go_enter Tryz.func78,Tryz.ntmps78;go_wp2_with fail
 refine HR.o.af ?_;rintro e w1 ⟨hb1,⟨hg,G,rfl,hG,hU⟩ |⟨hg,rfl⟩⟩
 ·have h8:=(pP (tz hg)).2.1;have HS:=hid (yM.o w1 (HB.o.aa hb1) h8);have HU:=hid hU;have eU:=hid hb1;have E0:=hid hg;clear hU hb1 yM hg;cases hr:dR l L.length with
  |false=>
   rw[hr] at HS;have IJ:=hid hr;clear hr y9 yZ kx;generalize setA l L.length=sa at *;go_wp2_with fail
   refine HS.o.af ?_;rintro e w2 ⟨rfl,hw2⟩;subst hw2;go_wp2;go_ret2;exact⟨.inr (.inl ⟨E0.o,IJ.o,rfl⟩),eU.o⟩
  |true=>
   rw[hr,kx.o hr] at HS;have HRT:=hid hr;have HA:=hid (y9.o E0.o hr G L.length);have HL:=hid (yZ.o E0.o hr);clear hr y9 yZ kx;generalize hab:fK (aI L) (ag l) L.length=ab at *;have abv:=hid hab;clear hab;generalize az (ag l)=m0 at *;go_wp2_with fail
   refine HS.o.af ?_;rintro e w2 ⟨rfl,hw2⟩;subst hw2;go_wp2_with fail
   refine(HA.o _ HU.o).af ?_;rintro e w3 ⟨rfl,hb3⟩;have eZ:=hid (eU.o.trans (hb3.af eU.o.size));clear hb3;go_wp2_with fail
   refine(HL.o _).af ?_;rintro e w4 ⟨v,rfl,hv,hb4⟩;obtain⟨d,cd,rfl,hI⟩:=hv.ints;have HI:=hid hI;have eY:=hid (eZ.o.trans (hb4.af eZ.o.size));clear hv hI hb4;go_wp2;go_ret2;exact⟨.inr (.inr ⟨E0.o,HRT.o,d,cd,by rw[abv.o];rfl,by rw[abv.o];exact HI.o⟩),eY.o⟩
 ·have SG:=hid hg;have eU:=hid hb1;have hgb:(bQ L==0)=false:=by simpa using hg
  clear hg hb1 y9 yZ kx yM;generalize hge:bQ L=ge at *;have HGE:=hid hge;clear hge;go_wp2;go_ret2;exact⟨.inl ⟨by rw[HGE.o];exact SG.o,by rw[HGE.o];rfl⟩,eU.o⟩
section
attribute [local go_sem] Oper.semAt_some
variable {r:Nat} {o':Obj}
def gP (P:List (List Nat)) (v:Nat):List Nat:=v::P.getD v []
def ia (P:List (List Nat)) (u:Nat):Nat ->List Nat
 |0=>[]
 |v+1=>if u∈gP P v then ia P u v++(gP P v).filter (fun x=>decide (x≠u)) else ia P u v
def kd (P:List (List Nat)) (n v k:Nat):List (List Nat):=(List.range n).map fun u=>if u<k/\u∈gP P v then ia P u v++(gP P v).filter (fun x=>decide (x≠u)) else ia P u v
def lq (P:List (List Nat)) (n v:Nat):List (List Nat):=(List.range n).map fun u=>ia P u v
theorem af3 (P:List (List Nat)) (n v:Nat):kd P n v 0=lq P n v:=by simp[kd,lq]
theorem af8 {P:List (List Nat)} (h:n<=8):kd P n v 8=lq P n (v+1):=by
 apply qd;intro u hu;have:=cH.1 hu;rw[ia];by_cases h1:u∈gP P v
 ·rw[aA ⟨by omega,h1⟩,aA h1]
 ·rw[aD (fun e=>h1 e.2),aD h1]
theorem af4 {P:List (List Nat)} (hm:k∈gP P v):kd P n v (k+1)=(kd P n v k).set k (ia P k v++(gP P v).filter (fun x=>decide (x≠k))):=by
 apply rz (by simp[kd]);intro i h1 h2;rw[List.getElem_set];simp only[kd,lV,Dc];by_cases h:k=i
 ·subst h;rw[aA ⟨by omega,hm⟩,aA rfl]
 ·rw[aD h];have e:(i<k+1/\i∈gP P v)↔(i<k/\i∈gP P v):=⟨fun ⟨a,b⟩=>⟨by omega,b⟩,fun ⟨a,b⟩=>⟨by omega,b⟩⟩;simp only[e]
theorem af5 {P:List (List Nat)} (hm:¬k∈gP P v):kd P n v (k+1)=kd P n v k:=by
 apply qd;intro i hi;have e:(i<k+1/\i∈gP P v)↔(i<k/\i∈gP P v):=⟨fun ⟨a,b⟩=>⟨by rcases cT i k with h |h;exact h;exact absurd (show i=k by omega) (fun e=>hm (e▸b)),b⟩,fun ⟨a,b⟩=>⟨by omega,b⟩⟩;simp only[e]
theorem af7 {P:List (List Nat)} (hu:u<n) (h:¬u<k):(kd P n v k)[u]? =some (ia P u v):=by
 simp[kd,hu,h]
theorem af6 (P:List (List Nat)) (n v k:Nat):(kd P n v k).length=n:=by simp[kd]
theorem Wy (P:List (List Nat)) (n v:Nat):(lq P n v).length=n:=by simp[lq]
theorem LA {P:List (List Nat)} (hP:∀v,∀u∈P.getD v [],u<n) (hv:v<n):∀u∈gP P v,u<n:=fun u hu=>by
 rcases dG.1 hu with rfl |h
 ·exact hv
 ·exact hP v u h
theorem Kv {P:List (List Nat)} (hP:∀v,∀u∈P.getD v [],u<n) (u:Nat):∀v,v<=n ->∀x∈ia P u v,x<n
 |0,_,x,hx=>by simp[ia] at hx
 |v+1,hv,x,hx=>by
  rw[ia] at hx;by_cases h:u∈gP P v
  ·rw[aA h] at hx;rcases cI.1 hx with h2 |h2
   ·exact Kv hP u v (by omega) x h2
   ·exact LA hP (by omega) x (dE.1 h2).1
  ·rw[aD h] at hx;exact Kv hP u v (by omega) x hx
theorem aaI {W:World} {p:Addr} {o:Obj} (h:W.cell? p=some x) (ho:W.heap[r]? =some o) (hc:o.isCells=false):(W.putObj r o').cell? p=some x:=by
 have hne:p.block≠r:=fun e=>by
  rw[World.cell?,e,ho] at h;cases o<;>simp_all [Obj.isCells]
 rw[<- h];exact lQ (vG hne)
theorem aC.putObj {W:World} {d:Option Addr} {o:Obj} (h:aC W d l) (ho:W.heap[r]? =some o) (hc:o.isCells=false):aC (W.putObj r o') d l:=fun k hk=>by
 obtain⟨g,q,h1,h2,h3⟩:=h k hk;exact⟨g,q,h1,by simpa using h2,aaI h3 ho hc⟩
theorem fC.putObj {W:World} {o:Obj} (h:fC W a L) (ho:W.heap[r]? =some o) (hc:o.isCells=false):fC (W.putObj r o') a L:=fun k hk=>by
 obtain⟨g,q,b,c,h1,h2,h3,h4⟩:=h k hk;exact⟨g,q,b,c,h1,by simpa using h2,aaI h3 ho hc,h4.putObj ho hc⟩
def wS (w:World) (R n:Nat) (l:List Nat) (W:World):Prop:=b9 W R l/\Boxed W (R+1) 109 (.slice (some ⟨R,0,none⟩) n n)/\Below R w W
theorem wS.own {β:Type} {R B:Nat} (f:β ->List Nat) (hB:R<=B) (hw:R<=w.heap.size):OwnFrom B (fun (s:β) W=>wS w R n (f s) W):=
 eC (fD (JX _ f) _) (eC (fD (iW _ _ (fun _=>_)) _) (fun _ _ _ _ hs hg hr=>hs.grown hg (aL hw hs.size) (fun k e=>aL hB (hr k e).1)))
theorem wS.aa {W:World} {R:Nat} {l:List Nat} (h:wS w R n l W) (hb:Below W.heap.size W W'):wS w R n l W':=⟨h.1.aa hb h.1.lt,uT h.2.1 hb h.2.1.lt,h.2.2.trans (hb.af (xG h.1.lt))⟩
def MoR (L:List (List Int)) (e:Ending) (w':World):Prop:=
 (bQ L≠0/\e=.returned (.tuple #[.slice none 0 0,.int .i64 (bQ L)]))∨
 (bQ L=0/\∃G,e=.returned (.tuple #[.slice (some ⟨G,0,none⟩) L.length L.length,.int .i64 0])/\fC w' (some ⟨G,0,none⟩) ((lq (aI L) L.length L.length).map fj))
theorem ail (a:Option Addr) (ca:Nat) (L:List (List Int)) (w:World) (h:fC w a L) (hl:∀l∈L,l.length<=140737488355328):
  Calls Tryz.prog 93 #[.slice a L.length ca] w fun e w'=>MoR L e w'/\Below w.heap.size w w':=by
 refine(fZ (n:=6)).1 ?_;obtain⟨i0,bY,hz0,hz1,hz2⟩:=dH Tryz.infoSet;have HR:=hid (QW a ca L w h hl);have hn:(aI L).length=L.length:=jI L;have EL:Hid (bQ L=0 ->∀v,∀u∈(aI L).getD v [],u<L.length):=fun hg v u hu=>(DD (tz hg)).at v u hu;have AH:Hid (bQ L=0 ->L.length<=8):=fun hg=>(pP (tz hg)).2.1;have HMK:Hid (jb L=(aI L).map az):=DI L;have HMR:Hid (∀e w',MoR L e w'=((bQ L≠0/\e=.returned (.tuple #[.slice none 0 0,.int .i64 (bQ L)]))∨(bQ L=0/\∃G,e=.returned (.tuple #[.slice (some ⟨G,0,none⟩) L.length L.length,.int .i64 0])/\fC w' (some ⟨G,0,none⟩) ((lq (aI L) L.length L.length).map fj)))):=fun _ _=>rfl;generalize aI L=P at *;clear h hl;by_cases hg:bQ L=0
 case neg=>
  have SG:=hid hg;have hgb:(bQ L==0)=false:=by simpa using hg
  refine sG Tryz.func93 rfl trivial ?_ rfl;simp only[Tryz.ntmps93,lR,dI,k8,Nat.reduceAdd,Nat.reduceSub,lX,lW,lS,k9,gY,eE];gi_wp2_with (refine⟨trivial,?_⟩;gi_at_call 72;refine(fZ.2 HR.o).af ?_;rintro e w1 ⟨hb1,wD⟩;obtain rfl:=(wD.resolve_left fun h=>hg h.1).2)
  exact⟨_,results_tmp2 rfl _ _ _,.inl ⟨SG.o,rfl⟩,hb1⟩
 case pos=>
  have h8:=AH.o hg;have hmk:=fun V=>run_make_row' (P:=Tryz.prog) 109 115 (.int .u32 0) 4 Tryz.underlying109 Tryz.infoSet rfl .i64 .i64 L.length (by omega) (by omega) V;refine sG Tryz.func93 rfl trivial ?_ rfl;simp only[Tryz.ntmps93,lR,dI,k8,Nat.reduceAdd,Nat.reduceSub,lX,lW,lS,k9,gY,eE];gi_wp2_with (refine⟨trivial,?_⟩;gi_at_call 72;refine(fZ.2 HR.o).af ?_;rintro e w1 ⟨hb1,wD⟩;obtain⟨-,G,rfl,hG,hU⟩:=wD.resolve_right fun h=>h.1 hg)
  clear hmk;have rQ:=EL.o hg;rw[HMK.o] at hU;have Le:=hU.lt;have E0:=hid hg;have eU:=hid hb1
  have CR:Hid (∀(V:World) (v:Nat),Below w1.heap.size w1 V ->v<L.length ->V.cell? ⟨G,v,none⟩=some (.int .u32 (az (P.getD v []):Nat))):=fun V v hB hv=>by
   have:=(hU.aa hB Le).cell v (by rw[cX];omega);rwa [BC (by omega)] at this
  have HFS:Hid (∀v,v<L.length ->∀u∈gP P v,u<L.length):=fun v hv=>LA rQ hv;have Cy:=hid (fun (v:Nat) (hv:v<L.length) (U:World)=>Dr (P.getD v []) v U (fun u hu=>by have:=rQ v u hu;omega) (by omega));have HFM:Hid (∀v,v::P.getD v []=gP P v):=fun v=>rfl;have kT:=hid (fun (v:Nat) (hv:v<L.length) (u:Nat) (hu:u<8) (U:World)=>FZ (gP P v) u U (fun x hx=>by have:=LA rQ hv x hx;omega) hu);have IU:=hid (fun (v u:Nat) (hv:v<L.length)=>Rm (ia P u v) ((gP P v).filter fun x=>decide (x≠u)) (fun x hx=>by have:=Kv rQ u v (by omega) x hx;omega) (H3 (fun x hx=>by have:=LA rQ hv x hx;omega) _))
  have CW:Hid (∀(V:World) (g v k u:Nat),u<L.length ->¬u< k ->b9 V g ((kd P L.length v k).map az) ->V.cell? ⟨g,u,none⟩=some (.int .u32 (az (ia P u v):Nat))/\V.frozen? ⟨g,u,none⟩=false):=fun V g v k u hu hne hR=>by
   (have h1:u<(kd P L.length v k).length:=by rw[af6];exact hu);have h2:=hR.cell u (by rw[cX];exact h1);obtain⟨h3,h4⟩:=nY.1 (af7 (P:=P) (v:=v) hu hne);rw[lV,h4] at h2;exact⟨h2,hR.fz u⟩
  have jV:Hid (∀(V:World) (g v k:Nat),k∈gP P v ->b9 V g ((kd P L.length v k).map az) ->b9 (V.setCell ⟨g,k,none⟩ (.int .u32 (az (ia P k v++(gP P v).filter (fun x=>decide (x≠k))):Nat))) g ((kd P L.length v (k+1)).map az)):=fun V g v k hm hR=>by
   have:=hR.set k (az (ia P k v++(gP P v).filter (fun x=>decide (x≠k))));rwa [af4 hm,A5]
  have gG:Hid (∀v k,¬k∈gP P v ->kd P L.length v (k+1)=kd P L.length v k):=fun v k h=>af5 h;have HZ:=hid (fun v=>af3 P L.length v);have HA:=hid (fun v=>af8 (P:=P) (v:=v) h8)
  have hz:(lq P L.length 0).map az=List.replicate L.length 0:=by
   apply rz (by simp[lq]);intro i h1 h2;simp[lq,ia,az]
  have CP:Hid (∀(R:Nat) (U:World),b9 U R ((lq P L.length L.length).map az) ->Calls Tryz.prog 146 #[.slice (some ⟨R,0,none⟩) L.length L.length] U fun e w'=>∃G,e=.returned (.slice (some ⟨G,0,none⟩) L.length L.length)/\U.heap.size<=G/\fC w' (some ⟨G,0,none⟩) ((lq P L.length L.length).map fj)/\Below U.heap.size U w'):=fun R U hR=>by
   have:=WS (some ⟨R,0,none⟩) L.length (lq P L.length L.length) U (fun p hp u hu=>by
    obtain⟨x,_,rfl⟩:=aW.1 hp;have:=Kv rQ x L.length (aq _) u hu
    omega) (by rw[Wy];omega) (fun k hk=>⟨R,0,rfl,hR.lt,by
     have:=hR.cell k (by rw[cX];exact hk);rw[bD,this,lV]⟩)
   rwa [Wy] at this
  clear hU hg hb1 EL AH HMK rQ HR;generalize L.length=n at *;obtain⟨W2,hW2⟩:∃W2,W2=(w1.alloc (.cells (madeCells #[.int .u32 0] n) 115)).alloc (.cells #[.slice (some ⟨w1.heap.size,0,none⟩) n n] 109):=⟨_,rfl⟩
  have hL2:wS w1 w1.heap.size n ((lq P n 0).map az) W2:=by
   rw[hW2,hz];refine⟨?_,?_,((au _ w1).alloc (aq _) _).alloc (by simp) _⟩
   ·have h:=im w1 (.cells (madeCells #[.int .u32 0] n) 115)
    have e:(madeCells #[.int .u32 0] n).toList=(List.replicate n (0:Nat)).map uv:=by
     have:=OD n;rwa [nW] at this
    (have e2:madeCells #[Value.int .u32 0] n=((List.replicate n (0:Nat)).map uv).toArray:=by rw[<- e]);rw[b9,rB _ _ _ (by simp),h,e2]
   ·have h:=aY (w1.alloc (.cells (madeCells #[.int .u32 0] n) 115)) 109 (.slice (some ⟨w1.heap.size,0,none⟩) n n);rwa [di] at h
  rw[<- hW2];have hs2:W2.heap.size=w1.heap.size+2:=by rw[hW2];simp
  have oQ:=hid hL2;clear hW2 hL2 hz;refine wpIn_loop (fun a' w'=>∃(v:Nat) (ds:List Deferred) (u7 u8 u24 FM u26 FK u28 xP FH FE u32 Dh:Value),a'= {tmps:= #[.slice a n ca,undef,.slice none 0 0,.int .i64 0,.slice (some ⟨G,0,none⟩) n n,.int .i64 0,.pointer (some ⟨w1.heap.size+1,0,none⟩),u7,u8,undef,.tuple #[.slice (some ⟨G,0,none⟩) n n,.int .i64 0],.slice a n ca,.tuple #[.slice (some ⟨G,0,none⟩) n n,.int .i64 0],.slice (some ⟨G,0,none⟩) n n,.int .i64 0,.int .i64 0,.bool false,undef,.slice (some ⟨G,0,none⟩) n n,.int .i64 (n:Nat),.slice (some ⟨w1.heap.size,0,none⟩) n n,.slice (some ⟨G,0,none⟩) n n,.int .i64 (n:Nat),.int .i64 (v:Nat),u24,FM,u26,FK,u28,xP,FH,FE,u32,undef,undef,undef,undef,undef,undef,undef,undef,undef,undef,Dh,undef,undef],defers:=ds}/\v<=n/\Hid (wS w1 w1.heap.size n ((lq P n v).map az) w')/\Hid (Shut (w1.heap.size+2) w'.heap.size ds w')) (fun a' _=>n - (intOf (a'.tmps.getD 23 undef)).toNat) ?_ ?_
  ·exact⟨0,[],_,_,_,_,_,_,_,_,_,_,_,_,rfl,aU _,oQ,trivial⟩
  intro a' wr hinv;obtain⟨v,ds,u7,u8,u24,FM,u26,FK,u28,xP,FH,FE,u32,Dh,rfl,hv,kX,oO⟩:=hinv;clear oQ;by_cases hlt:v<n
  ·have kv:=CR.o wr v kX.o.2.2 hlt;have hs:=HFS.o v hlt;(have DW:∀u∈gP P v,u<8:=fun u hu=>by have:=hs u hu;omega);have aa9:=hid (Cy.o v hlt);rw[HFM.o v] at aa9;have akT:=hid (kT.o v hlt);have ala:=hid (fun u=>IU.o v u hlt);have SX:=hid (fun V g k u=>CW.o V g v k u);have RX:=hid (fun V g k=>jV.o V g v k);have Sl:=hid (fun k=>gG.o v k);have Qk:=HZ.o v;have QI:=HA.o v;have cP:w1.heap.size+1<wr.heap.size:=kX.o.2.1.lt;generalize az (P.getD v [])=mp at *;generalize gP P v=fm at *;gi_wp2_with (refine⟨trivial,?_⟩;gi_at_call 143;refine(fZ.2 (aa9.o _)).af ?_;rintro e w4 ⟨rfl,hw4⟩;subst hw4)
   obtain⟨W3,hW3⟩:∃W3,W3=wr.alloc (.cells #[.int .u32 (az fm:Nat)] 115):=⟨_,rfl⟩;(have b8:Boxed W3 wr.heap.size 115 (.int .u32 (az fm:Nat)):=by rw[hW3];exact aY wr _ _);(have hb3:Below wr.heap.size wr W3:=by rw[hW3];exact(au _ wr).alloc (aq _) _);(have hs3:W3.heap.size=wr.heap.size+1:=by rw[hW3];simp);rw[<- hW3];have hL3:=kX.o.aa hb3;have Hf:=(oO.o.aa hb3).af (show wr.heap.size<=W3.heap.size by omega);rw[<- Qk] at hL3;clear hW3 kv kX oO
   refine Bc (by omega) fm DW rfl rfl
    (fun k V=>wS w1 w1.heap.size n ((kd P n v k).map az) V/\Boxed V wr.heap.size 115 (.int .u32 (az fm:Nat))/\(W3.heap.size<=V.heap.size/\Shut (w1.heap.size+2) W3.heap.size ds V))
    (eC (wS.own (fun k:Nat=>(kd P n v k).map az) (by omega) (aq _)) (eC (fD (iW _ _ (fun _=>_)) _) Nx))
    ⟨hL3,b8,aq _,Hf⟩
    (fun k=> {tmps:= #[.slice a n ca,undef,.slice none 0 0,.int .i64 0,.slice (some ⟨G,0,none⟩) n n,.int .i64 0,.pointer (some ⟨w1.heap.size+1,0,none⟩),.int .i64 (v:Nat),.pointer (some ⟨wr.heap.size,0,none⟩),.int .i64 (k:Nat),.tuple #[.slice (some ⟨G,0,none⟩) n n,.int .i64 0],.slice a n ca,.tuple #[.slice (some ⟨G,0,none⟩) n n,.int .i64 0],.slice (some ⟨G,0,none⟩) n n,.int .i64 0,.int .i64 0,.bool false,undef,.slice (some ⟨G,0,none⟩) n n,.int .i64 (n:Nat),.slice (some ⟨w1.heap.size,0,none⟩) n n,.slice (some ⟨G,0,none⟩) n n,.int .i64 (n:Nat),.int .i64 (v:Nat),.bool true,.int .i64 (v:Nat),.pointer (some ⟨G,v,none⟩),.int .u32 (mp:Nat),.int .u32 (mp:Nat),.int .i64 (v:Nat),.int .u32 (az fm:Nat),.int .u32 (az fm:Nat),.func (.func 144) #[.int .u32 (az fm:Nat)] #[],.int .i64 (k:Nat),undef,undef,undef,undef,undef,undef,undef,undef,undef,Dh,undef,undef],defers:=[]}) ?assign ?body ?skip ?done
   case assign=>
    intro l k W K hK;gi_wp2
    exact hK
   case body=>
    rintro l k V hk hm ⟨h0,h4,uq,nC⟩;have hkn:=hs k hm;have k1:=h0.2.1.cell;have k4:=h4.cell;obtain⟨kU,fU⟩:=SX.o V w1.heap.size k k hkn (by omega) h0.1;have Cx:=hid (akT.o k hk);have Zt:=ala.o k;have tH:=hid (fun W hW=>RX.o W w1.heap.size k hm hW);generalize az (ia P k v++fm.filter (fun x=>decide (x≠k)))=m1 at *;generalize az (fm.filter fun x=>decide (x≠k))=m2 at *;generalize az (ia P k v)=m0 at *;generalize az fm=mf at *;gi_wp2_with fail
    refine vU (fun u=>u.cell? ⟨w1.heap.size+1,0,none⟩=some (.slice (some ⟨w1.heap.size,0,none⟩) n n)/\u.cell? ⟨wr.heap.size,0,none⟩=some (.int .u32 (mf:Nat))) (by kernel_rfl) (by kernel_rfl) (fun ⟨_,_,h⟩=>h) ⟨k1,k4⟩ ?_;intro ak;have hD:KeepsOthers V V.drew:=xK V;have q0:wS w1 w1.heap.size n ((kd P n v k).map az) V.drew:=⟨h0.1,h0.2.1,h0.2.2.drew⟩;have q4:Boxed V.drew wr.heap.size 115 (.int .u32 (mf:Nat)):=h4;have qS:Shut (w1.heap.size+2) W3.heap.size ds V.drew:=nC.keep fun _ _=>rfl;have qz:W3.heap.size<=V.drew.heap.size:=uq;have kU2:V.drew.cell? ⟨w1.heap.size,k,none⟩=some (.int .u32 (m0:Nat)):=kU;have fU2:V.drew.frozen? ⟨w1.heap.size,k,none⟩=false:=fU;clear k1 k4 kU fU h0 h4 nC uq b8 hb3 hL3 Hf;generalize V.drew=U0 at *;refine aw 0 (.slice (some ⟨w1.heap.size,0,none⟩) n n) ?_;refine aw 1 (.int .i64 (k:Nat)) ?_;refine aw 2 (.pointer (some ⟨w1.heap.size,k,none⟩)) ?_;refine aw 4 (.int .u32 (mf:Nat)) ?_;refine aw 5 (.int .i64 (k:Nat)) ?_;refine aH [3,6] (cA ?_ (cA ?_ aG))
    focus
     intro K' hK';go_simp;refine hK'.o _ _ ak (fun ah=>?_);clear hK' K' ah;refine aH [6] (cA ?_ aG);intro K' hK';go_simp;refine(Cx.o _).af ?_;rintro e U1 ⟨rfl,eB⟩;subst eB;refine hK'.o _ _ ak (fun ah=>?_);clear hK' K' ah;generalize U1=U0 at *
    rotate_left
    focus
     intro K' hK';go_simp;refine(Cx.o _).af ?_;rintro e U1 ⟨rfl,eB⟩;subst eB;refine hK'.o _ _ ak (fun ah=>?_);clear hK' K' ah;generalize U1=U0 at *;refine aH [3] (cA ?_ aG);intro K' hK';go_simp;refine hK'.o _ _ ak (fun ah=>?_);clear hK' K' ah
    all_goals
     refine aw 7 (.int .u32 (m1:Nat)) ?_;refine aw 8 (.pointer (some ⟨w1.heap.size,k,none⟩)) ?_;refine aH [9] (cA ?_ aG);intro K' hK';go_simp;refine hK'.o _ _ ⟨(iR q0.2.1 w1.heap.size k _ (by omega)).cell,(iR q4 w1.heap.size k _ (by omega)).cell⟩ (fun _=>eK (by kernel_rfl) ?_ _);clear hK' K' ak;gi_wp2
     exact⟨(hD.trans (jo U0 _ _)).from _,⟨tH.o U0 q0.1,iR q0.2.1 w1.heap.size k _ (by omega),q0.2.2.setCell (p:=⟨w1.heap.size,k,none⟩) (aq _) _⟩,iR q4 w1.heap.size k _ (by omega),by simpa using qz,qS.putAt (by omega) _⟩
   case skip=>
    rintro k V hk hm h;rw[Sl.o k hm];exact h
   case done=>
    rintro D V hD ⟨h0,h4,uq,nC⟩ hK;rw[QI] at h0;have yw:D<V.heap.size:=(dm.1 hK).1;have CC:Hid (Shut (w1.heap.size+2) V.heap.size ({target:=.collected D,args:= #[]}::ds) V):=⟨D,by omega,yw,rfl,hK,nC.af hD⟩;have I1:=hid h0;clear h0 h4 nC hK;gi_wp2
    refine⟨⟨v+1,_,_,_,_,_,_,_,_,_,_,_,_,_,rfl,by omega,I1,CC⟩,?_⟩;simp[intOf];omega
  ·obtain rfl:v=n:=by omega
   have kc:=kX.o.2.1.cell;have HLq:=hid (CP.o w1.heap.size wr kX.o.1);have cP:w1.heap.size+1<wr.heap.size:=kX.o.2.1.lt;gi_wp2_with (refine⟨trivial,?_⟩;gi_at_call 146;refine(fZ.2 HLq.o).af ?_;rintro e w5 ⟨G5,rfl,hG5,Zx,hb5⟩)
   have Cl:Below w.heap.size w w5:=(eU.o.trans (kX.o.2.2.af eU.o.size)).trans (hb5.af (aL eU.o.size (xG (Nat.lt_trans (Nat.lt_succ_self _) cP))));refine BF (lo:=w1.heap.size+2) (K:=fun W=>fC W (some ⟨G5,0,none⟩) ((lq P v v).map fj)/\Below w.heap.size w W) ?_ ?_ _ wr.heap.size w5 (oO.o.aa hb5) ⟨Zx,Cl⟩
   ·rintro W r ⟨hL,hB⟩ hr hd;exact⟨hL.putObj hd rfl,hB.trans (sH (w:=w) (aq _) W r _ _ (by have:=eU.o.size;omega) hd rfl rfl)⟩
   ·rintro Z ⟨hL,hB⟩;refine⟨_,results_tmp2 rfl _ _ _,?_,hB⟩;rw[HMR.o];exact .inr ⟨E0.o,G5,rfl,hL⟩
end
theorem Og {P:List (List Nat)} (h:po P (aR P k)=some v):¬v∈aR P k/\∀u∈P.getD v [],u∈aR P k:=by
 have:=List.find?_some h;rw[gO,iK,Bool.not_eq_true',Jj,eh] at this;exact this
theorem Oe (P:List (List Nat)):∀k,(aR P k).Nodup
 |0=>List.nodup_nil
 |k+1=>by
  rw[aR];cases e:po P (aR P k) with
  |none=>exact Oe P k
  |some v=>
   refine A4.2 ⟨Oe P k,by simp,fun a ha b hb=>?_⟩;rw[eD.1 hb];exact fun e'=>(Og e).1 (e'▸ha)
theorem Od {P:List (List Nat)}:∀k,v∈aR P k ->∃A B,aR P k=A++v::B/\¬v∈A/\∀u∈P.getD v [],u∈A
 |0,h=>by cases h
 |k+1,h=>by
  rw[aR] at h⊢;cases e:po P (aR P k) with
  |none=>
   rw[e] at h;exact Od k h
  |some w=>
   rw[e] at h;show ∃A B,aR P k++[w]=A++v::B/\_;rcases cI.1 h with h |h
   ·obtain⟨A,B,h1,h2,h3⟩:=Od k h;exact⟨A,B++[w],by rw[h1];simp,h2,h3⟩
   ·obtain rfl:=eD.1 h;exact⟨aR P k,[],rfl,(Og e).1,(Og e).2⟩
def ue (P:List (List Nat)) (v:Nat):Nat:=(aR P P.length).idxOf v
theorem adA {P:List (List Nat)} (hv:v∈aR P P.length) (hu:u∈P.getD v []):ue P u<ue P v:=by
 obtain⟨A,B,h1,h2,h3⟩:=Od P.length hv;have hA:=h3 u hu;rw[ue,ue,h1,List.idxOf_append,List.idxOf_append,aA hA,aD h2,List.idxOf_cons_self,bD];exact List.idxOf_lt_length_of_mem hA
theorem Ll (h:bQ L=0):gB L=true/\∀v,v<L.length ->v∈aR (aI L) (aI L).length:=by
 have hg:=tz h;refine⟨hg,fun v hv=>?_⟩;rw[bQ,aA hg] at h;have hl:¬(aR (aI L) L.length).length<L.length:=fun hc=>by rw[aA hc] at h;cases h
 rw[jI];refine A8 fun hno=>?_
 have:=Ku (l:=v::aR (aI L) L.length) (m:=List.range L.length) (mU.2 ⟨hno,Oe _ _⟩) fun x hx=>by
  rcases dG.1 hx with rfl |hx
  ·exact cH.2 hv
  ·have:=Bo (aI L) L.length x hx;rw[jI] at this;exact cH.2 this
 rw[dI,A6] at this;omega
theorem VA (hg:gB L=true) (h:u∈(aI L).getD v []):u<L.length/\v<L.length:=by
 have hv:v<L.length:=by
  rcases cT v L.length with h1 |h1
  ·exact h1
  ·rw[bU,iJ (by rw[jI];exact h1)] at h;cases h
 refine⟨?_,hv⟩;rw[bU,a8 (by rw[jI];exact hv)] at h;exact F6 hg _ (bM _) u h
theorem NB (h:bQ L=0) (hu:u∈(aI L).getD v []):ue (aI L) u<ue (aI L) v:=
 adA ((Ll h).2 v (VA (Ll h).1 hu).2) hu
theorem adz (h:bQ L=0) (hv:v<L.length):ue (aI L) v<L.length:=by
 have h1:=List.idxOf_lt_length_of_mem ((Ll h).2 v hv);have h2:=Dx (aI L) (aI L).length;rw[jI] at h2;rw[ue];rw[jI] at h1⊢;omega
theorem akz (h:bQ L=0) (ha:jX (fun u v=>u∈(aI L).getD v []) u v):ue (aI L) u<ue (aI L) v:=by
 induction ha using jX.ind with
 |one hp=>exact NB h hp
 |more _ hp ih=>exact Nat.lt_trans ih (NB h hp)
theorem RD {P:List (List Nat)}:∀ {r:Nat} (d:Nat),u∈fK P s r ->u∈fK P s (r+d)
 |_,0,h=>h
 |r,d+1,h=>by
  show u∈ml P (fK P s (r+d)) 8;exact List.mem_append_left _ (RD d h)
theorem akD (h:bQ L=0) (h8:L.length<=8):∀m j v,ue (aI L) v<=m ->v<L.length ->v∈fK (aI L) s j ->∀a,jX (fun u v=>u∈(aI L).getD v []) a v ->a∈fK (aI L) s (j+m):=fun m=>by
 induction m with
 |zero=>
  intro j v hm _ _ a ha;have:=akz h ha;omega
 |succ m ih=>
  intro j v hm hv hs a ha;have one:∀w,w∈(aI L).getD v [] ->w∈fK (aI L) s (j+1):=fun w hw=>List.mem_append_right _ (List.mem_flatMap.2 ⟨v,DG.2 ⟨by omega,hs⟩,hw⟩);rcases jX.last ha with hp |⟨w,h1,hp⟩
  ·rw[show j+(m+1)=(j+1)+m by omega];exact RD m (one a hp)
  ·have:=NB h hp;rw[show j+(m+1)=(j+1)+m by omega];exact ih (j+1) w (by omega) (VA (Ll h).1 hp).1 (one w hp) a h1
theorem aa2 (h:bQ L=0) (h8:L.length<=8) (hs:∀v∈s,v<L.length) (a:Nat):a∈fK (aI L) s L.length↔∃b∈s,a=b∨jX (fun u v=>u∈(aI L).getD v []) a b:=by
 constructor
 ·have:∀r a,a∈fK (aI L) s r ->∃b∈s,a=b∨jX (fun u v=>u∈(aI L).getD v []) a b:=fun r=>by
   induction r with
   |zero=>exact fun a ha=>⟨a,ha,.inl rfl⟩
   |succ r ih=>
    intro a ha;rcases cI.1 ha with ha |ha
    ·exact ih a ha
    ·obtain⟨v,hv,hp⟩:=List.mem_flatMap.1 ha;obtain⟨b,hb,h1⟩:=ih v (DG.1 hv).2;refine⟨b,hb,.inr ?_⟩;rcases h1 with rfl |h1
     ·exact .one hp
     ·clear hb;induction h1 using jX.ind with
      |one h2=>exact .more (.one hp) h2
      |more _ h2 OS=>exact .more OS h2
  exact this _ a
 ·rintro⟨b,hb,rfl |ha⟩
  ·have:=RD (P:=aI L) (s:=s) (r:=0) L.length hb;rwa [bD] at this
  ·have h1:=adz h (hs b hb);have:=akD h h8 L.length 0 b (by omega) (hs b hb) hb a ha;rwa [bD] at this
def Oz (P:List (List Nat)) (n v u:Nat):Bool:=(decide (u∈P.getD v []) ||decide (v∈P.getD u [])) ||(List.range n).any fun w=>decide (u∈P.getD w [])&&decide (v∈P.getD w [])
theorem Gf {P:List (List Nat)} {u x:Nat}:∀ {n:Nat},x∈ia P u n↔x≠u/\∃v,v<n/\u∈gP P v/\x∈gP P v
 |0=>by simp[ia]
 |n+1=>by
  have ih:=Gf (P:=P) (u:=u) (x:=x) (n:=n);rw[ia];by_cases h:u∈gP P n
  ·rw[aA h,cI,ih,dE,eh];constructor
   ·rintro(⟨a,v,b,c⟩ |⟨a,b⟩)
    ·exact⟨a,v,by omega,c⟩
    ·exact⟨b,n,by omega,h,a⟩
   ·rintro⟨a,v,b,c,d⟩;rcases cT v n with h1 |h1
    ·exact .inl ⟨a,v,h1,c,d⟩
    ·rw[show v=n by omega] at d;exact .inr ⟨d,a⟩
  ·rw[aD h,ih];refine and_congr_right fun _=>⟨fun ⟨v,a,b⟩=>⟨v,by omega,b⟩,fun ⟨v,a,b,c⟩=>⟨v,?_,b,c⟩⟩;rcases cT v n with h1 |h1
   ·exact h1
   ·rw[show v=n by omega] at b;exact absurd b h
theorem af2 {P:List (List Nat)} (hu:u<n) (hv:v<n):u∈ia P v n↔(Oz P n v u&&decide (u≠v))=true:=by
 rw[Gf,iK,eh,Oz,Bool.or_eq_true,Bool.or_eq_true,eh,eh,sJ];constructor
 ·rintro⟨hne,w,hw,h1,h2⟩;refine⟨?_,hne⟩;rcases dG.1 h1 with rfl |h1
  ·rcases dG.1 h2 with rfl |h2
   ·exact absurd rfl hne
   ·exact .inl (.inl h2)
  ·rcases dG.1 h2 with rfl |h2
   ·exact .inl (.inr h1)
   ·exact .inr ⟨w,cH.2 hw,by rw[cS h2,cS h1];rfl⟩
 ·rintro⟨(h1 |h1) |⟨w,hw,h1⟩,hne⟩
  ·exact⟨hne,v,hv,dB,dF _ h1⟩
  ·exact⟨hne,u,hu,dF _ h1,dB⟩
  ·rw[iK,eh,eh] at h1;exact⟨hne,w,cH.1 hw,dF _ h1.2,dF _ h1.1⟩
def Wx (P:List (List Nat)) (n v u:Nat):List Nat:=(List.range u).filter fun u=>Oz P n v u&&decide (u≠v)
theorem af1 {P:List (List Nat)} (hP:∀v,∀u∈P.getD v [],u<n/\v<n) (h8:n<=8) (hv:v<n):iL (Wx P n v n)=fj (ia P v n):=by
 have hlt:∀x,x∈ia P v n ->x<n:=fun x hx=>by
  obtain⟨_,w,hw,_,h2⟩:=Gf.1 hx;rcases dG.1 h2 with rfl |h2
  ·exact hw
  ·exact(hP _ _ h2).1
 have e:∀d,eo (ia P v n) (n+d)=eo (ia P v n) n:=fun d=>by
  induction d with
  |zero=>rfl
  |succ d ih=>
   rw[show n+(d+1)=(n+d)+1 by omega,Kz,ih];intro hm;have:=hlt _ hm;omega
 have e8:=e (8 - n);rw[show n+(8 - n)=8 by omega] at e8;rw[fj,e8,Wx,eo];congr 1
 refine List.filter_congr fun u hu=>tZ.2 ?_;rw[<- af2 (cH.1 hu) hv,eh]
theorem adD (p:Nat ->Bool) (n:Nat):dR (iL ((List.range n).filter p)) n=true:=by
 have hs:((List.range n).filter p).Pairwise (·<·):=List.Pairwise.filter _ List.pairwise_lt_range;refine fE.2 fun i hi=>?_;have hi':i<((List.range n).filter p).length:=by rw[cH,bs] at hi;exact hi
 have hg:∀j (hj:j<((List.range n).filter p).length),(iL ((List.range n).filter p)).getD j 0=(((List.range n).filter p)[j]:Int):=fun j hj=>by
  rw[bU,iL,kD,a8 hj];rfl
 refine cS ⟨?_,?_,fun h0=>?_⟩
 ·rw[hg i hi'];omega
 ·rw[hg i hi'];have:=cH.1 (dE.1 (bM hi')).1;omega
 ·rw[hg i hi',hg (i - 1) (by omega)];have:=(vK.1 hs) (i - 1) i (by omega) hi' (by omega);omega
def lr (L:List (List Int)):List (List Int):=(lq (aI L) L.length L.length).map fj
theorem xZ (L:List (List Int)):(lr L).length=L.length:=by simp[lr,lq]
theorem agb (hv:v<L.length):(aI (lr L)).getD v []=eo (ia (aI L) v L.length) 8:=by
 rw[bU,aI,kD,lr,kD,lq,kD,List.getElem?_range hv];show ag (fj _)=_;rw[fj,fF]
theorem OA (hg:gB L=true):∀v,∀u∈(aI L).getD v [],u<L.length/\v<L.length:=fun v u hu=>by
 refine⟨(DD hg).at v u hu,?_⟩;by_cases h:v<L.length
 ·exact h
 ·rw[bU,iJ (by rw[jI];omega)] at hu;cases hu
theorem Kw (h8:L.length<=8) (hv:v<L.length) (hu:u<L.length):u∈(aI (lr L)).getD v []↔u≠v/\∃x,x<L.length/\v∈gP (aI L) x/\u∈gP (aI L) x:=by
 rw[agb hv,DG,Gf];exact⟨fun h=>h.2,fun h=>⟨by omega,h⟩⟩
theorem WA (hg:gB L=true) (h1:1<=L.length) (h8:L.length<=8):gB (lr L)=true:=by
 refine aip (by rw[xZ];exact h1) (by rw[xZ];exact h8) fun i hi=>?_;have hi':i<L.length:=by rwa [xZ] at hi
 have e:(lr L)[i]=fj (ia (aI L) i L.length):=by simp[lr,lq]
 rw[e,xZ];refine⟨?_,?_⟩
 ·rw[<- af1 (OA hg) h8 hi'];exact adD _ _
 ·rw[fj,fF,DG,Gf];exact fun h=>h.2.1 rfl
theorem aga (hg:gB L=true) (h1:1<=L.length) (h8:L.length<=8):rE (lr L)=true:=by
 refine(afv (WA hg h1 h8)).2 fun v u hv hu=>?_;rw[xZ] at hv hu;rw[AW,Kw h8 hv hu,Kw h8 hu hv];exact⟨fun ⟨h,x,a,b,c⟩=>⟨fun e=>h e.symm,x,a,c,b⟩,fun ⟨h,x,a,b,c⟩=>⟨fun e=>h e.symm,x,a,c,b⟩⟩
def gJ (L:List (List Int)):List Nat:=(bt (aI (lr L)) (lr L).length (lr L).length).ord
theorem VS (hg:gB L=true) (h1:1<=L.length) (h8:L.length<=8):aa5 L.length (jJ (aI (lr L)) L.length) (Wi (aI (lr L)) L.length):=by
 have hN:qT L.length (aI (lr L)):=by have:=DD (WA hg h1 h8);rwa [xZ] at this
 refine aiV hN (fun u hu w hw=>?_) h8;have hw':=hN.at u w hw;rw[Kw h8 hu hw'] at hw;rw[Kw h8 hw' hu];obtain⟨h,x,a,b,c⟩:=hw;exact⟨fun e=>h e.symm,x,a,c,b⟩
theorem Kr (L:List (List Int)):gJ L=(List.range L.length).map (jJ (aI (lr L)) L.length):=by rw[gJ,xZ,Z3]
theorem VU (hg:gB L=true) (h1:1<=L.length) (h8:L.length<=8):(gJ L).Nodup:=by
 rw[Kr,List.Nodup,C9];refine List.Pairwise.imp_of_mem (fun {i j} hi hj hne e=>?_) (Da (n:=L.length));exact hne ((VS hg h1 h8).inj i j (cH.1 hi) (cH.1 hj) e)
theorem VW (hg:gB L=true) (h1:1<=L.length) (h8:L.length<=8) (hv:v<L.length):v∈gJ L:=by
 obtain⟨i,hi,e⟩:=(VS hg h1 h8).all v hv;rw[Kr];exact aW.2 ⟨i,cH.2 hi,e⟩
variable {D E c d:Nat}
def dS (D:Nat) (q:Rat):Prop:=∃z:Int,q=mkRat z D
theorem dS.own (q:Rat):dS q.den q:=⟨q.num,(Rat.mkRat_self q).symm⟩
theorem dS.zero (D:Nat):dS D 0:=⟨0,by simp⟩
theorem dS.one:dS 1 1:=⟨1,rfl⟩
theorem dS.add (hp:dS D p) (hq:dS D q):dS D (p+q):=by
 obtain⟨x,rfl⟩:=hp;obtain⟨y,rfl⟩:=hq;refine⟨x+y,?_⟩;rw[Rat.mkRat_eq_div,Rat.mkRat_eq_div,Rat.mkRat_eq_div,rp,rp,rp, <- Rat.add_mul,Rat.intCast_add]
theorem dS.mul (hp:dS D p) (hq:dS E q):dS (D*E) (p*q):=by
 obtain⟨x,rfl⟩:=hp;obtain⟨y,rfl⟩:=hq;exact⟨x*y,Rat.mkRat_mul_mkRat ..⟩
theorem dS.times (hD:D≠0) (h:dS D q) (hE:E≠0):dS (D*E) q:=by
 obtain⟨x,rfl⟩:=h;refine⟨x*E,?_⟩;rw[Rat.mkRat_eq_iff hD (AZ hD hE),jG,Int.mul_assoc,Int.mul_comm (E:Int)]
theorem dS.dvd (hD:D≠0) (h:dS D q):q.den∣D:=by
 obtain⟨x,rfl⟩:=h;rw[<- Rat.normalize_eq_mkRat hD,Rat.normalize_eq];exact Nat.div_dvd_of_dvd (Nat.gcd_dvd_right _ _)
def jW (c:Nat) (q:Rat):Prop:=0<=q/\q<=(c:Rat)
theorem dS.size (hD:D≠0) (h:dS D q) (hb:jW c q):qw q<=2*(B D).size+(B c).size:=by
 have hd:=Nat.le_of_dvd (jZ hD) (h.dvd hD);have h1:=(Rat.le_iff _ _).1 hb.2;have h2:=Rat.num_nonneg.2 hb.1
 have h3:q.num.natAbs<=c*D:=by
  have e1:((c:Nat):Rat).num=(c:Int):=rfl;have e2:((c:Nat):Rat).den=1:=rfl;rw[e1,e2] at h1;have h4:(c:Int)*(q.den:Int)<=(c:Int)*(D:Int):=Int.mul_le_mul_of_nonneg_left (Int.ofNat_le.2 hd) (Jz c)
  have h5:q.num<=(c:Int)*(D:Int):=by
   (have:q.num*((1:Nat):Int)=q.num:=by simp);rw[this] at h1;exact Int.le_trans h1 h4
  have h6:((q.num.natAbs:Nat):Int)=q.num:=Int.natAbs_of_nonneg h2;have h7:((q.num.natAbs:Nat):Int)<=((c*D:Nat):Int):=by rw[h6,jG];exact h5
  exact Int.ofNat_le.1 h7
 have s1:=i6 h3;have s2:=o6 c D;have s3:=i6 hd;simp only[qw];omega
theorem jW.mul (hp:jW c p) (hq:jW d q):jW (c*d) (p*q):=by
 refine⟨Ff hp.1 hq.1,?_⟩;rw[Rat.natCast_mul];exact Fh (Rat.mul_le_mul_of_nonneg_right hp.2 hq.1) (S8 hq.2 (Fh hp.1 hp.2))
theorem jW.add (hp:jW c p) (hq:jW d q):jW (c+d) (p+q):=by
 refine⟨Rat.add_nonneg hp.1 hq.1,?_⟩;rw[Rat.natCast_add];exact Fh (Rat.add_le_add_right.2 hp.2) (Rat.add_le_add_left.2 hq.2)
theorem dS.sum {g:Nat ->Rat}:∀ {k:Nat},(∀x,x< k ->dS D (g x)) ->dS D (ba g k)
 |0,_=>dS.zero D
 |k+1,h=>by rw[ba];exact(dS.sum fun x hx=>h x (by omega)).add (h k (Nat.lt_succ_self k))
theorem jW.sum {g:Nat ->Rat}:∀ {k:Nat},(∀x,x< k ->jW c (g x)) ->jW (k*c) (ba g k)
 |0,_=>by rw[ba,mC];exact⟨C7,C7⟩
 |k+1,h=>by rw[ba,Nat.succ_mul];exact(jW.sum fun x hx=>h x (by omega)).add (h k (Nat.lt_succ_self k))
def mj (S:List Nat):List (Nat×Nat) ->List Tb ->List Tb
 |[],P=>P
 |p::l,P=>mj S l (P.map (jS S p.1 p.2))
def jM (free:List Nat):List (Nat×Nat) ->List Nat
 |[]=>free
 |p::l=>jM (free.filter fun u=>!(u==p.1)) l
theorem KF:∀ {l:List (Nat×Nat)} {free:List Nat},u∈jM free l↔u∈free/\¬u∈l.map (·.1)
 |[],free=>⟨fun h=>⟨h,kC⟩,fun h=>h.1⟩
 |p::l,free=>by
  rw[jM,KF,fQ,dG,not_or,dE,and_assoc];refine and_congr Iff.rfl (and_congr ?_ Iff.rfl);simp
theorem OI:∀ {l:List (Nat×Nat)} {free:List Nat},free.Nodup ->(jM free l).Nodup
 |[],_,h=>h
 |p::l,free,h=>by rw[jM];exact OI (h.filter _)
theorem PI.fixes (hp:Pos S):∀ {l:List (Nat×Nat)} {free:List Nat} {P:List Tb} {F:(Nat ->Nat) ->Rat},(l.map (·.1)).Nodup ->(∀p∈l,p.2<sz S p.1) ->PI S n free P F ->PI S n (jM free l) (mj S l P) (fun g=>F (eG l g))
 |[],_,_,_,_,_,h=>h
 |p::l,free,P,F,hn,hx,h=>by
  rw[fQ,mU] at hn;have pJ:∀q∈l,q.1≠p.1:=fun q hq e=>hn.1 (by rw[<- e];exact aW.2 ⟨q,hq,rfl⟩);have:=PI.fixes hp hn.2 (fun q hq=>hx q (dF _ hq)) (h.fix hp (hx p dB));refine⟨this.ok,this.sub,this.sup,fun g hg=>?_⟩;rw[mj,this.val g hg];show F (aQ (eG l g) p.1 p.2)=F (eG l (aQ g p.1 p.2));rw[NW pJ]
theorem NN.fixes (hp:Pos S):∀ {l:List (Nat×Nat)} {P:List Tb},(∀p∈l,p.2<sz S p.1) ->(∀t∈P,df S n t) ->NN S P ->NN S (mj S l P)
 |[],_,_,_,h=>h
 |p::l,P,hx,ho,h=>by
  rw[mj]
  exact NN.fixes hp (fun q hq=>hx q (dF _ hq)) (fun t ht=>by
   obtain⟨s,hs,rfl⟩:=aW.1 ht;exact(ho s hs).fix _ _) (h.fix hp ho (hx p dB))
def i7 (S:List Nat) (most:Bool) (keep:Nat ->Bool):List Nat ->List Tb ->List Tb
 |[],P=>P
 |v::vs,P=>i7 S most keep vs (if keep v then P else j6 S v most P)
theorem VI:u∈free.filter (fun u=>!(u==v))↔u∈free/\u≠v:=by simp[dE]
theorem PI.outs (hp:Pos S) (keep:Nat ->Bool):∀(vs:List Nat) {free:List Nat} {P:List Tb} {F:(Nat ->Nat) ->Rat},PI S n free P F ->∃free',(∀u,u∈free'↔u∈free/\(u∈vs ->keep u=true))/\PI S n free' (i7 S false keep vs P) (Ep S (vs.filter fun v=>!keep v) F)
 |[],free,P,F,h=>⟨free,fun u=>⟨fun h=>⟨h,fun e=>absurd e kC⟩,fun h=>h.1⟩,h⟩
 |v::vs,free,P,F,h=>by
  cases hk:keep v with
  |true=>
   obtain⟨free',h1,h2⟩:=PI.outs hp keep vs h;refine⟨free',fun u=>(h1 u).trans (and_congr Iff.rfl ⟨fun h hu=>?_,fun h hu=>h (dF _ hu)⟩),?_⟩
   ·rcases dG.1 hu with rfl |hu
    ·exact hk
    ·exact h hu
   ·rw[i7,aA hk,zr (by simp[hk])];exact h2
  |false=>
   obtain⟨free',h1,h2⟩:=PI.outs hp keep vs (h.o hp v);refine⟨free',fun u=>(h1 u).trans ?_,?_⟩
   ·rw[VI,and_assoc];refine and_congr Iff.rfl ⟨fun h hu=>?_,fun h=>⟨fun e=>?_,fun hu=>h (dF _ hu)⟩⟩
    ·rcases dG.1 hu with e |hu
     ·exact absurd e h.1
     ·exact h.2 hu
    ·have:=h (by rw[e];exact dB);rw[e,hk] at this;exact absurd this (by decide)
   ·rw[i7,aD (by simp[hk]),zq (by simp[hk])];exact h2
theorem PI.mosts (hp:Pos S) (keep:Nat ->Bool):∀(vs:List Nat) {free:List Nat} {P:List Tb} {F:(Nat ->Nat) ->Rat},PI S n free P F ->NN S P ->∃free',(∀u,u∈free'↔u∈free/\(u∈vs ->keep u=true))/\PI S n free' (i7 S true keep vs P) (elimM S (vs.filter fun v=>!keep v) F)/\NN S (i7 S true keep vs P)
 |[],free,P,F,h,hn=>⟨free,fun u=>⟨fun h=>⟨h,fun e=>absurd e kC⟩,fun h=>h.1⟩,h,hn⟩
 |v::vs,free,P,F,h,hn=>by
  cases hk:keep v with
  |true=>
   obtain⟨free',h1,h2⟩:=PI.mosts hp keep vs h hn;refine⟨free',fun u=>(h1 u).trans (and_congr Iff.rfl ⟨fun h hu=>?_,fun h hu=>h (dF _ hu)⟩),?_⟩
   ·rcases dG.1 hu with rfl |hu
    ·exact hk
    ·exact h hu
   ·rw[i7,aA hk,zr (by simp[hk])];exact h2
  |false=>
   obtain⟨free',h1,h2⟩:=PI.mosts hp keep vs (h.most hp hn v).1 (h.most hp hn v).2;refine⟨free',fun u=>(h1 u).trans ?_,?_⟩
   ·rw[VI,and_assoc];refine and_congr Iff.rfl ⟨fun h hu=>?_,fun h=>⟨fun e=>?_,fun hu=>h (dF _ hu)⟩⟩
    ·rcases dG.1 hu with e |hu
     ·exact absurd e h.1
     ·exact h.2 hu
    ·have:=h (by rw[e];exact dB);rw[e,hk] at this;exact absurd this (by decide)
   ·rw[i7,aD (by simp[hk]),zq (by simp[hk])];exact h2
def Low (l:List Fr):Prop:=∀f∈l,f=qF (a7 f)
theorem aa1 (S:List Nat) (P:List Tb):Low (allT S P).2:=by
 have:∀(P:List Tb) (a:Tb),Low a.2 ->Low (P.foldl (wh S) a).2:=fun P=>by
  induction P with
  |nil=>exact fun _ h=>h
  |cons t P ih=>
   intro a _;refine ih _ fun f hf=>?_;obtain⟨K,_,rfl⟩:=aW.1 hf;rw[mi]
 exact this P zE fun f hf=>by rw[eD.1 hf,mi]
theorem TX (hp:Pos S) {t:Tb} (ht:df S n t) (hl:Low t.2):t.2=(List.range (cnt S (ag t.1))).map fun K=>qF (tQ S (tN t) (aV S (ag t.1) K)):=by
 refine rz (by rw[ht.len];simp) fun K h1 h2=>?_;have hK:K<cnt S (ag t.1):=by rw[<- ht.len];exact h1
 have e:tQ S (tN t) (aV S (ag t.1) K)=a7 (bT t.2 (pos S (aV S (ag t.1) K) (ag t.1))):=rfl;rw[lV,Dc,e,N1 hp ht.up.nodup hK,rV h1];exact hl _ (bM h1)
theorem PI.net (h0:bj V L R=0) (hlt:∀v∈ws,v<V.length) (hc:rj L (·∈ws)):PI (ar V) V.length ws (ws.map fun v=>(gU L v,gL V L R v)) (fun g=>dJ V L R g ws):=by
 have aZ:=iz h0
 have aT:∀v,v<V.length ->Up (gU L v) V.length:=fun v hv=>by
  have dV:v<L.length:=by rw[aZ.len];exact hv
  have H6:L.getD v []=L[v]:=by rw[bU,a8 dV];rfl
  rw[gU,H6];exact Dj (aZ.up v dV) (M9 hv)
 have hin:∀v u,u∈ag (gU L v)↔u∈ag (L.getD v [])∨u=v:=fun v u=>by
  rw[gU,JN];refine or_congr Iff.rfl ?_;simp[ag]
 refine⟨fun t ht=>?_,fun t ht u hu=>?_,fun u hu=>?_,fun g hg=>?_⟩
 ·obtain⟨v,hv,rfl⟩:=aW.1 ht;exact⟨aT v (hlt v hv),by simp[gL]⟩
 ·obtain⟨v,hv,rfl⟩:=aW.1 ht;rcases (hin v u).1 hu with h |rfl
  ·exact hc v hv u h
  ·exact hv
 ·exact⟨_,aW.2 ⟨u,hu,rfl⟩,(hin u u).2 (.inr rfl)⟩
 ·have:∀ {vs:List Nat},(∀v∈vs,v<V.length) ->pQ (ar V) g ((vs.map fun v=>((gU L v,gL V L R v):Tb)).map tN)=dJ V L R g vs:=fun {vs}=>by
   induction vs with
   |nil=>intro _;rfl
   |cons v vs ih=>
    intro h;rw[fQ,fQ,pQ,dJ,ih fun u hu=>h u (dF _ hu)];congr 1
    exact Nh h0 (h v dB) hg
  exact this hlt
theorem NN.net (h0:bj V L R=0) (hlt:∀v∈ws,v<V.length):NN (ar V) (ws.map fun v=>(gU L v,gL V L R v)):=fun t ht g hg=>by
 obtain⟨v,hv,rfl⟩:=aW.1 ht;exact aie h0 (hlt v hv) hg
theorem Wb:∀(l:List (Nat×Nat)) (F:(Nat ->Nat) ->Rat) (f:Nat ->Nat),(∀p∈l,¬p.1∈ws) ->dT S ws F (eG l f)=dT S ws (fun g=>F (eG l g)) f
 |[],_,_,_=>rfl
 |p::l,F,f,h=>by
  rw[eG,Wb l F _ fun q hq=>h q (dF _ hq),Om _ ws f (h p dB)];rfl
theorem Il:∀(a b:List (Nat×Nat)) (g:Nat ->Nat),gQ (a++b) g=gQ a g*gQ b g
 |[],b,g=>by rw[gY,gQ,vH]
 |p::a,b,g=>by rw[eE,gQ,gQ,Il a b g,tW]
theorem Ve:∀(a b:List (Nat×Nat)) (g:Nat ->Nat),eG (a++b) g=eG b (eG a g)
 |[],_,_=>rfl
 |p::a,b,g=>by rw[eE,eG,Ve a b];rfl
def qV (S q:List Nat) (K:Nat):List (Nat×Nat):=q.map fun v=>(v,aV S q K v)
theorem NU (S q:List Nat) (K:Nat):(qV S q K).map (·.1)=q:=by
 rw[qV,tX];exact List.map_id' q
theorem ad9 {q:List Nat} (hn:q.Nodup) (K:Nat):eG (qV S q K) (fun _=>0)=aV S q K:=funext fun u=>by
 by_cases hu:u∈q
 ·exact J9 (p:=(u,aV S q K u)) ((NU S q K).symm▸hn) (aW.2 ⟨u,hu,rfl⟩) _
 ·rw[J8 (by rw[NU];exact hu),Ev hu]
theorem aea {q:List Nat} (hp:Pos S) (hn:q.Nodup) (hK:K<cnt S q) {g:Nat ->Nat} (hg:Fit S g):Ce (qV S q K) g=decide (pos S g q=K):=by
 rw[tZ,eh,Ce,fE];constructor
 ·intro h;rw[<- N1 hp hn hK];refine vV S fun u hu=>?_;exact eq_of_beq (h (u,aV S q K u) (aW.2 ⟨u,hu,rfl⟩))
 ·rintro rfl p hm;obtain⟨u,hu,rfl⟩:=aW.1 hm;exact p8.2 (Aq hp hg hn u hu).symm
theorem agx (h0:bj V L R=0) {q:List Nat} {l:List (Nat×Nat)} (hn:ws.Nodup) (hlt:∀v∈ws,v<V.length) (hc:rj L (·∈ws)) (hl:(l.map (·.1)).Nodup) (Gy:∀p∈l,p.1∈ws) (hx:∀p∈l,p.2<sz (ar V) p.1) (hq:q.Nodup) (BV:∀v∈q,v∈ws/\¬v∈l.map (·.1)) (hK:K<cnt (ar V) q):
  Ep (ar V) ((jM ws l).filter fun v=>!q.contains v) (fun g=>dJ V L R (eG l g) ws) (aV (ar V) q K)=ba (fun k=>gQ (qV (ar V) q K++l) (aV (ar V) (List.range V.length) k)*qh V L R (aV (ar V) (List.range V.length) k) V.length) (cnt (ar V) (List.range V.length)):=by
 have dt:Pos (ar V):=by have:=(iz h0).fine.pos;rwa [fF] at this
 have Pk:∀u,u∈(jM ws l).filter (fun v=>!q.contains v)↔(u∈ws/\¬u∈l.map (·.1))/\¬u∈q:=fun u=>by
  rw[dE,KF,Bool.not_eq_true', <- Bool.not_eq_true,zt]
 have XS:((jM ws l).filter fun v=>!q.contains v).Nodup:=(OI hn).filter _
 have hperm:ws.Perm ((qV (ar V) q K++l).map (·.1)++(jM ws l).filter fun v=>!q.contains v):=by
  rw[dL,NU];refine(Jo hn ?_).2 fun u=>?_
  ·refine A4.2 ⟨A4.2 ⟨hq,hl,fun a ha b hb e=>(BV a ha).2 (e▸hb)⟩,XS,fun a ha b hb e=>?_⟩;obtain⟨⟨_,h1⟩,h2⟩:=(Pk b).1 hb;rcases cI.1 ha with ha |ha
   ·exact h2 (e▸ha)
   ·exact h1 (e▸ha)
  ·rw[cI,cI,Pk];constructor
   ·intro h;by_cases h1:u∈q
    ·exact .inl (.inl h1)
    ·by_cases h2:u∈l.map (·.1)
     ·exact .inl (.inr h2)
     ·exact .inr ⟨⟨h,h2⟩,h1⟩
   ·rintro((h |h) |h)
    ·exact(BV u h).1
    ·obtain⟨p,hp,rfl⟩:=aW.1 h;exact Gy p hp
    ·exact h.1.1
 rw[aee h0 hn hlt hc hperm (fun p hp=>by
  rcases cI.1 hp with hp |hp
  ·obtain⟨u,_,rfl⟩:=aW.1 hp;exact qP dt q K u hK
  ·exact hx p hp),ajb (List.Perm.refl _) XS, <- ad9 hq K,Wb _ _ _ fun p hp=>?_]
 ·simp only[Ve]
 ·obtain⟨u,hu,rfl⟩:=aW.1 hp;exact fun h=>((Pk u).1 h).2 hu
structure mn (S:List Nat) (t:Tb) (D c:Nat):Prop where
 nz:D≠0
 one:1<=c
 isD:∀g,Fit S g ->dS D (tQ S (tN t) g)
 btw:∀g,Fit S g ->jW c (tQ S (tN t) g)
def PD (S:List Nat) (P:List Tb) (D c:Nat):Prop:=∀M:List Tb ->Nat ->Nat ->Prop,M [] 1 1 ->(∀t P D c E d,mn S t D c ->M P E d ->M (t::P) (D*E) (c*d)) ->M P D c
theorem PD.nil:PD S [] 1 1:=fun _ h1 _=>h1
theorem PD.cons {t:Tb} (h:mn S t D c) (hp:PD S P E d):PD S (t::P) (D*E) (c*d):=fun M h1 h2=>h2 _ _ _ _ _ _ h (hp M h1 h2)
theorem PD.ind {M:∀P D c,PD S P D c ->Prop} (nil:M [] 1 1 .nil) (cons:∀ {t:Tb} {P:List Tb} {D c E d:Nat} (h:mn S t D c) (hp:PD S P E d),M P E d hp ->M (t::P) (D*E) (c*d) (.cons h hp)):∀ {P:List Tb} {D c:Nat} (h:PD S P D c),M P D c h:=fun {_ _ _} h=>by
 obtain⟨_,k⟩:=h (fun P D c=>∃h,M P D c h) ⟨_,nil⟩ (fun _ _ _ _ _ _ ht ⟨_,ih⟩=>⟨_,cons ht _ ih⟩);exact k
theorem PD.nz (h:PD S P D c):D≠0/\1<=c:=by
 induction h using PD.ind with
 |nil=>exact⟨by decide,by decide⟩
 |cons ht _ ih=>exact⟨AZ ht.nz ih.1,jm ht.one ih.2⟩
theorem PD.append {Q:List Tb} (h:PD S P D c) (hq:PD S Q E d):PD S (P++Q) (D*E) (c*d):=by
 induction h using PD.ind with
 |nil=>rw[jF,jF];exact hq
 |cons ht _ ih=>rw[gg,gg];exact PD.cons ht ih
theorem PD.single {t:Tb} (h:mn S t D c):PD S [t] D c:=by
 have:=PD.cons h (PD.nil (S:=S));rwa [nW,nW] at this
theorem PD.parts (p:Tb ->Bool) (h:PD S P D c):∃D1 c1 D2 c2,PD S (P.filter fun t=>!p t) D1 c1/\PD S (P.filter p) D2 c2/\D1*D2=D/\c1*c2=c:=by
 induction h using PD.ind with
 |nil=>exact⟨1,1,1,1,.nil,.nil,rfl,rfl⟩
 | @cons t P D c E d ht _ ih=>
  obtain⟨D1,c1,D2,c2,h1,h2,rfl,rfl⟩:=ih;cases hp:p t with
  |false=>
   refine⟨D*D1,c*c1,D2,c2,?_,?_,gg ..,gg ..⟩
   ·rw[zq (by simp[hp])];exact .cons ht h1
   ·rw[zr (by simp[hp])];exact h2
  |true=>
   refine⟨D1,c1,D*D2,c*c2,?_,?_,xF ..,xF ..⟩
   ·rw[zr (by simp[hp])];exact h1
   ·rw[zq hp];exact .cons ht h2
theorem PD.prod (h:PD S P D c) {g:Nat ->Nat} (hg:Fit S g):dS D (pQ S g (P.map tN))/\jW c (pQ S g (P.map tN)):=by
 induction h using PD.ind with
 |nil=>exact⟨dS.one,by rw[k7,pQ];exact⟨by decide,by decide⟩⟩
 |cons ht _ ih=>rw[fQ,pQ];exact⟨(ht.isD g hg).mul ih.1,(ht.btw g hg).mul ih.2⟩
theorem PD.all (hp:Pos S) (ho:∀t∈P,df S n t) (h:PD S P D c):mn S (allT S P) D c:=by
 obtain⟨_,_,h3⟩:=wQ hp ho;exact⟨h.nz.1,h.nz.2,fun g hg=>by rw[h3 g hg];exact(h.prod hg).1,fun g hg=>by rw[h3 g hg];exact(h.prod hg).2⟩
theorem mn.o (hp:Pos S) {t:Tb} (ho:df S n t) (h:mn S t D c) (v:Nat):mn S (outT S v false t) D (sz S v*c):=by
 have e:∀g,Fit S g ->tQ S (tN (outT S v false t)) g=ba (fun x=>tQ S (tN t) (aQ g v x)) (sz S v):=fun g hg=>T1 hp (rG ho.up _).nodup (zJ ho.up v) _ hg;refine⟨h.nz,jm (kF hp v) h.one,fun g hg=>?_,fun g hg=>?_⟩
 ·rw[e g hg];exact dS.sum fun x hx=>h.isD _ (hg.with hx)
 ·rw[e g hg];exact jW.sum fun x hx=>h.btw _ (hg.with hx)
theorem mn.most (hp:Pos S) {t:Tb} (ho:df S n t) (h:mn S t D c) (v:Nat):mn S (outT S v true t) D c:=by
 have hsz:=kF hp v
 have e:∀g,Fit S g ->∃x,x<sz S v/\tQ S (tN (outT S v true t)) g=tQ S (tN t) (aQ g v x):=fun g hg=>by
  have e1:tQ S (tN (outT S v true t)) g=ja true (fun x=>tQ S (tN t) (aQ g v x)) (sz S v - 1):=T2 hp (rG ho.up _).nodup (zJ ho.up v) _ hg;obtain⟨x,hx,e2⟩:=F9 (fun x=>tQ S (tN t) (aQ g v x)) (sz S v - 1);exact⟨x,by omega,e1.trans e2⟩
 refine⟨h.nz,h.one,fun g hg=>?_,fun g hg=>?_⟩
 ·obtain⟨x,hx,e⟩:=e g hg;rw[e];exact h.isD _ (hg.with hx)
 ·obtain⟨x,hx,e⟩:=e g hg;rw[e];exact h.btw _ (hg.with hx)
theorem mn.fix (hp:Pos S) {t:Tb} (ho:df S n t) (h:mn S t D c) {x:Nat} (hx:x<sz S v):mn S (jS S v x t) D c:=by
 have e:∀g,Fit S g ->tQ S (tN (jS S v x t)) g=tQ S (tN t) (aQ g v x):=fun g hg=>Ni hp (rG ho.up _).nodup (zJ ho.up v) _ hg;exact⟨h.nz,h.one,fun g hg=>by rw[e g hg];exact h.isD _ (hg.with hx),fun g hg=>by rw[e g hg];exact h.btw _ (hg.with hx)⟩
theorem PD.o (hp:Pos S) (ho:∀t∈P,df S n t) (h:PD S P D c) (v:Nat):PD S (j6 S v false P) D (sz S v*c):=by
 obtain⟨D1,c1,D2,c2,h1,h2,rfl,rfl⟩:=h.parts fun t=>decide (v∈ag t.1);have ho2:∀t∈P.filter (fun t=>decide (v∈ag t.1)),df S n t:=fun t ht=>ho t (dE.1 ht).1;have:=h1.append (PD.single ((h2.all hp ho2).o hp (wQ hp ho2).1 v));rw[xF] at this;exact this
theorem PD.most (hp:Pos S) (ho:∀t∈P,df S n t) (h:PD S P D c) (v:Nat):PD S (j6 S v true P) D c:=by
 obtain⟨D1,c1,D2,c2,h1,h2,rfl,rfl⟩:=h.parts fun t=>decide (v∈ag t.1);have ho2:∀t∈P.filter (fun t=>decide (v∈ag t.1)),df S n t:=fun t ht=>ho t (dE.1 ht).1;exact h1.append (PD.single ((h2.all hp ho2).most hp (wQ hp ho2).1 v))
theorem PD.fix (hp:Pos S) (h:PD S P D c) (ho:∀t∈P,df S n t) {x:Nat} (hx:x<sz S v):PD S (P.map (jS S v x)) D c:=by
 induction h using PD.ind with
 |nil=>exact .nil
 |cons ht _ ih=>exact .cons (ht.fix hp (ho _ dB) hx) (ih fun t h=>ho t (dF _ h))
theorem mn.size {t:Tb} (h:mn S t D c) {g:Nat ->Nat} (hg:Fit S g):qw (tQ S (tN t) g)<=2*(B D).size+(B c).size:=(h.isD g hg).size h.nz (h.btw g hg)
def tA:List Fr ->Nat
 |[]=>1
 |f::l=>(a7 f).den*tA l
theorem H7:∀l,tA l≠0
 |[]=>by decide
 |f::l=>AZ (a7 f).den_nz (H7 l)
theorem aap:∀ {l:List Fr} {f:Fr},f∈l ->dS (tA l) (a7 f)
 |g::l,f,h=>by
  rcases dG.1 h with rfl |h
  ·exact(dS.own _).times (a7 f).den_nz (H7 l)
  ·rw[tA,cV];exact(aap h).times (H7 l) (a7 g).den_nz
def fA (R:List (List Fr)):List Nat ->Nat
 |[]=>1
 |v::vs=>tA (R.getD v [])*fA R vs
theorem agC (h0:bj V L R=0) (hv:v<V.length) (hf:Fit (ar V) f):a7 (eO V L R f v)<=1:=by
 have h1:=row_one h0 hv hf
 have hle:∀ {g:Nat ->Rat} {k x:Nat},x< k ->(∀y,y< k ->0<=g y) ->g x<=ba g k:=fun {g k x} hx hg=>by
  have uu:∀j,j<=k ->0<=ba g j:=fun j=>by
   induction j with
   |zero=>intro _;exact C7
   |succ j ih=>intro hj;rw[ba];exact Rat.add_nonneg (ih (by omega)) (hg j (by omega))
  have:∀j,x< j ->j<=k ->g x<=ba g j:=fun j=>by
   induction j with
   |zero=>intro h;omega
   |succ j ih=>
    intro h hj;rw[ba];rcases cT x j with Xs |Xs
    ·have h3:=(Rat.add_le_add_left (c:=ba g j)).2 (hg j (by omega));rw[Rat.add_zero] at h3;exact Fh (ih Xs (by omega)) h3
    ·have e:x=j:=by omega
     have h3:=(Rat.add_le_add_right (c:=g j)).2 (uu j (by omega));rw[Rat.zero_add] at h3;rw[e];exact h3
  exact this k hx (aq _)
 have h2:=hle (g:=fun x=>a7 (eO V L R (aQ f v x) v)) (k:=sz (ar V) v) (hf v) fun y hy=>KB h0 hv (hf.with hy);rw[h1] at h2;simpa only[ab1] using h2
theorem PD.net (h0:bj V L R=0):∀ {ws:List Nat},(∀v∈ws,v<V.length) ->PD (ar V) (ws.map fun v=>(gU L v,gL V L R v)) (fA R ws) 1
 |[],_=>.nil
 |v::ws,h=>by
  have hv:=h v dB;have aZ:=iz h0;have dV:v<L.length:=by rw[aZ.len];exact hv
  have oA:v<R.length:=by rw[aZ.lenR];exact hv
  have ht:mn (ar V) (gU L v,gL V L R v) (tA (R.getD v [])) 1:=by
   have e:∀g,Fit (ar V) g ->tQ (ar V) (tN (gU L v,gL V L R v)) g=a7 (eO V L R g v):=fun g hg=>Nh h0 hv hg;refine⟨H7 _,aq _,fun g hg=>?_,fun g hg=>?_⟩
   ·rw[e g hg,eO,bT];cases hk:(R.getD v [])[qj (ar V) (ag (L.getD v [])) g v]? with
    |none=>exact⟨0,by rw[Option.getD_none];show a7 wM=_;rw[show a7 wM=0 from FA rfl];simp⟩
    |some f=>exact aap (MP hk)
   ·rw[e g hg];exact⟨KB h0 hv hg,agC h0 hv hg⟩
  exact PD.cons ht (PD.net h0 fun u hu=>h u (dF _ hu))
theorem aiP (S:List Nat) (v x:Nat) (t:Tb):Low (jS S v x t).2:=fun f hf=>by
 obtain⟨K,_,rfl⟩:=aW.1 hf;rw[mi]
theorem aeY (S:List Nat) (v:Nat) (most:Bool) (t:Tb):Low (outT S v most t).2:=fun f hf=>by
 obtain⟨K,_,rfl⟩:=aW.1 hf;rw[mi]
theorem aim (V:List Vr) (L:List (List Int)) (R:List (List Fr)) (v:Nat):Low (gL V L R v):=fun f hf=>by
 obtain⟨K,_,rfl⟩:=aW.1 hf;rw[mi]
structure eH (S:List Nat) (n:Nat) (P:List Tb) (D c:Nat):Prop where
 ok:∀t∈P,df S n t
 pd:PD S P D c
 low:∀t∈P,Low t.2
theorem PD.each (h:PD S P D c):∀t∈P,∃E d,mn S t E d/\E<=D/\d<=c:=by
 induction h using PD.ind with
 |nil=>intro t ht;cases ht
 | @cons t P D c E d h1 h2 ih=>
  have hn:=h2.nz;have hE:=jZ hn.1;intro u hu;rcases dG.1 hu with rfl |hu
  ·exact⟨D,c,h1,Nat.le_mul_of_pos_right D hE,Nat.le_mul_of_pos_right c hn.2⟩
  ·obtain⟨E',d',k1,k2,k3⟩:=ih u hu;exact⟨E',d',k1,aL k2 (zi E (jZ h1.nz)),aL k3 (zi d h1.one)⟩
theorem PD.take (h:PD S P D c):∀k,∃E d,PD S (P.take k) E d/\E<=D/\d<=c:=by
 induction h using PD.ind with
 |nil=>intro k;exact⟨1,1,by rw[List.take_nil];exact .nil,aq _,aq _⟩
 | @cons t P D c E d h1 h2 ih=>
  have hn:=h2.nz;intro k;cases k with
  |zero=>
   exact⟨1,1,.nil,Nat.mul_pos (jZ h1.nz) (jZ hn.1),Nat.mul_pos h1.one hn.2⟩
  |succ k=>
   obtain⟨E',d',k1,k2,k3⟩:=ih k;exact⟨D*E',c*d',.cons h1 k1,j5 _ k2,j5 _ k3⟩
theorem PD.filter (h:PD S P D c) (p:Tb ->Bool):∃E d,PD S (P.filter p) E d/\E<=D/\d<=c:=by
 obtain⟨D1,c1,D2,c2,h1,h2,e1,e2⟩:=h.parts p;have n1:=h1.nz;have n2:=h2.nz;exact⟨D2,c2,h2,by rw[<- e1];exact zi _ (jZ n1.1),by rw[<- e2];exact zi _ n1.2⟩
theorem TY (hp:Pos S) {t:Tb} (ht:df S n t) (hl:Low t.2) (h:mn S t E d) (hE:E<=D) (hd:d<=c) (hm:2*(B D).size+(B c).size+2<=m):Cw m t.2:=fun k hk=>by
 have hK:k<cnt S (ag t.1):=by rw[<- ht.len];exact hk
 have e:bT t.2 k=qF (tQ S (tN t) (aV S (ag t.1) k)):=by
  rw[rV hk];have:=TX hp ht hl;have h2:t.2[k]? =((List.range (cnt S (ag t.1))).map fun K=>qF (tQ S (tN t) (aV S (ag t.1) K)))[k]?:=by rw[<- this]
  rw[a8 hk,kD,List.getElem?_range hK] at h2;exact mS h2
 have hs:=h.size (g:=aV S (ag t.1) k) (fun u=>qP hp _ k u hK);have h1:=i6 hE;have h3:=i6 hd;rw[e];show (nu _).size+(de _).size+2<=m;have hq:(nu (tQ S (tN t) (aV S (ag t.1) k))).size+(de (tQ S (tN t) (aV S (ag t.1) k))).size=qw (tQ S (tN t) (aV S (ag t.1) k)):=rfl;omega
theorem eH.cw (hp:Pos S) (h:eH S n P D c) (hm:2*(B D).size+(B c).size+2<=m):∀t∈P,Cw m t.2:=fun t ht=>by
 obtain⟨E,d,k1,k2,k3⟩:=h.pd.each t ht;exact TY hp (h.ok t ht) (h.low t ht) k1 k2 k3 hm
theorem eH.part (hp:Pos S) (h:eH S n P D c) (hm:2*(B D).size+(B c).size+2<=m) (k:Nat):df S n (allT S (P.take k))/\Cw m (allT S (P.take k)).2:=by
 obtain⟨E,d,k1,k2,k3⟩:=h.pd.take k;have ho:∀t∈P.take k,df S n t:=fun t ht=>h.ok t (List.mem_of_mem_take ht);have h1:=(wQ hp ho).1;exact⟨h1,TY hp h1 (aa1 S _) (PD.all hp ho k1) k2 k3 hm⟩
theorem eH.filter (h:eH S n P D c) (p:Tb ->Bool):∃E d,eH S n (P.filter p) E d/\E<=D/\d<=c:=by
 obtain⟨E,d,k1,k2,k3⟩:=h.pd.filter p;exact⟨E,d,⟨fun t ht=>h.ok t (dE.1 ht).1,k1,fun t ht=>h.low t (dE.1 ht).1⟩,k2,k3⟩
theorem eH.fix (hp:Pos S) (h:eH S n P D c) {x:Nat} (hx:x<sz S v):eH S n (P.map (jS S v x)) D c:=
 ⟨fun t ht=>by
  obtain⟨u,hu,rfl⟩:=aW.1 ht;exact(h.ok u hu).fix v x,h.pd.fix hp h.ok hx,fun t ht=>by
  obtain⟨u,_,rfl⟩:=aW.1 ht;exact aiP S v x u⟩
theorem VM (hp:Pos S) (h:∀t∈P,df S n t) (v:Nat) (most:Bool):∀t∈j6 S v most P,df S n t:=fun t ht=>by
 rcases cI.1 ht with ht |ht
 ·exact h t (dE.1 ht).1
 ·rw[eD.1 ht];exact((wQ hp fun u hu=>h u (dE.1 hu).1).1).o v most
theorem VN (h:∀t∈P,Low t.2) (v:Nat) (most:Bool):∀t∈j6 S v most P,Low t.2:=fun t ht=>by
 rcases cI.1 ht with ht |ht
 ·exact h t (dE.1 ht).1
 ·rw[eD.1 ht];exact aeY S v most _
theorem eH.o (hp:Pos S) (h:eH S n P D c) (v:Nat):eH S n (j6 S v false P) D (sz S v*c):=⟨VM hp h.ok v false,h.pd.o hp h.ok v,VN h.low v false⟩
theorem eH.most (hp:Pos S) (h:eH S n P D c) (v:Nat):eH S n (j6 S v true P) D c:=⟨VM hp h.ok v true,h.pd.most hp h.ok v,VN h.low v true⟩
variable {x':Value}
theorem dA.farT {V:World} {c:Option Addr} {l:List Fr} (h:dA V c l) (hb:bw V g x y) (hx:dh x) (hy:dh y) (j:Nat) (u:Value):dA (V.setCell ⟨g,j,none⟩ u) c l:=fun k hk=>by
 obtain⟨g',o,rfl,hlt,h0,h1,h2⟩:=h k hk;obtain⟨a1,n1,c1,rfl⟩:=hx;obtain⟨a2,n2,c2,rfl⟩:=hy
 have hne:¬g'=g:=fun e=>by
  subst e;rw[bX V g' _ _ _ (0,0) hb] at h0;match hm:o+k*3 with
  |0=>rw[hm] at h0;simp at h0
  |1=>rw[hm] at h0;simp at h0
  |m+2=>rw[hm] at h0;simp at h0
 have far:∀i,(V.setCell ⟨g,j,none⟩ u).cell? ⟨g',i,none⟩=V.cell? ⟨g',i,none⟩:=fun i=>dO _ _ _ _ (fun e=>hne (cU Addr.block e).symm);exact⟨g',o,rfl,aO hlt (jo V _ _).size,(far _).trans h0,(far _).trans h1,(far _).trans h2⟩
theorem dA.putT {V:World} {c:Option Addr} {l:List Fr} (h:dA V c l) (hb:bw V g x y) (hx:dh x) (hy:dh y) (hx':dh x') (y':Value):dA ((V.setCell ⟨g,0,none⟩ x').setCell ⟨g,1,none⟩ y') c l:=by
 have h1:bw (V.setCell ⟨g,0,none⟩ x') g x' y:=jY V g 0 _ _ x' hb;exact(h.farT hb hx hy 0 _).farT h1 hx' hy 1 _
end Go.Proofs.YtfgkjjlocjmfeaaGreatDoor
