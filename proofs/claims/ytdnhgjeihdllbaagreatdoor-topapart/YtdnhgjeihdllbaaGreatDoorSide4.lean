/- Part4: part 4. -/
import Derived.Test.YtdnhgjeihdllbaaGreatDoorSide3
set_option maxRecDepth 100000
set_option maxHeartbeats 4000000
set_option linter.unusedSimpArgs false
set_option linter.unusedVariables false
namespace Go.Proofs.YtdnhgjeihdllbaaGreatDoor
open Go.RowKit Go.Shelf Go.Sort Go.Lib
variable {fn:Func} {g:Nat} {x y z:Value} {w w':World}
def Fu (x y z:Value):Obj:=.cells #[x,y,z] 87
def bj (w:World) (g:Nat) (x y z:Value):Prop:=w.heap[g]? =some (.cells #[x,y,z] 87 (0,0))
theorem bj.at (hg:w.heap.size=g) (x y z:Value):bj (w.alloc (Fu x y z)) g x y z:=by subst hg;exact kd w _
theorem bj.lt (h:bj w g x y z):g<w.heap.size:=(eL.1 h).1
theorem bj.aa {b:Nat} (h:bj w g x y z) (hb:Below b w w') (hg:g<b):bj w' g x y z:=(hb.block g hg).trans h
theorem bj.alloc (h:bj w g x y z) (o:Obj):bj (w.alloc o) g x y z:=(rY w o g h.lt).trans h
theorem bj.cells (h:bj w g x y z):w.cell? ⟨g,0,none⟩=some x/\w.cell? ⟨g,1,none⟩=some y/\w.cell? ⟨g,2,none⟩=some z:=
 ⟨by rw[cC w g 0 _ _ (0,0) h];rfl,by rw[cC w g 1 _ _ (0,0) h];rfl,by rw[cC w g 2 _ _ (0,0) h];rfl⟩
theorem bj.fz (h:bj w g x y z) (j:Nat):w.frozen? ⟨g,j,none⟩=false:=pN w g j _ _ h
theorem bj.set0 (h:bj w g x y z) (u:Value):bj (w.setCell ⟨g,0,none⟩ u) g u y z:=mM w g 0 _ _ u h
theorem bj.set1 (h:bj w g x y z) (u:Value):bj (w.setCell ⟨g,1,none⟩ u) g x u z:=mM w g 1 _ _ u h
theorem bj.set2 (h:bj w g x y z) (u:Value):bj (w.setCell ⟨g,2,none⟩ u) g x y u:=mM w g 2 _ _ u h
theorem bj.put (h:bj w g x y z) (u v s:Value):bj (((w.setCell ⟨g,0,none⟩ u).setCell ⟨g,1,none⟩ v).setCell ⟨g,2,none⟩ s) g u v s:=((h.set0 u).set1 v).set2 s
theorem bj.result1 (h:bj w g x y z) {p:Tmp} (hr:fn.results= #[.cell p 87]) (tmps:Array Value) (hp:tmps.getD p undef=.pointer (some ⟨g,0,none⟩)):
  (results fn tmps).run Tryz.prog w=.ok (.agg #[x,y,z]) w:=Gi hr tmps w g _ _ _ _ hp h Tryz.underlying87 rfl (by kernel_rfl)
theorem Zp (u v:Int) (B:Nat) (W:World) (hc:W.cell? ⟨B,0,none⟩=some (.int .i64 v)):
  FnGives Tryz.prog 153 #[.pointer (some ⟨B,0,none⟩)] #[.int .i64 u] (.bool (u==v)) W:=by
 show Calls Tryz.prog 153 #[.int .i64 u,.pointer (some ⟨B,0,none⟩)] W _;go_enter Tryz.func153,Tryz.ntmps153;go_wp2
 all_goals (go_ret;exact⟨by simp_all,0,rfl⟩)
theorem agC (v:Int) (B:Nat) (w:World) (hB:B<w.heap.size) (hc:w.cell? ⟨B,0,none⟩=some (.int .i64 v)):
  PredAt Tryz.prog 153 #[.pointer (some ⟨B,0,none⟩)] (Value.int .i64) (fun u=>u==v) w:=
 fun W x hb=>Zp x v B W ((hb.cell (p:=⟨B,0,none⟩) hB).trans hc)
theorem agA (v:Int) (B blk off size:Nat) (w:World) (hB:B<w.heap.size) (hne:B≠blk) (hc:w.cell? ⟨B,0,none⟩=some (.int .i64 v)):
  PredOver Tryz.prog 153 #[.pointer (some ⟨B,0,none⟩)] (Value.int .i64) (fun u=>u==v) blk off size w:=
 fun n os dk x _=>Zp x v B _ (by
  unfold sortWorld;rw[cell?_grow _ _ _ (by show B<(putRow _ _ _ _ _).heap.size;rw[size_putRow];exact hB),cell?_putRow_other _ _ blk off _ _ (Or.inl hne)];exact hc)
theorem R3 (x z:Value) (b:Option Addr) (cb:Nat) (fr:List Int) (v:Int) (w:World) (hx:cM x) (hz:cM z) (h:aaK w b fr) (hn:fr.length<=1000):
  Calls Tryz.prog 96 #[.agg #[x,.slice b fr.length cb,z],.int .i64 v] w fun e w'=>∃d cd,e=.returned (.agg #[x,.slice d (bw fr v).length cd,.slice none 0 0])/\aaK w' d (bw fr v)/\eC w.heap.size d cd/\Below w.heap.size w w':=by
 obtain⟨xa,xn,xc,rfl⟩:=hx;obtain⟨za,zn,zc,rfl⟩:=hz;have HV:=hid h;obtain⟨L,hL⟩:∃L,bw fr v=L:=⟨_,rfl⟩;rw[hL];have HL:=hid hL;clear h hL;go_enter Tryz.func96,Tryz.ntmps96;go_wp2_with fail
 have hb0:Below w.heap.size w (((w.alloc (.cells #[.slice xa xn xc,.slice b fr.length cb,.slice za zn zc] 87)).alloc (.cells #[.int .i64 v] 3)).alloc (.cells #[.slice none 0 0,.slice none 0 0,.slice none 0 0] 87)):=by
  have h1:=(au w.heap.size w).alloc (ar _) (.cells #[.slice xa xn xc,.slice b fr.length cb,.slice za zn zc] 87);have h2:=h1.alloc h1.size (.cells #[.int .i64 v] 3);exact h2.alloc h2.size _
 have pq:bj (((w.alloc (.cells #[.slice xa xn xc,.slice b fr.length cb,.slice za zn zc] 87)).alloc (.cells #[.int .i64 v] 3)).alloc (.cells #[.slice none 0 0,.slice none 0 0,.slice none 0 0] 87)) w.heap.size (.slice xa xn xc) (.slice b fr.length cb) (.slice za zn zc):=((bj.at (w:=w) rfl _ _ _).alloc _).alloc _
 have hx0:Boxed (((w.alloc (.cells #[.slice xa xn xc,.slice b fr.length cb,.slice za zn zc] 87)).alloc (.cells #[.int .i64 v] 3)).alloc (.cells #[.slice none 0 0,.slice none 0 0,.slice none 0 0] 87)) (w.heap.size+1) 3 (.int .i64 v):=by
  have:=(a7 (w.alloc (.cells #[.slice xa xn xc,.slice b fr.length cb,.slice za zn zc] 87)) 3 (.int .i64 v)).alloc (.cells #[.slice none 0 0,.slice none 0 0,.slice none 0 0] 87);rwa [cN] at this
 have iA:bj (((w.alloc (.cells #[.slice xa xn xc,.slice b fr.length cb,.slice za zn zc] 87)).alloc (.cells #[.int .i64 v] 3)).alloc (.cells #[.slice none 0 0,.slice none 0 0,.slice none 0 0] 87)) (w.heap.size+1+1) (.slice none 0 0) (.slice none 0 0) (.slice none 0 0):=bj.at (w:=(w.alloc (.cells #[.slice xa xn xc,.slice b fr.length cb,.slice za zn zc] 87)).alloc (.cells #[.int .i64 v] 3)) (by simp) _ _ _;generalize (((w.alloc (.cells #[.slice xa xn xc,.slice b fr.length cb,.slice za zn zc] 87)).alloc (.cells #[.int .i64 v] 3)).alloc (.cells #[.slice none 0 0,.slice none 0 0,.slice none 0 0] 87))=W at *;refine(Nf b cb fr _ (HV.o.aa hb0) (by omega)).ae ?_;rintro e w1 ⟨x,rfl,hr,hb1⟩;have hx1:=aZ hx0 hb1;have tY:=pq.aa hb1 pq.lt;have hR1:=iA.aa hb1 iA.lt;have hB1:=hb0.trans (hb1.ae hb0.size);have hlt:=iA.lt;have hs1:=hb1.size;clear hx0 pq iA hb0 hb1;rcases hr.cases with ⟨rfl,rfl⟩ |⟨g,cap,rfl,hg0,hg,hc1,hc2,hh⟩
 ·go_wp2_with fail
  refine(Yx _ _).ae ?_;rintro e w2 ⟨rfl,hb2⟩;have KO:=tY.aa hb2 tY.lt;have hR2:=hR1.aa hb2 hR1.lt;have hB2:=hB1.trans (hb2.ae hB1.size);have KR:L=[]:=HL.o.symm;subst KR;obtain⟨p0,p1,p2⟩:=KO.cells;obtain⟨r0,r1,r2⟩:=hR2.cells;have rf:=hR2.fz;have Am:=rf 0;have JE:=rf 1;have JD:=rf 2;have xR:=hid (hR2.put (.slice xa xn xc) (.slice none 0 0) (.slice none 0 0));have uF:=hid (bF hB2 (show w.heap.size<=w.heap.size+1+1 by omega) (.slice xa xn xc) (.slice none 0 0) (.slice none 0 0));clear rf KO hR2 hB2;go_wp2;refine bB (xR.o.result1 rfl _ rfl) rfl ?_;exact⟨none,0,rfl,fun k hk=>absurd hk (by simp),eC.nil _,uF.o⟩
 ·have hcon:=Tryz.slices_DeleteFunc (Value.int .i64) (fun _=>rfl) (fun u=>u==v) 153 #[.pointer (some ⟨w.heap.size+1,0,none⟩)] (enters_of Tryz.func153 (by kernel_rfl) rfl) 0 Tryz.zeroValue3 g 0 cap fr.toArray w1 (agC v _ _ hx1.lt hx1.cell) (agA v _ g 0 _ _ hx1.lt (by omega) hx1.cell) hh (by simp;omega) (by simpa using hc1);have hsz:fr.toArray.size=fr.length:=by simp
  rw[hsz] at hcon;have jR:fr.toArray.toList.filter (fun x=>!(x==v))=bw fr v:=by simp[bw]
  rw[jR,HL.o] at hcon;have dh:L.length<=fr.length:=by rw[<- HL.o];exact pR _ _
  have Mv:=hid hcon;have HH:=hid hh;have pJ:=hid dh;clear hcon hh hr hsz jR hc1 hc2 dh;go_wp2_with fail
  refine Mv.o.ae ?_;rintro e w2 ⟨rfl,q,hw2⟩
  have Hl:(L++List.replicate (fr.length - L.length) 0).toArray.size=fr.toArray.size:=by
   have:=pJ.o;simp;omega
  have OM:aaK w2 (some ⟨g,0,none⟩) L:=by
   rw[hw2];exact EP (holds_putRow (Value.int .i64) (Sort.ahead w1 q) g 0 fr.toArray _ HH.o Hl) (by rw[size_putRow];exact hg) (fun j hj=>⟨by simp;omega,by simp[uI,hj]⟩)
  have hk2:∀k,k<w1.heap.size ->k≠g ->w2.heap[k]? =w1.heap[k]?:=fun k hk hne=>by
   rw[hw2];have h1:=MF (w:=w1) (g:=g) (n:=q) (os:= #[]) ((L++List.replicate (fr.length - L.length) 0).toArray);rw[grow_empty] at h1;exact h1.block k hk (fun e=>hne (lV e))
  have KO:bj w2 w.heap.size (.slice xa xn xc) (.slice b fr.length cb) (.slice za zn zc):=(hk2 _ tY.lt (by omega)).trans tY;have hR2:bj w2 (w.heap.size+1+1) (.slice none 0 0) (.slice none 0 0) (.slice none 0 0):=(hk2 _ hR1.lt (by omega)).trans hR1;have hB2:Below w.heap.size w w2:=by rw[hw2];exact Vj _ hB1 hB1.size (by omega)
  obtain⟨p0,p1,p2⟩:=KO.cells;obtain⟨r0,r1,r2⟩:=hR2.cells;have rf:=hR2.fz;have Am:=rf 0;have JE:=rf 1;have JD:=rf 2;have xR:=hid (hR2.put (.slice xa xn xc) (.slice (some ⟨g,0,none⟩) L.length cap) (.slice none 0 0));have uF:=hid (bF hB2 (show w.heap.size<=w.heap.size+1+1 by omega) (.slice xa xn xc) (.slice (some ⟨g,0,none⟩) L.length cap) (.slice none 0 0));have Qi:=hid (((OM.off (g:=w.heap.size+1+1) (j:=0) (y:=.slice xa xn xc) (fun g' o' e _=>by cases e;omega)).off (g:=w.heap.size+1+1) (j:=1) (y:=.slice (some ⟨g,0,none⟩) L.length cap) (fun g' o' e _=>by cases e;omega)).off (g:=w.heap.size+1+1) (j:=2) (y:=.slice none 0 0) (fun g' o' e _=>by cases e;omega));clear rf KO hR2 hB2 OM hk2 Hl hw2;go_wp2;refine bB (xR.o.result1 rfl _ rfl) rfl ?_;exact⟨some ⟨g,0,none⟩,cap,rfl,Qi.o,eC.at (by omega),uF.o⟩
variable {F:List (Int×Int)} {a:Option Addr}
def jI (w:World) (a:Option Addr) (F:List (Int×Int)):Prop:=∀k (h:k<F.length),∃g o,a=some ⟨g,o,none⟩/\g<w.heap.size/\w.cell? ⟨g,o+k*2,none⟩=some (.int .i64 F[k].1)/\w.cell? ⟨g,o+k*2+1,none⟩=some (.int .i64 F[k].2)
theorem jI.aa (h:jI w a F) (hb:Below w.heap.size w w'):jI w' a F:=fun k hk=>by
 obtain⟨g,o,h1,h2,h3,h4⟩:=h k hk;exact⟨g,o,h1,aR h2 hb.size,(hb.cell (p:=⟨g,_,none⟩) h2).trans h3,(hb.cell (p:=⟨g,_,none⟩) h2).trans h4⟩
theorem jI.take (h:jI w a F) (i:Nat):jI w a (F.take i):=fun k hk=>by
 have dH:k<F.length:=by rw[eZ] at hk;omega
 obtain⟨g,o,h1,h2,h3,h4⟩:=h k dH;rw[Aa];exact⟨g,o,h1,h2,h3,h4⟩
theorem aiW (a:Option Addr) (ca f:Nat) (lb:Array Value) (F:List (Int×Int)) (p:Int×Int ->Bool) (w:World) (h:jI w a F) (hn:F.length<=1000) (eF:∀args w,(callFunc f args).run Tryz.prog w=.ok (.enter f args) w)
  (hp:∀q∈F,∀U:World,Below w.heap.size w U ->Calls Tryz.prog f (#[.agg #[.int .i64 q.1,.int .i64 q.2]]++lb) U fun e w'=>e=.returned (.bool (p q))/\Below U.heap.size U w'):
  Calls Tryz.prog 139 #[.slice a F.length ca,.func (.func f) #[] lb] w fun e w'=>∃j:Int,e=.returned (.int .i64 j)/\decide (0<=j)=F.any p/\Below w.heap.size w w':=by
 have HF:=hid h;have HP:=hid hp
 have eQ:Hid ((∀i (hi:i<F.length),p F[i]=false) ->F.any p=false):=fun hh=>List.any_eq_false.2 fun q hq=>by
  obtain⟨i,hi,rfl⟩:=iE hq;rw[hh i hi];decide
 have Dp:Hid (∀i (hi:i<F.length),p F[i]=true ->F.any p=true):=fun i hi hh=>rX.2 ⟨_,bH hi,hh⟩;clear h hp;generalize F.any p=R at *;go_enter Tryz.func139,Tryz.ntmps139;go_wp2_with fail
 go_loopw [8] (fun iv wr=>∃i:Nat,i<=F.length/\iv=.int .i64 i/\Hid (∀j (hj:j<F.length),j< i ->p F[j]=false)/\Hid (Below w.heap.size w wr)) (fun iv _=>F.length - (intOf iv).toNat)
 case atStart=>exact⟨0,aU _,rfl,(fun j _ hj=>absurd hj (by omega)),au _ _⟩
 case round=>
  obtain⟨i,hi,rfl,HN,HB⟩:=hrel;by_cases hlt:i<F.length
  ·obtain⟨g,o,rfl,hg,h0,h1⟩:=HF.o i hlt;have k0:=(HB.o.cell (p:=⟨g,_,none⟩) hg).trans h0;have k1:=(HB.o.cell (p:=⟨g,_,none⟩) hg).trans h1;have HC:=hid (HP.o F[i] (bH hlt) wr HB.o);have VG:=hid (Dp.o i hlt)
   have mE:Hid (p F[i]=false ->∀j (hj:j<F.length),j<i+1 ->p F[j]=false):=fun e j hj tR=>by
    rcases cD j i with h2 |h2
    ·exact HN.o j hj h2
    ·obtain rfl:j=i:=by omega
     exact e
   clear h0 h1;generalize p F[i]=q at *;generalize F[i].1=f1 at *;generalize F[i].2=f2 at *;go_wp2_with fail
   refine HC.o.ae ?_;rintro e w2 ⟨rfl,hb2⟩;have bc:=hid (HB.o.trans (hb2.ae HB.o.size));clear hb2 HC;cases q with
   |true=>
    have HE:=hid (VG.o rfl);go_wp2;go_ret;exact⟨(i:Nat),rfl,by rw[HE.o];simp,bc.o⟩
   |false=>
    have HE:=hid (mE.o rfl);go_wp2;go_roundw
    case rel=>exact⟨i+1,by omega,by go_num,HE,bc⟩
    case measure=>simp[intOf];omega
  ·obtain rfl:i=F.length:=by omega
   have HE:=hid (eQ.o fun j hj=>HN.o j hj hj);go_wp2;go_ret;exact⟨-1,rfl,by rw[HE.o];rfl,HB.o⟩
theorem alA (a:Option Addr) (ca f:Nat) (lb:Array Value) (F:List (Int×Int)) (p:Int×Int ->Bool) (w:World) (h:jI w a F) (hn:F.length<=1000) (eF:∀args w,(callFunc f args).run Tryz.prog w=.ok (.enter f args) w)
  (hp:∀q∈F,∀U:World,Below w.heap.size w U ->Calls Tryz.prog f (#[.agg #[.int .i64 q.1,.int .i64 q.2]]++lb) U fun e w'=>e=.returned (.bool (p q))/\Below U.heap.size U w'):
  Calls Tryz.prog 84 #[.slice a F.length ca,.func (.func f) #[] lb] w fun e w'=>e=.returned (.bool (F.any p))/\Below w.heap.size w w':=by
 have HI:=hid (aiW a ca f lb F p w h hn eF hp);clear h hp;generalize F.any p=R at *;go_enter Tryz.func84,Tryz.ntmps84;go_wp2_with fail
 refine HI.o.ae ?_;rintro e w2 ⟨j,rfl,hj,hb2⟩;have HB:=hid hb2;have HJ:=hid hj;clear hb2 hj;go_wp2;go_ret;exact⟨by rw[<- HJ.o];rfl,HB.o⟩
theorem aiO (q:Int×Int) (v:Int) (B:Nat) (w:World) (hB:B<w.heap.size) (hc:w.cell? ⟨B,0,none⟩=some (.int .i64 v)):
  Calls Tryz.prog 85 #[.agg #[.int .i64 q.1,.int .i64 q.2],.pointer (some ⟨B,0,none⟩)] w fun e w'=>e=.returned (.bool (q.1==v))/\Below w.heap.size w w':=by
 obtain⟨q1,q2⟩:=q;have HA:=hid ((au w.heap.size w).alloc (ar _) (.cells #[.int .i64 q1,.int .i64 q2] 90));have hc':=(HA.o.cell (p:=⟨B,0,none⟩) hB).trans hc;show Calls Tryz.prog 85 #[.agg #[.int .i64 q1,.int .i64 q2],.pointer (some ⟨B,0,none⟩)] w fun e w'=>e=.returned (.bool (q1==v))/\Below w.heap.size w w';clear hc;go_enter Tryz.func85,Tryz.ntmps85;go_wp2
 all_goals (go_ret;exact⟨by simp_all,HA.o⟩)
theorem aaL (a:Option Addr) (ca:Nat) (F:List (Int×Int)) (v:Int) (w:World) (h:jI w a F) (hn:F.length<=1000):
  Calls Tryz.prog 40 #[.slice a F.length ca,.int .i64 v] w fun e w'=>e=.returned (.bool (F.any fun p=>p.1==v))/\Below w.heap.size w w':=by
 have hA:=(au w.heap.size w).alloc (ar _) (.cells #[.int .i64 v] 3);have hx:=a7 w 3 (.int .i64 v);have HC:=hid (alA a ca 85 #[.pointer (some ⟨w.heap.size,0,none⟩)] F (fun p=>p.1==v) _ (h.aa hA) hn (enters_of Tryz.func85 (by kernel_rfl) rfl) (fun q _ U hU=>aiO q v w.heap.size U (aR hx.lt hU.size) ((hU.cell (p:=⟨w.heap.size,0,none⟩) hx.lt).trans hx.cell)));have HA:=hid hA;clear h hA hx;generalize (F.any fun p=>p.1==v)=R at *;go_enter Tryz.func40,Tryz.ntmps40;go_wp2_with fail
 refine HC.o.ae ?_;rintro e w2 ⟨rfl,hb2⟩;have HB:=hid (HA.o.trans (hb2.ae HA.o.size));clear hb2;go_wp2;go_ret;exact⟨rfl,HB.o⟩
variable {ops:Array Oper} {Q:Exit ->Act ->World ->Prop} {rest:List Oper} {xs:List Value} {c j lo m n:Nat} {tv u1 u2:Value} {V V':World}
theorem UF (W:World) (b:Option Nat):W.grownBy W b:=World.grownBy.refl _ _
theorem UG {W:World} {b:Option Nat} (h:W.grownBy V b) (hb:Below V.heap.size V V'):W.grownBy V' b:=
 ⟨hb.os.trans h.os,hb.tape.trans h.tape,hb.output.trans h.output,aS h.size hb.size,fun k hk hne=>(hb.block k (aR hk h.size)).trans (h.block k hk hne)⟩
theorem K2 {W:World} {b r:Option Nat} (h:W.grownBy V b) (hg:V.grownBy V' r) (hr:∀k,r=some k ->W.heap.size<=k):W.grownBy V' b:=
 ⟨hg.os.trans h.os,hg.tape.trans h.tape,hg.output.trans h.output,aS h.size hg.size,fun k hk hne=>(hg.block k (aR hk h.size) fun e=>by have:=hr k e.symm;omega).trans (h.block k hk hne)⟩
theorem OZ {W:World} {b:Nat} (h:W.grownBy V (some b)) (j:Nat) (y:Value):W.grownBy (V.setCell ⟨b,j,none⟩ y) (some b):=by
 have hk:=(au 0 V).setCell (p:=⟨b,j,none⟩) (aU _) y;exact⟨hk.os.trans h.os,hk.tape.trans h.tape,hk.output.trans h.output,aS h.size hk.size,fun k dH hne=>(je V ⟨b,j,none⟩ y k (fun e=>hne (by rw[e]))).trans (h.block k dH hne)⟩
theorem H4 {W:World} {b B:Nat} (hw:Below B w W) (h:W.grownBy V (some b)) (hb:B<=b) (hB:B<=W.heap.size):Below B w V:=hw.grown h hB (fun k e=>by cases e;exact hb)
theorem bZ.off {d:Option Addr} {l:List Fr} (h:bZ w d l) (hne:∀g' o',d=some ⟨g',o',none⟩ ->l≠[] ->g'≠g):bZ (w.setCell ⟨g,j,none⟩ y) d l:=fun k hk=>by
 obtain⟨g',o',e,hg,h0,h1,h2⟩:=h k hk;have hn:=hne g' o' e (fun e=>by rw[e] at hk;exact absurd hk (by simp));have hb:(w.setCell ⟨g,j,none⟩ y).heap[g']? =w.heap[g']?:=je w ⟨g,j,none⟩ y g' hn;exact⟨g',o',e,aR hg (iG w _ _).size,(kA (a:=⟨g',_,none⟩) hb).trans h0,(kA (a:=⟨g',_,none⟩) hb).trans h1,(kA (a:=⟨g',_,none⟩) hb).trans h2⟩
theorem cR.off {t:Tb} (h:cR w x y t) (u:Value) (hn:fE g t (x,y)):cR (w.setCell ⟨g,j,none⟩ u) x y t:=by
 obtain⟨b,c,cb,cc,rfl,rfl,h3,h4,h5⟩:=h;exact⟨b,c,cb,cc,rfl,rfl,h3.off (fun g' o' e hne=>hn.1 g' o' _ _ (by rw[e]) hne),h4.off (fun g' o' e hne=>hn.2 g' o' _ _ (by rw[e]) hne),h5⟩
theorem kr.off {B:Nat} {v:Value} {Q:List (Value×Value)} {P:List Tb} (h:kr w B v Q P) (u:Value) (hf:∀k (h:k<P.length) (h':k<Q.length),fE g P[k] Q[k]) (hne:v.ownBlock≠some g):kr (w.setCell ⟨g,j,none⟩ u) B v Q P:=
 ⟨h.len,DY h.own hne u,fun k h1 h2=>(h.val k h1 h2).off u (hf k h1 h2),h.far⟩
theorem ND {B:Nat} {e:TypeId} {s:Nat} (h:w.ownsRow B e s (.slice a m c) n xs):eC B a c:=by
 rcases h.2 with ⟨h1,h2⟩ |⟨g,cap,cur,h1,h2,_⟩
 ·injection h1 with h3 h4 h5;subst h3 h5;exact eC.nil B
 ·injection h1 with h3 h4 h5;subst h3;exact eC.at h2
theorem Jl {o:Oper} {a:Act} (hgd:o.guard=none) (s x:Operand)
  (ho:o.op=.call {callee:=.builtin .append,args:= #[s,x],argTypes:= #[85,85]}) (base:Nat) (v:Value) (n:Nat) (xs:List Value) (u1 u2:Value) (hs:a.eval s=v) (hown:w.ownsRow base 39 2 v n xs) (g:Nat) (hx:a.eval x=.slice (some ⟨g,0,none⟩) 1 1) (h0:w.cell? ⟨g,0,none⟩=some u1) (h1:w.cell? ⟨g,1,none⟩=some u2) (hu1:cM u1) (hu2:cM u2) (hlen:n+1<=100000) (hbase:base<=w.heap.size)
  (h:∀v' w',w'.ownsRow base 39 2 v' (n+1) (xs++[u1,u2]) ->w.grownBy w' v.ownBlock ->(v'.ownBlock=v.ownBlock∨∀k,v'.ownBlock=some k ->w.heap.size<=k) ->wpList Tryz.prog ops Q rest (a.put o.dst v') w'):wpList Tryz.prog ops Q (o::rest) a w:=by
 obtain⟨i0,cU,hz0,hz1,hz2⟩:=eT Tryz.infoTable
 obtain⟨v',w',hr,r1,r2,r3⟩:=YT (P:=Tryz.prog) w base 85 o.type 39 i0 (.agg #[.slice none 0 0,.slice none 0 0]) 2 48 Tryz.underlying85 cU hz0 hz1 hz2 rfl (by decide) v n xs hown ⟨g,0,none⟩ 1 1 [u1,u2] rfl (fun j u hj=>by
  match j,hj with
  |0,hj=>cases hj;exact h0
  |1,hj=>cases hj;exact h1
  |j+2,hj=>simp at hj) (fun u hu=>by
  simp only[dK,qG,acA] at hu;rcases hu with rfl |rfl
  ·obtain⟨_,_,_,rfl⟩:=hu1;rfl
  ·obtain⟨_,_,_,rfl⟩:=hu2;rfl) (by unfold maxLen;omega) (by omega) hbase (by decide)
 refine wpList_plain hgd fun _ hK=>?_;unfold Oper.wp execOp;simp only[ho,resolve,invoke,builtin,I8,DZ,zR,Je,gQ,ld,hs,hx,hr];exact hK _ _ (h v' w' r1 r2 r3)
structure pE (lo:Nat) (W:World) (b:Nat) (x y:Value) (tv:Value) (Q:List (Value×Value)) (P:List Tb) (V:World):Prop where
 box:bj V b x y tv
 own:kr V W.heap.size tv Q P
 far:∀R,lo<=R ->R<=b ->∀k (h:k<P.length) (h':k<Q.length),fE R P[k] Q[k]
 fr:W.grownBy V (some b)
theorem pE.start {W:World} {b:Nat} (h:bj W b x y (.slice none 0 0)):pE lo W b x y (.slice none 0 0) [] [] W:=⟨h,kr.nil _ _,(fun R _ _ k h=>absurd h (by simp)),UF _ _⟩
theorem pE.under {W:World} {b:Nat} {Q:List (Value×Value)} {P:List Tb} (h:pE lo W b x y tv Q P V) (hb:Below V.heap.size V V'):pE lo W b x y tv Q P V':=⟨h.box.aa hb h.box.lt,h.own.under hb,h.far,UG h.fr hb⟩
theorem pE.push {W:World} {b:Nat} {cP:Value} {Q:List (Value×Value)} {P:List Tb} {t:Tb} (h:pE lo W b x y tv Q P V) (hlo:lo<=b) (hb:b<W.heap.size) (ht:cR V u1 u2 t) (hf:∀R,tv.ownBlock=some R ->fE R t (u1,u2)) (hfb:∀R,lo<=R ->R<=b ->fE R t (u1,u2)) (ho:V'.ownsRow W.heap.size 39 2 cP (P.length+1) (fK Q++[u1,u2])) (hg:V.grownBy V' tv.ownBlock) (hn:cP.ownBlock=tv.ownBlock∨∀k,cP.ownBlock=some k ->V.heap.size<=k):
  pE lo W b x y cP (Q++[(u1,u2)]) (P++[t]) (V'.setCell ⟨b,2,none⟩ cP):=by
 have hR:∀k,tv.ownBlock=some k ->W.heap.size<=k:=fun k e=>(h.own.lt k e).1;have hO:=h.own.push ht hf ho hg hn;have hB:bj V' b x y tv:=(hg.block b h.box.lt (fun e=>by have:=hR b e.symm;omega)).trans h.box
 have nH:∀R,lo<=R ->R<=b ->∀k (h1:k<(P++[t]).length) (h2:k<(Q++[(u1,u2)]).length),fE R (P++[t])[k] (Q++[(u1,u2)])[k]:=fun R PQ PU k h1 h2=>by
  by_cases dX:k<P.length
  ·have gi:k<Q.length:=by rw[h.own.len];exact dX
   rw[uI gi,uI dX];exact h.far R PQ PU k dX gi
  ·have gi:¬k<Q.length:=by rw[h.own.len];exact dX
   rw[Ac (by omega),Ac (by omega)];simp only[MQ];exact hfb R PQ PU
 refine⟨hB.set2 cP,hO.off _ (nH b hlo (ar _)) (fun e=>?_),nH,OZ (K2 h.fr hg hR) _ _⟩;have:=(hO.lt b e).1;omega
theorem ab6 (a:Option Addr) (ca:Nat) (S:List Nat) (x y:Value) (t:Tb) (v z:Nat) (w:World) (aJ:eH (iL S)) (hs:aaK w a (iL S)) (h:cR w x y t) (ho:di S S.length t) (hw:Cw 100000 t.2) (hv:v<S.length) (hz:z<sz S v):
  Calls Tryz.prog 97 #[.slice a S.length ca,.agg #[x,y],.int .i64 (v:Nat),.int .i64 (z:Nat)] w fun e w'=>Bi w.heap.size (gK S v z t) e w'/\Below w.heap.size w w':=by
 obtain⟨b,c,cb,cc,rfl,rfl,h1,h2,h3⟩:=h;have e1:=aJ.eight;rw[ba] at e1;have e2:=ho.small aJ;have:=aeA a b c ca cb cc (iL S) t.1 t.2 v z w hs h1 h2 (by rw[ba];omega) (by omega) (ho.check aJ) hw (by rw[ba];exact hv) (by rw[ew];exact hz);rw[ba,ew] at this;exact this.ae fun e w' hh=>⟨uh.tb (t:=gK S v z t) hh.1,hh.2⟩
theorem agM (a b t:Option Addr) (ca cb ct:Nat) (S:List Nat) (fr:List Int) (P:List Tb) (D c v z:Nat) (w:World) (aJ:eH (iL S)) (hs:aaK w a (iL S)) (hb:aaK w b fr) (hP:dQ w t P) (aM:eX S S.length P D c) (hpl:P.length<=1000) (jR:fr.length<=1000) (hm:2*(B D).size+(B c).size+2<=8192) (hv:v<S.length) (hz:z<sz S v):
  Calls Tryz.prog 48 #[.agg #[.slice a S.length ca,.slice b fr.length cb,.slice t P.length ct],.agg #[.int .i64 (v:Nat),.int .i64 (z:Nat)]] w fun e w'=>∃d cd t' b9,e=.returned (.agg #[.slice a S.length ca,.slice d (bw fr v).length cd,.slice t' P.length b9])/\aaK w' d (bw fr v)/\dQ w' t' (P.map (gK S v z))/\eC w.heap.size t' b9/\Below w.heap.size w w':=by
 have df:Pos S:=by have:=aJ.pos;rwa [ew] at this
 have ku:=hid (fun (U:World) (hU:Below w.heap.size w U)=>R3 (.slice a S.length ca) (.slice t P.length ct) b cb fr (v:Int) U (slv _ _ _) (slv _ _ _) (hb.aa hU) jR);have qA:Hid (∀(k:Nat) (hk:k<P.length) (x y:Value) (U:World),Below w.heap.size w U ->cR U x y P[k] ->Calls Tryz.prog 97 #[.slice a S.length ca,.agg #[x,y],.int .i64 (v:Nat),.int .i64 (z:Nat)] U fun e w'=>Bi U.heap.size (gK S v z P[k]) e w'/\Below U.heap.size U w'):=fun k hk x y U hU h1=>ab6 a ca S x y _ v z U aJ (hs.aa hU) h1 (aM.ok _ (bH hk)) ((aM.cw df hm P[k] (bH hk)).up (by decide)) hv hz;have HP:=hid hP;clear hs hb hP aM aJ df hm hz;go_enter Tryz.func48,Tryz.ntmps48;go_wp2_with fail
 have hb0:Below w.heap.size w (((w.alloc (.cells #[.slice a S.length ca,.slice b fr.length cb,.slice t P.length ct] 87)).alloc (.cells #[.int .i64 (v:Nat),.int .i64 (z:Nat)] 90)).alloc (.cells #[.slice none 0 0,.slice none 0 0,.slice none 0 0] 87)):=by
  have h1:=(au w.heap.size w).alloc (ar _) (.cells #[.slice a S.length ca,.slice b fr.length cb,.slice t P.length ct] 87);have h2:=h1.alloc h1.size (.cells #[.int .i64 (v:Nat),.int .i64 (z:Nat)] 90);exact h2.alloc h2.size _
 have pq:bj (((w.alloc (.cells #[.slice a S.length ca,.slice b fr.length cb,.slice t P.length ct] 87)).alloc (.cells #[.int .i64 (v:Nat),.int .i64 (z:Nat)] 90)).alloc (.cells #[.slice none 0 0,.slice none 0 0,.slice none 0 0] 87)) w.heap.size (.slice a S.length ca) (.slice b fr.length cb) (.slice t P.length ct):=((bj.at (w:=w) rfl _ _ _).alloc _).alloc _
 have C9:(((w.alloc (.cells #[.slice a S.length ca,.slice b fr.length cb,.slice t P.length ct] 87)).alloc (.cells #[.int .i64 (v:Nat),.int .i64 (z:Nat)] 90)).alloc (.cells #[.slice none 0 0,.slice none 0 0,.slice none 0 0] 87)).heap[w.heap.size+1]? =some (.cells #[.int .i64 (v:Nat),.int .i64 (z:Nat)] 90 (0,0)):=by
  rw[rY _ _ _ (by simp)];have:=kd (w.alloc (.cells #[.slice a S.length ca,.slice b fr.length cb,.slice t P.length ct] 87)) (.cells #[.int .i64 (v:Nat),.int .i64 (z:Nat)] 90);rwa [cN] at this
 have iA:bj (((w.alloc (.cells #[.slice a S.length ca,.slice b fr.length cb,.slice t P.length ct] 87)).alloc (.cells #[.int .i64 (v:Nat),.int .i64 (z:Nat)] 90)).alloc (.cells #[.slice none 0 0,.slice none 0 0,.slice none 0 0] 87)) (w.heap.size+1+1) (.slice none 0 0) (.slice none 0 0) (.slice none 0 0):=bj.at (w:=(w.alloc (.cells #[.slice a S.length ca,.slice b fr.length cb,.slice t P.length ct] 87)).alloc (.cells #[.int .i64 (v:Nat),.int .i64 (z:Nat)] 90)) (by simp) _ _ _;have zt:=hid (ku.o _ hb0);clear ku;generalize (((w.alloc (.cells #[.slice a S.length ca,.slice b fr.length cb,.slice t P.length ct] 87)).alloc (.cells #[.int .i64 (v:Nat),.int .i64 (z:Nat)] 90)).alloc (.cells #[.slice none 0 0,.slice none 0 0,.slice none 0 0] 87))=W0 at *;refine zt.o.ae ?_;rintro e w3 ⟨d,cd,rfl,wS,AX,hb3⟩;have hl0:=iA.lt;have jT:=(au w3.heap.size w3).alloc (ar _) (.cells #[.slice a S.length ca,.slice d (bw fr v).length cd,.slice none 0 0] 87);have eM:(w3.alloc (.cells #[.slice a S.length ca,.slice d (bw fr v).length cd,.slice none 0 0] 87)).heap.size=w3.heap.size+1:=by simp
 have dY:=(hb0.trans (hb3.ae hb0.size)).trans (jT.ae (aS hb0.size hb3.size));have xj:=(pq.aa hb3 pq.lt).alloc (.cells #[.slice a S.length ca,.slice d (bw fr v).length cd,.slice none 0 0] 87);have vw:=(iA.aa hb3 iA.lt).alloc (.cells #[.slice a S.length ca,.slice d (bw fr v).length cd,.slice none 0 0] 87)
 have y5:(w3.alloc (.cells #[.slice a S.length ca,.slice d (bw fr v).length cd,.slice none 0 0] 87)).heap[w.heap.size+1]? =some (.cells #[.int .i64 (v:Nat),.int .i64 (z:Nat)] 90 (0,0)):=by
  rw[rY _ _ _ (by have:=hb3.size;omega),hb3.block _ (by omega)];exact C9
 have C3:pE w.heap.size (w3.alloc (.cells #[.slice a S.length ca,.slice d (bw fr v).length cd,.slice none 0 0] 87)) w3.heap.size (.slice a S.length ca) (.slice d (bw fr v).length cd) (.slice none 0 0) [] [] (w3.alloc (.cells #[.slice a S.length ca,.slice d (bw fr v).length cd,.slice none 0 0] 87)):=pE.start (bj.at (w:=w3) rfl (.slice a S.length ca) (.slice d (bw fr v).length cd) (.slice none 0 0));have hI4:=wS.aa jT;have hs3:=hb3.size
 have Mb:Hid (∀g o,d=some ⟨g,o,none⟩ ->bw fr v≠[] ->some g≠some w3.heap.size):=fun g o e hne e2=>by
  obtain⟨g',o',e',iK,_⟩:=wS 0 (by cases hl:bw fr v with |nil=>exact absurd hl hne |cons x l=>simp);rw[e] at e';cases e';cases e2;omega
 have mF:Hid (∀g o,d=some ⟨g,o,none⟩ ->bw fr v≠[] ->g≠w.heap.size+1+1):=fun g o e _ e2=>by
  have:=AX.2 g o e;omega
 clear wS AX hb3 hb0 pq C9 iA jT zt;have fV:=hid dY;have q9:=hid xj;have js:=hid vw;have nX:=hid y5;have vS:=hid C3;have F4:=hid hI4;have tM:=xj.cells.2.2;clear dY xj vw y5 C3 hI4;generalize xm:bw fr v=LF at *;have Qd:=hid xm;clear xm;go_wp2_with fail
 generalize (w3.alloc (.cells #[.slice a S.length ca,.slice d LF.length cd,.slice none 0 0] 87))=W4 at *;clear tM;obtain⟨T,hT⟩:∃T:Nat ->List Tb,∀k,(P.take k).map (gK S v z)=T k:=⟨fun k=>(P.take k).map (gK S v z),fun _=>rfl⟩;have vQ:Hid (T 0=[]):=by show _=_;rw[<- hT];rfl
 have sU:Hid (∀k (hk:k<P.length),T (k+1)=T k++[gK S v z P[k]]):=fun k hk=>by rw[<- hT, <- hT,fR hk,fY];rfl
 have qu:Hid (T P.length=P.map (gK S v z)):=by show _=_;rw[<- hT,fJ]
 have vO:Hid (∀k,k<=P.length ->(T k).length=k):=fun k hk=>by rw[<- hT,c5,eZ];omega
 clear hT;go_loopw [17] (fun iv wr=>∃(i:Nat) (tv:Value) (Q:List (Value×Value)),i<=P.length/\iv=.int .i64 i/\Hid (pE w.heap.size W4 w3.heap.size (.slice a S.length ca) (.slice d LF.length cd) tv Q (T i) wr)) (fun iv _=>P.length - (intOf iv).toNat)
 case atStart=>exact⟨0,_,_,aU _,rfl,by rw[vQ.o];exact vS⟩
 case round=>
  obtain⟨i,tv,Q,hi,rfl,HM⟩:=hrel;have Hq:=HM.o.fr.size;have HB:Hid (Below w.heap.size w wr):=H4 fV.o HM.o.fr (by omega) (by omega);have FO:Hid (bj wr w.heap.size (.slice a S.length ca) (.slice b fr.length cb) (.slice t P.length ct)):=(HM.o.fr.block _ q9.o.lt (fun e=>by have:=lV e;omega)).trans q9.o;have lQ:Hid (bj wr (w.heap.size+1+1) (.slice none 0 0) (.slice none 0 0) (.slice none 0 0)):=(HM.o.fr.block _ js.o.lt (fun e=>by have:=lV e;omega)).trans js.o;have WD:Hid (wr.heap[w.heap.size+1]? =some (.cells #[.int .i64 (v:Nat),.int .i64 (z:Nat)] 90 (0,0))):=(HM.o.fr.block _ (by omega) (fun e=>by have:=lV e;omega)).trans nX.o;by_cases hlt2:i<P.length
  ·obtain⟨g,o,p,q,rfl,hg,k0,k1,lC⟩:=(HP.o.aa HB.o) i hlt2;have hA:=(au wr.heap.size wr).alloc (ar _) (TC p q);have dC:=hid (HB.o.trans (hA.ae HB.o.size));(have AU:(wr.alloc (TC p q)).heap.size=wr.heap.size+1:=by simp);have KN:=FO.o.alloc (TC p q);have Tr:=KN.cells.1;have Fc:(wr.alloc (TC p q)).heap[w.heap.size+1]? =some (.cells #[.int .i64 (v:Nat),.int .i64 (z:Nat)] 90 (0,0)):=(rY _ _ _ (by omega)).trans WD.o;(have ze:(wr.alloc (TC p q)).cell? ⟨w.heap.size+1,0,none⟩=some (.int .i64 (v:Nat)):=by rw[cC _ _ 0 _ _ (0,0) Fc];rfl);(have Be:(wr.alloc (TC p q)).cell? ⟨w.heap.size+1,1,none⟩=some (.int .i64 (z:Nat)):=by rw[cC _ _ 1 _ _ (0,0) Fc];rfl);have bW:=bh.at (w:=wr) rfl p q;have b0:=bW.c0;have b1:=bW.c1;have DI:=hid (HM.o.under hA);have HX:=hid (qA.o i hlt2 p q _ dC.o (lC.aa hA));have VR:=hid (sU.o i hlt2);have oK:=vO.o i hi;obtain⟨ps,pn,pc,rfl⟩:=lC.slices.1;obtain⟨qs,qn,qc,rfl⟩:=lC.slices.2;have BA:Hid (∀R,tv.ownBlock=some R ->W4.heap.size<=R/\R<wr.heap.size):=HM.o.own.lt;clear lC hA bW KN Fc;generalize gK S v z P[i]=ft at *;go_wp2_with fail
   refine HX.o.ae ?_;rintro e w7 ⟨⟨x2,y2,rfl,hv2,dm⟩,bK⟩;obtain⟨xs,xn,xc,rfl⟩:=hv2.slices.1;obtain⟨ys,yn,yc,rfl⟩:=hv2.slices.2;rw[AU] at dm;have hs7:=bK.size;rw[AU] at hs7;have IK:=hid (DI.o.under bK);have sL:=(au w7.heap.size w7).alloc (ar _) (TC (.slice xs xn xc) (.slice ys yn yc));have xU:=hid (IK.o.under sL);(have CE:(w7.alloc (TC (.slice xs xn xc) (.slice ys yn yc))).heap.size=w7.heap.size+1:=by simp);have wY:=bh.at (w:=w7) rfl (.slice xs xn xc) (.slice ys yn yc);have c80:=wY.c0;have c81:=wY.c1;have t82:=xU.o.box.cells.2.2;have Fi:=(au (w7.alloc (TC (.slice xs xn xc) (.slice ys yn yc))).heap.size (w7.alloc (TC (.slice xs xn xc) (.slice ys yn yc)))).alloc (ar _) (TC (.slice xs xn xc) (.slice ys yn yc));have xT:=hid (xU.o.under Fi);have FA:=hid ((hv2.aa sL).aa Fi);have E5:=bh.at (w:=w7.alloc (TC (.slice xs xn xc) (.slice ys yn yc))) CE (.slice xs xn xc) (.slice ys yn yc);have WV:=hid E5.c0;have WU:=hid E5.c1;have rM:=hid hv2.slices;have fA:=hid dm;have pG:Hid (W4.heap.size<=((w7.alloc (TC (.slice xs xn xc) (.slice ys yn yc))).alloc (TC (.slice xs xn xc) (.slice ys yn yc))).heap.size):=xT.o.fr.size;have hb5:=vS.o.box.lt;clear hv2 bK sL Fi wY E5 dm HX DI k0 k1 b0 b1 Tr ze Be
   have KEY:∀(cP:Value) (bI:World),bI.ownsRow W4.heap.size 39 2 cP ((T i).length+1) (fK Q++[.slice xs xn xc,.slice ys yn yc]) ->((w7.alloc (TC (.slice xs xn xc) (.slice ys yn yc))).alloc (TC (.slice xs xn xc) (.slice ys yn yc))).grownBy bI tv.ownBlock ->(cP.ownBlock=tv.ownBlock∨∀k,cP.ownBlock=some k ->((w7.alloc (TC (.slice xs xn xc) (.slice ys yn yc))).alloc (TC (.slice xs xn xc) (.slice ys yn yc))).heap.size<=k) ->(∃a' n' c',cP=Value.slice a' n' c')/\(pE w.heap.size W4 w3.heap.size (.slice a S.length ca) (.slice d LF.length cd) cP (Q++[(.slice xs xn xc,.slice ys yn yc)]) (T (i+1)) (bI.setCell ⟨w3.heap.size,2,none⟩ cP))/\bI.cell? ⟨w3.heap.size,2,none⟩=some tv/\bI.frozen? ⟨w3.heap.size,2,none⟩=false:=fun cP bI dw dO fS=>by
    have hM:=xT.o.push (by omega) hb5 FA.o (fun R hR=>fA.o R (by have:=(BA.o R hR).2;omega)) (fun R _ hR=>fA.o R (by omega)) dw dO fS;rw[<- VR.o] at hM;have xu:bj bI w3.heap.size (.slice a S.length ca) (.slice d LF.length cd) tv:=(dO.block _ xT.o.box.lt (fun e=>by have:=(BA.o _ e.symm).1;omega)).trans xT.o.box;refine⟨?_,hM,xu.cells.2.2,xu.fz 2⟩;rcases dw.2 with ⟨h1,_⟩ |⟨g',cap',cur',h1,_⟩
    ·exact⟨_,_,_,h1⟩
    ·exact⟨_,_,_,h1⟩
   have HKEY:=hid KEY;clear KEY;go_wp2_with (at_builtin;refine Jl rfl _ _ rfl W4.heap.size tv (T i).length (fK Q) (.slice xs xn xc) (.slice ys yn yc) rfl xT.o.own.own (w7.heap.size+1) rfl WV.o WU.o rM.o.1 rM.o.2 (by omega) pG.o ?_;intro cP bI dw dO fS;obtain⟨⟨wC,tn',wB,rfl⟩,sI,t102,f102⟩:=HKEY.o cP bI dw dO fS;have nV:=hid sI;clear sI dw dO fS)
   go_roundw
   case rel=>exact⟨i+1,_,_,by omega,by go_num,nV⟩
   case measure=>simp[intOf];omega
  ·obtain rfl:i=P.length:=by omega
   rw[qu.o] at HM;obtain⟨ta,tc,rfl,yO⟩:=HM.o.own.row;obtain⟨x0,x1,x2⟩:=HM.o.box.cells;obtain⟨r0,r1,r2⟩:=lQ.o.cells;have Am:=lQ.o.fz 0;have JE:=lQ.o.fz 1;have JD:=lQ.o.fz 2;(have hml:(P.map (gK S v z)).length=P.length:=by simp);rw[hml] at HM x2;have C5:aaK wr d LF:=Hg F4.o Mb.o HM.o.fr;have xR:=hid (lQ.o.put (.slice a S.length ca) (.slice d LF.length cd) (.slice ta P.length tc));have uF:=hid (bF HB.o (show w.heap.size<=w.heap.size+1+1 by omega) (.slice a S.length ca) (.slice d LF.length cd) (.slice ta P.length tc))
   have eQ:Value.ownBlock (.slice ta P.length tc)≠some (w.heap.size+1+1):=fun e=>by
    have:=(HM.o.own.lt _ e).1;omega
   have hO3:=((HM.o.own.off (g:=w.heap.size+1+1) (j:=0) (.slice a S.length ca) (HM.o.far _ (by omega) (by omega)) eQ).off (g:=w.heap.size+1+1) (j:=1) (.slice d LF.length cd) (HM.o.far _ (by omega) (by omega)) eQ).off (g:=w.heap.size+1+1) (j:=2) (.slice ta P.length tc) (HM.o.far _ (by omega) (by omega)) eQ;obtain⟨Ri,Re,e2,wI⟩:=hO3.row;rw[hml] at e2;injection e2 with e3 e4 e5;subst e3 e5;clear e4;have FB:=hid wI;have vV:=hid (((C5.off (g:=w.heap.size+1+1) (j:=0) (y:=.slice a S.length ca) mF.o).off (g:=w.heap.size+1+1) (j:=1) (y:=.slice d LF.length cd) mF.o).off (g:=w.heap.size+1+1) (j:=2) (y:=.slice ta P.length tc) mF.o);have FU:=hid ((ND HM.o.own.own).up (show w.heap.size<=W4.heap.size by omega));clear hO3 wI C5 yO;go_wp2;refine bB (xR.o.result1 rfl _ rfl) rfl ?_;have e6:=Qd.o;subst e6;exact⟨d,cd,ta,tc,rfl,vV.o,FB.o,FU.o,uF.o⟩
variable {Q2:List (Value×Value)} {P2:List Tb} {v:Nat} {wv:Value}
theorem abG {t:Tb} (h:Up t.1 n):t.1.contains (v:Int)=decide (v∈ag t.1):=by
 have:(v:Int)∈t.1↔v∈ag t.1:=by
  rw[ag,aaQ];constructor
  ·intro hv;exact⟨_,hv,by simp⟩
  ·rintro⟨x,hx,e⟩;have:=((pV.1 h).1 x hx).1;rw[show (v:Int)=x by omega];exact hx
 by_cases hv:v∈ag t.1
 ·rw[cJ hv,lh];exact this.2 hv
 ·rw[abg hv, <- Bool.not_eq_true,lh];exact fun e=>hv (this.1 e)
theorem ag6 (a:Option Addr) (ca:Nat) (S:List Nat) (x y:Value) (t:Tb) (v:Nat) (most:Bool) (w:World) (aJ:eH (iL S)) (hs:aaK w a (iL S)) (h:cR w x y t) (ho:di S S.length t) (hw:Cw 8192 t.2) (hv:v<S.length) (EE:v∈ag t.1):
  Calls Tryz.prog 160 #[.slice a S.length ca,.agg #[x,y],.int .i64 (v:Nat),.bool most] w fun e w'=>Bi w.heap.size (outT S v most t) e w'/\Below w.heap.size w w':=by
 obtain⟨b,c,cb,cc,rfl,rfl,h1,h2,h3⟩:=h;have e1:=aJ.eight;rw[ba] at e1;have e2:=ho.small aJ;have e3:t.1.contains (v:Int)=true:=by rw[abG ho.up,cJ EE]
 cases most with
 |false=>
  have:=aew a b c ca cb cc (iL S) t.1 t.2 v w hs h1 h2 (by rw[ba];omega) (by omega) (ho.check aJ) hw e3 (by rw[ba];exact hv);rw[ba,ew] at this;exact this.ae fun e w' hh=>⟨uh.tb (t:=outT S v false t) hh.1,hh.2⟩
 |true=>
  have:=aex a b c ca cb cc (iL S) t.1 t.2 v w hs h1 h2 (by rw[ba];omega) (by omega) (ho.check aJ) hw e3 (by rw[ba];exact hv);rw[ba,ew] at this;exact this.ae fun e w' hh=>⟨uh.tb (t:=outT S v true t) hh.1,hh.2⟩
theorem NF {B:Nat} {e:TypeId} {s:Nat} {v:Value} {r:Option Nat} (h:w.ownsRow B e s v n xs) (hg:w.grownBy w' r) (hne:∀R,v.ownBlock=some R ->r≠some R):w'.ownsRow B e s v n xs:=by
 refine⟨h.1,?_⟩;rcases h.2 with h1 |⟨g,cap,cur,h1,h2,h3,h4⟩
 ·exact .inl h1
 ·exact .inr ⟨g,cap,cur,h1,h2,(hg.block g (eL.1 h3).1 (fun e=>hne g (by rw[h1];rfl) e.symm)).trans h3,h4⟩
theorem acH {B:Nat} {e:TypeId} {s:Nat} {v:Value} (h:w.ownsRow B e s v n xs):∀R,v.ownBlock=some R ->B<=R/\R<w.heap.size:=fun R hR=>by
 rcases h.2 with ⟨h1,h2⟩ |⟨g,cap,cur,h1,h2,h3,_⟩
 ·rw[h1] at hR;cases hR
 ·rw[h1] at hR;cases hR;exact⟨h2,(eL.1 h3).1⟩
theorem uO {B:Nat} {e:TypeId} {s:Nat} {v:Value} (h:w.ownsRow B e s v n xs):∃a c,v=.slice a n c:=by
 rcases h.2 with ⟨h1,h2⟩ |⟨g,cap,cur,h1,_⟩
 ·exact⟨none,0,by rw[h1,h2]⟩
 ·exact⟨_,_,h1⟩
structure xI (w:World) (Q:List (Value×Value)) (P:List Tb):Prop where
 len:Q.length=P.length
 val:∀k (h:k<P.length) (h':k<Q.length),cR w Q[k].1 Q[k].2 P[k]
theorem xI.nil (w:World):xI w [] []:=⟨rfl,fun k h=>absurd h (by simp)⟩
theorem xI.push {Q:List (Value×Value)} {P:List Tb} {t:Tb} (h:xI w Q P) (ht:cR w x y t):xI w (Q++[(x,y)]) (P++[t]):=by
 refine⟨by simp[h.len],fun k hk dH=>?_⟩;by_cases dX:k<P.length
 ·have gi:k<Q.length:=by rw[h.len];exact dX
  rw[uI gi,uI dX];exact h.val k dX gi
 ·have gi:¬k<Q.length:=by rw[h.len];exact dX
  rw[Ac (by omega),Ac (by omega)];simp only[MQ];exact ht
theorem xI.owt {B:Nat} {v:Value} {Q:List (Value×Value)} {P:List Tb} (h:xI w Q P) (hb:Below w.heap.size w V) (hB:w.heap.size<=B) (ho:V.ownsRow B 39 2 v P.length (fK Q)):kr V B v Q P:=
 ⟨h.len,ho,fun k h1 h2=>(h.val k h1 h2).aa hb,fun R hR k h1 h2=>(h.val k h1 h2).lt (aS hB (acH ho R hR).1)⟩
structure nP (w W:World) (b:Nat) (x y tv wv:Value) (Q Q2:List (Value×Value)) (P P2:List Tb) (V:World):Prop where
 box:bj V b x y tv
 own:V.ownsRow W.heap.size 39 2 tv P.length (fK Q)
 own2:V.ownsRow W.heap.size 39 2 wv P2.length (fK Q2)
 q:xI w Q P
 q2:xI w Q2 P2
 ne:∀R,tv.ownBlock=some R ->wv.ownBlock≠some R
 fr:W.grownBy V (some b)
theorem nP.start {W:World} {b:Nat} (h:bj W b x y (.slice none 0 0)):nP w W b x y (.slice none 0 0) (.slice none 0 0) [] [] [] [] W:=
 ⟨h,(kr.nil _ _).own,(kr.nil _ _).own,xI.nil _,xI.nil _,(fun R e=>by cases e),UF _ _⟩
theorem nP.under {W:World} {b:Nat} {Q:List (Value×Value)} {P:List Tb} (h:nP w W b x y tv wv Q Q2 P P2 V) (hb:Below V.heap.size V V'):nP w W b x y tv wv Q Q2 P P2 V':=
 ⟨h.box.aa hb h.box.lt,JR h.own (Dn.aa hb),JR h.own2 (Dn.aa hb),h.q,h.q2,h.ne,UG h.fr hb⟩
theorem nP.push2 {W:World} {b:Nat} {M0:Value} {Q:List (Value×Value)} {P:List Tb} {t:Tb} (h:nP w W b x y tv wv Q Q2 P P2 V) (hb:b<W.heap.size) (ht:cR w u1 u2 t) (ho:V'.ownsRow W.heap.size 39 2 M0 (P2.length+1) (fK Q2++[u1,u2])) (hg:V.grownBy V' wv.ownBlock) (hn:M0.ownBlock=wv.ownBlock∨∀k,M0.ownBlock=some k ->V.heap.size<=k):
  nP w W b x y tv M0 Q (Q2++[(u1,u2)]) P (P2++[t]) V':=by
 have hR:∀k,wv.ownBlock=some k ->W.heap.size<=k:=fun k e=>(acH h.own2 k e).1;refine⟨(hg.block b h.box.lt (fun e=>by have:=hR b e.symm;omega)).trans h.box,NF h.own hg h.ne,by rw[Nb,dM];exact ho,h.q,h.q2.push ht,fun R e e2=>?_,K2 h.fr hg hR⟩;rcases hn with hn |hn
 ·rw[hn] at e2;exact h.ne R e e2
 ·have h1:=hn R e2;have h2:=(acH h.own R e).2;omega
theorem nP.push1 {W:World} {b:Nat} {cP:Value} {Q:List (Value×Value)} {P:List Tb} {t:Tb} (h:nP w W b x y tv wv Q Q2 P P2 V) (hb:b<W.heap.size) (ht:cR w u1 u2 t) (ho:V'.ownsRow W.heap.size 39 2 cP (P.length+1) (fK Q++[u1,u2])) (hg:V.grownBy V' tv.ownBlock) (hn:cP.ownBlock=tv.ownBlock∨∀k,cP.ownBlock=some k ->V.heap.size<=k):
  nP w W b x y cP wv (Q++[(u1,u2)]) Q2 (P++[t]) P2 (V'.setCell ⟨b,2,none⟩ cP)/\bj V' b x y tv:=by
 have hR:∀k,tv.ownBlock=some k ->W.heap.size<=k:=fun k e=>(acH h.own k e).1;have hB:bj V' b x y tv:=(hg.block b h.box.lt (fun e=>by have:=hR b e.symm;omega)).trans h.box;have ho2:V'.ownsRow W.heap.size 39 2 wv P2.length (fK Q2):=NF h.own2 hg (fun R e e2=>h.ne R e2 e);have ho1:V'.ownsRow W.heap.size 39 2 cP (P++[t]).length (fK (Q++[(u1,u2)])):=by rw[Nb,dM];exact ho
 refine⟨⟨hB.set2 cP,DY ho1 (fun e=>?_) _,DY ho2 (fun e=>?_) _,h.q.push ht,h.q2,fun R e e2=>?_,OZ (K2 h.fr hg hR) _ _⟩,hB⟩
 ·have:=(acH ho1 b e).1;omega
 ·have:=(acH ho2 b e).1;omega
 ·rcases hn with hn |hn
  ·rw[hn] at e;exact h.ne R e e2
  ·have h1:=hn R e;have h2:=(acH h.own2 R e2).2;omega
theorem nP.plm {W:World} {b:Nat} {Q:List (Value×Value)} {P:List Tb} (h:nP w W b x y tv wv Q Q2 P P2 V) (hb:Below w.heap.size w V) (hW:w.heap.size<=W.heap.size):pE w.heap.size W b x y tv Q P V:=
 ⟨h.box,h.q.owt hb hW h.own,fun _ hR _ k h1 h2=>(h.q.val k h1 h2).lt hR,h.fr⟩
theorem nP.row2 {W:World} {b:Nat} {Q:List (Value×Value)} {P:List Tb} (h:nP w W b x y tv wv Q Q2 P P2 V) (hb:Below w.heap.size w V) (hW:w.heap.size<=W.heap.size):∃a c,wv=.slice a P2.length c/\dQ V a P2:=(h.q2.owt hb hW h.own2).row
theorem agJ (a b t:Option Addr) (ca cb ct:Nat) (S:List Nat) (fr:List Int) (P:List Tb) (D c v:Nat) (most:Bool) (w:World) (aJ:eH (iL S)) (hs:aaK w a (iL S)) (hb:aaK w b fr) (hP:dQ w t P) (aM:eX S S.length P D c) (hpl:P.length<=999) (jR:fr.length<=1000) (hm:2*(B D).size+(B c).size+2<=8192) (hv:v<S.length) (hex:∃t∈P,v∈ag t.1):
  Calls Tryz.prog 104 #[.agg #[.slice a S.length ca,.slice b fr.length cb,.slice t P.length ct],.int .i64 (v:Nat),.bool most] w fun e w'=>∃d cd t' b9,e=.returned (.agg #[.slice a S.length ca,.slice d (bw fr v).length cd,.slice t' (abW S v most P).length b9])/\aaK w' d (bw fr v)/\dQ w' t' (abW S v most P)/\eC w.heap.size t' b9/\Below w.heap.size w w':=by
 have df:Pos S:=by have:=aJ.pos;rwa [ew] at this
 have ku:=hid (fun (U:World) (hU:Below w.heap.size w U)=>R3 (.slice a S.length ca) (.slice t P.length ct) b cb fr (v:Int) U (slv _ _ _) (slv _ _ _) (hb.aa hU) jR)
 have jt:Hid (∀(k:Nat) (hk:k<P.length) (x:Option Addr) (cx:Nat) (U:World),aaK U x P[k].1 ->Calls Tryz.prog 49 #[.slice x P[k].1.length cx,.int .i64 (v:Nat)] U fun e w'=>e=.returned (.bool (decide (v∈ag P[k].1)))/\Below U.heap.size U w'):=fun k hk x cx U h=>by
  have ho:=aM.ok _ (bH hk);have:=GS x cx P[k].1 (v:Int) U h (by have:=ho.small aJ;omega);rwa [abG ho.up] at this
 obtain⟨E1,d1,k1,k2,k3⟩:=aM.filter (fun t=>decide (v∈ag t.1))
 have hm1:2*(B E1).size+(B d1).size+2<=8192:=by
  have h1:=kj k2;have h2:=kj k3;omega
 have hpart:=k1.part df hm1 (P.filter fun t=>decide (v∈ag t.1)).length;rw[fJ] at hpart
 have hin:v∈ag (allT S (P.filter fun t=>decide (v∈ag t.1))).1:=((xH df k1.ok).2.1 v).2 (by
  obtain⟨t,ht,EE⟩:=hex;exact⟨t,abp.2 ⟨ht,cJ EE⟩,EE⟩)
 have hlen:(P.filter fun t=>decide (v∈ag t.1)).length<=1000:=aS (pR ..) (by omega);have rN:Hid (∀(wa:Option Addr) (cw:Nat) (U:World),Below w.heap.size w U ->dQ U wa (P.filter fun t=>decide (v∈ag t.1)) ->Calls Tryz.prog 105 #[.slice a S.length ca,.slice wa (P.filter fun t=>decide (v∈ag t.1)).length cw] U fun e w'=>∃x y,e=.returned (.agg #[x,y])/\cR w' x y (allT S (P.filter fun t=>decide (v∈ag t.1)))/\Below U.heap.size U w'):=fun wa cw U hU h=>Zi a wa ca cw S _ E1 d1 U aJ (hs.aa hU) h k1 hlen hm1;have Dw:Hid (∀(x y:Value) (U:World),Below w.heap.size w U ->cR U x y (allT S (P.filter fun t=>decide (v∈ag t.1))) ->Calls Tryz.prog 160 #[.slice a S.length ca,.agg #[x,y],.int .i64 (v:Nat),.bool most] U fun e w'=>Bi U.heap.size (outT S v most (allT S (P.filter fun t=>decide (v∈ag t.1)))) e w'/\Below U.heap.size U w'):=fun x y U hU h=>ag6 a ca S x y _ v most U aJ (hs.aa hU) h hpart.1 hpart.2 hv hin;have HP:=hid hP;clear hs hb hP aM aJ df hm hex k1 k2 k3 hm1 hpart hin hlen;obtain⟨T,hT⟩:∃T:Nat ->List Tb,∀k,(P.take k).filter (fun t=>!decide (v∈ag t.1))=T k:=⟨fun k=>(P.take k).filter (fun t=>!decide (v∈ag t.1)),fun _=>rfl⟩;obtain⟨Z,hZ⟩:∃Z:Nat ->List Tb,∀k,(P.take k).filter (fun t=>decide (v∈ag t.1))=Z k:=⟨fun k=>(P.take k).filter (fun t=>decide (v∈ag t.1)),fun _=>rfl⟩;have vQ:Hid (T 0=[]/\Z 0=[]):=by show _/\_;rw[<- hT, <- hZ];exact⟨rfl,rfl⟩
 have j5:Hid (∀k (hk:k<P.length),decide (v∈ag P[k].1)=true ->T (k+1)=T k/\Z (k+1)=Z k++[P[k]]):=fun k hk h=>by
  rw[<- hT, <- hT, <- hZ, <- hZ,fR hk,Ch,Ch,Ae (by simp only[h];decide),Ad (p:=fun t:Tb=>decide (v∈ag t.1)) h];simp
 have qZ:Hid (∀k (hk:k<P.length),decide (v∈ag P[k].1)=false ->T (k+1)=T k++[P[k]]/\Z (k+1)=Z k):=fun k hk h=>by
  rw[<- hT, <- hT, <- hZ, <- hZ,fR hk,Ch,Ch,Ad (by simp only[h];decide),Ae (by simp only[h];decide)];simp
 have qu:Hid (T P.length=(P.filter fun t=>!decide (v∈ag t.1))/\Z P.length=P.filter fun t=>decide (v∈ag t.1)):=by show _/\_;rw[<- hT, <- hZ,fJ];exact⟨rfl,rfl⟩
 have vO:Hid (∀k,(T k).length<=P.length/\(Z k).length<=P.length):=fun k=>by rw[<- hT, <- hZ];exact⟨aS (pR ..) (by rw[eZ];omega),aS (pR ..) (by rw[eZ];omega)⟩
 clear hT hZ;obtain⟨OP,Uh⟩:∃OP,abW S v most P=OP:=⟨_,rfl⟩;have vF:Hid (OP=T P.length++[outT S v most (allT S (Z P.length))]):=by show _=_;rw[<- Uh,qu.o.1,qu.o.2];rfl
 rw[<- qu.o.2] at rN Dw;rw[Uh];generalize outT S v most (allT S (Z P.length))=OT at *;generalize allT S (Z P.length)=AT at *;clear Uh qu;obtain⟨LF,xm⟩:∃LF,bw fr v=LF:=⟨_,rfl⟩;rw[xm] at ku;rw[xm];clear xm;go_enter Tryz.func104,Tryz.ntmps104;go_wp2_with fail
 have hb0:Below w.heap.size w ((w.alloc (.cells #[.slice a S.length ca,.slice b fr.length cb,.slice t P.length ct] 87)).alloc (.cells #[.slice none 0 0,.slice none 0 0,.slice none 0 0] 87)):=by
  have h1:=(au w.heap.size w).alloc (ar _) (.cells #[.slice a S.length ca,.slice b fr.length cb,.slice t P.length ct] 87);exact h1.alloc h1.size _
 have pq:bj ((w.alloc (.cells #[.slice a S.length ca,.slice b fr.length cb,.slice t P.length ct] 87)).alloc (.cells #[.slice none 0 0,.slice none 0 0,.slice none 0 0] 87)) w.heap.size (.slice a S.length ca) (.slice b fr.length cb) (.slice t P.length ct):=(bj.at (w:=w) rfl _ _ _).alloc _;have iA:bj ((w.alloc (.cells #[.slice a S.length ca,.slice b fr.length cb,.slice t P.length ct] 87)).alloc (.cells #[.slice none 0 0,.slice none 0 0,.slice none 0 0] 87)) (w.heap.size+1) (.slice none 0 0) (.slice none 0 0) (.slice none 0 0):=bj.at (w:=w.alloc (.cells #[.slice a S.length ca,.slice b fr.length cb,.slice t P.length ct] 87)) (by simp) _ _ _;have zt:=hid (ku.o _ hb0);clear ku;generalize ((w.alloc (.cells #[.slice a S.length ca,.slice b fr.length cb,.slice t P.length ct] 87)).alloc (.cells #[.slice none 0 0,.slice none 0 0,.slice none 0 0] 87))=W0 at *;refine zt.o.ae ?_;rintro e w3 ⟨d,cd,rfl,wS,AX,hb3⟩;have hl0:=iA.lt;have jT:=(au w3.heap.size w3).alloc (ar _) (.cells #[.slice a S.length ca,.slice d LF.length cd,.slice none 0 0] 87);have eM:(w3.alloc (.cells #[.slice a S.length ca,.slice d LF.length cd,.slice none 0 0] 87)).heap.size=w3.heap.size+1:=by simp
 have dY:=(hb0.trans (hb3.ae hb0.size)).trans (jT.ae (aS hb0.size hb3.size));have xj:=(pq.aa hb3 pq.lt).alloc (.cells #[.slice a S.length ca,.slice d LF.length cd,.slice none 0 0] 87);have vw:=(iA.aa hb3 iA.lt).alloc (.cells #[.slice a S.length ca,.slice d LF.length cd,.slice none 0 0] 87);have C3:nP w (w3.alloc (.cells #[.slice a S.length ca,.slice d LF.length cd,.slice none 0 0] 87)) w3.heap.size (.slice a S.length ca) (.slice d LF.length cd) (.slice none 0 0) (.slice none 0 0) [] [] [] [] (w3.alloc (.cells #[.slice a S.length ca,.slice d LF.length cd,.slice none 0 0] 87)):=nP.start (bj.at (w:=w3) rfl (.slice a S.length ca) (.slice d LF.length cd) (.slice none 0 0));have hI4:=wS.aa jT;have hs3:=hb3.size
 have Mb:Hid (∀g o,d=some ⟨g,o,none⟩ ->LF≠[] ->some g≠some w3.heap.size):=fun g o e hne e2=>by
  obtain⟨g',o',e',iK,_⟩:=wS 0 (by cases hl:LF with |nil=>exact absurd hl hne |cons x l=>simp);rw[e] at e';cases e';cases e2;omega
 have mF:Hid (∀g o,d=some ⟨g,o,none⟩ ->LF≠[] ->g≠w.heap.size+1):=fun g o e _ e2=>by
  have:=AX.2 g o e;omega
 clear wS AX hb3 hb0 pq iA jT zt;have fV:=hid dY;have q9:=hid xj;have js:=hid vw;have vS:=hid C3;have F4:=hid hI4;have tM:=xj.cells.2.2;clear dY xj vw C3 hI4;go_wp2_with fail
 generalize (w3.alloc (.cells #[.slice a S.length ca,.slice d LF.length cd,.slice none 0 0] 87))=W4 at *;clear tM;go_loopw [8,19] (fun zv iv wr=>∃(i:Nat) (tv:Value) (Q Q2:List (Value×Value)),i<=P.length/\iv=.int .i64 i/\Hid (nP w W4 w3.heap.size (.slice a S.length ca) (.slice d LF.length cd) tv zv Q Q2 (T i) (Z i) wr)) (fun _ iv _=>P.length - (intOf iv).toNat)
 case atStart=>exact⟨0,_,_,_,aU _,rfl,by rw[vQ.o.1,vQ.o.2];exact vS⟩
 case round=>
  obtain⟨i,tv,Q,Q2,hi,rfl,HM⟩:=hrel;have Hq:=HM.o.fr.size;have HB:Hid (Below w.heap.size w wr):=H4 fV.o HM.o.fr (by omega) (by omega);have FO:Hid (bj wr w.heap.size (.slice a S.length ca) (.slice b fr.length cb) (.slice t P.length ct)):=(HM.o.fr.block _ q9.o.lt (fun e=>by have:=lV e;omega)).trans q9.o;have lQ:Hid (bj wr (w.heap.size+1) (.slice none 0 0) (.slice none 0 0) (.slice none 0 0)):=(HM.o.fr.block _ js.o.lt (fun e=>by have:=lV e;omega)).trans js.o;have hb5:w3.heap.size<W4.heap.size:=by omega
  obtain⟨za,zc,rfl⟩:=uO HM.o.own2;by_cases hlt2:i<P.length
  ·obtain⟨g,o,p,q,rfl,hg,k0,k1,aa6⟩:=HP.o i hlt2;replace k0:=(HB.o.cell (p:=⟨g,_,none⟩) hg).trans k0;replace k1:=(HB.o.cell (p:=⟨g,_,none⟩) hg).trans k1;have LS:=hid aa6;have hA:=(au wr.heap.size wr).alloc (ar _) (TC p q);have dC:=hid (HB.o.trans (hA.ae HB.o.size));(have AU:(wr.alloc (TC p q)).heap.size=wr.heap.size+1:=by simp);have bW:=bh.at (w:=wr) rfl p q;have b0:=bW.c0;have DI:=hid (HM.o.under hA);obtain⟨ps,qs,pc,qc,rfl,rfl,jQ,_,_⟩:=aa6;have HX:=hid (jt.o i hlt2 ps pc _ (jQ.aa dC.o));have uE:=hid bW;have anp:=hid (j5.o i hlt2);have anr:=hid (qZ.o i hlt2);have oK:=vO.o i;clear jQ hA bW HM HB FO lQ;have HAS:Hid (Below (wr.alloc (TC (.slice ps P[i].1.length pc) (.slice qs P[i].2.length qc))).heap.size (wr.alloc (TC (.slice ps P[i].1.length pc) (.slice qs P[i].2.length qc))) (wr.alloc (TC (.slice ps P[i].1.length pc) (.slice qs P[i].2.length qc)))):=au _ _;generalize P[i]=pt at *;generalize hdc:decide (v∈ag pt.1)=dc at *;clear hdc;go_wp2_with fail
   refine HX.o.ae ?_;rintro e w7 ⟨rfl,bK⟩;have IK:=hid (DI.o.under bK);have WW:=hid (uE.o.aa bK uE.o.lt);have c70:=WW.o.c0;have c71:=WW.o.c1;have sL:=(au w7.heap.size w7).alloc (ar _) (TC (.slice ps pt.1.length pc) (.slice qs pt.2.length qc));have xU:=hid (IK.o.under sL);have wY:=bh.at (w:=w7) rfl (.slice ps pt.1.length pc) (.slice qs pt.2.length qc);have adw:=hid wY.c0;have adv:=hid wY.c1;have iQ:Hid (W4.heap.size<=(w7.alloc (TC (.slice ps pt.1.length pc) (.slice qs pt.2.length qc))).heap.size):=xU.o.fr.size;have t72:=IK.o.box.cells.2.2;clear bK sL wY HX DI k0 k1 b0 uE dC WW HAS;cases dc with
   |true=>
    obtain⟨e1,e2⟩:=anp.o rfl
    have KEY:∀(Cj:Value) (bI:World),bI.ownsRow W4.heap.size 39 2 Cj ((Z i).length+1) (fK Q2++[.slice ps pt.1.length pc,.slice qs pt.2.length qc]) ->(w7.alloc (TC (.slice ps pt.1.length pc) (.slice qs pt.2.length qc))).grownBy bI (Value.ownBlock (.slice za (Z i).length zc)) ->(Cj.ownBlock=Value.ownBlock (.slice za (Z i).length zc)∨∀k,Cj.ownBlock=some k ->(w7.alloc (TC (.slice ps pt.1.length pc) (.slice qs pt.2.length qc))).heap.size<=k) ->(∃a' c',Cj=Value.slice a' ((Z i).length+1) c')/\nP w W4 w3.heap.size (.slice a S.length ca) (.slice d LF.length cd) tv Cj Q (Q2++[(.slice ps pt.1.length pc,.slice qs pt.2.length qc)]) (T (i+1)) (Z (i+1)) bI:=fun Cj bI dw dO fS=>by
     have hM:=xU.o.push2 hb5 LS.o dw dO fS;rw[<- e2, <- e1] at hM;exact⟨uO dw,hM⟩
    have HKEY:=hid KEY;clear KEY e1 e2 t72;go_wp2_with (at_builtin;refine Jl rfl _ _ rfl W4.heap.size (.slice za (Z i).length zc) (Z i).length (fK Q2) (.slice ps pt.1.length pc) (.slice qs pt.2.length qc) rfl xU.o.own2 w7.heap.size rfl adw.o adv.o (slv _ _ _) (slv _ _ _) (by omega) iQ.o ?_;intro Cj bI dw dO fS;obtain⟨⟨wC,wB,rfl⟩,sI⟩:=HKEY.o Cj bI dw dO fS;have nV:=hid sI;clear sI dw dO fS)
    go_roundw
    case rel=>exact⟨i+1,_,_,_,by omega,by go_num,nV⟩
    case measure=>simp[intOf];omega
   |false=>
    obtain⟨e1,e2⟩:=anr.o rfl
    have KEY:∀(cP:Value) (bI:World),bI.ownsRow W4.heap.size 39 2 cP ((T i).length+1) (fK Q++[.slice ps pt.1.length pc,.slice qs pt.2.length qc]) ->(w7.alloc (TC (.slice ps pt.1.length pc) (.slice qs pt.2.length qc))).grownBy bI tv.ownBlock ->(cP.ownBlock=tv.ownBlock∨∀k,cP.ownBlock=some k ->(w7.alloc (TC (.slice ps pt.1.length pc) (.slice qs pt.2.length qc))).heap.size<=k) ->(∃a' c',cP=Value.slice a' ((T i).length+1) c')/\nP w W4 w3.heap.size (.slice a S.length ca) (.slice d LF.length cd) cP (.slice za (Z i).length zc) (Q++[(.slice ps pt.1.length pc,.slice qs pt.2.length qc)]) Q2 (T (i+1)) (Z (i+1)) (bI.setCell ⟨w3.heap.size,2,none⟩ cP)/\bI.cell? ⟨w3.heap.size,2,none⟩=some tv/\bI.frozen? ⟨w3.heap.size,2,none⟩=false:=fun cP bI dw dO fS=>by
     obtain⟨hM,xu⟩:=xU.o.push1 hb5 LS.o dw dO fS;rw[<- e2, <- e1] at hM;rw[e2] at hM;exact⟨uO dw,by rw[e2];exact hM,xu.cells.2.2,xu.fz 2⟩
    have HKEY:=hid KEY;clear KEY e1 e2;go_wp2_with (at_builtin;refine Jl rfl _ _ rfl W4.heap.size tv (T i).length (fK Q) (.slice ps pt.1.length pc) (.slice qs pt.2.length qc) rfl xU.o.own w7.heap.size rfl adw.o adv.o (slv _ _ _) (slv _ _ _) (by omega) iQ.o ?_;intro cP bI dw dO fS;obtain⟨⟨wC,wB,rfl⟩,sI,t102,f102⟩:=HKEY.o cP bI dw dO fS;have nV:=hid sI;clear sI dw dO fS)
    go_roundw
    case rel=>exact⟨i+1,_,_,_,by omega,by go_num,nV⟩
    case measure=>simp[intOf];omega
  ·obtain rfl:i=P.length:=by omega
   obtain⟨za',zc',ez,hzs⟩:=HM.o.row2 HB.o (by omega);injection ez with ez1 ez2 ez3;subst ez1 ez3;clear ez2;have mC:=hid (HM.o.plm HB.o (by omega));have Tc:=hid hzs;have oK:=(vO.o P.length).1;clear hzs HM vS j5 qZ vO jt;(have hOL:(T P.length).length+1=OP.length:=by rw[vF.o,dM];rfl);go_upto_region 10 with (go_quiet (fail))
   have iN:Below wr.heap.size wr wr.drew:=(au wr.heap.size wr).drew;have dI:Hid (Below w.heap.size w wr.drew):=HB.o.drew;have IB:Hid (bj wr.drew w.heap.size (.slice a S.length ca) (.slice b fr.length cb) (.slice t P.length ct)):=FO.o;have V9:=hid (mC.o.under iN);have HZD:=hid (Tc.o.aa iN);have EK:W4.heap.size<=wr.drew.heap.size:=Hq;clear mC Tc HB FO lQ iN Hq;obtain⟨D5,iM⟩:∃D5,wr.drew=D5:=⟨_,rfl⟩;rw[iM] at dI IB V9 HZD EK;have dT:Hid (∀U:World,Below D5.heap.size D5 U ->U.cell? ⟨w.heap.size,0,none⟩=some (.slice a S.length ca)):=fun U hU=>(IB.o.aa hU IB.o.lt).cells.1;have aG:Hid (Below D5.heap.size D5 D5):=au _ _;refine jJ (S:=fun U=>U.cell? ⟨w.heap.size,0,none⟩=some (.slice a S.length ca)) (by kernel_rfl) (by rw[iM];exact dT.o _ aG.o) (fun aq=>?_);rw[iM] at aq⊢;clear iM;refine aw 0 (.pointer (some ⟨w.heap.size,0,none⟩)) ?_;refine aw 1 (.slice a S.length ca) ?_;refine aw 2 (.pointer (some ⟨w.heap.size,0,none⟩)) ?_;refine aw 3 (.slice a S.length ca) ?_;refine aw 4 (.slice za (Z P.length).length zc) ?_;refine aw 6 (.int .i64 (v:Nat)) ?_;refine aw 7 (.bool most) ?_;refine aF [5,12] (cA ?_ (cA ?_ aD))
   focus
    intro K' hK';go_simp;refine(rN.o za zc D5 dI.o HZD.o).ae ?_;rintro e u1 ⟨x1,y1,rfl,ny,hb1⟩;replace dI:=hid (dI.o.trans (hb1.ae dI.o.size));replace aG:=hid (aG.o.trans (hb1.ae aG.o.size));have Ds:=hid ny;refine hK'.o _ _ (dT.o u1 aG.o) (fun ak=>?_);clear hb1 ny;clear hK' K' aq;have aq:=ak;clear ak;refine aF [8,12] (cA ?_ (cA ?_ aD))
    focus
     intro K' hK';go_simp;refine(Dw.o x1 y1 u1 dI.o Ds.o).ae ?_;rintro e u2 ⟨⟨x2,y2,rfl,hv2,dm⟩,hb2⟩;have pI:Hid (∀R,R<D5.heap.size ->fE R OT (x2,y2)):=fun R hR=>dm R (aR hR aG.o.size);replace dI:=hid (dI.o.trans (hb2.ae dI.o.size));replace aG:=hid (aG.o.trans (hb2.ae aG.o.size));have vN:=hid hv2;obtain⟨xs,xn,xc,rfl⟩:=hv2.slices.1;obtain⟨ys,yn,yc,rfl⟩:=hv2.slices.2;refine hK'.o _ _ (dT.o u2 aG.o) (fun ak=>?_);clear hb2 hv2 dm;clear hK' K' aq;have aq:=ak;clear ak;refine aw 9 (.tuple #[.agg #[.slice xs xn xc,.slice ys yn yc],.int .i64 0]) ?_;refine aw 10 (.agg #[.slice xs xn xc,.slice ys yn yc]) ?_;refine aw 11 (.int .i64 0) ?_;refine aF [12] (cA ?_ aD);intro K' hK';go_simp;have lG:=(au _ u2).alloc (ar _) (TC (.slice none 0 0) (.slice none 0 0));replace dI:=hid (dI.o.trans (lG.ae dI.o.size));have cH:D5.heap.size<=u2.heap.size:=aG.o.size;replace aG:=hid (aG.o.trans (lG.ae aG.o.size));have dB:=hid (bh.at (w:=u2) rfl (.slice none 0 0) (.slice none 0 0));(have nE:u2.heap.size<(u2.alloc (TC (.slice none 0 0) (.slice none 0 0))).heap.size:=by simp);have vR:Hid (fE u2.heap.size OT (.slice xs xn xc,.slice ys yn yc)):=vN.o.lt (ar _);replace vN:=hid (vN.o.aa lG);refine hK'.o _ _ (dT.o _ aG.o) (fun ak=>?_);clear lG;clear hK' K' aq;have aq:=ak;clear ak;obtain⟨g1,hg1⟩:∃g1,u2.heap.size=g1:=⟨_,rfl⟩;obtain⟨u3,eG⟩:∃u3,u2.alloc (TC (.slice none 0 0) (.slice none 0 0))=u3:=⟨_,rfl⟩;have kI:u2.alloc (.cells #[.slice none 0 0,.slice none 0 0] 39)=u3:=eG;(have CQ:D5.heap.size<=g1:=by omega)
     (have yX:g1<u3.heap.size:=by rw[<- hg1, <- eG];exact nE);rw[hg1,eG] at dB;clear cH nE;have cH:=CQ;have nE:=yX;clear CQ yX;rw[hg1] at vR;rw[eG] at vN;rw[eG] at aG dI;simp only[kI] at aq⊢;simp only[hg1];clear eG kI hg1;(try simp only[gE,aP]);obtain⟨b0,b1,Ll,Lk⟩:=dB.o.facts;refine aF [13] (cA ?_ aD);intro K' hK';go_simp;have vP:=hid (dB.o.put (.slice xs xn xc) (.slice ys yn yc));have Qr:=hid (mr dI.o (aS (by omega) cH) (.slice xs xn xc) (.slice ys yn yc));have Du:=hid (mr aG.o cH (.slice xs xn xc) (.slice ys yn yc));have Bx:=hid ((vN.o.off (g:=g1) (j:=0) (.slice xs xn xc) vR.o).off (g:=g1) (j:=1) (.slice ys yn yc) vR.o);refine hK'.o _ _ (dT.o _ Du.o) (fun ak=>?_);clear b0 b1 Ll Lk dB dI aG vN vR;clear hK' K' aq;have aq:=ak;clear ak;refine aw 14 (.int .i64 0) ?_;(try simp only[gE,aP]);refine dW (by kernel_rfl) ?_ _;clear aq;obtain⟨u4,vg⟩:∃u4,((u3.setCell ⟨g1,0,none⟩ (.slice xs xn xc)).setCell ⟨g1,1,none⟩ (.slice ys yn yc))=u4:=⟨_,rfl⟩
    rotate_left
    focus
     intro K' hK';go_simp;have lG:=(au _ u1).alloc (ar _) (TC (.slice none 0 0) (.slice none 0 0));replace dI:=hid (dI.o.trans (lG.ae dI.o.size));have cH:D5.heap.size<=u1.heap.size:=aG.o.size;replace aG:=hid (aG.o.trans (lG.ae aG.o.size));have dB:=hid (bh.at (w:=u1) rfl (.slice none 0 0) (.slice none 0 0));(have nE:u1.heap.size<(u1.alloc (TC (.slice none 0 0) (.slice none 0 0))).heap.size:=by simp);replace Ds:=hid (Ds.o.aa lG);refine hK'.o _ _ (dT.o _ aG.o) (fun ak=>?_);clear lG;clear hK' K' aq;have aq:=ak;clear ak;obtain⟨g1,hg1⟩:∃g1,u1.heap.size=g1:=⟨_,rfl⟩;obtain⟨u3,eG⟩:∃u3,u1.alloc (TC (.slice none 0 0) (.slice none 0 0))=u3:=⟨_,rfl⟩;have kI:u1.alloc (.cells #[.slice none 0 0,.slice none 0 0] 39)=u3:=eG;(have CQ:D5.heap.size<=g1:=by omega);(have yX:g1<u3.heap.size:=by rw[<- hg1, <- eG];exact nE);rw[hg1,eG] at dB;clear cH nE;have cH:=CQ;have nE:=yX;clear CQ yX;rw[eG] at Ds;rw[eG] at aG dI;simp only[kI] at aq⊢;simp only[hg1];clear eG kI hg1;refine aF [8] (cA ?_ aD);intro K' hK';go_simp;refine(Dw.o x1 y1 u3 dI.o Ds.o).ae ?_;rintro e u2 ⟨⟨x2,y2,rfl,hv2,dm⟩,hb2⟩;have pI:Hid (∀R,R<D5.heap.size ->fE R OT (x2,y2)):=fun R hR=>dm R (aR hR aG.o.size);have vR:Hid (fE g1 OT (x2,y2)):=dm _ nE;replace dB:=hid (dB.o.aa hb2 dB.o.lt);replace dI:=hid (dI.o.trans (hb2.ae dI.o.size));replace aG:=hid (aG.o.trans (hb2.ae aG.o.size));have vN:=hid hv2;obtain⟨xs,xn,xc,rfl⟩:=hv2.slices.1;obtain⟨ys,yn,yc,rfl⟩:=hv2.slices.2;refine hK'.o _ _ (dT.o u2 aG.o) (fun ak=>?_);clear hb2 hv2 dm;clear hK' K' aq
     have aq:=ak;clear ak;refine aw 9 (.tuple #[.agg #[.slice xs xn xc,.slice ys yn yc],.int .i64 0]) ?_;refine aw 10 (.agg #[.slice xs xn xc,.slice ys yn yc]) ?_;refine aw 11 (.int .i64 0) ?_;(try simp only[gE,aP]);obtain⟨b0,b1,Ll,Lk⟩:=dB.o.facts;refine aF [13] (cA ?_ aD);intro K' hK';go_simp;have vP:=hid (dB.o.put (.slice xs xn xc) (.slice ys yn yc));have Qr:=hid (mr dI.o (aS (by omega) cH) (.slice xs xn xc) (.slice ys yn yc));have Du:=hid (mr aG.o cH (.slice xs xn xc) (.slice ys yn yc));have Bx:=hid ((vN.o.off (g:=g1) (j:=0) (.slice xs xn xc) vR.o).off (g:=g1) (j:=1) (.slice ys yn yc) vR.o);refine hK'.o _ _ (dT.o _ Du.o) (fun ak=>?_);clear b0 b1 Ll Lk dB dI aG vN vR;clear hK' K' aq;have aq:=ak;clear ak;refine aw 14 (.int .i64 0) ?_;(try simp only[gE,aP]);refine dW (by kernel_rfl) ?_ _;clear aq;obtain⟨u4,vg⟩:∃u4,((u2.setCell ⟨g1,0,none⟩ (.slice xs xn xc)).setCell ⟨g1,1,none⟩ (.slice ys yn yc))=u4:=⟨_,rfl⟩
   rotate_left 2
   focus
    intro K' hK';go_simp;have lG:=(au _ D5).alloc (ar _) (TC (.slice none 0 0) (.slice none 0 0));replace dI:=hid (dI.o.trans (lG.ae dI.o.size));have cH:D5.heap.size<=D5.heap.size:=aG.o.size;replace aG:=hid (aG.o.trans (lG.ae aG.o.size));have dB:=hid (bh.at (w:=D5) rfl (.slice none 0 0) (.slice none 0 0));(have nE:D5.heap.size<(D5.alloc (TC (.slice none 0 0) (.slice none 0 0))).heap.size:=by simp);replace HZD:=hid (HZD.o.aa lG);refine hK'.o _ _ (dT.o _ aG.o) (fun ak=>?_);clear lG;clear hK' K' aq;have aq:=ak;clear ak;obtain⟨g1,hg1⟩:∃g1,D5.heap.size=g1:=⟨_,rfl⟩;obtain⟨u3,eG⟩:∃u3,D5.alloc (TC (.slice none 0 0) (.slice none 0 0))=u3:=⟨_,rfl⟩;have kI:D5.alloc (.cells #[.slice none 0 0,.slice none 0 0] 39)=u3:=eG;(have CQ:D5.heap.size<=g1:=by omega);(have yX:g1<u3.heap.size:=by rw[<- hg1, <- eG];exact nE);rw[hg1,eG] at dB;clear cH nE;have cH:=CQ;have nE:=yX;clear CQ yX;rw[eG] at HZD;rw[eG] at aG dI;simp only[kI] at aq⊢;simp only[hg1];clear eG kI hg1;refine aF [5] (cA ?_ aD);intro K' hK';go_simp;refine(rN.o za zc u3 dI.o HZD.o).ae ?_;rintro e u1 ⟨x1,y1,rfl,ny,hb1⟩;replace dI:=hid (dI.o.trans (hb1.ae dI.o.size));replace aG:=hid (aG.o.trans (hb1.ae aG.o.size));replace dB:=hid (dB.o.aa hb1 dB.o.lt);have Ds:=hid ny;refine hK'.o _ _ (dT.o u1 aG.o) (fun ak=>?_);clear hb1 ny;clear hK' K' aq;have aq:=ak;clear ak;have ajy:g1<u1.heap.size:=dB.o.lt;refine aF [8] (cA ?_ aD);intro K' hK';go_simp;refine(Dw.o x1 y1 u1 dI.o Ds.o).ae ?_;rintro e u2 ⟨⟨x2,y2,rfl,hv2,dm⟩,hb2⟩
    have pI:Hid (∀R,R<D5.heap.size ->fE R OT (x2,y2)):=fun R hR=>dm R (aR hR aG.o.size);have vR:Hid (fE g1 OT (x2,y2)):=dm _ ajy;replace dB:=hid (dB.o.aa hb2 dB.o.lt);replace dI:=hid (dI.o.trans (hb2.ae dI.o.size));replace aG:=hid (aG.o.trans (hb2.ae aG.o.size));have vN:=hid hv2;obtain⟨xs,xn,xc,rfl⟩:=hv2.slices.1;obtain⟨ys,yn,yc,rfl⟩:=hv2.slices.2;refine hK'.o _ _ (dT.o u2 aG.o) (fun ak=>?_);clear hb2 hv2 dm;clear hK' K' aq;have aq:=ak;clear ak;refine aw 9 (.tuple #[.agg #[.slice xs xn xc,.slice ys yn yc],.int .i64 0]) ?_;refine aw 10 (.agg #[.slice xs xn xc,.slice ys yn yc]) ?_;refine aw 11 (.int .i64 0) ?_;(try simp only[gE,aP]);obtain⟨b0,b1,Ll,Lk⟩:=dB.o.facts;refine aF [13] (cA ?_ aD);intro K' hK';go_simp;have vP:=hid (dB.o.put (.slice xs xn xc) (.slice ys yn yc));have Qr:=hid (mr dI.o (aS (by omega) cH) (.slice xs xn xc) (.slice ys yn yc));have Du:=hid (mr aG.o cH (.slice xs xn xc) (.slice ys yn yc));have Bx:=hid ((vN.o.off (g:=g1) (j:=0) (.slice xs xn xc) vR.o).off (g:=g1) (j:=1) (.slice ys yn yc) vR.o);refine hK'.o _ _ (dT.o _ Du.o) (fun ak=>?_);clear b0 b1 Ll Lk dB dI aG vN vR;clear hK' K' aq;have aq:=ak;clear ak;refine aw 14 (.int .i64 0) ?_;(try simp only[gE,aP]);refine dW (by kernel_rfl) ?_ _;clear aq;obtain⟨u4,vg⟩:∃u4,((u2.setCell ⟨g1,0,none⟩ (.slice xs xn xc)).setCell ⟨g1,1,none⟩ (.slice ys yn yc))=u4:=⟨_,rfl⟩
   all_goals
    rw[vg] at vP Qr Du Bx⊢;clear vg;have Wa:=hid (V9.o.under Du.o);have Db:=(au u4.heap.size u4).alloc (ar _) (TC (.slice xs xn xc) (.slice ys yn yc));have xV:=hid (Wa.o.under Db);have PT:=hid (Bx.o.aa Db);have TQ:=bh.at (w:=u4) rfl (.slice xs xn xc) (.slice ys yn yc);have ady:=hid TQ.c0;have adx:=hid TQ.c1;have Ix:Hid (W4.heap.size<=(u4.alloc (TC (.slice xs xn xc) (.slice ys yn yc))).heap.size):=xV.o.fr.size;have t42:=Wa.o.box.cells.2.2;have g0:=vP.o.c0;have g1':=vP.o.c1;have HOW:Hid (∀R,tv.ownBlock=some R ->fE R OT ((.slice xs xn xc),(.slice ys yn yc))):=fun R hR=>pI.o R (V9.o.own.lt R hR).2;clear Db TQ vP Du Bx
    have HKEY:Hid (∀(cP:Value) (bI:World),bI.ownsRow W4.heap.size 39 2 cP ((T P.length).length+1) (fK Q++[(.slice xs xn xc),(.slice ys yn yc)]) ->(u4.alloc (TC (.slice xs xn xc) (.slice ys yn yc))).grownBy bI tv.ownBlock ->(cP.ownBlock=tv.ownBlock∨∀k,cP.ownBlock=some k ->(u4.alloc (TC (.slice xs xn xc) (.slice ys yn yc))).heap.size<=k) ->(∃a' c',cP=Value.slice a' OP.length c')/\pE w.heap.size W4 w3.heap.size (.slice a S.length ca) (.slice d LF.length cd) cP (Q++[((.slice xs xn xc),(.slice ys yn yc))]) OP (bI.setCell ⟨w3.heap.size,2,none⟩ cP)/\bI.cell? ⟨w3.heap.size,2,none⟩=some tv/\bI.frozen? ⟨w3.heap.size,2,none⟩=false):=fun cP bI dw dO fS=>by
     have hM:=xV.o.push (by omega) hb5 PT.o HOW.o (fun R _ hR=>pI.o R (by omega)) dw dO fS;rw[<- vF.o] at hM;have xu:bj bI w3.heap.size (.slice a S.length ca) (.slice d LF.length cd) tv:=(dO.block _ xV.o.box.lt (fun e=>by have:=(xV.o.own.lt _ e.symm).1;omega)).trans xV.o.box;exact⟨by rw[<- hOL];exact uO dw,hM,xu.cells.2.2,xu.fz 2⟩
    go_upto_region 12 with (at_builtin;refine Jl rfl _ _ rfl W4.heap.size tv (T P.length).length (fK Q) (.slice xs xn xc) (.slice ys yn yc) rfl xV.o.own.own u4.heap.size rfl ady.o adx.o (slv _ _ _) (slv _ _ _) (by omega) Ix.o ?_;intro cP bI dw dO fS;obtain⟨⟨wC,wB,rfl⟩,sI,t102,f102⟩:=HKEY.o cP bI dw dO fS;have nV:=hid sI;clear sI dw dO fS)
    obtain⟨VV,Pq⟩:∃VV,bI.setCell ⟨w3.heap.size,2,none⟩ (.slice wC OP.length wB)=VV:=⟨_,rfl⟩;rw[Pq] at nV⊢;clear Pq t102 f102 t42 g0 g1' HKEY HOW Ix ady adx PT xV Wa pI Ds Qr;have Hq:=nV.o.fr.size;have iV:Hid (Below w.heap.size w VV):=H4 fV.o nV.o.fr (by omega) (by omega);have sV:Hid (bj VV (w.heap.size+1) (.slice none 0 0) (.slice none 0 0) (.slice none 0 0)):=(nV.o.fr.block _ js.o.lt (fun e=>by have:=lV e;omega)).trans js.o;have C5:aaK VV d LF:=Hg F4.o Mb.o nV.o.fr;obtain⟨x0,xx1,xx2⟩:=nV.o.box.cells;obtain⟨r0,r1,r2⟩:=sV.o.cells;have Am:=sV.o.fz 0;have JE:=sV.o.fz 1;have JD:=sV.o.fz 2;have xR:=hid (sV.o.put (.slice a S.length ca) (.slice d LF.length cd) (.slice wC OP.length wB));have uF:=hid (bF iV.o (show w.heap.size<=w.heap.size+1 by omega) (.slice a S.length ca) (.slice d LF.length cd) (.slice wC OP.length wB))
    have eQ:Value.ownBlock (.slice wC OP.length wB)≠some (w.heap.size+1):=fun e=>by
     have:=(nV.o.own.lt _ e).1;omega
    have hO3:=((nV.o.own.off (g:=w.heap.size+1) (j:=0) (.slice a S.length ca) (nV.o.far _ (by omega) (by omega)) eQ).off (g:=w.heap.size+1) (j:=1) (.slice d LF.length cd) (nV.o.far _ (by omega) (by omega)) eQ).off (g:=w.heap.size+1) (j:=2) (.slice wC OP.length wB) (nV.o.far _ (by omega) (by omega)) eQ;obtain⟨Ri,Re,e2,wI⟩:=hO3.row;injection e2 with e3 e4 e5;subst e3 e5;clear e4;have FB:=hid wI;have vV:=hid (((C5.off (g:=w.heap.size+1) (j:=0) (y:=.slice a S.length ca) mF.o).off (g:=w.heap.size+1) (j:=1) (y:=.slice d LF.length cd) mF.o).off (g:=w.heap.size+1) (j:=2) (y:=.slice wC OP.length wB) mF.o);have FU:=hid ((ND nV.o.own.own).up (show w.heap.size<=W4.heap.size by omega));clear hO3 wI C5 eQ;go_wp2;refine bB (xR.o.result1 rfl _ rfl) rfl ?_;exact⟨d,cd,wC,wB,rfl,vV.o,FB.o,FU.o,uF.o⟩
variable {l:List Int}
theorem Zq {o:Nat} {u:Value} (hb:bj V g x y z) (hx:cM x) (hy:cM y) (hz:cM z) (hc:V.cell? ⟨g,o,none⟩=some u):cM u:=by
 rw[cC V g o _ _ (0,0) hb] at hc;match o,hc with
 |0,hc=>cases hc;exact hx
 |1,hc=>cases hc;exact hy
 |2,hc=>cases hc;exact hz
 |o+3,hc=>simp at hc
theorem aaM {b:Option Addr} (h:aaK V b l) (hb:bj V g x y z) (hx:cM x) (hy:cM y) (hz:cM z):∀g' o',b=some ⟨g',o',none⟩ ->l≠[] ->g'≠g:=fun g' o' e hne e2=>by
 obtain⟨g2,o2,e3,_,hc⟩:=h 0 (by cases hl:l with |nil=>exact absurd hl hne |cons x l=>simp);rw[e] at e3;cases e3;subst e2;obtain⟨_,_,_,e4⟩:=Zq hb hx hy hz hc;cases e4
theorem akz {b:Option Addr} {l:List Fr} (h:bZ V b l) (hb:bj V g x y z) (hx:cM x) (hy:cM y) (hz:cM z):∀g' o',b=some ⟨g',o',none⟩ ->l≠[] ->g'≠g:=fun g' o' e hne e2=>by
 obtain⟨g2,o2,e3,_,hc,_⟩:=h 0 (by cases hl:l with |nil=>exact absurd hl hne |cons x l=>simp);rw[e] at e3;cases e3;subst e2;obtain⟨_,_,_,e4⟩:=Zq hb hx hy hz hc;cases e4
theorem GN {t:Tb} {p q:Value} (h:cR V p q t) (hb:bj V g x y z) (hx:cM x) (hy:cM y) (hz:cM z):fE g t (p,q):=by
 obtain⟨b,c,cb,cc,rfl,rfl,h1,h2,h3⟩:=h;exact⟨fun g' o' n c' e hne=>by injection e with e1 _ _;exact aaM h1 hb hx hy hz g' o' e1 hne,fun g' o' n c' e hne=>by injection e with e1 _ _;exact akz h2 hb hx hy hz g' o' e1 hne⟩
theorem dQ.offP {P:List Tb} (u:Value) (h:dQ V a P) (hn:∀g' o',a=some ⟨g',o',none⟩ ->g'≠g) (ht:∀k (hk:k<P.length) p q,cR V p q P[k] ->fE g P[k] (p,q)):dQ (V.setCell ⟨g,j,none⟩ u) a P:=fun k hk=>by
 obtain⟨g',o,p,q,e,hg,h0,h1,h2⟩:=h k hk;have hb:(V.setCell ⟨g,j,none⟩ u).heap[g']? =V.heap[g']?:=je V ⟨g,j,none⟩ u g' (hn g' o e);exact⟨g',o,p,q,e,aR hg (iG V _ _).size,(kA (a:=⟨g',_,none⟩) hb).trans h0,(kA (a:=⟨g',_,none⟩) hb).trans h1,h2.off u (ht k hk p q h2)⟩
theorem dQ.putP {P:List Tb} (h:dQ V a P) (hb:bj V g x y z) (hx:cM x) (hy:cM y) (hz:cM z) (hn:∀g' o',a=some ⟨g',o',none⟩ ->g'≠g) {u v:Value} (hu:cM u) (hv:cM v) (s:Value):dQ (((V.setCell ⟨g,0,none⟩ u).setCell ⟨g,1,none⟩ v).setCell ⟨g,2,none⟩ s) a P:=
 ((h.offP u hn fun _ _ _ _ ht=>GN ht hb hx hy hz).offP v hn fun _ _ _ _ ht=>GN ht (hb.set0 u) hu hy hz).offP s hn fun _ _ _ _ ht=>GN ht ((hb.set0 u).set1 v) hu hv hz
theorem aaK.putP (h:aaK V a l) (hb:bj V g x y z) (hx:cM x) (hy:cM y) (hz:cM z) (u v s:Value):aaK (((V.setCell ⟨g,0,none⟩ u).setCell ⟨g,1,none⟩ v).setCell ⟨g,2,none⟩ s) a l:=by
 have hn:=aaM h hb hx hy hz;exact((h.off hn).off hn).off hn
theorem agK (a b t q:Option Addr) (ca cb ct cq:Nat) (S:List Nat) (fr vars:List Int) (P:List Tb) (D:Nat) (c:Nat ->Nat) (most:Bool) (PS:Nat ->List Tb) (FW:Nat ->List Int) (w:World) (aJ:eH (iL S)) (hs:aaK w a (iL S)) (hb:aaK w b fr) (hP:dQ w t P) (hq:aaK w q vars) (dN:vars.length<=1000)
  (h0:PS 0=P/\FW 0=fr) (hk:∀i (h:i<fr.length),vars.contains fr[i]=true ->PS (i+1)=PS i/\FW (i+1)=FW i)
  (ho:∀i (h:i<fr.length),vars.contains fr[i]=false ->∃v:Nat,fr[i]=(v:Int)/\PS (i+1)=abW S v most (PS i)/\FW (i+1)=bw (FW i) v/\v<S.length/\∃t∈PS i,v∈ag t.1)
  (jn:∀i,i<=fr.length ->eX S S.length (PS i) D (c i)/\(PS i).length<=999/\(FW i).length<=1000/\2*(B D).size+(B (c i)).size+2<=8192):
  Calls Tryz.prog 51 #[.agg #[.slice a S.length ca,.slice b fr.length cb,.slice t P.length ct],.slice q vars.length cq,.bool most] w fun e w'=>∃x y,e=.returned (.agg #[x,y])/\cR w' x y (allT S (PS fr.length))/\Below w.heap.size w w':=by
 have rN:Hid (∀(t':Option Addr) (b9:Nat) (U:World),Below w.heap.size w U ->dQ U t' (PS fr.length) ->Calls Tryz.prog 105 #[.slice a S.length ca,.slice t' (PS fr.length).length b9] U fun e w'=>∃x y,e=.returned (.agg #[x,y])/\cR w' x y (allT S (PS fr.length))/\Below U.heap.size U w'):=fun t' b9 U hU h=>by
  obtain⟨h1,h2,_,h4⟩:=jn fr.length (ar _);exact Zi a t' ca b9 S _ D _ U aJ (hs.aa hU) h h1 (by omega) h4
 have jt:Hid (∀(x:Int) (U:World),Below w.heap.size w U ->Calls Tryz.prog 49 #[.slice q vars.length cq,.int .i64 x] U fun e w'=>e=.returned (.bool (vars.contains x))/\Below U.heap.size U w'):=fun x U hU=>GS q cq vars x U (hq.aa hU) (by omega)
 have FQ:Hid (∀(i:Nat) (h:i<fr.length),vars.contains fr[i]=false ->∀(b' t':Option Addr) (fD b9:Nat) (U:World),Below w.heap.size w U ->aaK U b' (FW i) ->dQ U t' (PS i) ->Calls Tryz.prog 104 #[.agg #[.slice a S.length ca,.slice b' (FW i).length fD,.slice t' (PS i).length b9],.int .i64 fr[i],.bool most] U fun e w'=>∃d cd t' b9,e=.returned (.agg #[.slice a S.length ca,.slice d (FW (i+1)).length cd,.slice t' (PS (i+1)).length b9])/\aaK w' d (FW (i+1))/\dQ w' t' (PS (i+1))/\eC U.heap.size t' b9/\Below U.heap.size U w'):=fun i h hc b' t' fD b9 U hU h1 h2=>by
  obtain⟨v,e1,e2,e3,e4,e5⟩:=ho i h hc;obtain⟨g1,g2,g3,g4⟩:=jn i (by omega);rw[e1,e2,e3];exact agJ a b' t' ca fD b9 S (FW i) (PS i) D (c i) v most U aJ (hs.aa hU) h1 h2 g1 g2 g3 g4 e4 e5
 have HK:=hid hk;have jR:fr.length<=1000:=by have:=(jn 0 (aU _)).2.2.1;rwa [h0.2] at this
 have BK:=hid hb;obtain⟨e0,Pd⟩:=h0;have H0:Hid (bj ((w.alloc (.cells #[.slice a S.length ca,.slice b fr.length cb,.slice t P.length ct] 87)).alloc (TC (.slice none 0 0) (.slice none 0 0))) w.heap.size (.slice a S.length ca) (.slice b (FW 0).length cb) (.slice t (PS 0).length ct)):=by rw[e0,Pd];exact(bj.at (w:=w) rfl _ _ _).alloc _
 have hA:Below w.heap.size w ((w.alloc (.cells #[.slice a S.length ca,.slice b fr.length cb,.slice t P.length ct] 87)).alloc (TC (.slice none 0 0) (.slice none 0 0))):=by
  have h1:=(au w.heap.size w).alloc (ar _) (.cells #[.slice a S.length ca,.slice b fr.length cb,.slice t P.length ct] 87);exact h1.alloc h1.size _
 have E7:Hid (aaK ((w.alloc (.cells #[.slice a S.length ca,.slice b fr.length cb,.slice t P.length ct] 87)).alloc (TC (.slice none 0 0) (.slice none 0 0))) b (FW 0)):=by rw[Pd];exact hb.aa hA
 have vQ:Hid (dQ ((w.alloc (.cells #[.slice a S.length ca,.slice b fr.length cb,.slice t P.length ct] 87)).alloc (TC (.slice none 0 0) (.slice none 0 0))) t (PS 0)):=by rw[e0];exact hP.aa hA
 have nU:Hid (bh ((w.alloc (.cells #[.slice a S.length ca,.slice b fr.length cb,.slice t P.length ct] 87)).alloc (TC (.slice none 0 0) (.slice none 0 0))) (w.heap.size+1) (.slice none 0 0) (.slice none 0 0)):=bh.at (w:=w.alloc (.cells #[.slice a S.length ca,.slice b fr.length cb,.slice t P.length ct] 87)) (by simp) _ _;have HA:=hid hA;have hc1:=H0.o.cells.2.1;rw[Pd] at hc1;clear hs hb hP hq hk ho jn aJ hA e0 Pd;go_enter Tryz.func51,Tryz.ntmps51;go_wp2_with fail
 generalize ((w.alloc (.cells #[.slice a S.length ca,.slice b fr.length cb,.slice t P.length ct] 87)).alloc (TC (.slice none 0 0) (.slice none 0 0)))=W0 at *;clear hc1;go_loopw [12] (fun iv wr=>∃(i:Nat) (b' t':Option Addr) (fD b9:Nat),i<=fr.length/\iv=.int .i64 i/\Hid (bj wr w.heap.size (.slice a S.length ca) (.slice b' (FW i).length fD) (.slice t' (PS i).length b9))/\Hid (aaK wr b' (FW i))/\Hid (dQ wr t' (PS i))/\Hid (bh wr (w.heap.size+1) (.slice none 0 0) (.slice none 0 0))/\Hid (Below w.heap.size w wr)) (fun iv _=>fr.length - (intOf iv).toNat)
 case atStart=>exact⟨0,_,_,_,_,aU _,rfl,H0,E7,vQ,nU,HA⟩
 case round=>
  obtain⟨i,b',t',fD,b9,hi,rfl,sX,HI,HT,HR,HB⟩:=hrel;clear H0 E7 vQ nU HA;obtain⟨p0,p1,p2⟩:=sX.o.cells;have Av:=sX.o.fz 0;have Au:=sX.o.fz 1;have Ar:=sX.o.fz 2;by_cases hlt:i<fr.length
  ·obtain⟨g,o,rfl,hg,k0⟩:=BK.o i hlt;replace k0:=(HB.o.cell (p:=⟨g,_,none⟩) hg).trans k0;have HC:=hid (jt.o fr[i]);have V5:=hid (HK.o i hlt);have IC:=hid (FQ.o i hlt);generalize fr[i]=x at *;generalize sA:vars.contains x=cx at *;clear sA;go_wp2_with fail
   refine(HC.o wr HB.o).ae ?_;rintro e w2 ⟨rfl,hb2⟩;have bc:=hid (HB.o.trans (hb2.ae HB.o.size));have FP:=hid (sX.o.aa hb2 sX.o.lt);have iU:=hid (HI.o.aa hb2);have jZ:=hid (HT.o.aa hb2);have iT:=hid (HR.o.aa hb2 HR.o.lt);clear hb2 sX HI HT HR HB p0 p1 p2 Av Au Ar;obtain⟨p0,p1,p2⟩:=FP.o.cells;have hlt2:=FP.o.lt;cases cx with
   |true=>
    obtain⟨e1,e2⟩:=V5.o rfl;rw[<- e1] at jZ FP;rw[<- e2] at iU FP;clear e1 e2;have HX:=hid (And.intro FP.o (And.intro iU.o jZ.o));go_wp2;go_roundw
    case rel=>exact⟨i+1,_,_,_,_,by omega,by go_num,HX.o.1,HX.o.2.1,HX.o.2.2,iT,bc⟩
    case measure=>simp[intOf];omega
   |false=>
    have Dy:=hid (IC.o rfl b' t' fD b9 w2 bc.o iU.o jZ.o);clear IC V5;go_wp2_with fail
    refine Dy.o.ae ?_;rintro e w3 ⟨d,cd,t3,Lg,rfl,sj,vh,yS,hb3⟩;have C2:=FP.o.aa hb3 FP.o.lt;have lH:=iT.o.aa hb3 iT.o.lt;have bU:=bc.o.trans (hb3.ae bc.o.size);clear p0 p1 p2;obtain⟨p0,p1,p2⟩:=C2.cells;have Av:=C2.fz 0;have Au:=C2.fz 1;have Ar:=C2.fz 2;have Qa:=hid (C2.put (.slice a S.length ca) (.slice d (FW (i+1)).length cd) (.slice t3 (PS (i+1)).length Lg));have F3:=hid (sj.putP C2 (slv _ _ _) (slv _ _ _) (slv _ _ _) (.slice a S.length ca) (.slice d (FW (i+1)).length cd) (.slice t3 (PS (i+1)).length Lg));have Iq:=hid (vh.putP C2 (slv _ _ _) (slv _ _ _) (slv _ _ _) (fun g' o' e=>by have:=yS.2 g' o' e;omega) (slv a S.length ca) (slv d (FW (i+1)).length cd) (.slice t3 (PS (i+1)).length Lg));have sW:=hid (((lH.off w.heap.size 0 (.slice a S.length ca) (by omega)).off w.heap.size 1 (.slice d (FW (i+1)).length cd) (by omega)).off w.heap.size 2 (.slice t3 (PS (i+1)).length Lg) (by omega));have eD:=hid (bF bU (ar _) (.slice a S.length ca) (.slice d (FW (i+1)).length cd) (.slice t3 (PS (i+1)).length Lg));clear sj vh yS hb3 C2 lH bU;go_wp2;go_roundw
    case rel=>exact⟨i+1,_,_,_,_,by omega,by go_num,Qa,F3,Iq,sW,eD⟩
    case measure=>simp[intOf];omega
  ·obtain rfl:i=fr.length:=by omega
   have Wb:=hid (rN.o t' b9 wr HB.o HT.o);go_wp2_with fail
   refine Wb.o.ae ?_;rintro e w3 ⟨x,y,rfl,hv3,hb3⟩;obtain⟨xs,xn,xc,rfl⟩:=hv3.slices.1;obtain⟨ys,yn,yc,rfl⟩:=hv3.slices.2;have lH:=HR.o.aa hb3 HR.o.lt;have bU:=HB.o.trans (hb3.ae HB.o.size);obtain⟨t0,t1,f0,f1⟩:=lH.facts;have q9:=hid (lH.put (.slice xs xn xc) (.slice ys yn yc));have Bx:=hid (hv3.putT lH (slv _ _ _) (slv _ _ _) (slv xs xn xc) (.slice ys yn yc));have fV:=hid (mr (g:=w.heap.size+1) bU (by omega) (.slice xs xn xc) (.slice ys yn yc));clear hv3 hb3 lH bU p0 p1 p2 Av Au Ar;go_wp2;refine bB (q9.o.result1 rfl _ rfl) rfl ?_;exact⟨_,_,rfl,Bx.o,fV.o⟩
variable {S free vs:List Nat}
def jg (S:List Nat):List Nat ->Nat
 |[]=>1
 |v::vs=>sz S v*jg S vs
theorem X6 (hp:Pos S):∀l,1<=jg S l
 |[]=>ar _
 |v::l=>Nat.mul_pos (im hp v) (X6 hp l)
theorem X5 (hp:Pos S):∀(l:List Nat) (k:Nat),jg S (l.take k)<=jg S l
 |[],k=>by rw[List.take_nil];exact ar _
 |v::l,0=>X6 hp _
 |v::l,k+1=>kZ _ (X5 hp l k)
theorem eX.outs (hp:Pos S) (most:Bool) (keep:Nat ->Bool):∀(vs:List Nat) {P:List Tb} {D c:Nat},eX S n P D c ->∃d,eX S n (iX S most keep vs P) D d/\d<=jg S vs*c
 |[],P,D,c,h=>⟨c,h,by rw[jg,kB];exact ar _⟩
 |v::vs,P,D,c,h=>by
  have h1:=im hp v;have h2:jg S vs*c<=jg S (v::vs)*c:=jK _ (zX _ h1);rw[iX];cases hk:keep v with
  |true=>
   obtain⟨d,h3,h4⟩:=eX.outs hp most keep vs h;exact⟨d,by rw[aaf rfl];exact h3,aS h4 h2⟩
  |false=>
   cases most with
   |true=>
    obtain⟨d,h3,h4⟩:=eX.outs hp true keep vs (h.most hp v);exact⟨d,by rw[aaO (by decide)];exact h3,aS h4 h2⟩
   |false=>
    obtain⟨d,h3,h4⟩:=eX.outs hp false keep vs (h.o hp v);refine⟨d,by rw[aaO (by decide)];exact h3,aS h4 (Nat.le_of_eq ?_)⟩;show jg S vs*(sz S v*c)=sz S v*jg S vs*c;rw[<- il,abr (jg S vs)]
theorem Sd (S:List Nat) (most:Bool) (keep:Nat ->Bool) (v:Nat):∀(vs:List Nat) (P:List Tb),iX S most keep (vs++[v]) P=if keep v then iX S most keep vs P else abW S v most (iX S most keep vs P)
 |[],P=>rfl
 |u::vs,P=>by rw[fg,iX,iX,Sd S most keep v vs]
theorem ZI (S:List Nat) (most:Bool) (keep:Nat ->Bool):∀(vs:List Nat) (P:List Tb),(iX S most keep vs P).length<=P.length+vs.length
 |[],P=>ar _
 |v::vs,P=>by
  rw[iX];refine aS (ZI S most keep vs _) ?_
  have:(abW S v most P).length<=P.length+1:=by
   rw[abW,dM];exact Nat.add_le_add_right (pR ..) 1
  split
  ·simp only[eU];omega
  ·simp only[eU];omega
def xw (keep:Int ->Bool):List Int ->List Int ->List Int
 |[],f=>f
 |x::l,f=>xw keep l (if keep x then f else bw f x)
theorem UC (keep:Int ->Bool) (x:Int):∀(l f:List Int),xw keep (l++[x]) f=if keep x then xw keep l f else bw (xw keep l f) x
 |[],f=>rfl
 |y::l,f=>by rw[fg,xw,xw,UC keep x l]
theorem abR (keep:Int ->Bool):∀(l f:List Int),(xw keep l f).length<=f.length
 |[],f=>ar _
 |x::l,f=>by
  rw[xw];refine aS (abR keep l _) ?_;split
  ·exact ar _
  ·exact pR ..
theorem PI.gone (hp:Pos S) (most:Bool) (keep:Nat ->Bool) {P:List Tb} {F:(Nat ->Nat) ->Rat} (h:PI S n free P F) (hn:NN S P) (hv:v∈free) (gg:¬v∈vs):∃t∈iX S most keep vs P,v∈ag t.1:=by
 cases most with
 |false=>
  obtain⟨free',h1,h2⟩:=PI.outs hp keep vs h;exact h2.sup v ((h1 v).2 ⟨hv,fun e=>absurd e gg⟩)
 |true=>
  obtain⟨free',h1,h2,_⟩:=PI.mosts hp keep vs h hn;exact h2.sup v ((h1 v).2 ⟨hv,fun e=>absurd e gg⟩)
theorem Zt (a b t q:Option Addr) (ca cb ct cq:Nat) (S:List Nat) (fr:List Nat) (vars:List Int) (P:List Tb) (F:(Nat ->Nat) ->Rat) (D c:Nat) (most:Bool) (w:World) (aJ:eH (iL S)) (hs:aaK w a (iL S)) (hb:aaK w b (iL fr)) (hP:dQ w t P) (hq:aaK w q vars) (dN:vars.length<=1000)
  (iZ:fr.Nodup) (hlt:∀v∈fr,v<S.length) (eN:PI S S.length fr P F) (nB:NN S P) (aM:eX S S.length P D c) (hpl:P.length+fr.length<=999) (hm:2*(B D).size+(B (jg S fr*c)).size+2<=8192):
  Calls Tryz.prog 51 #[.agg #[.slice a S.length ca,.slice b fr.length cb,.slice t P.length ct],.slice q vars.length cq,.bool most] w fun e w'=>∃x y,e=.returned (.agg #[x,y])/\cR w' x y (allT S (iX S most (fun v=>vars.contains (v:Int)) fr P))/\Below w.heap.size w w':=by
 have df:Pos S:=by have:=aJ.pos;rwa [ew] at this
 have hPk:∀i,∃d,eX S S.length (iX S most (fun v=>vars.contains (v:Int)) (fr.take i) P) D d/\d<=jg S fr*c:=fun i=>by
  obtain⟨d,h1,h2⟩:=eX.outs df most (fun v=>vars.contains (v:Int)) (fr.take i) aM;exact⟨d,h1,aS h2 (jK _ (X5 df _ _))⟩
 obtain⟨cc,hcc⟩:=Classical.axiomOfChoice hPk;have hl:(iL fr).length=fr.length:=ba fr;have hg:∀i (h:i<(iL fr).length) (h':i<fr.length),(iL fr)[i]=(fr[i]:Int):=fun i h h'=>by simp[iL]
 have lA:∀i (h':i<fr.length),fr.take (i+1)=fr.take i++[fr[i]]:=fun i h'=>fR h'
 have:=agK a b t q ca cb ct cq S (iL fr) vars P D cc most (fun i=>iX S most (fun v=>vars.contains (v:Int)) (fr.take i) P) (fun i=>xw (fun x=>vars.contains x) (iL (fr.take i)) (iL fr)) w aJ hs hb hP hq dN ⟨rfl,rfl⟩
  (fun i h hk=>by
   (have h':i<fr.length:=by rw[<- hl];exact h);rw[hg i h h'] at hk;refine⟨?_,?_⟩
   ·show iX _ _ _ (fr.take (i+1)) _=_;rw[lA i h',Sd,aaf hk]
   ·show xw _ (iL (fr.take (i+1))) _=_;rw[lA i h',iL,fY,gQ,ld,UC,aaf hk];rfl)
  (fun i h hk=>by
   (have h':i<fr.length:=by rw[<- hl];exact h);rw[hg i h h'] at hk⊢;refine⟨fr[i],rfl,?_,?_,hlt _ (bH h'),PI.gone df most _ eN nB (bH h') ?_⟩
   ·show iX _ _ _ (fr.take (i+1)) _=_;rw[lA i h',Sd,aaO (by rw[hk];decide)]
   ·show xw _ (iL (fr.take (i+1))) _=_;rw[lA i h',iL,fY,gQ,ld,UC,aaO (by rw[hk];decide)];rfl
   ·intro bq;have h3:(fr.take (i+1)).Nodup:=iZ.sublist (List.take_sublist ..);rw[lA i h',Gq] at h3;exact h3.2.2 _ bq _ (fX.2 rfl) rfl)
  (fun i _=>by
   obtain⟨h1,h2⟩:=hcc i;have h3:=ZI S most (fun v=>vars.contains (v:Int)) (fr.take i) P;rw[eZ] at h3;have h4:=abR (fun x=>vars.contains x) (iL (fr.take i)) (iL fr);rw[ba] at h4;have h5:=kj h2;exact⟨h1,by show List.length _<=_;omega,by show List.length _<=_;omega,by omega⟩)
 rw[hl] at this;simp only[fJ] at this;exact this
def AD (V:List Vr) (L:List (List Int)) (R:List (List Fr)) (l:List (Nat×Nat)):Rat:=a8 (fun k=>jX l (aO (ah V) (List.range V.length) k)*ji V L R (aO (ah V) (List.range V.length) k) V.length) (cnt (ah V) (List.range V.length))
theorem apZ (V:List Vr) (L:List (List Int)) (R:List (List Fr)) (a b:List (Nat×Nat)):AD V L R (a++b)=AD V L R (b++a):=by
 rw[AD,AD];refine l8 fun k _=>?_;rw[acY,acY,ao7 (jX a _)]
theorem GK.grown (h:GK w V x y z) (hg:V.grownBy V' (some g)) (hb:w.heap.size+2<=g):GK w V' x y z:=
 have hB:Below (w.heap.size+2) V V':=(au _ V).grown hg (by have:=h.2.lt;omega) (fun k e=>by cases e;exact hb);⟨h.1.grow (hB.ae (by omega)),h.2.aa hB (by omega)⟩
theorem ah1 (a b c:Option Addr) (ca cb cc v:Nat) (V:List Vr) (L:List (List Int)) (R:List (List Fr)) (w:World) (h:gP w a b c V L R) (hN:vK w b L) (hs:sQ V L R) (hw:∀l∈R,fw l<=4200) (h0:aW V L R=0) (hv:v<V.length) (hCK:∀U:World,gP U a b c V L R ->Calls Tryz.prog 75 #[.agg #[.slice a V.length ca,.slice b L.length cb,.slice c R.length cc]] U fun e w'=>e=.returned (.int .i64 (aW V L R))/\Below U.heap.size U w'):
  Calls Tryz.prog 95 #[.agg #[.slice a V.length ca,.slice b L.length cb,.slice c R.length cc],.int .i64 (v:Nat)] w fun e w'=>uh w.heap.size (gU L v) (gL V L R v) 0 e w'/\Below w.heap.size w w':=by
 have aM:=gD h0;have CX:=hs.vars.1;have Nh:=aM.n8;have dG:v<L.length:=by rw[aM.len];exact hv
 have kn:v<R.length:=by rw[aM.lenR];exact hv
 have mj:=aM.up v dG;have hno:=aag h0 dG;have Wi:=hid hCK;rw[h0] at Wi;have VX:Hid ((([(v:Int)]++L[v]).mergeSort fun x y=>decide (x<=y))=gU L v):=Yu dG mj hno;have WA:Hid (([(v:Int)]++L[v]).length=(gU L v).length):=by show _=_;rw[<- VX.o,MP]
 have PB:gU L v=abM L[v] [(v:Int)]:=by rw[gU,b7,af dG];rfl
 have oU:Hid (Up (gU L v) V.length):=by rw[PB];exact GI mj (Q7 hv)
 have ang:Hid (0<(gU L v).length):=by show _<_;rw[<- WA.o];simp
 have aJ:=aM.fine;have eM:∀u,sz (ah V) u<=4:=fun u=>by have:=aJ.sz_le u;rwa [ew] at this
 have df:Pos (ah V):=by have:=aJ.pos;rwa [ew] at this
 have hsm:cnt (ah V) (ag (gU L v))<=65536:=pw eM (by rw[cS];have:=oU.o.length;omega);have kz:Hid ((gL V L R v).length=cnt (ah V) (ag (gU L v))):=by show _=_;simp[gL]
 have PX:R[v].length=(gL V L R v).length:=by rw[kz.o,alE _ dG mj hno];exact aM.rows v dG kn
 have BQ:Hid (∀k (h:k<(gL V L R v).length),(gL V L R v)[k]=qF (aT (dF V L R (aO (ah V) (ag (gU L v)) k) v))):=fun k h=>by simp[gL]
 have vT:Hid (∀K,K<cnt (ah V) (ag (gU L v)) ->(dF V L R (aO (ah V) (ag (gU L v)) K) v).2.1.size+(dF V L R (aO (ah V) (ag (gU L v)) K) v).2.2.size<=4200):=fun K hK=>SS aM (fun u=>nN df _ K u hK) hw hv
 have ky:Hid (∀(K:Nat) (U:World) (G:Nat),K<cnt (ah V) (ag (gU L v)) ->gP U a b c V L R ->bV U G (pZ V.length (aO (ah V) (ag (gU L v)) K)) ->Calls Tryz.prog 151 #[.agg #[.slice a V.length ca,.slice b L.length cb,.slice c R.length cc],.int .i64 (v:Nat),.slice (some ⟨G,0,none⟩) V.length V.length] U fun e w'=>e=.returned (dP (dF V L R (aO (ah V) (ag (gU L v)) K) v))/\Below U.heap.size U w'):=fun K U G hK h1 h2=>by
  rw[JZ dG kn];have:=aiB a b c (some ⟨G,0,none⟩) ca cb cc V.length v V L R (pZ V.length (aO (ah V) (ag (gU L v)) K)) U h1 h2.ints (Em _ _) Nh hv dG kn aJ mj (aM.rows v dG kn) (aO (ah V) (ag (gU L v)) K) (fun u=>nN df _ K u hK) (fun u hu=>Ru hu);rwa [Em] at this
 have bJ:(iL (ah V)).length=V.length:=by rw[ba,gR]
 have uo:Hid (∀(U:World) (G D cd K:Nat),K<cnt (ah V) (ag (gU L v)) ->bV U G (ah V) ->aaK U (some ⟨D,0,none⟩) (gU L v) ->Calls Tryz.prog 150 #[.slice (some ⟨G,0,none⟩) V.length V.length,.slice (some ⟨D,0,none⟩) (gU L v).length cd,.int .i64 (K:Nat)] U fun e w'=>∃(g:Nat) (cc:Nat),e=.returned (.tuple #[.slice (some ⟨g,0,none⟩) (gU L v).length cc,.int .i64 0])/\U.heap.size<=g/\bV w' g (bM (ah V) (ag (gU L v)) K)/\Below U.heap.size U w'):=fun U G D cd K hK h1 h2=>by
  have:=aer (some ⟨G,0,none⟩) (some ⟨D,0,none⟩) V.length cd K (iL (ah V)) (gU L v) U h1.ints h2 aJ (by rw[bJ];exact oU.o) (by rw[ew];exact hK);rwa [bJ,ew] at this
 have WN:Hid (∀K i (hi:i<(ag (gU L v)).length),(bM (ah V) (ag (gU L v)) K)[i]? =some (aO (ah V) (ag (gU L v)) K (ag (gU L v))[i])):=fun K i hi=>Ic oU.o.nodup hi;have Xl:Hid (∀K u,¬u∈ag (gU L v) ->aO (ah V) (ag (gU L v)) K u=0):=fun K u hu=>Bg hu;have fT:=hid (fun (U:World) (hU:sO U a V)=>NX a b c ca cb cc L.length R.length V U hU CX);have Qi:=hid (h.pars v dG);have hpl:=hs.pars.2 L[v] (bH dG);replace hpl:L[v].length<=50000:=by omega
 have uy:=hid (hN v dG);obtain⟨gr,dt,br,cr,rfl,hgr,r1, -, -⟩:=h.rows v kn;rw[PX] at r1;have ur:=hid r1;have HI:=hid h;generalize gL V L R v=FL at *;generalize gU L v=U at *;obtain⟨gp,dE,bl,cl,rfl,gj,p1,eN⟩:=Qi.o;have IJ:=hid (uy.o gp dE bl _ cl rfl p1);have lS:=hid p1;have q8:=hid eN;generalize ajj:L[v]=pl at *;clear h hs hw h0 aM mj PB aJ eM df bJ Qi p1 eN ajj hno hN uy PX r1 hCK;have bY:=hid (GK.new w (.slice a V.length ca) (.slice (some ⟨gp,dE,none⟩) L.length cb) (.slice (some ⟨gr,dt,none⟩) R.length cc));obtain⟨c0,c1,c2⟩:=bY.o.1.1.cells;go_enter Tryz.func95,Tryz.ntmps95;go_wp2_with fail
 generalize ((w.alloc (NC (.slice a V.length ca) (.slice (some ⟨gp,dE,none⟩) L.length cb) (.slice (some ⟨gr,dt,none⟩) R.length cc))).alloc (TC (.slice none 0 0) (.slice none 0 0)))=w1 at *;refine(Wi.o _ (HI.o.aa bY.o.1.2)).ae ?_;rintro e W ⟨rfl,hb⟩;have hG:=bY.o.step hb;clear hb bY c0 c1 c2 Wi;obtain⟨c0,c1,c2⟩:=hG.1.1.cells;have hv0:(0:Int)<=(v:Int):=by omega
 have ny:(v:Int)<(V.length:Int):=by omega
 have WB:=hid hG;clear hG;go_upto_region 6 with fail
 clear c0 c1 c2;have pj:decide (V.length<=v)=false:=by simp;exact hv
 have i7:decide ((v:Int)<0)=false:=by simp
 simp only[pj,i7,Bool.or_false];go_cut [7,8] from 32 to 42 (fun s t wx=>∃G D cd,s=.slice (some ⟨G,0,none⟩) V.length V.length/\t=.slice (some ⟨D,0,none⟩) U.length cd/\w.heap.size+2<=G/\w.heap.size+2<=D/\bV wx G (ah V)/\aaK wx (some ⟨D,0,none⟩) U/\GK w wx (.slice a V.length ca) (.slice (some ⟨gp,dE,none⟩) L.length cb) (.slice (some ⟨gr,dt,none⟩) R.length cc))
 case first=>
  have hG:=WB.o;clear WB;replace hG:GK w W.drew (.slice a V.length ca) (.slice (some ⟨gp,dE,none⟩) L.length cb) (.slice (some ⟨gr,dt,none⟩) R.length cc):=⟨⟨hG.1.1,hG.1.2.drew⟩,hG.2⟩;refine jJ (S:=fun u=>u.cell? ⟨w.heap.size,0,none⟩=some (.slice a V.length ca)/\u.cell? ⟨w.heap.size,1,none⟩=some (.slice (some ⟨gp,dE,none⟩) L.length cb)/\u.cell? ⟨w.heap.size,2,none⟩=some (.slice (some ⟨gr,dt,none⟩) R.length cc)/\u.cell? ⟨gp,dE+v,none⟩=some (.slice bl pl.length cl)) (by kernel_rfl) ⟨hG.1.1.cells.1,hG.1.1.cells.2.1,hG.1.1.cells.2.2,(hG.1.2.cell (p:=⟨gp,dE+v,none⟩) gj).trans lS.o⟩ (fun aq=>?_);generalize W.drew=u0 at *;refine aw 0 (.agg #[.slice a V.length ca,.slice (some ⟨gp,dE,none⟩) L.length cb,.slice (some ⟨gr,dt,none⟩) R.length cc]) ?_;refine aw 2 (.int .i64 (v:Nat)) ?_;refine aw 4 (.pointer (some ⟨w.heap.size,1,none⟩)) ?_;refine aw 5 (.slice (some ⟨gp,dE,none⟩) L.length cb) ?_;refine aw 6 (.int .i64 (v:Nat)) ?_;refine aw 7 (.pointer (some ⟨gp,dE+v,none⟩)) ?_;refine aw 8 (.slice bl pl.length cl) ?_;refine aF [1,3] (cA ?_ (cA ?_ aD))
  focus
   intro K' hK';go_simp;refine(fT.o _ (HI.o.aa hG.1.2).vars).ae ?_;rintro e uS ⟨G,rfl,KU,hrow,hb⟩;(have xp:w.heap.size+2<=G:=by have:=hG.2.lt;omega);replace hG:=hG.step hb;refine hK'.o _ _ ⟨hG.1.1.cells.1,hG.1.1.cells.2.1,hG.1.1.cells.2.2,(hG.1.2.cell (p:=⟨gp,dE+v,none⟩) gj).trans lS.o⟩ (fun ak=>?_);clear hb KU;clear hK' K' aq;have aq:=ak;clear ak;refine aF [3] (cA ?_ aD);intro K' hK';go_simp;have hown:(uS.alloc (.cells #[.int .i64 (v:Int)] 3)).heap[uS.heap.size]? =some (.cells #[.int .i64 (v:Int)] 3 (0,0)):=kd uS _;have ajW:G<uS.heap.size:=hrow.lt;replace hrow:=hrow.alloc (.cells #[.int .i64 (v:Int)] 3);(have ajC:w.heap.size+2<=uS.heap.size:=by have:=hG.2.lt;omega);replace hG:=hG.step ((au _ uS).alloc (ar _) (.cells #[.int .i64 (v:Int)] 3));refine hK'.o _ _ ⟨hG.1.1.cells.1,hG.1.1.cells.2.1,hG.1.1.cells.2.2,(hG.1.2.cell (p:=⟨gp,dE+v,none⟩) gj).trans lS.o⟩ (fun ak=>?_);generalize (uS.alloc (.cells #[.int .i64 (v:Int)] 3))=u2 at *;generalize uS.heap.size=gb at *
  rotate_left
  focus
   intro K' hK';go_simp;have hown:(u0.alloc (.cells #[.int .i64 (v:Int)] 3)).heap[u0.heap.size]? =some (.cells #[.int .i64 (v:Int)] 3 (0,0)):=kd u0 _;(have ajC:w.heap.size+2<=u0.heap.size:=by have:=hG.2.lt;omega);(have ajB:u0.heap.size<(u0.alloc (.cells #[.int .i64 (v:Int)] 3)).heap.size:=by simp);replace hG:=hG.step ((au _ u0).alloc (ar _) (.cells #[.int .i64 (v:Int)] 3));refine hK'.o _ _ ⟨hG.1.1.cells.1,hG.1.1.cells.2.1,hG.1.1.cells.2.2,(hG.1.2.cell (p:=⟨gp,dE+v,none⟩) gj).trans lS.o⟩ (fun ak=>?_);generalize (u0.alloc (.cells #[.int .i64 (v:Int)] 3))=u2 at *;generalize u0.heap.size=gb at *;clear hK' K' aq;have aq:=ak;clear ak;refine aF [1] (cA ?_ aD);intro K' hK';go_simp;refine(fT.o _ (HI.o.aa hG.1.2).vars).ae ?_;rintro e uS ⟨G,rfl,KU,hrow,hb⟩;(have xp:w.heap.size+2<=G:=by have:=hG.2.lt;omega);(have ajW:gb<G:=by omega);replace hG:=hG.step hb;replace hown:=(hb.block gb ajB).trans hown;refine hK'.o _ _ ⟨hG.1.1.cells.1,hG.1.1.cells.2.1,hG.1.1.cells.2.2,(hG.1.2.cell (p:=⟨gp,dE+v,none⟩) gj).trans lS.o⟩ (fun ak=>?_);clear hb KU
  all_goals
   clear hK' K' aq;have aq:=ak;clear ak;refine aF [9] (cA ?_ aD);intro K' hK';rw[aaf (by rfl)];refine adK _ _ rfl gb (v:Int) pl rfl hown bl cl rfl (q8.o.aa hG.1.2) IJ.o (by omega) ?_;intro D cap u3 hD hDl Qh hgr;have KV:GK w u3 (.slice a V.length ca) (.slice (some ⟨gp,dE,none⟩) L.length cb) (.slice (some ⟨gr,dt,none⟩) R.length cc):=hG.grown hgr (by omega);have Tl:bV u3 G (ah V):=(hgr.block G hrow.lt (fun e=>by cases e;omega)).trans hrow;(have hD2:w.heap.size+2<=D:=by have:=hG.2.lt;omega);(have hDG:D≠G:=by have:=hrow.lt;omega);clear hG hrow hown hgr hD;have hG:=KV;clear KV;refine hK'.o _ _ ⟨hG.1.1.cells.1,hG.1.1.cells.2.1,hG.1.1.cells.2.2,(hG.1.2.cell (p:=⟨gp,dE+v,none⟩) gj).trans lS.o⟩ (fun ak=>?_);clear hK' K' aq;have aq:=ak;clear ak;refine aF [10] (cA ?_ aD);intro K' hK';go_simp;refine(afB D cap ([(v:Int)]++pl) u3 Qh hDl (by simp;omega)).ae ?_;rintro e u4 ⟨rfl,hint,hgr⟩;rw[VX.o] at hint;have KV:GK w u4 (.slice a V.length ca) (.slice (some ⟨gp,dE,none⟩) L.length cb) (.slice (some ⟨gr,dt,none⟩) R.length cc):=hG.grown hgr (by omega);have ajg:bV u4 G (ah V):=(hgr.block G Tl.lt (fun e=>hDG (lV e).symm)).trans Tl;clear hG Tl hgr Qh;have hG:=KV;clear KV;refine hK'.o _ _ ⟨hG.1.1.cells.1,hG.1.1.cells.2.1,hG.1.1.cells.2.2,(hG.1.2.cell (p:=⟨gp,dE+v,none⟩) gj).trans lS.o⟩ (fun ak=>?_);clear hK' K' aq;have aq:=ak;clear ak;refine aw 11 (.slice (some ⟨G,0,none⟩) V.length V.length) ?_;refine aw 12 (.slice (some ⟨D,0,none⟩) ([(v:Int)]++pl).length cap) ?_;(try simp only[gE,aP])
   refine dW (by kernel_rfl) ?_ _;clear aq;go_wp2_with fail
   go_meet
   rw[WA.o];exact⟨G,D,cap,rfl,rfl,xp,hD2,ajg,hint,hG⟩
 case rest=>
 obtain⟨G,D,cd,rfl,rfl,oG,oD,Oj,EK,hG⟩:=hcut;clear pj i7 VX WA q8 lS IJ fT WB;have hwc:=hG.2.lt;obtain⟨c0,c1,c2⟩:=hG.1.1.cells;have r2:=(hG.1.2.cell (p:=⟨gr,dt+v,none⟩) hgr).trans ur.o;have an0:(v:Int)<(R.length:Int):=by omega
 obtain⟨i1,jQ,oA,hy1,hy2⟩:=eT Tryz.infoFrac;obtain⟨i0,cU,hz0,hz1,hz2⟩:=eT Tryz.infoInt;have hFs:FL.length<=65536:=by rw[kz.o];exact hsm
 have HG:=hid hG;clear hG
 go_wp2_with (first
  |(at_make;refine mL _ rfl _ _ 37 rfl wc.heap.size 32 i1 (.agg #[.bool false,.string ⟨#[]⟩,.string ⟨#[]⟩]) 3 Tryz.underlying37 jQ oA hy1 .i64 .i64 _ _ FL.length rfl rfl (by go_num) (by go_num) (by rw[hy2];omega) (by unfold maxLen;omega) (ar _) ?_;intro w3 aa8 abo;have bU:Below wc.heap.size wc w3:=(au _ wc).grown abo (ar _) (fun k e=>by cases e);have OO:=HG.o.step bU;clear c0 c1 c2 r2;obtain⟨c0,c1,c2⟩:=OO.1.1.cells)
  |(at_make;refine mL _ rfl _ _ 27 rfl w3.heap.size 3 i0 (.int .i64 0) 1 Tryz.underlying27 cU hz0 hz1 .i64 .i64 _ _ V.length rfl rfl (by go_num) (by go_num) (by rw[hz2];omega) (by unfold maxLen;omega) (ar _) ?_;intro w4 p9 EX))
 have hr3:=acN aa8;rw[aax] at hr3;have hr4:=pC p9;rw[AB] at hr4;have dY:Below w3.heap.size w3 w4:=(au _ w3).grown EX (ar _) (fun k e=>by cases e);have lH:jY w3 wc.heap.size (List.replicate FL.length y8):=hr3;have vw:bV w4 w3.heap.size (List.replicate V.length 0):=hr4;have hlt3:=lH.lt;have Uw:=bU.trans (dY.ae bU.size)
 have e0:List.replicate V.length 0=pZ V.length (fun _=>0):=by
  apply pS<;>simp[pZ]
 rw[e0] at vw;have abL:=Oj.lt
 have hDlt:D<wc.heap.size:=by
  obtain⟨g',o',e,h2,_⟩:=EK 0 (by have:=ang.o;omega);cases e;exact h2
 have Ug:Hid (GV w (.slice a V.length ca) (.slice (some ⟨gp,dE,none⟩) L.length cb) (.slice (some ⟨gr,dt,none⟩) R.length cc) G D wc.heap.size w3.heap.size (ah V) U w4 (List.replicate FL.length y8) (pZ V.length (fun _=>0))):=⟨OO.step dY,Oj.aa Uw Oj.lt,EK.aa Uw,lH.aa dY lH.lt,vw,oG,oD,abL,hDlt,hlt3⟩;clear aa8 abo p9 EX hr3 hr4 bU dY lH vw hlt3 Uw e0 abL hDlt Oj EK OO HG c0 c1 c2 oG oD hwc;generalize wc.heap.size=C at *;generalize w3.heap.size=Ab at *;go_wp2_with fail
 go_loopw [56] (fun iv wr=>∃(i:Nat) (A:Nat ->Nat),i<=FL.length/\iv=.int .i64 i/\Hid (∀u,¬u∈ag U ->A u=0)/\Hid (GV w (.slice a V.length ca) (.slice (some ⟨gp,dE,none⟩) L.length cb) (.slice (some ⟨gr,dt,none⟩) R.length cc) G D C Ab (ah V) U wr (rA FL i) (pZ V.length A))) (fun iv _=>FL.length - (intOf iv).toNat)
 case atStart=>exact⟨0,fun _=>0,aU _,rfl,fun _ _=>rfl,by rw[Zx];exact Ug⟩
 case round=>
  obtain⟨i,A,hi,rfl,HA0,HX⟩:=hrel;clear Ug;by_cases hlt:i<FL.length
  ·have TD:i<cnt (ah V) (ag U):=by rw[<- kz.o];exact hlt
   go_wp2_with fail
   refine(uo.o _ G D cd i TD HX.o.szs HX.o.us).ae ?_;rintro e u1 ⟨g5,vH,rfl,ajA,Kq,hb5⟩;have aj2:=HX.o.vs.lt;(have h5A:g5≠Ab:=by omega);have Bl:=hid (HX.o.step hb5);have F3:=hid Kq;clear Kq hb5 HX ajA aj2;go_wp2_with fail
   go_loopw [68] (fun jv wr=>∃j:Nat,j<=U.length/\jv=.int .i64 j/\Hid (GV w (.slice a V.length ca) (.slice (some ⟨gp,dE,none⟩) L.length cb) (.slice (some ⟨gr,dt,none⟩) R.length cc) G D C Ab (ah V) U wr (rA FL i) (pZ V.length (yJ A (aO (ah V) (ag U) i) (ag U) j)))/\Hid (bV wr g5 (bM (ah V) (ag U) i))) (fun jv _=>U.length - (intOf jv).toNat)
   case atStart=>exact⟨0,aU _,rfl,by rw[ait];exact Bl,F3⟩
   case round=>
    obtain⟨j,hj,rfl,HX,Qn⟩:=hrel;clear Bl F3;have OI:=oU.o.length;by_cases oH:j<U.length
    ·obtain⟨gO,gH⟩:=oU.o.nat oH;(have Ol:j<(ag U).length:=by rw[cS];exact oH);have ek:=hid (aiu A (aO (ah V) (ag U) i) V.length Ol);have TK:=WN.o i j Ol;rw[o6 oH] at ek TK;obtain⟨g',o',e, -,cu⟩:=HX.o.us j oH;cases e;rw[bT] at cu;generalize U[j].toNat=u at *;rw[<- gO] at cu;clear gO;obtain⟨pg,OD⟩:=o0.1 TK;have cv:=Qn.o.cell j pg;rw[OD] at cv;have ca_:=HX.o.vs.cell u (by rw[Em];exact gH);have fa_:=HX.o.vs.fz u;generalize aO (ah V) (ag U) i u=z at *;have Ty:=hid (HX.o.setA u z);rw[ek.o] at Ty;have anD:=hid (Qn.o.off Ab u (.int .i64 (z:Nat)) h5A);clear TK OD HX Qn;go_wp2;go_roundw
     case rel=>exact⟨j+1,by omega,by go_num,Ty,anD⟩
     case measure=>simp[intOf];omega
    ·obtain rfl:j=U.length:=by omega
     have hX:=HX.o;rw[show yJ A (aO (ah V) (ag U) i) (ag U) U.length=aO (ah V) (ag U) i by rw[<- cS U];exact aiv HA0.o (Xl.o i)] at hX;obtain⟨c0,c1,c2⟩:=hX.gk.1.1.cells;have PN:=hid hX;clear hX HX Qn;go_wp2_with fail
     refine(ky.o i _ Ab TD (HI.o.aa PN.o.gk.1.2) PN.o.vs).ae ?_;rintro e u3 ⟨rfl,bK⟩;have lO:=hid (PN.o.step bK);clear c0 c1 c2 bK PN;have zU:=BQ.o i hlt;have hcs:=vT.o i TD;generalize dF V L R (aO (ah V) (ag U) i) v=fr at *;obtain⟨fn,fx,fy⟩:=fr;replace hcs:fx.size+fy.size<=4200:=hcs;have hq:FL[i]=qF (val fn fx fy):=zU;have HQ:=hid hq;clear zU hq;go_wp2_with fail
     refine(Qw (n:=fn) (x:=fx) (y:=fy) (w:=u3) (val fn fx fy) rfl (by omega)).ae ?_;rintro e u5 ⟨rfl,jS⟩;have qp:=hid (lO.o.step jS);clear jS lO;have HST:=hid (Zy FL hlt);rw[HQ.o] at HST;obtain⟨k0,k1,k2⟩:=qp.o.cs.cells i (by rw[R7 _ hi];exact hlt);have f0:=qp.o.cs.fz (i*3);have f1:=qp.o.cs.fz (i*3+1);have f2:=qp.o.cs.fz (i*3+2);generalize (rA FL i)[i]'(by rw[R7 _ hi];exact hlt)=zf at *;obtain⟨zn,zx,zy⟩:=zf;simp only at k0 k1 k2;have HP:=hid (qp.o.setC i (qF (val fn fx fy)));rw[HST.o] at HP;generalize val fn fx fy=qq at *;go_wp2;go_roundw
     case rel=>exact⟨i+1,_,by omega,by go_num,Xl.o i,HP⟩
     case measure=>simp[intOf];omega
  ·obtain rfl:i=FL.length:=by omega
   have hX:=HX.o;rw[Zz] at hX;obtain⟨k0,k1,f0,f1⟩:=hX.gk.2.facts;have h1:=hX.oD;have h2:=hX.oDC;clear HX;go_wp2;refine bB ((hX.gk.2.put _ _).result2 rfl _ rfl) rfl ?_;exact⟨⟨some ⟨D,0,none⟩,some ⟨C,0,none⟩,cd,FL.length,rfl,(hX.us.far _ _ _ (by omega)).far _ _ _ (by omega),((hX.cs.off _ _ _ (by omega)).off _ _ _ (by omega)).fr,eC.at (by omega),eC.at (by omega)⟩,mr hX.gk.1.2 (by omega) _ _⟩
theorem ah4 (a b c:Option Addr) (ca cb cc:Nat) (V:List Vr) (L:List (List Int)) (R:List (List Fr)) (w:World) (h:gP w a b c V L R) (hs:sQ V L R)
  (Q4:L.length=V.length ->R.length=V.length ->bE L=0 ->jy V=0 ->∀U:World,gP U a b c V L R ->Calls Tryz.prog 132 #[.agg #[.slice a V.length ca,.slice b L.length cb,.slice c R.length cc]] U fun e w'=>e=.returned (.int .i64 (iO (iI (ah V) L R) V.length))/\Below U.heap.size U w'):
  Calls Tryz.prog 75 #[.agg #[.slice a V.length ca,.slice b L.length cb,.slice c R.length cc]] w fun e w'=>e=.returned (.int .i64 (aW V L R))/\Below w.heap.size w w':=by
 have HI:=hid h;have CX:=hs.vars.1;have Uk:=hs.pars.1;have Ht:=hs.rows.1;have sY:Hid (¬(L.length=V.length/\R.length=V.length) ->aW V L R=8):=fun h=>aaO h;have uz:Hid (L.length=V.length ->R.length=V.length ->bE L≠0 ->aW V L R=bE L):=fun h1 h2 h3=>by rw[aW,aaf ⟨h1,h2⟩,aaO h3]
 have uy:Hid (L.length=V.length ->R.length=V.length ->bE L=0 ->jy V≠0 ->aW V L R=jy V):=fun h1 h2 h3 h4=>by rw[aW,aaf ⟨h1,h2⟩,aaf h3,aaO h4]
 have II:Hid (L.length=V.length ->R.length=V.length ->bE L=0 ->jy V=0 ->aW V L R=iO (iI (ah V) L R) V.length):=fun h1 h2 h3 h4=>by rw[aW,aaf ⟨h1,h2⟩,aaf h3,aaf h4]
 have Mm:=hid (fun (U:World) (hU:fh U b L)=>akl b cb L U hU (fun l hl=>by have:=hs.pars.2 l hl;omega));have T6:=hid (fun (U:World) (hU:sO U a V)=>alT a ca V U hU hs.vars);have Qp:=hid Q4;generalize aW V L R=ne at *;clear h hs Q4;have bY:=hid (NK.new w (.slice a V.length ca) (.slice b L.length cb) (.slice c R.length cc));obtain⟨c0,c1,c2⟩:=bY.o.1.cells;by_cases lI:L.length=V.length
 ·by_cases qf:R.length=V.length
  ·have hlv:((L.length:Int) !=(V.length:Int))=false:=by rw[lI];simp
   (have Kc:((R.length:Int) !=(V.length:Int))=false:=by rw[qf];simp);have Wh:=hid (uz.o lI qf);have DD:=hid (uy.o lI qf);have IH:=hid (II.o lI qf);have WS:=hid (Qp.o lI qf);clear lI qf sY uz uy II Qp;generalize iO (iI (ah V) L R) V.length=fe at *;generalize bE L=ge at *;generalize jy V=ve at *;go_enter Tryz.func75,Tryz.ntmps75;go_wp2_with fail
   generalize (w.alloc (NC (.slice a V.length ca) (.slice b L.length cb) (.slice c R.length cc)))=w1 at *;refine(Mm.o _ (HI.o.aa bY.o.2).pars).ae ?_;rintro e w2 ⟨rfl,hb⟩;have hK:=bY.o.step hb;clear hb bY c0 c1 c2 hlv Kc Mm;obtain⟨c0,c1,c2⟩:=hK.1.cells;by_cases hg:ge=0
   ·subst hg;have We:=hid (DD.o rfl);have FV:=hid (IH.o rfl);have WR:=hid (WS.o rfl);have HK:=hid hK;clear Wh DD IH WS hK;go_wp2_with fail
    refine(T6.o _ (HI.o.aa HK.o.2).vars).ae ?_;rintro e w3 ⟨rfl,hb⟩;have hK:=HK.o.step hb;clear hb HK c0 c1 c2 T6;obtain⟨c0,c1,c2⟩:=hK.1.cells;by_cases hv:ve=0
    ·subst hv;have HQ:=hid (FV.o rfl);have anF:=hid (WR.o rfl);have HK:=hid hK;clear We FV WR hK;go_wp2_with fail
     refine(anF.o _ (HI.o.aa HK.o.2)).ae ?_;rintro e w4 ⟨rfl,hb⟩;have hK:=HK.o.step hb;clear c0 c1 c2 hb;go_wp2;go_ret;exact⟨by rw[HQ.o];rfl,hK.2⟩
    ·have HQ:=hid (We.o hv);(have tK:(ve==0)=false:=by simpa using hv);clear hv We FV WR c0 c1 c2;go_wp2;go_ret;exact⟨by rw[HQ.o];rfl,hK.2⟩
   ·have HQ:=hid (Wh.o hg);(have hgb:(ge==0)=false:=by simpa using hg);clear hg Wh DD IH WS c0 c1 c2;go_wp2;go_ret;exact⟨by rw[HQ.o];rfl,hK.2⟩
  ·have HQ:=hid (sY.o fun h=>qf h.2);(have hlv:((L.length:Int) !=(V.length:Int))=false:=by rw[lI];simp)
   have Kc:((R.length:Int) !=(V.length:Int))=true:=by
    (have:¬(R.length:Int)=(V.length:Int):=by omega);simpa using this
   clear lI qf sY Qp;go_enter Tryz.func75,Tryz.ntmps75;go_wp2;go_ret;exact⟨by rw[HQ.o];rfl,bY.o.2⟩
 ·have HQ:=hid (sY.o fun h=>lI h.1)
  have hlv:((L.length:Int) !=(V.length:Int))=true:=by
   (have:¬(L.length:Int)=(V.length:Int):=by omega);simpa using this
  clear lI sY Qp;go_enter Tryz.func75,Tryz.ntmps75;go_wp2;go_ret;exact⟨by rw[HQ.o];rfl,bY.o.2⟩
section
attribute [local go_sem] Oper.semAt_some
def zo (Bs Bk B:Nat) (V V':World):Prop:=nR Bs V V'/\nR Bk V V'/\Below B V V'
theorem zo.t {Bs Bk B:Nat} {X Y Z:World} (h:zo Bs Bk B X Y) (k:zo Bs Bk B Y Z):zo Bs Bk B X Z:=⟨h.1.t k.1,h.2.1.t k.2.1,h.2.2.trans k.2.2⟩
theorem zo.b {Bs Bk B:Nat} (hs:Bs<w.heap.size) (hk:Bk<w.heap.size) (hB:B<=w.heap.size) (V:World) (l:Nat) (o o':Obj) (hl:w.heap.size<=l) (h1:V.heap[l]? =some o) (h2:o.isCells=false) (h3:o.isWalk=false):zo Bs Bk B V (V.putObj l o'):=
 ⟨nR.b hs V l o o' hl h1 h2 h3,nR.b hk V l o o' hl h1 h2 h3,tA hB V l o o' hl h1 h2 h3⟩
theorem grown_drew (w:World):w.grownBy w.drew none:=⟨rfl,rfl,rfl,ar _,fun _ _ _=>rfl⟩
abbrev zL (N:Nat):Type:= {i:Nat//i<N}
abbrev Vd (gf cT k N:Nat) (x:zL N):Array Value:= #[.slice (some ⟨gf,cT+x.1*k*3,none⟩) k k]
theorem alR (n:Nat) (hn:1<=n) (l Bs Bk B gf cT cap k N T:Nat) (hT:T=N*k) (hk:1<=k) (hk4:k<=4) (hN:N<=65536) (sB:T<=cap) (J Jx:List (zL N) ->World ->Prop) (hD:∀pre V,J pre V ->J pre V.drew)
  (hY:∀pre x V,J pre V ->pre.length< N ->YieldAt Fence.wide (n - 1) Tryz.prog l (Vd gf cT k N x) V fun e V'=>
   (e=.returned (.bool true)/\J (pre++[x]) V'/\zo Bs Bk B V V')∨(e=.returned (.bool false)/\Jx (pre++[x]) V'))
  (V:World) (hBs:V.cell? ⟨Bs,0,none⟩=some (.slice (some ⟨gf,cT,none⟩) T cap)) (Hy:V.cell? ⟨Bk,0,none⟩=some (.int .i64 (k:Nat))) (h0:J [] V):
  CallsIn Fence.wide n Tryz.prog 223 #[.func (.yield l) #[] #[],.pointer (some ⟨Bs,0,none⟩),.pointer (some ⟨Bk,0,none⟩)] V fun e V'=>(∃v,e=.returned v)/\
   ((∃ys:List (zL N),ys.map (·.1)=List.range N/\J ys V')∨(∃pre:List (zL N),(∃j,j<=N/\pre.map (·.1)=List.range j)/\Jx pre V')):=by
 refine Gj Tryz.func223 rfl trivial ?_ rfl;simp only[Tryz.ntmps223,mP,eU,lg,Nat.reduceAdd,Nat.reduceSub,mV,mU,mQ,lZ,iD,fg];have LI:=hid hT;have Ub:T<=262144:=by rw[hT];exact aS (iW hN hk4) (by decide)
 clear hT;gi_wp2
 gi_loopw [4] (fun i wr=>∃(j:Nat) (pre:List (zL N)),j<=N/\i=.int .i64 (j*k:Nat)/\Hid (pre.map (·.1)=List.range j)/\J pre wr/\wr.cell? ⟨Bs,0,none⟩=some (.slice (some ⟨gf,cT,none⟩) T cap)/\wr.cell? ⟨Bk,0,none⟩=some (.int .i64 (k:Nat)))
  (fun i _=>T - (intOf i).toNat)
 case atStart=>exact⟨0,[],aU _,by rw[jw];rfl,rfl,h0,hBs,Hy⟩
 case round=>
  obtain⟨j,pre,hj,rfl,HP,hJs,KD,OS⟩:=hrel;by_cases hlt:j<N
  ·have hpl:pre.length=j:=by have:=bR List.length HP.o;rwa [c5,lY] at this
   (have HS:Hid ((pre++[(⟨j,hlt⟩:zL N)]).map (·.1)=List.range (j+1)):=by show _=_;rw[fY,HP.o,rT];rfl);(have CO:(j+1)*k<=T:=by rw[LI.o];exact jK k hlt);(have e2:(j+1)*k=j*k+k:=by rw[fW,kB]);have F8:Hid ((j+1)*k=j*k+k):=e2;(have hlo:j*k+k<=T:=by omega);have Wn:Hid (j*k=j*k):=rfl;clear e2 CO;have T1:=fun W hW=>hY pre ⟨j,hlt⟩ W hW (by omega);simp only[Vd] at T1;generalize Ut:j*k=lo at *;have HYJ:=hid T1;clear T1 Wn;have HEM:=hid Ut;clear Ut;(have hc1:¬cap=lo:=by omega);(have hl1:lo<=T:=by omega);(have ajq:min (k:Int) ((T - lo:Nat):Int)=(k:Int):=by omega);gi_wp2
   gi_region
   have hJd:=hD pre wr hJs;have aby:wr.drew.cell? ⟨Bs,0,none⟩=some (.slice (some ⟨gf,cT,none⟩) T cap):=KD;have abz:wr.drew.cell? ⟨Bk,0,none⟩=some (.int .i64 (k:Nat)):=OS;clear KD OS hJs ajq;generalize wr.drew=w2 at *;obtain⟨fn,tmps,assign,body,hy,hR⟩:=HYJ.o w2 hJd;have HR:=hid hR;clear hR;(have hw1:IntKind.i64.wrap ((lo:Int)+(k:Int))=((lo+k:Nat):Int):=by rw[eo];omega);(have pj:(lo+k:Nat) - lo=k:=by omega);(have hx1:((lo+k:Nat):Int)<=(cap:Int):=by omega);generalize Oz:lo+k=AY at *;(have hx2:lo<=AY:=by omega);have Wq:=hid Oz;clear Oz;gi_wp2
   refine HR.o.ae ?_;rintro e W3 (⟨rfl,hJ3,hk3⟩ |⟨rfl,hJx3⟩)
   ·have ajP:=Eq.trans hk3.1 aby
    have ajS:=Eq.trans hk3.2.1 abz;have HE:Hid ((j+1)*k=AY):=F8.o;(have hlt3:lo<AY:=by have:=Wq.o;omega);(have an8:AY<=T:=by have:=Wq.o;omega);clear aby abz hk3;gi_wp2
    go_roundw
    case rel=>exact⟨j+1,_,by omega,by rw[HE.o],HS,hJ3,ajP,ajS⟩
    case measure=>simp[intOf];omega
   ·gi_wp2
    refine bB (results_none rfl _ _ _) rfl ?_;exact⟨⟨_,rfl⟩,.inr ⟨_,⟨j+1,by omega,HS.o⟩,hJx3⟩⟩
  ·obtain rfl:j=N:=by omega
   rw[<- LI.o];gi_wp2
   go_end0
   exact⟨⟨_,rfl⟩,.inl ⟨_,HP.o,hJs⟩⟩
theorem alQ (n:Nat) (a:Option Addr) (T cap k:Nat) (hk:1<=k) (w:World):
  CallsIn Fence.wide n Tryz.prog 176 #[.slice a T cap,.int .i64 (k:Nat)] w fun e w'=>e=.returned (.func (.func 223) #[] #[.pointer (some ⟨w.heap.size,0,none⟩),.pointer (some ⟨w.heap.size+1,0,none⟩)])/\w'=(w.alloc (.cells #[.slice a T cap] 37)).alloc (.cells #[.int .i64 (k:Nat)] 3):=by
 refine Gj Tryz.func176 rfl trivial ?_ rfl;simp only[Tryz.ntmps176,mP,eU,lg,Nat.reduceAdd,Nat.reduceSub,mV,mU,mQ,lZ,iD,fg];have e1:(1:Int)<=(k:Int):=by omega
 gi_wp2
 go_ret;exact⟨rfl,rfl⟩
theorem alP (n:Nat) (hn:1<=n) (Bs Bk B gf cT cap k N T:Nat) (hT:T=N*k) (hk:1<=k) (hk4:k<=4) (hN:N<=65536) (sB:T<=cap) (w:World) (hBs:Bs<w.heap.size) (Hy:Bk<w.heap.size) (h1:w.cell? ⟨Bs,0,none⟩=some (.slice (some ⟨gf,cT,none⟩) T cap)) (h2:w.cell? ⟨Bk,0,none⟩=some (.int .i64 (k:Nat))):
  SeqStopsK Fence.wide n Tryz.prog 223 #[.pointer (some ⟨Bs,0,none⟩),.pointer (some ⟨Bk,0,none⟩)] (Vd gf cT k N) (zo Bs Bk B) (fun ys=>ys.map (·.1)=List.range N) (fun pre=>∃j,j<=N/\pre.map (·.1)=List.range j) N w:=fun l J Jx V hV hJ _ hY h0=>
 alR n hn l Bs Bk B gf cT cap k N T hT hk hk4 hN sB J Jx (fun pre U hU=>hJ pre U U.drew none hU (grown_drew U) (fun r e=>by cases e)) hY V ((hV.cell (p:=⟨Bs,0,none⟩) hBs).trans h1) ((hV.cell (p:=⟨Bk,0,none⟩) Hy).trans h2) h0
end
section
attribute [local go_sem] Oper.semAt_some
variable {ds:List Deferred}
theorem RB {k:Int} (h:Boxed w g 33 (.int .i64 k)) {p:Tmp} (hr:fn.results= #[.cell p 33]) (tmps:Array Value) (hp:tmps.getD p undef=.pointer (some ⟨g,0,none⟩)):(results fn tmps).run Tryz.prog w=.ok (.int .i64 k) w:=by
 have hp':tmps[p]?.getD undef=.pointer (some ⟨g,0,none⟩):=by simpa using hp
 have hc:=h.cell;simp only[results,hr];simp[hp',asAddr];go_simp
theorem acR (h:Below V.heap.size V V'):KeepsOthers V V':=⟨h.size,fun k _ hk _=>(h.block k (eL.1 hk).1).trans hk⟩
theorem ag3 {β:Type} {n0 B:Nat} {Q:β ->World ->Prop} (hB:n0<=B):OwnFrom B (fun (s:β) W=>∃V,Q s V/\n0<=V.heap.size/\Below n0 V W):=fun s W W' row hs hg hr=>by
 obtain⟨V,h1,h2,h3⟩:=hs;exact⟨V,h1,h2,h3.grown hg (aS h2 h3.size) (fun k e=>aS hB (hr k e).1)⟩
def nZ (w:World) (k:Int) (W:World):Prop:=Boxed W (w.heap.size+1) 33 (.int .i64 k)/\Below w.heap.size w W
theorem nZ.shut {k:Int} (hlo:w.heap.size+1<lo) (W:World) (r:Nat) (h:nZ w k W) (hr:lo<=r) (hd:W.heap[r]? =some (.deferred (some []))):nZ w k (W.putObj r (.deferred none)):=
 ⟨(yh (by omega)).trans h.1,h.2.trans (tA (w:=w) (ar _) W r _ _ (by omega) hd rfl rfl)⟩
theorem nZ.put {W:World} {k:Int} (h:nZ w k W) (j:Int):nZ w j (W.setCell ⟨w.heap.size+1,0,none⟩ (.int .i64 j)):=⟨h.1.set _,h.2.setCell (p:=⟨w.heap.size+1,0,none⟩) (by simp) _⟩
theorem Shut.put {B:Nat} {W:World} (h:Shut lo B ds W) (hg:g<lo) (v:Value):Shut lo B ds (W.setCell ⟨g,0,none⟩ v):=by
 induction ds generalizing B with
 |nil=>trivial
 |cons d ds ih=>
  obtain⟨r,h1,h2,h3,h4,h5⟩:=h;exact⟨r,h1,h2,h3,(je W ⟨g,0,none⟩ v r (by show r≠g;omega)).trans h4,ih h5⟩
theorem alU (a b c:Option Addr) (ca cb cc:Nat) (V:List Vr) (L:List (List Int)) (R:List (List Fr)) (w:World) (h:gP w a b c V L R) (hs:sQ V L R) (lI:L.length=V.length) (qf:R.length=V.length) (hg:bE L=0) (hv:jy V=0):
  Calls Tryz.prog 132 #[.agg #[.slice a V.length ca,.slice b L.length cb,.slice c R.length cc]] w fun e w'=>e=.returned (.int .i64 (iO (iI (ah V) L R) V.length))/\Below w.heap.size w w':=by
 refine(gZ (n:=6)).1 ?_;obtain⟨aJ,Nh,aX⟩:=UU lI hg hv;have HI:=hid h;have CX:=hs.vars.1;have xP:=hid hs.rows.2;have HFI:=hid aJ;have gz:=hid aX;have fT:=hid (fun (U:World) (hU:sO U a V)=>NX a b c ca cb cc L.length R.length V U hU CX);have HA:Hid (∀i,i<V.length ->(∀j,j< i ->iI (ah V) L R j=0) ->∀k,iI (ah V) L R i=k ->k≠0 ->iO (iI (ah V) L R) V.length=k):=fun i hi hz k hk hk0=>by rw[Bd hz (by rw[hk];exact hk0) hi,hk]
 have HZ:Hid ((∀j,j<V.length ->iI (ah V) L R j=0) ->iO (iI (ah V) L R) V.length=0):=fun h=>ac8 h;have uC:=hid lI;have sV:=hid qf;generalize iO (iI (ah V) L R) V.length=fe at *;clear h hs aJ aX lI qf hg hv;have Un:NK w ((w.alloc (NC (.slice a V.length ca) (.slice b L.length cb) (.slice c R.length cc))).alloc (.cells #[.int .i64 0] 33)) (.slice a V.length ca) (.slice b L.length cb) (.slice c R.length cc):=(NK.new w (.slice a V.length ca) (.slice b L.length cb) (.slice c R.length cc)).step ((au _ _).alloc (ar _) _)
 have QS:Boxed ((w.alloc (NC (.slice a V.length ca) (.slice b L.length cb) (.slice c R.length cc))).alloc (.cells #[.int .i64 0] 33)) (w.heap.size+1) 33 (.int .i64 0):=by
  have h:=a7 (w.alloc (NC (.slice a V.length ca) (.slice b L.length cb) (.slice c R.length cc))) 33 (.int .i64 0);rwa [cN] at h
 have bY:=hid Un;have Ms:=hid QS;obtain⟨c0,c1,c2⟩:=Un.1.cells;clear Un QS;refine tz Tryz.func132 rfl trivial ?_ rfl;simp only[Tryz.ntmps132,mP,eU,lg,Nat.reduceAdd,Nat.reduceSub,mV,mU,mQ,lZ,iD,fg];gi_wp2_with (refine⟨trivial,?_⟩;gi_at_call 25;refine(gZ.2 (fT.o _ (HI.o.aa bY.o.2).vars)).ae ?_;rintro e W2 ⟨G,rfl,KU,hrow,hb⟩;have hK2:=bY.o.step hb;have Uv:=(hb.block (w.heap.size+1) (eL.1 Ms.o).1).trans Ms.o;clear c0 c1 c2;obtain⟨c0,c1,c2⟩:=hK2.1.cells)
 clear hb;have oY:=hid hK2;have dZ:Hid (Boxed W2 (w.heap.size+1) 33 (.int .i64 0)):=Uv;have V1:=hid hrow;have OQ:w.heap.size+1<W2.heap.size:=(eL.1 Uv).1;clear hK2 Uv hrow c0 c1 c2 bY Ms fT KU;refine wpIn_loop (fun a' w'=>∃(v:Nat) (ds:List Deferred) (u4 u5 u6 u7 u15 u16 Ju Jt GH XT XS XR u23 u24 Js u26 Jr u28 Ak Jq Jp u32 u33 XQ XP u36 XO u38 XN XM XL XK GG Q8:Value),a'= {tmps:= #[.agg #[.slice a V.length ca,.slice b L.length cb,.slice c R.length cc],.pointer (some ⟨w.heap.size,0,none⟩),.pointer (some ⟨w.heap.size+1,0,none⟩),.slice (some ⟨G,0,none⟩) V.length V.length,u4,u5,u6,u7,undef,.agg #[.slice a V.length ca,.slice b L.length cb,.slice c R.length cc],.slice (some ⟨G,0,none⟩) V.length V.length,.pointer (some ⟨w.heap.size,2,none⟩),.slice c R.length cc,.int .i64 (R.length:Nat),.int .i64 (v:Nat),u15,u16,Ju,Jt,GH,XT,XS,XR,u23,u24,Js,u26,Jr,u28,Ak,Jq,Jp,u32,u33,XQ,XP,u36,XO,u38,XN,XM,XL,XK,GG,undef,undef,undef,undef,Q8],defers:=ds}/\v<=R.length/\Hid (∀j,j< v ->iI (ah V) L R j=0)/\Hid (Below W2.heap.size W2 w')/\Hid (Shut W2.heap.size w'.heap.size ds w')) (fun a' _=>R.length - (intOf (a'.tmps.getD 14 undef)).toNat) ?_ ?_
 ·exact⟨0,[],_,_,_,_,_,_,_,_,_,_,_,_,_,_,_,_,_,_,_,_,_,_,_,_,_,_,_,_,_,_,_,_,_,_,rfl,aU _,(fun j hj=>absurd hj (by omega)),au _ _,trivial⟩
 intro a' wr hinv;obtain⟨v,ds,u4,u5,u6,u7,u15,u16,Ju,Jt,GH,XT,XS,XR,u23,u24,Js,u26,Jr,u28,Ak,Jq,Jp,u32,u33,XQ,XP,u36,XO,u38,XN,XM,XL,XK,GG,Q8,rfl,hv,LB,HB,nT⟩:=hinv;have hlo:W2.heap.size<=wr.heap.size:=HB.o.size;by_cases hlt:v<R.length
 ·have tZ:=oY.o.step HB.o;have EM:=V1.o.aa HB.o V1.o.lt;have dG:v<L.length:=by rw[uC.o, <- sV.o];exact hlt
  have uX:v<V.length:=by rw[<- sV.o];exact hlt
  obtain⟨gr,dt,bf,cf,rfl,hgr,r1,sf,CG⟩:=HI.o.rows v hlt;obtain⟨gp,dE,bp,cp,rfl,gj,p1,eN⟩:=HI.o.pars v dG;obtain⟨c0,c1,c2⟩:=tZ.1.cells;have r2:=(tZ.2.cell (p:=⟨gr,dt+v,none⟩) hgr).trans r1;have p2:=(tZ.2.cell (p:=⟨gp,dE+v,none⟩) gj).trans p1;have bJ:(ah V).length=V.length:=gR V;have aX:Up L[v] V.length:=by rw[<- uC.o];exact gz.o v dG
  have eM:∀u,sz (ah V) u<=4:=fun u=>by have:=HFI.o.sz_le u;rwa [ew] at this
  have df:Pos (ah V):=by have:=HFI.o.pos;rwa [ew] at this
  have hN:cnt (ah V) (ag L[v])<=65536:=pw eM (by rw[cS];have:=aX.length;have:=uC.o;omega);have vA:1<=cnt (ah V) (ag L[v]):=zg df _;have hk4:=eM v;have yU:=im df v;have r8:=EM.cell v (by rw[bJ];exact uX);have CD:(ah V)[v]'(by rw[bJ];exact uX)=sz (ah V) v:=by rw[sz,af (by rw[bJ];exact uX)];rfl
  rw[CD] at r8;have hpl:=aX.length
  have jt:Hid (CallsIn Fence.wide 5 Tryz.prog 37 #[.slice (some ⟨G,0,none⟩) V.length V.length,.slice bp L[v].length cp] wr fun e w'=>e=.returned (.tuple #[.int .i64 (cnt (ah V) (ag L[v]):Nat),.int .i64 0])/\Below wr.heap.size wr w'):=by
   have hcb:countB (iL (ah V)) L[v]=true:=Fk HFI.o (by rw[ba,bJ];exact aX);have hc:=Nc (some ⟨G,0,none⟩) bp V.length cp (iL (ah V)) L[v] wr EM.ints (eN.aa tZ.2) (by rw[ba,bJ];have:=uC.o;omega) (by have:=uC.o;omega);rw[Fl hcb,ew,ba,bJ] at hc;exact gZ.2 hc
  have FN:Hid (iI (ah V) L R v=if R[v].length=cnt (ah V) (ag L[v])*sz (ah V) v then(if ((List.range (cnt (ah V) (ag L[v]))).all fun i=>iJ (fP R[v] (sz (ah V) v) i))=true then 0 else 9) else 8):=by
   show _=_;rw[iI,b7,af hlt,b7,af dG];rfl
  have zB:=hid (sf.aa tZ.2);have AV:=xP.o R[v] (bH hlt);have Xk:=hid (HA.o v uX LB.o);generalize L[v]=pl at *;generalize R[v]=rv at *;have Tu:pl.length<=8:=by have:=uC.o;omega
  clear sf r1 p1 eN aX eM df CD bJ;generalize hkk:sz (ah V) v=k at *;generalize cnt (ah V) (ag pl)=N at *;clear hkk;have KP:N*k<=262144:=aS (iW hN hk4) (by decide);have hcm:(N:Int)*(k:Int)=((N*k:Nat):Int):=(iH _ _).symm;have hw1:IntKind.i64.wrap ((N:Int)*(k:Int))=((N*k:Nat):Int):=by rw[hcm,eo];omega
  have IW:=hid hcm;clear hcm;by_cases hT:rv.length=N*k
  ·rw[aaf hT] at FN;rw[<- hT] at hw1;have NY:k<=N*k:=zX k vA;(have kJ:0<rv.length:=by omega);obtain⟨gf,cT,rfl,AZ, -⟩:=zB.o 0 kJ;have LI:=hid hT;clear hT KP NY;have hT5:rv.length<=5000:=AV.1;(have hne:((rv.length:Int) !=(rv.length:Int))=false:=by simp)
   gi_wp2_with (first
    |(refine⟨trivial,?_⟩;gi_at_call 37;refine jt.o.ae ?_;rintro e W4 ⟨rfl,hb⟩;have hK4:=tZ.step hb;have hr4:=EM.aa hb EM.lt;have aaU:=(hb.cell (p:=⟨G,v,none⟩) EM.lt).trans r8;clear c0 c1 c2 r2 p2 r8)
    |(refine⟨trivial,?_⟩;gi_at_call 176;refine(alQ _ _ _ _ k yU _).ae ?_;rintro e W5 ⟨rfl,rfl⟩))
   (have an1:((W4.alloc (.cells #[.slice (some ⟨gf,cT,none⟩) rv.length cf] 37)).alloc (.cells #[.int .i64 (k:Nat)] 3)).heap.size=W4.heap.size+1+1:=by simp);have hc1:((W4.alloc (.cells #[.slice (some ⟨gf,cT,none⟩) rv.length cf] 37)).alloc (.cells #[.int .i64 (k:Nat)] 3)).cell? ⟨W4.heap.size,0,none⟩=some (.slice (some ⟨gf,cT,none⟩) rv.length cf):=((a7 W4 37 (.slice (some ⟨gf,cT,none⟩) rv.length cf)).alloc _).cell
   have hc2:((W4.alloc (.cells #[.slice (some ⟨gf,cT,none⟩) rv.length cf] 37)).alloc (.cells #[.int .i64 (k:Nat)] 3)).cell? ⟨W4.heap.size+1,0,none⟩=some (.int .i64 (k:Nat)):=by
    have h:=(a7 (W4.alloc (.cells #[.slice (some ⟨gf,cT,none⟩) rv.length cf] 37)) 3 (.int .i64 (k:Nat))).cell;rwa [cN] at h
   have TW:Below W4.heap.size W4 ((W4.alloc (.cells #[.slice (some ⟨gf,cT,none⟩) rv.length cf] 37)).alloc (.cells #[.int .i64 (k:Nat)] 3)):=((au _ W4).alloc (ar _) _).alloc (by simp) _;generalize ((W4.alloc (.cells #[.slice (some ⟨gf,cT,none⟩) rv.length cf] 37)).alloc (.cells #[.int .i64 (k:Nat)] 3))=W5 at *;have eM:=hb.size;have Um:=hK4.step TW;have oC:Below wr.heap.size wr W5:=hb.trans (TW.ae eM);have HF5:=hid (zB.o.aa oC);have adk:=hid ((nT.o.aa oC).ae (show wr.heap.size<=W5.heap.size by omega));have F9:Hid (nZ w 0 W5):=⟨(oC.block (w.heap.size+1) (by omega)).trans ((HB.o.block (w.heap.size+1) OQ).trans dZ.o),Um.2⟩;have Mj:=hid Um;have eD:=hid (HB.o.trans (oC.ae hlo));clear hb hK4 hr4 aaU TW tZ EM Um jt V1 HB nT zB oC
   refine I2 (α:=zL N) rfl (by omega) (gf:=223) (lb:= #[.pointer (some ⟨W4.heap.size,0,none⟩),.pointer (some ⟨W4.heap.size+1,0,none⟩)]) rfl trivial (enters_of Tryz.func223 (by kernel_rfl) rfl)
    (alP 5 (by omega) W4.heap.size (W4.heap.size+1) W5.heap.size gf cT cf k N rv.length LI.o yU hk4 hN CG W5 (by omega) (by omega) hc1 hc2) zo.t (zo.b (by omega) (by omega) (ar _)) (au _ _) (fun _=>rfl)
    (fun (pre:List (zL N)) X=>Below W5.heap.size W5 X/\∀x∈pre,iJ (fP rv k x.1)=true)
    (fun cd (pre:List (zL N)) X=>∃Y,(cd=Code.ret/\(∃x∈pre,iJ (fP rv k x.1)=false)/\nZ w 9 Y/\Shut W2.heap.size W5.heap.size ds Y)/\W5.heap.size<=Y.heap.size/\Below W5.heap.size Y X)
    (eI (yg (ar _) (ar _)) (fun _ _ _ _ hs _ _=>hs))
    (fun cd=>ag3 (Q:=fun (pre:List (zL N)) Y=>cd=Code.ret/\(∃x∈pre,iJ (fP rv k x.1)=false)/\nZ w 9 Y/\Shut W2.heap.size W5.heap.size ds Y) (ar _))
    ⟨au _ _,fun x hx=>absurd hx (by simp)⟩
    (fun x=> {tmps:= #[.agg #[.slice a V.length ca,.slice (some ⟨gp,dE,none⟩) L.length cb,.slice (some ⟨gr,dt,none⟩) R.length cc],.pointer (some ⟨w.heap.size,0,none⟩),.pointer (some ⟨w.heap.size+1,0,none⟩),.slice (some ⟨G,0,none⟩) V.length V.length,.int .i64 (v:Nat),.slice (some ⟨gf,cT,none⟩) rv.length cf,.int .i64 (N:Nat),.int .i64 0,.slice (some ⟨gf,cT+x.1*k*3,none⟩) k k,.agg #[.slice a V.length ca,.slice (some ⟨gp,dE,none⟩) L.length cb,.slice (some ⟨gr,dt,none⟩) R.length cc],.slice (some ⟨G,0,none⟩) V.length V.length,.pointer (some ⟨w.heap.size,2,none⟩),.slice (some ⟨gr,dt,none⟩) R.length cc,.int .i64 (R.length:Nat),.int .i64 (v:Nat),.bool true,.int .i64 (v:Nat),.pointer (some ⟨gr,dt+v,none⟩),.slice (some ⟨gf,cT,none⟩) rv.length cf,.tuple #[.int .i64 (N:Nat),.int .i64 0],.slice (some ⟨G,0,none⟩) V.length V.length,.pointer (some ⟨w.heap.size,1,none⟩),.slice (some ⟨gp,dE,none⟩) L.length cb,.int .i64 (v:Nat),.pointer (some ⟨gp,dE+v,none⟩),.slice bp pl.length cp,.tuple #[.int .i64 (N:Nat),.int .i64 0],.int .i64 (N:Nat),.int .i64 0,.slice (some ⟨gf,cT,none⟩) rv.length cf,.int .i64 (rv.length:Nat),.int .i64 (N:Nat),.slice (some ⟨G,0,none⟩) V.length V.length,.int .i64 (v:Nat),.pointer (some ⟨G,v,none⟩),.int .i64 (k:Nat),.int .i64 (rv.length:Nat),.bool false,.slice (some ⟨gf,cT,none⟩) rv.length cf,.slice (some ⟨G,0,none⟩) V.length V.length,.int .i64 (v:Nat),.pointer (some ⟨G,v,none⟩),.int .i64 (k:Nat),.func (.func 223) #[] #[.pointer (some ⟨W4.heap.size,0,none⟩),.pointer (some ⟨W4.heap.size+1,0,none⟩)],.slice (some ⟨gf,cT+x.1*k*3,none⟩) k k,undef,undef,undef,Q8],defers:=[]}) ?assign ?body ?done ?stop
   case assign=>
    intro l x X K hK;gi_wp2
    exact hK
   case body=>
    rintro l pre ⟨i,hi⟩ X ⟨vD,hall⟩ hpre;(have hmul:(i+1)*k<=rv.length:=by rw[LI.o];exact jK k hi);obtain⟨qU,hlc⟩:=bZ.chunk (m:=k) (HF5.o.aa vD) hmul rfl;have TB:=aiN (some ⟨gf,cT+i*k*3,none⟩) k (fP rv k i) X qU (aS (abY rv k i) AV.2) (by omega);rw[hlc] at TB;have T2:=vD.size;have vV:=hid TB;have uE:=hid vD;have qC:=hid hall;clear TB qU hlc hmul vD hall hc1 hc2 hpre;cases rF:iJ (fP rv k i)
    case true=>
     rw[rF] at vV;have Iz:=hid rF;clear rF;gi_wp2_with (refine⟨trivial,?_⟩;gi_at_call 177;refine(MX l (gZ.2 vV.o)).ae ?_;rintro e X2 ⟨rfl,hbX⟩)
     refine⟨(acR hbX).from _,⟨hbX.cell (p:=⟨W4.heap.size,0,none⟩) (by show W4.heap.size<X.heap.size;omega),hbX.cell (p:=⟨W4.heap.size+1,0,none⟩) (by show W4.heap.size+1<X.heap.size;omega),hbX.ae T2⟩,uE.o.trans (hbX.ae T2),fun x hx=>?_⟩;rcases aa5.1 hx with hx |hx
     ·exact qC.o x hx
     ·rw[fX.1 hx];exact Iz.o
    case false=>
     rw[rF] at vV;have Iz:=hid rF;clear rF;gi_wp2_with (refine⟨trivial,?_⟩;gi_at_call 177;refine(MX l (gZ.2 vV.o)).ae ?_;rintro e X2 ⟨rfl,hbX⟩;have hB2:=uE.o.trans (hbX.ae T2);have bW:=(hB2.block (w.heap.size+1) (by omega)).trans F9.o.1;have sA:=Boxed.cell bW;have Ku:=Boxed.frozen bW)
     have hL9:nZ w 9 (X2.setCell ⟨w.heap.size+1,0,none⟩ (.int .i64 9)):=nZ.put (k:=0) ⟨bW,F9.o.2.trans (hB2.ae (by omega))⟩ 9;refine⟨((acR hbX).trans (iG X2 _ _)).from _,_,⟨rfl,⟨⟨i,hi⟩,by simp,Iz.o⟩,hL9,(adk.o.aa hB2).put (by omega) _⟩,?_,au _ _⟩;have aop:=hbX.size;simp;omega
   case done=>
    rintro D ys X hD yL ⟨vD,hall⟩ hK
    have J8:Hid (iI (ah V) L R v=0):=by
     show _=_;rw[FN.o,aaf];rw[eJ];intro i hi;rw[<- yL] at hi;obtain⟨x,hx,rfl⟩:=aaQ.1 hi;exact hall x hx
    have A6:D<X.heap.size:=(eL.1 hK).1;have hB2:=eD.o.trans (vD.ae (by omega));have PG:Shut W2.heap.size X.heap.size ({target:=.collected D,args:= #[]}::ds) X:=⟨D,by omega,A6,rfl,hK,(adk.o.aa vD).ae hD⟩;have uE:=hid hB2;have FH:=hid PG;clear hK hall yL hB2 PG hc1 hc2 vD;gi_wp2
    refine⟨⟨v+1,_,_,_,_,_,_,_,_,_,_,_,_,_,_,_,_,_,_,_,_,_,_,_,_,_,_,_,_,_,_,_,_,_,_,_,rfl,by omega,(fun j hj=>?_),uE,FH⟩,?_⟩
    ·rcases cD j v with h |h
     ·exact LB.o j h
     ·rw[show j=v by omega];exact J8.o
    ·simp[intOf];omega
   case stop=>
    rintro D cd pre X hD hSp ⟨Y,⟨rfl,⟨x,hx,hxb⟩,hcr,wL⟩,hYs,vD⟩ hK
    have fN:fe=9:=Xk.o 9 (by
     rw[FN.o,aaO];intro h;rw[eJ] at h;have:=h x.1 (bG.2 x.2);rw[hxb] at this;cases this) (by decide)
    have A6:D<X.heap.size:=(eL.1 hK).1;have hCX:nZ w 9 X:=⟨(vD.block (w.heap.size+1) (by omega)).trans hcr.1,hcr.2.trans (vD.ae (by omega))⟩;gi_wp2
    refine Ez (lo:=W2.heap.size) (K:=nZ w 9) (nZ.shut (by omega)) (fun Z hZ=>⟨_,RB hZ.1 rfl _ rfl,?_,hZ.2⟩) _ X.heap.size X ⟨D,by omega,A6,rfl,hK,(wL.aa vD).ae hD⟩ hCX;rw[fN]
  ·rw[aaO hT] at FN;have fN:fe=8:=Xk.o 8 FN.o (by decide)
   have hne:((rv.length:Int) !=((N*k:Nat):Int))=true:=by
    (have:¬(rv.length:Int)=((N*k:Nat):Int):=by omega);simpa using this
   clear hT;have U7:=HB.o;gi_wp2_with (refine⟨trivial,?_⟩;gi_at_call 37;refine jt.o.ae ?_;rintro e W4 ⟨rfl,hb⟩;have hK4:=tZ.step hb;have aaU:=(hb.cell (p:=⟨G,v,none⟩) EM.lt).trans r8;have bW:Boxed W4 (w.heap.size+1) 33 (.int .i64 0):=(hb.block (w.heap.size+1) (by omega)).trans ((HB.o.block (w.heap.size+1) OQ).trans dZ.o);have sA:=Boxed.cell bW;have Ku:=Boxed.frozen bW;clear c0 c1 c2 r2 p2 r8)
   refine Ez (lo:=W2.heap.size) (K:=nZ w 8) (nZ.shut (by omega)) (fun Z hZ=>⟨_,RB hZ.1 rfl _ rfl,?_,hZ.2⟩) _ wr.heap.size _ ((nT.o.aa hb).put (by omega) _) (nZ.put (k:=0) ⟨bW,hK4.2⟩ 8);rw[fN]
 ·obtain rfl:v=R.length:=by omega
  have fN:fe=0:=HZ.o (fun j hj=>LB.o j (by rw[sV.o];exact hj));have bW:Boxed wr (w.heap.size+1) 33 (.int .i64 0):=(HB.o.block (w.heap.size+1) OQ).trans dZ.o;have sA:=Boxed.cell bW;have Ku:=Boxed.frozen bW;have tZ:=oY.o.step HB.o;gi_wp2
  refine Ez (lo:=W2.heap.size) (K:=nZ w 0) (nZ.shut (by omega)) (fun Z hZ=>⟨_,RB hZ.1 rfl _ rfl,?_,hZ.2⟩) _ wr.heap.size _ (nT.o.put (by omega) _) (nZ.put (k:=0) ⟨bW,tZ.2⟩ 0);rw[fN]
end
theorem Pn (a b c:Option Addr) (ca cb cc:Nat) (V:List Vr) (L:List (List Int)) (R:List (List Fr)) (w:World) (h:gP w a b c V L R) (hs:sQ V L R):
  Calls Tryz.prog 75 #[.agg #[.slice a V.length ca,.slice b L.length cb,.slice c R.length cc]] w fun e w'=>e=.returned (.int .i64 (aW V L R))/\Below w.heap.size w w':=
 ah4 a b c ca cb cc V L R w h hs fun h1 h2 h3 h4 U hU=>alU a b c ca cb cc V L R U hU hs h1 h2 h3 h4
variable {i:Nat}
def ik (S:List Nat) (n:Nat) (F:List (Int×Int)) (i:Nat):Int:=
 if ¬(0<=(F.getD i (0,0)).1/\(F.getD i (0,0)).1<(n:Int)) then 11 else if ¬(0<=(F.getD i (0,0)).2/\(F.getD i (0,0)).2<(sz S (F.getD i (0,0)).1.toNat:Int)) then 12 else if ((F.take i).any fun p=>p.1==(F.getD i (0,0)).1)=true then 7 else 0
def bP (V:List Vr) (L:List (List Int)) (R:List (List Fr)) (F:List (Int×Int)):Int:=if aW V L R=0 then iO (ik (ah V) V.length F) F.length else aW V L R
theorem OX (h:i<F.length):F.getD i (0,0)=F[i]:=by rw[b7,af h];rfl
theorem UW (hi:i<F.length) (h:¬(0<=F[i].1/\F[i].1<(n:Int))):ik S n F i=11:=by rw[ik,OX hi,aaf h]
theorem UX (hi:i<F.length) (h:0<=F[i].1/\F[i].1<(n:Int)) (h2:¬(0<=F[i].2/\F[i].2<(sz S F[i].1.toNat:Int))):ik S n F i=12:=by rw[ik,OX hi,aaO (fun e=>e h),aaf h2]
theorem UY (hi:i<F.length) (h:0<=F[i].1/\F[i].1<(n:Int)) (h2:0<=F[i].2/\F[i].2<(sz S F[i].1.toNat:Int)) (h3:((F.take i).any fun p=>p.1==F[i].1)=true):ik S n F i=7:=by rw[ik,OX hi,aaO (fun e=>e h),aaO (fun e=>e h2),aaf h3]
theorem aca (hi:i<F.length) (h:0<=F[i].1/\F[i].1<(n:Int)) (h2:0<=F[i].2/\F[i].2<(sz S F[i].1.toNat:Int)) (h3:((F.take i).any fun p=>p.1==F[i].1)=false):ik S n F i=0:=by rw[ik,OX hi,aaO (fun e=>e h),aaO (fun e=>e h2),aaO (by rw[h3];decide)]
theorem Rl {V:List Vr} (h:v<V.length):sz (ah V) v=V[v].2.length:=by rw[sz,Co h];rfl
theorem SZ (a b c d:Option Addr) (ca cb cc cd:Nat) (V:List Vr) (L:List (List Int)) (R:List (List Fr)) (F:List (Int×Int)) (w:World) (h:gP w a b c V L R) (hs:sQ V L R) (hF:jI w d F) (hn:F.length<=1000) (hcd:F.length<=cd):
  Calls Tryz.prog 32 #[.agg #[.slice a V.length ca,.slice b L.length cb,.slice c R.length cc],.slice d F.length cd] w fun e w'=>e=.returned (.int .i64 (bP V L R F))/\Below w.heap.size w w':=by
 have hA:=(au w.heap.size w).alloc (ar _) (NC (.slice a V.length ca) (.slice b L.length cb) (.slice c R.length cc));have oX:=hid (gX.at (w:=w) rfl (.slice a V.length ca) (.slice b L.length cb) (.slice c R.length cc));have HCK:=hid (Pn a b c ca cb cc V L R _ (h.aa hA) hs);have HA:=hid hA;have uq:=hid h.vars;have HF:=hid hF;have CX:V.length<=5000:=hs.vars.1;have VN:Hid (∀v (hv:v<V.length),V[v].2.length<=5000):=fun v hv=>hs.vars.2 _ (bH hv) |>.2.1;obtain⟨re,wN⟩:∃re,bP V L R F=re:=⟨_,rfl⟩;have fB:Hid (aW V L R≠0 ->aW V L R=re):=fun e=>by rw[<- wN,bP,aaO e]
 have dZ:Hid (aW V L R=0 ->∀i,i<F.length ->(∀j,j< i ->ik (ah V) V.length F j=0) ->∀k,ik (ah V) V.length F i=k ->k≠0 ->k=re):=fun e i hi hz k hk hk0=>by rw[<- wN,bP,aaf e,Bd hz (by rw[hk];exact hk0) hi,hk]
 have fQ:Hid (aW V L R=0 ->(∀j,j<F.length ->ik (ah V) V.length F j=0) ->0=re):=fun e hz=>by rw[<- wN,bP,aaf e,ac8 hz]
 have Qj:=hid (fun (i:Nat) (v:Int) (U:World) (hU:Below w.heap.size w U)=>aaL d cd (F.take i) v U ((hF.aa hU).take i) (by rw[eZ];omega));rw[wN];clear h hs hF hA wN;go_enter Tryz.func32,Tryz.ntmps32;go_wp2_with fail
 refine HCK.o.ae ?_;rintro e w1 ⟨rfl,hb1⟩;have eR:=hid (HA.o.trans (hb1.ae HA.o.size));have sZ:=hid (oX.o.aa hb1 oX.o.lt);clear hb1 HCK oX HA;by_cases hne:aW V L R=0
 ·rw[hne];have mG:=hid hne;clear hne;go_wp2_with fail
  go_loopw [15] (fun iv wr=>∃i:Nat,i<=F.length/\iv=.int .i64 i/\Hid (∀j,j< i ->ik (ah V) V.length F j=0)/\Hid (gX wr w.heap.size (.slice a V.length ca) (.slice b L.length cb) (.slice c R.length cc))/\Hid (Below w.heap.size w wr)) (fun iv _=>F.length - (intOf iv).toNat)
  case atStart=>exact⟨0,aU _,rfl,(fun j hj=>absurd hj (by omega)),sZ,eR⟩
  case round=>
   obtain⟨i,hi,rfl,HZ,HN,HB⟩:=hrel;clear sZ eR;by_cases hlt:i<F.length
   ·obtain⟨g,o,rfl,hg,h0,h1⟩:=HF.o i hlt;have k0:=(HB.o.cell (p:=⟨g,_,none⟩) hg).trans h0;have k1:=(HB.o.cell (p:=⟨g,_,none⟩) hg).trans h1;have HR:=hid (dZ.o mG.o i hlt HZ.o);have x6:Hid (¬(0<=F[i].1/\F[i].1<(V.length:Int)) ->ik (ah V) V.length F i=11):=UW hlt;have DL:Hid (0<=F[i].1/\F[i].1<(V.length:Int) ->¬(0<=F[i].2/\F[i].2<(sz (ah V) F[i].1.toNat:Int)) ->ik (ah V) V.length F i=12):=UX hlt;have Mp:Hid (0<=F[i].1/\F[i].1<(V.length:Int) ->(0<=F[i].2/\F[i].2<(sz (ah V) F[i].1.toNat:Int)) ->((F.take i).any fun p=>p.1==F[i].1)=true ->ik (ah V) V.length F i=7):=UY hlt;have nX:Hid (0<=F[i].1/\F[i].1<(V.length:Int) ->(0<=F[i].2/\F[i].2<(sz (ah V) F[i].1.toNat:Int)) ->((F.take i).any fun p=>p.1==F[i].1)=false ->ik (ah V) V.length F i=0):=aca hlt;have mE:Hid (ik (ah V) V.length F i=0 ->∀j,j<i+1 ->ik (ah V) V.length F j=0):=fun e=>Eh HZ.o e;have adq:=hid (Qj.o i F[i].1);(have EH:(F.take i).length=i:=by rw[eZ];omega);rw[EH] at adq;generalize ik (ah V) V.length F i=fe at *;generalize ((F.take i).any fun p=>p.1==F[i].1)=fq at *;generalize F[i].1=f1 at *;generalize F[i].2=f2 at *;have hA:=(au wr.heap.size wr).alloc (ar _) (.cells #[.int .i64 f1,.int .i64 f2] 90);(have AU:(wr.alloc (.cells #[.int .i64 f1,.int .i64 f2] 90)).heap.size=wr.heap.size+1:=by simp);have Ku:(wr.alloc (.cells #[.int .i64 f1,.int .i64 f2] 90)).heap[wr.heap.size]? =some (.cells #[.int .i64 f1,.int .i64 f2] 90 (0,0)):=kd wr _;have qA:=hid Ku;have Wj:=hid (HN.o.aa hA HN.o.lt);have dC:=hid (HB.o.trans (hA.ae HB.o.size))
    have nc:=Wj.o.cells.1;clear h0 h1 EH hA Ku;by_cases hv:0<=f1/\f1<(V.length:Int)
    ·obtain⟨v,rfl⟩:∃v:Nat,f1=v:=⟨f1.toNat,by omega⟩;(have uX:v<V.length:=by omega);obtain⟨gv,ov,bv,cv,rfl,yV,hv0,ny,_,_⟩:=uq.o v uX;have r8:sz (ah V) v=V[v].2.length:=Rl uX;have ai9:=VN.o v uX;rw[pT,r8] at DL Mp nX;have kv:=(dC.o.cell (p:=⟨gv,_,none⟩) yV).trans ny;generalize V[v].2.length=sv at *;have Fy:=hid hv;clear hv0 ny hv r8;obtain⟨RG,Rm⟩:(wr.alloc (.cells #[.int .i64 (v:Nat),.int .i64 f2] 90)).cell? ⟨wr.heap.size,0,none⟩=some (.int .i64 (v:Nat))/\(wr.alloc (.cells #[.int .i64 (v:Nat),.int .i64 f2] 90)).cell? ⟨wr.heap.size,1,none⟩=some (.int .i64 f2):=⟨by rw[cC _ _ 0 _ _ (0,0) qA.o];rfl,by rw[cC _ _ 1 _ _ (0,0) qA.o];rfl⟩;by_cases hval:0<=f2/\f2<(sv:Int)
     ·obtain⟨z,rfl⟩:∃z:Nat,f2=z:=⟨f2.toNat,by omega⟩;(have hzs:z<sv:=by omega);have Fz:=hid hval;clear hval;go_upto_region 11 with (go_quiet (fail))
      have HFD:Hid (((wr.alloc (.cells #[.int .i64 (v:Nat),.int .i64 (z:Nat)] 90)).drewN nq).heap[wr.heap.size]? =some (.cells #[.int .i64 (v:Nat),.int .i64 (z:Nat)] 90 (0,0))):=qA.o;have mF:Hid (gX ((wr.alloc (.cells #[.int .i64 (v:Nat),.int .i64 (z:Nat)] 90)).drewN nq) w.heap.size (.slice (some ⟨gv,ov,none⟩) V.length ca) (.slice b L.length cb) (.slice c R.length cc)):=Wj.o;have dI:=hid (below_drewN dC.o nq);(have EK:wr.heap.size<((wr.alloc (.cells #[.int .i64 (v:Nat),.int .i64 (z:Nat)] 90)).drewN nq).heap.size:=by show wr.heap.size<(wr.alloc _).heap.size;rw[AU];omega);clear RG Rm kv nc qA Wj dC AU;generalize (wr.alloc (.cells #[.int .i64 (v:Nat),.int .i64 (z:Nat)] 90)).drewN nq=W3 at *
      have Bz:Hid (∀U:World,Below W3.drew.heap.size W3.drew U ->U.cell? ⟨wr.heap.size,0,none⟩=some (.int .i64 (v:Nat))):=fun U hU=>(hU.cell (p:=⟨wr.heap.size,0,none⟩) EK).trans (by
       have:W3.drew.heap[wr.heap.size]? =some (.cells #[.int .i64 (v:Nat),.int .i64 (z:Nat)] 90 (0,0)):=HFD.o;rw[cC _ _ 0 _ _ (0,0) this];rfl)
      have adp:=hid (adq.o W3.drew dI.o.drew);(have hic:(i:Int)<=(cd:Int):=by omega);refine jJ (S:=fun U=>U.cell? ⟨wr.heap.size,0,none⟩=some (.int .i64 (v:Nat))) (by kernel_rfl) (Bz.o _ (au _ _)) (fun aq=>?_);refine aw 0 (.slice (some ⟨g,o,none⟩) F.length cd) ?_;refine aw 1 (.int .i64 (i:Nat)) ?_;refine aw 2 (.slice (some ⟨g,o,none⟩) i cd) ?_;refine aw 3 (.pointer (some ⟨wr.heap.size,0,none⟩)) ?_;refine aw 4 (.int .i64 (v:Nat)) ?_;refine aF [5] (cA ?_ aD);intro K' hK';go_simp;refine adp.o.ae ?_;rintro r w5 ⟨rfl,hb5⟩;refine hK'.o _ _ (Bz.o w5 hb5) (fun ak=>?_);clear hK' K' aq;(try simp only[gE,aP]);refine dW (by kernel_rfl) ?_ _;clear ak;have eD:Hid (Below w.heap.size w w5):=dI.o.drew.trans (hb5.ae dI.o.drew.size);have BC:Hid (gX w5 w.heap.size (.slice (some ⟨gv,ov,none⟩) V.length ca) (.slice b L.length cb) (.slice c R.length cc)):=gX.aa (w:=W3.drew) mF.o hb5 mF.o.lt;clear hb5 adp Bz;cases fq with
      |true=>
       have j6:=hid (HR.o 7 (Mp.o Fy.o Fz.o rfl) (by decide));go_wp2;go_ret;exact⟨by rw[<- j6.o];rfl,eD.o⟩
      |false=>
       have VD:=hid (mE.o (nX.o Fy.o Fz.o rfl));go_wp2;go_roundw
       case rel=>exact⟨i+1,by omega,by go_num,VD,BC,eD⟩
       case measure=>simp[intOf];omega
     ·have j6:=hid (HR.o 12 (DL.o Fy.o hval) (by decide));rcases Int.lt_or_le f2 0 with h2 |h2
      ·have pj:decide (f2<0)=true:=cJ h2;clear hval;go_wp2_with (go_quiet (fail))
       go_ret;exact⟨by rw[<- j6.o];rfl,below_drewN dC.o _⟩
      ·have pj:decide (f2<0)=false:=abg (by omega);have i7:decide ((sv:Int)<=f2)=true:=cJ (by omega);clear hval;go_wp2_with (go_quiet (fail))
       go_ret;exact⟨by rw[<- j6.o];rfl,below_drewN dC.o _⟩
    ·have j6:=hid (HR.o 11 (x6.o hv) (by decide));obtain⟨RG,Rm⟩:(wr.alloc (.cells #[.int .i64 f1,.int .i64 f2] 90)).cell? ⟨wr.heap.size,0,none⟩=some (.int .i64 f1)/\(wr.alloc (.cells #[.int .i64 f1,.int .i64 f2] 90)).cell? ⟨wr.heap.size,1,none⟩=some (.int .i64 f2):=⟨by rw[cC _ _ 0 _ _ (0,0) qA.o];rfl,by rw[cC _ _ 1 _ _ (0,0) qA.o];rfl⟩;rcases Int.lt_or_le f1 0 with h2 |h2
     ·clear hv;go_wp2_with fail
      go_ret;exact⟨by rw[<- j6.o];rfl,dC.o⟩
     ·have h3:(V.length:Int)<=f1:=by omega
      (have h4:¬f1<0:=by omega);clear hv;go_wp2_with fail
      go_ret;exact⟨by rw[<- j6.o];rfl,dC.o⟩
   ·obtain rfl:i=F.length:=by omega
    have j6:=hid (fQ.o mG.o HZ.o);go_wp2;go_ret;exact⟨by rw[<- j6.o];rfl,HB.o⟩
 ·have j6:=hid (fB.o hne);have hgb:(aW V L R==0)=false:=by simpa using hne
  clear hne fB dZ fQ;generalize aW V L R=ne at *;go_wp2;go_ret;exact⟨by rw[<- j6.o];rfl,eR.o⟩
variable {L:List (List Int)} {u:Nat}
def RQ (L:List (List Int)) (u v:Nat):Bool:=xZ (aI L) u L.length v
theorem arK (h:bE L=0) (hv:v<L.length):RQ L u v=true↔u=v∨BZ (fun u v=>u∈(aI L).getD v []) u v:=aqm h u L.length v (uH (afz h hv))
def xY (L:List (List Int)) (u:Nat) (l:List Nat):Bool:=l.any (RQ L u)
def k7 (n:Nat) (Ls:List (List Int)):Bool:=ug Ls n&&decide Ls.flatten.Nodup
def B4 (L:List (List Int)) (x y z:List Int):Bool:=(ag x).any fun v=>mh (aI L) L.length (fun v=>decide (v∈ag y)) (fun v=>decide (v∈ag z)) (fun v=>xY L v (ag z)) L.length [v]
variable {kl:Nat×Bool ->Lit} {W':World}
def aoy (p:Nat×Bool):Value:=.agg #[.int .i64 (p.1:Nat),.bool p.2]
theorem asB:laidOutB Tryz.prog=true:=by kernel_rfl
theorem api:Maps.Keyed Tryz.prog 168:=Maps.Keyed.of_law (deep_law_laid asB (m:=3) (by decide) (rS (by kernel_rfl)) (by kernel_rfl) (by kernel_rfl))
theorem asC (v:Nat) (c:Bool) (hv:v<8):(keyOf Tryz.prog 168 (aoy (v,c))).isSome=true:=by
 have h:v=0∨v=1∨v=2∨v=3∨v=4∨v=5∨v=6∨v=7:=by omega
 rcases h with rfl |rfl |rfl |rfl |rfl |rfl |rfl |rfl
 all_goals
  cases c
  all_goals exact rS (by kernel_rfl)
theorem asD:∃kl:Nat×Bool ->Lit,∀p:Nat×Bool,p.1< 8 ->keyOf Tryz.prog 168 (aoy p)=some (kl p):=by
 refine⟨fun p=>(keyOf Tryz.prog 168 (aoy p)).getD (.bool false),fun p hp=>?_⟩;obtain⟨l,hl⟩:=Option.isSome_iff_exists.1 (asC p.1 p.2 hp);have hl':keyOf Tryz.prog 168 (aoy p)=some l:=hl;show _=some ((keyOf Tryz.prog 168 (aoy p)).getD (.bool false));rw[hl'];rfl
theorem key_inj (hk:∀p:Nat×Bool,p.1< 8 ->keyOf Tryz.prog 168 (aoy p)=some (kl p)) {p q:Nat×Bool} (hp:p.1<8) (hq:q.1<8) (h:kl p=kl q):p=q:=by
 have h1:=hk p hp;have h2:=hk q hq;rw[h] at h1;have e:=api.inj h1 h2;obtain⟨p1,p2⟩:=p;obtain⟨q1,q2⟩:=q;simp only[aoy,Value.agg.injEq,Array.mk.injEq,List.cons.injEq,Value.int.injEq,Value.bool.injEq,true_and,and_true] at e;obtain⟨e1,e2⟩:=e;have:p1=q1:=by omega
 rw[this,e2]
structure jN (kl:Nat×Bool ->Lit) (W:World) (b:Nat) (S:List (Nat×Bool)) (D:DataW Unit):Prop where
 own:W.ownsMap Tryz.prog 168 (unitElem (H:=Unit)) b S.length D
 has:∀p:Nat×Bool,p.1< 8 ->Maps.has D (kl p)=decide (p∈S)
theorem jN.new (kl:Nat×Bool ->Lit) (w:World):jN kl (w.alloc (.map #[] 0)) w.heap.size [] (.map []):=⟨World.ownsMap_made w _ _ _,fun _ _=>rfl⟩
theorem jN.put (hk:∀p:Nat×Bool,p.1< 8 ->keyOf Tryz.prog 168 (aoy p)=some (kl p)) {W:World} {b:Nat} {S:List (Nat×Bool)} {D:DataW Unit} (h:jN kl W b S D) {p:Nat×Bool} (hp:p.1<8) {d:DataW Unit} (h':W'.ownsMap Tryz.prog 168 (unitElem (H:=Unit)) b (S.length+1) (D.put (kl p) d)):jN kl W' b (p::S) (D.put (kl p) d):=by
 refine⟨h',fun q hq=>?_⟩;by_cases e:kl q=kl p
 ·have e':=key_inj hk hq hp e;rw[e',Maps.has_put_same h.own.isMap (api.key (hk p hp)),cJ dJ]
 ·rw[Maps.has_put_other e,h.has q hq];refine zP.2 ⟨eE _,fun hm=>?_⟩;rcases dK.1 hm with e' |hm
  ·exact absurd (by rw[e']) e
  ·exact hm
theorem jN.kept {W:World} {b:Nat} {S:List (Nat×Bool)} {D:DataW Unit} (h:jN kl W b S D) {row:Option Nat} (hg:W.grownBy W' row) (hne:some b≠row):jN kl W' b S D:=⟨h.own.kept hg hne,h.has⟩
variable {P:List (List Nat)} {an:List Nat}
def aoD (P:List (List Nat)) (n:Nat) (z an:List Nat) (p:Nat×Bool):List (Nat×Bool):=
 (if (p.2&&!decide (p.1∈z) ||!p.2&&decide (p.1∈an))=true then(fM (P.getD p.1 []) 8).map fun u=>(u,true) else[])++(if p.1∈z then[] else(fM (nL P p.1 n) 8).map fun u=>(u,false))
structure B5 (P:List (List Nat)) (n:Nat) (x y z an:List Nat) (S W:List (Nat×Bool)):Prop where
 low:∀p,p∈S∨p∈W ->p.1<n/\ed (fun u v=>u∈P.getD v []) (·∈x) (·∈z) (·∈an) p.1 p.2
 nd:S.Nodup
 noy:∀p∈S,¬p.1∈y
 suc:∀p∈S,∀q∈aoD P n z an p,q∈S∨q∈W
 start:∀v∈x,(v,true)∈S∨(v,true)∈W
 len:W.length<=8+16*S.length
theorem B5.new {x y z:List Nat} (hx:∀v∈x,v<n) (h8:n<=8):B5 P n x y z an [] ((fM x 8).map fun u=>(u,true)):=by
 refine⟨fun p hp=>?_,List.nodup_nil,(fun p hp=>by cases hp),(fun p hp=>by cases hp),fun v hv=>.inr (aaQ.2 ⟨v,He.2 ⟨by have:=hx v hv;omega,hv⟩,rfl⟩),?_⟩
 ·rcases hp with hp |hp
  ·cases hp
  ·obtain⟨v,hv,rfl⟩:=aaQ.1 hp;exact⟨hx v (He.1 hv).2,.start (He.1 hv).2⟩
 ·have:=SI x 8;rw[c5,lg];omega
theorem B5.skip {x y z:List Nat} {S T:List (Nat×Bool)} {p:Nat×Bool} (h:B5 P n x y z an S (T++[p])) (hp:p∈S):B5 P n x y z an S T:=by
 have sub:∀q,q∈S∨q∈T++[p] ->q∈S∨q∈T:=fun q hq=>by
  rcases hq with hq |hq
  ·exact .inl hq
  ·rcases aa5.1 hq with hq |hq
   ·exact .inr hq
   ·rw[fX.1 hq];exact .inl hp
 refine⟨fun q hq=>h.low q (hq.imp id fun hq=>QM _ hq),h.nd,h.noy,fun q hq r hr=>sub r (h.suc q hq r hr),fun v hv=>sub _ (h.start v hv),?_⟩;have:=h.len;rw[dM,MO] at this;omega
theorem B5.add {x y z:List Nat} (hP:∀v,∀u∈P.getD v [],u<n/\v<n) {S T:List (Nat×Bool)} {p:Nat×Bool} (h:B5 P n x y z an S (T++[p])) (hp:¬p∈S) (hy:¬p.1∈y):B5 P n x y z an (p::S) (T++aoD P n z an p):=by
 obtain⟨hpl,zj⟩:=h.low p (.inr (aoH _ dJ))
 have sub:∀q,q∈S∨q∈T++[p] ->q∈p::S∨q∈T++aoD P n z an p:=fun q hq=>by
  rcases hq with hq |hq
  ·exact .inl (eE _ hq)
  ·rcases aa5.1 hq with hq |hq
   ·exact .inr (QM _ hq)
   ·rw[fX.1 hq];exact .inl dJ
 have asM:∀q∈aoD P n z an p,q.1<n/\ed (fun u v=>u∈P.getD v []) (·∈x) (·∈z) (·∈an) q.1 q.2:=fun q hq=>by
  rcases aa5.1 hq with hq |hq
  ·by_cases hc:(p.2&&!decide (p.1∈z) ||!p.2&&decide (p.1∈an))=true
   ·rw[aaf hc] at hq;obtain⟨u,hu,rfl⟩:=aaQ.1 hq;have J9:=(He.1 hu).2;refine⟨(hP _ _ J9).1,?_⟩;obtain⟨v,c⟩:=p;cases c with
    |true=>
     (have hz:¬v∈z:=fun hz=>by simp[hz] at hc);exact .up zj hz J9
    |false=>
     (have ha:v∈an:=by simpa using hc);exact .meet zj ha J9
   ·rw[aaO hc] at hq;cases hq
  ·by_cases hz:p.1∈z
   ·rw[aaf hz] at hq;cases hq
   ·rw[aaO hz] at hq;obtain⟨u,hu,rfl⟩:=aaQ.1 hq;obtain⟨h1,h2⟩:=Lh.1 (He.1 hu).2;exact⟨h1,.down zj hz h2⟩
 refine⟨fun q hq=>?_,pP.2 ⟨hp,h.nd⟩,fun q hq=>?_,fun q hq r hr=>?_,fun v hv=>sub _ (h.start v hv),?_⟩
 ·rcases hq with hq |hq
  ·rcases dK.1 hq with rfl |hq
   ·exact⟨hpl,zj⟩
   ·exact h.low q (.inl hq)
  ·rcases aa5.1 hq with hq |hq
   ·exact h.low q (.inr (QM _ hq))
   ·exact asM q hq
 ·rcases dK.1 hq with rfl |hq
  ·exact hy
  ·exact h.noy q hq
 ·rcases dK.1 hq with rfl |hq
  ·exact .inr (aoH _ hr)
  ·exact sub r (h.suc q hq r hr)
 ·have h1:=h.len
  have h2:(aoD P n z an p).length<=16:=by
   have a1:=SI (P.getD p.1 []) 8;have a2:=SI (nL P p.1 n) 8;rw[aoD,dM];split<;>split<;>simp only[c5,lg]<;>omega
  rw[dM,MO] at h1;rw[dM,eU];omega
theorem B5.fin {x y z:List Nat} (hP:∀v,∀u∈P.getD v [],u<n/\v<n) (h8:n<=8) {S:List (Nat×Bool)} (h:B5 P n x y z an S []):¬∃v c,v∈y/\ed (fun u v=>u∈P.getD v []) (·∈x) (·∈z) (·∈an) v c:=by
 have key:∀v c,ed (fun u v=>u∈P.getD v []) (·∈x) (·∈z) (·∈an) v c ->(v,c)∈S:=fun v c hr=>by
  have sub:∀p q,p∈S ->q∈aoD P n z an p ->q∈S:=fun p q hp hq=>(h.suc p hp q hq).elim id fun h=>by cases h
  induction hr using ed.ind with
  |start hx=>exact(h.start _ hx).elim id fun h=>by cases h
  | @up v p _ hz hp ih=>exact sub _ _ ih (QM _ (by
    rw[aaf (by simp[hz])];exact aaQ.2 ⟨p,He.2 ⟨by have:=(hP _ _ hp).1;omega,hp⟩,rfl⟩))
  | @down v w c _ hz hp ih=>exact sub _ _ ih (aoH _ (by
    rw[aaO hz];exact aaQ.2 ⟨w,He.2 ⟨by have:=(hP _ _ hp).2;omega,Lh.2 ⟨(hP _ _ hp).2,hp⟩⟩,rfl⟩))
  | @meet v p _ ha hp ih=>exact sub _ _ ih (QM _ (by
    rw[aaf (by simp[ha])];exact aaQ.2 ⟨p,He.2 ⟨by have:=(hP _ _ hp).1;omega,hp⟩,rfl⟩))
 rintro⟨v,c,hy,hr⟩;exact h.noy _ (key v c hr) hy
theorem B5.few {x y z:List Nat} {S W:List (Nat×Bool)} (h:B5 P n x y z an S W) (h8:n<=8):S.length<=16:=by
 have iZ:(S.map fun p=>p.1*2+(if p.2=true then 1 else 0)).Nodup:=Gp.2 (h.nd.imp fun {a b} hab e=>hab (by
  obtain⟨a1,a2⟩:=a;obtain⟨b1,b2⟩:=b;cases a2<;>cases b2<;>simp at e⊢<;>omega))
 have:=NW iZ (m:=List.range 16) fun v hv=>by
  obtain⟨p,hp,rfl⟩:=aaQ.1 hv;have:=(h.low p (.inl hp)).1;refine bG.2 ?_;split<;>omega
 simpa using this
variable {s:List Nat} {Pa:Nat ->Nat ->Prop} {An X Z:Nat ->Prop}
theorem aph {l:List Nat}:aA l=0↔∀v,¬v∈l:=by
 constructor
 ·intro h v hv;have:=rD l v;rw[h,Nat.zero_testBit,cJ hv] at this;cases this
 ·intro h;have:aA l=aA []:=SB fun x=>⟨fun hx=>absurd hx (h x),fun hx=>by cases hx⟩;rw[this];rfl
theorem ao9 (h:Up l n):l.Nodup:=Cg.2 fun i j hi hj CP=>by
 have:=h.lt i j hj CP;omega
theorem aoC (h:Up l n) {x:Int} (hx:x∈l):0<=x/\x<n:=by
 obtain⟨j,hj,rfl⟩:=iE hx;exact h.each j hj
theorem apV (h:Up l n) {x:Int} (hx:0<=x):x.toNat∈ag l↔x∈l:=by
 constructor
 ·intro hm;obtain⟨y,hy,e⟩:=aaQ.1 hm;have:=aoC h hy;rwa [show x=y by omega]
 ·exact fun hm=>aaQ.2 ⟨x,hm,rfl⟩
theorem U9 (h:Up l n):∀u∈ag l,u<n:=fun u hu=>by
 obtain⟨y,hy,rfl⟩:=aaQ.1 hu;have:=aoC h hy;omega
theorem aqk {a b:List Int} (ha:Up a n) (hb:Up b n):(∀x∈a,∀y∈b,x≠y)↔aA ((ag a).filter fun x=>decide (x∈ag b))=0:=by
 rw[aph];constructor
 ·intro h v hv;obtain⟨h1,h2⟩:=abp.1 hv;obtain⟨x,hx,rfl⟩:=aaQ.1 h1;have h3:=(apV hb (aoC ha hx).1).1 (rS h2);exact h x hx x h3 rfl
 ·rintro h x hx y hy rfl;exact h x.toNat (abp.2 ⟨(apV ha (aoC ha hx).1).2 hx,cJ ((apV hb (aoC ha hx).1).2 hy)⟩)
theorem aqE (a b:List Int):ag (a++b)=ag a++ag b:=fY
theorem apL {x y z:List Int} (hr:ug [x,y,z] n=true):k7 n [x,y,z]=true↔aA ((ag x).filter fun v=>decide (v∈ag y))=0/\aA ((ag x++ag y).filter fun v=>decide (v∈ag z))=0:=by
 have hx:Up x n:=Al (eJ.1 hr x (by simp));have hy:Up y n:=Al (eJ.1 hr y (by simp));have hz:Up z n:=Al (eJ.1 hr z (by simp))
 have e:aA ((ag x++ag y).filter fun v=>decide (v∈ag z))=0↔aA ((ag x).filter fun v=>decide (v∈ag z))=0/\aA ((ag y).filter fun v=>decide (v∈ag z))=0:=by
  simp only[aph,Ch,aa5,not_or];exact⟨fun h=>⟨fun v=>(h v).1,fun v=>(h v).2⟩,fun h v=>⟨h.1 v,h.2 v⟩⟩
 rw[e, <- aqk hx hy, <- aqk hx hz, <- aqk hy hz,k7,hr,Jj,ei];simp only[List.flatten_cons,List.flatten_nil,Eg,Gq,aa5];constructor
 ·rintro⟨_,⟨_,_,h1⟩,h2⟩;exact⟨fun a ha b hb=>h2 a ha b (.inl hb),fun a ha b hb=>h2 a ha b (.inr hb),h1⟩
 ·rintro⟨h1,h2,h3⟩;exact⟨ao9 hx,⟨ao9 hy,ao9 hz,h3⟩,fun a ha b hb=>hb.elim (h1 a ha b) (h2 a ha b)⟩
theorem aql (h:bE L=0) (h8:L.length<=8) (hs:∀v∈s,v<L.length) (u:Nat):xY L u s=true↔u∈gV (aI L) s L.length:=by
 rw[ac4 h h8 hs,xY,rX];exact⟨fun ⟨b,hb,h1⟩=>⟨b,hb,(arK h (hs b hb)).1 h1⟩,fun ⟨b,hb,h1⟩=>⟨b,hb,(arK h (hs b hb)).2 h1⟩⟩
theorem aqI {Z' XA:Nat ->Prop} (hz:∀v,Z v↔Z' v) (ha:∀v,An v↔XA v) {c:Bool} (h:ed Pa X Z An v c):ed Pa X Z' XA v c:=by
 induction h using ed.ind with
 |start hx=>exact .start hx
 |up _ h1 h2 ih=>exact .up ih (fun e=>h1 ((hz _).2 e)) h2
 |down _ h1 h2 ih=>exact .down ih (fun e=>h1 ((hz _).2 e)) h2
 |meet _ h1 h2 ih=>exact .meet ih ((ha _).1 h1) h2
theorem aqV (h:bE L=0) (h8:L.length<=8) {x y z:List Int} (hap:k7 L.length [x,y,z]=true):B4 L x y z=true↔∃v c,v∈ag y/\ed (fun u v=>u∈(aI L).getD v []) (·∈ag x) (·∈ag z) (·∈gV (aI L) (ag z) L.length) v c:=by
 have hr:ug [x,y,z] L.length=true:=by
  rw[k7,ia] at hap;exact hap.1
 have hx:Up x L.length:=Al (eJ.1 hr x (by simp));have hz:Up z L.length:=Al (eJ.1 hr z (by simp));have hzl:=U9 hz;have hgb:=(OY h).1;have hm:=((apL hr).1 hap).2;rw[aph] at hm
 have aX:∀u v,u∈(aI L).getD v [] ->xY L v (ag z)=true ->xY L u (ag z)=true:=fun u v hu hv=>by
  rw[aql h h8 hzl,ac4 h h8 hzl] at hv⊢;obtain⟨b,hb,h1⟩:=hv;rcases h1 with rfl |h1
  ·exact⟨v,hb,.inr (.one hu)⟩
  ·refine⟨b,hb,.inr ?_⟩;clear hb;induction h1 using BZ.ind with
   |one hp=>exact .more (.one hu) hp
   |more _ hp ih=>exact .more ih hp
 have key:=aso (P:=aI L) (n:=L.length) (yb:=fun v=>decide (v∈ag y)) (zb:=fun v=>decide (v∈ag z)) (an:=fun v=>xY L v (ag z)) (X:=(·∈ag x))
  (fun v hv=>abg fun hz'=>hm v (abp.2 ⟨QM _ hv,cJ hz'⟩)) (atm h) aX (fun v u hu=>ZB hgb hu) (U9 hx)
 rw[B4,rX];refine Iff.trans key ⟨?_,?_⟩
 ·rintro⟨v,c,h1,h2⟩;exact⟨v,c,rS h1,aqI (fun v=>ei) (fun v=>aql h h8 hzl v) h2⟩
 ·rintro⟨v,c,h1,h2⟩;exact⟨v,c,cJ h1,aqI (fun v=>ei.symm) (fun v=>(aql h h8 hzl v).symm) h2⟩
variable {W3:World}
theorem aqw (w:World):(zeroValue 169).run Tryz.prog w=.ok (.agg #[]) w:=by
 obtain⟨i0,cU,hz0,hz1,hz2⟩:=eT (show (Tryz.prog.info? 169).map (fun i=>(i.zero,i.size,i.bytes))=some (some (.agg #[]),0,0) by kernel_rfl);simp[zeroValue,typeInfo,cU,hz0]
structure PC (kl:Nat×Bool ->Lit) (W3:World) (b:Nat) (S W:List (Nat×Bool)) (D:DataW Unit) (wv:Value) (V:World):Prop where
 map:jN kl V b S D
 row:NL V W3.heap.size wv W
 fr:W3.grownBy V (some b)
theorem PC.alloc {b:Nat} {S W:List (Nat×Bool)} {D:DataW Unit} (h:PC kl W3 b S W D wv V) (o:Obj):PC kl W3 b S W D wv (V.alloc o):=
 ⟨h.map.kept (World.grownBy_alloc V o none) (by simp),I7 h.row o,by
  have hA:=(au V.heap.size V).alloc (ar _) o;exact⟨hA.os.trans h.fr.os,hA.tape.trans h.fr.tape,hA.output.trans h.fr.output,aS h.fr.size hA.size,fun k hk hne=>(hA.block k (aR hk h.fr.size)).trans (h.fr.block k hk hne)⟩⟩
theorem PC.put (hk:∀p:Nat×Bool,p.1< 8 ->keyOf Tryz.prog 168 (aoy p)=some (kl p)) {b:Nat} {S W:List (Nat×Bool)} {D:DataW Unit} (h:PC kl W3 b S W D wv V) (hb:b<W3.heap.size) {p:Nat×Bool} (hp:p.1<8) {d:DataW Unit} (ho:V'.ownsMap Tryz.prog 168 (unitElem (H:=Unit)) b (S.length+1) (D.put (kl p) d)) (hg:V.grownBy V' (some b)):PC kl W3 b (p::S) W (D.put (kl p) d) wv V':=by
 refine⟨h.map.put hk hp ho,QC h.row hg ?_,⟨hg.os.trans h.fr.os,hg.tape.trans h.fr.tape,hg.output.trans h.fr.output,aS h.fr.size hg.size,fun k dH hne=>(hg.block k (aR dH h.fr.size) hne).trans (h.fr.block k dH hne)⟩⟩;cases e:wv.ownBlock with
 |none=>exact .inl rfl
 |some g=>
  refine .inr fun e'=>?_;cases e';have:=aqS h.row b e;omega
theorem PC.more {b:Nat} {S W W':List (Nat×Bool)} {D:DataW Unit} {v:Value} (h:PC kl W3 b S W D wv V) (hb:b<W3.heap.size) (hr:NL V' W3.heap.size v W') (hg:tu V V' wv v):PC kl W3 b S W' D v V':=by
 have hne:∀k,k<W3.heap.size ->some k≠wv.ownBlock:=fun k hk e=>by
  have:=aqS h.row k e.symm;omega
 exact⟨h.map.kept hg.1 (hne b hb),hr,⟨hg.1.os.trans h.fr.os,hg.1.tape.trans h.fr.tape,hg.1.output.trans h.fr.output,aS h.fr.size hg.1.size,fun k hk hn=>(hg.1.block k (aR hk h.fr.size) (hne k hk)).trans (h.fr.block k hk hn)⟩⟩
theorem NL.init {B:Nat} {d:Option Addr} {T:List (Nat×Bool)} {p:Nat×Bool} (h:NL w B (.slice d n c) (T++[p])):∃g,d=some ⟨g,0,none⟩/\n=T.length+1/\T.length<=c/\T.length+1<=c/\B<=g/\g<w.heap.size/\w.cell? ⟨g,T.length*2,none⟩=some (.int .i64 (p.1:Nat))/\w.cell? ⟨g,T.length*2+1,none⟩=some (.bool p.2)/\NL w B (.slice (some ⟨g,0,none⟩) T.length c) T:=by
 have hl:(T++[p]).length=T.length+1:=by simp
 have hcl:=aqi T;rcases h.2 with ⟨h1,h2⟩ |⟨g,cap,cur,h1,h2,h3,h4,h5,h6,h7⟩
 ·rw[hl] at h2;omega
 ·injection h1 with e1 e2 e3;subst e1;subst e3;rw[hl] at h4 h7 e2;rw[aqj] at h7
  have aro:∀j u,(D9 T++D9 [p])[j]? =some u ->w.cell? ⟨g,j,none⟩=some u:=fun j u hj=>by
   rw[cC w g j _ _ (0,0) h3]
   have:j<(T.length+1)*2:=by
    have:=(o0.1 hj).1;rw[dM,hcl] at this;simp[D9] at this;omega
   rw[<- h7,rV,aaf this,wm] at hj;exact hj
  refine⟨g,rfl,e2,by omega,h4,h2,(eL.1 h3).1,aro _ _ ?_,aro _ _ ?_,aqi T,.inr ⟨g,c,cur,rfl,h2,h3,by omega,h5,h6,?_⟩⟩
  ·rw[MR (by omega),hcl,qE];rfl
  ·rw[MR (by omega),hcl,show T.length*2+1 - T.length*2=1 by omega];rfl
  ·have:=bR (List.take (T.length*2)) h7;rw[List.take_take,show min (T.length*2) ((T.length+1)*2)=T.length*2 by omega] at this;rw[this, <- hcl,List.take_left]
variable {A:Nat}
theorem apI {row:Option Nat} {v c:Value} {t:TypeId} (h:V.heap[A]? =some (.cells #[v,c] t (0,0))) (hg:V.grownBy V' row) (hne:some A≠row):V'.heap[A]? =some (.cells #[v,c] t (0,0)):=(hg.block A (eL.1 h).1 hne).trans h
theorem apK {v c:Value} {t:TypeId} (h:V.heap[A]? =some (.cells #[v,c] t (0,0))):V.cell? ⟨A,0,none⟩=some v/\V.cell? ⟨A,1,none⟩=some c:=
 ⟨by rw[cC V A 0 _ _ (0,0) h];rfl,by rw[cC V A 1 _ _ (0,0) h];rfl⟩
theorem NL.shape {B:Nat} {v:Value} {l:List (Nat×Bool)} (h:NL w B v l):∃d c,v=.slice d l.length c:=by
 rcases h.2 with ⟨h1,h2⟩ |⟨g,cap,cur,h1,_⟩
 ·exact⟨none,0,by rw[h1,h2]⟩
 ·exact⟨_,cap,h1⟩
theorem asF (G n cG:Nat) (P:List (List Nat)) (x y z:List Nat) (w:World) (hn:P.length=n) (h8:n<=8) (hU:cI w G (P.map aA)) (hP:∀v,∀u∈P.getD v [],u<n/\v<n) (Ib:∀p∈P,∀u∈p,u<n) (hx:∀u∈x,u<n) (hy:∀u∈y,u<n) (hz:∀u∈z,u<n):
  Calls Tryz.prog 74 #[.slice (some ⟨G,0,none⟩) n cG,.int .u32 (aA x:Nat),.int .u32 (aA y:Nat),.int .u32 (aA z:Nat)] w fun e w'=>∃q,e=.returned (.bool q)/\(q=true↔∃v c,v∈y/\ed (fun u v=>u∈P.getD v []) (·∈x) (·∈z) (·∈gV P z n) v c)/\Below w.heap.size w w':=by
 obtain⟨kl,dX⟩:=asD;have V6:=hid dX;have Mw:=hid (alS G n cG P w hn h8 hU Ib);have BW:=hid (fun (U:World) (hb:Below w.heap.size w U)=>amU G n cG P z U hn h8 (hU.aa hb hU.lt) Ib hz);have s8:∀ {s:List Nat},(∀u∈s,u<n) ->∀u∈s,u<8:=fun h u hu=>by have:=h u hu;omega
 have hab:∀u∈gV P z n,u<n:=Lp (fun v u hu=>(hP v u hu).1) hz n;have Tg:=hid (fun (v:Nat) (U:World) (hv:v<8)=>Ry y v U (s8 hy) hv);have rP:=hid (fun (v:Nat) (U:World) (hv:v<8)=>Ry z v U (s8 hz) hv);have En:=hid (fun (v:Nat) (U:World) (hv:v<8)=>Ry (gV P z n) v U (s8 hab) hv);have WX:=hid (fun (B:Nat) (U:World) (hB:B<=U.heap.size)=>aqg B (.slice none 0 0) [] x true U (s8 hx) ⟨rfl,.inl ⟨rfl,rfl⟩⟩ (by simp) hB);have Xb:Hid (∀(v:Nat),v< n ->∀(B:Nat) (lv:Value) (l:List (Nat×Bool)) (U:World),NL U B lv l ->l.length<=1000 ->B<=U.heap.size ->Calls Tryz.prog 128 #[lv,.int .u32 (aA (P.getD v []):Nat),.bool true] U fun e w'=>∃v',e=.returned v'/\NL w' B v' (l++(fM (P.getD v []) 8).map fun u=>(u,true))/\tu U w' lv v'):=fun v _ B lv l U h1 h2 h3=>aqg B lv l (P.getD v []) true U (s8 fun u hu=>(hP v u hu).1) h1 h2 h3;have Xh:Hid (∀(v:Nat),v< n ->∀(B:Nat) (lv:Value) (l:List (Nat×Bool)) (U:World),NL U B lv l ->l.length<=1000 ->B<=U.heap.size ->Calls Tryz.prog 128 #[lv,.int .u32 (aA (nL P v n):Nat),.bool false] U fun e w'=>∃v',e=.returned v'/\NL w' B v' (l++(fM (nL P v n) 8).map fun u=>(u,false))/\tu U w' lv v'):=fun v _ B lv l U h1 h2 h3=>aqg B lv l (nL P v n) false U (s8 fun u hu=>(Lh.1 hu).1) h1 h2 h3
 have Us:Hid (∀(U:World),Below w.heap.size w U ->∀v,v< n ->U.cell? ⟨G,v,none⟩=some (.int .u32 (aA (P.getD v []):Nat))):=fun U hb v hv=>by
  have:=(hU.aa hb hU.lt).cell v (by rw[c5,hn];exact hv);rw[this,Ey (by rw[hn];exact hv)]
 have WT:Hid (∀(U:World) (g:Nat),cI U g ((lK P n n).map aA) ->∀v,v< n ->U.cell? ⟨g,v,none⟩=some (.int .u32 (aA (nL P v n):Nat))):=fun U g h v hv=>by
  have:=h.cell v (by rw[c5,acF];exact hv);rw[this];simp[lK]
 have anw:=hid (B5.new (P:=P) (n:=n) (y:=y) (z:=z) (an:=gV P z n) hx h8);have DU:=hid (fun (S T:List (Nat×Bool)) (p:Nat×Bool) (h:B5 P n x y z (gV P z n) S (T++[p])) (h1:¬p∈S) (h2:¬p.1∈y)=>h.add hP h1 h2);have tj:=hid (fun (S:List (Nat×Bool)) (h:B5 P n x y z (gV P z n) S [])=>h.fin hP h8);have ao5:=hid (fun (S T:List (Nat×Bool)) (h:B5 P n x y z (gV P z n) S T)=>h.few h8);have ank:Hid (∀p:Nat×Bool,aoD P n z (gV P z n) p=(if (p.2&&!decide (p.1∈z) ||!p.2&&decide (p.1∈gV P z n))=true then(fM (P.getD p.1 []) 8).map fun u=>(u,true) else[])++(if p.1∈z then[] else(fM (nL P p.1 n) 8).map fun u=>(u,false))):=fun p=>rfl;clear hU hP Ib hx hy hz hab s8 dX hn;generalize aA (gV P z n)=ma at *;have hmm:= @run_makeMap Tryz.prog;go_enter Tryz.func74,Tryz.ntmps74;go_wp2_with fail
 go_step3
 go_wp2_with fail
 refine Mw.o.ae ?_;rintro e w1 ⟨rfl,hr1,hb1⟩;have arX:=hid (BW.o w1 hb1);have eR:=hid hb1;have ur:=hid hr1;clear hb1 hr1 Mw BW;go_wp2_with fail
 refine arX.o.ae ?_;rintro e w2 ⟨rfl,hb2⟩;have bc:=hid (eR.o.trans (hb2.ae eR.o.size));have iT:=hid (ur.o.aa hb2 ur.o.lt);clear hb2 arX eR ur;have hA:=(au w2.heap.size w2).alloc (ar _) (.map #[] 0);have hs3:(w2.alloc (.map #[] 0)).heap.size=w2.heap.size+1:=by simp
 have dU:=hid (bc.o.trans (hA.ae bc.o.size));have jH:=hid (iT.o.aa hA iT.o.lt);have Md:=hid (jN.new kl w2);have arV:=hid (WX.o (w2.heap.size+1) (w2.alloc (.map #[] 0)) (by rw[hs3];exact ar _));have hw2:w.heap.size<=w2.heap.size:=bc.o.size;clear hA WX bc;go_wp2_with fail
 refine arV.o.ae ?_;rintro e w4 ⟨YM,rfl,Hr,hg4⟩;rw[iD] at Hr
 have vS:Hid (PC kl (w2.alloc (.map #[] 0)) w2.heap.size [] ((fM x 8).map fun u=>(u,true)) (.map []) YM w4):=
  (PC.mk (W:=[]) (wv:=.slice none 0 0) Md.o ⟨rfl,.inl ⟨rfl,rfl⟩⟩ (World.grownBy.refl _ _)).more (by rw[hs3];omega) (by rw[hs3];exact Hr) hg4
 clear Hr hg4 arV Md;go_wp2_with fail
 go_step3
 go_wp2_with fail
 go_loopg [12] 2000 (fun k wv wr=>∃(S W:List (Nat×Bool)) (D:DataW Unit) (d:Option Addr) (c:Nat),wv=.slice d W.length c/\Hid (B5 P n x y z (gV P z n) S W)/\Hid (PC kl (w2.alloc (.map #[] 0)) w2.heap.size S W D (.slice d W.length c) wr)/\(16 - S.length)*100+W.length<=k)
 case atStart=>
  obtain⟨d0,c0,rfl⟩:=vS.o.row.shape;refine⟨[],_,_,d0,c0,rfl,anw,vS,?_⟩;have:=SI x 8;simp;omega
 case round=>
  obtain⟨S,W,D,d,c,rfl,HS,tk,H8⟩:=hrel;clear vS anw
  have atC:w2.heap.size+1<=wr.heap.size:=by
   have:=tk.o.fr.size;rw[hs3] at this;exact this
  have iV:Hid (Below w.heap.size w wr):=dU.o.grown tk.o.fr (by rw[hs3];omega) (fun k e=>by cases e;exact hw2);have hSl:=ao5.o S W HS.o;have CR:=HS.o.len;rcases List.eq_nil_or_concat W with rfl |⟨T,p,rfl⟩
  ·go_wp2;rw[Exit.noGoto_ret];go_ret;exact⟨false,rfl,⟨(fun e=>by cases e),fun e=>absurd e (tj.o S HS.o)⟩,iV.o⟩
  ·rw[List.concat_eq_append] at HS tk H8 CR⊢;obtain⟨g,rfl,hn',hTc,atN,hBg,nE,kc1,kc2,hT⟩:=tk.o.row.init;obtain⟨pv,pc⟩:=p;have HT:=hid hT;clear hT hn';(have hlen:(T++[(pv,pc)]).length=T.length+1:=by simp);rw[hlen] at tk H8 CR⊢;(have Ia:T.length<=300:=by omega);clear hlen CR;have hpl:=HS.o.low (pv,pc) (.inr (aoH _ dJ));have tx:pv<n:=hpl.1;have Ve:=hid hpl.2;have hkey:keyOf Tryz.prog 168 (.agg #[.int .i64 (pv:Nat),.bool pc])=some (kl (pv,pc)):=V6.o (pv,pc) (by show pv<8;omega);have VO:Hid (PC kl (w2.alloc (.map #[] 0)) w2.heap.size S T D (.slice (some ⟨g,0,none⟩) T.length c) wr):=⟨tk.o.map,HT.o,tk.o.fr⟩;have DI:=hid (VO.o.alloc (.cells #[.int .i64 (pv:Nat),.bool pc] 168));have Kt:=hid (DI.o.alloc (.cells #[] 169));have arq:=kd wr (.cells #[.int .i64 (pv:Nat),.bool pc] 168);(have AU:(wr.alloc (.cells #[.int .i64 (pv:Nat),.bool pc] 168)).heap.size=wr.heap.size+1:=by simp)
   have bW:((wr.alloc (.cells #[.int .i64 (pv:Nat),.bool pc] 168)).alloc (.cells #[] 169)).heap[wr.heap.size]? =some (.cells #[.int .i64 (pv:Nat),.bool pc] 168 (0,0)):=by
    rw[rY _ _ _ (by rw[AU];omega)];exact arq
   have uE:=hid bW;clear hpl arq bW AU tk HT VO;by_cases hin:(pv,pc)∈S
   ·have hhas:Maps.has D (kl (pv,pc))=true:=by rw[DI.o.map.has (pv,pc) (by show pv<8;omega),cJ hin]
    have LM:=hid (HS.o.skip hin);clear hin
    go_wp2_with (first
     |(at_lookup;refine wpList_lookup_own_unit _ rfl _ _ 164 rfl 168 169 api Tryz.underlying164 (aqw _) w2.heap.size S.length D rfl DI.o.map.own _ _ rfl hkey ?_))
    go_roundg ((16 - S.length)*100+T.length)
    case measure=>omega
    case rel=>exact⟨S,T,D,_,c,rfl,LM,Kt,ar _⟩
   ·have hhas:Maps.has D (kl (pv,pc))=false:=by rw[DI.o.map.has (pv,pc) (by show pv<8;omega),abg hin]
    have IM:=hid hin;clear hin
    go_wp2_with (first
     |(at_lookup;refine wpList_lookup_own_unit _ rfl _ _ 164 rfl 168 169 api Tryz.underlying164 (aqw _) w2.heap.size S.length D rfl DI.o.map.own _ _ rfl hkey ?_)
     |(at_mapUpdate;refine wpList_mapUpdate_own _ rfl _ _ _ 164 rfl 168 169 api Tryz.underlying164 (unitElem (H:=Unit)) w2.heap.size S.length D rfl Kt.o.map.own (by unfold maxLen;omega) _ _ _ rfl rfl hkey _ [] unitElem_mk ?_;intro w5 Oo OA;have xV:=hid (Kt.o.put V6.o (by rw[hs3];omega) (p:=(pv,pc)) (by show pv<8;omega) Oo OA);have apq:=hid (apI uE.o OA (by intro e;injection e with e;omega));obtain⟨Fx,Fw⟩:=apK apq.o;clear Oo OA))
    have hs5:wr.heap.size+1<=w5.heap.size:=by
     have:=(eL.1 apq.o).1;omega
    have eD:Hid (Below w.heap.size w w5):=dU.o.grown xV.o.fr (by rw[hs3];omega) (fun k e=>by cases e;exact hw2);refine(Tg.o pv w5 (by omega)).ae ?_;rintro e wq ⟨rfl,S6⟩;rw[S6];clear S6 wq;by_cases hy:pv∈y
    ·rw[cJ hy];have HYY:=hid hy;clear hy;go_wp2;rw[Exit.noGoto_ret];go_ret;exact⟨true,rfl,⟨fun _=>⟨pv,pc,HYY.o,Ve.o⟩,fun _=>rfl⟩,eD.o⟩
    ·rw[abg hy];have yf:=hid hy;have uD:=hid (Us.o w5 eD.o pv tx);have Ky:Hid (∀U:World,(w2.alloc (.map #[] 0)).grownBy U (some w2.heap.size) ->U.cell? ⟨w.heap.size,pv,none⟩=some (.int .u32 (aA (nL P pv n):Nat))):=fun U hU=>WT.o U w.heap.size ((hU.block w.heap.size jH.o.lt (by intro e;injection e with e;have:=iT.o.lt;omega)).trans jH.o) pv tx;have aqs:=hid (Xb.o pv tx);have aqt:=hid (Xh.o pv tx);clear hy Tg Us WT Xb Xh;generalize aA (P.getD pv [])=mu at *;generalize aA (nL P pv n)=md at *;cases pc with
     |true=>
      by_cases hz:pv∈z
      ·go_wp2_with fail
       refine(rP.o pv w5 (by omega)).ae ?_;rintro e wq ⟨rfl,S6⟩;rw[S6,cJ hz];clear S6 wq;go_wp2_with fail
       refine(rP.o pv w5 (by omega)).ae ?_;rintro e wq ⟨rfl,S6⟩;rw[S6,cJ hz];clear S6 wq;go_wp2;have FU:=hid (DU.o S T (pv,true) HS.o IM.o yf.o);rw[ank.o] at FU;have hfw:=ao5.o _ _ FU.o;(have e1:(if ((pv,true).2&&!decide ((pv,true).1∈z) ||!(pv,true).2&&decide ((pv,true).1∈gV P z n))=true then(fM (P.getD (pv,true).1 []) 8).map (fun u=>(u,true)) else[])=([]:List (Nat×Bool)):=by simp[hz]);(have e2:(if (pv,true).1∈z then[] else(fM (nL P (pv,true).1 n) 8).map (fun u=>(u,false)))=([]:List (Nat×Bool)):=by simp[hz]);rw[e1,e2] at FU;rw[Eg] at FU;rw[Eg] at FU;have hm1:=SI (P.getD pv []) 8;have bq:=SI (nL P pv n) 8;skip
       skip
       have jW:T.length<=T.length+16:=by
        skip
        skip
        (try simp only[dM,c5])
        omega
       rw[eU] at hfw;go_roundg ((16 - (S.length+1))*100+T.length)
       case measure=>omega
       case rel=>exact⟨_,_,_,_,_,rfl,FU,xV,ar _⟩
      ·go_wp2_with fail
       refine(rP.o pv w5 (by omega)).ae ?_;rintro e wq ⟨rfl,S6⟩;rw[S6,abg hz];clear S6 wq;have zw:=uD.o;go_wp2_with fail
       refine(aqs.o _ _ T w5 xV.o.row (by omega) (by rw[hs3];omega)).ae ?_;rintro e w7 ⟨v7,rfl,pA,BH⟩;have IK:=hid (xV.o.more (by rw[hs3];omega) pA BH);have WW:=hid (apI apq.o BH.1 (fun e=>by have e':wr.heap.size=g:=lV e;omega));have Iw:=hid (aS hs5 BH.1.size);have hs7:wr.heap.size+1<=w7.heap.size:=Iw.o
       have jk:Hid ((T++(fM (P.getD pv []) 8).map fun u=>(u,true)).length<=400):=by
        have:=SI (P.getD pv []) 8;show _<=_;rw[dM,c5];omega
       obtain⟨aq8,aq7⟩:=apK WW.o;clear Fx Fw pA BH zw;obtain⟨W7,eB⟩:∃W7,T++(fM (P.getD pv []) 8).map (fun u=>(u,true))=W7:=⟨_,rfl⟩;rw[eB] at IK jk;have si:=hid eB;have Hx:W7.length<=400:=jk.o;clear eB;obtain⟨d7,c7,rfl⟩:=IK.o.row.shape;go_wp2_with fail
       refine(rP.o pv w7 (by omega)).ae ?_;rintro e wq ⟨rfl,S6⟩;rw[S6,abg hz];clear S6 wq;have zI:=Ky.o w7 IK.o.fr;go_wp2_with fail
       refine(aqt.o _ _ W7 w7 IK.o.row (by have:=jk.o;omega) (by rw[hs3];omega)).ae ?_;rintro e w8 ⟨v8,rfl,oW,qi⟩;have xU:=hid (IK.o.more (by rw[hs3];omega) oW qi);clear oW qi zI;obtain⟨W8,T8⟩:∃W8,W7++(fM (nL P pv n) 8).map (fun u=>(u,false))=W8:=⟨_,rfl⟩;rw[T8] at xU;have r5:=hid T8;clear T8;obtain⟨d8,c8,rfl⟩:=xU.o.row.shape;go_wp2;have FU:=hid (DU.o S T (pv,true) HS.o IM.o yf.o);rw[ank.o] at FU;have hfw:=ao5.o _ _ FU.o;(have e1:(if ((pv,true).2&&!decide ((pv,true).1∈z) ||!(pv,true).2&&decide ((pv,true).1∈gV P z n))=true then(fM (P.getD (pv,true).1 []) 8).map (fun u=>(u,true)) else[])=(fM (P.getD pv []) 8).map (fun u=>(u,true)):=by simp[hz]);(have e2:(if (pv,true).1∈z then[] else(fM (nL P (pv,true).1 n) 8).map (fun u=>(u,false)))=(fM (nL P pv n) 8).map (fun u=>(u,false)):=by simp[hz]);rw[e1,e2] at FU;rw[<- rW] at FU;have hm1:=SI (P.getD pv []) 8;have bq:=SI (nL P pv n) 8;rw[si.o] at FU;rw[r5.o] at FU
       have jW:W8.length<=T.length+16:=by
        rw[<- r5.o];rw[<- si.o];(try simp only[dM,c5])
        omega
       rw[eU] at hfw;go_roundg ((16 - (S.length+1))*100+W8.length)
       case measure=>omega
       case rel=>exact⟨_,_,_,_,_,rfl,FU,xU,ar _⟩
     |false=>
      by_cases ha:pv∈gV P z n
      ·by_cases hz:pv∈z
       ·go_wp2_with fail
        refine(En.o pv w5 (by omega)).ae ?_;rintro e wq ⟨rfl,S6⟩;rw[S6,cJ ha];clear S6 wq;have zw:=uD.o;go_wp2_with fail
        refine(aqs.o _ _ T w5 xV.o.row (by omega) (by rw[hs3];omega)).ae ?_;rintro e w7 ⟨v7,rfl,pA,BH⟩;have IK:=hid (xV.o.more (by rw[hs3];omega) pA BH);have WW:=hid (apI apq.o BH.1 (fun e=>by have e':wr.heap.size=g:=lV e;omega));have Iw:=hid (aS hs5 BH.1.size);have hs7:wr.heap.size+1<=w7.heap.size:=Iw.o
        have jk:Hid ((T++(fM (P.getD pv []) 8).map fun u=>(u,true)).length<=400):=by
         have:=SI (P.getD pv []) 8;show _<=_;rw[dM,c5];omega
        obtain⟨aq8,aq7⟩:=apK WW.o;clear Fx Fw pA BH zw;obtain⟨W7,eB⟩:∃W7,T++(fM (P.getD pv []) 8).map (fun u=>(u,true))=W7:=⟨_,rfl⟩;rw[eB] at IK jk;have si:=hid eB;have Hx:W7.length<=400:=jk.o;clear eB;obtain⟨d7,c7,rfl⟩:=IK.o.row.shape;go_wp2_with fail
        refine(rP.o pv w7 (by omega)).ae ?_;rintro e wq ⟨rfl,S6⟩;rw[S6,cJ hz];clear S6 wq;go_wp2;have FU:=hid (DU.o S T (pv,false) HS.o IM.o yf.o);rw[ank.o] at FU;have hfw:=ao5.o _ _ FU.o;(have e1:(if ((pv,false).2&&!decide ((pv,false).1∈z) ||!(pv,false).2&&decide ((pv,false).1∈gV P z n))=true then(fM (P.getD (pv,false).1 []) 8).map (fun u=>(u,true)) else[])=(fM (P.getD pv []) 8).map (fun u=>(u,true)):=by simp[ha]);(have e2:(if (pv,false).1∈z then[] else(fM (nL P (pv,false).1 n) 8).map (fun u=>(u,false)))=([]:List (Nat×Bool)):=by simp[hz]);rw[e1,e2] at FU;rw[Eg] at FU;have hm1:=SI (P.getD pv []) 8;have bq:=SI (nL P pv n) 8;rw[si.o] at FU;skip
        have jW:W7.length<=T.length+16:=by
         skip
         rw[<- si.o];(try simp only[dM,c5])
         omega
        rw[eU] at hfw;go_roundg ((16 - (S.length+1))*100+W7.length)
        case measure=>omega
        case rel=>exact⟨_,_,_,_,_,rfl,FU,IK,ar _⟩
       ·go_wp2_with fail
        refine(En.o pv w5 (by omega)).ae ?_;rintro e wq ⟨rfl,S6⟩;rw[S6,cJ ha];clear S6 wq;have zw:=uD.o;go_wp2_with fail
        refine(aqs.o _ _ T w5 xV.o.row (by omega) (by rw[hs3];omega)).ae ?_;rintro e w7 ⟨v7,rfl,pA,BH⟩;have IK:=hid (xV.o.more (by rw[hs3];omega) pA BH);have WW:=hid (apI apq.o BH.1 (fun e=>by have e':wr.heap.size=g:=lV e;omega));have Iw:=hid (aS hs5 BH.1.size);have hs7:wr.heap.size+1<=w7.heap.size:=Iw.o
        have jk:Hid ((T++(fM (P.getD pv []) 8).map fun u=>(u,true)).length<=400):=by
         have:=SI (P.getD pv []) 8;show _<=_;rw[dM,c5];omega
        obtain⟨aq8,aq7⟩:=apK WW.o;clear Fx Fw pA BH zw;obtain⟨W7,eB⟩:∃W7,T++(fM (P.getD pv []) 8).map (fun u=>(u,true))=W7:=⟨_,rfl⟩;rw[eB] at IK jk;have si:=hid eB;have Hx:W7.length<=400:=jk.o;clear eB;obtain⟨d7,c7,rfl⟩:=IK.o.row.shape;go_wp2_with fail
        refine(rP.o pv w7 (by omega)).ae ?_;rintro e wq ⟨rfl,S6⟩;rw[S6,abg hz];clear S6 wq;have zI:=Ky.o w7 IK.o.fr;go_wp2_with fail
        refine(aqt.o _ _ W7 w7 IK.o.row (by have:=jk.o;omega) (by rw[hs3];omega)).ae ?_;rintro e w8 ⟨v8,rfl,oW,qi⟩;have xU:=hid (IK.o.more (by rw[hs3];omega) oW qi);clear oW qi zI;obtain⟨W8,T8⟩:∃W8,W7++(fM (nL P pv n) 8).map (fun u=>(u,false))=W8:=⟨_,rfl⟩;rw[T8] at xU;have r5:=hid T8;clear T8;obtain⟨d8,c8,rfl⟩:=xU.o.row.shape;go_wp2;have FU:=hid (DU.o S T (pv,false) HS.o IM.o yf.o);rw[ank.o] at FU;have hfw:=ao5.o _ _ FU.o;(have e1:(if ((pv,false).2&&!decide ((pv,false).1∈z) ||!(pv,false).2&&decide ((pv,false).1∈gV P z n))=true then(fM (P.getD (pv,false).1 []) 8).map (fun u=>(u,true)) else[])=(fM (P.getD pv []) 8).map (fun u=>(u,true)):=by simp[ha]);(have e2:(if (pv,false).1∈z then[] else(fM (nL P (pv,false).1 n) 8).map (fun u=>(u,false)))=(fM (nL P pv n) 8).map (fun u=>(u,false)):=by simp[hz]);rw[e1,e2] at FU;rw[<- rW] at FU;have hm1:=SI (P.getD pv []) 8;have bq:=SI (nL P pv n) 8;rw[si.o] at FU;rw[r5.o] at FU
        have jW:W8.length<=T.length+16:=by
         rw[<- r5.o];rw[<- si.o];(try simp only[dM,c5])
         omega
        rw[eU] at hfw;go_roundg ((16 - (S.length+1))*100+W8.length)
        case measure=>omega
        case rel=>exact⟨_,_,_,_,_,rfl,FU,xU,ar _⟩
      ·by_cases hz:pv∈z
       ·go_wp2_with fail
        refine(En.o pv w5 (by omega)).ae ?_;rintro e wq ⟨rfl,S6⟩;rw[S6,abg ha];clear S6 wq;go_wp2_with fail
        refine(rP.o pv w5 (by omega)).ae ?_;rintro e wq ⟨rfl,S6⟩;rw[S6,cJ hz];clear S6 wq;go_wp2;have FU:=hid (DU.o S T (pv,false) HS.o IM.o yf.o);rw[ank.o] at FU;have hfw:=ao5.o _ _ FU.o;(have e1:(if ((pv,false).2&&!decide ((pv,false).1∈z) ||!(pv,false).2&&decide ((pv,false).1∈gV P z n))=true then(fM (P.getD (pv,false).1 []) 8).map (fun u=>(u,true)) else[])=([]:List (Nat×Bool)):=by simp[ha]);(have e2:(if (pv,false).1∈z then[] else(fM (nL P (pv,false).1 n) 8).map (fun u=>(u,false)))=([]:List (Nat×Bool)):=by simp[hz]);rw[e1,e2] at FU;rw[Eg] at FU;rw[Eg] at FU;have hm1:=SI (P.getD pv []) 8;have bq:=SI (nL P pv n) 8;skip
        skip
        have jW:T.length<=T.length+16:=by
         skip
         skip
         (try simp only[dM,c5])
         omega
        rw[eU] at hfw;go_roundg ((16 - (S.length+1))*100+T.length)
        case measure=>omega
        case rel=>exact⟨_,_,_,_,_,rfl,FU,xV,ar _⟩
       ·go_wp2_with fail
        refine(En.o pv w5 (by omega)).ae ?_;rintro e wq ⟨rfl,S6⟩;rw[S6,abg ha];clear S6 wq;go_wp2_with fail
        refine(rP.o pv w5 (by omega)).ae ?_;rintro e wq ⟨rfl,S6⟩;rw[S6,abg hz];clear S6 wq;have zI:=Ky.o w5 xV.o.fr;go_wp2_with fail
        refine(aqt.o _ _ T w5 xV.o.row (by omega) (by rw[hs3];omega)).ae ?_;rintro e w8 ⟨v8,rfl,oW,qi⟩;have xU:=hid (xV.o.more (by rw[hs3];omega) oW qi);clear oW qi zI;obtain⟨W8,T8⟩:∃W8,T++(fM (nL P pv n) 8).map (fun u=>(u,false))=W8:=⟨_,rfl⟩;rw[T8] at xU;have r5:=hid T8;clear T8;obtain⟨d8,c8,rfl⟩:=xU.o.row.shape;go_wp2;have FU:=hid (DU.o S T (pv,false) HS.o IM.o yf.o);rw[ank.o] at FU;have hfw:=ao5.o _ _ FU.o;(have e1:(if ((pv,false).2&&!decide ((pv,false).1∈z) ||!(pv,false).2&&decide ((pv,false).1∈gV P z n))=true then(fM (P.getD (pv,false).1 []) 8).map (fun u=>(u,true)) else[])=([]:List (Nat×Bool)):=by simp[ha]);(have e2:(if (pv,false).1∈z then[] else(fM (nL P (pv,false).1 n) 8).map (fun u=>(u,false)))=(fM (nL P pv n) 8).map (fun u=>(u,false)):=by simp[hz]);rw[e1,e2] at FU;rw[iD] at FU;have hm1:=SI (P.getD pv []) 8;have bq:=SI (nL P pv n) 8;skip
        rw[r5.o] at FU
        have jW:W8.length<=T.length+16:=by
         rw[<- r5.o];skip
         (try simp only[dM,c5])
         omega
        rw[eU] at hfw;go_roundg ((16 - (S.length+1))*100+W8.length)
        case measure=>omega
        case rel=>exact⟨_,_,_,_,_,rfl,FU,xU,ar _⟩
variable {U:World}
def ApR (L:List (List Int)) (x y z:List Int) (e:Ending):Prop:=
 (bE L≠0/\e=.returned (.tuple #[.bool false,.int .i64 (bE L)]))∨(bE L=0/\k7 L.length [x,y,z]=false/\e=.returned (.tuple #[.bool false,.int .i64 11]))∨
 (bE L=0/\k7 L.length [x,y,z]=true/\e=.returned (.tuple #[.bool (!B4 L x y z),.int .i64 0]))
theorem aqF {bx vn bz:Option Addr} {cx cy cz:Nat} {x y z:List Int} (hx:aaK U bx x) (hy:aaK U vn y) (hz:aaK U bz z):fh (U.alloc (.cells #[.slice bx x.length cx,.slice vn y.length cy,.slice bz z.length cz] 27)) (some ⟨U.heap.size,0,none⟩) [x,y,z]:=fun k hk=>by
 have hA:=(au U.heap.size U).alloc (ar _) (.cells #[.slice bx x.length cx,.slice vn y.length cy,.slice bz z.length cz] 27);have hnew:=kd U (.cells #[.slice bx x.length cx,.slice vn y.length cy,.slice bz z.length cz] 27);have hlt:=(eL.1 hnew).1;match k,hk with
 |0,_=>exact⟨_,0,bx,cx,rfl,hlt,by rw[cC _ U.heap.size _ _ _ (0,0) hnew];rfl,hx.aa hA⟩
 |1,_=>exact⟨_,0,vn,cy,rfl,hlt,by rw[cC _ U.heap.size _ _ _ (0,0) hnew];rfl,hy.aa hA⟩
 |2,_=>exact⟨_,0,bz,cz,rfl,hlt,by rw[cC _ U.heap.size _ _ _ (0,0) hnew];rfl,hz.aa hA⟩
theorem as3 (a bx vn bz:Option Addr) (ca cx cy cz:Nat) (L:List (List Int)) (x y z:List Int) (w:World) (h:fh w a L) (hl:∀l∈L,l.length<=140737488355328) (hx:aaK w bx x) (hy:aaK w vn y) (hz:aaK w bz z) (J7:x.length<=140737488355328) (Ge:y.length<=140737488355328) (hzl:z.length<=140737488355328):
  Calls Tryz.prog 30 #[.slice a L.length ca,.slice bx x.length cx,.slice vn y.length cy,.slice bz z.length cz] w fun e w'=>Below w.heap.size w w'/\ApR L x y z e:=by
 have HR:=hid (UI a ca L w h hl);have vT:Hid (∀U:World,Below w.heap.size w U ->fh (U.alloc (.cells #[.slice bx x.length cx,.slice vn y.length cy,.slice bz z.length cz] 27)) (some ⟨U.heap.size,0,none⟩) [x,y,z]):=fun U hU=>aqF (hx.aa hU) (hy.aa hU) (hz.aa hU)
 have FK:Hid (bE L=0 ->∀(G:Nat) (U:World),fh U (some ⟨G,0,none⟩) [x,y,z] ->Calls Tryz.prog 73 #[.slice (some ⟨G,0,none⟩) 3 3,.int .i64 (L.length:Nat)] U fun e w'=>Below U.heap.size U w'/\
   ((ug [x,y,z] L.length=true/\∃G,e=.returned (.tuple #[.slice (some ⟨G,0,none⟩) 3 3,.bool true])/\U.heap.size<=G/\cI w' G (jO [x,y,z]))∨(ug [x,y,z] L.length=false/\e=.returned (.tuple #[.slice none 0 0,.bool false])))):=fun hg G U hU=>afl (some ⟨G,0,none⟩) 3 L.length [x,y,z] U hU (by simp) (qg (OY hg).1).2.1 (fun l hl'=>by
  simp only[dK,qG,acA] at hl';rcases hl' with rfl |rfl |rfl<;>assumption)
 have aX:ug [x,y,z] L.length=true ->Up x L.length/\Up y L.length/\Up z L.length:=fun hr=>⟨Al (eJ.1 hr x (by simp)),Al (eJ.1 hr y (by simp)),Al (eJ.1 hr z (by simp))⟩
 have vF:Hid (bE L=0 ->ug [x,y,z] L.length=true ->∀(G c:Nat) (U:World),cI U G (jO L) ->Calls Tryz.prog 74 #[.slice (some ⟨G,0,none⟩) L.length c,.int .u32 (aA (ag x):Nat),.int .u32 (aA (ag y):Nat),.int .u32 (aA (ag z):Nat)] U fun e w'=>∃q,e=.returned (.bool q)/\(k7 L.length [x,y,z]=true ->q=B4 L x y z)/\Below U.heap.size U w'):=fun hg hr G c U hU=>by
  have hgb:=(OY hg).1;have h8:=(qg hgb).2.1;obtain⟨h1,h2,h3⟩:=aX hr;rw[Hf] at hU;refine(asF G L.length c (aI L) (ag x) (ag y) (ag z) U (lp L) h8 hU (fun v u hu=>ZB hgb hu) (JP hgb) (U9 h1) (U9 h2) (U9 h3)).ae ?_;rintro e w' ⟨q,rfl,hq,hb⟩;exact⟨q,rfl,fun hap=>ac6.2 (hq.trans (aqV hg h8 hap).symm),hb⟩
 have vJ:Hid (ug [x,y,z] L.length=true ->(k7 L.length [x,y,z]=true↔aA ((ag x).filter fun v=>decide (v∈ag y))=0/\aA ((ag x++ag y).filter fun v=>decide (v∈ag z))=0)):=apL;have II:Hid (ug [x,y,z] L.length=false ->k7 L.length [x,y,z]=false):=fun hr=>by rw[k7,hr];rfl
 have Fg:Hid (bE L=0 ->ug [x,y,z] L.length=true ->bits BinOp.and IntKind.u32 (aA (ag x):Nat) (aA (ag y):Nat)=((aA ((ag x).filter fun v=>decide (v∈ag y)):Nat):Int)/\bits BinOp.or IntKind.u32 (aA (ag x):Nat) (aA (ag y):Nat)=((aA (ag x++ag y):Nat):Int)/\bits BinOp.and IntKind.u32 (aA (ag x++ag y):Nat) (aA (ag z):Nat)=((aA ((ag x++ag y).filter fun v=>decide (v∈ag z)):Nat):Int)):=fun hg hr=>by
  have h8:=(qg (OY hg).1).2.1;obtain⟨h1,h2,h3⟩:=aX hr;have k1:∀u∈ag x,u<8:=fun u hu=>by have:=U9 h1 u hu;omega
  have k2:∀u∈ag y,u<8:=fun u hu=>by have:=U9 h2 u hu;omega
  have k3:∀u∈ag z,u<8:=fun u hu=>by have:=U9 h3 u hu;omega
  exact⟨arF _ _ k1 k2,Vh _ _ k1 k2,arF _ _ (acZ k1 k2) k3⟩
 have ek:Hid (jO [x,y,z]=[aA (ag x),aA (ag y),aA (ag z)]):=rfl;clear h hl hx hy hz aX;go_enter Tryz.func30,Tryz.ntmps30;go_wp2_with fail
 refine HR.o.ae ?_;rintro e w1 ⟨hb1,⟨hg,G,rfl,hG,hU⟩ |⟨hg,rfl⟩⟩
 ·have eR:=hid hb1;have IP:=hid hg;have HU:=hid hU;have j5:=hid (FK.o hg w1.heap.size _ (vT.o w1 hb1));have hA:=(au w1.heap.size w1).alloc (ar _) (.cells #[.slice bx x.length cx,.slice vn y.length cy,.slice bz z.length cz] 27);have HA:=hid hA;clear hb1 hA HR FK vT hg hU;go_wp2_with fail
  refine j5.o.ae ?_;rintro e w2 ⟨hb2,⟨hr,G2,rfl,xp,KI⟩ |⟨hr,rfl⟩⟩
  ·have bc:=hid ((eR.o.trans (HA.o.ae eR.o.size)).trans (hb2.ae (aS eR.o.size HA.o.size)));obtain⟨hand,yP,asZ⟩:=Fg.o IP.o hr;have hmk:=vJ.o hr;have arv:cI w2 G (jO L):=((HU.o.aa HA.o HU.o.lt)).aa hb2 (aR HU.o.lt HA.o.size);have Ji:=hid arv;rw[ek.o] at KI;have LH:=hid KI;have k0:=KI.cell 0 (by simp);have k1:=KI.cell 1 (by simp);have k2:=KI.cell 2 (by simp);have atu:=hid (vF.o IP.o hr G L.length);simp only[List.getElem_cons_zero,apU] at k0 k1 k2;clear hr hb2 j5 vF vJ Fg ek II KI arv;generalize aA ((ag x).filter fun v=>decide (v∈ag y))=Lm at *;generalize aA ((ag x++ag y).filter fun v=>decide (v∈ag z))=aq2 at *;generalize aA (ag x++ag y)=mu at *;generalize aA (ag x)=mx at *;generalize aA (ag y)=my at *;generalize aA (ag z)=mz at *;by_cases h1:Lm=0
   ·by_cases h2:aq2=0
    ·have Mx:=hid (hmk.2 ⟨h1,h2⟩);subst h1;subst h2;clear hmk;go_upto_region 7 with (go_quiet (fail))
     have BG:Hid (cI (w2.drewN nq) G2 [mx,my,mz]):=LH.o;have atq:Hid (cI (w2.drewN nq).drew G (jO L)):=Ji.o;have dU:=hid (below_drewN bc.o nq);have LD:(w2.drewN nq).drew.cell? ⟨G2,0,none⟩=some (.int .u32 (mx:Nat)):=k0;have Lz:(w2.drewN nq).drew.cell? ⟨G2,1,none⟩=some (.int .u32 (my:Nat)):=k1;have yC:(w2.drewN nq).drew.cell? ⟨G2,2,none⟩=some (.int .u32 (mz:Nat)):=k2;clear k0 k1 k2 hand yP asZ;generalize w2.drewN nq=W3 at *;have aqa:=BG.o.lt;have nW:Hid (∀U:World,Below W3.drew.heap.size W3.drew U ->U.cell? ⟨G2,0,none⟩=some (.int .u32 (mx:Nat))/\U.cell? ⟨G2,1,none⟩=some (.int .u32 (my:Nat))/\U.cell? ⟨G2,2,none⟩=some (.int .u32 (mz:Nat))):=fun U hU=>⟨(hU.cell (p:=⟨G2,0,none⟩) aqa).trans LD,(hU.cell (p:=⟨G2,1,none⟩) aqa).trans Lz,(hU.cell (p:=⟨G2,2,none⟩) aqa).trans yC⟩;refine jJ (S:=fun U=>U.cell? ⟨G2,0,none⟩=some (.int .u32 (mx:Nat))/\U.cell? ⟨G2,1,none⟩=some (.int .u32 (my:Nat))/\U.cell? ⟨G2,2,none⟩=some (.int .u32 (mz:Nat))) (by kernel_rfl) ⟨LD,Lz,yC⟩ (fun aq=>?_);refine aw 0 (.slice (some ⟨G,0,none⟩) L.length L.length) ?_;refine aw 1 (.slice (some ⟨G2,0,none⟩) 3 3) ?_;refine aw 2 (.pointer (some ⟨G2,0,none⟩)) ?_;refine aw 3 (.int .u32 (mx:Nat)) ?_;refine aw 4 (.slice (some ⟨G2,0,none⟩) 3 3) ?_;refine aw 5 (.pointer (some ⟨G2,1,none⟩)) ?_;refine aw 6 (.int .u32 (my:Nat)) ?_;refine aw 7 (.slice (some ⟨G2,0,none⟩) 3 3) ?_;refine aw 8 (.pointer (some ⟨G2,2,none⟩)) ?_;refine aw 9 (.int .u32 (mz:Nat)) ?_;refine aF [10] (cA ?_ aD);intro K' hK';go_simp
     refine(atu.o W3.drew atq.o).ae ?_;rintro r w5 ⟨q,rfl,hq,hb5⟩;refine hK'.o _ _ (nW.o w5 hb5) (fun ak=>?_);clear hK' K' aq;refine aw 11 (.bool (!q)) ?_;refine aw 12 (.bool (!q)) ?_;refine aw 13 (.int .i64 0) ?_;(try simp only[gE,aP]);refine dW (by kernel_rfl) ?_ _;clear ak;have eD:Hid (Below w.heap.size w w5):=dU.o.drew.trans (hb5.ae dU.o.drew.size);have HQ:=hid (hq Mx.o);clear hq hb5;go_wp2;go_ret2;exact⟨eD.o,.inr (.inr ⟨IP.o,Mx.o,by rw[HQ.o];rfl⟩)⟩
    ·have Mx:Hid (k7 L.length [x,y,z]=false):=Bool.eq_false_iff.2 fun e=>h2 (hmk.1 e).2;subst h1;(have h2':((aq2:Int)==0)=false:=by simp;omega);clear hmk;go_wp2_with (go_quiet (fail))
     go_ret2;exact⟨below_drewN bc.o _,.inr (.inl ⟨IP.o,Mx.o,rfl⟩)⟩
   ·have Mx:Hid (k7 L.length [x,y,z]=false):=Bool.eq_false_iff.2 fun e=>h1 (hmk.1 e).1;(have h1':((Lm:Int)==0)=false:=by simp;omega);clear hmk;go_wp2_with (go_quiet (fail))
    go_ret2;exact⟨below_drewN bc.o _,.inr (.inl ⟨IP.o,Mx.o,rfl⟩)⟩
  ·have Mx:=hid (II.o hr);have bc:=hid ((eR.o.trans (HA.o.ae eR.o.size)).trans (hb2.ae (aS eR.o.size HA.o.size)));clear hr hb2 j5 vF vJ Fg ek II;go_wp2_with (go_quiet (fail))
   go_ret2;exact⟨below_drewN bc.o _,.inr (.inl ⟨IP.o,Mx.o,rfl⟩)⟩
 ·have Wy:=hid hg;have eR:=hid hb1;have hgb:(bE L==0)=false:=by simpa using hg
  clear hg hb1 vT FK vF vJ II Fg ek HR;generalize hge:bE L=ge at *;have F6:=hid hge;clear hge;go_wp2;go_ret2;exact⟨eR.o,.inl ⟨by rw[F6.o];exact Wy.o,by rw[F6.o];rfl⟩⟩
theorem aau (hu:u<8):(gN s).contains (u:Int)=decide (u∈s):=by
 refine ac6.2 ?_;rw[lh,ei,gN,iL,aaQ];constructor
 ·rintro⟨v,hv,e⟩;obtain rfl:v=u:=by omega
  exact(He.1 hv).2
 ·exact fun h=>⟨u,He.2 ⟨hu,h⟩,rfl⟩
variable {R:List (List Fr)} {ws:List Nat}
def zF (l:List (Nat×Nat)):List (Int×Int):=l.map fun p=>((p.1:Int),(p.2:Int))
theorem wu (l:List (Nat×Nat)):(zF l).length=l.length:=by simp[zF]
structure kW (S:List Nat) (n:Nat) (l:List (Nat×Nat)):Prop where
 nd:(l.map (·.1)).Nodup
 lt:∀p∈l,p.1<n
 val:∀p∈l,p.2<sz S p.1
theorem ak0 {V:List Vr} (h:bP V L R F=0):aW V L R=0/\∃l,F=zF l/\kW (ah V) V.length l:=by
 have h0:aW V L R=0:=by
  by_cases e:aW V L R=0
  ·exact e
  ·rw[bP,aaO e] at h;exact h
 rw[bP,aaf h0] at h;have hz:=K7 h
 have hb:∀i (hi:i<F.length),(0<=F[i].1/\F[i].1<(V.length:Int))/\(0<=F[i].2/\F[i].2<(sz (ah V) F[i].1.toNat:Int))/\((F.take i).any fun p=>p.1==F[i].1)=false:=fun i hi=>by
  have h1:=hz i hi;by_cases a:0<=F[i].1/\F[i].1<(V.length:Int)
  ·by_cases b:0<=F[i].2/\F[i].2<(sz (ah V) F[i].1.toNat:Int)
   ·refine⟨a,b,?_⟩;cases c:(F.take i).any fun p=>p.1==F[i].1 with
    |false=>rfl
    |true=>rw[UY hi a b c] at h1;exact absurd h1 (by decide)
   ·rw[UX hi a b] at h1;exact absurd h1 (by decide)
  ·rw[UW hi a] at h1;exact absurd h1 (by decide)
 refine⟨h0,F.map fun p=>(p.1.toNat,p.2.toNat),?_,?_,?_,?_⟩
 ·rw[zF,wj];refine pS (by simp) fun i hi _=>?_;rw[acj];obtain⟨⟨a,_⟩,⟨b,_⟩,_⟩:=hb i hi;show F[i]=(((F[i].1.toNat:Nat):Int),((F[i].2.toNat:Nat):Int));rw[Int.toNat_of_nonneg a,Int.toNat_of_nonneg b]
 ·rw[wj,List.Nodup,Gp];refine Cg.2 fun i j hi hj CP e=>?_;obtain⟨⟨ai,_⟩,_,_⟩:=hb i hi;obtain⟨⟨aj,_⟩,_,hc⟩:=hb j hj
  have:=List.any_eq_false.1 hc F[i] (by
   (have hk:i<(F.take j).length:=by rw[eZ];omega);have:=bH hk;rwa [Aa] at this)
  refine this (rp.2 ?_);have e':F[i].1.toNat=F[j].1.toNat:=e;omega
 ·intro p hp;obtain⟨x,hx,rfl⟩:=aaQ.1 hp;obtain⟨i,hi,rfl⟩:=iE hx;obtain⟨⟨a,b⟩,_,_⟩:=hb i hi;show F[i].1.toNat<_;omega
 ·intro p hp;obtain⟨x,hx,rfl⟩:=aaQ.1 hp;obtain⟨i,hi,rfl⟩:=iE hx;obtain⟨_,⟨a,b⟩,_⟩:=hb i hi;show F[i].2.toNat<sz _ F[i].1.toNat;omega
def yv (L:List (List Int)) (A:List Nat):List Nat:=(ir L).filter fun v:Nat=>(gN (gV (aI L) A L.length)).contains (v:Int)
theorem Ej (h:Up l n):∀x∈l,0<=x/\x<n:=(pV.1 h).1
theorem XH (h:Up l n):(ag l).Pairwise (·<·):=by
 rw[ag,Gp];refine List.Pairwise.imp_of_mem (fun {a b} ha hb hab=>?_) (pV.1 h).2;have h1:=Ej h a ha;have h2:=Ej h b hb;omega
theorem ZA (L:List (List Int)) (i:Nat):(aI L).getD i []=ag (L.getD i []):=by
 rw[aI,b7,oh,b7];cases L[i]? with
 |none=>rfl
 |some x=>rfl
theorem NQ (hg:gB L=true) (h1:1<=L.length) (h8:L.length<=8) (h:v∈ir L):v<L.length:=by
 have hp:((ir L).filter fun v=>decide (v<L.length)).Perm (List.range L.length):=
  (Jd ((Sm hg h1 h8).sublist Gt) pO).2 fun u=>by
   rw[abp,bG,ei];exact⟨fun h=>h.2,fun h=>⟨Sn hg h1 h8 h,h⟩⟩
 have hl:=hp.length_eq;have hn:(ir L).length=L.length:=by rw[NS];simp
 rw[lY] at hl;replace hl:=hl.trans hn.symm;exact rS (List.length_filter_eq_length_iff.1 hl v h)
theorem amV (hg:gB L=true) {A:List Nat} (hA:∀v∈A,v<L.length) (h:v∈gV (aI L) A L.length):v<L.length:=
 Lp (fun x u hu=>(SE hg x u hu).1) hA L.length v h
theorem Xn (hg:gB L=true) (h1:1<=L.length) (h8:L.length<=8) {A:List Nat} (hA:∀v∈A,v<L.length):v∈yv L A↔v∈gV (aI L) A L.length:=by
 rw[yv,abp];constructor
 ·rintro⟨a,b⟩;have hv:=NQ hg h1 h8 a;rw[aau (by omega)] at b;exact rS b
 ·intro h;have hv:=amV hg hA h;exact⟨Sn hg h1 h8 hv,by rw[aau (by omega)];exact cJ h⟩
theorem adG (hg:gB L=true) (h1:1<=L.length) (h8:L.length<=8) (A:List Nat):(yv L A).Nodup:=(Sm hg h1 h8).sublist Gt
theorem adH (hg:gB L=true) (h1:1<=L.length) (h8:L.length<=8) {A:List Nat} (h:v∈yv L A):v<L.length:=NQ hg h1 h8 (abp.1 h).1
theorem amR {w:Nat} (h:Pa u v) (h2:BZ Pa v w):BZ Pa u w:=by
 induction h2 using BZ.ind with
 |one h3=>exact .more (.one h) h3
 |more _ h3 ih=>exact .more ih h3
theorem adI (nG:bE L=0) (h1:1<=L.length) (h8:L.length<=8) {A:List Nat} (hA:∀v∈A,v<L.length):lT L (·∈yv L A):=fun v hv u hu=>by
 have hg:=ud nG;show u∈yv L A;have hv:v∈yv L A:=hv;rw[Xn hg h1 h8 hA,ac4 nG h8 hA] at hv⊢;obtain⟨b,hb,e⟩:=hv;rw[<- ZA] at hu;refine⟨b,hb,.inr ?_⟩;rcases e with rfl |e
 ·exact .one hu
 ·exact amR (Pa:=fun u v=>u∈(aI L).getD v []) hu e
theorem Xo (nG:bE L=0) (h1:1<=L.length) (h8:L.length<=8) {A:List Nat} (hA:∀v∈A,v<L.length) (hv:v∈A):v∈yv L A:=by
 rw[Xn (ud nG) h1 h8 hA,ac4 nG h8 hA];exact⟨v,hv,.inl rfl⟩
def gT (V:List Vr) (L:List (List Int)) (R:List (List Fr)) (ws:List Nat):List Tb:=ws.map fun v=>(gU L v,gL V L R v)
theorem abT {V:List Vr} (h0:aW V L R=0) (hlt:∀v∈ws,v<V.length) (hc:lT L (·∈ws)):eX (ah V) V.length (gT V L R ws) (eW R ws) 1:=
 ⟨(PI.net h0 hlt hc).ok,PD.net h0 hlt,fun t ht=>by
  obtain⟨v,_,rfl⟩:=aaQ.1 ht;exact akj V L R v⟩
theorem eX.fixes (hp:Pos S):∀ {l:List (Nat×Nat)} {P:List Tb} {D c:Nat},eX S n P D c ->(∀p∈l,p.2<sz S p.1) ->eX S n (ko S l P) D c
 |[],_,_,_,h,_=>h
 |p::l,_,_,_,h,hx=>eX.fixes hp (l:=l) (h.fix hp (hx p dJ)) fun q hq=>hx q (eE _ hq)
theorem K5 (S:List Nat):∀(l:List (Nat×Nat)) (P:List Tb),(ko S l P).length=P.length
 |[],_=>rfl
 |p::l,P=>by rw[ko,K5 S l,c5]
theorem N8:∀(l:List (Nat×Nat)) (fr:List Nat),(fC fr l).Sublist fr
 |[],_=>List.Sublist.refl _
 |_::l,_=>(N8 l _).trans Gt
def dr (V:List Vr) (L:List (List Int)) (R:List (List Fr)) (q:List Int) (l:List (Nat×Nat)):Tb:=
 (q,(List.range (cnt (ah V) (ag q))).map fun K=>qF (AD V L R (qV (ah V) (ag q) K++l)))
theorem XI {a b:List Int} (ha:Up a n) (hb:Up b m) (h:∀u,u∈ag a↔u∈ag b):a=b:=by
 have e:ag a=ag b:=by
  refine List.Perm.eq_of_pairwise (le:=(·<·)) (fun x y _ _ h1 h2=>by omega) (XH ha) (XH hb) ?_;exact(Jd ha.nodup hb.nodup).2 h
 have h1:iL (ag a)=a:=by
  rw[iL,ag,wj];refine(rq fun x hx=>?_).trans (List.map_id _);have:=(Ej ha x hx).1;show ((x.toNat:Nat):Int)=x;omega
 have h2:iL (ag b)=b:=by
  rw[iL,ag,wj];refine(rq fun x hx=>?_).trans (List.map_id _);have:=(Ej hb x hx).1;show ((x.toNat:Nat):Int)=x;omega
 rw[<- h1, <- h2,e]
theorem Zh {q:List Int} (h:Up q n) (v:Nat):q.contains (v:Int)=(ag q).contains v:=by
 rw[ac6,lh,lh];constructor
 ·intro hv;exact aaQ.2 ⟨_,hv,by simp⟩
 ·intro hv;obtain⟨x,hx,e⟩:=aaQ.1 hv;have:=(Ej h x hx).1;have e2:x.toNat=v:=e;have:x=(v:Int):=by omega
  rwa [<- this]
theorem ad8 {V:List Vr} (h0:aW V L R=0) (hp:Pos (ah V)) {l:List (Nat×Nat)} {q:List Int} (hn:ws.Nodup) (hlt:∀v∈ws,v<V.length) (hc:lT L (·∈ws)) (hl:kW (ah V) V.length l) (Kj:∀p∈l,p.1∈ws) (hq:Up q V.length) (AW:∀v∈ag q,v∈ws/\¬v∈l.map (·.1)):
  allT (ah V) (iX (ah V) false (fun v=>q.contains (v:Int)) (fC ws l) (ko (ah V) l (gT V L R ws)))=dr V L R q l:=by
 have e1:(fun v:Nat=>q.contains (v:Int))=fun v=>(ag q).contains v:=funext (Zh hq);rw[e1];have eN:PI (ah V) V.length (fC ws l) (ko (ah V) l (gT V L R ws)) (fun g=>dA V L R (cY l g) ws):=(PI.net h0 hlt hc).fixes hp hl.nd hl.val;obtain⟨free',hf,qN⟩:=PI.outs hp (fun v=>(ag q).contains v) (fC ws l) eN;have ha:=xH hp qN.ok
 have hfr:∀u,u∈free'↔u∈ag q:=fun u=>by
  rw[hf u,yK];constructor
  ·rintro⟨⟨a,b⟩,c⟩;exact lh.1 (c ⟨a,b⟩)
  ·intro h;exact⟨AW u h,fun _=>lh.2 h⟩
 have hv:(allT (ah V) (iX (ah V) false (fun v=>(ag q).contains v) (fC ws l) (ko (ah V) l (gT V L R ws)))).1=q:=by
  refine XI ha.1.up hq fun u=>?_;rw[ha.2.1 u, <- hfr u];exact⟨fun ⟨t,ht,hu⟩=>qN.sub t ht u hu,fun h=>qN.sup u h⟩
 refine Prod.ext hv ?_;rw[Rh hp ha.1 (Vq _ _),hv];refine rq fun K hK=>?_;have hK':=bG.1 hK;rw[ha.2.2 _ (fun u=>nN hp _ _ u hK'),qN.val _ (fun u=>nN hp _ _ u hK')];exact bR qF (aiC h0 hn hlt hc hl.nd Kj hl.val hq.nodup AW hK')
variable {K:Act ->World ->Prop} {B' k:Nat}
def vd (F:List (Int×Int)):List (Value×Value):=F.map fun p=>(.int .i64 p.1,.int .i64 p.2)
theorem ao3 (F:List (Int×Int)):(vd F).length=F.length:=c5 _
theorem arB (h:k<F.length):(vd F)[k]'(by rw[ao3];exact h)=(.int .i64 F[k].1,.int .i64 F[k].2):=acj _
def dV (w:World) (B:Nat) (v:Value) (F:List (Int×Int)):Prop:=w.ownsRow B 90 2 v F.length (fK (vd F))
theorem dV.nil (w:World) (B:Nat):dV w B (.slice none 0 0) []:=⟨rfl,.inl ⟨rfl,rfl⟩⟩
theorem dV.aa {B:Nat} {v:Value} (h:dV w B v F) (hb:Below w.heap.size w w'):dV w' B v F:=JR h (Dn.aa hb)
theorem dV.facts {B:Nat} {v:Value} (h:dV w B v F):∃d cd,v=.slice d F.length cd/\jI w d F/\F.length<=cd/\(d=none ->cd=0):=by
 rcases h.2 with ⟨h1,h2⟩ |⟨g,cap,cur,h1,h2,h3,h4,h5,h6,h7⟩
 ·exact⟨none,0,by rw[h1,h2],(fun k hk=>absurd hk (by omega)),by omega,fun _=>rfl⟩
 ·refine⟨_,cap,h1,fun k hk=>?_,h4,fun e=>by cases e⟩;have gi:k<(vd F).length:=by rw[ao3];exact hk
  obtain⟨q0,q1⟩:=Rg (vd F) k gi;have hcl:=Rf (vd F)
  have hc:∀j u,(fK (vd F))[j]? =some u ->w.cell? ⟨g,j,none⟩=some u:=fun j u hj=>by
   rw[cC w g j _ _ (0,0) h3];have oH:=(o0.1 hj).1;rw[<- h7,rV,aaf (by rw[ao3] at hcl;omega),wm] at hj;exact hj
  rw[arB hk] at q0 q1;exact⟨g,0,rfl,(eL.1 h3).1,by rw[bT];exact hc _ _ q0,by rw[bT];exact hc _ _ q1⟩
theorem dV.own {B:Nat} {v:Value} (h:dV w B v F):∀k,v.ownBlock=some k ->B<=k:=fun k hk=>by
 rcases h.2 with ⟨h1,h2⟩ |⟨g,cap,cur,h1,h2,_⟩
 ·rw[h1] at hk;cases hk
 ·rw[h1] at hk;cases hk;exact h2
theorem dV.alloc {B:Nat} {v:Value} (h:dV w B v F) (o:Obj):dV (w.alloc o) B v F:=h.aa ((au w.heap.size w).alloc (ar _) o)
theorem Tryz.infoFact:(Tryz.prog.info? 90).map (fun i=>(i.zero,i.size,i.bytes))=some (some (.agg #[.int .i64 0,.int .i64 0]),2,16):=by kernel_rfl
theorem arA {o:Nat} (h:jI w (some ⟨g,o,none⟩) F):∀j u,(fK (vd F))[j]? =some u ->w.cell? ((⟨g,o,none⟩:Addr).add j)=some u:=fun j u hj=>by
 have oH:=(o0.1 hj).1;rw[Rf,ao3] at oH;have hk:j/2<F.length:=by omega
 obtain⟨g',o',e,_,c0,c1⟩:=h (j/2) hk;cases e;obtain⟨q0,q1⟩:=Rg (vd F) (j/2) (by rw[ao3];exact hk);rw[arB hk] at q0 q1
 have hadd:((⟨g,o,none⟩:Addr).add j)=⟨g,o+j,none⟩:=by
  rw[Addr.add];by_cases h0:j=0
  ·subst h0;simp
  ·simp[h0]
 rw[hadd];rcases Nat.mod_two_eq_zero_or_one j with hm |hm
 ·have e:j/2*2=j:=by omega
  rw[e] at q0 c0;rw[q0] at hj;rw[c0,hj]
 ·have e:j/2*2+1=j:=by omega
  rw[e] at q1;rw[q1] at hj;rw[show o+j/2*2+1=o+j by omega] at c1;rw[c1,hj]
theorem apJ (F:List (Int×Int)):∀u∈fK (vd F),u.oneCell'=true:=by
 induction F with
 |nil=>intro u hu;cases hu
 |cons p F ih=>
  intro u hu;have J9:u=.int .i64 p.1∨u=.int .i64 p.2∨u∈fK (vd F):=by simpa [vd,fK] using hu
  rcases J9 with rfl |rfl |h
  ·rfl
  ·rfl
  ·exact ih u h
theorem ape {o:Oper} {a:Act} (hgd:o.guard=none) (s x:Operand)
  (ho:o.op=.call {callee:=.builtin .append,args:= #[s,x],argTypes:= #[28,28]}) (base:Nat) (v:Value) (xs la:List (Int×Int)) (hs:a.eval s=v) (hown:dV w base v xs) (p:Option Addr) (ca:Nat) (hx:a.eval x=.slice p la.length ca) (hi:jI w p la) (hp:p=none ->ca=0) (hlen:xs.length+la.length<=100000) (hbase:base<=w.heap.size)
  (h:∀v' w',dV w' base v' (xs++la) ->w.grownBy w' v.ownBlock ->wpList Tryz.prog ops Q rest (a.put o.dst v') w'):wpList Tryz.prog ops Q (o::rest) a w:=by
 obtain⟨i0,cU,hz0,hz1,hz2⟩:=eT Tryz.infoFact;cases p with
 |none=>
  have hl:la=[]:=by
   cases la with
   |nil=>rfl
   |cons x l=>obtain⟨g,o,e,_⟩:=hi 0 (by simp);cases e
  subst hl;have h0:=hp rfl;subst h0;have h1:=h v w (by rw[Eg];exact hown) ⟨rfl,rfl,rfl,ar _,fun _ _ _=>rfl⟩;exact wpList_append_own_none hgd s x 28 ho base 90 i0 2 Tryz.underlying28 cU v xs.length _ hs hown hx h1
 |some ad=>
  have hc:∀j u,(fK (vd la))[j]? =some u ->w.cell? (ad.add j)=some u:=by
   cases la with
   |nil=>intro j u hj;cases hj
   |cons q l=>
    obtain⟨g,o',e,_⟩:=hi 0 (by simp);cases e;exact arA hi
  refine Qz _ hgd s x 28 ho base 90 i0 (.agg #[.int .i64 0,.int .i64 0]) 2 16 Tryz.underlying28 cU hz0 hz1 hz2 rfl (by decide) v xs.length _ hs hown ad la.length ca (fK (vd la)) hx (by rw[Rf,ao3]) hc (apJ la) (by unfold maxLen;omega) (by omega) hbase ?_;intro v' w' h1 h2 _;refine h v' w' ?_ h2;rw[dV,dM,vd,fY,Nb];exact h1
theorem dV.lt {B:Nat} {v:Value} (h:dV w B v F):∀k,v.ownBlock=some k ->k<w.heap.size:=fun k hk=>by
 rcases h.2 with ⟨h1,h2⟩ |⟨g,cap,cur,h1,h2,h3,_⟩
 ·rw[h1] at hk;cases hk
 ·rw[h1] at hk;cases hk;exact(eL.1 h3).1
theorem dV.start (W:World):dV (W.alloc (.cells #[] 90)) W.heap.size (.slice (some ⟨W.heap.size,0,none⟩) 0 0) []:=
 ⟨rfl,.inr ⟨W.heap.size,0, #[],rfl,ar _,kd W _,ar _,by unfold maxLen;omega,rfl,rfl⟩⟩
theorem dV.lower {B:Nat} {v:Value} (h:dV w B v F) (hb:B'<=B):dV w B' v F:=by
 refine⟨h.1,?_⟩;rcases h.2 with h1 |⟨g,cap,cur,h1,h2,h3⟩
 ·exact .inl h1
 ·exact .inr ⟨g,cap,cur,h1,aS hb h2,h3⟩
theorem Ga {o:Oper} {a:Act} (s x:Operand)
  (ho:o.op=.call {callee:=.builtin .append,args:= #[s,x],argTypes:= #[28,28]}) (base:Nat) (v:Value) (xs la:List (Int×Int)) (hs:a.eval s=v) (hown:dV w base v xs) (p:Option Addr) (ca:Nat) (hx:a.eval x=.slice p la.length ca) (hi:jI w p la) (hp:p=none ->ca=0) (hlen:xs.length+la.length<=100000) (hbase:base<=w.heap.size)
  (h:∀v' w',dV w' base v' (xs++la) ->w.grownBy w' v.ownBlock ->(v'.ownBlock=v.ownBlock∨∀k,v'.ownBlock=some k ->w.heap.size<=k) ->K (a.put o.dst v') w'):o.wp Tryz.prog a w K Q:=by
 obtain⟨i0,cU,hz0,hz1,hz2⟩:=eT Tryz.infoFact;cases p with
 |none=>
  have hl:la=[]:=by
   cases la with
   |nil=>rfl
   |cons x l=>obtain⟨g,o,e,_⟩:=hi 0 (by simp);cases e
  subst hl;have h0:=hp rfl;subst h0;have h1:=h v w (by rw[Eg];exact hown) ⟨rfl,rfl,rfl,ar _,fun _ _ _=>rfl⟩ (.inl rfl);have hr:=run_append_owned_none (P:=Tryz.prog) (w:=w) base 28 o.type 90 i0 2 Tryz.underlying28 cU v xs.length _ hown;have hx':a.eval x=.slice none 0 0:=hx;unfold Oper.wp execOp;simp only[ho,resolve,invoke,builtin,I8,DZ,zR,Je,gQ,ld,hs,hx',hr];exact h1
 |some ad=>
  have hc:∀j u,(fK (vd la))[j]? =some u ->w.cell? (ad.add j)=some u:=by
   cases la with
   |nil=>intro j u hj;cases hj
   |cons q l=>
    obtain⟨g,o',e,_⟩:=hi 0 (by simp);cases e;exact arA hi
  have hl2:(fK (vd la)).length=la.length*2:=by rw[Rf,ao3]
  obtain⟨v',w',hr,h2,h3,h4⟩:=run_append_own (P:=Tryz.prog) w base 28 o.type 90 i0 (.agg #[.int .i64 0,.int .i64 0]) 2 16 Tryz.underlying28 cU hz0 hz1 hz2 rfl (by decide) v xs.length _ hown ad la.length ca (fK (vd la)) hl2 hc (apJ la) (by unfold maxLen;omega) (by omega) hbase
  have hnew:v'.ownBlock=v.ownBlock∨∀k,v'.ownBlock=some k ->w.heap.size<=k:=by
   by_cases hm:0<la.length
   ·obtain⟨v2,w2,hr2,_,_,h5⟩:=YT (P:=Tryz.prog) w base 28 o.type 90 i0 (.agg #[.int .i64 0,.int .i64 0]) 2 16 Tryz.underlying28 cU hz0 hz1 hz2 rfl (by decide) v xs.length _ hown ad la.length ca (fK (vd la)) hl2 hc (apJ la) (by unfold maxLen;omega) (by omega) hbase hm;rw[hr] at hr2;cases hr2;exact h5
   ·left
    (have hm0:la.length=0:=by omega);rcases hown.2 with ⟨k1,k2⟩ |⟨g',cap,cur,k1,hbg,iK,CL,hcm,hcs,aaT⟩
    ·rw[h4.2 ⟨k1,hm0⟩,k1]
    ·have e':=run_append_room (P:=Tryz.prog) w 28 o.type 90 i0 Tryz.underlying28 cU g' xs.length cap cur iK ad la.length ca (fK (vd la)) (by rw[hz1];exact hl2) hc (apJ la) (by omega) (by rw[hz1,hcs,hl2];omega);rw[k1] at hr;rw[hr] at e';cases e';rw[k1];rfl
  unfold Oper.wp execOp;simp only[ho,resolve,invoke,builtin,I8,DZ,zR,Je,gQ,ld,hs,hx,hr];refine h v' w' ?_ h3 hnew;rw[dV,dM,vd,fY,Nb];exact h2
structure FF (S:List Nat) (U:List Int) (i:Nat) (l:List (Nat×Nat)):Prop where
 vars:l.map (·.1)=ag (U.take i)
 val:∀p∈l,p.2<sz S p.1
theorem FF.start (S:List Nat) (U:List Int):FF S U 0 []:=⟨rfl,fun p hp=>by cases hp⟩
theorem FF.len {U:List Int} {l:List (Nat×Nat)} (h:FF S U i l) (hi:i<=U.length):l.length=i:=by
 have:=bR List.length h.vars;rw[c5,cS,eZ] at this;omega
theorem FF.snoc {U:List Int} {l:List (Nat×Nat)} (h:FF S U i l) (hi:i<U.length) {x:Nat} (hx:x<sz S U[i].toNat):FF S U (i+1) (l++[(U[i].toNat,x)]):=by
 refine⟨?_,fun p hp=>?_⟩
 ·rw[fY,h.vars,fR hi,ag,ag,fY];rfl
 ·rcases aa5.1 hp with hp |hp
  ·exact h.val p hp
  ·rw[fX.1 hp];exact hx
theorem aqx (l:List (Nat×Nat)) (p:Nat×Nat):zF (l++[p])=zF l++[((p.1:Int),(p.2:Int))]:=by rw[zF,zF,fY];rfl
theorem aq1 (w:World) (u v:Int):jI (w.alloc (.cells #[.int .i64 u,.int .i64 v] 90)) (some ⟨w.heap.size,0,none⟩) [(u,v)]:=fun k hk=>by
 obtain rfl:k=0:=by simp at hk;omega
 have h:=kd w (.cells #[.int .i64 u,.int .i64 v] 90);exact⟨w.heap.size,0,rfl,by simp,(cC _ w.heap.size _ _ _ (0,0) h).trans rfl,(cC _ w.heap.size _ _ _ (0,0) h).trans rfl⟩
theorem asi (a b c d r:Option Addr) (ca cb cc cd cr:Nat) (V:List Vr) (L:List (List Int)) (R:List (List Fr)) (U K:List Int) (w:World) (h:gP w a b c V L R) (hd:aaK w d U) (hr:aaK w r K) (hU:Up U V.length) (hUn:U.length<=1000) (hK:∀x∈K, -9223372036854775808<=x/\x<=9223372036854775807) (hKn:K.length<=140737488355328) (hV:∀v (h:v<V.length),1<=V[v].2.length/\V[v].2.length<=1000):
  Calls Tryz.prog 19 #[.agg #[.slice a V.length ca,.slice b L.length cb,.slice c R.length cc],.slice d U.length cd,.slice r K.length cr] w fun e w'=>∃x l,e=.returned x/\dV w' w.heap.size x (zF l)/\l.map (·.1)=ag U/\(∀p∈l,p.2<sz (ah V) p.1)/\Below w.heap.size w w':=by
 have bW:=gX.at (w:=w) rfl (.slice a V.length ca) (.slice b L.length cb) (.slice c R.length cc);have hb0:Below w.heap.size w (w.alloc (NC (.slice a V.length ca) (.slice b L.length cb) (.slice c R.length cc))):=(au _ w).alloc (ar _) _;have HN:=hid h;have HD:=hid hd;have HR:=hid hr;have HU:=hid hU;have HK:=hid hK;have HV:=hid hV;have HE:Hid (∀l,FF (ah V) U U.length l ->l.map (·.1)=ag U):=fun l hl=>by have:=hl.vars;rwa [fJ] at this
 obtain⟨nK,CA⟩:∃n,K.length=n:=⟨_,rfl⟩;rw[CA];have HNK:=hid CA;rw[CA] at hKn;clear h hd hr hU hK hV CA;go_enter Tryz.func19,Tryz.ntmps19;go_wp2_with fail
 have uE:=hid bW;have Qs:=hid hb0;clear bW hb0;generalize w.alloc (NC (.slice a V.length ca) (.slice b L.length cb) (.slice c R.length cc))=W0 at *;go_loopw [7,8] (fun xv iv wr=>∃(i:Nat) (l:List (Nat×Nat)),i<=U.length/\iv=.int .i64 i/\Hid (FF (ah V) U i l)/\Hid (dV wr (w.heap.size+1) xv (zF l))/\Hid (gX wr w.heap.size (.slice a V.length ca) (.slice b L.length cb) (.slice c R.length cc))/\Hid (Below w.heap.size w wr)) (fun _ iv _=>U.length - (intOf iv).toNat)
 case atStart=>exact⟨0,[],aU _,rfl,FF.start _ _,dV.nil _ _,uE,Qs⟩
 case round=>
  obtain⟨i,l,hi,rfl,HF,HO,HX,HB⟩:=hrel;clear uE Qs;by_cases hlt:i<U.length
  ·obtain⟨g,o,rfl,hg,c0⟩:=(HD.o.aa HB.o) i hlt;have aX:=HU.o.each i hlt;obtain⟨v,hv⟩:∃v:Nat,U[i]=(v:Int):=⟨U[i].toNat,by omega⟩;(have hvl:v<V.length:=by omega);obtain⟨ga,oa,bb,cbb,rfl,wU,n0,n1,n2,n3⟩:=(HN.o.vars.aa HB.o) v hvl;have hsz:=HV.o v hvl;have arc:=Rl hvl
   have Ir:Hid (∀x,x<V[v].2.length ->FF (ah V) U (i+1) (l++[(v,x)])):=fun x hx=>by
    have:=HF.o.snoc hlt (x:=x) (by rw[hv,pT,arc];exact hx);rwa [hv,pT] at this
   rw[hv] at c0;have dh:=HF.o.len hi;clear arc aX n2 n3 n0;generalize V[v].2.length=m at *;by_cases Un:nK=0
   ·subst Un;have xS:=hid HO.o.own;have Kh:=hid (HO.o.alloc (.cells #[.int .i64 (v:Nat),.int .i64 (0:Nat)] 90));have dC:=hid (HB.o.alloc HB.o.size (.cells #[.int .i64 (v:Nat),.int .i64 (0:Nat)] 90));have F2:=hid (aq1 wr (v:Nat) (0:Nat));have Ik:=hid (HX.o.aa ((au wr.heap.size wr).alloc (ar _) (.cells #[.int .i64 (v:Nat),.int .i64 (0:Nat)] 90)) HX.o.lt);have fT:Hid (w.heap.size+1<=(wr.alloc (.cells #[.int .i64 (v:Nat),.int .i64 (0:Nat)] 90)).heap.size):=hid (Ik.o.lt);go_wp2_with (at_builtin;refine ape rfl _ _ rfl (w.heap.size+1) _ (zF l) [((v:Int),(0:Nat))] rfl Kh.o (some ⟨wr.heap.size,0,none⟩) 1 rfl F2.o (fun e=>by cases e) (by simp[wu];omega) fT.o ?_;intro v' w2 hr2 hg2)
    have bc:=hid (dC.o.grown hg2 dC.o.size fun k hk=>Nat.le_of_succ_le (xS.o k hk));have sR:Hid (gX w2 w.heap.size (.slice (some ⟨ga,oa,none⟩) V.length ca) (.slice b L.length cb) (.slice c R.length cc)):=(hg2.block w.heap.size fT.o (fun e=>by have:=xS.o _ e.symm;omega)).trans Ik.o;have iT:=hid hr2;clear hr2 hg2;go_roundw
    case rel=>exact⟨i+1,_,by omega,by go_num,Ir.o 0 (by omega),by rw[aqx];exact iT,sR,bc⟩
    case measure=>simp[intOf];omega
   ·have hj:i % nK<K.length:=by rw[HNK.o];exact jL _ (by omega)
    obtain⟨gk,ok,rfl,H8,k0⟩:=(HR.o.aa HB.o) (i % nK) hj;have Nx:=HK.o _ (bH hj);have hmod:((i:Nat):Int) % (nK:Int)=((i % nK:Nat):Int):=(Af _ _).symm;have hjn:i % nK<nK:=jL _ (by omega);obtain⟨x0,x1,x2⟩:=HX.o.cells;have LV:=hid (fun W=>aqL K[i % nK] m W Nx.1 Nx.2 hsz.1 hsz.2);have hP:=apz K[i % nK] hsz.1;generalize SM K[i % nK] m=P at *;generalize K[i % nK]=kk at *;generalize i % nK=j at *;go_wp2_with fail
    go_quiet ((go_at_call 60;refine Calls.quiet_of_same (LV.o _)))
    have VI:Hid (dV (wr.drewN nq) (w.heap.size+1) u7 (zF l)):=HO;have TH:Hid (gX (wr.drewN nq) w.heap.size (.slice (some ⟨ga,oa,none⟩) V.length ca) (.slice b L.length cb) (.slice c R.length cc)):=HX;have U7:=hid (below_drewN HB.o nq);have Dr:(wr.drewN nq).cell? ⟨g,o+i,none⟩=some (.int .i64 (v:Nat)):=c0;clear HO HX HB c0 k0 x0 x1 x2 n1;generalize wr.drewN nq=wz at *;have HO:=VI;have HX:=TH;have HB:=U7;have c0:=Dr;clear VI TH U7 Dr;have xS:=hid HO.o.own;have Kh:=hid (HO.o.alloc (.cells #[.int .i64 (v:Nat),.int .i64 (P:Nat)] 90));have dC:=hid (HB.o.alloc HB.o.size (.cells #[.int .i64 (v:Nat),.int .i64 (P:Nat)] 90));have F2:=hid (aq1 wz (v:Nat) (P:Nat));have Ik:=hid (HX.o.aa ((au wz.heap.size wz).alloc (ar _) (.cells #[.int .i64 (v:Nat),.int .i64 (P:Nat)] 90)) HX.o.lt);have fT:Hid (w.heap.size+1<=(wz.alloc (.cells #[.int .i64 (v:Nat),.int .i64 (P:Nat)] 90)).heap.size):=hid (Ik.o.lt);go_wp2_with (at_builtin;refine ape rfl _ _ rfl (w.heap.size+1) _ (zF l) [((v:Int),(P:Nat))] rfl Kh.o (some ⟨wz.heap.size,0,none⟩) 1 rfl F2.o (fun e=>by cases e) (by simp[wu];omega) fT.o ?_;intro v' w2 hr2 hg2)
    have bc:=hid (dC.o.grown hg2 dC.o.size fun k hk=>Nat.le_of_succ_le (xS.o k hk));have sR:Hid (gX w2 w.heap.size (.slice (some ⟨ga,oa,none⟩) V.length ca) (.slice b L.length cb) (.slice c R.length cc)):=(hg2.block w.heap.size fT.o (fun e=>by have:=xS.o _ e.symm;omega)).trans Ik.o;have iT:=hid hr2;clear hr2 hg2;go_roundw
    case rel=>exact⟨i+1,_,by omega,by go_num,Ir.o P hP,by rw[aqx];exact iT,sR,bc⟩
    case measure=>simp[intOf];omega
  ·obtain rfl:i=U.length:=by omega
   go_wp2;go_ret;exact⟨_,l,rfl,HO.o.lower (Nat.le_succ _),HE.o l HF.o,HF.o.val,HB.o⟩
variable {As:List Nat}
def C0 (vs:List Nat) (F:(Nat ->Nat) ->Rat):Prop:=∀v∈vs,∀g x,F (aQ g v x)=F g
theorem C0.mul {F G:(Nat ->Nat) ->Rat} (hF:C0 vs F) (hG:C0 vs G):C0 vs (fun g=>F g*G g):=fun v hv g x=>by
 show F (aQ g v x)*G (aQ g v x)=F g*G g;rw[hF v hv,hG v hv]
theorem aqZ {F G:(Nat ->Nat) ->Rat}:∀(vs:List Nat) (f:Nat ->Nat),C0 vs F ->eV S vs (fun g=>F g*G g) f=F f*eV S vs G f
 |[],_,_=>rfl
 |v::vs,f,hF=>by
  rw[eV,eV, <- El];refine l8 fun x _=>?_;rw[aqZ vs _ fun u hu=>hF u (eE _ hu),hF v dJ]
theorem aq0 {F:(Nat ->Nat) ->Rat} {x:Nat} (hF:∀g x,F (aQ g v x)=F g):∀(vs:List Nat) (f:Nat ->Nat),eV S vs F (aQ f v x)=eV S vs F f
 |[],f=>hF f x
 |u::vs,f=>by
  rw[eV,eV];refine l8 fun y _=>?_;by_cases e:u=v
  ·subst e;rw[Xy]
  ·rw[M7 f x y e,aq0 hF vs]
theorem aqY {F G:(Nat ->Nat) ->Rat} (cs:List Nat):∀(bs:List Nat) (f:Nat ->Nat),C0 cs F ->C0 bs G ->eV S (bs++cs) (fun g=>F g*G g) f=eV S bs F f*eV S cs G f
 |[],f,hF,_=>aqZ cs f hF
 |v::bs,f,hF,hG=>by
  rw[fg,eV,eV,ao7, <- El];refine l8 fun x _=>?_;rw[aqY cs bs _ hF fun u hu=>hG u (eE _ hu),aq0 (fun g y=>hG v dJ g y) cs f,ao7]
theorem arH (a b:List (Nat×Nat)) (g:Nat ->Nat):jX (a++b) g=jX a g*jX b g:=by
 induction a with
 |nil=>show jX b g=1*jX b g;rw[vZ]
 |cons p a ih=>rw[fg,jX,jX,ih,yj]
theorem arG {l:List (Nat×Nat)} (h:∀p∈l,¬p.1∈vs):C0 vs (jX l):=fun _ hv g _=>Vn (fun p hp e=>h p hp (e▸hv)) g
theorem asj {l:List (Nat×Nat)} {x:Nat} (h:∀p∈l,p.1≠v) (g:Nat ->Nat):cY l (aQ g v x)=aQ (cY l g) v x:=Ns h g
theorem C0.put {F:(Nat ->Nat) ->Rat} (hF:C0 vs F) {l:List (Nat×Nat)} (h:∀p∈l,¬p.1∈vs):C0 vs (fun g=>F (cY l g)):=fun v hv g x=>by
 show F (cY l (aQ g v x))=F (cY l g);rw[asj (fun p hp e=>h p hp (e▸hv)),hF v hv]
theorem aqP {V:List Vr}:∀ {o:List Nat},(∀u∈o,∀v∈vs,u≠v/\¬v∈ag (L.getD u [])) ->C0 vs (fun g=>dA V L R g o):=fun h v hv _ _=>JM fun u hu=>h u hu v hv
theorem aqQ {V:List Vr} (g:Nat ->Nat) (p:Nat ->Bool):∀o:List Nat,dA V L R g o=dA V L R g (o.filter p)*dA V L R g (o.filter fun v=>!p v)
 |[]=>by simp[dA]
 |v::o=>by
  rw[dA,aqQ g p o];cases h:p v
  ·rw[Ae (by simp[h]),Ad (by simp[h]),dA];grind
  ·rw[Ad h,Ae (by simp[h]),dA];grind
def aov (V:List Vr) (L:List (List Int)) (R:List (List Fr)) (l:List (Nat×Nat)):Rat:=a8 (fun k=>jX l (aO (ah V) (List.range V.length) k)*ji V L R (aO (ah V) (List.range V.length) k) V.length) (cnt (ah V) (List.range V.length))
theorem apA {V:List Vr} (h0:aW V L R=0) {bs cs:List Nat} {fb fc fz:List (Nat×Nat)} (hn:As.Nodup) (hlt:∀v∈As,v<V.length) (hcl:lT L (·∈As)) (hp:As.Perm (fz.map (·.1)++(bs++cs))) (hx:∀p∈fz,p.2<sz (ah V) p.1)
  (hfb:∀p∈fb,p.1∈bs) (qU:∀p∈fc,p.1∈cs) (q:Nat ->Bool) (h1:∀u∈As,q u=true ->∀v∈cs,u≠v/\¬v∈ag (L.getD u [])) (h2:∀u∈As,q u=false ->∀v∈bs,u≠v/\¬v∈ag (L.getD u [])):
  aov V L R (fz++(fb++fc))=eV (ah V) bs (fun g=>jX fb (cY fz g)*dA V L R (cY fz g) (As.filter q)) (fun _=>0)*eV (ah V) cs (fun g=>jX fc (cY fz g)*dA V L R (cY fz g) (As.filter fun v=>!q v)) (fun _=>0):=by
 have Na:=hp.nodup_iff.1 hn;rw[Gq] at Na;obtain⟨_,arh,ara⟩:=Na;rw[Gq] at arh;obtain⟨_,_,ars⟩:=arh;have hzb:∀p∈fz,¬p.1∈bs:=fun p hp' hm=>ara p.1 (aaQ.2 ⟨p,hp',rfl⟩) p.1 (aa5.2 (.inl hm)) rfl;have Z0:∀p∈fz,¬p.1∈cs:=fun p hp' hm=>ara p.1 (aaQ.2 ⟨p,hp',rfl⟩) p.1 (aa5.2 (.inr hm)) rfl
 have hmem:∀p∈fz++(fb++fc),p.1∈As:=fun p Tp=>by
  refine hp.mem_iff.2 ?_;rcases aa5.1 Tp with h |h
  ·exact aa5.2 (.inl (aaQ.2 ⟨p,h,rfl⟩))
  ·refine aa5.2 (.inr ?_);rcases aa5.1 h with h |h
   ·exact aa5.2 (.inl (hfb p h))
   ·exact aa5.2 (.inr (qU p h))
 rw[aov,amO h0 hn hlt hcl (amM hmem)]
 have e1:(fun g=>jX (fz++(fb++fc)) g*dA V L R g As)=fun g=>jX fz g*((jX fb g*dA V L R g (As.filter q))*(jX fc g*dA V L R g (As.filter fun v=>!q v))):=by
  funext g
  rw[arH,arH,aqQ g q As];grind
 rw[e1,aad fz (fun g=>(jX fb g*dA V L R g (As.filter q))*(jX fc g*dA V L R g (As.filter fun v=>!q v))) hp hn hx];refine aqY cs bs _ ?_ ?_
 ·refine C0.put (F:=fun g=>jX fb g*dA V L R g (As.filter q)) (C0.mul (arG fun p wP hm=>?_) (aqP fun u hu v hv=>h1 u (abp.1 hu).1 (abp.1 hu).2 v hv)) Z0;exact ars p.1 (hfb p wP) p.1 hm rfl
 ·refine C0.put (F:=fun g=>jX fc g*dA V L R g (As.filter fun v=>!q v)) (C0.mul (arG fun p hpc hm=>?_) (aqP fun u hu v hv=>h2 u (abp.1 hu).1 (by simpa using (abp.1 hu).2) v hv)) hzb;exact ars p.1 hm p.1 (qU p hpc) rfl
theorem asl {V:List Vr} (h0:aW V L R=0) {bs cs:List Nat} {fb fc fz:List (Nat×Nat)} (hn:As.Nodup) (hlt:∀v∈As,v<V.length) (hcl:lT L (·∈As)) (hp:As.Perm (fz.map (·.1)++(bs++cs))) (hx:∀p∈fz,p.2<sz (ah V) p.1)
  (hfb:∀p∈fb,p.1∈bs) (qU:∀p∈fc,p.1∈cs) (q:Nat ->Bool) (h1:∀u∈As,q u=true ->∀v∈cs,u≠v/\¬v∈ag (L.getD u [])) (h2:∀u∈As,q u=false ->∀v∈bs,u≠v/\¬v∈ag (L.getD u [])):
  aov V L R (fz++(fb++fc))*aov V L R (fz++([]++[]))=aov V L R (fz++(fb++[]))*aov V L R (fz++([]++fc)):=by
 rw[apA h0 hn hlt hcl hp hx hfb qU q h1 h2,apA h0 hn hlt hcl hp hx (fb:=[]) (fc:=[]) (fun p h=>by cases h) (fun p h=>by cases h) q h1 h2,apA h0 hn hlt hcl hp hx (fc:=[]) hfb (fun p h=>by cases h) q h1 h2,apA h0 hn hlt hcl hp hx (fb:=[]) (fun p h=>by cases h) qU q h1 h2];grind
variable {fx fy:List (Nat×Nat)} {r:Nat ->Bool ->Prop} {T Y:Nat ->Prop}
def ck (L:List (List Int)) (T:Nat ->Prop) (v:Nat):Prop:=∀M:Nat ->Prop,(∀v,T v ->M v) ->(∀v w,M w ->v∈ag (L.getD w []) ->M v) ->M v
theorem ck.base (h:T v):ck L T v:=fun _ h1 _=>h1 _ h
theorem ck.step {w:Nat} (h:ck L T w) (hp:v∈ag (L.getD w [])):ck L T v:=fun M h1 h2=>h2 _ _ (h M h1 h2) hp
theorem ck.ind {M:∀v,ck L T v ->Prop} (base:∀ {v:Nat} (h:T v),M v (.base h)) (step:∀ {v w:Nat} (h:ck L T w) (hp:v∈ag (L.getD w [])),M w h ->M v (h.step hp)):∀ {v:Nat} (h:ck L T v),M v h:=fun {_} h=>by
 obtain⟨_,k⟩:=h (fun v=>∃h,M v h) (fun _ h=>⟨_,base h⟩) (fun _ _ ⟨_,ih⟩ hp=>⟨_,step _ hp ih⟩);exact k
structure aoG (L:List (List Int)) (n:Nat) (X Y Z:Nat ->Prop) (r:Nat ->Bool ->Prop):Prop where
 start:∀x,X x ->r x true
 up:∀v,r v true ->¬Z v ->∀p∈ag (L.getD v []),r p true
 down:∀v c,r v c ->¬Z v ->∀w,w< n ->v∈ag (L.getD w []) ->r w false
 meet:∀v,r v false ->ck L Z v ->∀p∈ag (L.getD v []),r p true
 none:∀y c,Y y ->¬r y c
theorem ck.lt (hT:∀v,T v ->v<n) (hL:∀w,w< n ->∀v∈ag (L.getD w []),v<n) (h:ck L T v):v<n:=by
 induction h using ck.ind with
 |base h1=>exact hT _ h1
 |step _ h2 ih=>exact hL _ ih _ h2
theorem aoG.above (h:aoG L n X Y Z r) (ha:ck L X v) (hz:¬ck L Z v):r v true:=by
 induction ha using ck.ind with
 |base h1=>exact h.start _ h1
 |step h1 h2 ih=>
  have hw:¬ck L Z _:=fun hm=>hz (.step hm h2);exact h.up _ (ih hw) (fun hm=>hw (.base hm)) _ h2
theorem aoG.aa (h:aoG L n X Y Z r) (hY:∀y,Y y ->y<n) (hL:∀w,w< n ->∀v∈ag (L.getD w []),v<n) (ha:ck L Y v):∀c,r v c ->¬ck L Z v ->False:=by
 induction ha using ck.ind with
 |base h1=>exact fun c hr _=>h.none _ c h1 hr
 |step h1 h2 ih=>
  intro c hr hz;have hw:¬ck L Z _:=fun hm=>hz (.step hm h2);exact ih false (h.down _ c hr (fun hm=>hz (.base hm)) _ (h1.lt hY hL) h2) hw
theorem aoG.parents (h:aoG L n X Y Z r) (hY:∀y,Y y ->y<n) (hL:∀w,w< n ->∀v∈ag (L.getD w []),v<n) (ha:ck L (fun u=>X u∨Y u∨Z u) v) {c:Bool} (hr:r v c) (hz:¬Z v):∀p∈ag (L.getD v []),r p true:=by
 cases c with
 |true=>exact h.up v hr hz
 |false=>
  by_cases hm:ck L Z v
  ·exact h.meet v hr hm
  ·have wG:ck L X v∨ck L Y v:=by
    have key:∀ {u:Nat},ck L (fun u=>X u∨Y u∨Z u) u ->ck L X u∨ck L Y u∨ck L Z u:=by
     intro u hu;induction hu using ck.ind with
     |base h1=>
      rcases h1 with h1 |h1 |h1
      ·exact .inl (.base h1)
      ·exact .inr (.inl (.base h1))
      ·exact .inr (.inr (.base h1))
     |step _ h2 ih=>
      rcases ih with ih |ih |ih
      ·exact .inl (.step ih h2)
      ·exact .inr (.inl (.step ih h2))
      ·exact .inr (.inr (.step ih h2))
    rcases key ha with h1 |h1 |h1
    ·exact .inl h1
    ·exact .inr h1
    ·exact absurd h1 hm
   rcases wG with hx |hy
   ·exact h.up v (h.above hx hm) hz
   ·exact(h.aa hY hL hy false hr hm).elim
open Classical in
theorem ath {V:List Vr} (h0:aW V L R=0) {fz:List (Nat×Nat)} (hb:aoG L V.length (fun v=>v∈fx.map (·.1)) (fun v=>v∈fy.map (·.1)) (fun v=>v∈fz.map (·.1)) r)
  (hx:∀p∈fx,p.1<V.length) (hy:∀p∈fy,p.1<V.length) (hz:∀p∈fz,p.1<V.length/\p.2<sz (ah V) p.1) (FZ:(fz.map (·.1)).Nodup) (tF:∀p∈fx,¬p.1∈fz.map (·.1)) (Ci:∀p∈fy,¬p.1∈fz.map (·.1)):
  aov V L R (fz++(fx++fy))*aov V L R (fz++([]++[]))=aov V L R (fz++(fx++[]))*aov V L R (fz++([]++fy)):=by
 have aM:=gD h0
 have hL:∀w,w<V.length ->∀v∈ag (L.getD w []),v<V.length:=fun w hw v hv=>by
  have Mh:w<L.length:=by rw[aM.len];exact hw
  rw[b7,af Mh] at hv;obtain⟨z,ZX,rfl⟩:=aaQ.1 hv;have:=(pV.1 (aM.up w Mh)).1 z ZX;omega
 have hlt:∀ {f:List (Nat×Nat)},(∀p∈f,p.1<V.length) ->∀v∈f.map (·.1),v<V.length:=fun hf v hv=>by
  obtain⟨p,hp,rfl⟩:=aaQ.1 hv;exact hf p hp
 have hY:∀y,y∈fy.map (·.1) ->y<V.length:=fun y h=>hlt hy y h;obtain⟨T,hT⟩:∃T:Nat ->Prop,T=fun u=>u∈fx.map (·.1)∨u∈fy.map (·.1)∨u∈fz.map (·.1):=⟨_,rfl⟩
 have Ia:∀v,T v ->v<V.length:=fun v h=>by
  rw[hT] at h;rcases h with h |h |h
  ·exact hlt hx v h
  ·exact hlt hy v h
  ·exact hlt (fun p hp=>(hz p hp).1) v h
 obtain⟨Z,hZ⟩:∃Z:Nat ->Prop,Z=fun u=>u∈fz.map (·.1):=⟨_,rfl⟩;obtain⟨B,hB⟩:∃B:Nat ->Prop,B=fun u=>∃c,r u c:=⟨_,rfl⟩;obtain⟨As,Rb⟩:∃As:List Nat,As=(List.range V.length).filter fun v=>decide (ck L T v):=⟨_,rfl⟩
 have aoJ:∀v,v∈As↔ck L T v:=fun v=>by
  rw[Rb,abp,ei,bG];exact⟨fun h=>h.2,fun h=>⟨h.lt Ia hL,h⟩⟩
 have hn:As.Nodup:=by rw[Rb];exact pO.filter _
 have aj2:∀v∈As,v<V.length:=fun v h=>((aoJ v).1 h).lt Ia hL;have hcl:lT L (·∈As):=fun v hv u hu=>(aoJ u).2 (.step ((aoJ v).1 hv) hu);obtain⟨bs,KD⟩:∃bs:List Nat,bs=As.filter fun v=>decide (¬Z v/\B v):=⟨_,rfl⟩;obtain⟨cs,hcs⟩:∃cs:List Nat,cs=As.filter fun v=>decide (¬Z v/\¬B v):=⟨_,rfl⟩;have tU:∀v,v∈bs↔v∈As/\¬Z v/\B v:=fun v=>by rw[KD,abp,ei]
 have hmc:∀v,v∈cs↔v∈As/\¬Z v/\¬B v:=fun v=>by rw[hcs,abp,ei]
 have hp:As.Perm (fz.map (·.1)++(bs++cs)):=by
  refine(Jd hn ?_).2 fun v=>?_
  ·rw[Gq];refine⟨FZ,?_,fun a ha b hb' e=>?_⟩
   ·rw[Gq];refine⟨by rw[KD];exact hn.filter _,by rw[hcs];exact hn.filter _,fun a ha b hb' e=>?_⟩;subst e;exact((hmc a).1 hb').2.2 ((tU a).1 ha).2.2
   ·subst e;(have LU:Z a:=by rw[hZ];exact ha);rcases aa5.1 hb' with h |h
    ·exact((tU a).1 h).2.1 LU
    ·exact((hmc a).1 h).2.1 LU
  ·rw[aa5,aa5,tU,hmc];constructor
   ·intro h;by_cases h1:Z v
    ·left;rw[hZ] at h1;exact h1
    ·by_cases h2:B v
     ·exact .inr (.inl ⟨h,h1,h2⟩)
     ·exact .inr (.inr ⟨h,h1,h2⟩)
   ·rintro(h |h |h)
    ·exact(aoJ v).2 (.base (by rw[hT];exact .inr (.inr h)))
    ·exact h.1
    ·exact h.1
 have aru:∀v,v∈As ->ck L (fun u=>u∈fx.map (·.1)∨u∈fy.map (·.1)∨u∈fz.map (·.1)) v:=fun v h=>by have:=(aoJ v).1 h;rwa [hT] at this
 have asX:∀v∈As,(∃u,(u=v∨u∈ag (L.getD v []))/\¬Z u/\B u) ->∀u,(u=v∨u∈ag (L.getD v [])) ->¬Z u ->B u:=by
  rintro v hv ⟨u,hu,oM,EG⟩ t ht htz;rw[hB] at EG;obtain⟨c,hc⟩:=EG;have Hh:v<V.length:=aj2 v hv;rw[hB];rcases hu with rfl |hu
  ·rcases ht with rfl |ht
   ·exact⟨c,hc⟩
   ·exact⟨true,hb.parents hY hL (aru _ hv) hc (by rw[hZ] at oM;exact oM) t ht⟩
  ·have Gm:r v false:=hb.down u c hc (by rw[hZ] at oM;exact oM) v Hh hu;rcases ht with rfl |ht
   ·exact⟨false,Gm⟩
   ·by_cases iu:Z v
    ·exact⟨true,hb.meet v Gm (.base (by rw[hZ] at iu;exact iu)) t ht⟩
    ·exact⟨true,hb.parents hY hL (aru _ hv) Gm (by rw[hZ] at iu;exact iu) t ht⟩
 refine asl h0 hn aj2 hcl hp (fun p h=>(hz p h).2) (fun p h=>?_) (fun p h=>?_) (fun v=>decide (∃u,(u=v∨u∈ag (L.getD v []))/\¬Z u/\B u)) (fun u hu hq v hv=>?_) (fun u hu hq v hv=>?_)
 ·have hm:p.1∈fx.map (·.1):=aaQ.2 ⟨p,h,rfl⟩;exact(tU p.1).2 ⟨(aoJ p.1).2 (.base (by rw[hT];exact .inl hm)),by rw[hZ];exact tF p h,by rw[hB];exact⟨true,hb.start p.1 hm⟩⟩
 ·have hm:p.1∈fy.map (·.1):=aaQ.2 ⟨p,h,rfl⟩;refine(hmc p.1).2 ⟨(aoJ p.1).2 (.base (by rw[hT];exact .inr (.inl hm))),by rw[hZ];exact Ci p h,?_⟩;rw[hB];rintro⟨c,hc⟩;exact hb.none p.1 c hm hc
 ·obtain⟨_,iu,tK⟩:=(hmc v).1 hv;have hall:=asX u hu (rS hq);exact⟨fun e=>tK (hall v (.inl e.symm) iu),fun hm=>tK (hall v (.inr hm) iu)⟩
 ·obtain⟨_,iu,tK⟩:=(tU v).1 hv;have hno:=of_decide_eq_false hq;exact⟨fun e=>hno ⟨v,.inl e.symm,iu,tK⟩,fun hm=>hno ⟨v,.inr hm,iu,tK⟩⟩
def j3 (L:List (List Int)) (n:Nat) (X Z:Nat ->Prop) (v:Nat) (c:Bool):Prop:=∀M:Nat ->Bool ->Prop,(∀x,X x ->M x true) ->(∀v p,M v true ->¬Z v ->p∈ag (L.getD v []) ->M p true) ->(∀v w c,M v c ->¬Z v ->w< n ->v∈ag (L.getD w []) ->M w false) ->(∀v p,M v false ->ck L Z v ->p∈ag (L.getD v []) ->M p true) ->M v c
theorem j3.start {x:Nat} (h:X x):j3 L n X Z x true:=fun _ h1 _ _ _=>h1 _ h
theorem j3.up {p:Nat} (h:j3 L n X Z v true) (hz:¬Z v) (hp:p∈ag (L.getD v [])):j3 L n X Z p true:=fun M h1 h2 h3 h4=>h2 _ _ (h M h1 h2 h3 h4) hz hp
theorem j3.down {w:Nat} {c:Bool} (h:j3 L n X Z v c) (hz:¬Z v) (hw:w<n) (hp:v∈ag (L.getD w [])):j3 L n X Z w false:=fun M h1 h2 h3 h4=>h3 _ _ _ (h M h1 h2 h3 h4) hz hw hp
theorem j3.meet {p:Nat} (h:j3 L n X Z v false) (ha:ck L Z v) (hp:p∈ag (L.getD v [])):j3 L n X Z p true:=fun M h1 h2 h3 h4=>h4 _ _ (h M h1 h2 h3 h4) ha hp
theorem j3.ind {M:∀v c,j3 L n X Z v c ->Prop} (start:∀ {x:Nat} (h:X x),M x true (.start h)) (up:∀ {v p:Nat} (h:j3 L n X Z v true) (hz:¬Z v) (hp:p∈ag (L.getD v [])),M v true h ->M p true (h.up hz hp)) (down:∀ {v w:Nat} {c:Bool} (h:j3 L n X Z v c) (hz:¬Z v) (hw:w<n) (hp:v∈ag (L.getD w [])),M v c h ->M w false (h.down hz hw hp)) (meet:∀ {v p:Nat} (h:j3 L n X Z v false) (ha:ck L Z v) (hp:p∈ag (L.getD v [])),M v false h ->M p true (h.meet ha hp)):∀ {v:Nat} {c:Bool} (h:j3 L n X Z v c),M v c h:=fun {_ _} h=>by
 obtain⟨_,k⟩:=h (fun v c=>∃h,M v c h) (fun _ h=>⟨_,start h⟩) (fun _ _ ⟨_,ih⟩ hz hp=>⟨_,up _ hz hp ih⟩) (fun _ _ _ ⟨_,ih⟩ hz hw hp=>⟨_,down _ hz hw hp ih⟩) (fun _ _ ⟨_,ih⟩ ha hp=>⟨_,meet _ ha hp ih⟩);exact k
def aoA (L:List (List Int)) (n:Nat) (X Y Z:Nat ->Prop):Prop:=∃y c,Y y/\j3 L n X Z y c
theorem j3.ball (h:¬aoA L n X Y Z):aoG L n X Y Z (j3 L n X Z):=
 ⟨fun _ hx=>.start hx,fun _ hr hz _ hp=>.up hr hz hp,fun _ _ hr hz _ hw hp=>.down hr hz hw hp,fun _ hr hm _ hp=>.meet hr hm hp,fun y c hy hr=>h ⟨y,c,hy,hr⟩⟩
theorem j3.lt (hX:∀v,X v ->v<n) (hL:∀w,w< n ->∀v∈ag (L.getD w []),v<n) {c:Bool} (h:j3 L n X Z v c):v<n:=by
 induction h using j3.ind with
 |start hx=>exact hX _ hx
 |up _ _ hp ih=>exact hL _ ih _ hp
 |down _ _ hw _ _=>exact hw
 |meet _ _ hp ih=>exact hL _ ih _ hp
theorem j3.back (hX:∀v,X v ->v<n) (hL:∀w,w< n ->∀v∈ag (L.getD w []),v<n) {c:Bool} (h:j3 L n X Z v c):
  ∀s,j3 L n Y Z v s ->(c=true ->¬Z v) ->(c=false ->(s=true/\¬Z v)∨(s=false/\ck L Z v)) ->aoA L n Y X Z:=by
 induction h using j3.ind with
 |start hx=>exact fun s hs _ _=>⟨_,s,hx,hs⟩
 |up hr hz hp ih=>
  intro s hs h1 _;exact ih false (.down hs (h1 rfl) (hr.lt hX hL) hp) (fun _=>hz) (fun e=>by cases e)
 | @down v w c hr hz hw hp ih=>
  intro s hs _ h2
  have aX:j3 L n Y Z v true:=by
   rcases h2 rfl with ⟨rfl,hwz⟩ |⟨rfl,hm⟩
   ·exact .up hs hwz hp
   ·exact .meet hs hm hp
  exact ih true aX (fun _=>hz) (fun _=>.inl ⟨rfl,hz⟩)
 |meet hr hm hp ih=>
  intro s hs h1 _;exact ih false (.down hs (h1 rfl) (hr.lt hX hL) hp) (fun e=>by cases e) (fun _=>.inr ⟨rfl,hm⟩)
theorem aoA.sym (hX:∀v,X v ->v<n) (hL:∀w,w< n ->∀v∈ag (L.getD w []),v<n) (Ci:∀v,Y v ->¬Z v) (h:aoA L n X Y Z):aoA L n Y X Z:=by
 obtain⟨y,c,hy,hr⟩:=h;exact hr.back hX hL true (.start hy) (fun _=>Ci y hy) (fun _=>.inl ⟨rfl,Ci y hy⟩)
theorem aoA.some (h:aoA L n X Y Z):(∃x,X x)/\∃y,Y y:=by
 obtain⟨y,c,hy,hr⟩:=h;refine⟨?_,y,hy⟩;clear hy;induction hr using j3.ind with
 |start hx=>exact⟨_,hx⟩
 |up _ _ _ ih=>exact ih
 |down _ _ _ _ ih=>exact ih
 |meet _ _ _ ih=>exact ih
theorem aow (L:List (List Int)) (v:Nat):(aI L).getD v []=ag (L.getD v []):=by
 by_cases h:v<L.length
 ·rw[NB h,b7,af h];rfl
 ·rw[b7,iF (by rw[lp];omega),b7,iF (by omega)];rfl
theorem ato {a b:Nat} (h:BZ (fun u v=>u∈(aI L).getD v []) a b):ck L T b ->ck L T a:=by
 induction h using BZ.ind with
 |one h1=>exact fun hb=>.step hb (by rw[<- aow];exact h1)
 |more _ h1 ih=>exact fun hb=>ih (.step hb (by rw[<- aow];exact h1))
theorem atn {a b:Nat} (h1:a∈(aI L).getD v []) (h:BZ (fun u v=>u∈(aI L).getD v []) v b):BZ (fun u v=>u∈(aI L).getD v []) a b:=by
 induction h using BZ.ind with
 |one hp=>exact .more (.one h1) hp
 |more _ hp ih=>exact .more ih hp
theorem arJ (h:bE L=0) (h8:L.length<=8) (hs:∀v∈s,v<L.length) (u:Nat):ck L (·∈s) u↔u∈gV (aI L) s L.length:=by
 rw[ac4 h h8 hs];constructor
 ·intro ha;induction ha using ck.ind with
  |base h1=>exact⟨_,h1,.inl rfl⟩
  |step _ h2 ih=>
   obtain⟨b,hb,h3⟩:=ih;rw[<- aow] at h2;rcases h3 with rfl |h3
   ·exact⟨_,hb,.inr (.one h2)⟩
   ·exact⟨b,hb,.inr (atn h2 h3)⟩
 ·rintro⟨b,hb,rfl |h1⟩
  ·exact .base hb
  ·exact ato h1 (.base hb)
theorem apF (h:bE L=0) (h8:L.length<=8) {x y z:List Int} (hap:k7 L.length [x,y,z]=true):B4 L x y z=true↔aoA L L.length (·∈ag x) (·∈ag y) (·∈ag z):=by
 have hr:ug [x,y,z] L.length=true:=by
  rw[k7,ia] at hap;exact hap.1
 have hz:Up z L.length:=Al (eJ.1 hr z (by simp));have hzl:=U9 hz;have hgb:=(OY h).1;rw[aqV h h8 hap];constructor
 ·rintro⟨v,c,hy,hw⟩;refine⟨v,c,hy,?_⟩;clear hy;induction hw using ed.ind with
  |start hx=>exact .start hx
  |up _ h1 h2 ih=>exact .up ih h1 (by rw[<- aow];exact h2)
  |down _ h1 h2 ih=>exact .down ih h1 (ZB hgb h2).2 (by rw[<- aow];exact h2)
  |meet _ h1 h2 ih=>exact .meet ih ((arJ h h8 hzl _).2 h1) (by rw[<- aow];exact h2)
 ·rintro⟨v,c,hy,hw⟩;refine⟨v,c,hy,?_⟩;clear hy;induction hw using j3.ind with
  |start hx=>exact .start hx
  |up _ h1 h2 ih=>exact .up ih h1 (by rw[aow];exact h2)
  |down _ h1 _ h2 ih=>exact .down ih h1 (by rw[aow];exact h2)
  |meet _ h1 h2 ih=>exact .meet ih ((arJ h h8 hzl _).1 h1) (by rw[aow];exact h2)
theorem arI {x y z:List Int} (h:k7 n [x,y,z]=true):k7 n [y,x,z]=true:=by
 rw[k7,ia,ei] at h⊢;refine⟨?_,?_⟩
 ·rw[ug,eJ] at h⊢;intro l hl;refine h.1 l ?_;simp only[dK,qG,acA] at hl⊢;rcases hl with rfl |rfl |rfl
  ·exact .inr (.inl rfl)
  ·exact .inl rfl
  ·exact .inr (.inr rfl)
 ·refine(List.Perm.nodup_iff ?_).1 h.2;simp only[List.flatten_cons,List.flatten_nil,Eg];rw[<- rW, <- rW];exact List.Perm.append_right _ List.perm_append_comm
theorem aqU (h:bE L=0):∀w,w<L.length ->∀v∈ag (L.getD w []),v<L.length:=fun w _ v hv=>by
 rw[<- aow] at hv;exact(ZB (OY h).1 hv).1
theorem ati (h:bE L=0) (h8:L.length<=8) {x y z:List Int} (hap:k7 L.length [x,y,z]=true):B4 L x y z=B4 L y x z:=by
 have hsw:=arI hap
 have aX:∀ {x y z:List Int},k7 L.length [x,y,z]=true ->(∀v,v∈ag x ->v<L.length)/\∀v,v∈ag y ->¬v∈ag z:=fun {x y z} hap=>by
  have hr:ug [x,y,z] L.length=true:=by
   rw[k7,ia] at hap;exact hap.1
  have hm:=((apL hr).1 hap).2;rw[aph] at hm;exact⟨U9 (Al (eJ.1 hr x (by simp))),fun v hy hz=>hm v (abp.2 ⟨aoH _ hy,cJ hz⟩)⟩
 rw[ac6,apF h h8 hap,apF h h8 hsw];exact⟨fun ho=>ho.sym (aX hap).1 (aqU h) (aX hap).2,fun ho=>ho.sym (aX hsw).1 (aqU h) (aX hsw).2⟩
theorem atj (h:bE L=0) (h8:L.length<=8) {x y z:List Int} (hap:k7 L.length [x,y,z]=true) (ho:B4 L x y z=true):x≠[]/\y≠[]:=by
 obtain⟨⟨u,hu⟩,v,hv⟩:=((apF h h8 hap).1 ho).some;exact⟨(fun e=>by rw[e] at hu;cases hu),(fun e=>by rw[e] at hv;cases hv)⟩
theorem atk {V:List Vr} (h0:aW V L R=0) (hg:bE L=0) (h8:L.length<=8) {x y z:List Int} (hap:k7 L.length [x,y,z]=true) (ho:B4 L x y z=false) {fz:List (Nat×Nat)} (ex:fx.map (·.1)=ag x) (ey:fy.map (·.1)=ag y) (ez:fz.map (·.1)=ag z) (hz:∀p∈fz,p.2<sz (ah V) p.1):
  AD V L R (fx++fy++fz)*AD V L R fz=AD V L R (fx++fz)*AD V L R (fy++fz):=by
 have aM:=gD h0
 have hr:ug [x,y,z] L.length=true:=by
  rw[k7,ia] at hap;exact hap.1
 have hux:Up x L.length:=Al (eJ.1 hr x (by simp));have huy:Up y L.length:=Al (eJ.1 hr y (by simp));have oM:Up z L.length:=Al (eJ.1 hr z (by simp));have hm:=((apL hr).1 hap).2;rw[aph] at hm
 have hlt:∀ {f:List (Nat×Nat)} {l:List Int},f.map (·.1)=ag l ->Up l L.length ->∀p∈f,p.1<V.length:=fun {f l} e hu p hp=>by
  rw[<- aM.len];exact U9 hu p.1 (by rw[<- e];exact aaQ.2 ⟨p,hp,rfl⟩)
 have hno:¬aoA L V.length (fun v=>v∈fx.map (·.1)) (fun v=>v∈fy.map (·.1)) (fun v=>v∈fz.map (·.1)):=fun hw=>by
  rw[ex,ey,ez, <- aM.len] at hw;rw[(apF hg h8 hap).2 hw] at ho;cases ho
 have FZ:(fz.map (·.1)).Nodup:=by
  rw[ez,ag];refine Gp.2 ((pV.1 oM).2.imp_of_mem fun {a b} ha hb hab=>?_);have:=(pV.1 oM).1 a ha;omega
 have key:=ath h0 (j3.ball hno) (hlt ex hux) (hlt ey huy) (fun p hp=>⟨hlt ez oM p hp,hz p hp⟩) FZ (fun p hp Om=>?_) (fun p hp Om=>?_)
 ·have e1:AD V L R (fx++fy++fz)=AD V L R (fz++(fx++fy)):=apZ V L R _ _;have e2:AD V L R (fx++fz)=AD V L R (fz++(fx++[])):=by rw[Eg];exact apZ V L R _ _
  have e3:AD V L R (fy++fz)=AD V L R (fz++([]++fy)):=apZ V L R _ _;have e4:AD V L R fz=AD V L R (fz++([]++[])):=by rw[Eg,Eg]
  rw[e1,e2,e3,e4];exact key
 ·refine hm p.1 (abp.2 ⟨QM _ ?_,cJ (by rw[<- ez];exact Om)⟩);rw[<- ex];exact aaQ.2 ⟨p,hp,rfl⟩
 ·refine hm p.1 (abp.2 ⟨aoH _ ?_,cJ (by rw[<- ez];exact Om)⟩);rw[<- ey];exact aaQ.2 ⟨p,hp,rfl⟩
theorem ass (k:Int):mkRat k 1=(k:Rat):=by
 rw[Rat.mkRat_one]
open Go
theorem apm (h:u<10):Lib.decDigits u=[UInt8.ofNat (48+u)]:=by rw[Lib.decDigits,dif_pos h]
theorem arC (h:¬u<10):Lib.decDigits u=Lib.decDigits (u/10)++[UInt8.ofNat (48+u % 10)]:=by rw[Lib.decDigits,dif_neg h]
theorem ata (k:Nat):∀n,n<10^(k+1) ->(decDigits n).length<=k+1:=by
 induction k with
 |zero=>intro n h;rw[apm (by simpa using h)];simp
 |succ k ih=>
  intro n h;by_cases h9:n<10
  ·rw[apm h9];simp
  ·rw[arC h9,dM];have:=ih (n/10) (by rw[jc] at h;omega);simp;omega
theorem atb (h:n<256^k):(decDigits n).length<=3*k+1:=by
 apply ata;have h1:(256:Nat)^k<=(10^3)^k:=Nat.pow_le_pow_left (by decide) k;rw[<- Nat.pow_mul] at h1;have h2:10^(3*k)<=10^(3*k+1):=lW (by decide) (by omega);omega
def eY (n:Nat):List UInt8:=if n=0 then[] else decDigits n
theorem as9 (h:n≠0):eY n=eY (n/10)++[UInt8.ofNat (48+n % 10)]:=by
 rw[eY,aaO h];by_cases h9:n<10
 ·rw[apm h9,eY,aaf (by omega),iD,jM h9]
 ·rw[arC h9,eY,aaO (by omega)]
theorem ase (a:ByteArray) (w:World) (ha:a.size<=500000):
  Calls Tryz.prog 61 #[.string a] w fun e w'=>e=.returned (.string ⟨(decDigits (N a)).toArray⟩)/\Below w.heap.size w w':=by
 have HT:=aB (ow a w (by omega));have sa:=aS (ju a) ha;have oJ:=atb (Gf (N a));generalize hA':N a=A at *;clear hA' ha;by_cases A8:A=0
 ·subst A8;rw[DX] at HT;have HZ:Hid (decDigits 0=[48]):=apm (by decide);rw[HZ.o];clear oJ;go_enter Tryz.func61,Tryz.ntmps61;go_wp2_with fail
  refine(HT.o).ae ?_;rintro e w1 ⟨rfl,hw⟩;subst hw;go_wp2;go_ret;exact⟨rfl,au _ _⟩
 ·have hne:=Gg A8;have IV:Hid (eY A=decDigits A):=aaO A8;have arw:N ⟨#[10]⟩=10:=rfl;go_enter Tryz.func61,Tryz.ntmps61;go_wp2_with fail
  refine(HT.o).ae ?_;rintro e w1 ⟨rfl,hw⟩;subst hw;clear HT;go_wp2;go_loopg [0,3] A (fun n va vs wr=>∃s:ByteArray,va=.string (B n)/\vs=.string s/\(B n).size<=500000/\Hid (eY n++s.data.toList=eY A)/\Below w1.heap.size w1 wr)
  case atStart=>exact⟨⟨#[]⟩,rfl,rfl,sa,(show _=_ by simp),au _ _⟩
  case round=>
   obtain⟨s,rfl,rfl,hn,HS,cE⟩:=hrel;clear hne;by_cases h0:gk=0
   ·subst h0;rw[DX]
    have HE:Hid (s=⟨(decDigits A).toArray⟩):=by
     show _=_;have:=HS.o;rw[eY,aaf rfl,iD,IV.o] at this;apply apu;apply apv.1;rw[this]
    go_wp2;go_ret;exact⟨by rw[<- HE.o];rfl,cE⟩
   ·have hne:=Gg h0;have H9:=fun V=>agb (B gk) ⟨#[10]⟩ V hn (by show 1<=_;omega) (by rw[arw];decide);rw[bQ,arw] at H9;have HD:=aB H9;have atF:gk % 10<10:=jL _ (by decide);have hsm:(B (gk % 10)).size<=500000:=aS (kj (Nat.mod_le _ _)) hn;have Kz:=fun V=>H7 (B (gk % 10)) 0 V (by omega) (by omega);rw[bQ,apd,Ce,jM (show gk % 10<256 by omega)] at Kz;have HG:=aB Kz;have hq:=aS (kj (wh gk 10)) hn
    have Mu:s.size<=1500001:=by
     have e:=bR List.length HS.o;rw[dM,vI,IV.o] at e;omega
    have hlt:gk/10<gk:=Nat.div_lt_self (lX h0) (by decide);have hst:=as9 h0
    have iR:Hid (eY (gk/10)++(strOfNums [48+((gk % 10:Nat):Int)]++s).data.toList=eY A):=by
     show _=_;rw[<- HS.o,hst,ByteArray.data_append,Array.toList_append,I4,rW];(have this:(48+((gk % 10:Nat):Int)).toNat=48+gk % 10:=by omega);rw[gQ,ld,this]
    clear hst H9 Kz hn hsm;generalize hd':gk % 10=d at *;clear hd'
    have E4:=fun V:World=>I5 (P:=Tryz.prog) (V.alloc (.cells #[.int .u8 (48+(d:Int))] 5)) 152 5 Tryz.underlying152 Tryz.underlying5 V.heap.size 0 1 1 [48+(d:Int)] rfl (fun i hi=>by
     (obtain rfl:i=0:=by omega);rw[cC _ V.heap.size (0+0) _ _ (0,0) (kd _ _)];rfl) 9 Tryz.underlying9
    have hs1:(strOfNums [48+(d:Int)]).size=1:=strOfNums_size _;go_wp2_with fail
    refine(HD.o _).ae ?_;rintro e w2 ⟨rfl,hb2⟩;go_wp2_with fail
    refine(HG.o _).ae ?_;rintro e w3 ⟨rfl,hw3⟩;subst hw3;have atH:=E4 w3;clear E4;go_wp2;go_roundg (gk/10)
    case measure=>exact hlt
    case rel=>exact⟨strOfNums [48+(d:Int)]++s,rfl,rfl,hq,iR.o,(cE.trans (hb2.ae cE.size)).alloc (cE.trans (hb2.ae cE.size)).size _⟩
def xN (i:Nat):ByteArray:=⟨(decDigits i).toArray⟩
theorem aqe (h:i<10):(xN i).size=1:=by
 rw[xN,apm h];rfl
abbrev k8 (c:UInt8) (i:Nat):ByteArray:=⟨#[c]⟩++xN i
def G9 (k:Nat):List ByteArray:=(List.range k).map (k8 118)
theorem ar4 (k:Nat):G9 (k+1)=G9 k++[k8 118 k]:=by simp[G9,rT]
theorem apw (k:Nat):(G9 k).length=k:=by simp[G9]
theorem aqM (i:Nat) (w:World) (hi:i<=1000):Calls Tryz.prog 62 #[.int .i64 (i:Nat)] w fun e w'=>e=.returned (.string (B i))/\Below w.heap.size w w':=by
 have:=JH (i:Int) w (by omega) (by omega);rwa [pT] at this
theorem aqK (i:Nat) (w:World) (hi:i<=1000):Calls Tryz.prog 61 #[.string (B i)] w fun e w'=>e=.returned (.string (xN i))/\Below w.heap.size w w':=by
 have:=ase (B i) w (by
  have h1:(B i).size<=1000:=by rw[mK];exact aS (qT 2 i (by omega)) (by omega)
  omega)
 rwa [bQ] at this
theorem Bj.empty (w:World) (B:Nat):Bj w B (.slice none 0 0) []:=⟨rfl,.inl ⟨rfl,rfl⟩⟩
theorem Bj.step {B:Nat} {v:Value} {l:List ByteArray} (h:Bj w B v l) (hb:Below w.heap.size w w'):Bj w' B v l:=by
 refine⟨h.1,?_⟩;rcases h.2 with h1 |⟨g,cap,cur,h1,h2,h3,h4⟩
 ·exact .inl h1
 ·exact .inr ⟨g,cap,cur,h1,h2,(hb.block g (eL.1 h3).1).trans h3,h4⟩
theorem atg (k:Nat) (w:World) (hk:k<=3):
  Calls Tryz.prog 63 #[.int .i64 (k:Nat)] w fun e w'=>∃x,e=.returned x/\Bj w' w.heap.size x (G9 k)/\Below w.heap.size w w':=by
 have JG:=hid (fun (i:Nat) (hi:i<=1000) (U:World)=>aqM i U hi);have jZ:=hid (fun (i:Nat) (hi:i<=1000) (U:World)=>aqK i U hi);go_enter Tryz.func63,Tryz.ntmps63;go_wp2_with fail
 go_loopw [3,4] (fun x iv wr=>∃i:Nat,i<=k/\iv=.int .i64 i/\Hid (Bj wr w.heap.size x (G9 i))/\Hid (Below w.heap.size w wr)) (fun _ iv _=>k - (intOf iv).toNat)
 case atStart=>exact⟨0,aU _,rfl,Bj.empty _ _,au _ _⟩
 case round=>
  obtain⟨i,hi,rfl,HR,HB⟩:=hrel;by_cases hlt:i<k
  ·go_wp2_with fail
   refine(JG.o i (by omega) _).ae ?_;rintro e w1 ⟨rfl,hb1⟩;go_wp2_with fail
   refine(jZ.o i (by omega) _).ae ?_;rintro e w2 ⟨rfl,hb2⟩;have kN:=hb1.trans (hb2.ae hb1.size);have iT:=hid (HR.o.step kN);have bc:=hid (HB.o.trans (kN.ae HB.o.size));clear hb1 hb2 kN HR HB;have ky:=hid (iT.o.step ((au _ w2).alloc (ar _) (.cells #[.string (k8 118 i)] 9)));have dC:=hid (bc.o.alloc bc.o.size (.cells #[.string (k8 118 i)] 9));have pM:=hid (ahu w2 (k8 118 i));have KD:w.heap.size<=(w2.alloc (.cells #[.string (k8 118 i)] 9)).heap.size:=dC.o.size;have hvl:=apw i;have kR:=hid (ar4 i);have hdz:=aqe (i:=i) (by omega);go_wp2_with (at_builtin;refine adM rfl _ _ rfl w.heap.size _ (G9 i) (k8 118 i) rfl ky.o w2.heap.size rfl pM.o (by omega) KD ?_;intro v' w3 hr3 hg3;have dU:=hid (dC.o.grown hg3 KD (fun k e=>ky.o.own k e)))
   go_roundw
   case rel=>exact⟨i+1,by omega,by go_num,by rw[kR.o];exact hr3,dU⟩
   case measure=>simp[intOf];omega
  ·obtain rfl:i=k:=by omega
   go_wp2;go_ret;exact⟨_,rfl,HR.o,HB.o⟩
def B0 (Ls:List Nat):List Fr:=Ls.map fun a:Nat=>qF ((a:Rat)/(Ls.sum:Rat))
theorem apX (Ls:List Nat):(B0 Ls).length=Ls.length:=by simp[B0]
theorem aqN (h:n<256):qw (n:Rat)<=2:=by
 have h1:(n:Rat).num.natAbs=n:=by simp
 have h2:(n:Rat).den=1:=rfl;rw[qw,h1,h2,mK,mK];have h3:=qT 1 n (by omega);have h4:=qT 1 1 (by omega);omega
theorem apx:∀ {Ls:List Nat},(∀a∈Ls,a<=6) ->Ls.sum<=6*Ls.length
 |[],_=>ar _
 |a::l,h=>by
  have h1:=h a dJ;have h2:=apx fun b hb=>h b (eE _ hb);simp only[List.sum_cons,eU];omega
theorem asb {Ls:List Nat} (h:∀a∈Ls,a<=6) (hl:Ls.length<=3) (hs:1<=Ls.sum):∀f∈B0 Ls,f.2.1.size+f.2.2.size<=2:=by
 intro f hf;obtain⟨a,ha,rfl⟩:=aaQ.1 hf;have h6:=apx h;have h1:=h a ha;show (nu ((a:Rat)/(Ls.sum:Rat))).size+(de ((a:Rat)/(Ls.sum:Rat))).size<=2;rw[ng];have oJ:Fits 1 ((a:Rat)/(Ls.sum:Rat)):=⟨(a:Int),Ls.sum,by omega,by rw[Rat.mkRat_eq_div];rfl,by omega,by simp;omega⟩;exact O7 oJ
theorem asc {Ls:List Nat} (hs:1<=Ls.sum):iJ (B0 Ls)=true:=by
 have hne:(Ls.sum:Rat)≠0:=fun e=>by
  have e':Ls.sum=0:=by exact_mod_cast e
  omega
 have kJ:(0:Rat)<(Ls.sum:Rat):=Rat.lt_of_le_of_ne Rat.natCast_nonneg (Ne.symm hne);rw[iJ,ia];constructor
 ·rw[eJ];intro f hf;obtain⟨a,ha,rfl⟩:=aaQ.1 hf;refine cJ ?_;rw[qQ,Rat.not_lt];have ha0:(0:Rat)<=(a:Rat):=Rat.natCast_nonneg;rw[D8];exact Rat.mul_nonneg ha0 (Rat.le_of_lt (Rat.inv_pos.2 kJ))
 ·refine cJ ?_
  have key:∀(l:List Nat) (s c:Rat),(l.map fun a:Nat=>qF ((a:Rat)/c)).foldl (fun s f=>s+H5 f) s=s+(l.sum:Rat)/c:=by
   intro l;induction l with
   |nil=>intro s c;show s=s+((0:Nat):Rat)/c;rw[D8];grind
   |cons a l ih=>
    intro s c;rw[gQ,Ef,ih,show H5 (qF ((a:Rat)/c))=(a:Rat)/c from qQ _,List.sum_cons,D8,D8,D8,Rat.natCast_add,Rat.add_mul,MI]
  rw[aV,B0,key,Rat.zero_add,D8,Rat.mul_inv_cancel _ hne]
variable {cap:Nat}
theorem aq9 (Ls:List Nat) (a:Nat):iL (Ls++[a])=iL Ls++[(a:Int)]:=by simp[iL]
theorem cX.put {B:Nat} (h:cX w B (.slice (some ⟨g,0,none⟩) n cap) l) (j:Nat) (y:Int):cX (w.setCell ⟨g,j,none⟩ (.int .i64 y)) B (.slice (some ⟨g,0,none⟩) n cap) (l.set j y):=by
 rcases h.2 with ⟨h1,_⟩ |⟨g',cap',cur,h1,h2,h3,h4,h5,h6,h7⟩
 ·cases h1
 ·cases h1;refine⟨by simp,.inr ⟨g,cap,_,by simp,h2,mM w g j _ _ _ h3,by simpa using h4,h5,by simpa using h6,?_⟩⟩;rw[Array.toList_setIfInBounds,rU,Gr, <- h7,List.take_set]
theorem kq.lower {B:Nat} {v:Value} {l:List Fr} (h:kq w B v l) (hb:B'<=B):kq w B' v l:=by
 refine⟨h.1,?_⟩;rcases h.2 with h1 |⟨g,cap,cur,h1,h2,h3,h4⟩
 ·exact .inl h1
 ·exact .inr ⟨g,cap,cur,h1,aS hb h2,h3,h4⟩
theorem cX.emptyB (w:World) (B:Nat):cX w B (.slice none 0 0) []:=⟨rfl,.inl ⟨rfl,rfl⟩⟩
structure AQ (Ls:List Nat) (i:Nat):Prop where
 len:Ls.length=i
 six:∀a∈Ls,a<=6
theorem asa (d:Option Addr) (cd k n:Nat) (W:List Int) (w:World) (hW:aaK w d W) (hr:∀x∈W, -9223372036854775808<=x/\x<=9223372036854775807) (hk:k<=100000) (gh:1<=n) (yS:n<=3) (CR:W.length<=140737488355328):
  Calls Tryz.prog 64 #[.slice d W.length cd,.int .i64 (k:Nat),.int .i64 (n:Nat)] w fun e w'=>∃(x:Value) (Ls:List Nat),e=.returned x/\kq w' w.heap.size x (B0 Ls)/\AQ Ls n/\1<=Ls.sum/\Below w.heap.size w w':=by
 have HW:=hid hW;have HR:=hid hr;have LV:=hid (fun (c:Int) (h: -9223372036854775808<=c/\c<=9223372036854775807) (U:World)=>apy c 7 U h.1 h.2 (by omega) (by omega));have mC:=hid (fun (c:Int)=>apz c (n:=7) (by omega));have Dx:=hid (fun (a:Nat) (h:a<=100) (U:World)=>Np (a:Int) U (by omega) (by omega))
 have arU:Hid (∀(a:Nat),a<=100 ->∀U:World,Calls Tryz.prog 22 #[.int .i64 (a:Nat)] U fun e w'=>e=.returned (dP (qF (a:Rat)))/\Below U.heap.size U w'):=fun a ha U=>by
  have h:=Dx.o a ha U;rw[ass] at h;exact h
 have Mt:Hid (∀(a s:Nat),a<=100 ->1<=s ->s<=100 ->∀U:World,Calls Tryz.prog 92 #[dP (qF (a:Rat)),dP (qF (s:Rat))] U fun e w'=>e=.returned (.tuple #[dP (qF ((a:Rat)/(s:Rat))),.int .i64 0])/\Below U.heap.size U w'):=fun a s ha hs1 hs2 U=>by
  have hne:(s:Rat)≠0:=fun e=>by
   (have e':s=0:=by exact_mod_cast e);omega
  have h:=agc (aH (a:Rat)) (aH (s:Rat)) (nu (a:Rat)) (de (a:Rat)) (nu (s:Rat)) (de (s:Rat)) U (by rw[gC];exact hne) (by rw[ng];have:=aqN (n:=a) (by omega);omega) (by rw[ng];have:=aqN (n:=s) (by omega);omega);rw[gC,gC] at h;exact h
 clear Dx;have Dx:=arU;clear arU hW hr;go_enter Tryz.func64,Tryz.ntmps64;go_wp2_with fail
 go_loopw [7,8,9] (fun x sv iv wr=>∃(i:Nat) (Ls:List Nat),i<=n/\iv=.int .i64 i/\sv=.int .i64 (Ls.sum:Nat)/\Hid (AQ Ls i)/\Hid (cX wr w.heap.size x (iL Ls))/\Hid (Below w.heap.size w wr)) (fun _ _ iv _=>n - (intOf iv).toNat)
 case atStart=>exact⟨0,[],aU _,rfl,rfl,⟨rfl,fun a ha=>by cases ha⟩,cX.emptyB _ _,au _ _⟩
 case round=>
  obtain⟨i,Ls,hi,rfl,rfl,HL,HX,HB⟩:=hrel;by_cases hlt:i<n
  ·have ap2:Ls.sum<=100:=by have:=apx HL.o.six;have:=HL.o.len;omega
   have dh:=HL.o.len;by_cases hw0:0<W.length
   ·obtain⟨ki,hki⟩:∃ki,ki=k+i:=⟨_,rfl⟩;(have hwr:IntKind.i64.wrap ((k:Int)+(i:Int))=(ki:Int):=by rw[eo];omega);obtain⟨t,ht⟩:∃t,t=ki % W.length:=⟨_,rfl⟩;(have EH:t<W.length:=by rw[ht];exact jL _ hw0);(have apj:(ki:Int) % (W.length:Int)=(t:Int):=by rw[ht,Af]);obtain⟨g',o',rfl,iK,cW⟩:=(HW.o.aa HB.o) t EH;have hxr:=HR.o W[t] (bH EH);have hpl:=mC.o W[t];have BV:=hid (fun U=>LV.o W[t] hxr U);(have atA:(0:Int)<(W.length:Int):=by omega);(have atB:¬(W.length:Int)=0:=by omega);(have anZ:IntKind.i64.wrap ((ki:Int) % (W.length:Int))=(t:Int):=by rw[apj,eo];omega);clear ht hki hw0;generalize W[t]=wt at *;generalize SM wt 7=p at *;go_wp2_with fail
    refine(BV.o _).ae ?_;rintro e w1 ⟨rfl,hb1⟩;have Bl:=hid (HX.o.aa hb1);have eR:=hid (HB.o.trans (hb1.ae HB.o.size));have Ik:=hid (Bl.o.aa ((au _ w1).alloc (ar _) (.cells #[.int .i64 (p:Int)] 3)));have dC:=hid (eR.o.alloc eR.o.size (.cells #[.int .i64 (p:Int)] 3));have F2:=hid (JS w1 (p:Int));have KD:w.heap.size<=(w1.alloc (.cells #[.int .i64 (p:Int)] 3)).heap.size:=dC.o.size;(have jB:(iL Ls).length=i:=by rw[ba];exact dh);have kR:=hid (aq9 Ls p);(have hsm:IntKind.i64.wrap ((Ls.sum:Int)+(p:Int))=(((Ls++[p]).sum:Nat):Int):=by rw[eo];simp;omega);have HWT:Hid (AQ (Ls++[p]) (i+1)):=⟨by simp[dh],fun a ha=>by rcases aa5.1 ha with ha |ha;exact HL.o.six a ha;rw[fX.1 ha];omega⟩;generalize hs2:(Ls++[p]).sum=s2 at *;have iR:=hid hs2;clear hs2;clear cW hb1 HX HB Bl eR;go_wp2_with (at_builtin;refine GF rfl _ _ rfl w.heap.size _ (iL Ls) [(p:Int)] rfl Ik.o (some ⟨w1.heap.size,0,none⟩) 1 rfl F2.o (fun e=>by cases e) (by simp;omega) KD ?_;intro v' w3 hr3 hg3;have dU:=hid (dC.o.grown hg3 KD (fun k e=>Ik.o.own k e)))
    go_roundw
    case rel=>exact⟨i+1,Ls++[p],by omega,by go_num,by rw[iR.o],HWT,by rw[kR.o];exact hr3,dU⟩
    case measure=>simp[intOf];omega
   ·have oI:¬(0:Int)<(W.length:Int):=by omega
    have aoh:decide (0<W.length)=false:=abg (by omega);have Ik:=hid (HX.o.aa ((au _ wr).alloc (ar _) (.cells #[.int .i64 1] 3)));have dC:=hid (HB.o.alloc HB.o.size (.cells #[.int .i64 1] 3));have F2:=hid (JS wr 1);have KD:w.heap.size<=(wr.alloc (.cells #[.int .i64 1] 3)).heap.size:=dC.o.size;(have jB:(iL Ls).length=i:=by rw[ba];exact dh);have kR:=hid (aq9 Ls 1);(have hsm:IntKind.i64.wrap ((Ls.sum:Int)+1)=(((Ls++[1]).sum:Nat):Int):=by rw[eo];simp;omega);have HWT:Hid (AQ (Ls++[1]) (i+1)):=⟨by simp[dh],fun a ha=>by rcases aa5.1 ha with ha |ha;exact HL.o.six a ha;rw[fX.1 ha];omega⟩;have iR:=hid (Eq.refl (Ls++[1]).sum);generalize hs2:(Ls++[1]).sum=s2 at *;have Bz:=hid hs2;clear hs2 iR HX HB hw0;go_wp2_with (at_builtin;refine GF rfl _ _ rfl w.heap.size _ (iL Ls) [(1:Int)] rfl Ik.o (some ⟨wr.heap.size,0,none⟩) 1 rfl F2.o (fun e=>by cases e) (by simp;omega) KD ?_;intro v' w3 hr3 hg3;have dU:=hid (dC.o.grown hg3 KD (fun k e=>Ik.o.own k e)))
    go_roundw
    case rel=>exact⟨i+1,Ls++[1],by omega,by go_num,by rw[Bz.o],HWT,by rw[kR.o];exact hr3,dU⟩
    case measure=>simp[intOf];omega
  ·obtain rfl:n=i:=by omega
   (have ap2:Ls.sum<=100:=by have:=apx HL.o.six;have:=HL.o.len;omega);have dh:=HL.o.len;by_cases hs0:Ls.sum=0
   focus
    (have Tu:0<(iL Ls).length:=by rw[ba];omega);rcases HX.o.cases with ⟨_,hnil⟩ |⟨g,cap,rfl,hg0,hg,hc1,hc2,hh⟩
    ·rw[hnil] at Tu;exact absurd Tu (by simp)
    focus
     have hput:=HX.o.put 0 1;obtain⟨hc0,hf0⟩:=hh 0 (by simpa using Tu);rw[bT] at hc0 hf0;have uF:=hid (HB.o.setCell (p:=⟨g,0,none⟩) hg0 (.int .i64 1));(have ap5:(iL Ls).length=n:=by rw[ba];exact dh);rw[ap5]
     obtain⟨a0,l0,rfl⟩:∃a0 l0,Ls=a0::l0:=by
      cases Ls with
      |nil=>rw[<- dh] at gh;exact absurd gh (by simp)
      |cons a0 l0=>exact⟨a0,l0,rfl⟩
     (have ha0:a0=0/\l0.sum=0:=by simp at hs0;exact hs0)
     have z7:Hid (cX (wr.setCell ⟨g,0,none⟩ (.int .i64 1)) w.heap.size (.slice (some ⟨g,0,none⟩) n cap) (iL (1::l0))):=by
      rw[ap5] at hput;exact hput
     have sG:Hid (AQ (1::l0) n):=⟨by simpa using dh,fun a ha=>by rcases dK.1 ha with rfl |ha;omega;exact HL.o.six a (eE _ ha)⟩;have iB:Hid ((1::l0).sum=1/\1<=1/\1<=100):=⟨by simp[ha0.2],by omega,by omega⟩;(have cU:(0:Int)<(n:Int):=by omega);rw[hs0,show ((0:Nat):Int)=0 from rfl];clear hs0 hput hh HX HB ap5 ap2 dh HL;go_upto_region 14 with fail
     clear hc0 hf0 ha0;generalize (wr.setCell ⟨g,0,none⟩ (.int .i64 1))=wb at *;have sR:=z7;have bc:=uF;obtain⟨S,hS⟩:∃S:Nat,S=1:=⟨1,rfl⟩;obtain⟨k9,hL2⟩:∃k9,k9=1::l0:=⟨_,rfl⟩;rw[<- hL2] at sG iB sR;(have arM:Hid (k9.sum=S/\1<=S/\S<=100):=by rw[hS];exact iB);(have e1:(1:Int)=((S:Nat):Int):=by rw[hS];rfl);rw[e1];clear iB z7 uF hL2 hS e1;have iB:=arM;clear arM
   rotate_left
   focus
    (have ap3:¬(Ls.sum:Int)=0:=by omega);obtain⟨S,hS⟩:∃S,Ls.sum=S:=⟨_,rfl⟩;have iB:Hid (Ls.sum=S/\1<=S/\S<=100):=⟨hS,by omega,by omega⟩;rw[hS] at ap3⊢;obtain⟨k9,hL2⟩:∃k9,k9=Ls:=⟨_,rfl⟩;rw[<- hL2] at HL HX iB;have sG:=HL;have sR:=HX;have bc:=HB;(have Gy:((S:Int)==0)=false:=by simpa using ap3);clear hs0 hS hL2 HL HX HB ap2 dh;go_upto_region 14 with fail
    clear ap3 Gy;generalize wr=wb at *
   all_goals
    obtain⟨d7,xD,e7,wT⟩:=sR.o.ints;have HI7:=hid wT;(have arl:(iL k9).length=n:=by rw[ba];exact sG.o.len);rw[arl] at e7;cases e7;have hS1:=iB.o.2.1;have Ud:=iB.o.2.2;have vB:=hid iB.o.1;(have kz:Hid ((B0 k9).length=n):=by show _=_;rw[apX];exact sG.o.len);(have BQ:Hid (∀j (h:j<k9.length),(B0 k9)[j]'(by rw[apX];exact h)=qF ((k9[j]:Rat)/(S:Rat))):=fun j h=>by simp[B0,vB.o]);clear wT iB;go_wp2_with fail
    go_loopw [11,12] (fun x iv wr2=>∃i:Nat,i<=n/\iv=.int .i64 i/\Hid (kq wr2 wb.heap.size x ((B0 k9).take i))/\Hid (Below wb.heap.size wb wr2)) (fun _ iv _=>n - (intOf iv).toNat)
    case atStart=>exact⟨0,aU _,rfl,kq.empty _ _,au _ _⟩
    case round=>
     obtain⟨i,hi,rfl,HY,vv⟩:=hrel;by_cases hlt:i<n
     ·have zM:i<(iL k9).length:=by rw[arl];exact hlt
      (have wK:i<k9.length:=by rw[<- ba];exact zM);obtain⟨g',o',e8,iK,cL⟩:=(HI7.o.aa vv.o) i zM;cases e8;(try rw[bT] at cL)
      (have e1:(iL k9)[i]'zM=((k9[i]'wK:Nat):Int):=by simp[iL]);rw[e1] at cL;have ha6:=sG.o.six (k9[i]'wK) (bH wK);have zU:=BQ.o i wK;(have HST:Hid ((B0 k9).take i++[qF (((k9[i]'wK:Nat):Rat)/(S:Rat))]=(B0 k9).take (i+1)):=by show _=_;rw[fR (by rw[kz.o];exact hlt),zU]);clear e1 zU;generalize (k9[i]'wK)=av at *;have uw:=hid (fun U=>Dx.o av (by omega) U);have Dy:=hid (fun U=>Dx.o S (by omega) U);have atx:=hid (fun U=>Mt.o av S (by omega) (by omega) (by omega) U);generalize qF ((av:Nat):Rat)=fa at *;generalize qF ((S:Nat):Rat)=fs at *;generalize qF (((av:Nat):Rat)/((S:Nat):Rat))=fq at *;obtain⟨an,ax,ay⟩:=fa;obtain⟨sn,sx,sy⟩:=fs;obtain⟨qn,qx,qy⟩:=fq;go_wp2_with fail
      refine(uw.o _).ae ?_;rintro e v1 ⟨rfl,hb1⟩;go_wp2_with fail
      refine(Dy.o _).ae ?_;rintro e v2 ⟨rfl,hb2⟩;go_wp2_with fail
      refine(atx.o _).ae ?_;rintro e v3 ⟨rfl,hb3⟩;have art:=hb2.trans (hb3.ae hb2.size);have aoz:=hb1.trans (art.ae hb1.size);clear hb1 hb2 hb3 art;have bW:=aC.new v3 qn qx qy;have hb4:=aoz.alloc aoz.size (FC qn qx qy);obtain⟨k0,k1,k2, -⟩:=bW.facts
      have arp:aC ((v3.alloc (FC qn qx qy)).alloc (FC qn qx qy)) (v3.heap.size+1) qn qx qy:=by
       have h:=aC.new (v3.alloc (FC qn qx qy)) qn qx qy;rwa [cN] at h
      have hb5:=hb4.alloc hb4.size (FC qn qx qy);have VH:=hid (HY.o.aa hb5);have eD:=hid (vv.o.trans (hb5.ae vv.o.size));have uE:=hid arp;have KD:wb.heap.size<=((v3.alloc (FC qn qx qy)).alloc (FC qn qx qy)).heap.size:=eD.o.size;(have EH:((B0 k9).take i).length<=3:=by rw[eZ,kz.o];omega);clear aoz hb4 hb5 bW arp HY vv cL;go_wp2_with (at_builtin;refine Xs rfl _ _ rfl wb.heap.size _ ((B0 k9).take i) (qn,qx,qy) rfl VH.o (v3.heap.size+1) rfl uE.o (by omega) KD ?_;intro v' v6 Ke hg6;have IY:=hid (eD.o.grown hg6 KD (fun k e=>VH.o.own k e)))
      go_roundw
      case rel=>exact⟨i+1,by omega,by go_num,by rw[<- HST.o];exact Ke,IY⟩
      case measure=>simp[intOf];omega
     ·obtain rfl:i=n:=by omega
      go_wp2;go_ret;have hr:=HY.o;rw[jd (by rw[kz.o];exact ar _)] at hr;exact⟨_,k9,rfl,hr.lower bc.o.size,sG.o,by rw[vB.o];exact hS1,bc.o.trans (vv.o.ae bc.o.size)⟩
def dR (t:TypeId) (w w':World):Prop:=∀(k:Nat) (c:Array Value) (fr:Nat×Nat),w.heap[k]? =some (Obj.cells c t fr) ->w'.heap[k]? =some (Obj.cells c t fr)
theorem dR.aa {t:TypeId} (hb:Below w.heap.size w w'):dR t w w':=fun k _ _ h=>(hb.block k (eL.1 h).1).trans h
theorem dR.grown {t t':TypeId} {row:Option Nat} (hg:w.grownBy w' row) (hr:∀g,row=some g ->∃c fr,w.heap[g]? =some (.cells c t' fr)) (hne:t≠t'):dR t w w':=fun k c fr h=>by
 refine(hg.block k (eL.1 h).1 fun e=>?_).trans h;obtain⟨c',Rc,h'⟩:=hr k e.symm;rw[h] at h';cases h';exact hne rfl
theorem dR.set {t t':TypeId} {b:Nat} {c':Array Value} {Rc:Nat×Nat} (hb:w.heap[b]? =some (.cells c' t' Rc)) (hne:t≠t') (j:Nat) (y:Value):dR t w (w.setCell ⟨b,j,none⟩ y):=fun k c fr h=>by
 refine(je w ⟨b,j,none⟩ y k fun e=>?_).trans h;have e':k=b:=e;subst e';rw[h] at hb;cases hb;exact hne rfl
theorem dR.trans {t:TypeId} {a b c:World} (h:dR t a b) (k:dR t b c):dR t a c:=fun i cs fr hi=>k i cs fr (h i cs fr hi)
theorem Bp {B:Nat} {e:TypeId} {s:Nat} {v:Value} (h:w.ownsRow B e s v n xs) (hk:dR e w w'):w'.ownsRow B e s v n xs:=by
 refine⟨h.1,?_⟩;rcases h.2 with h1 |⟨g,cap,cur,h1,h2,h3,h4⟩
 ·exact .inl h1
 ·exact .inr ⟨g,cap,cur,h1,h2,hk _ _ _ h3,h4⟩
theorem apC {B:Nat} {e:TypeId} {s:Nat} {v:Value} (h:w.ownsRow B e s v n xs):∀g,v.ownBlock=some g ->∃c fr,w.heap[g]? =some (.cells c e fr):=fun g hg=>by
 rcases h.2 with ⟨rfl,_⟩ |⟨g',cap,cur,rfl,h2,h3,h4⟩
 ·cases hg
 ·cases hg;exact⟨_,_,h3⟩
theorem apD {B:Nat} {e:TypeId} {s:Nat} {v:Value} (h:w.ownsRow B e s v n xs):∀g,v.ownBlock=some g ->B<=g:=fun g hg=>by
 rcases h.2 with ⟨rfl,_⟩ |⟨g',cap,cur,rfl,h2,h3,h4⟩
 ·cases hg
 ·cases hg;exact h2
theorem Bc {B:Nat} {e:TypeId} {s:Nat} {v:Value} (h:w.ownsRow B e s v n xs):∃a c,v=.slice a n c/\(a=none ->c=0):=by
 rcases h.2 with ⟨rfl,rfl⟩ |⟨g',cap,cur,rfl,h2,h3,h4⟩
 ·exact⟨none,0,rfl,fun _=>rfl⟩
 ·exact⟨_,_,rfl,fun e=>by cases e⟩
theorem apg {B:Nat} {e:TypeId} {s:Nat} {v:Value} (h:w.ownsRow B e s v n xs) (hb:B'<=B):w.ownsRow B' e s v n xs:=by
 refine⟨h.1,?_⟩;rcases h.2 with h1 |⟨g,cap,cur,h1,h2,h3,h4⟩
 ·exact .inl h1
 ·exact .inr ⟨g,cap,cur,h1,aS hb h2,h3,h4⟩
theorem apE {B:Nat} {e:TypeId} {s:Nat} (h:w.ownsRow B e s (.slice a n c) n xs) (hj:j<xs.length):∃g,a=some ⟨g,0,none⟩/\g<w.heap.size/\w.cell? ⟨g,j,none⟩=some xs[j]:=by
 rcases h.2 with ⟨h1,h2⟩ |⟨g',cap,cur,h1,h2,h3,h4,h5,h6,h7⟩
 ·have:=h.1;subst h2;rw[jw] at this;omega
 ·cases h1;refine⟨g',rfl,(eL.1 h3).1,?_⟩;have hl:j<n*s:=by have:=h.1;omega
  rw[cC w g' j _ _ (0,0) h3]
  have e':cur[j]? =(cur.toList.take (n*s))[j]?:=by
   rw[rV,aaf hl,wm]
  rw[e',h7,af hj]
abbrev PV:Type:=ByteArray×Value×List ByteArray
def vC:List PV ->List Value
 |[]=>[]
 |p::l=>.string p.1::p.2.1::vC l
theorem apf:∀l,(vC l).length=l.length*2
 |[]=>rfl
 |p::l=>by
  show (vC l).length+1+1=(l.length+1)*2;rw[apf l];omega
theorem aqC (p:PV):∀l,vC (l++[p])=vC l++[.string p.1,p.2.1]
 |[]=>rfl
 |q::l=>by
  show Value.string q.1::q.2.1::vC (l++[p])=_;rw[aqC p l];rfl
theorem aqB:∀(l:List PV) (k:Nat) (h:k<l.length),(vC l)[k*2]'(by rw[apf];omega)=.string l[k].1/\(vC l)[k*2+1]'(by rw[apf];omega)=l[k].2.1
 |p::l,0,_=>⟨rfl,rfl⟩
 |p::l,k+1,h=>by
  obtain⟨h1,h2⟩:=aqB l k (by simpa using h);refine⟨?_,?_⟩
  ·simp only[show (k+1)*2=k*2+1+1 by omega];exact h1
  ·simp only[show (k+1)*2+1=k*2+1+1+1 by omega];exact h2
def fF (w:World) (B:Nat) (x:Value) (P:List PV):Prop:=w.ownsRow B 69 2 x P.length (vC P)/\∀p∈P,Bj w B p.2.1 p.2.2
abbrev PL:Type:=Value×List Int
def gG (w:World) (B:Nat) (y:Value) (P:List PL):Prop:=w.ownsRow B 27 1 y P.length (P.map (·.1))/\∀p∈P,cX w B p.1 p.2
abbrev PR:Type:=Value×List Fr
def gw (w:World) (B:Nat) (z:Value) (P:List PR):Prop:=w.ownsRow B 37 1 z P.length (P.map (·.1))/\∀p∈P,kq w B p.1 p.2
theorem fF.keep {B:Nat} {P:List PV} (h:fF w B x P) (h1:dR 69 w w') (h2:dR 9 w w'):fF w' B x P:=⟨Bp h.1 h1,fun p hp=>Bp (h.2 p hp) h2⟩
theorem gG.keep {B:Nat} {P:List PL} (h:gG w B x P) (h1:dR 27 w w') (h2:dR 3 w w'):gG w' B x P:=⟨Bp h.1 h1,fun p hp=>Bp (h.2 p hp) h2⟩
theorem gw.keep {B:Nat} {P:List PR} (h:gw w B x P) (h1:dR 37 w w') (h2:dR 32 w w'):gw w' B x P:=⟨Bp h.1 h1,fun p hp=>Bp (h.2 p hp) h2⟩
theorem fF.nil (w:World) (B:Nat):fF w B (.slice none 0 0) []:=⟨⟨rfl,.inl ⟨rfl,rfl⟩⟩,fun p hp=>by cases hp⟩
theorem gG.nil (w:World) (B:Nat):gG w B (.slice none 0 0) []:=⟨⟨rfl,.inl ⟨rfl,rfl⟩⟩,fun p hp=>by cases hp⟩
theorem gw.nil (w:World) (B:Nat):gw w B (.slice none 0 0) []:=⟨⟨rfl,.inl ⟨rfl,rfl⟩⟩,fun p hp=>by cases hp⟩
theorem Tryz.infoInts:(Tryz.prog.info? 27).map (fun i=>(i.zero,i.size,i.bytes))=some (some (.slice none 0 0),1,24):=by kernel_rfl
theorem Tryz.infoFracs:(Tryz.prog.info? 37).map (fun i=>(i.zero,i.size,i.bytes))=some (some (.slice none 0 0),1,24):=by kernel_rfl
theorem Tryz.infoVar:(Tryz.prog.info? 69).map (fun i=>(i.zero,i.size,i.bytes))=some (some (.agg #[.string ⟨#[]⟩,.slice none 0 0]),2,40):=by kernel_rfl
theorem ar0 {o:Oper} {a:Act} (hgd:o.guard=none) (s x:Operand)
  (ho:o.op=.call {callee:=.builtin .append,args:= #[s,x],argTypes:= #[23,23]}) (base:Nat) (v:Value) (P:List PL) (q:Value) (hq:cM q) (hs:a.eval s=v) (hown:w.ownsRow base 27 1 v P.length (P.map (·.1))) (g:Nat) (hx:a.eval x=.slice (some ⟨g,0,none⟩) 1 1) (hg:w.cell? ⟨g,0,none⟩=some q) (hlen:P.length+1<=100000) (hbase:base<=w.heap.size)
  (h:∀v' w',w'.ownsRow base 27 1 v' (P.length+1) (P.map (·.1)++[q]) ->w.grownBy w' v.ownBlock ->wpList Tryz.prog ops Q rest (a.put o.dst v') w'):wpList Tryz.prog ops Q (o::rest) a w:=by
 obtain⟨i0,cU,hz0,hz1,hz2⟩:=eT Tryz.infoInts;refine Qz _ hgd s x 23 ho base 27 i0 (.slice none 0 0) 1 24 Tryz.underlying23 cU hz0 hz1 hz2 rfl (by decide) v P.length _ hs hown ⟨g,0,none⟩ 1 1 [q] hx rfl ?_ ?_ (by unfold maxLen;omega) (by omega) hbase ?_
 ·intro j u hj;match j,hj with
  |0,hj=>cases hj;exact hg
  |j+1,hj=>simp at hj
 ·intro u hu;simp only[dK,qG,acA] at hu;subst hu;obtain⟨_,_,_,rfl⟩:=hq;rfl
 ·intro v' w' h1 h2 _;exact h v' w' h1 h2
theorem arZ {o:Oper} {a:Act} (hgd:o.guard=none) (s x:Operand)
  (ho:o.op=.call {callee:=.builtin .append,args:= #[s,x],argTypes:= #[24,24]}) (base:Nat) (v:Value) (P:List PR) (q:Value) (hq:cM q) (hs:a.eval s=v) (hown:w.ownsRow base 37 1 v P.length (P.map (·.1))) (g:Nat) (hx:a.eval x=.slice (some ⟨g,0,none⟩) 1 1) (hg:w.cell? ⟨g,0,none⟩=some q) (hlen:P.length+1<=100000) (hbase:base<=w.heap.size)
  (h:∀v' w',w'.ownsRow base 37 1 v' (P.length+1) (P.map (·.1)++[q]) ->w.grownBy w' v.ownBlock ->wpList Tryz.prog ops Q rest (a.put o.dst v') w'):wpList Tryz.prog ops Q (o::rest) a w:=by
 obtain⟨i0,cU,hz0,hz1,hz2⟩:=eT Tryz.infoFracs;refine Qz _ hgd s x 24 ho base 37 i0 (.slice none 0 0) 1 24 Tryz.underlying24 cU hz0 hz1 hz2 rfl (by decide) v P.length _ hs hown ⟨g,0,none⟩ 1 1 [q] hx rfl ?_ ?_ (by unfold maxLen;omega) (by omega) hbase ?_
 ·intro j u hj;match j,hj with
  |0,hj=>cases hj;exact hg
  |j+1,hj=>simp at hj
 ·intro u hu;simp only[dK,qG,acA] at hu;subst hu;obtain⟨_,_,_,rfl⟩:=hq;rfl
 ·intro v' w' h1 h2 _;exact h v' w' h1 h2
theorem arY {o:Oper} {a:Act} (s x:Operand)
  (ho:o.op=.call {callee:=.builtin .append,args:= #[s,x],argTypes:= #[22,22]}) (base:Nat) (v:Value) (P:List PV) (nm:ByteArray) (q:Value) (hq:cM q) (hs:a.eval s=v) (hown:w.ownsRow base 69 2 v P.length (vC P)) (g:Nat) (hx:a.eval x=.slice (some ⟨g,0,none⟩) 1 1) (hg0:w.cell? ⟨g,0,none⟩=some (.string nm)) (hg1:w.cell? ⟨g,1,none⟩=some q) (hlen:P.length+1<=100000) (hbase:base<=w.heap.size)
  (h:∀v' w',w'.ownsRow base 69 2 v' (P.length+1) (vC P++[.string nm,q]) ->w.grownBy w' v.ownBlock ->K (a.put o.dst v') w'):o.wp Tryz.prog a w K Q:=by
 obtain⟨i0,cU,hz0,hz1,hz2⟩:=eT Tryz.infoVar;refine wp_append_own _ s x 22 ho base 69 i0 (.agg #[.string ⟨#[]⟩,.slice none 0 0]) 2 40 Tryz.underlying22 cU hz0 hz1 hz2 rfl (by decide) v P.length _ hs hown ⟨g,0,none⟩ 1 1 [.string nm,q] hx rfl ?_ ?_ (by unfold maxLen;omega) (by omega) hbase ?_
 ·intro j u hj;match j,hj with
  |0,hj=>cases hj;exact hg0
  |1,hj=>cases hj;exact hg1
  |j+2,hj=>simp at hj
 ·intro u hu;simp only[dK,qG,acA] at hu;rcases hu with rfl |rfl
  ·rfl
  ·obtain⟨_,_,_,rfl⟩:=hq;rfl
 ·intro v' w' h1 h2 _;exact h v' w' h1 h2
theorem arz (a:List Fr):∀l,oO (l++a)=oO l++oO a
 |[]=>rfl
 |f::l=>by
  show Value.bool f.1::Value.string f.2.1::Value.string f.2.2::oO (l++a)=_;rw[arz a l];rfl
theorem ary {o:Nat}:∀ {l:List Fr},bZ w (some ⟨g,o,none⟩) l ->∀j u,(oO l)[j]? =some u ->w.cell? ((⟨g,o,none⟩:Addr).add j)=some u/\u.oneCell'=true:=by
 intro l h j u hj;have oH:j<(oO l).length:=(o0.1 hj).1;rw[UN] at oH;have hk:j/3<l.length:=by omega
 obtain⟨g',o',e,_,h0,h1,h2⟩:=h (j/3) hk;cases e
 have hadd:(⟨g,o,none⟩:Addr).add j=⟨g,o+j,none⟩:=by
  rw[Addr.add];by_cases h0:j=0
  ·subst h0;simp
  ·simp[h0]
 have ap6:=O4 l (j/3) hk;rw[hadd];have hm:j % 3=0∨j % 3=1∨j % 3=2:=by omega
 rcases hm with hm |hm |hm
 ·have e:j=j/3*3:=by omega
  rw[e] at hj⊢;rw[ap6.1] at hj;cases hj;exact⟨h0,rfl⟩
 ·have e:j=j/3*3+1:=by omega
  rw[e] at hj⊢;rw[ap6.2.1] at hj;cases hj;exact⟨by rw[<- yo];exact h1,rfl⟩
 ·have e:j=j/3*3+2:=by omega
  rw[e] at hj⊢;rw[ap6.2.2] at hj;cases hj;exact⟨by rw[<- yo];exact h2,rfl⟩
theorem ar1 {o:Oper} {a:Act} (hgd:o.guard=none) (s x:Operand)
  (ho:o.op=.call {callee:=.builtin .append,args:= #[s,x],argTypes:= #[37,37]}) (base:Nat) (v:Value) (l la:List Fr) (hs:a.eval s=v) (hown:kq w base v l) (g og ca:Nat) (hx:a.eval x=.slice (some ⟨g,og,none⟩) la.length ca) (hf:bZ w (some ⟨g,og,none⟩) la) (hlen:l.length+la.length<=100000) (hbase:base<=w.heap.size)
  (h:∀v' w',kq w' base v' (l++la) ->w.grownBy w' v.ownBlock ->wpList Tryz.prog ops Q rest (a.put o.dst v') w'):wpList Tryz.prog ops Q (o::rest) a w:=by
 obtain⟨i0,cU,hz0,hz1,hz2⟩:=eT Tryz.infoFrac;refine Qz _ hgd s x 37 ho base 32 i0 (.agg #[.bool false,.string ⟨#[]⟩,.string ⟨#[]⟩]) 3 40 Tryz.underlying37 cU hz0 hz1 hz2 rfl (by decide) v l.length _ hs hown ⟨g,og,none⟩ la.length ca (oO la) hx (by rw[UN];omega) (fun j u hj=>(ary hf j u hj).1) (fun u hu=>?_) (by unfold maxLen;omega) (by omega) hbase ?_
 ·obtain⟨j,hj,rfl⟩:=iE hu;exact(ary hf j _ (af hj)).2
 ·intro v' w' h1 h2 _;refine h v' w' ?_ h2;rw[kq,dM,arz];exact h1
variable {bk:Bool} {Ls:List PL} {Rs:List PR} {Vs:List PV} {e v':Value}
structure MS (w W:World) (s e t:Value) (bk:Bool) (x y z:Value) (Vs:List PV) (Ls:List PL) (Rs:List PR):Prop where
 rb:W.heap[w.heap.size]? =some (.cells #[s,e,t,.bool bk] 48 (0,0))
 res:gX W (w.heap.size+1) (.slice none 0 0) (.slice none 0 0) (.slice none 0 0)
 box:gX W (w.heap.size+2) x y z
 vs:fF W w.heap.size x Vs
 ls:gG W w.heap.size y Ls
 rs:gw W w.heap.size z Rs
 bel:Below w.heap.size w W
theorem MS.step {W:World} {s t:Value} (h:MS w W s e t bk x y z Vs Ls Rs) (hb:Below W.heap.size W W'):MS w W' s e t bk x y z Vs Ls Rs:=
 ⟨(hb.block _ (eL.1 h.rb).1).trans h.rb,h.res.aa hb h.res.lt,h.box.aa hb h.box.lt,h.vs.keep (.aa hb) (.aa hb),h.ls.keep (.aa hb) (.aa hb),h.rs.keep (.aa hb) (.aa hb),h.bel.trans (hb.ae h.bel.size)⟩
theorem MS.cells {W:World} {s t:Value} (h:MS w W s e t bk x y z Vs Ls Rs):W.cell? ⟨w.heap.size,0,none⟩=some s/\W.cell? ⟨w.heap.size,1,none⟩=some e/\W.cell? ⟨w.heap.size,2,none⟩=some t/\W.cell? ⟨w.heap.size,3,none⟩=some (.bool bk):=by
 refine⟨?_,?_,?_,?_⟩<;>(rw[cC W w.heap.size _ _ _ (0,0) h.rb];rfl)
theorem MS.lt {W:World} {s t:Value} (h:MS w W s e t bk x y z Vs Ls Rs):w.heap.size+2<W.heap.size:=h.box.lt
theorem aqb {W:World} {v:Value} {tt:TypeId} {Fh:Nat} (hb:Below w.heap.size w W) (ho:W.ownsRow w.heap.size tt Fh v n xs) (hg:W.grownBy W' v.ownBlock):Below w.heap.size w W':=hb.grown hg hb.size (fun k e=>apD ho k e)
theorem gX.set0 {W:World} (h:gX W g x y z) (v:Value):gX (W.setCell ⟨g,0,none⟩ v) g v y z:=mM W g 0 _ _ v h
theorem gX.set1 {W:World} (h:gX W g x y z) (v:Value):gX (W.setCell ⟨g,1,none⟩ v) g x v z:=mM W g 1 _ _ v h
theorem gX.set2 {W:World} (h:gX W g x y z) (v:Value):gX (W.setCell ⟨g,2,none⟩ v) g x y v:=mM W g 2 _ _ v h
theorem MS.pushV {W:World} {s t:Value} (h:MS w W s e t bk x y z Vs Ls Rs) {nm:ByteArray} {q:Value} {l:List ByteArray} (hr:W'.ownsRow w.heap.size 69 2 v' (Vs.length+1) (vC Vs++[.string nm,q])) (hg:W.grownBy W' x.ownBlock) (hq:Bj W w.heap.size q l):
  gX W' (w.heap.size+2) x y z/\MS w (W'.setCell ⟨w.heap.size+2,0,none⟩ v') s e t bk v' y z (Vs++[(nm,q,l)]) Ls Rs:=by
 have kk:∀tt:TypeId,tt≠69 ->dR tt W W':=fun tt hne=>dR.grown hg (apC h.vs.1) hne;have V0:gX W' (w.heap.size+2) x y z:=kk 26 (by decide) _ _ _ h.box;have ks:∀tt:TypeId,tt≠26 ->dR tt W' (W'.setCell ⟨w.heap.size+2,0,none⟩ v'):=fun tt hne=>dR.set V0 hne 0 v';refine⟨V0,?_,?_,V0.set0 v',⟨?_,?_⟩,?_,?_,?_⟩
 ·exact ks 48 (by decide) _ _ _ (kk 48 (by decide) _ _ _ h.rb)
 ·exact(je W' ⟨w.heap.size+2,0,none⟩ v' (w.heap.size+1) (by show w.heap.size+1≠w.heap.size+2;omega)).trans (kk 26 (by decide) _ _ _ h.res)
 ·rw[aqC,dM];exact Bp hr (ks 69 (by decide))
 ·intro p hp;have hk:=(kk 9 (by decide)).trans (ks 9 (by decide));rcases aa5.1 hp with hp |hp
  ·exact Bp (h.vs.2 p hp) hk
  ·rw[fX.1 hp];exact Bp hq hk
 ·exact h.ls.keep ((kk _ (by decide)).trans (ks _ (by decide))) ((kk _ (by decide)).trans (ks _ (by decide)))
 ·exact h.rs.keep ((kk _ (by decide)).trans (ks _ (by decide))) ((kk _ (by decide)).trans (ks _ (by decide)))
 ·exact(aqb h.bel h.vs.1 hg).setCell (p:=⟨w.heap.size+2,0,none⟩) (by show w.heap.size<=w.heap.size+2;omega) _
theorem MS.pushL {W:World} {s t:Value} (h:MS w W s e t bk x y z Vs Ls Rs) {q:Value} (hr:W'.ownsRow w.heap.size 27 1 v' (Ls.length+1) (Ls.map (·.1)++[q])) (hg:W.grownBy W' y.ownBlock) (hq:cX W w.heap.size q l):
  gX W' (w.heap.size+2) x y z/\MS w (W'.setCell ⟨w.heap.size+2,1,none⟩ v') s e t bk x v' z Vs (Ls++[(q,l)]) Rs:=by
 have kk:∀tt:TypeId,tt≠27 ->dR tt W W':=fun tt hne=>dR.grown hg (apC h.ls.1) hne;have V0:gX W' (w.heap.size+2) x y z:=kk 26 (by decide) _ _ _ h.box;have ks:∀tt:TypeId,tt≠26 ->dR tt W' (W'.setCell ⟨w.heap.size+2,1,none⟩ v'):=fun tt hne=>dR.set V0 hne 1 v';refine⟨V0,?_,?_,V0.set1 v',?_,⟨?_,?_⟩,?_,?_⟩
 ·exact ks 48 (by decide) _ _ _ (kk 48 (by decide) _ _ _ h.rb)
 ·exact(je W' ⟨w.heap.size+2,1,none⟩ v' (w.heap.size+1) (by show w.heap.size+1≠w.heap.size+2;omega)).trans (kk 26 (by decide) _ _ _ h.res)
 ·exact h.vs.keep ((kk _ (by decide)).trans (ks _ (by decide))) ((kk _ (by decide)).trans (ks _ (by decide)))
 ·rw[fY,dM];exact Bp hr (ks 27 (by decide))
 ·intro p hp;have hk:=(kk 3 (by decide)).trans (ks 3 (by decide));rcases aa5.1 hp with hp |hp
  ·exact Bp (h.ls.2 p hp) hk
  ·rw[fX.1 hp];exact Bp hq hk
 ·exact h.rs.keep ((kk _ (by decide)).trans (ks _ (by decide))) ((kk _ (by decide)).trans (ks _ (by decide)))
 ·exact(aqb h.bel h.ls.1 hg).setCell (p:=⟨w.heap.size+2,1,none⟩) (by show w.heap.size<=w.heap.size+2;omega) _
theorem MS.pushR {W:World} {s t:Value} (h:MS w W s e t bk x y z Vs Ls Rs) {q:Value} {l:List Fr} (hr:W'.ownsRow w.heap.size 37 1 v' (Rs.length+1) (Rs.map (·.1)++[q])) (hg:W.grownBy W' z.ownBlock) (hq:kq W w.heap.size q l):
  gX W' (w.heap.size+2) x y z/\MS w (W'.setCell ⟨w.heap.size+2,2,none⟩ v') s e t bk x y v' Vs Ls (Rs++[(q,l)]):=by
 have kk:∀tt:TypeId,tt≠37 ->dR tt W W':=fun tt hne=>dR.grown hg (apC h.rs.1) hne;have V0:gX W' (w.heap.size+2) x y z:=kk 26 (by decide) _ _ _ h.box;have ks:∀tt:TypeId,tt≠26 ->dR tt W' (W'.setCell ⟨w.heap.size+2,2,none⟩ v'):=fun tt hne=>dR.set V0 hne 2 v';refine⟨V0,?_,?_,V0.set2 v',?_,?_,⟨?_,?_⟩,?_⟩
 ·exact ks 48 (by decide) _ _ _ (kk 48 (by decide) _ _ _ h.rb)
 ·exact(je W' ⟨w.heap.size+2,2,none⟩ v' (w.heap.size+1) (by show w.heap.size+1≠w.heap.size+2;omega)).trans (kk 26 (by decide) _ _ _ h.res)
 ·exact h.vs.keep ((kk _ (by decide)).trans (ks _ (by decide))) ((kk _ (by decide)).trans (ks _ (by decide)))
 ·exact h.ls.keep ((kk _ (by decide)).trans (ks _ (by decide))) ((kk _ (by decide)).trans (ks _ (by decide)))
 ·rw[fY,dM];exact Bp hr (ks 37 (by decide))
 ·intro p hp;have hk:=(kk 32 (by decide)).trans (ks 32 (by decide));rcases aa5.1 hp with hp |hp
  ·exact Bp (h.rs.2 p hp) hk
  ·rw[fX.1 hp];exact Bp hq hk
 ·exact(aqb h.bel h.rs.1 hg).setCell (p:=⟨w.heap.size+2,2,none⟩) (by show w.heap.size<=w.heap.size+2;omega) _
structure VK (v:Nat) (Vs:List PV):Prop where
 len:Vs.length=v
 each:∀j (h:j<Vs.length),Vs[j].1=k8 110 j/\∃k,1<=k/\k<=3/\Vs[j].2.2=G9 k
theorem VK.snoc (h:VK v Vs) (q:Value) (h1:1<=k) (h3:k<=3):VK (v+1) (Vs++[(k8 110 v,q,G9 k)]):=by
 refine⟨by simp[h.len],fun j hj=>?_⟩;rcases cD j Vs.length with hlt |hge
 ·rw[uI hlt];exact h.each j hlt
 ·rw[Ac hge];have e:j=v:=by simp at hj;have:=h.len;omega
  subst e;simp[h.len];exact⟨k,h1,h3,rfl⟩
def eh (Vs:List PV):List Vr:=Vs.map fun p=>(p.1,p.2.2)
def fk (Ls:List PL):List (List Int):=Ls.map (·.2)
def z6 (Rs:List PR):List (List Fr):=Rs.map (·.2)
structure am5 (bk:Bool) (n j:Nat) (l:List Int):Prop where
 up:Up l n
 few:l.length<=3
 rank:∀x∈l,if bk=true then(j:Int)<x else x<(j:Int)
structure aqn (S:List Nat) (j:Nat) (l:List Int) (r:List Fr):Prop where
 len:r.length=cnt S (ag l)*sz S j
 rows:∀i,i<cnt S (ag l) ->iJ (fP r (sz S j) i)=true
 small:∀f∈r,f.2.1.size+f.2.2.size<=2
structure kC (bk:Bool) (n v:Nat) (S:List Nat) (Ls:List PL) (Rs:List PR):Prop where
 len:Ls.length=v
 lenR:Rs.length=v
 pars:∀j (h:j<Ls.length),am5 bk n j Ls[j].2
 rows:∀j (h:j<Ls.length) (h':j<Rs.length),aqn S j Ls[j].2 Rs[j].2
theorem kC.snoc (h:kC bk n v S Ls Rs) {q q':Value} {r:List Fr} (h1:am5 bk n v l) (h2:aqn S v l r):kC bk n (v+1) S (Ls++[(q,l)]) (Rs++[(q',r)]):=by
 refine⟨by simp[h.len],by simp[h.lenR],fun j hj=>?_,fun j hj hj'=>?_⟩
 ·rcases cD j Ls.length with hlt |hge
  ·rw[uI hlt];exact h.pars j hlt
  ·rw[Ac hge];(have e:j=v:=by simp at hj;have:=h.len;omega);subst e;simpa [h.len] using h1
 ·rcases cD j Ls.length with hlt |hge
  ·have tR:j<Rs.length:=by have:=h.len;have:=h.lenR;omega
   rw[uI hlt,uI tR];exact h.rows j hlt tR
  ·have asV:Rs.length<=j:=by have:=h.len;have:=h.lenR;omega
   rw[Ac hge,Ac asV];(have e:j=v:=by simp at hj;have:=h.len;omega);subst e;simpa [h.len,h.lenR] using h2
structure PP (bk:Bool) (n v u:Nat) (l:List Int):Prop where
 ok:am5 bk n v l
 lt:∀x∈l,x<(u:Int)
theorem PP.nil (bk:Bool) (n v:Nat):PP bk n v 0 []:=⟨⟨pV.2 ⟨fun x hx=>(qG hx).elim,List.Pairwise.nil⟩,by simp,fun x hx=>(qG hx).elim⟩,fun x hx=>(qG hx).elim⟩
theorem PP.skip (h:PP bk n v u l):PP bk n v (u+1) l:=⟨h.ok,fun x hx=>by have:=h.lt x hx;omega⟩
theorem PP.snoc (h:PP bk n v u l) (hu:u<n) (h3:l.length≠3) (hr:if bk=true then v<u else u<v):PP bk n v (u+1) (l++[(u:Int)]):=by
 refine⟨⟨pV.2 ⟨fun x hx=>?_,?_⟩,?_,fun x hx=>?_⟩,fun x hx=>?_⟩
 ·rcases aa5.1 hx with hx |hx
  ·exact(pV.1 h.ok.up).1 x hx
  ·rw[fX.1 hx];omega
 ·rw[List.pairwise_append];refine⟨(pV.1 h.ok.up).2,List.pairwise_singleton _ _,fun x hx y hy=>?_⟩;rw[fX.1 hy];exact h.lt x hx
 ·have:=h.ok.few;simp;omega
 ·rcases aa5.1 hx with hx |hx
  ·exact h.ok.rank x hx
  ·rw[fX.1 hx];cases bk
   ·simp at hr⊢;exact hr
   ·simp at hr⊢;exact hr
 ·rcases aa5.1 hx with hx |hx
  ·have:=h.lt x hx;omega
  ·rw[fX.1 hx];omega
structure RP (s k:Nat) (r:List Fr):Prop where
 len:r.length=k*s
 rows:∀i,i< k ->iJ (fP r s i)=true
 small:∀f∈r,f.2.1.size+f.2.2.size<=2
theorem RP.nil (s:Nat):RP s 0 []:=⟨by simp,fun i hi=>by omega,fun f hf=>by cases hf⟩
theorem RP.snoc {s:Nat} {r l:List Fr} (h:RP s k r) (hl:l.length=s) (hrow:iJ l=true) (hsm:∀f∈l,f.2.1.size+f.2.2.size<=2):RP s (k+1) (r++l):=by
 refine⟨by rw[dM,h.len,hl,fW,kB],fun i hi=>?_,fun f hf=>?_⟩
 ·have hm:i*s+s<=k*s∨i=k:=by
   rcases cD i k with h1 |h1
   ·left
    have:=jK s h1;rw[Nat.succ_mul] at this;exact this
   ·right;omega
  rcases hm with hm |rfl
  ·have hik:i<k:=by
    rcases cD i k with h1 |h1
    ·exact h1
    ·have h2:=jK s h1;by_cases hs0:s=0
     ·subst hs0;have:l=[]:=Ee.1 hl;subst this;exact absurd hrow (by decide)
     ·omega
   have e:fP (r++l) s i=fP r s i:=by
    rw[fP,fP,List.drop_append_of_le_length (by rw[h.len];omega),aqv (by rw[mR,h.len];omega)]
   rw[e];exact h.rows i hik
  ·have e:fP (r++l) s i=l:=by
    rw[fP, <- h.len,List.drop_left, <- hl,fJ]
   rw[e];exact hrow
 ·rcases aa5.1 hf with hf |hf
  ·exact h.small f hf
  ·exact hsm f hf
theorem fF.vars {W:World} {B:Nat} (h:fF W B x Vs):∃a c,x=.slice a (eh Vs).length c/\sO W a (eh Vs):=by
 have hl:(eh Vs).length=Vs.length:=by simp[eh]
 obtain⟨a,c,rfl,_⟩:=Bc h.1;refine⟨a,c,by rw[hl],fun k hk=>?_⟩;rw[hl] at hk;obtain⟨e1,e2⟩:=aqB Vs k hk;obtain⟨g,rfl,hg,c1⟩:=apE h.1 (j:=k*2) (by rw[apf];omega);obtain⟨g',e,_,c2⟩:=apE h.1 (j:=k*2+1) (by rw[apf];omega);cases e;rw[e1] at c1;rw[e2] at c2;have hin:=h.2 Vs[k] (bH hk);obtain⟨b,cb,eb,hst⟩:=hin.st
 have sB:Vs[k].2.2.length<=cb:=by
  rcases hin.2 with ⟨h1,h2⟩ |⟨g2,cap,cur,h1,_,_,h4,_⟩
  ·omega
  ·rw[eb] at h1;injection h1 with _ _ h6;omega
 refine⟨g,0,b,cb,rfl,hg,?_,?_,?_,?_⟩
 ·rw[bT,c1];simp[eh]
 ·rw[bT,c2,eb];simp[eh]
 ·simpa [eh] using hst
 ·simpa [eh] using sB
theorem gG.pars {W:World} {B:Nat} (h:gG W B y Ls):∃a c,y=.slice a (fk Ls).length c/\fh W a (fk Ls)/\vK W a (fk Ls):=by
 have hl:(fk Ls).length=Ls.length:=by simp[fk]
 obtain⟨a,c,rfl,_⟩:=Bc h.1
 have key:∀k (hk:k<Ls.length),∃g,a=some ⟨g,0,none⟩/\g<W.heap.size/\∃b cb,W.cell? ⟨g,k,none⟩=some (.slice b Ls[k].2.length cb)/\aaK W b Ls[k].2/\(b=none ->cb=0):=fun k hk=>by
  obtain⟨g,rfl,hg,c1⟩:=apE h.1 (j:=k) (by simpa using hk);have hin:=h.2 Ls[k] (bH hk);obtain⟨b,cb,eb,hn⟩:=Bc hin;obtain⟨b',fD,RI,hst⟩:=hin.ints;rw[eb] at RI;cases RI;refine⟨g,rfl,hg,b,cb,?_,hst,hn⟩;rw[c1];simp[eb]
 refine⟨a,c,by rw[hl],fun k hk=>?_,fun k hk g o b n' c' ea hc hn=>?_⟩
 ·rw[hl] at hk;obtain⟨g,rfl,hg,b,cb,c1,hst,_⟩:=key k hk;exact⟨g,0,b,cb,rfl,hg,by rw[bT,c1];simp[fk],by simpa [fk] using hst⟩
 ·rw[hl] at hk;obtain⟨g',e',_,b',fD,c1,_,h0⟩:=key k hk;rw[ea] at e';cases e';rw[bT,c1] at hc;cases hc;exact h0 hn
theorem gw.rows {W:World} {B:Nat} (h:gw W B z Rs):∃a c,z=.slice a (z6 Rs).length c/\MA W a (z6 Rs):=by
 have hl:(z6 Rs).length=Rs.length:=by simp[z6]
 obtain⟨a,c,rfl,_⟩:=Bc h.1;refine⟨a,c,by rw[hl],fun k hk=>?_⟩;rw[hl] at hk;obtain⟨g,rfl,hg,c1⟩:=apE h.1 (j:=k) (by simpa using hk);have hin:=h.2 Rs[k] (bH hk);obtain⟨b,cb,eb,hst⟩:=hin.fr
 have sB:Rs[k].2.length<=cb:=by
  rcases hin.2 with ⟨h1,h2⟩ |⟨g2,cap,cur,h1,_,_,h4,_⟩
  ·omega
  ·rw[eb] at h1;injection h1 with _ _ h6;omega
 exact⟨g,0,b,cb,rfl,hg,by rw[bT,c1];simp[z6,eb],by simpa [z6] using hst,by simpa [z6] using sB⟩
theorem aqO {W:World} {u:Value} {tt:TypeId} {Fh n0:Nat} (ho:W.ownsRow w.heap.size tt Fh u n0 xs) (hg:W.grownBy W' u.ownBlock) (hb:gX W' (w.heap.size+2) x y z) (t0:TypeId) (h1:t0≠tt) (h2:t0≠26):dR t0 W (W'.setCell ⟨w.heap.size+2,j,none⟩ v'):=
 (dR.grown hg (apC ho) h1).trans (dR.set hb h2 j v')
structure SK (n:Nat) (S:List Nat):Prop where
 len:S.length=n
 each:∀x∈S,1<=x/\x<=3
theorem VK.sizes (h:VK n Vs):SK n (ah (eh Vs)):=by
 refine⟨by simp[ah,eh,h.len],fun x hx=>?_⟩;obtain⟨p,hp,rfl⟩:=aaQ.1 hx;obtain⟨q,hq,rfl⟩:=aaQ.1 hp;obtain⟨j,hj,rfl⟩:=iE hq;obtain⟨_,k,h1,h3,e⟩:=h.each j hj;show 1<=Vs[j].2.2.length/\Vs[j].2.2.length<=3;rw[e,apw];exact⟨h1,h3⟩
theorem SK.fine (h:SK n S) (h1:1<=n) (h8:n<=8):eH (iL S):=by
 have hl:=h.len;refine⟨by rw[ba];omega,by rw[ba];omega,fun v hv=>?_⟩;have hv':v<S.length:=by rw[ba] at hv;exact hv
 have e:(iL S)[v]=((S[v]'hv':Nat):Int):=by simp[iL]
 have:=h.each _ (bH hv');rw[e];omega
theorem SK.sz (h:SK n S) (u:Nat):1<=sz S u/\sz S u<=3:=by
 rw[Go.Proofs.YtdnhgjeihdllbaaGreatDoor.sz];cases e:S[u]? with
 |none=>exact⟨by decide,by decide⟩
 |some x=>exact h.each x (apT e)
theorem arD (h:SK n S) {l:List Nat} (hl:l.length<=3):1<=cnt S l/\cnt S l<=27:=by
 have h1:=aqh (S:=S) (fun v=>(h.sz v).2) l;have h2:3^l.length<=3^3:=lW (by omega) hl
 have h3:∀l:List Nat,1<=cnt S l:=fun l=>by
  induction l with
  |nil=>exact ar _
  |cons v l ih=>exact Nat.mul_pos (h.sz v).1 ih
 exact⟨h3 l,by omega⟩
theorem MS.out3 {W:World} {s t:Value} (h:MS w W s e t bk x y z Vs Ls Rs):
  gX (((W.setCell ⟨w.heap.size+1,0,none⟩ x).setCell ⟨w.heap.size+1,1,none⟩ y).setCell ⟨w.heap.size+1,2,none⟩ z) (w.heap.size+1) x y z/\fF (((W.setCell ⟨w.heap.size+1,0,none⟩ x).setCell ⟨w.heap.size+1,1,none⟩ y).setCell ⟨w.heap.size+1,2,none⟩ z) w.heap.size x Vs/\gG (((W.setCell ⟨w.heap.size+1,0,none⟩ x).setCell ⟨w.heap.size+1,1,none⟩ y).setCell ⟨w.heap.size+1,2,none⟩ z) w.heap.size y Ls/\gw (((W.setCell ⟨w.heap.size+1,0,none⟩ x).setCell ⟨w.heap.size+1,1,none⟩ y).setCell ⟨w.heap.size+1,2,none⟩ z) w.heap.size z Rs/\Below w.heap.size w (((W.setCell ⟨w.heap.size+1,0,none⟩ x).setCell ⟨w.heap.size+1,1,none⟩ y).setCell ⟨w.heap.size+1,2,none⟩ z):=by
 have n0:=h.res.set0 x;have n1:=n0.set1 y;have n2:=n1.set2 z;have ks:∀tt:TypeId,tt≠26 ->dR tt W (((W.setCell ⟨w.heap.size+1,0,none⟩ x).setCell ⟨w.heap.size+1,1,none⟩ y).setCell ⟨w.heap.size+1,2,none⟩ z):=fun tt hne=>((dR.set h.res hne 0 x).trans (dR.set n0 hne 1 y)).trans (dR.set n1 hne 2 z);refine⟨n2,h.vs.keep (ks _ (by decide)) (ks _ (by decide)),h.ls.keep (ks _ (by decide)) (ks _ (by decide)),h.rs.keep (ks _ (by decide)) (ks _ (by decide)),?_⟩;exact((h.bel.setCell (p:=⟨w.heap.size+1,0,none⟩) (by show w.heap.size<=w.heap.size+1;omega) _).setCell (p:=⟨w.heap.size+1,1,none⟩) (by show w.heap.size<=w.heap.size+1;omega) _).setCell (p:=⟨w.heap.size+1,2,none⟩) (by show w.heap.size<=w.heap.size+1;omega) _
end Go.Proofs.YtdnhgjeihdllbaaGreatDoor
