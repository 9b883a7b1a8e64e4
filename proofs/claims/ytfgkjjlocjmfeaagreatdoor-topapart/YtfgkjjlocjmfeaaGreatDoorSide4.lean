/- Part4: part 4. -/
import Derived.Test.YtfgkjjlocjmfeaaGreatDoorSide3
set_option maxRecDepth 100000
set_option maxHeartbeats 400000000
set_option linter.unusedSimpArgs false
set_option linter.unusedVariables false
namespace Go.Proofs.YtfgkjjlocjmfeaaGreatDoor
open Go.RowKit Go.Shelf Go.Sort Go.Lib
variable {fn:Func} {g:Nat} {x y z:Value} {w w':World}
def PlC (x y z:Value):Obj:=.cells #[x,y,z] 87
def bH (w:World) (g:Nat) (x y z:Value):Prop:=w.heap[g]? =some (.cells #[x,y,z] 87 (0,0))
theorem bH.at (hg:w.heap.size=g) (x y z:Value):bH (w.alloc (PlC x y z)) g x y z:=by subst hg;exact fP w _
theorem bH.lt (h:bH w g x y z):g<w.heap.size:=(cV.1 h).1
theorem bH.aa {b:Nat} (h:bH w g x y z) (hb:Below b w w') (hg:g<b):bH w' g x y z:=(hb.block g hg).trans h
theorem bH.alloc (h:bH w g x y z) (o:Obj):bH (w.alloc o) g x y z:=(qg w o g h.lt).trans h
theorem bH.cells (h:bH w g x y z):w.cell? ⟨g,0,none⟩=some x/\w.cell? ⟨g,1,none⟩=some y/\w.cell? ⟨g,2,none⟩=some z:=
 ⟨by rw[bE w g 0 _ _ (0,0) h];rfl,by rw[bE w g 1 _ _ (0,0) h];rfl,by rw[bE w g 2 _ _ (0,0) h];rfl⟩
theorem bH.fz (h:bH w g x y z) (j:Nat):w.frozen? ⟨g,j,none⟩=false:=kZ w g j _ _ h
theorem bH.set0 (h:bH w g x y z) (u:Value):bH (w.setCell ⟨g,0,none⟩ u) g u y z:=jX w g 0 _ _ u h
theorem bH.set1 (h:bH w g x y z) (u:Value):bH (w.setCell ⟨g,1,none⟩ u) g x u z:=jX w g 1 _ _ u h
theorem bH.set2 (h:bH w g x y z) (u:Value):bH (w.setCell ⟨g,2,none⟩ u) g x y u:=jX w g 2 _ _ u h
theorem bH.put (h:bH w g x y z) (u v s:Value):bH (((w.setCell ⟨g,0,none⟩ u).setCell ⟨g,1,none⟩ v).setCell ⟨g,2,none⟩ s) g u v s:=((h.set0 u).set1 v).set2 s
theorem bH.result1 (h:bH w g x y z) {p:Tmp} (hr:fn.results= #[.cell p 87]) (tmps:Array Value) (hp:tmps.getD p undef=.pointer (some ⟨g,0,none⟩)):
  (results fn tmps).run Tryz.prog w=.ok (.agg #[x,y,z]) w:=EJ hr tmps w g _ _ _ _ hp h Tryz.underlying87 rfl (by kernel_rfl)
theorem XE (u v:Int) (B:Nat) (W:World) (hc:W.cell? ⟨B,0,none⟩=some (.int .i64 v)):
  FnGives Tryz.prog 153 #[.pointer (some ⟨B,0,none⟩)] #[.int .i64 u] (.bool (u==v)) W:=by
 show Calls Tryz.prog 153 #[.int .i64 u,.pointer (some ⟨B,0,none⟩)] W _;go_enter Tryz.func153,Tryz.ntmps153;go_wp2
 all_goals (go_ret;exact⟨by simp_all,0,rfl⟩)
theorem afR (v:Int) (B:Nat) (w:World) (hB:B<w.heap.size) (hc:w.cell? ⟨B,0,none⟩=some (.int .i64 v)):
  PredAt Tryz.prog 153 #[.pointer (some ⟨B,0,none⟩)] (Value.int .i64) (fun u=>u==v) w:=
 fun W x hb=>XE x v B W ((hb.cell (p:=⟨B,0,none⟩) hB).trans hc)
theorem afQ (v:Int) (B blk off size:Nat) (w:World) (hB:B<w.heap.size) (hne:B≠blk) (hc:w.cell? ⟨B,0,none⟩=some (.int .i64 v)):
  PredOver Tryz.prog 153 #[.pointer (some ⟨B,0,none⟩)] (Value.int .i64) (fun u=>u==v) blk off size w:=
 fun n os dk x _=>XE x v B _ (by
  unfold sortWorld;rw[cell?_grow _ _ _ (by show B<(putRow _ _ _ _ _).heap.size;rw[size_putRow];exact hB),cell?_putRow_other _ _ blk off _ _ (Or.inl hne)];exact hc)
theorem XG (x z:Value) (b:Option Addr) (cb:Nat) (fr:List Int) (v:Int) (w:World) (hx:dA x) (hz:dA z) (h:aC w b fr) (hn:fr.length<=1000):
  Calls Tryz.prog 96 #[.agg #[x,.slice b fr.length cb,z],.int .i64 v] w fun e w'=>∃d cd,e=.returned (.agg #[x,.slice d (bP fr v).length cd,.slice none 0 0])/\aC w' d (bP fr v)/\fV w.heap.size d cd/\Below w.heap.size w w':=by
 obtain⟨xa,xn,xc,rfl⟩:=hx;obtain⟨za,zn,zc,rfl⟩:=hz;have HV:=hid h;obtain⟨L,hL⟩:∃L,bP fr v=L:=⟨_,rfl⟩;rw[hL];have HL:=hid hL;clear h hL;go_enter Tryz.func96,Tryz.ntmps96;go_wp2_with fail
 have hb0:Below w.heap.size w (((w.alloc (.cells #[.slice xa xn xc,.slice b fr.length cb,.slice za zn zc] 87)).alloc (.cells #[.int .i64 v] 3)).alloc (.cells #[.slice none 0 0,.slice none 0 0,.slice none 0 0] 87)):=by
  have h1:=(aw w.heap.size w).alloc (ak _) (.cells #[.slice xa xn xc,.slice b fr.length cb,.slice za zn zc] 87);have h2:=h1.alloc h1.size (.cells #[.int .i64 v] 3);exact h2.alloc h2.size _
 have uN:bH (((w.alloc (.cells #[.slice xa xn xc,.slice b fr.length cb,.slice za zn zc] 87)).alloc (.cells #[.int .i64 v] 3)).alloc (.cells #[.slice none 0 0,.slice none 0 0,.slice none 0 0] 87)) w.heap.size (.slice xa xn xc) (.slice b fr.length cb) (.slice za zn zc):=((bH.at (w:=w) rfl _ _ _).alloc _).alloc _
 have hx0:Boxed (((w.alloc (.cells #[.slice xa xn xc,.slice b fr.length cb,.slice za zn zc] 87)).alloc (.cells #[.int .i64 v] 3)).alloc (.cells #[.slice none 0 0,.slice none 0 0,.slice none 0 0] 87)) (w.heap.size+1) 3 (.int .i64 v):=by
  have:=(aZ (w.alloc (.cells #[.slice xa xn xc,.slice b fr.length cb,.slice za zn zc] 87)) 3 (.int .i64 v)).alloc (.cells #[.slice none 0 0,.slice none 0 0,.slice none 0 0] 87);rwa [dE] at this
 have jb:bH (((w.alloc (.cells #[.slice xa xn xc,.slice b fr.length cb,.slice za zn zc] 87)).alloc (.cells #[.int .i64 v] 3)).alloc (.cells #[.slice none 0 0,.slice none 0 0,.slice none 0 0] 87)) (w.heap.size+1+1) (.slice none 0 0) (.slice none 0 0) (.slice none 0 0):=bH.at (w:=(w.alloc (.cells #[.slice xa xn xc,.slice b fr.length cb,.slice za zn zc] 87)).alloc (.cells #[.int .i64 v] 3)) (by simp) _ _ _;generalize (((w.alloc (.cells #[.slice xa xn xc,.slice b fr.length cb,.slice za zn zc] 87)).alloc (.cells #[.int .i64 v] 3)).alloc (.cells #[.slice none 0 0,.slice none 0 0,.slice none 0 0] 87))=W at *;refine(PB b cb fr _ (HV.o.aa hb0) (by omega)).ae ?_;rintro e w1 ⟨x,rfl,hr,hb1⟩;have hx1:=aY hx0 hb1;have DT:=uN.aa hb1 uN.lt;have hR1:=jb.aa hb1 jb.lt;have hB1:=hb0.trans (hb1.ae hb0.size);have hlt:=jb.lt;have hs1:=hb1.size;clear hx0 uN jb hb0 hb1;rcases hr.cases with ⟨rfl,rfl⟩ |⟨g,cap,rfl,hg0,hg,hc1,hc2,hh⟩
 ·go_wp2_with fail
  refine(WD _ _).ae ?_;rintro e w2 ⟨rfl,hb2⟩;have Jj:=DT.aa hb2 DT.lt;have hR2:=hR1.aa hb2 hR1.lt;have hB2:=hB1.trans (hb2.ae hB1.size);have Jl:L=[]:=HL.o.symm;subst Jl;obtain⟨p0,p1,p2⟩:=Jj.cells;obtain⟨r0,r1,r2⟩:=hR2.cells;have rf:=hR2.fz;have Lm:=rf 0;have Ll:=rf 1;have Lk:=rf 2;have zE:=hid (hR2.put (.slice xa xn xc) (.slice none 0 0) (.slice none 0 0));have rj:=hid (df hB2 (show w.heap.size<=w.heap.size+1+1 by omega) (.slice xa xn xc) (.slice none 0 0) (.slice none 0 0));clear rf Jj hR2 hB2;go_wp2;refine dh (zE.o.result1 rfl _ rfl) rfl ?_;exact⟨none,0,rfl,fun k hk=>absurd hk (by simp),fV.nil _,rj.o⟩
 ·have hcon:=Tryz.slices_DeleteFunc (Value.int .i64) (fun _=>rfl) (fun u=>u==v) 153 #[.pointer (some ⟨w.heap.size+1,0,none⟩)] (enters_of Tryz.func153 (by kernel_rfl) rfl) 0 Tryz.zeroValue3 g 0 cap fr.toArray w1 (afR v _ _ hx1.lt hx1.cell) (afQ v _ g 0 _ _ hx1.lt (by omega) hx1.cell) hh (by simp;omega) (by simpa using hc1);have hsz:fr.toArray.size=fr.length:=by simp
  rw[hsz] at hcon;have jP:fr.toArray.toList.filter (fun x=>!(x==v))=bP fr v:=by simp[bP]
  rw[jP,HL.o] at hcon;have dJ:L.length<=fr.length:=by rw[<- HL.o];exact l6 _ _
  have Ky:=hid hcon;have HH:=hid hh;have p8:=hid dJ;clear hcon hh hr hsz jP hc1 hc2 dJ;go_wp2_with fail
  refine Ky.o.ae ?_;rintro e w2 ⟨rfl,q,hw2⟩
  have wS:(L++List.replicate (fr.length - L.length) 0).toArray.size=fr.toArray.size:=by
   have:=p8.o;simp;omega
  have MO:aC w2 (some ⟨g,0,none⟩) L:=by
   rw[hw2];exact FQ (holds_putRow (Value.int .i64) (Sort.ahead w1 q) g 0 fr.toArray _ HH.o wS) (by rw[size_putRow];exact hg) (fun j hj=>⟨by simp;omega,by simp[oH,hj]⟩)
  have hk2:∀k,k<w1.heap.size ->k≠g ->w2.heap[k]? =w1.heap[k]?:=fun k hk hne=>by
   rw[hw2];have h1:=KJ (w:=w1) (g:=g) (n:=q) (os:= #[]) ((L++List.replicate (fr.length - L.length) 0).toArray);rw[grow_empty] at h1;exact h1.block k hk (fun e=>hne (k7 e))
  have Jj:bH w2 w.heap.size (.slice xa xn xc) (.slice b fr.length cb) (.slice za zn zc):=(hk2 _ DT.lt (by omega)).trans DT;have hR2:bH w2 (w.heap.size+1+1) (.slice none 0 0) (.slice none 0 0) (.slice none 0 0):=(hk2 _ hR1.lt (by omega)).trans hR1;have hB2:Below w.heap.size w w2:=by rw[hw2];exact Tt _ hB1 hB1.size (by omega)
  obtain⟨p0,p1,p2⟩:=Jj.cells;obtain⟨r0,r1,r2⟩:=hR2.cells;have rf:=hR2.fz;have Lm:=rf 0;have Ll:=rf 1;have Lk:=rf 2;have zE:=hid (hR2.put (.slice xa xn xc) (.slice (some ⟨g,0,none⟩) L.length cap) (.slice none 0 0));have rj:=hid (df hB2 (show w.heap.size<=w.heap.size+1+1 by omega) (.slice xa xn xc) (.slice (some ⟨g,0,none⟩) L.length cap) (.slice none 0 0));have Oi:=hid (((MO.off (g:=w.heap.size+1+1) (j:=0) (y:=.slice xa xn xc) (fun g' o' e _=>by cases e;omega)).off (g:=w.heap.size+1+1) (j:=1) (y:=.slice (some ⟨g,0,none⟩) L.length cap) (fun g' o' e _=>by cases e;omega)).off (g:=w.heap.size+1+1) (j:=2) (y:=.slice none 0 0) (fun g' o' e _=>by cases e;omega));clear rf Jj hR2 hB2 MO hk2 wS hw2;go_wp2;refine dh (zE.o.result1 rfl _ rfl) rfl ?_;exact⟨some ⟨g,0,none⟩,cap,rfl,Oi.o,fV.at (by omega),rj.o⟩
variable {F:List (Int×Int)} {a:Option Addr}
def ny (w:World) (a:Option Addr) (F:List (Int×Int)):Prop:=∀k (h:k<F.length),∃g o,a=some ⟨g,o,none⟩/\g<w.heap.size/\w.cell? ⟨g,o+k*2,none⟩=some (.int .i64 F[k].1)/\w.cell? ⟨g,o+k*2+1,none⟩=some (.int .i64 F[k].2)
theorem ny.aa (h:ny w a F) (hb:Below w.heap.size w w'):ny w' a F:=fun k hk=>by
 obtain⟨g,o,h1,h2,h3,h4⟩:=h k hk;exact⟨g,o,h1,aR h2 hb.size,(hb.cell (p:=⟨g,_,none⟩) h2).trans h3,(hb.cell (p:=⟨g,_,none⟩) h2).trans h4⟩
theorem ny.take (h:ny w a F) (i:Nat):ny w a (F.take i):=fun k hk=>by
 have fN:k<F.length:=by rw[eB] at hk;omega
 obtain⟨g,o,h1,h2,h3,h4⟩:=h k fN;rw[Af];exact⟨g,o,h1,h2,h3,h4⟩
theorem ait (a:Option Addr) (ca f:Nat) (lb:Array Value) (F:List (Int×Int)) (p:Int×Int ->Bool) (w:World) (h:ny w a F) (hn:F.length<=1000) (eF:∀args w,(callFunc f args).run Tryz.prog w=.ok (.enter f args) w)
  (hp:∀q∈F,∀U:World,Below w.heap.size w U ->Calls Tryz.prog f (#[.agg #[.int .i64 q.1,.int .i64 q.2]]++lb) U fun e w'=>e=.returned (.bool (p q))/\Below U.heap.size U w'):
  Calls Tryz.prog 139 #[.slice a F.length ca,.func (.func f) #[] lb] w fun e w'=>∃j:Int,e=.returned (.int .i64 j)/\decide (0<=j)=F.any p/\Below w.heap.size w w':=by
 have HF:=hid h;have HP:=hid hp
 have jB:Hid ((∀i (hi:i<F.length),p F[i]=false) ->F.any p=false):=fun hh=>List.any_eq_false.2 fun q hq=>by
  obtain⟨i,hi,rfl⟩:=jg hq;rw[hh i hi];decide
 have HYE:Hid (∀i (hi:i<F.length),p F[i]=true ->F.any p=true):=fun i hi hh=>Ai.2 ⟨_,bY hi,hh⟩;clear h hp;generalize F.any p=R at *;go_enter Tryz.func139,Tryz.ntmps139;go_wp2_with fail
 go_loopw [8] (fun iv wr=>∃i:Nat,i<=F.length/\iv=.int .i64 i/\Hid (∀j (hj:j<F.length),j< i ->p F[j]=false)/\Hid (Below w.heap.size w wr)) (fun iv _=>F.length - (intOf iv).toNat)
 case atStart=>exact⟨0,aX _,rfl,(fun j _ hj=>absurd hj (by omega)),aw _ _⟩
 case round=>
  obtain⟨i,hi,rfl,HN,HB⟩:=hrel;by_cases hlt:i<F.length
  ·obtain⟨g,o,rfl,hg,h0,h1⟩:=HF.o i hlt;have k0:=(HB.o.cell (p:=⟨g,_,none⟩) hg).trans h0;have k1:=(HB.o.cell (p:=⟨g,_,none⟩) hg).trans h1;have HC:=hid (HP.o F[i] (bY hlt) wr HB.o);have HYi:=hid (HYE.o i hlt)
   have xM:Hid (p F[i]=false ->∀j (hj:j<F.length),j<i+1 ->p F[j]=false):=fun e j hj wV=>by
    rcases cM j i with h2 |h2
    ·exact HN.o j hj h2
    ·obtain rfl:j=i:=by omega
     exact e
   clear h0 h1;generalize p F[i]=q at *;generalize F[i].1=f1 at *;generalize F[i].2=f2 at *;go_wp2_with fail
   refine HC.o.ae ?_;rintro e w2 ⟨rfl,hb2⟩;have bq:=hid (HB.o.trans (hb2.ae HB.o.size));clear hb2 HC;cases q with
   |true=>
    have HE:=hid (HYi.o rfl);go_wp2;go_ret;exact⟨(i:Nat),rfl,by rw[HE.o];simp,bq.o⟩
   |false=>
    have HE:=hid (xM.o rfl);go_wp2;go_roundw
    case rel=>exact⟨i+1,by omega,by go_num,HE,bq⟩
    case measure=>simp[intOf];omega
  ·obtain rfl:i=F.length:=by omega
   have HE:=hid (jB.o fun j hj=>HN.o j hj hj);go_wp2;go_ret;exact⟨-1,rfl,by rw[HE.o];rfl,HB.o⟩
theorem ak8 (a:Option Addr) (ca f:Nat) (lb:Array Value) (F:List (Int×Int)) (p:Int×Int ->Bool) (w:World) (h:ny w a F) (hn:F.length<=1000) (eF:∀args w,(callFunc f args).run Tryz.prog w=.ok (.enter f args) w)
  (hp:∀q∈F,∀U:World,Below w.heap.size w U ->Calls Tryz.prog f (#[.agg #[.int .i64 q.1,.int .i64 q.2]]++lb) U fun e w'=>e=.returned (.bool (p q))/\Below U.heap.size U w'):
  Calls Tryz.prog 84 #[.slice a F.length ca,.func (.func f) #[] lb] w fun e w'=>e=.returned (.bool (F.any p))/\Below w.heap.size w w':=by
 have HI:=hid (ait a ca f lb F p w h hn eF hp);clear h hp;generalize F.any p=R at *;go_enter Tryz.func84,Tryz.ntmps84;go_wp2_with fail
 refine HI.o.ae ?_;rintro e w2 ⟨j,rfl,hj,hb2⟩;have HB:=hid hb2;have HJ:=hid hj;clear hb2 hj;go_wp2;go_ret;exact⟨by rw[<- HJ.o];rfl,HB.o⟩
theorem aio (q:Int×Int) (v:Int) (B:Nat) (w:World) (hB:B<w.heap.size) (hc:w.cell? ⟨B,0,none⟩=some (.int .i64 v)):
  Calls Tryz.prog 85 #[.agg #[.int .i64 q.1,.int .i64 q.2],.pointer (some ⟨B,0,none⟩)] w fun e w'=>e=.returned (.bool (q.1==v))/\Below w.heap.size w w':=by
 obtain⟨q1,q2⟩:=q;have HA:=hid ((aw w.heap.size w).alloc (ak _) (.cells #[.int .i64 q1,.int .i64 q2] 90));have hc':=(HA.o.cell (p:=⟨B,0,none⟩) hB).trans hc;show Calls Tryz.prog 85 #[.agg #[.int .i64 q1,.int .i64 q2],.pointer (some ⟨B,0,none⟩)] w fun e w'=>e=.returned (.bool (q1==v))/\Below w.heap.size w w';clear hc;go_enter Tryz.func85,Tryz.ntmps85;go_wp2
 all_goals (go_ret;exact⟨by simp_all,HA.o⟩)
theorem ain (a:Option Addr) (ca:Nat) (F:List (Int×Int)) (v:Int) (w:World) (h:ny w a F) (hn:F.length<=1000):
  Calls Tryz.prog 40 #[.slice a F.length ca,.int .i64 v] w fun e w'=>e=.returned (.bool (F.any fun p=>p.1==v))/\Below w.heap.size w w':=by
 have hA:=(aw w.heap.size w).alloc (ak _) (.cells #[.int .i64 v] 3);have hx:=aZ w 3 (.int .i64 v);have HC:=hid (ak8 a ca 85 #[.pointer (some ⟨w.heap.size,0,none⟩)] F (fun p=>p.1==v) _ (h.aa hA) hn (enters_of Tryz.func85 (by kernel_rfl) rfl) (fun q _ U hU=>aio q v w.heap.size U (aR hx.lt hU.size) ((hU.cell (p:=⟨w.heap.size,0,none⟩) hx.lt).trans hx.cell)));have HA:=hid hA;clear h hA hx;generalize (F.any fun p=>p.1==v)=R at *;go_enter Tryz.func40,Tryz.ntmps40;go_wp2_with fail
 refine HC.o.ae ?_;rintro e w2 ⟨rfl,hb2⟩;have HB:=hid (HA.o.trans (hb2.ae HA.o.size));clear hb2;go_wp2;go_ret;exact⟨rfl,HB.o⟩
variable {ops:Array Oper} {Q:Exit ->Act ->World ->Prop} {rest:List Oper} {xs:List Value} {c j lo m n:Nat} {tv u1 u2:Value} {V V':World}
theorem SV (W:World) (b:Option Nat):W.grownBy W b:=World.grownBy.refl _ _
theorem SX {W:World} {b:Option Nat} (h:W.grownBy V b) (hb:Below V.heap.size V V'):W.grownBy V' b:=
 ⟨hb.os.trans h.os,hb.tape.trans h.tape,hb.output.trans h.output,aM h.size hb.size,fun k hk hne=>(hb.block k (aR hk h.size)).trans (h.block k hk hne)⟩
theorem Ju {W:World} {b r:Option Nat} (h:W.grownBy V b) (hg:V.grownBy V' r) (hr:∀k,r=some k ->W.heap.size<=k):W.grownBy V' b:=
 ⟨hg.os.trans h.os,hg.tape.trans h.tape,hg.output.trans h.output,aM h.size hg.size,fun k hk hne=>(hg.block k (aR hk h.size) fun e=>by have:=hr k e.symm;omega).trans (h.block k hk hne)⟩
theorem M0 {W:World} {b:Nat} (h:W.grownBy V (some b)) (j:Nat) (y:Value):W.grownBy (V.setCell ⟨b,j,none⟩ y) (some b):=by
 have hk:=(aw 0 V).setCell (p:=⟨b,j,none⟩) (aX _) y;exact⟨hk.os.trans h.os,hk.tape.trans h.tape,hk.output.trans h.output,aM h.size hk.size,fun k fN hne=>(iU V ⟨b,j,none⟩ y k (fun e=>hne (by rw[e]))).trans (h.block k fN hne)⟩
theorem Jt {W:World} {b B:Nat} (hw:Below B w W) (h:W.grownBy V (some b)) (hb:B<=b) (hB:B<=W.heap.size):Below B w V:=hw.grown h hB (fun k e=>by cases e;exact hb)
theorem ew.off {d:Option Addr} {l:List Fr} (h:ew w d l) (hne:∀g' o',d=some ⟨g',o',none⟩ ->l≠[] ->g'≠g):ew (w.setCell ⟨g,j,none⟩ y) d l:=fun k hk=>by
 obtain⟨g',o',e,hg,h0,h1,h2⟩:=h k hk;have hn:=hne g' o' e (fun e=>by rw[e] at hk;exact absurd hk (by simp));have hb:(w.setCell ⟨g,j,none⟩ y).heap[g']? =w.heap[g']?:=iU w ⟨g,j,none⟩ y g' hn;exact⟨g',o',e,aR hg (ji w _ _).size,(l5 (a:=⟨g',_,none⟩) hb).trans h0,(l5 (a:=⟨g',_,none⟩) hb).trans h1,(l5 (a:=⟨g',_,none⟩) hb).trans h2⟩
theorem dM.off {t:Tb} (h:dM w x y t) (u:Value) (hn:fk g t (x,y)):dM (w.setCell ⟨g,j,none⟩ u) x y t:=by
 obtain⟨b,c,cb,cc,rfl,rfl,h3,h4,h5⟩:=h;exact⟨b,c,cb,cc,rfl,rfl,h3.off (fun g' o' e hne=>hn.1 g' o' _ _ (by rw[e]) hne),h4.off (fun g' o' e hne=>hn.2 g' o' _ _ (by rw[e]) hne),h5⟩
theorem ky.off {B:Nat} {v:Value} {Q:List (Value×Value)} {P:List Tb} (h:ky w B v Q P) (u:Value) (hf:∀k (h:k<P.length) (h':k<Q.length),fk g P[k] Q[k]) (hne:v.ownBlock≠some g):ky (w.setCell ⟨g,j,none⟩ u) B v Q P:=
 ⟨h.len,KH h.own hne u,fun k h1 h2=>(h.val k h1 h2).off u (hf k h1 h2),h.far⟩
theorem Qa {B:Nat} {e:TypeId} {s:Nat} (h:w.ownsRow B e s (.slice a m c) n xs):fV B a c:=by
 rcases h.2 with ⟨h1,h2⟩ |⟨g,cap,cur,h1,h2,_⟩
 ·injection h1 with h3 h4 h5;subst h3 h5;exact fV.nil B
 ·injection h1 with h3 h4 h5;subst h3;exact fV.at h2
theorem K5 {o:Oper} {a:Act} (hgd:o.guard=none) (s x:Operand)
  (ho:o.op=.call {callee:=.builtin .append,args:= #[s,x],argTypes:= #[85,85]}) (base:Nat) (v:Value) (n:Nat) (xs:List Value) (u1 u2:Value) (hs:a.eval s=v) (hown:w.ownsRow base 39 2 v n xs) (g:Nat) (hx:a.eval x=.slice (some ⟨g,0,none⟩) 1 1) (h0:w.cell? ⟨g,0,none⟩=some u1) (h1:w.cell? ⟨g,1,none⟩=some u2) (hu1:dA u1) (hu2:dA u2) (hlen:n+1<=100000) (hbase:base<=w.heap.size)
  (h:∀v' w',w'.ownsRow base 39 2 v' (n+1) (xs++[u1,u2]) ->w.grownBy w' v.ownBlock ->(v'.ownBlock=v.ownBlock∨∀k,v'.ownBlock=some k ->w.heap.size<=k) ->wpList Tryz.prog ops Q rest (a.put o.dst v') w'):wpList Tryz.prog ops Q (o::rest) a w:=by
 obtain⟨i0,bS,hz0,hz1,hz2⟩:=dK Tryz.infoTable
 obtain⟨v',w',hr,r1,r2,r3⟩:=Lg (P:=Tryz.prog) w base 85 o.type 39 i0 (.agg #[.slice none 0 0,.slice none 0 0]) 2 48 Tryz.underlying85 bS hz0 hz1 hz2 rfl (by decide) v n xs hown ⟨g,0,none⟩ 1 1 [u1,u2] rfl (fun j u hj=>by
  match j,hj with
  |0,hj=>cases hj;exact h0
  |1,hj=>cases hj;exact h1
  |j+2,hj=>simp at hj) (fun u hu=>by
  simp only[cT,iT,oC] at hu;rcases hu with rfl |rfl
  ·obtain⟨_,_,_,rfl⟩:=hu1;rfl
  ·obtain⟨_,_,_,rfl⟩:=hu2;rfl) (by unfold maxLen;omega) (by omega) hbase (by decide)
 refine wpList_plain hgd fun _ hK=>?_;unfold Oper.wp execOp;simp only[ho,resolve,invoke,builtin,Cp,vN,tY,Cx,fH,j5,hs,hx,hr];exact hK _ _ (h v' w' r1 r2 r3)
structure qR (lo:Nat) (W:World) (b:Nat) (x y:Value) (tv:Value) (Q:List (Value×Value)) (P:List Tb) (V:World):Prop where
 box:bH V b x y tv
 own:ky V W.heap.size tv Q P
 far:∀R,lo<=R ->R<=b ->∀k (h:k<P.length) (h':k<Q.length),fk R P[k] Q[k]
 fr:W.grownBy V (some b)
theorem qR.start {W:World} {b:Nat} (h:bH W b x y (.slice none 0 0)):qR lo W b x y (.slice none 0 0) [] [] W:=⟨h,ky.nil _ _,(fun R _ _ k h=>absurd h (by simp)),SV _ _⟩
theorem qR.under {W:World} {b:Nat} {Q:List (Value×Value)} {P:List Tb} (h:qR lo W b x y tv Q P V) (hb:Below V.heap.size V V'):qR lo W b x y tv Q P V':=⟨h.box.aa hb h.box.lt,h.own.under hb,h.far,SX h.fr hb⟩
theorem qR.push {W:World} {b:Nat} {dF:Value} {Q:List (Value×Value)} {P:List Tb} {t:Tb} (h:qR lo W b x y tv Q P V) (hlo:lo<=b) (hb:b<W.heap.size) (ht:dM V u1 u2 t) (hf:∀R,tv.ownBlock=some R ->fk R t (u1,u2)) (hfb:∀R,lo<=R ->R<=b ->fk R t (u1,u2)) (ho:V'.ownsRow W.heap.size 39 2 dF (P.length+1) (dG Q++[u1,u2])) (hg:V.grownBy V' tv.ownBlock) (hn:dF.ownBlock=tv.ownBlock∨∀k,dF.ownBlock=some k ->V.heap.size<=k):
  qR lo W b x y dF (Q++[(u1,u2)]) (P++[t]) (V'.setCell ⟨b,2,none⟩ dF):=by
 have hR:∀k,tv.ownBlock=some k ->W.heap.size<=k:=fun k e=>(h.own.lt k e).1;have hO:=h.own.push ht hf ho hg hn;have hB:bH V' b x y tv:=(hg.block b h.box.lt (fun e=>by have:=hR b e.symm;omega)).trans h.box
 have pM:∀R,lo<=R ->R<=b ->∀k (h1:k<(P++[t]).length) (h2:k<(Q++[(u1,u2)]).length),fk R (P++[t])[k] (Q++[(u1,u2)])[k]:=fun R hRl hRb k h1 h2=>by
  by_cases eD:k<P.length
  ·have fM:k<Q.length:=by rw[h.own.len];exact eD
   rw[oH fM,oH eD];exact h.far R hRl hRb k eD fM
  ·have fM:¬k<Q.length:=by rw[h.own.len];exact eD
   rw[rA (by omega),rA (by omega)];simp only[KV];exact hfb R hRl hRb
 refine⟨hB.set2 dF,hO.off _ (pM b hlo (ak _)) (fun e=>?_),pM,M0 (Ju h.fr hg hR) _ _⟩;have:=(hO.lt b e).1;omega
theorem akp (a:Option Addr) (ca:Nat) (S:List Nat) (x y:Value) (t:Tb) (v z:Nat) (w:World) (aN:eK (iL S)) (hs:aC w a (iL S)) (h:dM w x y t) (ho:dw S S.length t) (hw:Cw 100000 t.2) (hv:v<S.length) (hz:z<sz S v):
  Calls Tryz.prog 97 #[.slice a S.length ca,.agg #[x,y],.int .i64 (v:Nat),.int .i64 (z:Nat)] w fun e w'=>BK w.heap.size (jQ S v z t) e w'/\Below w.heap.size w w':=by
 obtain⟨b,c,cb,cc,rfl,rfl,h1,h2,h3⟩:=h;have e1:=aN.eight;rw[bF] at e1;have e2:=ho.small aN;have:=aeb a b c ca cb cc (iL S) t.1 t.2 v z w hs h1 h2 (by rw[bF];omega) (by omega) (ho.check aN) hw (by rw[bF];exact hv) (by rw[iV];exact hz);rw[bF,iV] at this;exact this.ae fun e w' hh=>⟨r8.tb (t:=jQ S v z t) hh.1,hh.2⟩
theorem af2 (a b t:Option Addr) (ca cb ct:Nat) (S:List Nat) (fr:List Int) (P:List Tb) (D c v z:Nat) (w:World) (aN:eK (iL S)) (hs:aC w a (iL S)) (hb:aC w b fr) (hP:gH w t P) (aV:eT S S.length P D c) (hpl:P.length<=1000) (jP:fr.length<=1000) (hm:2*(B D).size+(B c).size+2<=8192) (hv:v<S.length) (hz:z<sz S v):
  Calls Tryz.prog 48 #[.agg #[.slice a S.length ca,.slice b fr.length cb,.slice t P.length ct],.agg #[.int .i64 (v:Nat),.int .i64 (z:Nat)]] w fun e w'=>∃d cd t' eI,e=.returned (.agg #[.slice a S.length ca,.slice d (bP fr v).length cd,.slice t' P.length eI])/\aC w' d (bP fr v)/\gH w' t' (P.map (jQ S v z))/\fV w.heap.size t' eI/\Below w.heap.size w w':=by
 have eo:Pos S:=by have:=aN.pos;rwa [iV] at this
 have kT:=hid (fun (U:World) (hU:Below w.heap.size w U)=>XG (.slice a S.length ca) (.slice t P.length ct) b cb fr (v:Int) U (slv _ _ _) (slv _ _ _) (hb.aa hU) jP);have xT:Hid (∀(k:Nat) (hk:k<P.length) (x y:Value) (U:World),Below w.heap.size w U ->dM U x y P[k] ->Calls Tryz.prog 97 #[.slice a S.length ca,.agg #[x,y],.int .i64 (v:Nat),.int .i64 (z:Nat)] U fun e w'=>BK U.heap.size (jQ S v z P[k]) e w'/\Below U.heap.size U w'):=fun k hk x y U hU h1=>akp a ca S x y _ v z U aN (hs.aa hU) h1 (aV.ok _ (bY hk)) ((aV.cw eo hm P[k] (bY hk)).up (by decide)) hv hz;have HP:=hid hP;clear hs hb hP aV aN eo hm hz;go_enter Tryz.func48,Tryz.ntmps48;go_wp2_with fail
 have hb0:Below w.heap.size w (((w.alloc (.cells #[.slice a S.length ca,.slice b fr.length cb,.slice t P.length ct] 87)).alloc (.cells #[.int .i64 (v:Nat),.int .i64 (z:Nat)] 90)).alloc (.cells #[.slice none 0 0,.slice none 0 0,.slice none 0 0] 87)):=by
  have h1:=(aw w.heap.size w).alloc (ak _) (.cells #[.slice a S.length ca,.slice b fr.length cb,.slice t P.length ct] 87);have h2:=h1.alloc h1.size (.cells #[.int .i64 (v:Nat),.int .i64 (z:Nat)] 90);exact h2.alloc h2.size _
 have uN:bH (((w.alloc (.cells #[.slice a S.length ca,.slice b fr.length cb,.slice t P.length ct] 87)).alloc (.cells #[.int .i64 (v:Nat),.int .i64 (z:Nat)] 90)).alloc (.cells #[.slice none 0 0,.slice none 0 0,.slice none 0 0] 87)) w.heap.size (.slice a S.length ca) (.slice b fr.length cb) (.slice t P.length ct):=((bH.at (w:=w) rfl _ _ _).alloc _).alloc _
 have hF0:(((w.alloc (.cells #[.slice a S.length ca,.slice b fr.length cb,.slice t P.length ct] 87)).alloc (.cells #[.int .i64 (v:Nat),.int .i64 (z:Nat)] 90)).alloc (.cells #[.slice none 0 0,.slice none 0 0,.slice none 0 0] 87)).heap[w.heap.size+1]? =some (.cells #[.int .i64 (v:Nat),.int .i64 (z:Nat)] 90 (0,0)):=by
  rw[qg _ _ _ (by simp)];have:=fP (w.alloc (.cells #[.slice a S.length ca,.slice b fr.length cb,.slice t P.length ct] 87)) (.cells #[.int .i64 (v:Nat),.int .i64 (z:Nat)] 90);rwa [dE] at this
 have jb:bH (((w.alloc (.cells #[.slice a S.length ca,.slice b fr.length cb,.slice t P.length ct] 87)).alloc (.cells #[.int .i64 (v:Nat),.int .i64 (z:Nat)] 90)).alloc (.cells #[.slice none 0 0,.slice none 0 0,.slice none 0 0] 87)) (w.heap.size+1+1) (.slice none 0 0) (.slice none 0 0) (.slice none 0 0):=bH.at (w:=(w.alloc (.cells #[.slice a S.length ca,.slice b fr.length cb,.slice t P.length ct] 87)).alloc (.cells #[.int .i64 (v:Nat),.int .i64 (z:Nat)] 90)) (by simp) _ _ _;have Eg:=hid (kT.o _ hb0);clear kT;generalize (((w.alloc (.cells #[.slice a S.length ca,.slice b fr.length cb,.slice t P.length ct] 87)).alloc (.cells #[.int .i64 (v:Nat),.int .i64 (z:Nat)] 90)).alloc (.cells #[.slice none 0 0,.slice none 0 0,.slice none 0 0] 87))=W0 at *;refine Eg.o.ae ?_;rintro e w3 ⟨d,cd,rfl,Dg,II,hb3⟩;have hl0:=jb.lt;have kO:=(aw w3.heap.size w3).alloc (ak _) (.cells #[.slice a S.length ca,.slice d (bP fr v).length cd,.slice none 0 0] 87);have jO:(w3.alloc (.cells #[.slice a S.length ca,.slice d (bP fr v).length cd,.slice none 0 0] 87)).heap.size=w3.heap.size+1:=by simp
 have dO:=(hb0.trans (hb3.ae hb0.size)).trans (kO.ae (aM hb0.size hb3.size));have DR:=(uN.aa hb3 uN.lt).alloc (.cells #[.slice a S.length ca,.slice d (bP fr v).length cd,.slice none 0 0] 87);have tC:=(jb.aa hb3 jb.lt).alloc (.cells #[.slice a S.length ca,.slice d (bP fr v).length cd,.slice none 0 0] 87)
 have hF4:(w3.alloc (.cells #[.slice a S.length ca,.slice d (bP fr v).length cd,.slice none 0 0] 87)).heap[w.heap.size+1]? =some (.cells #[.int .i64 (v:Nat),.int .i64 (z:Nat)] 90 (0,0)):=by
  rw[qg _ _ _ (by have:=hb3.size;omega),hb3.block _ (by omega)];exact hF0
 have mZ:qR w.heap.size (w3.alloc (.cells #[.slice a S.length ca,.slice d (bP fr v).length cd,.slice none 0 0] 87)) w3.heap.size (.slice a S.length ca) (.slice d (bP fr v).length cd) (.slice none 0 0) [] [] (w3.alloc (.cells #[.slice a S.length ca,.slice d (bP fr v).length cd,.slice none 0 0] 87)):=qR.start (bH.at (w:=w3) rfl (.slice a S.length ca) (.slice d (bP fr v).length cd) (.slice none 0 0));have DU:=Dg.aa kO;have hs3:=hb3.size
 have Ux:Hid (∀g o,d=some ⟨g,o,none⟩ ->bP fr v≠[] ->some g≠some w3.heap.size):=fun g o e hne e2=>by
  obtain⟨g',o',e',gD,_⟩:=Dg 0 (by cases hl:bP fr v with |nil=>exact absurd hl hne |cons x l=>simp);rw[e] at e';cases e';cases e2;omega
 have p6:Hid (∀g o,d=some ⟨g,o,none⟩ ->bP fr v≠[] ->g≠w.heap.size+1+1):=fun g o e _ e2=>by
  have:=II.2 g o e;omega
 clear Dg II hb3 hb0 uN hF0 jb kO Eg;have ir:=hid dO;have zG:=hid DR;have nh:=hid tC;have Ez:=hid hF4;have sA:=hid mZ;have Cf:=hid DU;have yT:=DR.cells.2.2;clear dO DR tC hF4 mZ DU;generalize F0:bP fr v=LF at *;have HLF:=hid F0;clear F0;go_wp2_with fail
 generalize (w3.alloc (.cells #[.slice a S.length ca,.slice d LF.length cd,.slice none 0 0] 87))=W4 at *;clear yT;obtain⟨T,hT⟩:∃T:Nat ->List Tb,∀k,(P.take k).map (jQ S v z)=T k:=⟨fun k=>(P.take k).map (jQ S v z),fun _=>rfl⟩;have zA:Hid (T 0=[]):=by show _=_;rw[<- hT];rfl
 have xD:Hid (∀k (hk:k<P.length),T (k+1)=T k++[jQ S v z P[k]]):=fun k hk=>by rw[<- hT, <- hT,gh hk,dY];rfl
 have qW:Hid (T P.length=P.map (jQ S v z)):=by show _=_;rw[<- hT,iR]
 have J8:Hid (∀k,k<=P.length ->(T k).length=k):=fun k hk=>by rw[<- hT,cH,eB];omega
 clear hT;go_loopw [17] (fun iv wr=>∃(i:Nat) (tv:Value) (Q:List (Value×Value)),i<=P.length/\iv=.int .i64 i/\Hid (qR w.heap.size W4 w3.heap.size (.slice a S.length ca) (.slice d LF.length cd) tv Q (T i) wr)) (fun iv _=>P.length - (intOf iv).toNat)
 case atStart=>exact⟨0,_,_,aX _,rfl,by rw[zA.o];exact sA⟩
 case round=>
  obtain⟨i,tv,Q,hi,rfl,HM⟩:=hrel;have I7:=HM.o.fr.size;have HB:Hid (Below w.heap.size w wr):=Jt ir.o HM.o.fr (by omega) (by omega);have Kk:Hid (bH wr w.heap.size (.slice a S.length ca) (.slice b fr.length cb) (.slice t P.length ct)):=(HM.o.fr.block _ zG.o.lt (fun e=>by have:=k7 e;omega)).trans zG.o;have o9:Hid (bH wr (w.heap.size+1+1) (.slice none 0 0) (.slice none 0 0) (.slice none 0 0)):=(HM.o.fr.block _ nh.o.lt (fun e=>by have:=k7 e;omega)).trans nh.o;have HFr:Hid (wr.heap[w.heap.size+1]? =some (.cells #[.int .i64 (v:Nat),.int .i64 (z:Nat)] 90 (0,0))):=(HM.o.fr.block _ (by omega) (fun e=>by have:=k7 e;omega)).trans Ez.o;by_cases hlt2:i<P.length
  ·obtain⟨g,o,p,q,rfl,hg,k0,k1,yR⟩:=(HP.o.aa HB.o) i hlt2;have hA:=(aw wr.heap.size wr).alloc (ak _) (TC p q);have cF:=hid (HB.o.trans (hA.ae HB.o.size));(have yP:(wr.alloc (TC p q)).heap.size=wr.heap.size+1:=by simp);have Ji:=Kk.o.alloc (TC p q);have aiS:=Ji.cells.1;have Sz:(wr.alloc (TC p q)).heap[w.heap.size+1]? =some (.cells #[.int .i64 (v:Nat),.int .i64 (z:Nat)] 90 (0,0)):=(qg _ _ _ (by omega)).trans HFr.o;(have Nf:(wr.alloc (TC p q)).cell? ⟨w.heap.size+1,0,none⟩=some (.int .i64 (v:Nat)):=by rw[bE _ _ 0 _ _ (0,0) Sz];rfl);(have S9:(wr.alloc (TC p q)).cell? ⟨w.heap.size+1,1,none⟩=some (.int .i64 (z:Nat)):=by rw[bE _ _ 1 _ _ (0,0) Sz];rfl);have bB:=bG.at (w:=wr) rfl p q;have b0:=bB.c0;have b1:=bB.c1;have jW:=hid (HM.o.under hA);have HX:=hid (xT.o i hlt2 p q _ cF.o (yR.aa hA));have amv:=hid (xD.o i hlt2);have pR:=J8.o i hi;obtain⟨ps,pn,pc,rfl⟩:=yR.slices.1;obtain⟨qs,qn,qc,rfl⟩:=yR.slices.2;have GF:Hid (∀R,tv.ownBlock=some R ->W4.heap.size<=R/\R<wr.heap.size):=HM.o.own.lt;clear yR hA bB Ji Sz;generalize jQ S v z P[i]=ft at *;go_wp2_with fail
   refine HX.o.ae ?_;rintro e w7 ⟨⟨x2,y2,rfl,hv2,iD⟩,ed⟩;obtain⟨xs,xn,xc,rfl⟩:=hv2.slices.1;obtain⟨ys,yn,yc,rfl⟩:=hv2.slices.2;rw[yP] at iD;have Mm:=ed.size;rw[yP] at Mm;have lU:=hid (jW.o.under ed);have xe:=(aw w7.heap.size w7).alloc (ak _) (TC (.slice xs xn xc) (.slice ys yn yc));have lT:=hid (lU.o.under xe);(have FH:(w7.alloc (TC (.slice xs xn xc) (.slice ys yn yc))).heap.size=w7.heap.size+1:=by simp);have Dt:=bG.at (w:=w7) rfl (.slice xs xn xc) (.slice ys yn yc);have c80:=Dt.c0;have c81:=Dt.c1;have t82:=lT.o.box.cells.2.2;have SH:=(aw (w7.alloc (TC (.slice xs xn xc) (.slice ys yn yc))).heap.size (w7.alloc (TC (.slice xs xn xc) (.slice ys yn yc)))).alloc (ak _) (TC (.slice xs xn xc) (.slice ys yn yc));have Kq:=hid (lT.o.under SH);have T3:=hid ((hv2.aa xe).aa SH);have RV:=bG.at (w:=w7.alloc (TC (.slice xs xn xc) (.slice ys yn yc))) FH (.slice xs xn xc) (.slice ys yn yc);have amQ:=hid RV.c0;have amP:=hid RV.c1;have zB:=hid hv2.slices;have tS:=hid iD;have NQ:Hid (W4.heap.size<=((w7.alloc (TC (.slice xs xn xc) (.slice ys yn yc))).alloc (TC (.slice xs xn xc) (.slice ys yn yc))).heap.size):=Kq.o.fr.size;have hb5:=sA.o.box.lt;clear hv2 ed xe SH Dt RV iD HX jW k0 k1 b0 b1 aiS Nf S9
   have KEY:∀(dF:Value) (b7:World),b7.ownsRow W4.heap.size 39 2 dF ((T i).length+1) (dG Q++[.slice xs xn xc,.slice ys yn yc]) ->((w7.alloc (TC (.slice xs xn xc) (.slice ys yn yc))).alloc (TC (.slice xs xn xc) (.slice ys yn yc))).grownBy b7 tv.ownBlock ->(dF.ownBlock=tv.ownBlock∨∀k,dF.ownBlock=some k ->((w7.alloc (TC (.slice xs xn xc) (.slice ys yn yc))).alloc (TC (.slice xs xn xc) (.slice ys yn yc))).heap.size<=k) ->(∃a' n' c',dF=Value.slice a' n' c')/\(qR w.heap.size W4 w3.heap.size (.slice a S.length ca) (.slice d LF.length cd) dF (Q++[(.slice xs xn xc,.slice ys yn yc)]) (T (i+1)) (b7.setCell ⟨w3.heap.size,2,none⟩ dF))/\b7.cell? ⟨w3.heap.size,2,none⟩=some tv/\b7.frozen? ⟨w3.heap.size,2,none⟩=false:=fun dF b7 fg eP gA=>by
    have hM:=Kq.o.push (by omega) hb5 T3.o (fun R hR=>tS.o R (by have:=(GF.o R hR).2;omega)) (fun R _ hR=>tS.o R (by omega)) fg eP gA;rw[<- amv.o] at hM;have Bu:bH b7 w3.heap.size (.slice a S.length ca) (.slice d LF.length cd) tv:=(eP.block _ Kq.o.box.lt (fun e=>by have:=(GF.o _ e.symm).1;omega)).trans Kq.o.box;refine⟨?_,hM,Bu.cells.2.2,Bu.fz 2⟩;rcases fg.2 with ⟨h1,_⟩ |⟨g',cap',cur',h1,_⟩
    ·exact⟨_,_,_,h1⟩
    ·exact⟨_,_,_,h1⟩
   have HKEY:=hid KEY;clear KEY;go_wp2_with (at_builtin;refine K5 rfl _ _ rfl W4.heap.size tv (T i).length (dG Q) (.slice xs xn xc) (.slice ys yn yc) rfl Kq.o.own.own (w7.heap.size+1) rfl amQ.o amP.o zB.o.1 zB.o.2 (by omega) NQ.o ?_;intro dF b7 fg eP gA;obtain⟨⟨wu,tn',wm,rfl⟩,uO,t102,f102⟩:=HKEY.o dF b7 fg eP gA;have np:=hid uO;clear uO fg eP gA)
   go_roundw
   case rel=>exact⟨i+1,_,_,by omega,by go_num,np⟩
   case measure=>simp[intOf];omega
  ·obtain rfl:i=P.length:=by omega
   rw[qW.o] at HM;obtain⟨ta,tc,rfl,AU⟩:=HM.o.own.row;obtain⟨x0,x1,x2⟩:=HM.o.box.cells;obtain⟨r0,r1,r2⟩:=o9.o.cells;have Lm:=o9.o.fz 0;have Ll:=o9.o.fz 1;have Lk:=o9.o.fz 2;(have qC:(P.map (jQ S v z)).length=P.length:=by simp);rw[qC] at HM x2;have Jn:aC wr d LF:=Ip Cf.o Ux.o HM.o.fr;have zE:=hid (o9.o.put (.slice a S.length ca) (.slice d LF.length cd) (.slice ta P.length tc));have rj:=hid (df HB.o (show w.heap.size<=w.heap.size+1+1 by omega) (.slice a S.length ca) (.slice d LF.length cd) (.slice ta P.length tc))
   have jB:Value.ownBlock (.slice ta P.length tc)≠some (w.heap.size+1+1):=fun e=>by
    have:=(HM.o.own.lt _ e).1;omega
   have Bj:=((HM.o.own.off (g:=w.heap.size+1+1) (j:=0) (.slice a S.length ca) (HM.o.far _ (by omega) (by omega)) jB).off (g:=w.heap.size+1+1) (j:=1) (.slice d LF.length cd) (HM.o.far _ (by omega) (by omega)) jB).off (g:=w.heap.size+1+1) (j:=2) (.slice ta P.length tc) (HM.o.far _ (by omega) (by omega)) jB;obtain⟨V0,VW,e2,AR⟩:=Bj.row;rw[qC] at e2;injection e2 with e3 e4 e5;subst e3 e5;clear e4;have J6:=hid AR;have xP:=hid (((Jn.off (g:=w.heap.size+1+1) (j:=0) (y:=.slice a S.length ca) p6.o).off (g:=w.heap.size+1+1) (j:=1) (y:=.slice d LF.length cd) p6.o).off (g:=w.heap.size+1+1) (j:=2) (y:=.slice ta P.length tc) p6.o);have dB:=hid ((Qa HM.o.own.own).up (show w.heap.size<=W4.heap.size by omega));clear Bj AR Jn AU;go_wp2;refine dh (zE.o.result1 rfl _ rfl) rfl ?_;have e6:=HLF.o;subst e6;exact⟨d,cd,ta,tc,rfl,xP.o,J6.o,dB.o,rj.o⟩
variable {Q2:List (Value×Value)} {P2:List Tb} {v:Nat} {wv:Value}
theorem aaQ {t:Tb} (h:Up t.1 n):t.1.contains (v:Int)=decide (v∈af t.1):=by
 have:(v:Int)∈t.1↔v∈af t.1:=by
  rw[af,aU];constructor
  ·intro hv;exact⟨_,hv,by simp⟩
  ·rintro⟨x,hx,e⟩;have:=((fK.1 h).1 x hx).1;rw[show (v:Int)=x by omega];exact hx
 by_cases hv:v∈af t.1
 ·rw[bT hv,Ah];exact this.2 hv
 ·rw[cj hv, <- Bool.not_eq_true,Ah];exact fun e=>hv (this.1 e)
theorem agq (a:Option Addr) (ca:Nat) (S:List Nat) (x y:Value) (t:Tb) (v:Nat) (most:Bool) (w:World) (aN:eK (iL S)) (hs:aC w a (iL S)) (h:dM w x y t) (ho:dw S S.length t) (hw:Cw 8192 t.2) (hv:v<S.length) (C1:v∈af t.1):
  Calls Tryz.prog 160 #[.slice a S.length ca,.agg #[x,y],.int .i64 (v:Nat),.bool most] w fun e w'=>BK w.heap.size (outT S v most t) e w'/\Below w.heap.size w w':=by
 obtain⟨b,c,cb,cc,rfl,rfl,h1,h2,h3⟩:=h;have e1:=aN.eight;rw[bF] at e1;have e2:=ho.small aN;have e3:t.1.contains (v:Int)=true:=by rw[aaQ ho.up,bT C1]
 cases most with
 |false=>
  have:=ad8 a b c ca cb cc (iL S) t.1 t.2 v w hs h1 h2 (by rw[bF];omega) (by omega) (ho.check aN) hw e3 (by rw[bF];exact hv);rw[bF,iV] at this;exact this.ae fun e w' hh=>⟨r8.tb (t:=outT S v false t) hh.1,hh.2⟩
 |true=>
  have:=ad9 a b c ca cb cc (iL S) t.1 t.2 v w hs h1 h2 (by rw[bF];omega) (by omega) (ho.check aN) hw e3 (by rw[bF];exact hv);rw[bF,iV] at this;exact this.ae fun e w' hh=>⟨r8.tb (t:=outT S v true t) hh.1,hh.2⟩
theorem LH {B:Nat} {e:TypeId} {s:Nat} {v:Value} {r:Option Nat} (h:w.ownsRow B e s v n xs) (hg:w.grownBy w' r) (hne:∀R,v.ownBlock=some R ->r≠some R):w'.ownsRow B e s v n xs:=by
 refine⟨h.1,?_⟩;rcases h.2 with h1 |⟨g,cap,cur,h1,h2,h3,h4⟩
 ·exact .inl h1
 ·exact .inr ⟨g,cap,cur,h1,h2,(hg.block g (cV.1 h3).1 (fun e=>hne g (by rw[h1];rfl) e.symm)).trans h3,h4⟩
theorem pE {B:Nat} {e:TypeId} {s:Nat} {v:Value} (h:w.ownsRow B e s v n xs):∀R,v.ownBlock=some R ->B<=R/\R<w.heap.size:=fun R hR=>by
 rcases h.2 with ⟨h1,h2⟩ |⟨g,cap,cur,h1,h2,h3,_⟩
 ·rw[h1] at hR;cases hR
 ·rw[h1] at hR;cases hR;exact⟨h2,(cV.1 h3).1⟩
theorem sT {B:Nat} {e:TypeId} {s:Nat} {v:Value} (h:w.ownsRow B e s v n xs):∃a c,v=.slice a n c:=by
 rcases h.2 with ⟨h1,h2⟩ |⟨g,cap,cur,h1,_⟩
 ·exact⟨none,0,by rw[h1,h2]⟩
 ·exact⟨_,_,h1⟩
structure vg (w:World) (Q:List (Value×Value)) (P:List Tb):Prop where
 len:Q.length=P.length
 val:∀k (h:k<P.length) (h':k<Q.length),dM w Q[k].1 Q[k].2 P[k]
theorem vg.nil (w:World):vg w [] []:=⟨rfl,fun k h=>absurd h (by simp)⟩
theorem vg.push {Q:List (Value×Value)} {P:List Tb} {t:Tb} (h:vg w Q P) (ht:dM w x y t):vg w (Q++[(x,y)]) (P++[t]):=by
 refine⟨by simp[h.len],fun k hk fN=>?_⟩;by_cases eD:k<P.length
 ·have fM:k<Q.length:=by rw[h.len];exact eD
  rw[oH fM,oH eD];exact h.val k eD fM
 ·have fM:¬k<Q.length:=by rw[h.len];exact eD
  rw[rA (by omega),rA (by omega)];simp only[KV];exact ht
theorem vg.owt {B:Nat} {v:Value} {Q:List (Value×Value)} {P:List Tb} (h:vg w Q P) (hb:Below w.heap.size w V) (hB:w.heap.size<=B) (ho:V.ownsRow B 39 2 v P.length (dG Q)):ky V B v Q P:=
 ⟨h.len,ho,fun k h1 h2=>(h.val k h1 h2).aa hb,fun R hR k h1 h2=>(h.val k h1 h2).lt (aM hB (pE ho R hR).1)⟩
structure lO (w W:World) (b:Nat) (x y tv wv:Value) (Q Q2:List (Value×Value)) (P P2:List Tb) (V:World):Prop where
 box:bH V b x y tv
 own:V.ownsRow W.heap.size 39 2 tv P.length (dG Q)
 own2:V.ownsRow W.heap.size 39 2 wv P2.length (dG Q2)
 q:vg w Q P
 q2:vg w Q2 P2
 ne:∀R,tv.ownBlock=some R ->wv.ownBlock≠some R
 fr:W.grownBy V (some b)
theorem lO.start {W:World} {b:Nat} (h:bH W b x y (.slice none 0 0)):lO w W b x y (.slice none 0 0) (.slice none 0 0) [] [] [] [] W:=
 ⟨h,(ky.nil _ _).own,(ky.nil _ _).own,vg.nil _,vg.nil _,(fun R e=>by cases e),SV _ _⟩
theorem lO.under {W:World} {b:Nat} {Q:List (Value×Value)} {P:List Tb} (h:lO w W b x y tv wv Q Q2 P P2 V) (hb:Below V.heap.size V V'):lO w W b x y tv wv Q Q2 P P2 V':=
 ⟨h.box.aa hb h.box.lt,Fm h.own (zq.aa hb),Fm h.own2 (zq.aa hb),h.q,h.q2,h.ne,SX h.fr hb⟩
theorem lO.push2 {W:World} {b:Nat} {K4:Value} {Q:List (Value×Value)} {P:List Tb} {t:Tb} (h:lO w W b x y tv wv Q Q2 P P2 V) (hb:b<W.heap.size) (ht:dM w u1 u2 t) (ho:V'.ownsRow W.heap.size 39 2 K4 (P2.length+1) (dG Q2++[u1,u2])) (hg:V.grownBy V' wv.ownBlock) (hn:K4.ownBlock=wv.ownBlock∨∀k,K4.ownBlock=some k ->V.heap.size<=k):
  lO w W b x y tv K4 Q (Q2++[(u1,u2)]) P (P2++[t]) V':=by
 have hR:∀k,wv.ownBlock=some k ->W.heap.size<=k:=fun k e=>(pE h.own2 k e).1;refine⟨(hg.block b h.box.lt (fun e=>by have:=hR b e.symm;omega)).trans h.box,LH h.own hg h.ne,by rw[E5,bM];exact ho,h.q,h.q2.push ht,fun R e e2=>?_,Ju h.fr hg hR⟩;rcases hn with hn |hn
 ·rw[hn] at e2;exact h.ne R e e2
 ·have h1:=hn R e2;have h2:=(pE h.own R e).2;omega
theorem lO.push1 {W:World} {b:Nat} {dF:Value} {Q:List (Value×Value)} {P:List Tb} {t:Tb} (h:lO w W b x y tv wv Q Q2 P P2 V) (hb:b<W.heap.size) (ht:dM w u1 u2 t) (ho:V'.ownsRow W.heap.size 39 2 dF (P.length+1) (dG Q++[u1,u2])) (hg:V.grownBy V' tv.ownBlock) (hn:dF.ownBlock=tv.ownBlock∨∀k,dF.ownBlock=some k ->V.heap.size<=k):
  lO w W b x y dF wv (Q++[(u1,u2)]) Q2 (P++[t]) P2 (V'.setCell ⟨b,2,none⟩ dF)/\bH V' b x y tv:=by
 have hR:∀k,tv.ownBlock=some k ->W.heap.size<=k:=fun k e=>(pE h.own k e).1;have hB:bH V' b x y tv:=(hg.block b h.box.lt (fun e=>by have:=hR b e.symm;omega)).trans h.box;have ho2:V'.ownsRow W.heap.size 39 2 wv P2.length (dG Q2):=LH h.own2 hg (fun R e e2=>h.ne R e2 e);have ho1:V'.ownsRow W.heap.size 39 2 dF (P++[t]).length (dG (Q++[(u1,u2)])):=by rw[E5,bM];exact ho
 refine⟨⟨hB.set2 dF,KH ho1 (fun e=>?_) _,KH ho2 (fun e=>?_) _,h.q.push ht,h.q2,fun R e e2=>?_,M0 (Ju h.fr hg hR) _ _⟩,hB⟩
 ·have:=(pE ho1 b e).1;omega
 ·have:=(pE ho2 b e).1;omega
 ·rcases hn with hn |hn
  ·rw[hn] at e;exact h.ne R e e2
  ·have h1:=hn R e;have h2:=(pE h.own2 R e2).2;omega
theorem lO.plm {W:World} {b:Nat} {Q:List (Value×Value)} {P:List Tb} (h:lO w W b x y tv wv Q Q2 P P2 V) (hb:Below w.heap.size w V) (hW:w.heap.size<=W.heap.size):qR w.heap.size W b x y tv Q P V:=
 ⟨h.box,h.q.owt hb hW h.own,fun _ hR _ k h1 h2=>(h.q.val k h1 h2).lt hR,h.fr⟩
theorem lO.row2 {W:World} {b:Nat} {Q:List (Value×Value)} {P:List Tb} (h:lO w W b x y tv wv Q Q2 P P2 V) (hb:Below w.heap.size w V) (hW:w.heap.size<=W.heap.size):∃a c,wv=.slice a P2.length c/\gH V a P2:=(h.q2.owt hb hW h.own2).row
theorem afZ (a b t:Option Addr) (ca cb ct:Nat) (S:List Nat) (fr:List Int) (P:List Tb) (D c v:Nat) (most:Bool) (w:World) (aN:eK (iL S)) (hs:aC w a (iL S)) (hb:aC w b fr) (hP:gH w t P) (aV:eT S S.length P D c) (hpl:P.length<=999) (jP:fr.length<=1000) (hm:2*(B D).size+(B c).size+2<=8192) (hv:v<S.length) (hex:∃t∈P,v∈af t.1):
  Calls Tryz.prog 104 #[.agg #[.slice a S.length ca,.slice b fr.length cb,.slice t P.length ct],.int .i64 (v:Nat),.bool most] w fun e w'=>∃d cd t' eI,e=.returned (.agg #[.slice a S.length ca,.slice d (bP fr v).length cd,.slice t' (j8 S v most P).length eI])/\aC w' d (bP fr v)/\gH w' t' (j8 S v most P)/\fV w.heap.size t' eI/\Below w.heap.size w w':=by
 have eo:Pos S:=by have:=aN.pos;rwa [iV] at this
 have kT:=hid (fun (U:World) (hU:Below w.heap.size w U)=>XG (.slice a S.length ca) (.slice t P.length ct) b cb fr (v:Int) U (slv _ _ _) (slv _ _ _) (hb.aa hU) jP)
 have p9:Hid (∀(k:Nat) (hk:k<P.length) (x:Option Addr) (cx:Nat) (U:World),aC U x P[k].1 ->Calls Tryz.prog 49 #[.slice x P[k].1.length cx,.int .i64 (v:Nat)] U fun e w'=>e=.returned (.bool (decide (v∈af P[k].1)))/\Below U.heap.size U w'):=fun k hk x cx U h=>by
  have ho:=aV.ok _ (bY hk);have:=Hz x cx P[k].1 (v:Int) U h (by have:=ho.small aN;omega);rwa [aaQ ho.up] at this
 obtain⟨E1,d1,k1,k2,k3⟩:=aV.filter (fun t=>decide (v∈af t.1))
 have hm1:2*(B E1).size+(B d1).size+2<=8192:=by
  have h1:=j7 k2;have h2:=j7 k3;omega
 have hpart:=k1.part eo hm1 (P.filter fun t=>decide (v∈af t.1)).length;rw[iR] at hpart
 have hin:v∈af (allT S (P.filter fun t=>decide (v∈af t.1))).1:=((xu eo k1.ok).2.1 v).2 (by
  obtain⟨t,ht,C1⟩:=hex;exact⟨t,cJ.2 ⟨ht,bT C1⟩,C1⟩)
 have hlen:(P.filter fun t=>decide (v∈af t.1)).length<=1000:=aM (l6 ..) (by omega);have vE:Hid (∀(wa:Option Addr) (cw:Nat) (U:World),Below w.heap.size w U ->gH U wa (P.filter fun t=>decide (v∈af t.1)) ->Calls Tryz.prog 105 #[.slice a S.length ca,.slice wa (P.filter fun t=>decide (v∈af t.1)).length cw] U fun e w'=>∃x y,e=.returned (.agg #[x,y])/\dM w' x y (allT S (P.filter fun t=>decide (v∈af t.1)))/\Below U.heap.size U w'):=fun wa cw U hU h=>Xv a wa ca cw S _ E1 d1 U aN (hs.aa hU) h k1 hlen hm1;have B5:Hid (∀(x y:Value) (U:World),Below w.heap.size w U ->dM U x y (allT S (P.filter fun t=>decide (v∈af t.1))) ->Calls Tryz.prog 160 #[.slice a S.length ca,.agg #[x,y],.int .i64 (v:Nat),.bool most] U fun e w'=>BK U.heap.size (outT S v most (allT S (P.filter fun t=>decide (v∈af t.1)))) e w'/\Below U.heap.size U w'):=fun x y U hU h=>agq a ca S x y _ v most U aN (hs.aa hU) h hpart.1 hpart.2 hv hin;have HP:=hid hP;clear hs hb hP aV aN eo hm hex k1 k2 k3 hm1 hpart hin hlen;obtain⟨T,hT⟩:∃T:Nat ->List Tb,∀k,(P.take k).filter (fun t=>!decide (v∈af t.1))=T k:=⟨fun k=>(P.take k).filter (fun t=>!decide (v∈af t.1)),fun _=>rfl⟩;obtain⟨Z,hZ⟩:∃Z:Nat ->List Tb,∀k,(P.take k).filter (fun t=>decide (v∈af t.1))=Z k:=⟨fun k=>(P.take k).filter (fun t=>decide (v∈af t.1)),fun _=>rfl⟩;have zA:Hid (T 0=[]/\Z 0=[]):=by show _/\_;rw[<- hT, <- hZ];exact⟨rfl,rfl⟩
 have jA:Hid (∀k (hk:k<P.length),decide (v∈af P[k].1)=true ->T (k+1)=T k/\Z (k+1)=Z k++[P[k]]):=fun k hk h=>by
  rw[<- hT, <- hT, <- hZ, <- hZ,gh hk,vW,vW,vV (by simp only[h];decide),vU (p:=fun t:Tb=>decide (v∈af t.1)) h];simp
 have vA:Hid (∀k (hk:k<P.length),decide (v∈af P[k].1)=false ->T (k+1)=T k++[P[k]]/\Z (k+1)=Z k):=fun k hk h=>by
  rw[<- hT, <- hT, <- hZ, <- hZ,gh hk,vW,vW,vU (by simp only[h];decide),vV (by simp only[h];decide)];simp
 have qW:Hid (T P.length=(P.filter fun t=>!decide (v∈af t.1))/\Z P.length=P.filter fun t=>decide (v∈af t.1)):=by show _/\_;rw[<- hT, <- hZ,iR];exact⟨rfl,rfl⟩
 have J8:Hid (∀k,(T k).length<=P.length/\(Z k).length<=P.length):=fun k=>by rw[<- hT, <- hZ];exact⟨aM (l6 ..) (by rw[eB];omega),aM (l6 ..) (by rw[eB];omega)⟩
 clear hT hZ;obtain⟨OP,Sp⟩:∃OP,j8 S v most P=OP:=⟨_,rfl⟩;have Eo:Hid (OP=T P.length++[outT S v most (allT S (Z P.length))]):=by show _=_;rw[<- Sp,qW.o.1,qW.o.2];rfl
 rw[<- qW.o.2] at vE B5;rw[Sp];generalize outT S v most (allT S (Z P.length))=OT at *;generalize allT S (Z P.length)=AT at *;clear Sp qW;obtain⟨LF,F0⟩:∃LF,bP fr v=LF:=⟨_,rfl⟩;rw[F0] at kT;rw[F0];clear F0;go_enter Tryz.func104,Tryz.ntmps104;go_wp2_with fail
 have hb0:Below w.heap.size w ((w.alloc (.cells #[.slice a S.length ca,.slice b fr.length cb,.slice t P.length ct] 87)).alloc (.cells #[.slice none 0 0,.slice none 0 0,.slice none 0 0] 87)):=by
  have h1:=(aw w.heap.size w).alloc (ak _) (.cells #[.slice a S.length ca,.slice b fr.length cb,.slice t P.length ct] 87);exact h1.alloc h1.size _
 have uN:bH ((w.alloc (.cells #[.slice a S.length ca,.slice b fr.length cb,.slice t P.length ct] 87)).alloc (.cells #[.slice none 0 0,.slice none 0 0,.slice none 0 0] 87)) w.heap.size (.slice a S.length ca) (.slice b fr.length cb) (.slice t P.length ct):=(bH.at (w:=w) rfl _ _ _).alloc _;have jb:bH ((w.alloc (.cells #[.slice a S.length ca,.slice b fr.length cb,.slice t P.length ct] 87)).alloc (.cells #[.slice none 0 0,.slice none 0 0,.slice none 0 0] 87)) (w.heap.size+1) (.slice none 0 0) (.slice none 0 0) (.slice none 0 0):=bH.at (w:=w.alloc (.cells #[.slice a S.length ca,.slice b fr.length cb,.slice t P.length ct] 87)) (by simp) _ _ _;have Eg:=hid (kT.o _ hb0);clear kT;generalize ((w.alloc (.cells #[.slice a S.length ca,.slice b fr.length cb,.slice t P.length ct] 87)).alloc (.cells #[.slice none 0 0,.slice none 0 0,.slice none 0 0] 87))=W0 at *;refine Eg.o.ae ?_;rintro e w3 ⟨d,cd,rfl,Dg,II,hb3⟩;have hl0:=jb.lt;have kO:=(aw w3.heap.size w3).alloc (ak _) (.cells #[.slice a S.length ca,.slice d LF.length cd,.slice none 0 0] 87);have jO:(w3.alloc (.cells #[.slice a S.length ca,.slice d LF.length cd,.slice none 0 0] 87)).heap.size=w3.heap.size+1:=by simp
 have dO:=(hb0.trans (hb3.ae hb0.size)).trans (kO.ae (aM hb0.size hb3.size));have DR:=(uN.aa hb3 uN.lt).alloc (.cells #[.slice a S.length ca,.slice d LF.length cd,.slice none 0 0] 87);have tC:=(jb.aa hb3 jb.lt).alloc (.cells #[.slice a S.length ca,.slice d LF.length cd,.slice none 0 0] 87);have mZ:lO w (w3.alloc (.cells #[.slice a S.length ca,.slice d LF.length cd,.slice none 0 0] 87)) w3.heap.size (.slice a S.length ca) (.slice d LF.length cd) (.slice none 0 0) (.slice none 0 0) [] [] [] [] (w3.alloc (.cells #[.slice a S.length ca,.slice d LF.length cd,.slice none 0 0] 87)):=lO.start (bH.at (w:=w3) rfl (.slice a S.length ca) (.slice d LF.length cd) (.slice none 0 0));have DU:=Dg.aa kO;have hs3:=hb3.size
 have Ux:Hid (∀g o,d=some ⟨g,o,none⟩ ->LF≠[] ->some g≠some w3.heap.size):=fun g o e hne e2=>by
  obtain⟨g',o',e',gD,_⟩:=Dg 0 (by cases hl:LF with |nil=>exact absurd hl hne |cons x l=>simp);rw[e] at e';cases e';cases e2;omega
 have p6:Hid (∀g o,d=some ⟨g,o,none⟩ ->LF≠[] ->g≠w.heap.size+1):=fun g o e _ e2=>by
  have:=II.2 g o e;omega
 clear Dg II hb3 hb0 uN jb kO Eg;have ir:=hid dO;have zG:=hid DR;have nh:=hid tC;have sA:=hid mZ;have Cf:=hid DU;have yT:=DR.cells.2.2;clear dO DR tC mZ DU;go_wp2_with fail
 generalize (w3.alloc (.cells #[.slice a S.length ca,.slice d LF.length cd,.slice none 0 0] 87))=W4 at *;clear yT;go_loopw [8,19] (fun zv iv wr=>∃(i:Nat) (tv:Value) (Q Q2:List (Value×Value)),i<=P.length/\iv=.int .i64 i/\Hid (lO w W4 w3.heap.size (.slice a S.length ca) (.slice d LF.length cd) tv zv Q Q2 (T i) (Z i) wr)) (fun _ iv _=>P.length - (intOf iv).toNat)
 case atStart=>exact⟨0,_,_,_,aX _,rfl,by rw[zA.o.1,zA.o.2];exact sA⟩
 case round=>
  obtain⟨i,tv,Q,Q2,hi,rfl,HM⟩:=hrel;have I7:=HM.o.fr.size;have HB:Hid (Below w.heap.size w wr):=Jt ir.o HM.o.fr (by omega) (by omega);have Kk:Hid (bH wr w.heap.size (.slice a S.length ca) (.slice b fr.length cb) (.slice t P.length ct)):=(HM.o.fr.block _ zG.o.lt (fun e=>by have:=k7 e;omega)).trans zG.o;have o9:Hid (bH wr (w.heap.size+1) (.slice none 0 0) (.slice none 0 0) (.slice none 0 0)):=(HM.o.fr.block _ nh.o.lt (fun e=>by have:=k7 e;omega)).trans nh.o;have hb5:w3.heap.size<W4.heap.size:=by omega
  obtain⟨za,zc,rfl⟩:=sT HM.o.own2;by_cases hlt2:i<P.length
  ·obtain⟨g,o,p,q,rfl,hg,k0,k1,aab⟩:=HP.o i hlt2;replace k0:=(HB.o.cell (p:=⟨g,_,none⟩) hg).trans k0;replace k1:=(HB.o.cell (p:=⟨g,_,none⟩) hg).trans k1;have HPQ:=hid aab;have hA:=(aw wr.heap.size wr).alloc (ak _) (TC p q);have cF:=hid (HB.o.trans (hA.ae HB.o.size));(have yP:(wr.alloc (TC p q)).heap.size=wr.heap.size+1:=by simp);have bB:=bG.at (w:=wr) rfl p q;have b0:=bB.c0;have jW:=hid (HM.o.under hA);obtain⟨ps,qs,pc,qc,rfl,rfl,A4,_,_⟩:=aab;have HX:=hid (p9.o i hlt2 ps pc _ (A4.aa cF.o));have qd:=hid bB;have amC:=hid (jA.o i hlt2);have amD:=hid (vA.o i hlt2);have pR:=J8.o i;clear A4 hA bB HM HB Kk o9;have HAS:Hid (Below (wr.alloc (TC (.slice ps P[i].1.length pc) (.slice qs P[i].2.length qc))).heap.size (wr.alloc (TC (.slice ps P[i].1.length pc) (.slice qs P[i].2.length qc))) (wr.alloc (TC (.slice ps P[i].1.length pc) (.slice qs P[i].2.length qc)))):=aw _ _;generalize P[i]=pt at *;generalize hdc:decide (v∈af pt.1)=dc at *;clear hdc;go_wp2_with fail
   refine HX.o.ae ?_;rintro e w7 ⟨rfl,ed⟩;have lU:=hid (jW.o.under ed);have zT:=hid (qd.o.aa ed qd.o.lt);have c70:=zT.o.c0;have c71:=zT.o.c1;have xe:=(aw w7.heap.size w7).alloc (ak _) (TC (.slice ps pt.1.length pc) (.slice qs pt.2.length qc));have lT:=hid (lU.o.under xe);have Dt:=bG.at (w:=w7) rfl (.slice ps pt.1.length pc) (.slice qs pt.2.length qc);have acV:=hid Dt.c0;have acU:=hid Dt.c1;have zC:Hid (W4.heap.size<=(w7.alloc (TC (.slice ps pt.1.length pc) (.slice qs pt.2.length qc))).heap.size):=lT.o.fr.size;have t72:=lU.o.box.cells.2.2;clear ed xe Dt HX jW k0 k1 b0 qd cF zT HAS;cases dc with
   |true=>
    obtain⟨e1,e2⟩:=amC.o rfl
    have KEY:∀(Al:Value) (b7:World),b7.ownsRow W4.heap.size 39 2 Al ((Z i).length+1) (dG Q2++[.slice ps pt.1.length pc,.slice qs pt.2.length qc]) ->(w7.alloc (TC (.slice ps pt.1.length pc) (.slice qs pt.2.length qc))).grownBy b7 (Value.ownBlock (.slice za (Z i).length zc)) ->(Al.ownBlock=Value.ownBlock (.slice za (Z i).length zc)∨∀k,Al.ownBlock=some k ->(w7.alloc (TC (.slice ps pt.1.length pc) (.slice qs pt.2.length qc))).heap.size<=k) ->(∃a' c',Al=Value.slice a' ((Z i).length+1) c')/\lO w W4 w3.heap.size (.slice a S.length ca) (.slice d LF.length cd) tv Al Q (Q2++[(.slice ps pt.1.length pc,.slice qs pt.2.length qc)]) (T (i+1)) (Z (i+1)) b7:=fun Al b7 fg eP gA=>by
     have hM:=lT.o.push2 hb5 HPQ.o fg eP gA;rw[<- e2, <- e1] at hM;exact⟨sT fg,hM⟩
    have HKEY:=hid KEY;clear KEY e1 e2 t72;go_wp2_with (at_builtin;refine K5 rfl _ _ rfl W4.heap.size (.slice za (Z i).length zc) (Z i).length (dG Q2) (.slice ps pt.1.length pc) (.slice qs pt.2.length qc) rfl lT.o.own2 w7.heap.size rfl acV.o acU.o (slv _ _ _) (slv _ _ _) (by omega) zC.o ?_;intro Al b7 fg eP gA;obtain⟨⟨wu,wm,rfl⟩,uO⟩:=HKEY.o Al b7 fg eP gA;have np:=hid uO;clear uO fg eP gA)
    go_roundw
    case rel=>exact⟨i+1,_,_,_,by omega,by go_num,np⟩
    case measure=>simp[intOf];omega
   |false=>
    obtain⟨e1,e2⟩:=amD.o rfl
    have KEY:∀(dF:Value) (b7:World),b7.ownsRow W4.heap.size 39 2 dF ((T i).length+1) (dG Q++[.slice ps pt.1.length pc,.slice qs pt.2.length qc]) ->(w7.alloc (TC (.slice ps pt.1.length pc) (.slice qs pt.2.length qc))).grownBy b7 tv.ownBlock ->(dF.ownBlock=tv.ownBlock∨∀k,dF.ownBlock=some k ->(w7.alloc (TC (.slice ps pt.1.length pc) (.slice qs pt.2.length qc))).heap.size<=k) ->(∃a' c',dF=Value.slice a' ((T i).length+1) c')/\lO w W4 w3.heap.size (.slice a S.length ca) (.slice d LF.length cd) dF (.slice za (Z i).length zc) (Q++[(.slice ps pt.1.length pc,.slice qs pt.2.length qc)]) Q2 (T (i+1)) (Z (i+1)) (b7.setCell ⟨w3.heap.size,2,none⟩ dF)/\b7.cell? ⟨w3.heap.size,2,none⟩=some tv/\b7.frozen? ⟨w3.heap.size,2,none⟩=false:=fun dF b7 fg eP gA=>by
     obtain⟨hM,Bu⟩:=lT.o.push1 hb5 HPQ.o fg eP gA;rw[<- e2, <- e1] at hM;rw[e2] at hM;exact⟨sT fg,by rw[e2];exact hM,Bu.cells.2.2,Bu.fz 2⟩
    have HKEY:=hid KEY;clear KEY e1 e2;go_wp2_with (at_builtin;refine K5 rfl _ _ rfl W4.heap.size tv (T i).length (dG Q) (.slice ps pt.1.length pc) (.slice qs pt.2.length qc) rfl lT.o.own w7.heap.size rfl acV.o acU.o (slv _ _ _) (slv _ _ _) (by omega) zC.o ?_;intro dF b7 fg eP gA;obtain⟨⟨wu,wm,rfl⟩,uO,t102,f102⟩:=HKEY.o dF b7 fg eP gA;have np:=hid uO;clear uO fg eP gA)
    go_roundw
    case rel=>exact⟨i+1,_,_,_,by omega,by go_num,np⟩
    case measure=>simp[intOf];omega
  ·obtain rfl:i=P.length:=by omega
   obtain⟨za',zc',ez,hzs⟩:=HM.o.row2 HB.o (by omega);injection ez with ez1 ez2 ez3;subst ez1 ez3;clear ez2;have fX:=hid (HM.o.plm HB.o (by omega));have HZS:=hid hzs;have pR:=(J8.o P.length).1;clear hzs HM sA jA vA J8 p9;(have hOL:(T P.length).length+1=OP.length:=by rw[Eo.o,bM];rfl);go_upto_region 10 with (go_quiet (fail))
   have uQ:Below wr.heap.size wr wr.drew:=(aw wr.heap.size wr).drew;have dP:Hid (Below w.heap.size w wr.drew):=HB.o.drew;have Gy:Hid (bH wr.drew w.heap.size (.slice a S.length ca) (.slice b fr.length cb) (.slice t P.length ct)):=Kk.o;have Ul:=hid (fX.o.under uQ);have HZD:=hid (HZS.o.aa uQ);have C5:W4.heap.size<=wr.drew.heap.size:=I7;clear fX HZS HB Kk o9 uQ I7;obtain⟨D5,zg⟩:∃D5,wr.drew=D5:=⟨_,rfl⟩;rw[zg] at dP Gy Ul HZD C5;have bR:Hid (∀U:World,Below D5.heap.size D5 U ->U.cell? ⟨w.heap.size,0,none⟩=some (.slice a S.length ca)):=fun U hU=>(Gy.o.aa hU Gy.o.lt).cells.1;have au:Hid (Below D5.heap.size D5 D5):=aw _ _;refine kC (S:=fun U=>U.cell? ⟨w.heap.size,0,none⟩=some (.slice a S.length ca)) (by kernel_rfl) (by rw[zg];exact bR.o _ au.o) (fun ah=>?_);rw[zg] at ah⊢;clear zg;refine ar 0 (.pointer (some ⟨w.heap.size,0,none⟩)) ?_;refine ar 1 (.slice a S.length ca) ?_;refine ar 2 (.pointer (some ⟨w.heap.size,0,none⟩)) ?_;refine ar 3 (.slice a S.length ca) ?_;refine ar 4 (.slice za (Z P.length).length zc) ?_;refine ar 6 (.int .i64 (v:Nat)) ?_;refine ar 7 (.bool most) ?_;refine aI [5,12] (cA ?_ (cA ?_ aH))
   focus
    intro K' hK';go_simp;refine(vE.o za zc D5 dP.o HZD.o).ae ?_;rintro e u1 ⟨x1,y1,rfl,lD,hb1⟩;replace dP:=hid (dP.o.trans (hb1.ae dP.o.size));replace au:=hid (au.o.trans (hb1.ae au.o.size));have BU:=hid lD;refine hK'.o _ _ (bR.o u1 au.o) (fun ag=>?_);clear hb1 lD;clear hK' K' ah;have ah:=ag;clear ag;refine aI [8,12] (cA ?_ (cA ?_ aH))
    focus
     intro K' hK';go_simp;refine(B5.o x1 y1 u1 dP.o BU.o).ae ?_;rintro e u2 ⟨⟨x2,y2,rfl,hv2,iD⟩,hb2⟩;have nk:Hid (∀R,R<D5.heap.size ->fk R OT (x2,y2)):=fun R hR=>iD R (aR hR au.o.size);replace dP:=hid (dP.o.trans (hb2.ae dP.o.size));replace au:=hid (au.o.trans (hb2.ae au.o.size));have tL:=hid hv2;obtain⟨xs,xn,xc,rfl⟩:=hv2.slices.1;obtain⟨ys,yn,yc,rfl⟩:=hv2.slices.2;refine hK'.o _ _ (bR.o u2 au.o) (fun ag=>?_);clear hb2 hv2 iD;clear hK' K' ah;have ah:=ag;clear ag;refine ar 9 (.tuple #[.agg #[.slice xs xn xc,.slice ys yn yc],.int .i64 0]) ?_;refine ar 10 (.agg #[.slice xs xn xc,.slice ys yn yc]) ?_;refine ar 11 (.int .i64 0) ?_;refine aI [12] (cA ?_ aH);intro K' hK';go_simp;have kn:=(aw _ u2).alloc (ak _) (TC (.slice none 0 0) (.slice none 0 0));replace dP:=hid (dP.o.trans (kn.ae dP.o.size));have cK:D5.heap.size<=u2.heap.size:=au.o.size;replace au:=hid (au.o.trans (kn.ae au.o.size));have dU:=hid (bG.at (w:=u2) rfl (.slice none 0 0) (.slice none 0 0));(have mC:u2.heap.size<(u2.alloc (TC (.slice none 0 0) (.slice none 0 0))).heap.size:=by simp);have tR:Hid (fk u2.heap.size OT (.slice xs xn xc,.slice ys yn yc)):=tL.o.lt (ak _);replace tL:=hid (tL.o.aa kn);refine hK'.o _ _ (bR.o _ au.o) (fun ag=>?_);clear kn;clear hK' K' ah;have ah:=ag;clear ag;obtain⟨g1,hg1⟩:∃g1,u2.heap.size=g1:=⟨_,rfl⟩;obtain⟨u3,kg⟩:∃u3,u2.alloc (TC (.slice none 0 0) (.slice none 0 0))=u3:=⟨_,rfl⟩;have AQ:u2.alloc (.cells #[.slice none 0 0,.slice none 0 0] 39)=u3:=kg;(have A7:D5.heap.size<=g1:=by omega)
     (have A6:g1<u3.heap.size:=by rw[<- hg1, <- kg];exact mC);rw[hg1,kg] at dU;clear cK mC;have cK:=A7;have mC:=A6;clear A7 A6;rw[hg1] at tR;rw[kg] at tL;rw[kg] at au dP;simp only[AQ] at ah⊢;simp only[hg1];clear kg AQ hg1;(try simp only[gE,aP]);obtain⟨b0,b1,JM,JL⟩:=dU.o.facts;refine aI [13] (cA ?_ aH);intro K' hK';go_simp;have zz:=hid (dU.o.put (.slice xs xn xc) (.slice ys yn yc));have OA:=hid (tI dP.o (aM (by omega) cK) (.slice xs xn xc) (.slice ys yn yc));have tM:=hid (tI au.o cK (.slice xs xn xc) (.slice ys yn yc));have zu:=hid ((tL.o.off (g:=g1) (j:=0) (.slice xs xn xc) tR.o).off (g:=g1) (j:=1) (.slice ys yn yc) tR.o);refine hK'.o _ _ (bR.o _ tM.o) (fun ag=>?_);clear b0 b1 JM JL dU dP au tL tR;clear hK' K' ah;have ah:=ag;clear ag;refine ar 14 (.int .i64 0) ?_;(try simp only[gE,aP]);refine dW (by kernel_rfl) ?_ _;clear ah;obtain⟨u4,tj⟩:∃u4,((u3.setCell ⟨g1,0,none⟩ (.slice xs xn xc)).setCell ⟨g1,1,none⟩ (.slice ys yn yc))=u4:=⟨_,rfl⟩
    rotate_left
    focus
     intro K' hK';go_simp;have kn:=(aw _ u1).alloc (ak _) (TC (.slice none 0 0) (.slice none 0 0));replace dP:=hid (dP.o.trans (kn.ae dP.o.size));have cK:D5.heap.size<=u1.heap.size:=au.o.size;replace au:=hid (au.o.trans (kn.ae au.o.size));have dU:=hid (bG.at (w:=u1) rfl (.slice none 0 0) (.slice none 0 0));(have mC:u1.heap.size<(u1.alloc (TC (.slice none 0 0) (.slice none 0 0))).heap.size:=by simp);replace BU:=hid (BU.o.aa kn);refine hK'.o _ _ (bR.o _ au.o) (fun ag=>?_);clear kn;clear hK' K' ah;have ah:=ag;clear ag;obtain⟨g1,hg1⟩:∃g1,u1.heap.size=g1:=⟨_,rfl⟩;obtain⟨u3,kg⟩:∃u3,u1.alloc (TC (.slice none 0 0) (.slice none 0 0))=u3:=⟨_,rfl⟩;have AQ:u1.alloc (.cells #[.slice none 0 0,.slice none 0 0] 39)=u3:=kg;(have A7:D5.heap.size<=g1:=by omega);(have A6:g1<u3.heap.size:=by rw[<- hg1, <- kg];exact mC);rw[hg1,kg] at dU;clear cK mC;have cK:=A7;have mC:=A6;clear A7 A6;rw[kg] at BU;rw[kg] at au dP;simp only[AQ] at ah⊢;simp only[hg1];clear kg AQ hg1;refine aI [8] (cA ?_ aH);intro K' hK';go_simp;refine(B5.o x1 y1 u3 dP.o BU.o).ae ?_;rintro e u2 ⟨⟨x2,y2,rfl,hv2,iD⟩,hb2⟩;have nk:Hid (∀R,R<D5.heap.size ->fk R OT (x2,y2)):=fun R hR=>iD R (aR hR au.o.size);have tR:Hid (fk g1 OT (x2,y2)):=iD _ mC;replace dU:=hid (dU.o.aa hb2 dU.o.lt);replace dP:=hid (dP.o.trans (hb2.ae dP.o.size));replace au:=hid (au.o.trans (hb2.ae au.o.size));have tL:=hid hv2;obtain⟨xs,xn,xc,rfl⟩:=hv2.slices.1;obtain⟨ys,yn,yc,rfl⟩:=hv2.slices.2;refine hK'.o _ _ (bR.o u2 au.o) (fun ag=>?_);clear hb2 hv2 iD;clear hK' K' ah
     have ah:=ag;clear ag;refine ar 9 (.tuple #[.agg #[.slice xs xn xc,.slice ys yn yc],.int .i64 0]) ?_;refine ar 10 (.agg #[.slice xs xn xc,.slice ys yn yc]) ?_;refine ar 11 (.int .i64 0) ?_;(try simp only[gE,aP]);obtain⟨b0,b1,JM,JL⟩:=dU.o.facts;refine aI [13] (cA ?_ aH);intro K' hK';go_simp;have zz:=hid (dU.o.put (.slice xs xn xc) (.slice ys yn yc));have OA:=hid (tI dP.o (aM (by omega) cK) (.slice xs xn xc) (.slice ys yn yc));have tM:=hid (tI au.o cK (.slice xs xn xc) (.slice ys yn yc));have zu:=hid ((tL.o.off (g:=g1) (j:=0) (.slice xs xn xc) tR.o).off (g:=g1) (j:=1) (.slice ys yn yc) tR.o);refine hK'.o _ _ (bR.o _ tM.o) (fun ag=>?_);clear b0 b1 JM JL dU dP au tL tR;clear hK' K' ah;have ah:=ag;clear ag;refine ar 14 (.int .i64 0) ?_;(try simp only[gE,aP]);refine dW (by kernel_rfl) ?_ _;clear ah;obtain⟨u4,tj⟩:∃u4,((u2.setCell ⟨g1,0,none⟩ (.slice xs xn xc)).setCell ⟨g1,1,none⟩ (.slice ys yn yc))=u4:=⟨_,rfl⟩
   rotate_left 2
   focus
    intro K' hK';go_simp;have kn:=(aw _ D5).alloc (ak _) (TC (.slice none 0 0) (.slice none 0 0));replace dP:=hid (dP.o.trans (kn.ae dP.o.size));have cK:D5.heap.size<=D5.heap.size:=au.o.size;replace au:=hid (au.o.trans (kn.ae au.o.size));have dU:=hid (bG.at (w:=D5) rfl (.slice none 0 0) (.slice none 0 0));(have mC:D5.heap.size<(D5.alloc (TC (.slice none 0 0) (.slice none 0 0))).heap.size:=by simp);replace HZD:=hid (HZD.o.aa kn);refine hK'.o _ _ (bR.o _ au.o) (fun ag=>?_);clear kn;clear hK' K' ah;have ah:=ag;clear ag;obtain⟨g1,hg1⟩:∃g1,D5.heap.size=g1:=⟨_,rfl⟩;obtain⟨u3,kg⟩:∃u3,D5.alloc (TC (.slice none 0 0) (.slice none 0 0))=u3:=⟨_,rfl⟩;have AQ:D5.alloc (.cells #[.slice none 0 0,.slice none 0 0] 39)=u3:=kg;(have A7:D5.heap.size<=g1:=by omega);(have A6:g1<u3.heap.size:=by rw[<- hg1, <- kg];exact mC);rw[hg1,kg] at dU;clear cK mC;have cK:=A7;have mC:=A6;clear A7 A6;rw[kg] at HZD;rw[kg] at au dP;simp only[AQ] at ah⊢;simp only[hg1];clear kg AQ hg1;refine aI [5] (cA ?_ aH);intro K' hK';go_simp;refine(vE.o za zc u3 dP.o HZD.o).ae ?_;rintro e u1 ⟨x1,y1,rfl,lD,hb1⟩;replace dP:=hid (dP.o.trans (hb1.ae dP.o.size));replace au:=hid (au.o.trans (hb1.ae au.o.size));replace dU:=hid (dU.o.aa hb1 dU.o.lt);have BU:=hid lD;refine hK'.o _ _ (bR.o u1 au.o) (fun ag=>?_);clear hb1 lD;clear hK' K' ah;have ah:=ag;clear ag;have ai8:g1<u1.heap.size:=dU.o.lt;refine aI [8] (cA ?_ aH);intro K' hK';go_simp;refine(B5.o x1 y1 u1 dP.o BU.o).ae ?_;rintro e u2 ⟨⟨x2,y2,rfl,hv2,iD⟩,hb2⟩
    have nk:Hid (∀R,R<D5.heap.size ->fk R OT (x2,y2)):=fun R hR=>iD R (aR hR au.o.size);have tR:Hid (fk g1 OT (x2,y2)):=iD _ ai8;replace dU:=hid (dU.o.aa hb2 dU.o.lt);replace dP:=hid (dP.o.trans (hb2.ae dP.o.size));replace au:=hid (au.o.trans (hb2.ae au.o.size));have tL:=hid hv2;obtain⟨xs,xn,xc,rfl⟩:=hv2.slices.1;obtain⟨ys,yn,yc,rfl⟩:=hv2.slices.2;refine hK'.o _ _ (bR.o u2 au.o) (fun ag=>?_);clear hb2 hv2 iD;clear hK' K' ah;have ah:=ag;clear ag;refine ar 9 (.tuple #[.agg #[.slice xs xn xc,.slice ys yn yc],.int .i64 0]) ?_;refine ar 10 (.agg #[.slice xs xn xc,.slice ys yn yc]) ?_;refine ar 11 (.int .i64 0) ?_;(try simp only[gE,aP]);obtain⟨b0,b1,JM,JL⟩:=dU.o.facts;refine aI [13] (cA ?_ aH);intro K' hK';go_simp;have zz:=hid (dU.o.put (.slice xs xn xc) (.slice ys yn yc));have OA:=hid (tI dP.o (aM (by omega) cK) (.slice xs xn xc) (.slice ys yn yc));have tM:=hid (tI au.o cK (.slice xs xn xc) (.slice ys yn yc));have zu:=hid ((tL.o.off (g:=g1) (j:=0) (.slice xs xn xc) tR.o).off (g:=g1) (j:=1) (.slice ys yn yc) tR.o);refine hK'.o _ _ (bR.o _ tM.o) (fun ag=>?_);clear b0 b1 JM JL dU dP au tL tR;clear hK' K' ah;have ah:=ag;clear ag;refine ar 14 (.int .i64 0) ?_;(try simp only[gE,aP]);refine dW (by kernel_rfl) ?_ _;clear ah;obtain⟨u4,tj⟩:∃u4,((u2.setCell ⟨g1,0,none⟩ (.slice xs xn xc)).setCell ⟨g1,1,none⟩ (.slice ys yn yc))=u4:=⟨_,rfl⟩
   all_goals
    rw[tj] at zz OA tM zu⊢;clear tj;have Um:=hid (Ul.o.under tM.o);have Bx:=(aw u4.heap.size u4).alloc (ak _) (TC (.slice xs xn xc) (.slice ys yn yc));have jC:=hid (Um.o.under Bx);have NI:=hid (zu.o.aa Bx);have RX:=bG.at (w:=u4) rfl (.slice xs xn xc) (.slice ys yn yc);have acX:=hid RX.c0;have acW:=hid RX.c1;have Gs:Hid (W4.heap.size<=(u4.alloc (TC (.slice xs xn xc) (.slice ys yn yc))).heap.size):=jC.o.fr.size;have t42:=Um.o.box.cells.2.2;have g0:=zz.o.c0;have g1':=zz.o.c1;have HOW:Hid (∀R,tv.ownBlock=some R ->fk R OT ((.slice xs xn xc),(.slice ys yn yc))):=fun R hR=>nk.o R (Ul.o.own.lt R hR).2;clear Bx RX zz tM zu
    have HKEY:Hid (∀(dF:Value) (b7:World),b7.ownsRow W4.heap.size 39 2 dF ((T P.length).length+1) (dG Q++[(.slice xs xn xc),(.slice ys yn yc)]) ->(u4.alloc (TC (.slice xs xn xc) (.slice ys yn yc))).grownBy b7 tv.ownBlock ->(dF.ownBlock=tv.ownBlock∨∀k,dF.ownBlock=some k ->(u4.alloc (TC (.slice xs xn xc) (.slice ys yn yc))).heap.size<=k) ->(∃a' c',dF=Value.slice a' OP.length c')/\qR w.heap.size W4 w3.heap.size (.slice a S.length ca) (.slice d LF.length cd) dF (Q++[((.slice xs xn xc),(.slice ys yn yc))]) OP (b7.setCell ⟨w3.heap.size,2,none⟩ dF)/\b7.cell? ⟨w3.heap.size,2,none⟩=some tv/\b7.frozen? ⟨w3.heap.size,2,none⟩=false):=fun dF b7 fg eP gA=>by
     have hM:=jC.o.push (by omega) hb5 NI.o HOW.o (fun R _ hR=>nk.o R (by omega)) fg eP gA;rw[<- Eo.o] at hM;have Bu:bH b7 w3.heap.size (.slice a S.length ca) (.slice d LF.length cd) tv:=(eP.block _ jC.o.box.lt (fun e=>by have:=(jC.o.own.lt _ e.symm).1;omega)).trans jC.o.box;exact⟨by rw[<- hOL];exact sT fg,hM,Bu.cells.2.2,Bu.fz 2⟩
    go_upto_region 12 with (at_builtin;refine K5 rfl _ _ rfl W4.heap.size tv (T P.length).length (dG Q) (.slice xs xn xc) (.slice ys yn yc) rfl jC.o.own.own u4.heap.size rfl acX.o acW.o (slv _ _ _) (slv _ _ _) (by omega) Gs.o ?_;intro dF b7 fg eP gA;obtain⟨⟨wu,wm,rfl⟩,uO,t102,f102⟩:=HKEY.o dF b7 fg eP gA;have np:=hid uO;clear uO fg eP gA)
    obtain⟨VV,hVV⟩:∃VV,b7.setCell ⟨w3.heap.size,2,none⟩ (.slice wu OP.length wm)=VV:=⟨_,rfl⟩;rw[hVV] at np⊢;clear hVV t102 f102 t42 g0 g1' HKEY HOW Gs acX acW NI jC Um nk BU OA;have I7:=np.o.fr.size;have tT:Hid (Below w.heap.size w VV):=Jt ir.o np.o.fr (by omega) (by omega);have vB:Hid (bH VV (w.heap.size+1) (.slice none 0 0) (.slice none 0 0) (.slice none 0 0)):=(np.o.fr.block _ nh.o.lt (fun e=>by have:=k7 e;omega)).trans nh.o;have Jn:aC VV d LF:=Ip Cf.o Ux.o np.o.fr;obtain⟨x0,xx1,xx2⟩:=np.o.box.cells;obtain⟨r0,r1,r2⟩:=vB.o.cells;have Lm:=vB.o.fz 0;have Ll:=vB.o.fz 1;have Lk:=vB.o.fz 2;have zE:=hid (vB.o.put (.slice a S.length ca) (.slice d LF.length cd) (.slice wu OP.length wm));have rj:=hid (df tT.o (show w.heap.size<=w.heap.size+1 by omega) (.slice a S.length ca) (.slice d LF.length cd) (.slice wu OP.length wm))
    have jB:Value.ownBlock (.slice wu OP.length wm)≠some (w.heap.size+1):=fun e=>by
     have:=(np.o.own.lt _ e).1;omega
    have Bj:=((np.o.own.off (g:=w.heap.size+1) (j:=0) (.slice a S.length ca) (np.o.far _ (by omega) (by omega)) jB).off (g:=w.heap.size+1) (j:=1) (.slice d LF.length cd) (np.o.far _ (by omega) (by omega)) jB).off (g:=w.heap.size+1) (j:=2) (.slice wu OP.length wm) (np.o.far _ (by omega) (by omega)) jB;obtain⟨V0,VW,e2,AR⟩:=Bj.row;injection e2 with e3 e4 e5;subst e3 e5;clear e4;have J6:=hid AR;have xP:=hid (((Jn.off (g:=w.heap.size+1) (j:=0) (y:=.slice a S.length ca) p6.o).off (g:=w.heap.size+1) (j:=1) (y:=.slice d LF.length cd) p6.o).off (g:=w.heap.size+1) (j:=2) (y:=.slice wu OP.length wm) p6.o);have dB:=hid ((Qa np.o.own.own).up (show w.heap.size<=W4.heap.size by omega));clear Bj AR Jn jB;go_wp2;refine dh (zE.o.result1 rfl _ rfl) rfl ?_;exact⟨d,cd,wu,wm,rfl,xP.o,J6.o,dB.o,rj.o⟩
variable {l:List Int}
theorem XF {o:Nat} {u:Value} (hb:bH V g x y z) (hx:dA x) (hy:dA y) (hz:dA z) (hc:V.cell? ⟨g,o,none⟩=some u):dA u:=by
 rw[bE V g o _ _ (0,0) hb] at hc;match o,hc with
 |0,hc=>cases hc;exact hx
 |1,hc=>cases hc;exact hy
 |2,hc=>cases hc;exact hz
 |o+3,hc=>simp at hc
theorem Zv {b:Option Addr} (h:aC V b l) (hb:bH V g x y z) (hx:dA x) (hy:dA y) (hz:dA z):∀g' o',b=some ⟨g',o',none⟩ ->l≠[] ->g'≠g:=fun g' o' e hne e2=>by
 obtain⟨g2,o2,e3,_,hc⟩:=h 0 (by cases hl:l with |nil=>exact absurd hl hne |cons x l=>simp);rw[e] at e3;cases e3;subst e2;obtain⟨_,_,_,e4⟩:=XF hb hx hy hz hc;cases e4
theorem akd {b:Option Addr} {l:List Fr} (h:ew V b l) (hb:bH V g x y z) (hx:dA x) (hy:dA y) (hz:dA z):∀g' o',b=some ⟨g',o',none⟩ ->l≠[] ->g'≠g:=fun g' o' e hne e2=>by
 obtain⟨g2,o2,e3,_,hc,_⟩:=h 0 (by cases hl:l with |nil=>exact absurd hl hne |cons x l=>simp);rw[e] at e3;cases e3;subst e2;obtain⟨_,_,_,e4⟩:=XF hb hx hy hz hc;cases e4
theorem Pk {t:Tb} {p q:Value} (h:dM V p q t) (hb:bH V g x y z) (hx:dA x) (hy:dA y) (hz:dA z):fk g t (p,q):=by
 obtain⟨b,c,cb,cc,rfl,rfl,h1,h2,h3⟩:=h;exact⟨fun g' o' n c' e hne=>by injection e with e1 _ _;exact Zv h1 hb hx hy hz g' o' e1 hne,fun g' o' n c' e hne=>by injection e with e1 _ _;exact akd h2 hb hx hy hz g' o' e1 hne⟩
theorem gH.offP {P:List Tb} (u:Value) (h:gH V a P) (hn:∀g' o',a=some ⟨g',o',none⟩ ->g'≠g) (ht:∀k (hk:k<P.length) p q,dM V p q P[k] ->fk g P[k] (p,q)):gH (V.setCell ⟨g,j,none⟩ u) a P:=fun k hk=>by
 obtain⟨g',o,p,q,e,hg,h0,h1,h2⟩:=h k hk;have hb:(V.setCell ⟨g,j,none⟩ u).heap[g']? =V.heap[g']?:=iU V ⟨g,j,none⟩ u g' (hn g' o e);exact⟨g',o,p,q,e,aR hg (ji V _ _).size,(l5 (a:=⟨g',_,none⟩) hb).trans h0,(l5 (a:=⟨g',_,none⟩) hb).trans h1,h2.off u (ht k hk p q h2)⟩
theorem gH.putP {P:List Tb} (h:gH V a P) (hb:bH V g x y z) (hx:dA x) (hy:dA y) (hz:dA z) (hn:∀g' o',a=some ⟨g',o',none⟩ ->g'≠g) {u v:Value} (hu:dA u) (hv:dA v) (s:Value):gH (((V.setCell ⟨g,0,none⟩ u).setCell ⟨g,1,none⟩ v).setCell ⟨g,2,none⟩ s) a P:=
 ((h.offP u hn fun _ _ _ _ ht=>Pk ht hb hx hy hz).offP v hn fun _ _ _ _ ht=>Pk ht (hb.set0 u) hu hy hz).offP s hn fun _ _ _ _ ht=>Pk ht ((hb.set0 u).set1 v) hu hv hz
theorem aC.putP (h:aC V a l) (hb:bH V g x y z) (hx:dA x) (hy:dA y) (hz:dA z) (u v s:Value):aC (((V.setCell ⟨g,0,none⟩ u).setCell ⟨g,1,none⟩ v).setCell ⟨g,2,none⟩ s) a l:=by
 have hn:=Zv h hb hx hy hz;exact((h.off hn).off hn).off hn
theorem af1 (a b t q:Option Addr) (ca cb ct cq:Nat) (S:List Nat) (fr vars:List Int) (P:List Tb) (D:Nat) (c:Nat ->Nat) (most:Bool) (PS:Nat ->List Tb) (FW:Nat ->List Int) (w:World) (aN:eK (iL S)) (hs:aC w a (iL S)) (hb:aC w b fr) (hP:gH w t P) (hq:aC w q vars) (dI:vars.length<=1000)
  (h0:PS 0=P/\FW 0=fr) (hk:∀i (h:i<fr.length),vars.contains fr[i]=true ->PS (i+1)=PS i/\FW (i+1)=FW i)
  (ho:∀i (h:i<fr.length),vars.contains fr[i]=false ->∃v:Nat,fr[i]=(v:Int)/\PS (i+1)=j8 S v most (PS i)/\FW (i+1)=bP (FW i) v/\v<S.length/\∃t∈PS i,v∈af t.1)
  (i7:∀i,i<=fr.length ->eT S S.length (PS i) D (c i)/\(PS i).length<=999/\(FW i).length<=1000/\2*(B D).size+(B (c i)).size+2<=8192):
  Calls Tryz.prog 51 #[.agg #[.slice a S.length ca,.slice b fr.length cb,.slice t P.length ct],.slice q vars.length cq,.bool most] w fun e w'=>∃x y,e=.returned (.agg #[x,y])/\dM w' x y (allT S (PS fr.length))/\Below w.heap.size w w':=by
 have vE:Hid (∀(t':Option Addr) (eI:Nat) (U:World),Below w.heap.size w U ->gH U t' (PS fr.length) ->Calls Tryz.prog 105 #[.slice a S.length ca,.slice t' (PS fr.length).length eI] U fun e w'=>∃x y,e=.returned (.agg #[x,y])/\dM w' x y (allT S (PS fr.length))/\Below U.heap.size U w'):=fun t' eI U hU h=>by
  obtain⟨h1,h2,_,h4⟩:=i7 fr.length (ak _);exact Xv a t' ca eI S _ D _ U aN (hs.aa hU) h h1 (by omega) h4
 have p9:Hid (∀(x:Int) (U:World),Below w.heap.size w U ->Calls Tryz.prog 49 #[.slice q vars.length cq,.int .i64 x] U fun e w'=>e=.returned (.bool (vars.contains x))/\Below U.heap.size U w'):=fun x U hU=>Hz q cq vars x U (hq.aa hU) (by omega)
 have En:Hid (∀(i:Nat) (h:i<fr.length),vars.contains fr[i]=false ->∀(b' t':Option Addr) (gG eI:Nat) (U:World),Below w.heap.size w U ->aC U b' (FW i) ->gH U t' (PS i) ->Calls Tryz.prog 104 #[.agg #[.slice a S.length ca,.slice b' (FW i).length gG,.slice t' (PS i).length eI],.int .i64 fr[i],.bool most] U fun e w'=>∃d cd t' eI,e=.returned (.agg #[.slice a S.length ca,.slice d (FW (i+1)).length cd,.slice t' (PS (i+1)).length eI])/\aC w' d (FW (i+1))/\gH w' t' (PS (i+1))/\fV U.heap.size t' eI/\Below U.heap.size U w'):=fun i h hc b' t' gG eI U hU h1 h2=>by
  obtain⟨v,e1,e2,e3,e4,e5⟩:=ho i h hc;obtain⟨g1,g2,g3,g4⟩:=i7 i (by omega);rw[e1,e2,e3];exact afZ a b' t' ca gG eI S (FW i) (PS i) D (c i) v most U aN (hs.aa hU) h1 h2 g1 g2 g3 g4 e4 e5
 have HK:=hid hk;have jP:fr.length<=1000:=by have:=(i7 0 (aX _)).2.2.1;rwa [h0.2] at this
 have HIB:=hid hb;obtain⟨e0,Nh⟩:=h0;have H0:Hid (bH ((w.alloc (.cells #[.slice a S.length ca,.slice b fr.length cb,.slice t P.length ct] 87)).alloc (TC (.slice none 0 0) (.slice none 0 0))) w.heap.size (.slice a S.length ca) (.slice b (FW 0).length cb) (.slice t (PS 0).length ct)):=by rw[e0,Nh];exact(bH.at (w:=w) rfl _ _ _).alloc _
 have hA:Below w.heap.size w ((w.alloc (.cells #[.slice a S.length ca,.slice b fr.length cb,.slice t P.length ct] 87)).alloc (TC (.slice none 0 0) (.slice none 0 0))):=by
  have h1:=(aw w.heap.size w).alloc (ak _) (.cells #[.slice a S.length ca,.slice b fr.length cb,.slice t P.length ct] 87);exact h1.alloc h1.size _
 have Oj:Hid (aC ((w.alloc (.cells #[.slice a S.length ca,.slice b fr.length cb,.slice t P.length ct] 87)).alloc (TC (.slice none 0 0) (.slice none 0 0))) b (FW 0)):=by rw[Nh];exact hb.aa hA
 have zA:Hid (gH ((w.alloc (.cells #[.slice a S.length ca,.slice b fr.length cb,.slice t P.length ct] 87)).alloc (TC (.slice none 0 0) (.slice none 0 0))) t (PS 0)):=by rw[e0];exact hP.aa hA
 have xI:Hid (bG ((w.alloc (.cells #[.slice a S.length ca,.slice b fr.length cb,.slice t P.length ct] 87)).alloc (TC (.slice none 0 0) (.slice none 0 0))) (w.heap.size+1) (.slice none 0 0) (.slice none 0 0)):=bG.at (w:=w.alloc (.cells #[.slice a S.length ca,.slice b fr.length cb,.slice t P.length ct] 87)) (by simp) _ _;have HA:=hid hA;have hc1:=H0.o.cells.2.1;rw[Nh] at hc1;clear hs hb hP hq hk ho i7 aN hA e0 Nh;go_enter Tryz.func51,Tryz.ntmps51;go_wp2_with fail
 generalize ((w.alloc (.cells #[.slice a S.length ca,.slice b fr.length cb,.slice t P.length ct] 87)).alloc (TC (.slice none 0 0) (.slice none 0 0)))=W0 at *;clear hc1;go_loopw [12] (fun iv wr=>∃(i:Nat) (b' t':Option Addr) (gG eI:Nat),i<=fr.length/\iv=.int .i64 i/\Hid (bH wr w.heap.size (.slice a S.length ca) (.slice b' (FW i).length gG) (.slice t' (PS i).length eI))/\Hid (aC wr b' (FW i))/\Hid (gH wr t' (PS i))/\Hid (bG wr (w.heap.size+1) (.slice none 0 0) (.slice none 0 0))/\Hid (Below w.heap.size w wr)) (fun iv _=>fr.length - (intOf iv).toNat)
 case atStart=>exact⟨0,_,_,_,_,aX _,rfl,H0,Oj,zA,xI,HA⟩
 case round=>
  obtain⟨i,b',t',gG,eI,hi,rfl,lS,HI,HT,HR,HB⟩:=hrel;clear H0 Oj zA xI HA;obtain⟨p0,p1,p2⟩:=lS.o.cells;have Lz:=lS.o.fz 0;have Lx:=lS.o.fz 1;have Lv:=lS.o.fz 2;by_cases hlt:i<fr.length
  ·obtain⟨g,o,rfl,hg,k0⟩:=HIB.o i hlt;replace k0:=(HB.o.cell (p:=⟨g,_,none⟩) hg).trans k0;have HC:=hid (p9.o fr[i]);have HKi:=hid (HK.o i hlt);have N4:=hid (En.o i hlt);generalize fr[i]=x at *;generalize qH:vars.contains x=cx at *;clear qH;go_wp2_with fail
   refine(HC.o wr HB.o).ae ?_;rintro e w2 ⟨rfl,hb2⟩;have bq:=hid (HB.o.trans (hb2.ae HB.o.size));have qZ:=hid (lS.o.aa hb2 lS.o.lt);have zQ:=hid (HI.o.aa hb2);have xE:=hid (HT.o.aa hb2);have fW:=hid (HR.o.aa hb2 HR.o.lt);clear hb2 lS HI HT HR HB p0 p1 p2 Lz Lx Lv;obtain⟨p0,p1,p2⟩:=qZ.o.cells;have hlt2:=qZ.o.lt;cases cx with
   |true=>
    obtain⟨e1,e2⟩:=HKi.o rfl;rw[<- e1] at xE qZ;rw[<- e2] at zQ qZ;clear e1 e2;have HX:=hid (And.intro qZ.o (And.intro zQ.o xE.o));go_wp2;go_roundw
    case rel=>exact⟨i+1,_,_,_,_,by omega,by go_num,HX.o.1,HX.o.2.1,HX.o.2.2,fW,bq⟩
    case measure=>simp[intOf];omega
   |false=>
    have Ko:=hid (N4.o rfl b' t' gG eI w2 bq.o zQ.o xE.o);clear N4 HKi;go_wp2_with fail
    refine Ko.o.ae ?_;rintro e w3 ⟨d,cd,t3,JI,rfl,A2,C2,uB,hb3⟩;have Bi:=qZ.o.aa hb3 qZ.o.lt;have ko:=fW.o.aa hb3 fW.o.lt;have bV:=bq.o.trans (hb3.ae bq.o.size);clear p0 p1 p2;obtain⟨p0,p1,p2⟩:=Bi.cells;have Lz:=Bi.fz 0;have Lx:=Bi.fz 1;have Lv:=Bi.fz 2;have GD:=hid (Bi.put (.slice a S.length ca) (.slice d (FW (i+1)).length cd) (.slice t3 (PS (i+1)).length JI));have xS:=hid (A2.putP Bi (slv _ _ _) (slv _ _ _) (slv _ _ _) (.slice a S.length ca) (.slice d (FW (i+1)).length cd) (.slice t3 (PS (i+1)).length JI));have Gr:=hid (C2.putP Bi (slv _ _ _) (slv _ _ _) (slv _ _ _) (fun g' o' e=>by have:=uB.2 g' o' e;omega) (slv a S.length ca) (slv d (FW (i+1)).length cd) (.slice t3 (PS (i+1)).length JI));have Gv:=hid (((ko.off w.heap.size 0 (.slice a S.length ca) (by omega)).off w.heap.size 1 (.slice d (FW (i+1)).length cd) (by omega)).off w.heap.size 2 (.slice t3 (PS (i+1)).length JI) (by omega));have fG:=hid (df bV (ak _) (.slice a S.length ca) (.slice d (FW (i+1)).length cd) (.slice t3 (PS (i+1)).length JI));clear A2 C2 uB hb3 Bi ko bV;go_wp2;go_roundw
    case rel=>exact⟨i+1,_,_,_,_,by omega,by go_num,GD,xS,Gr,Gv,fG⟩
    case measure=>simp[intOf];omega
  ·obtain rfl:i=fr.length:=by omega
   have Uo:=hid (vE.o t' eI wr HB.o HT.o);go_wp2_with fail
   refine Uo.o.ae ?_;rintro e w3 ⟨x,y,rfl,hv3,hb3⟩;obtain⟨xs,xn,xc,rfl⟩:=hv3.slices.1;obtain⟨ys,yn,yc,rfl⟩:=hv3.slices.2;have ko:=HR.o.aa hb3 HR.o.lt;have bV:=HB.o.trans (hb3.ae HB.o.size);obtain⟨t0,t1,f0,f1⟩:=ko.facts;have zG:=hid (ko.put (.slice xs xn xc) (.slice ys yn yc));have zu:=hid (hv3.putT ko (slv _ _ _) (slv _ _ _) (slv xs xn xc) (.slice ys yn yc));have ir:=hid (tI (g:=w.heap.size+1) bV (by omega) (.slice xs xn xc) (.slice ys yn yc));clear hv3 hb3 ko bV p0 p1 p2 Lz Lx Lv;go_wp2;refine dh (zG.o.result1 rfl _ rfl) rfl ?_;exact⟨_,_,rfl,zu.o,ir.o⟩
variable {S free vs:List Nat}
def nJ (S:List Nat):List Nat ->Nat
 |[]=>1
 |v::vs=>sz S v*nJ S vs
theorem V6 (hp:Pos S):∀l,1<=nJ S l
 |[]=>ak _
 |v::l=>Nat.mul_pos (mh hp v) (V6 hp l)
theorem V5 (hp:Pos S):∀(l:List Nat) (k:Nat),nJ S (l.take k)<=nJ S l
 |[],k=>by rw[List.take_nil];exact ak _
 |v::l,0=>V6 hp _
 |v::l,k+1=>kE _ (V5 hp l k)
theorem eT.outs (hp:Pos S) (most:Bool) (keep:Nat ->Bool):∀(vs:List Nat) {P:List Tb} {D c:Nat},eT S n P D c ->∃d,eT S n (iY S most keep vs P) D d/\d<=nJ S vs*c
 |[],P,D,c,h=>⟨c,h,by rw[nJ,jZ];exact ak _⟩
 |v::vs,P,D,c,h=>by
  have h1:=mh hp v;have h2:nJ S vs*c<=nJ S (v::vs)*c:=jD _ (Cr _ h1);rw[iY];cases hk:keep v with
  |true=>
   obtain⟨d,h3,h4⟩:=eT.outs hp most keep vs h;exact⟨d,by rw[aB rfl];exact h3,aM h4 h2⟩
  |false=>
   cases most with
   |true=>
    obtain⟨d,h3,h4⟩:=eT.outs hp true keep vs (h.most hp v);exact⟨d,by rw[aD (by decide)];exact h3,aM h4 h2⟩
   |false=>
    obtain⟨d,h3,h4⟩:=eT.outs hp false keep vs (h.o hp v);refine⟨d,by rw[aD (by decide)];exact h3,aM h4 (Nat.le_of_eq ?_)⟩;show nJ S vs*(sz S v*c)=sz S v*nJ S vs*c;rw[<- ie,dC (nJ S vs)]
theorem Qb (S:List Nat) (most:Bool) (keep:Nat ->Bool) (v:Nat):∀(vs:List Nat) (P:List Tb),iY S most keep (vs++[v]) P=if keep v then iY S most keep vs P else j8 S v most (iY S most keep vs P)
 |[],P=>rfl
 |u::vs,P=>by rw[eC,iY,iY,Qb S most keep v vs]
theorem XW (S:List Nat) (most:Bool) (keep:Nat ->Bool):∀(vs:List Nat) (P:List Tb),(iY S most keep vs P).length<=P.length+vs.length
 |[],P=>ak _
 |v::vs,P=>by
  rw[iY];refine aM (XW S most keep vs _) ?_
  have:(j8 S v most P).length<=P.length+1:=by
   rw[j8,bM];exact Nat.add_le_add_right (l6 ..) 1
  split
  ·simp only[di];omega
  ·simp only[di];omega
def uU (keep:Int ->Bool):List Int ->List Int ->List Int
 |[],f=>f
 |x::l,f=>uU keep l (if keep x then f else bP f x)
theorem SQ (keep:Int ->Bool) (x:Int):∀(l f:List Int),uU keep (l++[x]) f=if keep x then uU keep l f else bP (uU keep l f) x
 |[],f=>rfl
 |y::l,f=>by rw[eC,uU,uU,SQ keep x l]
theorem aa3 (keep:Int ->Bool):∀(l f:List Int),(uU keep l f).length<=f.length
 |[],f=>ak _
 |x::l,f=>by
  rw[uU];refine aM (aa3 keep l _) ?_;split
  ·exact ak _
  ·exact l6 ..
theorem PI.gone (hp:Pos S) (most:Bool) (keep:Nat ->Bool) {P:List Tb} {F:(Nat ->Nat) ->Rat} (h:PI S n free P F) (hn:NN S P) (hv:v∈free) (ek:¬v∈vs):∃t∈iY S most keep vs P,v∈af t.1:=by
 cases most with
 |false=>
  obtain⟨free',h1,h2⟩:=PI.outs hp keep vs h;exact h2.sup v ((h1 v).2 ⟨hv,fun e=>absurd e ek⟩)
 |true=>
  obtain⟨free',h1,h2,_⟩:=PI.mosts hp keep vs h hn;exact h2.sup v ((h1 v).2 ⟨hv,fun e=>absurd e ek⟩)
theorem af0 (a b t q:Option Addr) (ca cb ct cq:Nat) (S:List Nat) (fr:List Nat) (vars:List Int) (P:List Tb) (F:(Nat ->Nat) ->Rat) (D c:Nat) (most:Bool) (w:World) (aN:eK (iL S)) (hs:aC w a (iL S)) (hb:aC w b (iL fr)) (hP:gH w t P) (hq:aC w q vars) (dI:vars.length<=1000)
  (iC:fr.Nodup) (hlt:∀v∈fr,v<S.length) (jr:PI S S.length fr P F) (uz:NN S P) (aV:eT S S.length P D c) (hpl:P.length+fr.length<=999) (hm:2*(B D).size+(B (nJ S fr*c)).size+2<=8192):
  Calls Tryz.prog 51 #[.agg #[.slice a S.length ca,.slice b fr.length cb,.slice t P.length ct],.slice q vars.length cq,.bool most] w fun e w'=>∃x y,e=.returned (.agg #[x,y])/\dM w' x y (allT S (iY S most (fun v=>vars.contains (v:Int)) fr P))/\Below w.heap.size w w':=by
 have eo:Pos S:=by have:=aN.pos;rwa [iV] at this
 have hPk:∀i,∃d,eT S S.length (iY S most (fun v=>vars.contains (v:Int)) (fr.take i) P) D d/\d<=nJ S fr*c:=fun i=>by
  obtain⟨d,h1,h2⟩:=eT.outs eo most (fun v=>vars.contains (v:Int)) (fr.take i) aV;exact⟨d,h1,aM h2 (jD _ (V5 eo _ _))⟩
 obtain⟨cc,hcc⟩:=Classical.axiomOfChoice hPk;have hl:(iL fr).length=fr.length:=bF fr;have hg:∀i (h:i<(iL fr).length) (h':i<fr.length),(iL fr)[i]=(fr[i]:Int):=fun i h h'=>by simp[iL]
 have kh:∀i (h':i<fr.length),fr.take (i+1)=fr.take i++[fr[i]]:=fun i h'=>gh h'
 have:=af1 a b t q ca cb ct cq S (iL fr) vars P D cc most (fun i=>iY S most (fun v=>vars.contains (v:Int)) (fr.take i) P) (fun i=>uU (fun x=>vars.contains x) (iL (fr.take i)) (iL fr)) w aN hs hb hP hq dI ⟨rfl,rfl⟩
  (fun i h hk=>by
   (have h':i<fr.length:=by rw[<- hl];exact h);rw[hg i h h'] at hk;refine⟨?_,?_⟩
   ·show iY _ _ _ (fr.take (i+1)) _=_;rw[kh i h',Qb,aB hk]
   ·show uU _ (iL (fr.take (i+1))) _=_;rw[kh i h',iL,dY,fH,j5,SQ,aB hk];rfl)
  (fun i h hk=>by
   (have h':i<fr.length:=by rw[<- hl];exact h);rw[hg i h h'] at hk⊢;refine⟨fr[i],rfl,?_,?_,hlt _ (bY h'),PI.gone eo most _ jr uz (bY h') ?_⟩
   ·show iY _ _ _ (fr.take (i+1)) _=_;rw[kh i h',Qb,aD (by rw[hk];decide)]
   ·show uU _ (iL (fr.take (i+1))) _=_;rw[kh i h',iL,dY,fH,j5,SQ,aD (by rw[hk];decide)];rfl
   ·intro a7;have h3:(fr.take (i+1)).Nodup:=iC.sublist (List.take_sublist ..);rw[kh i h',ue] at h3;exact h3.2.2 _ a7 _ (eA.2 rfl) rfl)
  (fun i _=>by
   obtain⟨h1,h2⟩:=hcc i;have h3:=XW S most (fun v=>vars.contains (v:Int)) (fr.take i) P;rw[eB] at h3;have h4:=aa3 (fun x=>vars.contains x) (iL (fr.take i)) (iL fr);rw[bF] at h4;have h5:=j7 h2;exact⟨h1,by show List.length _<=_;omega,by show List.length _<=_;omega,by omega⟩)
 rw[hl] at this;simp only[iR] at this;exact this
def ei (V:List Vr) (L:List (List Int)) (R:List (List Fr)) (l:List (Nat×Nat)):Rat:=bK (fun k=>dL l (a8 (aq V) (List.range V.length) k)*uk V L R (a8 (aq V) (List.range V.length) k) V.length) (cnt (aq V) (List.range V.length))
theorem Qz (V:List Vr) (L:List (List Int)) (R:List (List Fr)) (a b:List (Nat×Nat)):ei V L R (a++b)=ei V L R (b++a):=by
 rw[ei,ei];refine iW fun k _=>?_;rw[Tx,Tx,EM (dL a _)]
theorem GK.grown (h:GK w V x y z) (hg:V.grownBy V' (some g)) (hb:w.heap.size+2<=g):GK w V' x y z:=
 have hB:Below (w.heap.size+2) V V':=(aw _ V).grown hg (by have:=h.2.lt;omega) (fun k e=>by cases e;exact hb);⟨h.1.grow (hB.ae (by omega)),h.2.aa hB (by omega)⟩
theorem ahl (a b c:Option Addr) (ca cb cc v:Nat) (V:List Vr) (L:List (List Int)) (R:List (List Fr)) (w:World) (h:jx w a b c V L R) (hN:tJ w b L) (hs:vr V L R) (hw:∀l∈R,fw l<=4200) (h0:bA V L R=0) (hv:v<V.length) (tD:∀U:World,jx U a b c V L R ->Calls Tryz.prog 75 #[.agg #[.slice a V.length ca,.slice b L.length cb,.slice c R.length cc]] U fun e w'=>e=.returned (.int .i64 (bA V L R))/\Below U.heap.size U w'):
  Calls Tryz.prog 95 #[.agg #[.slice a V.length ca,.slice b L.length cb,.slice c R.length cc],.int .i64 (v:Nat)] w fun e w'=>r8 w.heap.size (gU L v) (gL V L R v) 0 e w'/\Below w.heap.size w w':=by
 have aV:=kL h0;have Je:=hs.vars.1;have hn8:=aV.n8;have eH:v<L.length:=by rw[aV.len];exact hv
 have oP:v<R.length:=by rw[aV.lenR];exact hv
 have kM:=aV.up v eH;have hno:=YD h0 eH;have p7:=hid tD;rw[h0] at p7;have Ub:Hid ((([(v:Int)]++L[v]).mergeSort fun x y=>decide (x<=y))=gU L v):=WA eH kM hno;have UN:Hid (([(v:Int)]++L[v]).length=(gU L v).length):=by show _=_;rw[<- Ub.o,KU]
 have hUe:gU L v=jo L[v] [(v:Int)]:=by rw[gU,b6,ba eH];rfl
 have pX:Hid (Up (gU L v) V.length):=by rw[hUe];exact E0 kM (Pe hv)
 have amu:Hid (0<(gU L v).length):=by show _<_;rw[<- UN.o];simp
 have aN:=aV.fine;have jO:∀u,sz (aq V) u<=4:=fun u=>by have:=aN.sz_le u;rwa [iV] at this
 have eo:Pos (aq V):=by have:=aN.pos;rwa [iV] at this
 have hsm:cnt (aq V) (af (gU L v))<=65536:=rY jO (by rw[dR];have:=pX.o.length;omega);have iq:Hid ((gL V L R v).length=cnt (aq V) (af (gU L v))):=by show _=_;simp[gL]
 have hRL:R[v].length=(gL V L R v).length:=by rw[iq.o,alb _ eH kM hno];exact aV.rows v eH oP
 have vJ:Hid (∀k (h:k<(gL V L R v).length),(gL V L R v)[k]=qF (bt (eY V L R (a8 (aq V) (af (gU L v)) k) v))):=fun k h=>by simp[gL]
 have ow:Hid (∀K,K<cnt (aq V) (af (gU L v)) ->(eY V L R (a8 (aq V) (af (gU L v)) K) v).2.1.size+(eY V L R (a8 (aq V) (af (gU L v)) K) v).2.2.size<=4200):=fun K hK=>ah6 aV (fun u=>vd eo _ K u hK) hw hv
 have pg:Hid (∀(K:Nat) (U:World) (G:Nat),K<cnt (aq V) (af (gU L v)) ->jx U a b c V L R ->cN U G (nO V.length (a8 (aq V) (af (gU L v)) K)) ->Calls Tryz.prog 151 #[.agg #[.slice a V.length ca,.slice b L.length cb,.slice c R.length cc],.int .i64 (v:Nat),.slice (some ⟨G,0,none⟩) V.length V.length] U fun e w'=>e=.returned (fh (eY V L R (a8 (aq V) (af (gU L v)) K) v))/\Below U.heap.size U w'):=fun K U G hK h1 h2=>by
  rw[L0 eH oP];have:=ah1 a b c (some ⟨G,0,none⟩) ca cb cc V.length v V L R (nO V.length (a8 (aq V) (af (gU L v)) K)) U h1 h2.ints (CE _ _) hn8 hv eH oP aN kM (aV.rows v eH oP) (a8 (aq V) (af (gU L v)) K) (fun u=>vd eo _ K u hK) (fun u hu=>PA hu);rwa [CE] at this
 have eZ:(iL (aq V)).length=V.length:=by rw[bF,rH]
 have HWH:Hid (∀(U:World) (G D cd K:Nat),K<cnt (aq V) (af (gU L v)) ->cN U G (aq V) ->aC U (some ⟨D,0,none⟩) (gU L v) ->Calls Tryz.prog 150 #[.slice (some ⟨G,0,none⟩) V.length V.length,.slice (some ⟨D,0,none⟩) (gU L v).length cd,.int .i64 (K:Nat)] U fun e w'=>∃(g:Nat) (cc:Nat),e=.returned (.tuple #[.slice (some ⟨g,0,none⟩) (gU L v).length cc,.int .i64 0])/\U.heap.size<=g/\cN w' g (kR (aq V) (af (gU L v)) K)/\Below U.heap.size U w'):=fun U G D cd K hK h1 h2=>by
  have:=ad3 (some ⟨G,0,none⟩) (some ⟨D,0,none⟩) V.length cd K (iL (aq V)) (gU L v) U h1.ints h2 aN (by rw[eZ];exact pX.o) (by rw[iV];exact hK);rwa [eZ,iV] at this
 have HDG:Hid (∀K i (hi:i<(af (gU L v)).length),(kR (aq V) (af (gU L v)) K)[i]? =some (a8 (aq V) (af (gU L v)) K (af (gU L v))[i])):=fun K i hi=>acd pX.o.nodup hi;have HAO:Hid (∀K u,¬u∈af (gU L v) ->a8 (aq V) (af (gU L v)) K u=0):=fun K u hu=>Gf hu;have iP:=hid (fun (U:World) (hU:r7 U a V)=>Qu a b c ca cb cc L.length R.length V U hU Je);have Oi:=hid (h.pars v eH);have hpl:=hs.pars.2 L[v] (bY eH);replace hpl:L[v].length<=50000:=by omega
 have zJ:=hid (hN v eH);obtain⟨gr,ij,br,cr,rfl,hgr,r1, -, -⟩:=h.rows v oP;rw[hRL] at r1;have nj:=hid r1;have HI:=hid h;generalize gL V L R v=FL at *;generalize gU L v=U at *;obtain⟨gp,eX,bl,cl,rfl,fQ,p1,jr⟩:=Oi.o;have HNL:=hid (zJ.o gp eX bl _ cl rfl p1);have q7:=hid p1;have xK:=hid jr;generalize aiQ:L[v]=pl at *;clear h hs hw h0 aV kM hUe aN jO eo eZ Oi p1 jr aiQ hno hN zJ hRL r1 tD;have je:=hid (GK.new w (.slice a V.length ca) (.slice (some ⟨gp,eX,none⟩) L.length cb) (.slice (some ⟨gr,ij,none⟩) R.length cc));obtain⟨c0,c1,c2⟩:=je.o.1.1.cells;go_enter Tryz.func95,Tryz.ntmps95;go_wp2_with fail
 generalize ((w.alloc (NC (.slice a V.length ca) (.slice (some ⟨gp,eX,none⟩) L.length cb) (.slice (some ⟨gr,ij,none⟩) R.length cc))).alloc (TC (.slice none 0 0) (.slice none 0 0)))=w1 at *;refine(p7.o _ (HI.o.aa je.o.1.2)).ae ?_;rintro e W ⟨rfl,hb⟩;have hG:=je.o.step hb;clear hb je c0 c1 c2 p7;obtain⟨c0,c1,c2⟩:=hG.1.1.cells;have hv0:(0:Int)<=(v:Int):=by omega
 have lD:(v:Int)<(V.length:Int):=by omega
 have UO:=hid hG;clear hG;go_upto_region 6 with fail
 clear c0 c1 c2;have qE:decide (V.length<=v)=false:=by simp;exact hv
 have pN:decide ((v:Int)<0)=false:=by simp
 simp only[qE,pN,Bool.or_false];go_cut [7,8] from 32 to 42 (fun s t wx=>∃G D cd,s=.slice (some ⟨G,0,none⟩) V.length V.length/\t=.slice (some ⟨D,0,none⟩) U.length cd/\w.heap.size+2<=G/\w.heap.size+2<=D/\cN wx G (aq V)/\aC wx (some ⟨D,0,none⟩) U/\GK w wx (.slice a V.length ca) (.slice (some ⟨gp,eX,none⟩) L.length cb) (.slice (some ⟨gr,ij,none⟩) R.length cc))
 case first=>
  have hG:=UO.o;clear UO;replace hG:GK w W.drew (.slice a V.length ca) (.slice (some ⟨gp,eX,none⟩) L.length cb) (.slice (some ⟨gr,ij,none⟩) R.length cc):=⟨⟨hG.1.1,hG.1.2.drew⟩,hG.2⟩;refine kC (S:=fun u=>u.cell? ⟨w.heap.size,0,none⟩=some (.slice a V.length ca)/\u.cell? ⟨w.heap.size,1,none⟩=some (.slice (some ⟨gp,eX,none⟩) L.length cb)/\u.cell? ⟨w.heap.size,2,none⟩=some (.slice (some ⟨gr,ij,none⟩) R.length cc)/\u.cell? ⟨gp,eX+v,none⟩=some (.slice bl pl.length cl)) (by kernel_rfl) ⟨hG.1.1.cells.1,hG.1.1.cells.2.1,hG.1.1.cells.2.2,(hG.1.2.cell (p:=⟨gp,eX+v,none⟩) fQ).trans q7.o⟩ (fun ah=>?_);generalize W.drew=u0 at *;refine ar 0 (.agg #[.slice a V.length ca,.slice (some ⟨gp,eX,none⟩) L.length cb,.slice (some ⟨gr,ij,none⟩) R.length cc]) ?_;refine ar 2 (.int .i64 (v:Nat)) ?_;refine ar 4 (.pointer (some ⟨w.heap.size,1,none⟩)) ?_;refine ar 5 (.slice (some ⟨gp,eX,none⟩) L.length cb) ?_;refine ar 6 (.int .i64 (v:Nat)) ?_;refine ar 7 (.pointer (some ⟨gp,eX+v,none⟩)) ?_;refine ar 8 (.slice bl pl.length cl) ?_;refine aI [1,3] (cA ?_ (cA ?_ aH))
  focus
   intro K' hK';go_simp;refine(iP.o _ (HI.o.aa hG.1.2).vars).ae ?_;rintro e uS ⟨G,rfl,Jq,hrow,hb⟩;(have F2:w.heap.size+2<=G:=by have:=hG.2.lt;omega);replace hG:=hG.step hb;refine hK'.o _ _ ⟨hG.1.1.cells.1,hG.1.1.cells.2.1,hG.1.1.cells.2.2,(hG.1.2.cell (p:=⟨gp,eX+v,none⟩) fQ).trans q7.o⟩ (fun ag=>?_);clear hb Jq;clear hK' K' ah;have ah:=ag;clear ag;refine aI [3] (cA ?_ aH);intro K' hK';go_simp;have hown:(uS.alloc (.cells #[.int .i64 (v:Int)] 3)).heap[uS.heap.size]? =some (.cells #[.int .i64 (v:Int)] 3 (0,0)):=fP uS _;have ajB:G<uS.heap.size:=hrow.lt;replace hrow:=hrow.alloc (.cells #[.int .i64 (v:Int)] 3);(have ajd:w.heap.size+2<=uS.heap.size:=by have:=hG.2.lt;omega);replace hG:=hG.step ((aw _ uS).alloc (ak _) (.cells #[.int .i64 (v:Int)] 3));refine hK'.o _ _ ⟨hG.1.1.cells.1,hG.1.1.cells.2.1,hG.1.1.cells.2.2,(hG.1.2.cell (p:=⟨gp,eX+v,none⟩) fQ).trans q7.o⟩ (fun ag=>?_);generalize (uS.alloc (.cells #[.int .i64 (v:Int)] 3))=u2 at *;generalize uS.heap.size=gb at *
  rotate_left
  focus
   intro K' hK';go_simp;have hown:(u0.alloc (.cells #[.int .i64 (v:Int)] 3)).heap[u0.heap.size]? =some (.cells #[.int .i64 (v:Int)] 3 (0,0)):=fP u0 _;(have ajd:w.heap.size+2<=u0.heap.size:=by have:=hG.2.lt;omega);(have ajc:u0.heap.size<(u0.alloc (.cells #[.int .i64 (v:Int)] 3)).heap.size:=by simp);replace hG:=hG.step ((aw _ u0).alloc (ak _) (.cells #[.int .i64 (v:Int)] 3));refine hK'.o _ _ ⟨hG.1.1.cells.1,hG.1.1.cells.2.1,hG.1.1.cells.2.2,(hG.1.2.cell (p:=⟨gp,eX+v,none⟩) fQ).trans q7.o⟩ (fun ag=>?_);generalize (u0.alloc (.cells #[.int .i64 (v:Int)] 3))=u2 at *;generalize u0.heap.size=gb at *;clear hK' K' ah;have ah:=ag;clear ag;refine aI [1] (cA ?_ aH);intro K' hK';go_simp;refine(iP.o _ (HI.o.aa hG.1.2).vars).ae ?_;rintro e uS ⟨G,rfl,Jq,hrow,hb⟩;(have F2:w.heap.size+2<=G:=by have:=hG.2.lt;omega);(have ajB:gb<G:=by omega);replace hG:=hG.step hb;replace hown:=(hb.block gb ajc).trans hown;refine hK'.o _ _ ⟨hG.1.1.cells.1,hG.1.1.cells.2.1,hG.1.1.cells.2.2,(hG.1.2.cell (p:=⟨gp,eX+v,none⟩) fQ).trans q7.o⟩ (fun ag=>?_);clear hb Jq
  all_goals
   clear hK' K' ah;have ah:=ag;clear ag;refine aI [9] (cA ?_ aH);intro K' hK';rw[aB (by rfl)];refine ade _ _ rfl gb (v:Int) pl rfl hown bl cl rfl (xK.o.aa hG.1.2) HNL.o (by omega) ?_;intro D cap u3 hD hDl hHo hgr;have Jr:GK w u3 (.slice a V.length ca) (.slice (some ⟨gp,eX,none⟩) L.length cb) (.slice (some ⟨gr,ij,none⟩) R.length cc):=hG.grown hgr (by omega);have Rb:cN u3 G (aq V):=(hgr.block G hrow.lt (fun e=>by cases e;omega)).trans hrow;(have hD2:w.heap.size+2<=D:=by have:=hG.2.lt;omega);(have hDG:D≠G:=by have:=hrow.lt;omega);clear hG hrow hown hgr hD;have hG:=Jr;clear Jr;refine hK'.o _ _ ⟨hG.1.1.cells.1,hG.1.1.cells.2.1,hG.1.1.cells.2.2,(hG.1.2.cell (p:=⟨gp,eX+v,none⟩) fQ).trans q7.o⟩ (fun ag=>?_);clear hK' K' ah;have ah:=ag;clear ag;refine aI [10] (cA ?_ aH);intro K' hK';go_simp;refine(ae1 D cap ([(v:Int)]++pl) u3 hHo hDl (by simp;omega)).ae ?_;rintro e u4 ⟨rfl,hint,hgr⟩;rw[Ub.o] at hint;have Jr:GK w u4 (.slice a V.length ca) (.slice (some ⟨gp,eX,none⟩) L.length cb) (.slice (some ⟨gr,ij,none⟩) R.length cc):=hG.grown hgr (by omega);have aiN:cN u4 G (aq V):=(hgr.block G Rb.lt (fun e=>hDG (k7 e).symm)).trans Rb;clear hG Rb hgr hHo;have hG:=Jr;clear Jr;refine hK'.o _ _ ⟨hG.1.1.cells.1,hG.1.1.cells.2.1,hG.1.1.cells.2.2,(hG.1.2.cell (p:=⟨gp,eX+v,none⟩) fQ).trans q7.o⟩ (fun ag=>?_);clear hK' K' ah;have ah:=ag;clear ag;refine ar 11 (.slice (some ⟨G,0,none⟩) V.length V.length) ?_;refine ar 12 (.slice (some ⟨D,0,none⟩) ([(v:Int)]++pl).length cap) ?_;(try simp only[gE,aP])
   refine dW (by kernel_rfl) ?_ _;clear ah;go_wp2_with fail
   go_meet
   rw[UN.o];exact⟨G,D,cap,rfl,rfl,F2,hD2,aiN,hint,hG⟩
 case rest=>
 obtain⟨G,D,cd,rfl,rfl,oG,oD,Ml,C5,hG⟩:=hcut;clear qE pN Ub UN xK q7 HNL iP UO;have hwc:=hG.2.lt;obtain⟨c0,c1,c2⟩:=hG.1.1.cells;have r2:=(hG.1.2.cell (p:=⟨gr,ij+v,none⟩) hgr).trans nj.o;have am4:(v:Int)<(R.length:Int):=by omega
 obtain⟨i1,A4,sX,hy1,hy2⟩:=dK Tryz.infoFrac;obtain⟨i0,bS,hz0,hz1,hz2⟩:=dK Tryz.infoInt;have hFs:FL.length<=65536:=by rw[iq.o];exact hsm
 have HG:=hid hG;clear hG
 go_wp2_with (first
  |(at_make;refine nC _ rfl _ _ 37 rfl wc.heap.size 32 i1 (.agg #[.bool false,.string ⟨#[]⟩,.string ⟨#[]⟩]) 3 Tryz.underlying37 A4 sX hy1 .i64 .i64 _ _ FL.length rfl rfl (by go_num) (by go_num) (by rw[hy2];omega) (by unfold maxLen;omega) (ak _) ?_;intro w3 aad aaw;have bV:Below wc.heap.size wc w3:=(aw _ wc).grown aaw (ak _) (fun k e=>by cases e);have MQ:=HG.o.step bV;clear c0 c1 c2 r2;obtain⟨c0,c1,c2⟩:=MQ.1.1.cells)
  |(at_make;refine nC _ rfl _ _ 27 rfl w3.heap.size 3 i0 (.int .i64 0) 1 Tryz.underlying27 bS hz0 hz1 .i64 .i64 _ _ V.length rfl rfl (by go_num) (by go_num) (by rw[hz2];omega) (by unfold maxLen;omega) (ak _) ?_;intro w4 nX Di))
 have hr3:=ab6 aad;rw[Y6] at hr3;have hr4:=pV nX;rw[Fy] at hr4;have dO:Below w3.heap.size w3 w4:=(aw _ w3).grown Di (ak _) (fun k e=>by cases e);have ko:jw w3 wc.heap.size (List.replicate FL.length xj):=hr3;have tC:cN w4 w3.heap.size (List.replicate V.length 0):=hr4;have hlt3:=ko.lt;have SE:=bV.trans (dO.ae bV.size)
 have e0:List.replicate V.length 0=nO V.length (fun _=>0):=by
  apply rC<;>simp[nO]
 rw[e0] at tC;have aaY:=Ml.lt
 have hDlt:D<wc.heap.size:=by
  obtain⟨g',o',e,h2,_⟩:=C5 0 (by have:=amu.o;omega);cases e;exact h2
 have HV0:Hid (GV w (.slice a V.length ca) (.slice (some ⟨gp,eX,none⟩) L.length cb) (.slice (some ⟨gr,ij,none⟩) R.length cc) G D wc.heap.size w3.heap.size (aq V) U w4 (List.replicate FL.length xj) (nO V.length (fun _=>0))):=⟨MQ.step dO,Ml.aa SE Ml.lt,C5.aa SE,ko.aa dO ko.lt,tC,oG,oD,aaY,hDlt,hlt3⟩;clear aad aaw nX Di hr3 hr4 bV dO ko tC hlt3 SE e0 aaY hDlt Ml C5 MQ HG c0 c1 c2 oG oD hwc;generalize wc.heap.size=C at *;generalize w3.heap.size=Ab at *;go_wp2_with fail
 go_loopw [56] (fun iv wr=>∃(i:Nat) (A:Nat ->Nat),i<=FL.length/\iv=.int .i64 i/\Hid (∀u,¬u∈af U ->A u=0)/\Hid (GV w (.slice a V.length ca) (.slice (some ⟨gp,eX,none⟩) L.length cb) (.slice (some ⟨gr,ij,none⟩) R.length cc) G D C Ab (aq V) U wr (pA FL i) (nO V.length A))) (fun iv _=>FL.length - (intOf iv).toNat)
 case atStart=>exact⟨0,fun _=>0,aX _,rfl,fun _ _=>rfl,by rw[XJ];exact HV0⟩
 case round=>
  obtain⟨i,A,hi,rfl,OD,HX⟩:=hrel;clear HV0;by_cases hlt:i<FL.length
  ·have Ry:i<cnt (aq V) (af U):=by rw[<- iq.o];exact hlt
   go_wp2_with fail
   refine(HWH.o _ G D cd i Ry HX.o.szs HX.o.us).ae ?_;rintro e u1 ⟨g5,cd5,rfl,aja,Rz,hb5⟩;have MV:=HX.o.vs.lt;(have h5A:g5≠Ab:=by omega);have JY:=hid (HX.o.step hb5);have xS:=hid Rz;clear Rz hb5 HX aja MV;go_wp2_with fail
   go_loopw [68] (fun jv wr=>∃j:Nat,j<=U.length/\jv=.int .i64 j/\Hid (GV w (.slice a V.length ca) (.slice (some ⟨gp,eX,none⟩) L.length cb) (.slice (some ⟨gr,ij,none⟩) R.length cc) G D C Ab (aq V) U wr (pA FL i) (nO V.length (wL A (a8 (aq V) (af U) i) (af U) j)))/\Hid (cN wr g5 (kR (aq V) (af U) i))) (fun jv _=>U.length - (intOf jv).toNat)
   case atStart=>exact⟨0,aX _,rfl,by rw[ahM];exact JY,xS⟩
   case round=>
    obtain⟨j,hj,rfl,HX,Ou⟩:=hrel;clear JY xS;have hUl:=pX.o.length;by_cases nY:j<U.length
    ·obtain⟨jq,jN⟩:=pX.o.nat nY;(have hjN:j<(af U).length:=by rw[dR];exact nY);have fY:=hid (ahN A (a8 (aq V) (af U) i) V.length hjN);have RO:=HDG.o i j hjN;rw[rG nY] at fY RO;obtain⟨g',o',e, -,cu⟩:=HX.o.us j nY;cases e;rw[bI] at cu;generalize U[j].toNat=u at *;rw[<- jq] at cu;clear jq;obtain⟨Ds,hde⟩:=nG.1 RO;have cv:=Ou.o.cell j Ds;rw[hde] at cv;have ca_:=HX.o.vs.cell u (by rw[CE];exact jN);have fa_:=HX.o.vs.fz u;generalize a8 (aq V) (af U) i u=z at *;have HXs:=hid (HX.o.setA u z);rw[fY.o] at HXs;have amM:=hid (Ou.o.off Ab u (.int .i64 (z:Nat)) h5A);clear RO hde HX Ou;go_wp2;go_roundw
     case rel=>exact⟨j+1,by omega,by go_num,HXs,amM⟩
     case measure=>simp[intOf];omega
    ·obtain rfl:j=U.length:=by omega
     have hX:=HX.o;rw[show wL A (a8 (aq V) (af U) i) (af U) U.length=a8 (aq V) (af U) i by rw[<- dR U];exact ahO OD.o (HAO.o i)] at hX;obtain⟨c0,c1,c2⟩:=hX.gk.1.1.cells;have ND:=hid hX;clear hX HX Ou;go_wp2_with fail
     refine(pg.o i _ Ab Ry (HI.o.aa ND.o.gk.1.2) ND.o.vs).ae ?_;rintro e u3 ⟨rfl,ed⟩;have BP:=hid (ND.o.step ed);clear c0 c1 c2 ed ND;have I8:=vJ.o i hlt;have hcs:=ow.o i Ry;generalize eY V L R (a8 (aq V) (af U) i) v=fr at *;obtain⟨fn,fx,fy⟩:=fr;replace hcs:fx.size+fy.size<=4200:=hcs;have hq:FL[i]=qF (val fn fx fy):=I8;have HQ:=hid hq;clear I8 hq;go_wp2_with fail
     refine(Va (n:=fn) (x:=fx) (y:=fy) (w:=u3) (val fn fx fy) rfl (by omega)).ae ?_;rintro e u5 ⟨rfl,gF⟩;have zt:=hid (BP.o.step gF);clear gF BP;have HST:=hid (XK FL hlt);rw[HQ.o] at HST;obtain⟨k0,k1,k2⟩:=zt.o.cs.cells i (by rw[PZ _ hi];exact hlt);have f0:=zt.o.cs.fz (i*3);have f1:=zt.o.cs.fz (i*3+1);have f2:=zt.o.cs.fz (i*3+2);generalize (pA FL i)[i]'(by rw[PZ _ hi];exact hlt)=zf at *;obtain⟨zn,zx,zy⟩:=zf;simp only at k0 k1 k2;have HP:=hid (zt.o.setC i (qF (val fn fx fy)));rw[HST.o] at HP;generalize val fn fx fy=qq at *;go_wp2;go_roundw
     case rel=>exact⟨i+1,_,by omega,by go_num,HAO.o i,HP⟩
     case measure=>simp[intOf];omega
  ·obtain rfl:i=FL.length:=by omega
   have hX:=HX.o;rw[XL] at hX;obtain⟨k0,k1,f0,f1⟩:=hX.gk.2.facts;have h1:=hX.oD;have h2:=hX.oDC;clear HX;go_wp2;refine dh ((hX.gk.2.put _ _).result2 rfl _ rfl) rfl ?_;exact⟨⟨some ⟨D,0,none⟩,some ⟨C,0,none⟩,cd,FL.length,rfl,(hX.us.far _ _ _ (by omega)).far _ _ _ (by omega),((hX.cs.off _ _ _ (by omega)).off _ _ _ (by omega)).fr,fV.at (by omega),fV.at (by omega)⟩,tI hX.gk.1.2 (by omega) _ _⟩
theorem ahn (a b c:Option Addr) (ca cb cc:Nat) (V:List Vr) (L:List (List Int)) (R:List (List Fr)) (w:World) (h:jx w a b c V L R) (hs:vr V L R)
  (hCR:L.length=V.length ->R.length=V.length ->bh L=0 ->mg V=0 ->∀U:World,jx U a b c V L R ->Calls Tryz.prog 132 #[.agg #[.slice a V.length ca,.slice b L.length cb,.slice c R.length cc]] U fun e w'=>e=.returned (.int .i64 (iE (kJ (aq V) L R) V.length))/\Below U.heap.size U w'):
  Calls Tryz.prog 75 #[.agg #[.slice a V.length ca,.slice b L.length cb,.slice c R.length cc]] w fun e w'=>e=.returned (.int .i64 (bA V L R))/\Below w.heap.size w w':=by
 have HI:=hid h;have Je:=hs.vars.1;have hL5:=hs.pars.1;have hR5:=hs.rows.1;have Ca:Hid (¬(L.length=V.length/\R.length=V.length) ->bA V L R=8):=fun h=>aD h;have zK:Hid (L.length=V.length ->R.length=V.length ->bh L≠0 ->bA V L R=bh L):=fun h1 h2 h3=>by rw[bA,aB ⟨h1,h2⟩,aD h3]
 have zJ:Hid (L.length=V.length ->R.length=V.length ->bh L=0 ->mg V≠0 ->bA V L R=mg V):=fun h1 h2 h3 h4=>by rw[bA,aB ⟨h1,h2⟩,aB h3,aD h4]
 have Ep:Hid (L.length=V.length ->R.length=V.length ->bh L=0 ->mg V=0 ->bA V L R=iE (kJ (aq V) L R) V.length):=fun h1 h2 h3 h4=>by rw[bA,aB ⟨h1,h2⟩,aB h3,aB h4]
 have HGC:=hid (fun (U:World) (hU:dT U b L)=>ajV b cb L U hU (fun l hl=>by have:=hs.pars.2 l hl;omega));have HVC:=hid (fun (U:World) (hU:r7 U a V)=>alm a ca V U hU hs.vars);have Ow:=hid hCR;generalize bA V L R=ne at *;clear h hs hCR;have je:=hid (NK.new w (.slice a V.length ca) (.slice b L.length cb) (.slice c R.length cc));obtain⟨c0,c1,c2⟩:=je.o.1.cells;by_cases qL:L.length=V.length
 ·by_cases uM:R.length=V.length
  ·have hlv:((L.length:Int) !=(V.length:Int))=false:=by rw[qL];simp
   (have Z6:((R.length:Int) !=(V.length:Int))=false:=by rw[uM];simp);have Uy:=hid (zK.o qL uM);have Uu:=hid (zJ.o qL uM);have Uw:=hid (Ep.o qL uM);have U6:=hid (Ow.o qL uM);clear qL uM Ca zK zJ Ep Ow;generalize iE (kJ (aq V) L R) V.length=fe at *;generalize bh L=ge at *;generalize mg V=ve at *;go_enter Tryz.func75,Tryz.ntmps75;go_wp2_with fail
   generalize (w.alloc (NC (.slice a V.length ca) (.slice b L.length cb) (.slice c R.length cc)))=w1 at *;refine(HGC.o _ (HI.o.aa je.o.2).pars).ae ?_;rintro e w2 ⟨rfl,hb⟩;have hK:=je.o.step hb;clear hb je c0 c1 c2 hlv Z6 HGC;obtain⟨c0,c1,c2⟩:=hK.1.cells;by_cases hg:ge=0
   ·subst hg;have Ut:=hid (Uu.o rfl);have Uv:=hid (Uw.o rfl);have U5:=hid (U6.o rfl);have HK:=hid hK;clear Uy Uu Uw U6 hK;go_wp2_with fail
    refine(HVC.o _ (HI.o.aa HK.o.2).vars).ae ?_;rintro e w3 ⟨rfl,hb⟩;have hK:=HK.o.step hb;clear hb HK c0 c1 c2 HVC;obtain⟨c0,c1,c2⟩:=hK.1.cells;by_cases hv:ve=0
    ·subst hv;have HQ:=hid (Uv.o rfl);have amN:=hid (U5.o rfl);have HK:=hid hK;clear Ut Uv U5 hK;go_wp2_with fail
     refine(amN.o _ (HI.o.aa HK.o.2)).ae ?_;rintro e w4 ⟨rfl,hb⟩;have hK:=HK.o.step hb;clear c0 c1 c2 hb;go_wp2;go_ret;exact⟨by rw[HQ.o];rfl,hK.2⟩
    ·have HQ:=hid (Ut.o hv);(have mr:(ve==0)=false:=by simpa using hv);clear hv Ut Uv U5 c0 c1 c2;go_wp2;go_ret;exact⟨by rw[HQ.o];rfl,hK.2⟩
   ·have HQ:=hid (Uy.o hg);(have hgb:(ge==0)=false:=by simpa using hg);clear hg Uy Uu Uw U6 c0 c1 c2;go_wp2;go_ret;exact⟨by rw[HQ.o];rfl,hK.2⟩
  ·have HQ:=hid (Ca.o fun h=>uM h.2);(have hlv:((L.length:Int) !=(V.length:Int))=false:=by rw[qL];simp)
   have Z6:((R.length:Int) !=(V.length:Int))=true:=by
    (have:¬(R.length:Int)=(V.length:Int):=by omega);simpa using this
   clear qL uM Ca Ow;go_enter Tryz.func75,Tryz.ntmps75;go_wp2;go_ret;exact⟨by rw[HQ.o];rfl,je.o.2⟩
 ·have HQ:=hid (Ca.o fun h=>qL h.1)
  have hlv:((L.length:Int) !=(V.length:Int))=true:=by
   (have:¬(L.length:Int)=(V.length:Int):=by omega);simpa using this
  clear qL Ca Ow;go_enter Tryz.func75,Tryz.ntmps75;go_wp2;go_ret;exact⟨by rw[HQ.o];rfl,je.o.2⟩
section
attribute [local go_sem] Oper.semAt_some
def xA (Bs Bk B:Nat) (V V':World):Prop:=mK Bs V V'/\mK Bk V V'/\Below B V V'
theorem xA.t {Bs Bk B:Nat} {X Y Z:World} (h:xA Bs Bk B X Y) (k:xA Bs Bk B Y Z):xA Bs Bk B X Z:=⟨h.1.t k.1,h.2.1.t k.2.1,h.2.2.trans k.2.2⟩
theorem xA.b {Bs Bk B:Nat} (hs:Bs<w.heap.size) (hk:Bk<w.heap.size) (hB:B<=w.heap.size) (V:World) (l:Nat) (o o':Obj) (hl:w.heap.size<=l) (h1:V.heap[l]? =some o) (h2:o.isCells=false) (h3:o.isWalk=false):xA Bs Bk B V (V.putObj l o'):=
 ⟨mK.b hs V l o o' hl h1 h2 h3,mK.b hk V l o o' hl h1 h2 h3,sK hB V l o o' hl h1 h2 h3⟩
theorem grown_drew (w:World):w.grownBy w.drew none:=⟨rfl,rfl,rfl,ak _,fun _ _ _=>rfl⟩
abbrev xY (N:Nat):Type:= {i:Nat//i<N}
abbrev Tn (gf eN k N:Nat) (x:xY N):Array Value:= #[.slice (some ⟨gf,eN+x.1*k*3,none⟩) k k]
theorem alk (n:Nat) (hn:1<=n) (l Bs Bk B gf eN cap k N T:Nat) (hT:T=N*k) (hk:1<=k) (hk4:k<=4) (hN:N<=65536) (qI:T<=cap) (J Jx:List (xY N) ->World ->Prop) (hD:∀pre V,J pre V ->J pre V.drew)
  (hY:∀pre x V,J pre V ->pre.length< N ->YieldAt Fence.wide (n - 1) Tryz.prog l (Tn gf eN k N x) V fun e V'=>
   (e=.returned (.bool true)/\J (pre++[x]) V'/\xA Bs Bk B V V')∨(e=.returned (.bool false)/\Jx (pre++[x]) V'))
  (V:World) (DV:V.cell? ⟨Bs,0,none⟩=some (.slice (some ⟨gf,eN,none⟩) T cap)) (F4:V.cell? ⟨Bk,0,none⟩=some (.int .i64 (k:Nat))) (h0:J [] V):
  CallsIn Fence.wide n Tryz.prog 223 #[.func (.yield l) #[] #[],.pointer (some ⟨Bs,0,none⟩),.pointer (some ⟨Bk,0,none⟩)] V fun e V'=>(∃v,e=.returned v)/\
   ((∃ys:List (xY N),ys.map (·.1)=List.range N/\J ys V')∨(∃pre:List (xY N),(∃j,j<=N/\pre.map (·.1)=List.range j)/\Jx pre V')):=by
 refine EK Tryz.func223 rfl trivial ?_ rfl;simp only[Tryz.ntmps223,k9,di,jG,Nat.reduceAdd,Nat.reduceSub,lh,lg,ld,kF,gi,eC];have zw:=hid hT;have Sj:T<=262144:=by rw[hT];exact aM (jE hN hk4) (by decide)
 clear hT;gi_wp2
 gi_loopw [4] (fun i wr=>∃(j:Nat) (pre:List (xY N)),j<=N/\i=.int .i64 (j*k:Nat)/\Hid (pre.map (·.1)=List.range j)/\J pre wr/\wr.cell? ⟨Bs,0,none⟩=some (.slice (some ⟨gf,eN,none⟩) T cap)/\wr.cell? ⟨Bk,0,none⟩=some (.int .i64 (k:Nat)))
  (fun i _=>T - (intOf i).toNat)
 case atStart=>exact⟨0,[],aX _,by rw[mQ];rfl,rfl,h0,DV,F4⟩
 case round=>
  obtain⟨j,pre,hj,rfl,HP,hJs,fE,hbk⟩:=hrel;by_cases hlt:j<N
  ·have hpl:pre.length=j:=by have:=dt List.length HP.o;rwa [cH,Cz] at this
   (have HS:Hid ((pre++[(⟨j,hlt⟩:xY N)]).map (·.1)=List.range (j+1)):=by show _=_;rw[dY,HP.o,ud];rfl);(have IZ:(j+1)*k<=T:=by rw[zw.o];exact jD k hlt);(have e2:(j+1)*k=j*k+k:=by rw[fC,jZ]);have EA:Hid ((j+1)*k=j*k+k):=e2;(have hlo:j*k+k<=T:=by omega);have UD:Hid (j*k=j*k):=rfl;clear e2 IZ;have Sb:=fun W hW=>hY pre ⟨j,hlt⟩ W hW (by omega);simp only[Tn] at Sb;generalize SA:j*k=lo at *;have HYJ:=hid Sb;clear Sb UD;have HEM:=hid SA;clear SA;(have hc1:¬cap=lo:=by omega);(have iJ:lo<=T:=by omega);(have aiY:min (k:Int) ((T - lo:Nat):Int)=(k:Int):=by omega);gi_wp2
   gi_region
   have hJd:=hD pre wr hJs;have aaH:wr.drew.cell? ⟨Bs,0,none⟩=some (.slice (some ⟨gf,eN,none⟩) T cap):=fE;have aaI:wr.drew.cell? ⟨Bk,0,none⟩=some (.int .i64 (k:Nat)):=hbk;clear fE hbk hJs aiY;generalize wr.drew=w2 at *;obtain⟨fn,tmps,assign,body,hy,hR⟩:=HYJ.o w2 hJd;have HR:=hid hR;clear hR;(have hw1:IntKind.i64.wrap ((lo:Int)+(k:Int))=((lo+k:Nat):Int):=by rw[gV];omega);(have qE:(lo+k:Nat) - lo=k:=by omega);(have hx1:((lo+k:Nat):Int)<=(cap:Int):=by omega);generalize hhi:lo+k=Mw at *;(have hx2:lo<=Mw:=by omega);have HHI:=hid hhi;clear hhi;gi_wp2
   refine HR.o.ae ?_;rintro e W3 (⟨rfl,hJ3,hk3⟩ |⟨rfl,hJx3⟩)
   ·have ajs:=Eq.trans hk3.1 aaH;have ajv:=Eq.trans hk3.2.1 aaI;have HE:Hid ((j+1)*k=Mw):=EA.o;(have hlt3:lo<Mw:=by have:=HHI.o;omega);(have anh:Mw<=T:=by have:=HHI.o;omega);clear aaH aaI hk3;gi_wp2
    go_roundw
    case rel=>exact⟨j+1,_,by omega,by rw[HE.o],HS,hJ3,ajs,ajv⟩
    case measure=>simp[intOf];omega
   ·gi_wp2
    refine dh (results_none rfl _ _ _) rfl ?_;exact⟨⟨_,rfl⟩,.inr ⟨_,⟨j+1,by omega,HS.o⟩,hJx3⟩⟩
  ·obtain rfl:j=N:=by omega
   rw[<- zw.o];gi_wp2
   go_end0
   exact⟨⟨_,rfl⟩,.inl ⟨_,HP.o,hJs⟩⟩
theorem alj (n:Nat) (a:Option Addr) (T cap k:Nat) (hk:1<=k) (w:World):
  CallsIn Fence.wide n Tryz.prog 176 #[.slice a T cap,.int .i64 (k:Nat)] w fun e w'=>e=.returned (.func (.func 223) #[] #[.pointer (some ⟨w.heap.size,0,none⟩),.pointer (some ⟨w.heap.size+1,0,none⟩)])/\w'=(w.alloc (.cells #[.slice a T cap] 37)).alloc (.cells #[.int .i64 (k:Nat)] 3):=by
 refine EK Tryz.func176 rfl trivial ?_ rfl;simp only[Tryz.ntmps176,k9,di,jG,Nat.reduceAdd,Nat.reduceSub,lh,lg,ld,kF,gi,eC];have e1:(1:Int)<=(k:Int):=by omega
 gi_wp2
 go_ret;exact⟨rfl,rfl⟩
theorem ali (n:Nat) (hn:1<=n) (Bs Bk B gf eN cap k N T:Nat) (hT:T=N*k) (hk:1<=k) (hk4:k<=4) (hN:N<=65536) (qI:T<=cap) (w:World) (DV:Bs<w.heap.size) (F4:Bk<w.heap.size) (h1:w.cell? ⟨Bs,0,none⟩=some (.slice (some ⟨gf,eN,none⟩) T cap)) (h2:w.cell? ⟨Bk,0,none⟩=some (.int .i64 (k:Nat))):
  SeqStopsK Fence.wide n Tryz.prog 223 #[.pointer (some ⟨Bs,0,none⟩),.pointer (some ⟨Bk,0,none⟩)] (Tn gf eN k N) (xA Bs Bk B) (fun ys=>ys.map (·.1)=List.range N) (fun pre=>∃j,j<=N/\pre.map (·.1)=List.range j) N w:=fun l J Jx V hV hJ _ hY h0=>
 alk n hn l Bs Bk B gf eN cap k N T hT hk hk4 hN qI J Jx (fun pre U hU=>hJ pre U U.drew none hU (grown_drew U) (fun r e=>by cases e)) hY V ((hV.cell (p:=⟨Bs,0,none⟩) DV).trans h1) ((hV.cell (p:=⟨Bk,0,none⟩) F4).trans h2) h0
end
section
attribute [local go_sem] Oper.semAt_some
variable {ds:List Deferred}
theorem PM {k:Int} (h:Boxed w g 33 (.int .i64 k)) {p:Tmp} (hr:fn.results= #[.cell p 33]) (tmps:Array Value) (hp:tmps.getD p undef=.pointer (some ⟨g,0,none⟩)):(results fn tmps).run Tryz.prog w=.ok (.int .i64 k) w:=by
 have hp':tmps[p]?.getD undef=.pointer (some ⟨g,0,none⟩):=by simpa using hp
 have hc:=h.cell;simp only[results,hr];simp[hp',asAddr];go_simp
theorem ab9 (h:Below V.heap.size V V'):KeepsOthers V V':=⟨h.size,fun k _ hk _=>(h.block k (cV.1 hk).1).trans hk⟩
theorem agm {β:Type} {n0 B:Nat} {Q:β ->World ->Prop} (hB:n0<=B):OwnFrom B (fun (s:β) W=>∃V,Q s V/\n0<=V.heap.size/\Below n0 V W):=fun s W W' row hs hg hr=>by
 obtain⟨V,h1,h2,h3⟩:=hs;exact⟨V,h1,h2,h3.grown hg (aM h2 h3.size) (fun k e=>aM hB (hr k e).1)⟩
def lY (w:World) (k:Int) (W:World):Prop:=Boxed W (w.heap.size+1) 33 (.int .i64 k)/\Below w.heap.size w W
theorem lY.shut {k:Int} (hlo:w.heap.size+1<lo) (W:World) (r:Nat) (h:lY w k W) (hr:lo<=r) (hd:W.heap[r]? =some (.deferred (some []))):lY w k (W.putObj r (.deferred none)):=
 ⟨(tX (by omega)).trans h.1,h.2.trans (sK (w:=w) (ak _) W r _ _ (by omega) hd rfl rfl)⟩
theorem lY.put {W:World} {k:Int} (h:lY w k W) (j:Int):lY w j (W.setCell ⟨w.heap.size+1,0,none⟩ (.int .i64 j)):=⟨h.1.set _,h.2.setCell (p:=⟨w.heap.size+1,0,none⟩) (by simp) _⟩
theorem Shut.put {B:Nat} {W:World} (h:Shut lo B ds W) (hg:g<lo) (v:Value):Shut lo B ds (W.setCell ⟨g,0,none⟩ v):=by
 induction ds generalizing B with
 |nil=>trivial
 |cons d ds ih=>
  obtain⟨r,h1,h2,h3,h4,h5⟩:=h;exact⟨r,h1,h2,h3,(iU W ⟨g,0,none⟩ v r (by show r≠g;omega)).trans h4,ih h5⟩
theorem aln (a b c:Option Addr) (ca cb cc:Nat) (V:List Vr) (L:List (List Int)) (R:List (List Fr)) (w:World) (h:jx w a b c V L R) (hs:vr V L R) (qL:L.length=V.length) (uM:R.length=V.length) (hg:bh L=0) (hv:mg V=0):
  Calls Tryz.prog 132 #[.agg #[.slice a V.length ca,.slice b L.length cb,.slice c R.length cc]] w fun e w'=>e=.returned (.int .i64 (iE (kJ (aq V) L R) V.length))/\Below w.heap.size w w':=by
 refine(fZ (n:=6)).1 ?_;obtain⟨aN,hn8,aT⟩:=abj qL hg hv;have HI:=hid h;have Je:=hs.vars.1;have Uh:=hid hs.rows.2;have cU:=hid aN;have kz:=hid aT;have iP:=hid (fun (U:World) (hU:r7 U a V)=>Qu a b c ca cb cc L.length R.length V U hU Je);have HA:Hid (∀i,i<V.length ->(∀j,j< i ->kJ (aq V) L R j=0) ->∀k,kJ (aq V) L R i=k ->k≠0 ->iE (kJ (aq V) L R) V.length=k):=fun i hi hz k hk hk0=>by rw[Jz hz (by rw[hk];exact hk0) hi,hk]
 have HZ:Hid ((∀j,j<V.length ->kJ (aq V) L R j=0) ->iE (kJ (aq V) L R) V.length=0):=fun h=>zj h;have GN:=hid qL;have vB:=hid uM;generalize iE (kJ (aq V) L R) V.length=fe at *;clear h hs aN aT qL uM hg hv;have Jm:NK w ((w.alloc (NC (.slice a V.length ca) (.slice b L.length cb) (.slice c R.length cc))).alloc (.cells #[.int .i64 0] 33)) (.slice a V.length ca) (.slice b L.length cb) (.slice c R.length cc):=(NK.new w (.slice a V.length ca) (.slice b L.length cb) (.slice c R.length cc)).step ((aw _ _).alloc (ak _) _)
 have hE0:Boxed ((w.alloc (NC (.slice a V.length ca) (.slice b L.length cb) (.slice c R.length cc))).alloc (.cells #[.int .i64 0] 33)) (w.heap.size+1) 33 (.int .i64 0):=by
  have h:=aZ (w.alloc (NC (.slice a V.length ca) (.slice b L.length cb) (.slice c R.length cc))) 33 (.int .i64 0);rwa [dE] at h
 have je:=hid Jm;have UY:=hid hE0;obtain⟨c0,c1,c2⟩:=Jm.1.cells;clear Jm hE0;refine rq Tryz.func132 rfl trivial ?_ rfl;simp only[Tryz.ntmps132,k9,di,jG,Nat.reduceAdd,Nat.reduceSub,lh,lg,ld,kF,gi,eC];gi_wp2_with (refine⟨trivial,?_⟩;gi_at_call 25;refine(fZ.2 (iP.o _ (HI.o.aa je.o.2).vars)).ae ?_;rintro e W2 ⟨G,rfl,Jq,hrow,hb⟩;have hK2:=je.o.step hb;have SC:=(hb.block (w.heap.size+1) (cV.1 UY.o).1).trans UY.o;clear c0 c1 c2;obtain⟨c0,c1,c2⟩:=hK2.1.cells)
 clear hb;have GR:=hid hK2;have xU:Hid (Boxed W2 (w.heap.size+1) 33 (.int .i64 0)):=SC;have Kf:=hid hrow;have MR:w.heap.size+1<W2.heap.size:=(cV.1 SC).1;clear hK2 SC hrow c0 c1 c2 je UY iP Jq;refine wpIn_loop (fun a' w'=>∃(v:Nat) (ds:List Deferred) (u4 u5 u6 u7 u15 u16 Hs Hr EZ VQ VP VO u23 u24 Hq u26 Hp u28 yw Ho Hn u32 u33 VN VM u36 VL u38 VJ VI VH VG EY Pg:Value),a'= {tmps:= #[.agg #[.slice a V.length ca,.slice b L.length cb,.slice c R.length cc],.pointer (some ⟨w.heap.size,0,none⟩),.pointer (some ⟨w.heap.size+1,0,none⟩),.slice (some ⟨G,0,none⟩) V.length V.length,u4,u5,u6,u7,undef,.agg #[.slice a V.length ca,.slice b L.length cb,.slice c R.length cc],.slice (some ⟨G,0,none⟩) V.length V.length,.pointer (some ⟨w.heap.size,2,none⟩),.slice c R.length cc,.int .i64 (R.length:Nat),.int .i64 (v:Nat),u15,u16,Hs,Hr,EZ,VQ,VP,VO,u23,u24,Hq,u26,Hp,u28,yw,Ho,Hn,u32,u33,VN,VM,u36,VL,u38,VJ,VI,VH,VG,EY,undef,undef,undef,undef,Pg],defers:=ds}/\v<=R.length/\Hid (∀j,j< v ->kJ (aq V) L R j=0)/\Hid (Below W2.heap.size W2 w')/\Hid (Shut W2.heap.size w'.heap.size ds w')) (fun a' _=>R.length - (intOf (a'.tmps.getD 14 undef)).toNat) ?_ ?_
 ·exact⟨0,[],_,_,_,_,_,_,_,_,_,_,_,_,_,_,_,_,_,_,_,_,_,_,_,_,_,_,_,_,_,_,_,_,_,_,rfl,aX _,(fun j hj=>absurd hj (by omega)),aw _ _,trivial⟩
 intro a' wr hinv;obtain⟨v,ds,u4,u5,u6,u7,u15,u16,Hs,Hr,EZ,VQ,VP,VO,u23,u24,Hq,u26,Hp,u28,yw,Ho,Hn,u32,u33,VN,VM,u36,VL,u38,VJ,VI,VH,VG,EY,Pg,rfl,hv,TZ,HB,o7⟩:=hinv;have hlo:W2.heap.size<=wr.heap.size:=HB.o.size;by_cases hlt:v<R.length
 ·have rV:=GR.o.step HB.o;have C8:=Kf.o.aa HB.o Kf.o.lt;have eH:v<L.length:=by rw[GN.o, <- vB.o];exact hlt
  have AL:v<V.length:=by rw[<- vB.o];exact hlt
  obtain⟨gr,ij,bf,cf,rfl,hgr,r1,Iu,Mo⟩:=HI.o.rows v hlt;obtain⟨gp,eX,bp,cp,rfl,fQ,p1,jr⟩:=HI.o.pars v eH;obtain⟨c0,c1,c2⟩:=rV.1.cells;have r2:=(rV.2.cell (p:=⟨gr,ij+v,none⟩) hgr).trans r1;have p2:=(rV.2.cell (p:=⟨gp,eX+v,none⟩) fQ).trans p1;have eZ:(aq V).length=V.length:=rH V;have aT:Up L[v] V.length:=by rw[<- GN.o];exact kz.o v eH
  have jO:∀u,sz (aq V) u<=4:=fun u=>by have:=cU.o.sz_le u;rwa [iV] at this
  have eo:Pos (aq V):=by have:=cU.o.pos;rwa [iV] at this
  have hN:cnt (aq V) (af L[v])<=65536:=rY jO (by rw[dR];have:=aT.length;have:=GN.o;omega);have wZ:1<=cnt (aq V) (af L[v]):=Nn eo _;have hk4:=jO v;have IX:=mh eo v;have uu:=C8.cell v (by rw[eZ];exact AL);have Z3:(aq V)[v]'(by rw[eZ];exact AL)=sz (aq V) v:=by rw[sz,ba (by rw[eZ];exact AL)];rfl
  rw[Z3] at uu;have hpl:=aT.length
  have p9:Hid (CallsIn Fence.wide 5 Tryz.prog 37 #[.slice (some ⟨G,0,none⟩) V.length V.length,.slice bp L[v].length cp] wr fun e w'=>e=.returned (.tuple #[.int .i64 (cnt (aq V) (af L[v]):Nat),.int .i64 0])/\Below wr.heap.size wr w'):=by
   have hcb:countB (iL (aq V)) L[v]=true:=Nl cU.o (by rw[bF,eZ];exact aT);have hc:=Po (some ⟨G,0,none⟩) bp V.length cp (iL (aq V)) L[v] wr C8.ints (jr.aa rV.2) (by rw[bF,eZ];have:=GN.o;omega) (by have:=GN.o;omega);rw[Gc hcb,iV,bF,eZ] at hc;exact fZ.2 hc
  have Kh:Hid (kJ (aq V) L R v=if R[v].length=cnt (aq V) (af L[v])*sz (aq V) v then(if ((List.range (cnt (aq V) (af L[v]))).all fun i=>jH (fj R[v] (sz (aq V) v) i))=true then 0 else 9) else 8):=by
   show _=_;rw[kJ,b6,ba hlt,b6,ba eH];rfl
  have Kg:=hid (Iu.aa rV.2);have Mn:=Uh.o R[v] (bY hlt);have HAV:=hid (HA.o v AL TZ.o);generalize L[v]=pl at *;generalize R[v]=rv at *;have Df:pl.length<=8:=by have:=GN.o;omega
  clear Iu r1 p1 jr aT jO eo Z3 eZ;generalize hkk:sz (aq V) v=k at *;generalize cnt (aq V) (af pl)=N at *;clear hkk;have hNk:N*k<=262144:=aM (jE hN hk4) (by decide);have hcm:(N:Int)*(k:Int)=((N*k:Nat):Int):=(j6 _ _).symm;have hw1:IntKind.i64.wrap ((N:Int)*(k:Int))=((N*k:Nat):Int):=by rw[hcm,gV];omega
  have HCM:=hid hcm;clear hcm;by_cases hT:rv.length=N*k
  ·rw[aB hT] at Kh;rw[<- hT] at hw1;have hkT:k<=N*k:=Cr k wZ;(have lF:0<rv.length:=by omega);obtain⟨gf,eN,rfl,Mx, -⟩:=Kg.o 0 lF;have zw:=hid hT;clear hT hNk hkT;have hT5:rv.length<=5000:=Mn.1;(have hne:((rv.length:Int) !=(rv.length:Int))=false:=by simp)
   gi_wp2_with (first
    |(refine⟨trivial,?_⟩;gi_at_call 37;refine p9.o.ae ?_;rintro e W4 ⟨rfl,hb⟩;have hK4:=rV.step hb;have hr4:=C8.aa hb C8.lt;have ZR:=(hb.cell (p:=⟨G,v,none⟩) C8.lt).trans uu;clear c0 c1 c2 r2 p2 uu)
    |(refine⟨trivial,?_⟩;gi_at_call 176;refine(alj _ _ _ _ k IX _).ae ?_;rintro e W5 ⟨rfl,rfl⟩))
   (have am6:((W4.alloc (.cells #[.slice (some ⟨gf,eN,none⟩) rv.length cf] 37)).alloc (.cells #[.int .i64 (k:Nat)] 3)).heap.size=W4.heap.size+1+1:=by simp);have hc1:((W4.alloc (.cells #[.slice (some ⟨gf,eN,none⟩) rv.length cf] 37)).alloc (.cells #[.int .i64 (k:Nat)] 3)).cell? ⟨W4.heap.size,0,none⟩=some (.slice (some ⟨gf,eN,none⟩) rv.length cf):=((aZ W4 37 (.slice (some ⟨gf,eN,none⟩) rv.length cf)).alloc _).cell
   have hc2:((W4.alloc (.cells #[.slice (some ⟨gf,eN,none⟩) rv.length cf] 37)).alloc (.cells #[.int .i64 (k:Nat)] 3)).cell? ⟨W4.heap.size+1,0,none⟩=some (.int .i64 (k:Nat)):=by
    have h:=(aZ (W4.alloc (.cells #[.slice (some ⟨gf,eN,none⟩) rv.length cf] 37)) 3 (.int .i64 (k:Nat))).cell;rwa [dE] at h
   have R2:Below W4.heap.size W4 ((W4.alloc (.cells #[.slice (some ⟨gf,eN,none⟩) rv.length cf] 37)).alloc (.cells #[.int .i64 (k:Nat)] 3)):=((aw _ W4).alloc (ak _) _).alloc (by simp) _;generalize ((W4.alloc (.cells #[.slice (some ⟨gf,eN,none⟩) rv.length cf] 37)).alloc (.cells #[.int .i64 (k:Nat)] 3))=W5 at *;have jO:=hb.size;have Sw:=hK4.step R2;have uy:Below wr.heap.size wr W5:=hb.trans (R2.ae jO);have HF5:=hid (Kg.o.aa uy);have acE:=hid ((o7.o.aa uy).ae (show wr.heap.size<=W5.heap.size by omega));have xW:Hid (lY w 0 W5):=⟨(uy.block (w.heap.size+1) (by omega)).trans ((HB.o.block (w.heap.size+1) MR).trans xU.o),Sw.2⟩;have HK5:=hid Sw;have fG:=hid (HB.o.trans (uy.ae hlo));clear hb hK4 hr4 ZR R2 rV C8 Sw p9 Kf HB o7 Kg uy
   refine KG (α:=xY N) rfl (by omega) (gf:=223) (lb:= #[.pointer (some ⟨W4.heap.size,0,none⟩),.pointer (some ⟨W4.heap.size+1,0,none⟩)]) rfl trivial (enters_of Tryz.func223 (by kernel_rfl) rfl)
    (ali 5 (by omega) W4.heap.size (W4.heap.size+1) W5.heap.size gf eN cf k N rv.length zw.o IX hk4 hN Mo W5 (by omega) (by omega) hc1 hc2) xA.t (xA.b (by omega) (by omega) (ak _)) (aw _ _) (fun _=>rfl)
    (fun (pre:List (xY N)) X=>Below W5.heap.size W5 X/\∀x∈pre,jH (fj rv k x.1)=true)
    (fun cd (pre:List (xY N)) X=>∃Y,(cd=Code.ret/\(∃x∈pre,jH (fj rv k x.1)=false)/\lY w 9 Y/\Shut W2.heap.size W5.heap.size ds Y)/\W5.heap.size<=Y.heap.size/\Below W5.heap.size Y X)
    (eG (x7 (ak _) (ak _)) (fun _ _ _ _ hs _ _=>hs))
    (fun cd=>agm (Q:=fun (pre:List (xY N)) Y=>cd=Code.ret/\(∃x∈pre,jH (fj rv k x.1)=false)/\lY w 9 Y/\Shut W2.heap.size W5.heap.size ds Y) (ak _))
    ⟨aw _ _,fun x hx=>absurd hx (by simp)⟩
    (fun x=> {tmps:= #[.agg #[.slice a V.length ca,.slice (some ⟨gp,eX,none⟩) L.length cb,.slice (some ⟨gr,ij,none⟩) R.length cc],.pointer (some ⟨w.heap.size,0,none⟩),.pointer (some ⟨w.heap.size+1,0,none⟩),.slice (some ⟨G,0,none⟩) V.length V.length,.int .i64 (v:Nat),.slice (some ⟨gf,eN,none⟩) rv.length cf,.int .i64 (N:Nat),.int .i64 0,.slice (some ⟨gf,eN+x.1*k*3,none⟩) k k,.agg #[.slice a V.length ca,.slice (some ⟨gp,eX,none⟩) L.length cb,.slice (some ⟨gr,ij,none⟩) R.length cc],.slice (some ⟨G,0,none⟩) V.length V.length,.pointer (some ⟨w.heap.size,2,none⟩),.slice (some ⟨gr,ij,none⟩) R.length cc,.int .i64 (R.length:Nat),.int .i64 (v:Nat),.bool true,.int .i64 (v:Nat),.pointer (some ⟨gr,ij+v,none⟩),.slice (some ⟨gf,eN,none⟩) rv.length cf,.tuple #[.int .i64 (N:Nat),.int .i64 0],.slice (some ⟨G,0,none⟩) V.length V.length,.pointer (some ⟨w.heap.size,1,none⟩),.slice (some ⟨gp,eX,none⟩) L.length cb,.int .i64 (v:Nat),.pointer (some ⟨gp,eX+v,none⟩),.slice bp pl.length cp,.tuple #[.int .i64 (N:Nat),.int .i64 0],.int .i64 (N:Nat),.int .i64 0,.slice (some ⟨gf,eN,none⟩) rv.length cf,.int .i64 (rv.length:Nat),.int .i64 (N:Nat),.slice (some ⟨G,0,none⟩) V.length V.length,.int .i64 (v:Nat),.pointer (some ⟨G,v,none⟩),.int .i64 (k:Nat),.int .i64 (rv.length:Nat),.bool false,.slice (some ⟨gf,eN,none⟩) rv.length cf,.slice (some ⟨G,0,none⟩) V.length V.length,.int .i64 (v:Nat),.pointer (some ⟨G,v,none⟩),.int .i64 (k:Nat),.func (.func 223) #[] #[.pointer (some ⟨W4.heap.size,0,none⟩),.pointer (some ⟨W4.heap.size+1,0,none⟩)],.slice (some ⟨gf,eN+x.1*k*3,none⟩) k k,undef,undef,undef,Pg],defers:=[]}) ?assign ?body ?done ?stop
   case assign=>
    intro l x X K hK;gi_wp2
    exact hK
   case body=>
    rintro l pre ⟨i,hi⟩ X ⟨tE,hall⟩ hpre;(have hmul:(i+1)*k<=rv.length:=by rw[zw.o];exact jD k hi);obtain⟨A9,hlc⟩:=ew.chunk (m:=k) (HF5.o.aa tE) hmul rfl;have Rw:=ail (some ⟨gf,eN+i*k*3,none⟩) k (fj rv k i) X A9 (aM (aj7 rv k i) Mn.2) (by omega);rw[hlc] at Rw;have Sc:=tE.size;have xP:=hid Rw;have qd:=hid tE;have sI:=hid hall;clear Rw A9 hlc hmul tE hall hc1 hc2 hpre;cases nV:jH (fj rv k i)
    case true=>
     rw[nV] at xP;have Ki:=hid nV;clear nV;gi_wp2_with (refine⟨trivial,?_⟩;gi_at_call 177;refine(K0 l (fZ.2 xP.o)).ae ?_;rintro e X2 ⟨rfl,yZ⟩)
     refine⟨(ab9 yZ).from _,⟨yZ.cell (p:=⟨W4.heap.size,0,none⟩) (by show W4.heap.size<X.heap.size;omega),yZ.cell (p:=⟨W4.heap.size+1,0,none⟩) (by show W4.heap.size+1<X.heap.size;omega),yZ.ae Sc⟩,qd.o.trans (yZ.ae Sc),fun x hx=>?_⟩;rcases bL.1 hx with hx |hx
     ·exact sI.o x hx
     ·rw[eA.1 hx];exact Ki.o
    case false=>
     rw[nV] at xP;have Ki:=hid nV;clear nV;gi_wp2_with (refine⟨trivial,?_⟩;gi_at_call 177;refine(K0 l (fZ.2 xP.o)).ae ?_;rintro e X2 ⟨rfl,yZ⟩;have hB2:=qd.o.trans (yZ.ae Sc);have bB:=(hB2.block (w.heap.size+1) (by omega)).trans xW.o.1;have qH:=Boxed.cell bB;have I6:=Boxed.frozen bB)
     have hL9:lY w 9 (X2.setCell ⟨w.heap.size+1,0,none⟩ (.int .i64 9)):=lY.put (k:=0) ⟨bB,xW.o.2.trans (hB2.ae (by omega))⟩ 9;refine⟨((ab9 yZ).trans (ji X2 _ _)).from _,_,⟨rfl,⟨⟨i,hi⟩,by simp,Ki.o⟩,hL9,(acE.o.aa hB2).put (by omega) _⟩,?_,aw _ _⟩;have anE:=yZ.size;simp;omega
   case done=>
    rintro D ys X hD AG ⟨tE,hall⟩ hK
    have Ug:Hid (kJ (aq V) L R v=0):=by
     show _=_;rw[Kh.o,aB];rw[dN];intro i hi;rw[<- AG] at hi;obtain⟨x,hx,rfl⟩:=aU.1 hi;exact hall x hx
    have ze:D<X.heap.size:=(cV.1 hK).1;have hB2:=fG.o.trans (tE.ae (by omega));have hSX:Shut W2.heap.size X.heap.size ({target:=.collected D,args:= #[]}::ds) X:=⟨D,by omega,ze,rfl,hK,(acE.o.aa tE).ae hD⟩;have qd:=hid hB2;have Eh:=hid hSX;clear hK hall AG hB2 hSX hc1 hc2 tE;gi_wp2
    refine⟨⟨v+1,_,_,_,_,_,_,_,_,_,_,_,_,_,_,_,_,_,_,_,_,_,_,_,_,_,_,_,_,_,_,_,_,_,_,_,rfl,by omega,(fun j hj=>?_),qd,Eh⟩,?_⟩
    ·rcases cM j v with h |h
     ·exact TZ.o j h
     ·rw[show j=v by omega];exact Ug.o
    ·simp[intOf];omega
   case stop=>
    rintro D cd pre X hD hSp ⟨Y,⟨rfl,⟨x,hx,hxb⟩,hcr,uw⟩,hYs,tE⟩ hK
    have tA:fe=9:=HAV.o 9 (by
     rw[Kh.o,aD];intro h;rw[dN] at h;have:=h x.1 (ck.2 x.2);rw[hxb] at this;cases this) (by decide)
    have ze:D<X.heap.size:=(cV.1 hK).1;have hCX:lY w 9 X:=⟨(tE.block (w.heap.size+1) (by omega)).trans hcr.1,hcr.2.trans (tE.ae (by omega))⟩;gi_wp2
    refine CS (lo:=W2.heap.size) (K:=lY w 9) (lY.shut (by omega)) (fun Z hZ=>⟨_,PM hZ.1 rfl _ rfl,?_,hZ.2⟩) _ X.heap.size X ⟨D,by omega,ze,rfl,hK,(uw.aa tE).ae hD⟩ hCX;rw[tA]
  ·rw[aD hT] at Kh;have tA:fe=8:=HAV.o 8 Kh.o (by decide)
   have hne:((rv.length:Int) !=((N*k:Nat):Int))=true:=by
    (have:¬(rv.length:Int)=((N*k:Nat):Int):=by omega);simpa using this
   clear hT;have tU:=HB.o;gi_wp2_with (refine⟨trivial,?_⟩;gi_at_call 37;refine p9.o.ae ?_;rintro e W4 ⟨rfl,hb⟩;have hK4:=rV.step hb;have ZR:=(hb.cell (p:=⟨G,v,none⟩) C8.lt).trans uu;have bB:Boxed W4 (w.heap.size+1) 33 (.int .i64 0):=(hb.block (w.heap.size+1) (by omega)).trans ((HB.o.block (w.heap.size+1) MR).trans xU.o);have qH:=Boxed.cell bB;have I6:=Boxed.frozen bB;clear c0 c1 c2 r2 p2 uu)
   refine CS (lo:=W2.heap.size) (K:=lY w 8) (lY.shut (by omega)) (fun Z hZ=>⟨_,PM hZ.1 rfl _ rfl,?_,hZ.2⟩) _ wr.heap.size _ ((o7.o.aa hb).put (by omega) _) (lY.put (k:=0) ⟨bB,hK4.2⟩ 8);rw[tA]
 ·obtain rfl:v=R.length:=by omega
  have tA:fe=0:=HZ.o (fun j hj=>TZ.o j (by rw[vB.o];exact hj));have bB:Boxed wr (w.heap.size+1) 33 (.int .i64 0):=(HB.o.block (w.heap.size+1) MR).trans xU.o;have qH:=Boxed.cell bB;have I6:=Boxed.frozen bB;have rV:=GR.o.step HB.o;gi_wp2
  refine CS (lo:=W2.heap.size) (K:=lY w 0) (lY.shut (by omega)) (fun Z hZ=>⟨_,PM hZ.1 rfl _ rfl,?_,hZ.2⟩) _ wr.heap.size _ (o7.o.put (by omega) _) (lY.put (k:=0) ⟨bB,rV.2⟩ 0);rw[tA]
end
theorem abX (a b c:Option Addr) (ca cb cc:Nat) (V:List Vr) (L:List (List Int)) (R:List (List Fr)) (w:World) (h:jx w a b c V L R) (hs:vr V L R):
  Calls Tryz.prog 75 #[.agg #[.slice a V.length ca,.slice b L.length cb,.slice c R.length cc]] w fun e w'=>e=.returned (.int .i64 (bA V L R))/\Below w.heap.size w w':=
 ahn a b c ca cb cc V L R w h hs fun h1 h2 h3 h4 U hU=>aln a b c ca cb cc V L R U hU hs h1 h2 h3 h4
variable {i:Nat}
def lL (S:List Nat) (n:Nat) (F:List (Int×Int)) (i:Nat):Int:=
 if ¬(0<=(F.getD i (0,0)).1/\(F.getD i (0,0)).1<(n:Int)) then 11 else if ¬(0<=(F.getD i (0,0)).2/\(F.getD i (0,0)).2<(sz S (F.getD i (0,0)).1.toNat:Int)) then 12 else if ((F.take i).any fun p=>p.1==(F.getD i (0,0)).1)=true then 7 else 0
def od (V:List Vr) (L:List (List Int)) (R:List (List Fr)) (F:List (Int×Int)):Int:=if bA V L R=0 then iE (lL (aq V) V.length F) F.length else bA V L R
theorem MZ (h:i<F.length):F.getD i (0,0)=F[i]:=by rw[b6,ba h];rfl
theorem abn (hi:i<F.length) (h:¬(0<=F[i].1/\F[i].1<(n:Int))):lL S n F i=11:=by rw[lL,MZ hi,aB h]
theorem abo (hi:i<F.length) (h:0<=F[i].1/\F[i].1<(n:Int)) (h2:¬(0<=F[i].2/\F[i].2<(sz S F[i].1.toNat:Int))):lL S n F i=12:=by rw[lL,MZ hi,aD (fun e=>e h),aB h2]
theorem abp (hi:i<F.length) (h:0<=F[i].1/\F[i].1<(n:Int)) (h2:0<=F[i].2/\F[i].2<(sz S F[i].1.toNat:Int)) (h3:((F.take i).any fun p=>p.1==F[i].1)=true):lL S n F i=7:=by rw[lL,MZ hi,aD (fun e=>e h),aD (fun e=>e h2),aB h3]
theorem abq (hi:i<F.length) (h:0<=F[i].1/\F[i].1<(n:Int)) (h2:0<=F[i].2/\F[i].2<(sz S F[i].1.toNat:Int)) (h3:((F.take i).any fun p=>p.1==F[i].1)=false):lL S n F i=0:=by rw[lL,MZ hi,aD (fun e=>e h),aD (fun e=>e h2),aD (by rw[h3];decide)]
theorem Pq {V:List Vr} (h:v<V.length):sz (aq V) v=V[v].2.length:=by rw[sz,H3 h];rfl
theorem aii (a b c d:Option Addr) (ca cb cc cd:Nat) (V:List Vr) (L:List (List Int)) (R:List (List Fr)) (F:List (Int×Int)) (w:World) (h:jx w a b c V L R) (hs:vr V L R) (hF:ny w d F) (hn:F.length<=1000) (hcd:F.length<=cd):
  Calls Tryz.prog 32 #[.agg #[.slice a V.length ca,.slice b L.length cb,.slice c R.length cc],.slice d F.length cd] w fun e w'=>e=.returned (.int .i64 (od V L R F))/\Below w.heap.size w w':=by
 have hA:=(aw w.heap.size w).alloc (ak _) (NC (.slice a V.length ca) (.slice b L.length cb) (.slice c R.length cc));have cR:=hid (dr.at (w:=w) rfl (.slice a V.length ca) (.slice b L.length cb) (.slice c R.length cc));have po:=hid (abX a b c ca cb cc V L R _ (h.aa hA) hs);have HA:=hid hA;have xC:=hid h.vars;have HF:=hid hF;have Je:V.length<=5000:=hs.vars.1;have HVL:Hid (∀v (hv:v<V.length),V[v].2.length<=5000):=fun v hv=>hs.vars.2 _ (bY hv) |>.2.1;obtain⟨re,Ix⟩:∃re,od V L R F=re:=⟨_,rfl⟩;have xV:Hid (bA V L R≠0 ->bA V L R=re):=fun e=>by rw[<- Ix,od,aD e]
 have xU:Hid (bA V L R=0 ->∀i,i<F.length ->(∀j,j< i ->lL (aq V) V.length F j=0) ->∀k,lL (aq V) V.length F i=k ->k≠0 ->k=re):=fun e i hi hz k hk hk0=>by rw[<- Ix,od,aB e,Jz hz (by rw[hk];exact hk0) hi,hk]
 have HE3:Hid (bA V L R=0 ->(∀j,j<F.length ->lL (aq V) V.length F j=0) ->0=re):=fun e hz=>by rw[<- Ix,od,aB e,zj hz]
 have HIO:=hid (fun (i:Nat) (v:Int) (U:World) (hU:Below w.heap.size w U)=>ain d cd (F.take i) v U ((hF.aa hU).take i) (by rw[eB];omega));rw[Ix];clear h hs hF hA Ix;go_enter Tryz.func32,Tryz.ntmps32;go_wp2_with fail
 refine po.o.ae ?_;rintro e w1 ⟨rfl,hb1⟩;have cP:=hid (HA.o.trans (hb1.ae HA.o.size));have Cb:=hid (cR.o.aa hb1 cR.o.lt);clear hb1 po cR HA;by_cases hne:bA V L R=0
 ·rw[hne];have GL:=hid hne;clear hne;go_wp2_with fail
  go_loopw [15] (fun iv wr=>∃i:Nat,i<=F.length/\iv=.int .i64 i/\Hid (∀j,j< i ->lL (aq V) V.length F j=0)/\Hid (dr wr w.heap.size (.slice a V.length ca) (.slice b L.length cb) (.slice c R.length cc))/\Hid (Below w.heap.size w wr)) (fun iv _=>F.length - (intOf iv).toNat)
  case atStart=>exact⟨0,aX _,rfl,(fun j hj=>absurd hj (by omega)),Cb,cP⟩
  case round=>
   obtain⟨i,hi,rfl,HZ,HN,HB⟩:=hrel;clear Cb cP;by_cases hlt:i<F.length
   ·obtain⟨g,o,rfl,hg,h0,h1⟩:=HF.o i hlt;have k0:=(HB.o.cell (p:=⟨g,_,none⟩) hg).trans h0;have k1:=(HB.o.cell (p:=⟨g,_,none⟩) hg).trans h1;have HR:=hid (xU.o GL.o i hlt HZ.o);have Ot:Hid (¬(0<=F[i].1/\F[i].1<(V.length:Int)) ->lL (aq V) V.length F i=11):=abn hlt;have HF2:Hid (0<=F[i].1/\F[i].1<(V.length:Int) ->¬(0<=F[i].2/\F[i].2<(sz (aq V) F[i].1.toNat:Int)) ->lL (aq V) V.length F i=12):=abo hlt;have eV:Hid (0<=F[i].1/\F[i].1<(V.length:Int) ->(0<=F[i].2/\F[i].2<(sz (aq V) F[i].1.toNat:Int)) ->((F.take i).any fun p=>p.1==F[i].1)=true ->lL (aq V) V.length F i=7):=abp hlt;have Ez:Hid (0<=F[i].1/\F[i].1<(V.length:Int) ->(0<=F[i].2/\F[i].2<(sz (aq V) F[i].1.toNat:Int)) ->((F.take i).any fun p=>p.1==F[i].1)=false ->lL (aq V) V.length F i=0):=abq hlt;have xM:Hid (lL (aq V) V.length F i=0 ->∀j,j<i+1 ->lL (aq V) V.length F j=0):=fun e=>O2 HZ.o e;have acS:=hid (HIO.o i F[i].1);(have nT:(F.take i).length=i:=by rw[eB];omega);rw[nT] at acS;generalize lL (aq V) V.length F i=fe at *;generalize ((F.take i).any fun p=>p.1==F[i].1)=fq at *;generalize F[i].1=f1 at *;generalize F[i].2=f2 at *;have hA:=(aw wr.heap.size wr).alloc (ak _) (.cells #[.int .i64 f1,.int .i64 f2] 90);(have yP:(wr.alloc (.cells #[.int .i64 f1,.int .i64 f2] 90)).heap.size=wr.heap.size+1:=by simp);have I6:(wr.alloc (.cells #[.int .i64 f1,.int .i64 f2] 90)).heap[wr.heap.size]? =some (.cells #[.int .i64 f1,.int .i64 f2] 90 (0,0)):=fP wr _;have xT:=hid I6;have UA:=hid (HN.o.aa hA HN.o.lt)
    have cF:=hid (HB.o.trans (hA.ae HB.o.size));have nc:=UA.o.cells.1;clear h0 h1 nT hA I6;by_cases hv:0<=f1/\f1<(V.length:Int)
    ·obtain⟨v,rfl⟩:∃v:Nat,f1=v:=⟨f1.toNat,by omega⟩;(have AL:v<V.length:=by omega);obtain⟨gv,ov,bv,cv,rfl,FX,hv0,lD,_,_⟩:=xC.o v AL;have uu:sz (aq V) v=V[v].2.length:=Pq AL;have am3:=HVL.o v AL;rw[nH,uu] at HF2 eV Ez;have kv:=(cF.o.cell (p:=⟨gv,_,none⟩) FX).trans lD;generalize V[v].2.length=sv at *;have T2:=hid hv;clear hv0 lD hv uu;obtain⟨f0c,f1c⟩:(wr.alloc (.cells #[.int .i64 (v:Nat),.int .i64 f2] 90)).cell? ⟨wr.heap.size,0,none⟩=some (.int .i64 (v:Nat))/\(wr.alloc (.cells #[.int .i64 (v:Nat),.int .i64 f2] 90)).cell? ⟨wr.heap.size,1,none⟩=some (.int .i64 f2):=⟨by rw[bE _ _ 0 _ _ (0,0) xT.o];rfl,by rw[bE _ _ 1 _ _ (0,0) xT.o];rfl⟩;by_cases hval:0<=f2/\f2<(sv:Int)
     ·obtain⟨z,rfl⟩:∃z:Nat,f2=z:=⟨f2.toNat,by omega⟩;(have hzs:z<sv:=by omega);have acB:=hid hval;clear hval;go_upto_region 11 with (go_quiet (fail))
      have HFD:Hid (((wr.alloc (.cells #[.int .i64 (v:Nat),.int .i64 (z:Nat)] 90)).drewN nq).heap[wr.heap.size]? =some (.cells #[.int .i64 (v:Nat),.int .i64 (z:Nat)] 90 (0,0))):=xT.o;have p6:Hid (dr ((wr.alloc (.cells #[.int .i64 (v:Nat),.int .i64 (z:Nat)] 90)).drewN nq) w.heap.size (.slice (some ⟨gv,ov,none⟩) V.length ca) (.slice b L.length cb) (.slice c R.length cc)):=UA.o;have dP:=hid (below_drewN cF.o nq);(have C5:wr.heap.size<((wr.alloc (.cells #[.int .i64 (v:Nat),.int .i64 (z:Nat)] 90)).drewN nq).heap.size:=by show wr.heap.size<(wr.alloc _).heap.size;rw[yP];omega);clear f0c f1c kv nc xT UA cF yP;generalize (wr.alloc (.cells #[.int .i64 (v:Nat),.int .i64 (z:Nat)] 90)).drewN nq=W3 at *
      have Ek:Hid (∀U:World,Below W3.drew.heap.size W3.drew U ->U.cell? ⟨wr.heap.size,0,none⟩=some (.int .i64 (v:Nat))):=fun U hU=>(hU.cell (p:=⟨wr.heap.size,0,none⟩) C5).trans (by
       have:W3.drew.heap[wr.heap.size]? =some (.cells #[.int .i64 (v:Nat),.int .i64 (z:Nat)] 90 (0,0)):=HFD.o;rw[bE _ _ 0 _ _ (0,0) this];rfl)
      have acR:=hid (acS.o W3.drew dP.o.drew);(have hic:(i:Int)<=(cd:Int):=by omega);refine kC (S:=fun U=>U.cell? ⟨wr.heap.size,0,none⟩=some (.int .i64 (v:Nat))) (by kernel_rfl) (Ek.o _ (aw _ _)) (fun ah=>?_);refine ar 0 (.slice (some ⟨g,o,none⟩) F.length cd) ?_;refine ar 1 (.int .i64 (i:Nat)) ?_;refine ar 2 (.slice (some ⟨g,o,none⟩) i cd) ?_;refine ar 3 (.pointer (some ⟨wr.heap.size,0,none⟩)) ?_;refine ar 4 (.int .i64 (v:Nat)) ?_;refine aI [5] (cA ?_ aH);intro K' hK';go_simp;refine acR.o.ae ?_;rintro r w5 ⟨rfl,hb5⟩;refine hK'.o _ _ (Ek.o w5 hb5) (fun ag=>?_);clear hK' K' ah;(try simp only[gE,aP]);refine dW (by kernel_rfl) ?_ _;clear ag;have fG:Hid (Below w.heap.size w w5):=dP.o.drew.trans (hb5.ae dP.o.drew.size);have N8:Hid (dr w5 w.heap.size (.slice (some ⟨gv,ov,none⟩) V.length ca) (.slice b L.length cb) (.slice c R.length cc)):=dr.aa (w:=W3.drew) p6.o hb5 p6.o.lt;clear hb5 acR Ek;cases fq with
      |true=>
       have pY:=hid (HR.o 7 (eV.o T2.o acB.o rfl) (by decide));go_wp2;go_ret;exact⟨by rw[<- pY.o];rfl,fG.o⟩
      |false=>
       have HZ5:=hid (xM.o (Ez.o T2.o acB.o rfl));go_wp2;go_roundw
       case rel=>exact⟨i+1,by omega,by go_num,HZ5,N8,fG⟩
       case measure=>simp[intOf];omega
     ·have pY:=hid (HR.o 12 (HF2.o T2.o hval) (by decide));rcases Int.lt_or_le f2 0 with h2 |h2
      ·have qE:decide (f2<0)=true:=bT h2;clear hval;go_wp2_with (go_quiet (fail))
       go_ret;exact⟨by rw[<- pY.o];rfl,below_drewN cF.o _⟩
      ·have qE:decide (f2<0)=false:=cj (by omega);have pN:decide ((sv:Int)<=f2)=true:=bT (by omega);clear hval;go_wp2_with (go_quiet (fail))
       go_ret;exact⟨by rw[<- pY.o];rfl,below_drewN cF.o _⟩
    ·have pY:=hid (HR.o 11 (Ot.o hv) (by decide));obtain⟨f0c,f1c⟩:(wr.alloc (.cells #[.int .i64 f1,.int .i64 f2] 90)).cell? ⟨wr.heap.size,0,none⟩=some (.int .i64 f1)/\(wr.alloc (.cells #[.int .i64 f1,.int .i64 f2] 90)).cell? ⟨wr.heap.size,1,none⟩=some (.int .i64 f2):=⟨by rw[bE _ _ 0 _ _ (0,0) xT.o];rfl,by rw[bE _ _ 1 _ _ (0,0) xT.o];rfl⟩;rcases Int.lt_or_le f1 0 with h2 |h2
     ·clear hv;go_wp2_with fail
      go_ret;exact⟨by rw[<- pY.o];rfl,cF.o⟩
     ·have h3:(V.length:Int)<=f1:=by omega
      (have h4:¬f1<0:=by omega);clear hv;go_wp2_with fail
      go_ret;exact⟨by rw[<- pY.o];rfl,cF.o⟩
   ·obtain rfl:i=F.length:=by omega
    have pY:=hid (HE3.o GL.o HZ.o);go_wp2;go_ret;exact⟨by rw[<- pY.o];rfl,HB.o⟩
 ·have pY:=hid (xV.o hne);have hgb:(bA V L R==0)=false:=by simpa using hne
  clear hne xV xU HE3;generalize bA V L R=ne at *;go_wp2;go_ret;exact⟨by rw[<- pY.o];rfl,cP.o⟩
variable {L:List (List Int)} {u:Nat}
def abB (L:List (List Int)) (u v:Nat):Bool:=Gi (aG L) u L.length v
theorem acu (h:bh L=0) (hv:v<L.length):abB L u v=true↔u=v∨dV (fun u v=>u∈(aG L).getD v []) u v:=TK h u L.length v (vP (WV h hv))
def Gh (L:List (List Int)) (u:Nat) (l:List Nat):Bool:=l.any (abB L u)
def ia (n:Nat) (Ls:List (List Int)):Bool:=gR Ls n&&decide Ls.flatten.Nodup
def nR (L:List (List Int)) (x y z:List Int):Bool:=(af x).any fun v=>Ax (aG L) L.length (fun v=>decide (v∈af y)) (fun v=>decide (v∈af z)) (fun v=>Gh L v (af z)) L.length [v]
variable {kl:Nat×Bool ->Lit} {W':World}
def yL (p:Nat×Bool):Value:=.agg #[.int .i64 (p.1:Nat),.bool p.2]
theorem aib:laidOutB Tryz.prog=true:=by kernel_rfl
theorem Il:Maps.Keyed Tryz.prog 168:=Maps.Keyed.of_law (deep_law_laid aib (m:=3) (by decide) (kY (by kernel_rfl)) (by kernel_rfl) (by kernel_rfl))
theorem aie (v:Nat) (c:Bool) (hv:v<8):(keyOf Tryz.prog 168 (yL (v,c))).isSome=true:=by
 have h:v=0∨v=1∨v=2∨v=3∨v=4∨v=5∨v=6∨v=7:=by omega
 rcases h with rfl |rfl |rfl |rfl |rfl |rfl |rfl |rfl
 all_goals
  cases c
  all_goals exact kY (by kernel_rfl)
theorem aif:∃kl:Nat×Bool ->Lit,∀p:Nat×Bool,p.1< 8 ->keyOf Tryz.prog 168 (yL p)=some (kl p):=by
 refine⟨fun p=>(keyOf Tryz.prog 168 (yL p)).getD (.bool false),fun p hp=>?_⟩;obtain⟨l,hl⟩:=Option.isSome_iff_exists.1 (aie p.1 p.2 hp);have hl':keyOf Tryz.prog 168 (yL p)=some l:=hl;show _=some ((keyOf Tryz.prog 168 (yL p)).getD (.bool false));rw[hl'];rfl
theorem key_inj (hk:∀p:Nat×Bool,p.1< 8 ->keyOf Tryz.prog 168 (yL p)=some (kl p)) {p q:Nat×Bool} (hp:p.1<8) (hq:q.1<8) (h:kl p=kl q):p=q:=by
 have h1:=hk p hp;have h2:=hk q hq;rw[h] at h1;have e:=Il.inj h1 h2;obtain⟨p1,p2⟩:=p;obtain⟨q1,q2⟩:=q;simp only[yL,Value.agg.injEq,Array.mk.injEq,List.cons.injEq,Value.int.injEq,Value.bool.injEq,true_and,and_true] at e;obtain⟨e1,e2⟩:=e;have:p1=q1:=by omega
 rw[this,e2]
structure xZ (kl:Nat×Bool ->Lit) (W:World) (b:Nat) (S:List (Nat×Bool)) (D:DataW Unit):Prop where
 own:W.ownsMap Tryz.prog 168 (unitElem (H:=Unit)) b S.length D
 has:∀p:Nat×Bool,p.1< 8 ->Maps.has D (kl p)=decide (p∈S)
theorem xZ.new (kl:Nat×Bool ->Lit) (w:World):xZ kl (w.alloc (.map #[] 0)) w.heap.size [] (.map []):=⟨World.ownsMap_made w _ _ _,fun _ _=>rfl⟩
theorem xZ.put (hk:∀p:Nat×Bool,p.1< 8 ->keyOf Tryz.prog 168 (yL p)=some (kl p)) {W:World} {b:Nat} {S:List (Nat×Bool)} {D:DataW Unit} (h:xZ kl W b S D) {p:Nat×Bool} (hp:p.1<8) {d:DataW Unit} (h':W'.ownsMap Tryz.prog 168 (unitElem (H:=Unit)) b (S.length+1) (D.put (kl p) d)):xZ kl W' b (p::S) (D.put (kl p) d):=by
 refine⟨h',fun q hq=>?_⟩;by_cases e:kl q=kl p
 ·have e':=key_inj hk hq hp e;rw[e',Maps.has_put_same h.own.isMap (Il.key (hk p hp)),bT c5]
 ·rw[Maps.has_put_other e,h.has q hq];refine zX.2 ⟨dD _,fun hm=>?_⟩;rcases cT.1 hm with e' |hm
  ·exact absurd (by rw[e']) e
  ·exact hm
theorem xZ.kept {W:World} {b:Nat} {S:List (Nat×Bool)} {D:DataW Unit} (h:xZ kl W b S D) {row:Option Nat} (hg:W.grownBy W' row) (hne:some b≠row):xZ kl W' b S D:=⟨h.own.kept hg hne,h.has⟩
variable {P:List (List Nat)} {an:List Nat}
def Ar (P:List (List Nat)) (n:Nat) (z an:List Nat) (p:Nat×Bool):List (Nat×Bool):=
 (if (p.2&&!decide (p.1∈z) ||!p.2&&decide (p.1∈an))=true then(bw (P.getD p.1 []) 8).map fun u=>(u,true) else[])++(if p.1∈z then[] else(bw (dH P p.1 n) 8).map fun u=>(u,false))
structure ou (P:List (List Nat)) (n:Nat) (x y z an:List Nat) (S W:List (Nat×Bool)):Prop where
 low:∀p,p∈S∨p∈W ->p.1<n/\fF (fun u v=>u∈P.getD v []) (·∈x) (·∈z) (·∈an) p.1 p.2
 nd:S.Nodup
 noy:∀p∈S,¬p.1∈y
 suc:∀p∈S,∀q∈Ar P n z an p,q∈S∨q∈W
 start:∀v∈x,(v,true)∈S∨(v,true)∈W
 len:W.length<=8+16*S.length
theorem ou.new {x y z:List Nat} (hx:∀v∈x,v<n) (h8:n<=8):ou P n x y z an [] ((bw x 8).map fun u=>(u,true)):=by
 refine⟨fun p hp=>?_,List.nodup_nil,(fun p hp=>by cases hp),(fun p hp=>by cases hp),fun v hv=>.inr (aU.2 ⟨v,qu.2 ⟨by have:=hx v hv;omega,hv⟩,rfl⟩),?_⟩
 ·rcases hp with hp |hp
  ·cases hp
  ·obtain⟨v,hv,rfl⟩:=aU.1 hp;exact⟨hx v (qu.1 hv).2,.start (qu.1 hv).2⟩
 ·have:=jL x 8;rw[cH,jG];omega
theorem ou.skip {x y z:List Nat} {S T:List (Nat×Bool)} {p:Nat×Bool} (h:ou P n x y z an S (T++[p])) (hp:p∈S):ou P n x y z an S T:=by
 have sub:∀q,q∈S∨q∈T++[p] ->q∈S∨q∈T:=fun q hq=>by
  rcases hq with hq |hq
  ·exact .inl hq
  ·rcases bL.1 hq with hq |hq
   ·exact .inr hq
   ·rw[eA.1 hq];exact .inl hp
 refine⟨fun q hq=>h.low q (hq.imp id fun hq=>yj _ hq),h.nd,h.noy,fun q hq r hr=>sub r (h.suc q hq r hr),fun v hv=>sub _ (h.start v hv),?_⟩;have:=h.len;rw[bM,EO] at this;omega
theorem ou.add {x y z:List Nat} (hP:∀v,∀u∈P.getD v [],u<n/\v<n) {S T:List (Nat×Bool)} {p:Nat×Bool} (h:ou P n x y z an S (T++[p])) (hp:¬p∈S) (hy:¬p.1∈y):ou P n x y z an (p::S) (T++Ar P n z an p):=by
 obtain⟨hpl,IC⟩:=h.low p (.inr (Cv _ c5))
 have sub:∀q,q∈S∨q∈T++[p] ->q∈p::S∨q∈T++Ar P n z an p:=fun q hq=>by
  rcases hq with hq |hq
  ·exact .inl (dD _ hq)
  ·rcases bL.1 hq with hq |hq
   ·exact .inr (yj _ hq)
   ·rw[eA.1 hq];exact .inl c5
 have aiJ:∀q∈Ar P n z an p,q.1<n/\fF (fun u v=>u∈P.getD v []) (·∈x) (·∈z) (·∈an) q.1 q.2:=fun q hq=>by
  rcases bL.1 hq with hq |hq
  ·by_cases hc:(p.2&&!decide (p.1∈z) ||!p.2&&decide (p.1∈an))=true
   ·rw[aB hc] at hq;obtain⟨u,hu,rfl⟩:=aU.1 hq;have uq:=(qu.1 hu).2;refine⟨(hP _ _ uq).1,?_⟩;obtain⟨v,c⟩:=p;cases c with
    |true=>
     (have hz:¬v∈z:=fun hz=>by simp[hz] at hc);exact .up IC hz uq
    |false=>
     (have ha:v∈an:=by simpa using hc);exact .meet IC ha uq
   ·rw[aD hc] at hq;cases hq
  ·by_cases hz:p.1∈z
   ·rw[aB hz] at hq;cases hq
   ·rw[aD hz] at hq;obtain⟨u,hu,rfl⟩:=aU.1 hq;obtain⟨h1,h2⟩:=BF.1 (qu.1 hu).2;exact⟨h1,.down IC hz h2⟩
 refine⟨fun q hq=>?_,mR.2 ⟨hp,h.nd⟩,fun q hq=>?_,fun q hq r hr=>?_,fun v hv=>sub _ (h.start v hv),?_⟩
 ·rcases hq with hq |hq
  ·rcases cT.1 hq with rfl |hq
   ·exact⟨hpl,IC⟩
   ·exact h.low q (.inl hq)
  ·rcases bL.1 hq with hq |hq
   ·exact h.low q (.inr (yj _ hq))
   ·exact aiJ q hq
 ·rcases cT.1 hq with rfl |hq
  ·exact hy
  ·exact h.noy q hq
 ·rcases cT.1 hq with rfl |hq
  ·exact .inr (Cv _ hr)
  ·exact sub r (h.suc q hq r hr)
 ·have h1:=h.len
  have h2:(Ar P n z an p).length<=16:=by
   have a1:=jL (P.getD p.1 []) 8;have a2:=jL (dH P p.1 n) 8;rw[Ar,bM];split<;>split<;>simp only[cH,jG]<;>omega
  rw[bM,EO] at h1;rw[bM,di];omega
theorem ou.fin {x y z:List Nat} (hP:∀v,∀u∈P.getD v [],u<n/\v<n) (h8:n<=8) {S:List (Nat×Bool)} (h:ou P n x y z an S []):¬∃v c,v∈y/\fF (fun u v=>u∈P.getD v []) (·∈x) (·∈z) (·∈an) v c:=by
 have key:∀v c,fF (fun u v=>u∈P.getD v []) (·∈x) (·∈z) (·∈an) v c ->(v,c)∈S:=fun v c hr=>by
  have sub:∀p q,p∈S ->q∈Ar P n z an p ->q∈S:=fun p q hp hq=>(h.suc p hp q hq).elim id fun h=>by cases h
  induction hr using fF.ind with
  |start hx=>exact(h.start _ hx).elim id fun h=>by cases h
  | @up v p _ hz hp ih=>exact sub _ _ ih (yj _ (by
    rw[aB (by simp[hz])];exact aU.2 ⟨p,qu.2 ⟨by have:=(hP _ _ hp).1;omega,hp⟩,rfl⟩))
  | @down v w c _ hz hp ih=>exact sub _ _ ih (Cv _ (by
    rw[aD hz];exact aU.2 ⟨w,qu.2 ⟨by have:=(hP _ _ hp).2;omega,BF.2 ⟨(hP _ _ hp).2,hp⟩⟩,rfl⟩))
  | @meet v p _ ha hp ih=>exact sub _ _ ih (yj _ (by
    rw[aB (by simp[ha])];exact aU.2 ⟨p,qu.2 ⟨by have:=(hP _ _ hp).1;omega,hp⟩,rfl⟩))
 rintro⟨v,c,hy,hr⟩;exact h.noy _ (key v c hr) hy
theorem ou.few {x y z:List Nat} {S W:List (Nat×Bool)} (h:ou P n x y z an S W) (h8:n<=8):S.length<=16:=by
 have iC:(S.map fun p=>p.1*2+(if p.2=true then 1 else 0)).Nodup:=yh.2 (h.nd.imp fun {a b} hab e=>hab (by
  obtain⟨a1,a2⟩:=a;obtain⟨b1,b2⟩:=b;cases a2<;>cases b2<;>simp at e⊢<;>omega))
 have:=Fv iC (m:=List.range 16) fun v hv=>by
  obtain⟨p,hp,rfl⟩:=aU.1 hv;have:=(h.low p (.inl hp)).1;refine ck.2 ?_;split<;>omega
 simpa using this
variable {s:List Nat} {Pa:Nat ->Nat ->Prop} {An X Z:Nat ->Prop}
theorem Ig {l:List Nat}:aA l=0↔∀v,¬v∈l:=by
 constructor
 ·intro h v hv;have:=mo l v;rw[h,Nat.zero_testBit,bT hv] at this;cases this
 ·intro h;have:aA l=aA []:=LV fun x=>⟨fun hx=>absurd hx (h x),fun hx=>by cases hx⟩;rw[this];rfl
theorem EW (h:Up l n):l.Nodup:=vS.2 fun i j hi hj oT=>by
 have:=h.lt i j hj oT;omega
theorem Ap (h:Up l n) {x:Int} (hx:x∈l):0<=x/\x<n:=by
 obtain⟨j,hj,rfl⟩:=jg hx;exact h.each j hj
theorem Pd (h:Up l n) {x:Int} (hx:0<=x):x.toNat∈af l↔x∈l:=by
 constructor
 ·intro hm;obtain⟨y,hy,e⟩:=aU.1 hm;have:=Ap h hy;rwa [show x=y by omega]
 ·exact fun hm=>aU.2 ⟨x,hm,rfl⟩
theorem ui (h:Up l n):∀u∈af l,u<n:=fun u hu=>by
 obtain⟨y,hy,rfl⟩:=aU.1 hu;have:=Ap h hy;omega
theorem Tz {a b:List Int} (ha:Up a n) (hb:Up b n):(∀x∈a,∀y∈b,x≠y)↔aA ((af a).filter fun x=>decide (x∈af b))=0:=by
 rw[Ig];constructor
 ·intro h v hv;obtain⟨h1,h2⟩:=cJ.1 hv;obtain⟨x,hx,rfl⟩:=aU.1 h1;have h3:=(Pd hb (Ap ha hx).1).1 (kY h2);exact h x hx x h3 rfl
 ·rintro h x hx y hy rfl;exact h x.toNat (cJ.2 ⟨(Pd ha (Ap ha hx).1).2 hx,bT ((Pd hb (Ap ha hx).1).2 hy)⟩)
theorem VT (a b:List Int):af (a++b)=af a++af b:=dY
theorem Nx {x y z:List Int} (hr:gR [x,y,z] n=true):ia n [x,y,z]=true↔aA ((af x).filter fun v=>decide (v∈af y))=0/\aA ((af x++af y).filter fun v=>decide (v∈af z))=0:=by
 have hx:Up x n:=kK (dN.1 hr x (by simp));have hy:Up y n:=kK (dN.1 hr y (by simp));have hz:Up z n:=kK (dN.1 hr z (by simp))
 have e:aA ((af x++af y).filter fun v=>decide (v∈af z))=0↔aA ((af x).filter fun v=>decide (v∈af z))=0/\aA ((af y).filter fun v=>decide (v∈af z))=0:=by
  simp only[Ig,vW,bL,not_or];exact⟨fun h=>⟨fun v=>(h v).1,fun v=>(h v).2⟩,fun h v=>⟨h.1 v,h.2 v⟩⟩
 rw[e, <- Tz hx hy, <- Tz hx hz, <- Tz hy hz,ia,hr,Ak,dQ];simp only[List.flatten_cons,List.flatten_nil,l8,ue,bL];constructor
 ·rintro⟨_,⟨_,_,h1⟩,h2⟩;exact⟨fun a ha b hb=>h2 a ha b (.inl hb),fun a ha b hb=>h2 a ha b (.inr hb),h1⟩
 ·rintro⟨h1,h2,h3⟩;exact⟨EW hx,⟨EW hy,EW hz,h3⟩,fun a ha b hb=>hb.elim (h1 a ha b) (h2 a ha b)⟩
theorem TJ (h:bh L=0) (h8:L.length<=8) (hs:∀v∈s,v<L.length) (u:Nat):Gh L u s=true↔u∈cZ (aG L) s L.length:=by
 rw[JP h h8 hs,Gh,Ai];exact⟨fun ⟨b,hb,h1⟩=>⟨b,hb,(acu h (hs b hb)).1 h1⟩,fun ⟨b,hb,h1⟩=>⟨b,hb,(acu h (hs b hb)).2 h1⟩⟩
theorem Xc {Z' An':Nat ->Prop} (hz:∀v,Z v↔Z' v) (ha:∀v,An v↔An' v) {c:Bool} (h:fF Pa X Z An v c):fF Pa X Z' An' v c:=by
 induction h using fF.ind with
 |start hx=>exact .start hx
 |up _ h1 h2 ih=>exact .up ih (fun e=>h1 ((hz _).2 e)) h2
 |down _ h1 h2 ih=>exact .down ih (fun e=>h1 ((hz _).2 e)) h2
 |meet _ h1 h2 ih=>exact .meet ih ((ha _).1 h1) h2
theorem Yf (h:bh L=0) (h8:L.length<=8) {x y z:List Int} (hap:ia L.length [x,y,z]=true):nR L x y z=true↔∃v c,v∈af y/\fF (fun u v=>u∈(aG L).getD v []) (·∈af x) (·∈af z) (·∈cZ (aG L) (af z) L.length) v c:=by
 have hr:gR [x,y,z] L.length=true:=by
  rw[ia,fD] at hap;exact hap.1
 have hx:Up x L.length:=kK (dN.1 hr x (by simp));have hz:Up z L.length:=kK (dN.1 hr z (by simp));have hzl:=ui hz;have hgb:=(xg h).1;have hm:=((Nx hr).1 hap).2;rw[Ig] at hm
 have aT:∀u v,u∈(aG L).getD v [] ->Gh L v (af z)=true ->Gh L u (af z)=true:=fun u v hu hv=>by
  rw[TJ h h8 hzl,JP h h8 hzl] at hv⊢;obtain⟨b,hb,h1⟩:=hv;rcases h1 with rfl |h1
  ·exact⟨v,hb,.inr (.one hu)⟩
  ·refine⟨b,hb,.inr ?_⟩;clear hb;induction h1 using dV.ind with
   |one hp=>exact .more (.one hu) hp
   |more _ hp ih=>exact .more ih hp
 have key:=agI (P:=aG L) (n:=L.length) (yb:=fun v=>decide (v∈af y)) (zb:=fun v=>decide (v∈af z)) (an:=fun v=>Gh L v (af z)) (X:=(·∈af x))
  (fun v hv=>cj fun hz'=>hm v (cJ.2 ⟨yj _ hv,bT hz'⟩)) (al4 h) aT (fun v u hu=>Fl hgb hu) (ui hx)
 rw[nR,Ai];refine Iff.trans key ⟨?_,?_⟩
 ·rintro⟨v,c,h1,h2⟩;exact⟨v,c,kY h1,Xc (fun v=>dQ) (fun v=>TJ h h8 hzl v) h2⟩
 ·rintro⟨v,c,h1,h2⟩;exact⟨v,c,bT h1,Xc (fun v=>dQ.symm) (fun v=>(TJ h h8 hzl v).symm) h2⟩
variable {W3:World}
theorem Vh (w:World):(zeroValue 169).run Tryz.prog w=.ok (.agg #[]) w:=by
 obtain⟨i0,bS,hz0,hz1,hz2⟩:=dK (show (Tryz.prog.info? 169).map (fun i=>(i.zero,i.size,i.bytes))=some (some (.agg #[]),0,0) by kernel_rfl);simp[zeroValue,typeInfo,bS,hz0]
structure sk (kl:Nat×Bool ->Lit) (W3:World) (b:Nat) (S W:List (Nat×Bool)) (D:DataW Unit) (wv:Value) (V:World):Prop where
 map:xZ kl V b S D
 row:sj V W3.heap.size wv W
 fr:W3.grownBy V (some b)
theorem sk.alloc {b:Nat} {S W:List (Nat×Bool)} {D:DataW Unit} (h:sk kl W3 b S W D wv V) (o:Obj):sk kl W3 b S W D wv (V.alloc o):=
 ⟨h.map.kept (World.grownBy_alloc V o none) (by simp),Co h.row o,by
  have hA:=(aw V.heap.size V).alloc (ak _) o;exact⟨hA.os.trans h.fr.os,hA.tape.trans h.fr.tape,hA.output.trans h.fr.output,aM h.fr.size hA.size,fun k hk hne=>(hA.block k (aR hk h.fr.size)).trans (h.fr.block k hk hne)⟩⟩
theorem sk.put (hk:∀p:Nat×Bool,p.1< 8 ->keyOf Tryz.prog 168 (yL p)=some (kl p)) {b:Nat} {S W:List (Nat×Bool)} {D:DataW Unit} (h:sk kl W3 b S W D wv V) (hb:b<W3.heap.size) {p:Nat×Bool} (hp:p.1<8) {d:DataW Unit} (ho:V'.ownsMap Tryz.prog 168 (unitElem (H:=Unit)) b (S.length+1) (D.put (kl p) d)) (hg:V.grownBy V' (some b)):sk kl W3 b (p::S) W (D.put (kl p) d) wv V':=by
 refine⟨h.map.put hk hp ho,KM h.row hg ?_,⟨hg.os.trans h.fr.os,hg.tape.trans h.fr.tape,hg.output.trans h.fr.output,aM h.fr.size hg.size,fun k fN hne=>(hg.block k (aR fN h.fr.size) hne).trans (h.fr.block k fN hne)⟩⟩;cases e:wv.ownBlock with
 |none=>exact .inl rfl
 |some g=>
  refine .inr fun e'=>?_;cases e';have:=XU h.row b e;omega
theorem sk.more {b:Nat} {S W W':List (Nat×Bool)} {D:DataW Unit} {v:Value} (h:sk kl W3 b S W D wv V) (hb:b<W3.heap.size) (hr:sj V' W3.heap.size v W') (hg:Cj V V' wv v):sk kl W3 b S W' D v V':=by
 have hne:∀k,k<W3.heap.size ->some k≠wv.ownBlock:=fun k hk e=>by
  have:=XU h.row k e.symm;omega
 exact⟨h.map.kept hg.1 (hne b hb),hr,⟨hg.1.os.trans h.fr.os,hg.1.tape.trans h.fr.tape,hg.1.output.trans h.fr.output,aM h.fr.size hg.1.size,fun k hk hn=>(hg.1.block k (aR hk h.fr.size) (hne k hk)).trans (h.fr.block k hk hn)⟩⟩
theorem sj.init {B:Nat} {d:Option Addr} {T:List (Nat×Bool)} {p:Nat×Bool} (h:sj w B (.slice d n c) (T++[p])):∃g,d=some ⟨g,0,none⟩/\n=T.length+1/\T.length<=c/\T.length+1<=c/\B<=g/\g<w.heap.size/\w.cell? ⟨g,T.length*2,none⟩=some (.int .i64 (p.1:Nat))/\w.cell? ⟨g,T.length*2+1,none⟩=some (.bool p.2)/\sj w B (.slice (some ⟨g,0,none⟩) T.length c) T:=by
 have hl:(T++[p]).length=T.length+1:=by simp
 have hcl:=Tl T;rcases h.2 with ⟨h1,h2⟩ |⟨g,cap,cur,h1,h2,h3,h4,h5,h6,h7⟩
 ·rw[hl] at h2;omega
 ·injection h1 with e1 e2 e3;subst e1;subst e3;rw[hl] at h4 h7 e2;rw[Tm] at h7
  have aaC:∀j u,(pU T++pU [p])[j]? =some u ->w.cell? ⟨g,j,none⟩=some u:=fun j u hj=>by
   rw[bE w g j _ _ (0,0) h3]
   have:j<(T.length+1)*2:=by
    have:=(nG.1 hj).1;rw[bM,hcl] at this;simp[pU] at this;omega
   rw[<- h7,rB,aB this,vY] at hj;exact hj
  refine⟨g,rfl,e2,by omega,h4,h2,(cV.1 h3).1,aaC _ _ ?_,aaC _ _ ?_,Tl T,.inr ⟨g,c,cur,rfl,h2,h3,by omega,h5,h6,?_⟩⟩
  ·rw[ER (by omega),hcl,nD];rfl
  ·rw[ER (by omega),hcl,show T.length*2+1 - T.length*2=1 by omega];rfl
  ·have:=dt (List.take (T.length*2)) h7;rw[List.take_take,show min (T.length*2) ((T.length+1)*2)=T.length*2 by omega] at this;rw[this, <- hcl,List.take_left]
variable {A:Nat}
theorem MX {row:Option Nat} {v c:Value} {t:TypeId} (h:V.heap[A]? =some (.cells #[v,c] t (0,0))) (hg:V.grownBy V' row) (hne:some A≠row):V'.heap[A]? =some (.cells #[v,c] t (0,0)):=(hg.block A (cV.1 h).1 hne).trans h
theorem Ns {v c:Value} {t:TypeId} (h:V.heap[A]? =some (.cells #[v,c] t (0,0))):V.cell? ⟨A,0,none⟩=some v/\V.cell? ⟨A,1,none⟩=some c:=
 ⟨by rw[bE V A 0 _ _ (0,0) h];rfl,by rw[bE V A 1 _ _ (0,0) h];rfl⟩
theorem sj.shape {B:Nat} {v:Value} {l:List (Nat×Bool)} (h:sj w B v l):∃d c,v=.slice d l.length c:=by
 rcases h.2 with ⟨h1,h2⟩ |⟨g,cap,cur,h1,_⟩
 ·exact⟨none,0,by rw[h1,h2]⟩
 ·exact⟨_,cap,h1⟩
theorem aim (G n cG:Nat) (P:List (List Nat)) (x y z:List Nat) (w:World) (hn:P.length=n) (h8:n<=8) (hU:bW w G (P.map aA)) (hP:∀v,∀u∈P.getD v [],u<n/\v<n) (Sn:∀p∈P,∀u∈p,u<n) (hx:∀u∈x,u<n) (hy:∀u∈y,u<n) (hz:∀u∈z,u<n):
  Calls Tryz.prog 74 #[.slice (some ⟨G,0,none⟩) n cG,.int .u32 (aA x:Nat),.int .u32 (aA y:Nat),.int .u32 (aA z:Nat)] w fun e w'=>∃q,e=.returned (.bool q)/\(q=true↔∃v c,v∈y/\fF (fun u v=>u∈P.getD v []) (·∈x) (·∈z) (·∈cZ P z n) v c)/\Below w.heap.size w w':=by
 obtain⟨kl,eD⟩:=aif;have HKL:=hid eD;have GU:=hid (abW G n cG P w hn h8 hU Sn);have tV:=hid (fun (U:World) (hb:Below w.heap.size w U)=>acr G n cG P z U hn h8 (hU.aa hb hU.lt) Sn hz);have s8:∀ {s:List Nat},(∀u∈s,u<n) ->∀u∈s,u<8:=fun h u hu=>by have:=h u hu;omega
 have hab:∀u∈cZ P z n,u<n:=Gg (fun v u hu=>(hP v u hu).1) hz n;have HYH:=hid (fun (v:Nat) (U:World) (hv:v<8)=>Fe y v U (s8 hy) hv);have BM:=hid (fun (v:Nat) (U:World) (hv:v<8)=>Fe z v U (s8 hz) hv);have N9:=hid (fun (v:Nat) (U:World) (hv:v<8)=>Fe (cZ P z n) v U (s8 hab) hv);have HCX:=hid (fun (B:Nat) (U:World) (hB:B<=U.heap.size)=>Th B (.slice none 0 0) [] x true U (s8 hx) ⟨rfl,.inl ⟨rfl,rfl⟩⟩ (by simp) hB);have HCU:Hid (∀(v:Nat),v< n ->∀(B:Nat) (lv:Value) (l:List (Nat×Bool)) (U:World),sj U B lv l ->l.length<=1000 ->B<=U.heap.size ->Calls Tryz.prog 128 #[lv,.int .u32 (aA (P.getD v []):Nat),.bool true] U fun e w'=>∃v',e=.returned v'/\sj w' B v' (l++(bw (P.getD v []) 8).map fun u=>(u,true))/\Cj U w' lv v'):=fun v _ B lv l U h1 h2 h3=>Th B lv l (P.getD v []) true U (s8 fun u hu=>(hP v u hu).1) h1 h2 h3;have HCD:Hid (∀(v:Nat),v< n ->∀(B:Nat) (lv:Value) (l:List (Nat×Bool)) (U:World),sj U B lv l ->l.length<=1000 ->B<=U.heap.size ->Calls Tryz.prog 128 #[lv,.int .u32 (aA (dH P v n):Nat),.bool false] U fun e w'=>∃v',e=.returned v'/\sj w' B v' (l++(bw (dH P v n) 8).map fun u=>(u,false))/\Cj U w' lv v'):=fun v _ B lv l U h1 h2 h3=>Th B lv l (dH P v n) false U (s8 fun u hu=>(BF.1 hu).1) h1 h2 h3
 have HUC:Hid (∀(U:World),Below w.heap.size w U ->∀v,v< n ->U.cell? ⟨G,v,none⟩=some (.int .u32 (aA (P.getD v []):Nat))):=fun U hb v hv=>by
  have:=(hU.aa hb hU.lt).cell v (by rw[cH,hn];exact hv);rw[this,AD (by rw[hn];exact hv)]
 have HDC:Hid (∀(U:World) (g:Nat),bW U g ((ju P n n).map aA) ->∀v,v< n ->U.cell? ⟨g,v,none⟩=some (.int .u32 (aA (dH P v n):Nat))):=fun U g h v hv=>by
  have:=h.cell v (by rw[cH,Tp];exact hv);rw[this];simp[ju]
 have acQ:=hid (ou.new (P:=P) (n:=n) (y:=y) (z:=z) (an:=cZ P z n) hx h8);have zV:=hid (fun (S T:List (Nat×Bool)) (p:Nat×Bool) (h:ou P n x y z (cZ P z n) S (T++[p])) (h1:¬p∈S) (h2:¬p.1∈y)=>h.add hP h1 h2);have Kw:=hid (fun (S:List (Nat×Bool)) (h:ou P n x y z (cZ P z n) S [])=>h.fin hP h8);have Ey:=hid (fun (S T:List (Nat×Bool)) (h:ou P n x y z (cZ P z n) S T)=>h.few h8);have BW:Hid (∀p:Nat×Bool,Ar P n z (cZ P z n) p=(if (p.2&&!decide (p.1∈z) ||!p.2&&decide (p.1∈cZ P z n))=true then(bw (P.getD p.1 []) 8).map fun u=>(u,true) else[])++(if p.1∈z then[] else(bw (dH P p.1 n) 8).map fun u=>(u,false))):=fun p=>rfl;clear hU hP Sn hx hy hz hab s8 eD hn;generalize aA (cZ P z n)=ma at *;have hmm:= @run_makeMap Tryz.prog;go_enter Tryz.func74,Tryz.ntmps74;go_wp2_with fail
 go_step3
 go_wp2_with fail
 refine GU.o.ae ?_;rintro e w1 ⟨rfl,hr1,hb1⟩;have ac2:=hid (tV.o w1 hb1);have cP:=hid hb1;have nj:=hid hr1;clear hb1 hr1 GU tV;go_wp2_with fail
 refine ac2.o.ae ?_;rintro e w2 ⟨rfl,hb2⟩;have bq:=hid (cP.o.trans (hb2.ae cP.o.size));have fW:=hid (nj.o.aa hb2 nj.o.lt);clear hb2 ac2 cP nj;have hA:=(aw w2.heap.size w2).alloc (ak _) (.map #[] 0);have hs3:(w2.alloc (.map #[] 0)).heap.size=w2.heap.size+1:=by simp
 have fA:=hid (bq.o.trans (hA.ae bq.o.size));have lR:=hid (fW.o.aa hA fW.o.lt);have Kr:=hid (xZ.new kl w2);have acT:=hid (HCX.o (w2.heap.size+1) (w2.alloc (.map #[] 0)) (by rw[hs3];exact ak _));have hw2:w.heap.size<=w2.heap.size:=bq.o.size;clear hA HCX bq;go_wp2_with fail
 refine acT.o.ae ?_;rintro e w4 ⟨wv0,rfl,Rh,hg4⟩;rw[gi] at Rh
 have sA:Hid (sk kl (w2.alloc (.map #[] 0)) w2.heap.size [] ((bw x 8).map fun u=>(u,true)) (.map []) wv0 w4):=
  (sk.mk (W:=[]) (wv:=.slice none 0 0) Kr.o ⟨rfl,.inl ⟨rfl,rfl⟩⟩ (World.grownBy.refl _ _)).more (by rw[hs3];omega) (by rw[hs3];exact Rh) hg4
 clear Rh hg4 acT Kr;go_wp2_with fail
 go_step3
 go_wp2_with fail
 go_loopg [12] 2000 (fun k wv wr=>∃(S W:List (Nat×Bool)) (D:DataW Unit) (d:Option Addr) (c:Nat),wv=.slice d W.length c/\Hid (ou P n x y z (cZ P z n) S W)/\Hid (sk kl (w2.alloc (.map #[] 0)) w2.heap.size S W D (.slice d W.length c) wr)/\(16 - S.length)*100+W.length<=k)
 case atStart=>
  obtain⟨d0,c0,rfl⟩:=sA.o.row.shape;refine⟨[],_,_,d0,c0,rfl,acQ,sA,?_⟩;have:=jL x 8;simp;omega
 case round=>
  obtain⟨S,W,D,d,c,rfl,HS,Cc,RD⟩:=hrel;clear sA acQ
  have am5:w2.heap.size+1<=wr.heap.size:=by
   have:=Cc.o.fr.size;rw[hs3] at this;exact this
  have tT:Hid (Below w.heap.size w wr):=fA.o.grown Cc.o.fr (by rw[hs3];omega) (fun k e=>by cases e;exact hw2);have hSl:=Ey.o S W HS.o;have MG:=HS.o.len;rcases List.eq_nil_or_concat W with rfl |⟨T,p,rfl⟩
  ·go_wp2;rw[Exit.noGoto_ret];go_ret;exact⟨false,rfl,⟨(fun e=>by cases e),fun e=>absurd e (Kw.o S HS.o)⟩,tT.o⟩
  ·rw[List.concat_eq_append] at HS Cc RD MG⊢;obtain⟨g,rfl,hn',hTc,anF,hBg,mC,kc1,kc2,hT⟩:=Cc.o.row.init;obtain⟨pv,pc⟩:=p;have HT:=hid hT;clear hT hn';(have hlen:(T++[(pv,pc)]).length=T.length+1:=by simp);rw[hlen] at Cc RD MG⊢;(have Si:T.length<=300:=by omega);clear hlen MG;have hpl:=HS.o.low (pv,pc) (.inr (Cv _ c5));have kN:pv<n:=hpl.1;have HRC:=hid hpl.2;have hkey:keyOf Tryz.prog 168 (.agg #[.int .i64 (pv:Nat),.bool pc])=some (kl (pv,pc)):=HKL.o (pv,pc) (by show pv<8;omega);have HMT:Hid (sk kl (w2.alloc (.map #[] 0)) w2.heap.size S T D (.slice (some ⟨g,0,none⟩) T.length c) wr):=⟨Cc.o.map,HT.o,Cc.o.fr⟩;have jW:=hid (HMT.o.alloc (.cells #[.int .i64 (pv:Nat),.bool pc] 168));have UB:=hid (jW.o.alloc (.cells #[] 169));have aaG:=fP wr (.cells #[.int .i64 (pv:Nat),.bool pc] 168);(have yP:(wr.alloc (.cells #[.int .i64 (pv:Nat),.bool pc] 168)).heap.size=wr.heap.size+1:=by simp)
   have bB:((wr.alloc (.cells #[.int .i64 (pv:Nat),.bool pc] 168)).alloc (.cells #[] 169)).heap[wr.heap.size]? =some (.cells #[.int .i64 (pv:Nat),.bool pc] 168 (0,0)):=by
    rw[qg _ _ _ (by rw[yP];omega)];exact aaG
   have qd:=hid bB;clear hpl aaG bB yP Cc HT HMT;by_cases hin:(pv,pc)∈S
   ·have hhas:Maps.has D (kl (pv,pc))=true:=by rw[jW.o.map.has (pv,pc) (by show pv<8;omega),bT hin]
    have qY:=hid (HS.o.skip hin);clear hin
    go_wp2_with (first
     |(at_lookup;refine wpList_lookup_own_unit _ rfl _ _ 164 rfl 168 169 Il Tryz.underlying164 (Vh _) w2.heap.size S.length D rfl jW.o.map.own _ _ rfl hkey ?_))
    go_roundg ((16 - S.length)*100+T.length)
    case measure=>omega
    case rel=>exact⟨S,T,D,_,c,rfl,qY,UB,ak _⟩
   ·have hhas:Maps.has D (kl (pv,pc))=false:=by rw[jW.o.map.has (pv,pc) (by show pv<8;omega),cj hin]
    have xQ:=hid hin;clear hin
    go_wp2_with (first
     |(at_lookup;refine wpList_lookup_own_unit _ rfl _ _ 164 rfl 168 169 Il Tryz.underlying164 (Vh _) w2.heap.size S.length D rfl jW.o.map.own _ _ rfl hkey ?_)
     |(at_mapUpdate;refine wpList_mapUpdate_own _ rfl _ _ _ 164 rfl 168 169 Il Tryz.underlying164 (unitElem (H:=Unit)) w2.heap.size S.length D rfl UB.o.map.own (by unfold maxLen;omega) _ _ _ rfl rfl hkey _ [] unitElem_mk ?_;intro w5 Mq I3;have jC:=hid (UB.o.put HKL.o (by rw[hs3];omega) (p:=(pv,pc)) (by show pv<8;omega) Mq I3);have KB:=hid (MX qd.o I3 (by intro e;injection e with e;omega));obtain⟨QG,QF⟩:=Ns KB.o;clear Mq I3))
    have hs5:wr.heap.size+1<=w5.heap.size:=by
     have:=(cV.1 KB.o).1;omega
    have fG:Hid (Below w.heap.size w w5):=fA.o.grown jC.o.fr (by rw[hs3];omega) (fun k e=>by cases e;exact hw2);refine(HYH.o pv w5 (by omega)).ae ?_;rintro e wq ⟨rfl,dS⟩;rw[dS];clear dS wq;by_cases hy:pv∈y
    ·rw[bT hy];have HYY:=hid hy;clear hy;go_wp2;rw[Exit.noGoto_ret];go_ret;exact⟨true,rfl,⟨fun _=>⟨pv,pc,HYY.o,HRC.o⟩,fun _=>rfl⟩,fG.o⟩
    ·rw[cj hy];have GI:=hid hy;have vG:=hid (HUC.o w5 fG.o pv kN);have UH:Hid (∀U:World,(w2.alloc (.map #[] 0)).grownBy U (some w2.heap.size) ->U.cell? ⟨w.heap.size,pv,none⟩=some (.int .u32 (aA (dH P pv n):Nat))):=fun U hU=>HDC.o U w.heap.size ((hU.block w.heap.size lR.o.lt (by intro e;injection e with e;have:=fW.o.lt;omega)).trans lR.o) pv kN;have U4:=hid (HCU.o pv kN);have U7:=hid (HCD.o pv kN);clear hy HYH HUC HDC HCU HCD;generalize aA (P.getD pv [])=mu at *;generalize aA (dH P pv n)=md at *;cases pc with
     |true=>
      by_cases hz:pv∈z
      ·go_wp2_with fail
       refine(BM.o pv w5 (by omega)).ae ?_;rintro e wq ⟨rfl,dS⟩;rw[dS,bT hz];clear dS wq;go_wp2_with fail
       refine(BM.o pv w5 (by omega)).ae ?_;rintro e wq ⟨rfl,dS⟩;rw[dS,bT hz];clear dS wq;go_wp2;have dB:=hid (zV.o S T (pv,true) HS.o xQ.o GI.o);rw[BW.o] at dB;have hfw:=Ey.o _ _ dB.o;(have e1:(if ((pv,true).2&&!decide ((pv,true).1∈z) ||!(pv,true).2&&decide ((pv,true).1∈cZ P z n))=true then(bw (P.getD (pv,true).1 []) 8).map (fun u=>(u,true)) else[])=([]:List (Nat×Bool)):=by simp[hz]);(have e2:(if (pv,true).1∈z then[] else(bw (dH P (pv,true).1 n) 8).map (fun u=>(u,false)))=([]:List (Nat×Bool)):=by simp[hz]);rw[e1,e2] at dB;rw[l8] at dB;rw[l8] at dB;have hm1:=jL (P.getD pv []) 8;have a7:=jL (dH P pv n) 8;skip
       skip
       have yY:T.length<=T.length+16:=by
        skip
        skip
        (try simp only[bM,cH])
        omega
       rw[di] at hfw;go_roundg ((16 - (S.length+1))*100+T.length)
       case measure=>omega
       case rel=>exact⟨_,_,_,_,_,rfl,dB,jC,ak _⟩
      ·go_wp2_with fail
       refine(BM.o pv w5 (by omega)).ae ?_;rintro e wq ⟨rfl,dS⟩;rw[dS,cj hz];clear dS wq;have IU:=vG.o;go_wp2_with fail
       refine(U4.o _ _ T w5 jC.o.row (by omega) (by rw[hs3];omega)).ae ?_;rintro e w7 ⟨v7,rfl,AY,mX⟩;have lU:=hid (jC.o.more (by rw[hs3];omega) AY mX);have zT:=hid (MX KB.o mX.1 (fun e=>by have e':wr.heap.size=g:=k7 e;omega));have BX:=hid (aM hs5 mX.1.size);have Mm:wr.heap.size+1<=w7.heap.size:=BX.o
       have xO:Hid ((T++(bw (P.getD pv []) 8).map fun u=>(u,true)).length<=400):=by
        have:=jL (P.getD pv []) 8;show _<=_;rw[bM,cH];omega
       obtain⟨Zr,Zq⟩:=Ns zT.o;clear QG QF AY mX IU;obtain⟨W7,uL⟩:∃W7,T++(bw (P.getD pv []) 8).map (fun u=>(u,true))=W7:=⟨_,rfl⟩;rw[uL] at lU xO;have BR:=hid uL;have Rt:W7.length<=400:=xO.o;clear uL;obtain⟨d7,c7,rfl⟩:=lU.o.row.shape;go_wp2_with fail
       refine(BM.o pv w7 (by omega)).ae ?_;rintro e wq ⟨rfl,dS⟩;rw[dS,cj hz];clear dS wq;have IW:=UH.o w7 lU.o.fr;go_wp2_with fail
       refine(U7.o _ _ W7 w7 lU.o.row (by have:=xO.o;omega) (by rw[hs3];omega)).ae ?_;rintro e w8 ⟨v8,rfl,AX,A8⟩;have lT:=hid (lU.o.more (by rw[hs3];omega) AX A8);clear AX A8 IW;obtain⟨W8,pP⟩:∃W8,W7++(bw (dH P pv n) 8).map (fun u=>(u,false))=W8:=⟨_,rfl⟩;rw[pP] at lT;have BQ:=hid pP;clear pP;obtain⟨d8,c8,rfl⟩:=lT.o.row.shape;go_wp2;have dB:=hid (zV.o S T (pv,true) HS.o xQ.o GI.o);rw[BW.o] at dB;have hfw:=Ey.o _ _ dB.o;(have e1:(if ((pv,true).2&&!decide ((pv,true).1∈z) ||!(pv,true).2&&decide ((pv,true).1∈cZ P z n))=true then(bw (P.getD (pv,true).1 []) 8).map (fun u=>(u,true)) else[])=(bw (P.getD pv []) 8).map (fun u=>(u,true)):=by simp[hz]);(have e2:(if (pv,true).1∈z then[] else(bw (dH P (pv,true).1 n) 8).map (fun u=>(u,false)))=(bw (dH P pv n) 8).map (fun u=>(u,false)):=by simp[hz]);rw[e1,e2] at dB;rw[<- jh] at dB;have hm1:=jL (P.getD pv []) 8;have a7:=jL (dH P pv n) 8;rw[BR.o] at dB;rw[BQ.o] at dB
       have yY:W8.length<=T.length+16:=by
        rw[<- BQ.o];rw[<- BR.o];(try simp only[bM,cH])
        omega
       rw[di] at hfw;go_roundg ((16 - (S.length+1))*100+W8.length)
       case measure=>omega
       case rel=>exact⟨_,_,_,_,_,rfl,dB,lT,ak _⟩
     |false=>
      by_cases ha:pv∈cZ P z n
      ·by_cases hz:pv∈z
       ·go_wp2_with fail
        refine(N9.o pv w5 (by omega)).ae ?_;rintro e wq ⟨rfl,dS⟩;rw[dS,bT ha];clear dS wq;have IU:=vG.o;go_wp2_with fail
        refine(U4.o _ _ T w5 jC.o.row (by omega) (by rw[hs3];omega)).ae ?_;rintro e w7 ⟨v7,rfl,AY,mX⟩;have lU:=hid (jC.o.more (by rw[hs3];omega) AY mX);have zT:=hid (MX KB.o mX.1 (fun e=>by have e':wr.heap.size=g:=k7 e;omega));have BX:=hid (aM hs5 mX.1.size);have Mm:wr.heap.size+1<=w7.heap.size:=BX.o
        have xO:Hid ((T++(bw (P.getD pv []) 8).map fun u=>(u,true)).length<=400):=by
         have:=jL (P.getD pv []) 8;show _<=_;rw[bM,cH];omega
        obtain⟨Zr,Zq⟩:=Ns zT.o;clear QG QF AY mX IU;obtain⟨W7,uL⟩:∃W7,T++(bw (P.getD pv []) 8).map (fun u=>(u,true))=W7:=⟨_,rfl⟩;rw[uL] at lU xO;have BR:=hid uL;have Rt:W7.length<=400:=xO.o;clear uL;obtain⟨d7,c7,rfl⟩:=lU.o.row.shape;go_wp2_with fail
        refine(BM.o pv w7 (by omega)).ae ?_;rintro e wq ⟨rfl,dS⟩;rw[dS,bT hz];clear dS wq;go_wp2;have dB:=hid (zV.o S T (pv,false) HS.o xQ.o GI.o);rw[BW.o] at dB;have hfw:=Ey.o _ _ dB.o;(have e1:(if ((pv,false).2&&!decide ((pv,false).1∈z) ||!(pv,false).2&&decide ((pv,false).1∈cZ P z n))=true then(bw (P.getD (pv,false).1 []) 8).map (fun u=>(u,true)) else[])=(bw (P.getD pv []) 8).map (fun u=>(u,true)):=by simp[ha]);(have e2:(if (pv,false).1∈z then[] else(bw (dH P (pv,false).1 n) 8).map (fun u=>(u,false)))=([]:List (Nat×Bool)):=by simp[hz]);rw[e1,e2] at dB;rw[l8] at dB;have hm1:=jL (P.getD pv []) 8;have a7:=jL (dH P pv n) 8;rw[BR.o] at dB;skip
        have yY:W7.length<=T.length+16:=by
         skip
         rw[<- BR.o];(try simp only[bM,cH])
         omega
        rw[di] at hfw;go_roundg ((16 - (S.length+1))*100+W7.length)
        case measure=>omega
        case rel=>exact⟨_,_,_,_,_,rfl,dB,lU,ak _⟩
       ·go_wp2_with fail
        refine(N9.o pv w5 (by omega)).ae ?_;rintro e wq ⟨rfl,dS⟩;rw[dS,bT ha];clear dS wq;have IU:=vG.o;go_wp2_with fail
        refine(U4.o _ _ T w5 jC.o.row (by omega) (by rw[hs3];omega)).ae ?_;rintro e w7 ⟨v7,rfl,AY,mX⟩;have lU:=hid (jC.o.more (by rw[hs3];omega) AY mX);have zT:=hid (MX KB.o mX.1 (fun e=>by have e':wr.heap.size=g:=k7 e;omega));have BX:=hid (aM hs5 mX.1.size);have Mm:wr.heap.size+1<=w7.heap.size:=BX.o
        have xO:Hid ((T++(bw (P.getD pv []) 8).map fun u=>(u,true)).length<=400):=by
         have:=jL (P.getD pv []) 8;show _<=_;rw[bM,cH];omega
        obtain⟨Zr,Zq⟩:=Ns zT.o;clear QG QF AY mX IU;obtain⟨W7,uL⟩:∃W7,T++(bw (P.getD pv []) 8).map (fun u=>(u,true))=W7:=⟨_,rfl⟩;rw[uL] at lU xO;have BR:=hid uL;have Rt:W7.length<=400:=xO.o;clear uL;obtain⟨d7,c7,rfl⟩:=lU.o.row.shape;go_wp2_with fail
        refine(BM.o pv w7 (by omega)).ae ?_;rintro e wq ⟨rfl,dS⟩;rw[dS,cj hz];clear dS wq;have IW:=UH.o w7 lU.o.fr;go_wp2_with fail
        refine(U7.o _ _ W7 w7 lU.o.row (by have:=xO.o;omega) (by rw[hs3];omega)).ae ?_;rintro e w8 ⟨v8,rfl,AX,A8⟩;have lT:=hid (lU.o.more (by rw[hs3];omega) AX A8);clear AX A8 IW;obtain⟨W8,pP⟩:∃W8,W7++(bw (dH P pv n) 8).map (fun u=>(u,false))=W8:=⟨_,rfl⟩;rw[pP] at lT;have BQ:=hid pP;clear pP;obtain⟨d8,c8,rfl⟩:=lT.o.row.shape;go_wp2;have dB:=hid (zV.o S T (pv,false) HS.o xQ.o GI.o);rw[BW.o] at dB;have hfw:=Ey.o _ _ dB.o;(have e1:(if ((pv,false).2&&!decide ((pv,false).1∈z) ||!(pv,false).2&&decide ((pv,false).1∈cZ P z n))=true then(bw (P.getD (pv,false).1 []) 8).map (fun u=>(u,true)) else[])=(bw (P.getD pv []) 8).map (fun u=>(u,true)):=by simp[ha]);(have e2:(if (pv,false).1∈z then[] else(bw (dH P (pv,false).1 n) 8).map (fun u=>(u,false)))=(bw (dH P pv n) 8).map (fun u=>(u,false)):=by simp[hz]);rw[e1,e2] at dB;rw[<- jh] at dB;have hm1:=jL (P.getD pv []) 8;have a7:=jL (dH P pv n) 8;rw[BR.o] at dB;rw[BQ.o] at dB
        have yY:W8.length<=T.length+16:=by
         rw[<- BQ.o];rw[<- BR.o];(try simp only[bM,cH])
         omega
        rw[di] at hfw;go_roundg ((16 - (S.length+1))*100+W8.length)
        case measure=>omega
        case rel=>exact⟨_,_,_,_,_,rfl,dB,lT,ak _⟩
      ·by_cases hz:pv∈z
       ·go_wp2_with fail
        refine(N9.o pv w5 (by omega)).ae ?_;rintro e wq ⟨rfl,dS⟩;rw[dS,cj ha];clear dS wq;go_wp2_with fail
        refine(BM.o pv w5 (by omega)).ae ?_;rintro e wq ⟨rfl,dS⟩;rw[dS,bT hz];clear dS wq;go_wp2;have dB:=hid (zV.o S T (pv,false) HS.o xQ.o GI.o);rw[BW.o] at dB;have hfw:=Ey.o _ _ dB.o;(have e1:(if ((pv,false).2&&!decide ((pv,false).1∈z) ||!(pv,false).2&&decide ((pv,false).1∈cZ P z n))=true then(bw (P.getD (pv,false).1 []) 8).map (fun u=>(u,true)) else[])=([]:List (Nat×Bool)):=by simp[ha]);(have e2:(if (pv,false).1∈z then[] else(bw (dH P (pv,false).1 n) 8).map (fun u=>(u,false)))=([]:List (Nat×Bool)):=by simp[hz]);rw[e1,e2] at dB;rw[l8] at dB;rw[l8] at dB;have hm1:=jL (P.getD pv []) 8;have a7:=jL (dH P pv n) 8;skip
        skip
        have yY:T.length<=T.length+16:=by
         skip
         skip
         (try simp only[bM,cH])
         omega
        rw[di] at hfw;go_roundg ((16 - (S.length+1))*100+T.length)
        case measure=>omega
        case rel=>exact⟨_,_,_,_,_,rfl,dB,jC,ak _⟩
       ·go_wp2_with fail
        refine(N9.o pv w5 (by omega)).ae ?_;rintro e wq ⟨rfl,dS⟩;rw[dS,cj ha];clear dS wq;go_wp2_with fail
        refine(BM.o pv w5 (by omega)).ae ?_;rintro e wq ⟨rfl,dS⟩;rw[dS,cj hz];clear dS wq;have IW:=UH.o w5 jC.o.fr;go_wp2_with fail
        refine(U7.o _ _ T w5 jC.o.row (by omega) (by rw[hs3];omega)).ae ?_;rintro e w8 ⟨v8,rfl,AX,A8⟩;have lT:=hid (jC.o.more (by rw[hs3];omega) AX A8);clear AX A8 IW;obtain⟨W8,pP⟩:∃W8,T++(bw (dH P pv n) 8).map (fun u=>(u,false))=W8:=⟨_,rfl⟩;rw[pP] at lT;have BQ:=hid pP;clear pP;obtain⟨d8,c8,rfl⟩:=lT.o.row.shape;go_wp2;have dB:=hid (zV.o S T (pv,false) HS.o xQ.o GI.o);rw[BW.o] at dB;have hfw:=Ey.o _ _ dB.o;(have e1:(if ((pv,false).2&&!decide ((pv,false).1∈z) ||!(pv,false).2&&decide ((pv,false).1∈cZ P z n))=true then(bw (P.getD (pv,false).1 []) 8).map (fun u=>(u,true)) else[])=([]:List (Nat×Bool)):=by simp[ha]);(have e2:(if (pv,false).1∈z then[] else(bw (dH P (pv,false).1 n) 8).map (fun u=>(u,false)))=(bw (dH P pv n) 8).map (fun u=>(u,false)):=by simp[hz]);rw[e1,e2] at dB;rw[gi] at dB;have hm1:=jL (P.getD pv []) 8;have a7:=jL (dH P pv n) 8;skip
        rw[BQ.o] at dB
        have yY:W8.length<=T.length+16:=by
         rw[<- BQ.o];skip
         (try simp only[bM,cH])
         omega
        rw[di] at hfw;go_roundg ((16 - (S.length+1))*100+W8.length)
        case measure=>omega
        case rel=>exact⟨_,_,_,_,_,rfl,dB,lT,ak _⟩
variable {U:World}
def ApR (L:List (List Int)) (x y z:List Int) (e:Ending):Prop:=
 (bh L≠0/\e=.returned (.tuple #[.bool false,.int .i64 (bh L)]))∨(bh L=0/\ia L.length [x,y,z]=false/\e=.returned (.tuple #[.bool false,.int .i64 11]))∨
 (bh L=0/\ia L.length [x,y,z]=true/\e=.returned (.tuple #[.bool (!nR L x y z),.int .i64 0]))
theorem VU {bx kS bz:Option Addr} {cx cy cz:Nat} {x y z:List Int} (hx:aC U bx x) (hy:aC U kS y) (hz:aC U bz z):dT (U.alloc (.cells #[.slice bx x.length cx,.slice kS y.length cy,.slice bz z.length cz] 27)) (some ⟨U.heap.size,0,none⟩) [x,y,z]:=fun k hk=>by
 have hA:=(aw U.heap.size U).alloc (ak _) (.cells #[.slice bx x.length cx,.slice kS y.length cy,.slice bz z.length cz] 27);have hnew:=fP U (.cells #[.slice bx x.length cx,.slice kS y.length cy,.slice bz z.length cz] 27);have hlt:=(cV.1 hnew).1;match k,hk with
 |0,_=>exact⟨_,0,bx,cx,rfl,hlt,by rw[bE _ U.heap.size _ _ _ (0,0) hnew];rfl,hx.aa hA⟩
 |1,_=>exact⟨_,0,kS,cy,rfl,hlt,by rw[bE _ U.heap.size _ _ _ (0,0) hnew];rfl,hy.aa hA⟩
 |2,_=>exact⟨_,0,bz,cz,rfl,hlt,by rw[bE _ U.heap.size _ _ _ (0,0) hnew];rfl,hz.aa hA⟩
theorem ajY (a bx kS bz:Option Addr) (ca cx cy cz:Nat) (L:List (List Int)) (x y z:List Int) (w:World) (h:dT w a L) (hl:∀l∈L,l.length<=140737488355328) (hx:aC w bx x) (hy:aC w kS y) (hz:aC w bz z) (QQ:x.length<=140737488355328) (QN:y.length<=140737488355328) (hzl:z.length<=140737488355328):
  Calls Tryz.prog 30 #[.slice a L.length ca,.slice bx x.length cx,.slice kS y.length cy,.slice bz z.length cz] w fun e w'=>Below w.heap.size w w'/\ApR L x y z e:=by
 have HR:=hid (M4 a ca L w h hl);have ow:Hid (∀U:World,Below w.heap.size w U ->dT (U.alloc (.cells #[.slice bx x.length cx,.slice kS y.length cy,.slice bz z.length cz] 27)) (some ⟨U.heap.size,0,none⟩) [x,y,z]):=fun U hU=>VU (hx.aa hU) (hy.aa hU) (hz.aa hU)
 have qX:Hid (bh L=0 ->∀(G:Nat) (U:World),dT U (some ⟨G,0,none⟩) [x,y,z] ->Calls Tryz.prog 73 #[.slice (some ⟨G,0,none⟩) 3 3,.int .i64 (L.length:Nat)] U fun e w'=>Below U.heap.size U w'/\
   ((gR [x,y,z] L.length=true/\∃G,e=.returned (.tuple #[.slice (some ⟨G,0,none⟩) 3 3,.bool true])/\U.heap.size<=G/\bW w' G (gM [x,y,z]))∨(gR [x,y,z] L.length=false/\e=.returned (.tuple #[.slice none 0 0,.bool false])))):=fun hg G U hU=>WM (some ⟨G,0,none⟩) 3 L.length [x,y,z] U hU (by simp) (ng (xg hg).1).2.1 (fun l hl'=>by
  simp only[cT,iT,oC] at hl';rcases hl' with rfl |rfl |rfl<;>assumption)
 have aT:gR [x,y,z] L.length=true ->Up x L.length/\Up y L.length/\Up z L.length:=fun hr=>⟨kK (dN.1 hr x (by simp)),kK (dN.1 hr y (by simp)),kK (dN.1 hr z (by simp))⟩
 have Eo:Hid (bh L=0 ->gR [x,y,z] L.length=true ->∀(G c:Nat) (U:World),bW U G (gM L) ->Calls Tryz.prog 74 #[.slice (some ⟨G,0,none⟩) L.length c,.int .u32 (aA (af x):Nat),.int .u32 (aA (af y):Nat),.int .u32 (aA (af z):Nat)] U fun e w'=>∃q,e=.returned (.bool q)/\(ia L.length [x,y,z]=true ->q=nR L x y z)/\Below U.heap.size U w'):=fun hg hr G c U hU=>by
  have hgb:=(xg hg).1;have h8:=(ng hgb).2.1;obtain⟨h1,h2,h3⟩:=aT hr;rw[CQ] at hU;refine(aim G L.length c (aG L) (af x) (af y) (af z) U (iX L) h8 hU (fun v u hu=>Fl hgb hu) (Fk hgb) (ui h1) (ui h2) (ui h3)).ae ?_;rintro e w' ⟨q,rfl,hq,hb⟩;exact⟨q,rfl,fun hap=>ug.2 (hq.trans (Yf hg h8 hap).symm),hb⟩
 have Er:Hid (gR [x,y,z] L.length=true ->(ia L.length [x,y,z]=true↔aA ((af x).filter fun v=>decide (v∈af y))=0/\aA ((af x++af y).filter fun v=>decide (v∈af z))=0)):=Nx;have Ep:Hid (gR [x,y,z] L.length=false ->ia L.length [x,y,z]=false):=fun hr=>by rw[ia,hr];rfl
 have Oy:Hid (bh L=0 ->gR [x,y,z] L.length=true ->bits BinOp.and IntKind.u32 (aA (af x):Nat) (aA (af y):Nat)=((aA ((af x).filter fun v=>decide (v∈af y)):Nat):Int)/\bits BinOp.or IntKind.u32 (aA (af x):Nat) (aA (af y):Nat)=((aA (af x++af y):Nat):Int)/\bits BinOp.and IntKind.u32 (aA (af x++af y):Nat) (aA (af z):Nat)=((aA ((af x++af y).filter fun v=>decide (v∈af z)):Nat):Int)):=fun hg hr=>by
  have h8:=(ng (xg hg).1).2.1;obtain⟨h1,h2,h3⟩:=aT hr;have k1:∀u∈af x,u<8:=fun u hu=>by have:=ui h1 u hu;omega
  have k2:∀u∈af y,u<8:=fun u hu=>by have:=ui h2 u hu;omega
  have k3:∀u∈af z,u<8:=fun u hu=>by have:=ui h3 u hu;omega
  exact⟨ab7 _ _ k1 k2,Nt _ _ k1 k2,ab7 _ _ (Ty k1 k2) k3⟩
 have fY:Hid (gM [x,y,z]=[aA (af x),aA (af y),aA (af z)]):=rfl;clear h hl hx hy hz aT;go_enter Tryz.func30,Tryz.ntmps30;go_wp2_with fail
 refine HR.o.ae ?_;rintro e w1 ⟨hb1,⟨hg,G,rfl,hG,hU⟩ |⟨hg,rfl⟩⟩
 ·have cP:=hid hb1;have sH:=hid hg;have HU:=hid hU;have jA:=hid (qX.o hg w1.heap.size _ (ow.o w1 hb1));have hA:=(aw w1.heap.size w1).alloc (ak _) (.cells #[.slice bx x.length cx,.slice kS y.length cy,.slice bz z.length cz] 27);have HA:=hid hA;clear hb1 hA HR qX ow hg hU;go_wp2_with fail
  refine jA.o.ae ?_;rintro e w2 ⟨hb2,⟨hr,G2,rfl,F2,tB⟩ |⟨hr,rfl⟩⟩
  ·have bq:=hid ((cP.o.trans (HA.o.ae cP.o.size)).trans (hb2.ae (aM cP.o.size HA.o.size)));obtain⟨hand,tk,ajy⟩:=Oy.o sH.o hr;have hmk:=Er.o hr;have aaU:bW w2 G (gM L):=((HU.o.aa HA.o HU.o.lt)).aa hb2 (aR HU.o.lt HA.o.size);have T4:=hid aaU;rw[fY.o] at tB;have vu:=hid tB;have k0:=tB.cell 0 (by simp);have k1:=tB.cell 1 (by simp);have k2:=tB.cell 2 (by simp);have amI:=hid (Eo.o sH.o hr G L.length);simp only[List.getElem_cons_zero,OZ] at k0 k1 k2;clear hr hb2 jA Eo Er Oy fY Ep tB aaU;generalize aA ((af x).filter fun v=>decide (v∈af y))=YP at *;generalize aA ((af x++af y).filter fun v=>decide (v∈af z))=YO at *;generalize aA (af x++af y)=mu at *;generalize aA (af x)=mx at *;generalize aA (af y)=my at *;generalize aA (af z)=mz at *;by_cases h1:YP=0
   ·by_cases h2:YO=0
    ·have rk:=hid (hmk.2 ⟨h1,h2⟩);subst h1;subst h2;clear hmk;go_upto_region 7 with (go_quiet (fail))
     have J4:Hid (bW (w2.drewN nq) G2 [mx,my,mz]):=vu.o;have amt:Hid (bW (w2.drewN nq).drew G (gM L)):=T4.o;have fA:=hid (below_drewN bq.o nq);have Zt:(w2.drewN nq).drew.cell? ⟨G2,0,none⟩=some (.int .u32 (mx:Nat)):=k0;have Zs:(w2.drewN nq).drew.cell? ⟨G2,1,none⟩=some (.int .u32 (my:Nat)):=k1;have Im:(w2.drewN nq).drew.cell? ⟨G2,2,none⟩=some (.int .u32 (mz:Nat)):=k2;clear k0 k1 k2 hand tk ajy;generalize w2.drewN nq=W3 at *;have Sy:=J4.o.lt;have Kt:Hid (∀U:World,Below W3.drew.heap.size W3.drew U ->U.cell? ⟨G2,0,none⟩=some (.int .u32 (mx:Nat))/\U.cell? ⟨G2,1,none⟩=some (.int .u32 (my:Nat))/\U.cell? ⟨G2,2,none⟩=some (.int .u32 (mz:Nat))):=fun U hU=>⟨(hU.cell (p:=⟨G2,0,none⟩) Sy).trans Zt,(hU.cell (p:=⟨G2,1,none⟩) Sy).trans Zs,(hU.cell (p:=⟨G2,2,none⟩) Sy).trans Im⟩;refine kC (S:=fun U=>U.cell? ⟨G2,0,none⟩=some (.int .u32 (mx:Nat))/\U.cell? ⟨G2,1,none⟩=some (.int .u32 (my:Nat))/\U.cell? ⟨G2,2,none⟩=some (.int .u32 (mz:Nat))) (by kernel_rfl) ⟨Zt,Zs,Im⟩ (fun ah=>?_);refine ar 0 (.slice (some ⟨G,0,none⟩) L.length L.length) ?_;refine ar 1 (.slice (some ⟨G2,0,none⟩) 3 3) ?_;refine ar 2 (.pointer (some ⟨G2,0,none⟩)) ?_;refine ar 3 (.int .u32 (mx:Nat)) ?_;refine ar 4 (.slice (some ⟨G2,0,none⟩) 3 3) ?_;refine ar 5 (.pointer (some ⟨G2,1,none⟩)) ?_;refine ar 6 (.int .u32 (my:Nat)) ?_;refine ar 7 (.slice (some ⟨G2,0,none⟩) 3 3) ?_;refine ar 8 (.pointer (some ⟨G2,2,none⟩)) ?_;refine ar 9 (.int .u32 (mz:Nat)) ?_;refine aI [10] (cA ?_ aH);intro K' hK';go_simp;refine(amI.o W3.drew amt.o).ae ?_
     rintro r w5 ⟨q,rfl,hq,hb5⟩;refine hK'.o _ _ (Kt.o w5 hb5) (fun ag=>?_);clear hK' K' ah;refine ar 11 (.bool (!q)) ?_;refine ar 12 (.bool (!q)) ?_;refine ar 13 (.int .i64 0) ?_;(try simp only[gE,aP]);refine dW (by kernel_rfl) ?_ _;clear ag;have fG:Hid (Below w.heap.size w w5):=fA.o.drew.trans (hb5.ae fA.o.drew.size);have HQ:=hid (hq rk.o);clear hq hb5;go_wp2;go_ret2;exact⟨fG.o,.inr (.inr ⟨sH.o,rk.o,by rw[HQ.o];rfl⟩)⟩
    ·have rk:Hid (ia L.length [x,y,z]=false):=Bool.eq_false_iff.2 fun e=>h2 (hmk.1 e).2;subst h1;(have h2':((YO:Int)==0)=false:=by simp;omega);clear hmk;go_wp2_with (go_quiet (fail))
     go_ret2;exact⟨below_drewN bq.o _,.inr (.inl ⟨sH.o,rk.o,rfl⟩)⟩
   ·have rk:Hid (ia L.length [x,y,z]=false):=Bool.eq_false_iff.2 fun e=>h1 (hmk.1 e).1;(have h1':((YP:Int)==0)=false:=by simp;omega);clear hmk;go_wp2_with (go_quiet (fail))
    go_ret2;exact⟨below_drewN bq.o _,.inr (.inl ⟨sH.o,rk.o,rfl⟩)⟩
  ·have rk:=hid (Ep.o hr);have bq:=hid ((cP.o.trans (HA.o.ae cP.o.size)).trans (hb2.ae (aM cP.o.size HA.o.size)));clear hr hb2 jA Eo Er Oy fY Ep;go_wp2_with (go_quiet (fail))
   go_ret2;exact⟨below_drewN bq.o _,.inr (.inl ⟨sH.o,rk.o,rfl⟩)⟩
 ·have Ku:=hid hg;have cP:=hid hb1;have hgb:(bh L==0)=false:=by simpa using hg
  clear hg hb1 ow qX Eo Er Ep Oy fY HR;generalize hge:bh L=ge at *;have Kv:=hid hge;clear hge;go_wp2;go_ret2;exact⟨cP.o,.inl ⟨by rw[Kv.o];exact Ku.o,by rw[Kv.o];rfl⟩⟩
theorem YY (hu:u<8):(fL s).contains (u:Int)=decide (u∈s):=by
 refine ug.2 ?_;rw[Ah,dQ,fL,iL,aU];constructor
 ·rintro⟨v,hv,e⟩;obtain rfl:v=u:=by omega
  exact(qu.1 hv).2
 ·exact fun h=>⟨u,qu.2 ⟨hu,h⟩,rfl⟩
variable {R:List (List Fr)} {ws:List Nat}
def zF (l:List (Nat×Nat)):List (Int×Int):=l.map fun p=>((p.1:Int),(p.2:Int))
theorem sL (l:List (Nat×Nat)):(zF l).length=l.length:=by simp[zF]
structure kB (S:List Nat) (n:Nat) (l:List (Nat×Nat)):Prop where
 nd:(l.map (·.1)).Nodup
 lt:∀p∈l,p.1<n
 val:∀p∈l,p.2<sz S p.1
theorem akA {V:List Vr} (h:od V L R F=0):bA V L R=0/\∃l,F=zF l/\kB (aq V) V.length l:=by
 have h0:bA V L R=0:=by
  by_cases e:bA V L R=0
  ·exact e
  ·rw[od,aD e] at h;exact h
 rw[od,aB h0] at h;have hz:=Jy h
 have hb:∀i (hi:i<F.length),(0<=F[i].1/\F[i].1<(V.length:Int))/\(0<=F[i].2/\F[i].2<(sz (aq V) F[i].1.toNat:Int))/\((F.take i).any fun p=>p.1==F[i].1)=false:=fun i hi=>by
  have h1:=hz i hi;by_cases a:0<=F[i].1/\F[i].1<(V.length:Int)
  ·by_cases b:0<=F[i].2/\F[i].2<(sz (aq V) F[i].1.toNat:Int)
   ·refine⟨a,b,?_⟩;cases c:(F.take i).any fun p=>p.1==F[i].1 with
    |false=>rfl
    |true=>rw[abp hi a b c] at h1;exact absurd h1 (by decide)
   ·rw[abo hi a b] at h1;exact absurd h1 (by decide)
  ·rw[abn hi a] at h1;exact absurd h1 (by decide)
 refine⟨h0,F.map fun p=>(p.1.toNat,p.2.toNat),?_,?_,?_,?_⟩
 ·rw[zF,Ae];refine rC (by simp) fun i hi _=>?_;rw[nE];obtain⟨⟨a,_⟩,⟨b,_⟩,_⟩:=hb i hi;show F[i]=(((F[i].1.toNat:Nat):Int),((F[i].2.toNat:Nat):Int));rw[Int.toNat_of_nonneg a,Int.toNat_of_nonneg b]
 ·rw[Ae,List.Nodup,yh];refine vS.2 fun i j hi hj oT e=>?_;obtain⟨⟨ai,_⟩,_,_⟩:=hb i hi;obtain⟨⟨aj,_⟩,_,hc⟩:=hb j hj
  have:=List.any_eq_false.1 hc F[i] (by
   (have hk:i<(F.take j).length:=by rw[eB];omega);have:=bY hk;rwa [Af] at this)
  refine this (zY.2 ?_);have e':F[i].1.toNat=F[j].1.toNat:=e;omega
 ·intro p hp;obtain⟨x,hx,rfl⟩:=aU.1 hp;obtain⟨i,hi,rfl⟩:=jg hx;obtain⟨⟨a,b⟩,_,_⟩:=hb i hi;show F[i].1.toNat<_;omega
 ·intro p hp;obtain⟨x,hx,rfl⟩:=aU.1 hp;obtain⟨i,hi,rfl⟩:=jg hx;obtain⟨_,⟨a,b⟩,_⟩:=hb i hi;show F[i].2.toNat<sz _ F[i].1.toNat;omega
def wh (L:List (List Int)) (A:List Nat):List Nat:=(gW L).filter fun v:Nat=>(fL (cZ (aG L) A L.length)).contains (v:Int)
theorem EX (h:Up l n):∀x∈l,0<=x/\x<n:=(fK.1 h).1
theorem VE (h:Up l n):(af l).Pairwise (·<·):=by
 rw[af,yh];refine List.Pairwise.imp_of_mem (fun {a b} ha hb hab=>?_) (fK.1 h).2;have h1:=EX h a ha;have h2:=EX h b hb;omega
theorem XP (L:List (List Int)) (i:Nat):(aG L).getD i []=af (L.getD i []):=by
 rw[aG,b6,mS,b6];cases L[i]? with
 |none=>rfl
 |some x=>rfl
theorem Qj (hg:gB L=true) (h1:1<=L.length) (h8:L.length<=8) (h:v∈gW L):v<L.length:=by
 have hp:((gW L).filter fun v=>decide (v<L.length)).Perm (List.range L.length):=
  (Hb ((Yb hg h1 h8).sublist KW) Ad).2 fun u=>by
   rw[cJ,ck,dQ];exact⟨fun h=>h.2,fun h=>⟨Yc hg h1 h8 h,h⟩⟩
 have hl:=hp.length_eq;have hn:(gW L).length=L.length:=by rw[LO];simp
 rw[Cz] at hl;replace hl:=hl.trans hn.symm;exact kY (List.length_filter_eq_length_iff.1 hl v h)
theorem al8 (hg:gB L=true) {A:List Nat} (hA:∀v∈A,v<L.length) (h:v∈cZ (aG L) A L.length):v<L.length:=
 Gg (fun x u hu=>(Qw hg x u hu).1) hA L.length v h
theorem Vj (hg:gB L=true) (h1:1<=L.length) (h8:L.length<=8) {A:List Nat} (hA:∀v∈A,v<L.length):v∈wh L A↔v∈cZ (aG L) A L.length:=by
 rw[wh,cJ];constructor
 ·rintro⟨a,b⟩;have hv:=Qj hg h1 h8 a;rw[YY (by omega)] at b;exact kY b
 ·intro h;have hv:=al8 hg hA h;exact⟨Yc hg h1 h8 hv,by rw[YY (by omega)];exact bT h⟩
theorem ac6 (hg:gB L=true) (h1:1<=L.length) (h8:L.length<=8) (A:List Nat):(wh L A).Nodup:=(Yb hg h1 h8).sublist KW
theorem ac7 (hg:gB L=true) (h1:1<=L.length) (h8:L.length<=8) {A:List Nat} (h:v∈wh L A):v<L.length:=Qj hg h1 h8 (cJ.1 h).1
theorem al3 {w:Nat} (h:Pa u v) (h2:dV Pa v w):dV Pa u w:=by
 induction h2 using dV.ind with
 |one h3=>exact .more (.one h) h3
 |more _ h3 ih=>exact .more ih h3
theorem ac8 (lI:bh L=0) (h1:1<=L.length) (h8:L.length<=8) {A:List Nat} (hA:∀v∈A,v<L.length):oA L (·∈wh L A):=fun v hv u hu=>by
 have hg:=tF lI;show u∈wh L A;have hv:v∈wh L A:=hv;rw[Vj hg h1 h8 hA,JP lI h8 hA] at hv⊢;obtain⟨b,hb,e⟩:=hv;rw[<- XP] at hu;refine⟨b,hb,.inr ?_⟩;rcases e with rfl |e
 ·exact .one hu
 ·exact al3 (Pa:=fun u v=>u∈(aG L).getD v []) hu e
theorem Vk (lI:bh L=0) (h1:1<=L.length) (h8:L.length<=8) {A:List Nat} (hA:∀v∈A,v<L.length) (hv:v∈A):v∈wh L A:=by
 rw[Vj (tF lI) h1 h8 hA,JP lI h8 hA];exact⟨v,hv,.inl rfl⟩
def gT (V:List Vr) (L:List (List Int)) (R:List (List Fr)) (ws:List Nat):List Tb:=ws.map fun v=>(gU L v,gL V L R v)
theorem ajR {V:List Vr} (h0:bA V L R=0) (hlt:∀v∈ws,v<V.length) (hc:oA L (·∈ws)):eT (aq V) V.length (gT V L R ws) (gQ R ws) 1:=
 ⟨(PI.net h0 hlt hc).ok,PD.net h0 hlt,fun t ht=>by
  obtain⟨v,_,rfl⟩:=aU.1 ht;exact ajT V L R v⟩
theorem eT.fixes (hp:Pos S):∀ {l:List (Nat×Nat)} {P:List Tb} {D c:Nat},eT S n P D c ->(∀p∈l,p.2<sz S p.1) ->eT S n (mF S l P) D c
 |[],_,_,_,h,_=>h
 |p::l,_,_,_,h,hx=>eT.fixes hp (l:=l) (h.fix hp (hx p c5)) fun q hq=>hx q (dD _ hq)
theorem S6 (S:List Nat):∀(l:List (Nat×Nat)) (P:List Tb),(mF S l P).length=P.length
 |[],_=>rfl
 |p::l,P=>by rw[mF,S6 S l,cH]
theorem Zm:∀(l:List (Nat×Nat)) (fr:List Nat),(jM fr l).Sublist fr
 |[],_=>List.Sublist.refl _
 |_::l,_=>(Zm l _).trans KW
def Ht (V:List Vr) (L:List (List Int)) (R:List (List Fr)) (q:List Int) (l:List (Nat×Nat)):Tb:=
 (q,(List.range (cnt (aq V) (af q))).map fun K=>qF (ei V L R (qV (aq V) (af q) K++l)))
theorem adL {a b:List Int} (ha:Up a n) (hb:Up b m) (h:∀u,u∈af a↔u∈af b):a=b:=by
 have e:af a=af b:=by
  refine List.Perm.eq_of_pairwise (le:=(·<·)) (fun x y _ _ h1 h2=>by omega) (VE ha) (VE hb) ?_;exact(Hb ha.nodup hb.nodup).2 h
 have h1:iL (af a)=a:=by
  rw[iL,af,Ae];refine(vT fun x hx=>?_).trans (List.map_id _);have:=(EX ha x hx).1;show ((x.toNat:Nat):Int)=x;omega
 have h2:iL (af b)=b:=by
  rw[iL,af,Ae];refine(vT fun x hx=>?_).trans (List.map_id _);have:=(EX hb x hx).1;show ((x.toNat:Nat):Int)=x;omega
 rw[<- h1, <- h2,e]
theorem afy {q:List Int} (h:Up q n) (v:Nat):q.contains (v:Int)=(af q).contains v:=by
 rw[ug,Ah,Ah];constructor
 ·intro hv;exact aU.2 ⟨_,hv,by simp⟩
 ·intro hv;obtain⟨x,hx,e⟩:=aU.1 hv;have:=(EX h x hx).1;have e2:x.toNat=v:=e;have:x=(v:Int):=by omega
  rwa [<- this]
theorem adQ {V:List Vr} (h0:bA V L R=0) (hp:Pos (aq V)) {l:List (Nat×Nat)} {q:List Int} (hn:ws.Nodup) (hlt:∀v∈ws,v<V.length) (hc:oA L (·∈ws)) (hl:kB (aq V) V.length l) (IJ:∀p∈l,p.1∈ws) (hq:Up q V.length) (C9:∀v∈af q,v∈ws/\¬v∈l.map (·.1)):
  allT (aq V) (iY (aq V) false (fun v=>q.contains (v:Int)) (jM ws l) (mF (aq V) l (gT V L R ws)))=Ht V L R q l:=by
 have e1:(fun v:Nat=>q.contains (v:Int))=fun v=>(af q).contains v:=funext (afy hq);rw[e1];have jr:PI (aq V) V.length (jM ws l) (mF (aq V) l (gT V L R ws)) (fun g=>cD V L R (eR l g) ws):=(PI.net h0 hlt hc).fixes hp hl.nd hl.val;obtain⟨free',hf,yS⟩:=PI.outs hp (fun v=>(af q).contains v) (jM ws l) jr;have ha:=xu hp yS.ok
 have hfr:∀u,u∈free'↔u∈af q:=fun u=>by
  rw[hf u,L9];constructor
  ·rintro⟨⟨a,b⟩,c⟩;exact Ah.1 (c ⟨a,b⟩)
  ·intro h;exact⟨C9 u h,fun _=>Ah.2 h⟩
 have hv:(allT (aq V) (iY (aq V) false (fun v=>(af q).contains v) (jM ws l) (mF (aq V) l (gT V L R ws)))).1=q:=by
  refine adL ha.1.up hq fun u=>?_;rw[ha.2.1 u, <- hfr u];exact⟨fun ⟨t,ht,hu⟩=>yS.sub t ht u hu,fun h=>yS.sup u h⟩
 refine Prod.ext hv ?_;rw[VY hp ha.1 (acq _ _),hv];refine vT fun K hK=>?_;have hK':=ck.1 hK;rw[ha.2.2 _ (fun u=>vd hp _ _ u hK'),yS.val _ (fun u=>vd hp _ _ u hK')];exact dt qF (ah3 h0 hn hlt hc hl.nd IJ hl.val hq.nodup C9 hK')
variable {K:Act ->World ->Prop} {B' k:Nat}
def kQ (F:List (Int×Int)):List (Value×Value):=F.map fun p=>(.int .i64 p.1,.int .i64 p.2)
theorem D6 (F:List (Int×Int)):(kQ F).length=F.length:=cH _
theorem abm (h:k<F.length):(kQ F)[k]'(by rw[D6];exact h)=(.int .i64 F[k].1,.int .i64 F[k].2):=nE _
def fp (w:World) (B:Nat) (v:Value) (F:List (Int×Int)):Prop:=w.ownsRow B 90 2 v F.length (dG (kQ F))
theorem fp.nil (w:World) (B:Nat):fp w B (.slice none 0 0) []:=⟨rfl,.inl ⟨rfl,rfl⟩⟩
theorem fp.aa {B:Nat} {v:Value} (h:fp w B v F) (hb:Below w.heap.size w w'):fp w' B v F:=Fm h (zq.aa hb)
theorem fp.facts {B:Nat} {v:Value} (h:fp w B v F):∃d cd,v=.slice d F.length cd/\ny w d F/\F.length<=cd/\(d=none ->cd=0):=by
 rcases h.2 with ⟨h1,h2⟩ |⟨g,cap,cur,h1,h2,h3,h4,h5,h6,h7⟩
 ·exact⟨none,0,by rw[h1,h2],(fun k hk=>absurd hk (by omega)),by omega,fun _=>rfl⟩
 ·refine⟨_,cap,h1,fun k hk=>?_,h4,fun e=>by cases e⟩;have fM:k<(kQ F).length:=by rw[D6];exact hk
  obtain⟨q0,q1⟩:=Lc (kQ F) k fM;have hcl:=E4 (kQ F)
  have hc:∀j u,(dG (kQ F))[j]? =some u ->w.cell? ⟨g,j,none⟩=some u:=fun j u hj=>by
   rw[bE w g j _ _ (0,0) h3];have nY:=(nG.1 hj).1;rw[<- h7,rB,aB (by rw[D6] at hcl;omega),vY] at hj;exact hj
  rw[abm hk] at q0 q1;exact⟨g,0,rfl,(cV.1 h3).1,by rw[bI];exact hc _ _ q0,by rw[bI];exact hc _ _ q1⟩
theorem fp.own {B:Nat} {v:Value} (h:fp w B v F):∀k,v.ownBlock=some k ->B<=k:=fun k hk=>by
 rcases h.2 with ⟨h1,h2⟩ |⟨g,cap,cur,h1,h2,_⟩
 ·rw[h1] at hk;cases hk
 ·rw[h1] at hk;cases hk;exact h2
theorem fp.alloc {B:Nat} {v:Value} (h:fp w B v F) (o:Obj):fp (w.alloc o) B v F:=h.aa ((aw w.heap.size w).alloc (ak _) o)
theorem Tryz.infoFact:(Tryz.prog.info? 90).map (fun i=>(i.zero,i.size,i.bytes))=some (some (.agg #[.int .i64 0,.int .i64 0]),2,16):=by kernel_rfl
theorem abl {o:Nat} (h:ny w (some ⟨g,o,none⟩) F):∀j u,(dG (kQ F))[j]? =some u ->w.cell? ((⟨g,o,none⟩:Addr).add j)=some u:=fun j u hj=>by
 have nY:=(nG.1 hj).1;rw[E4,D6] at nY;have hk:j/2<F.length:=by omega
 obtain⟨g',o',e,_,c0,c1⟩:=h (j/2) hk;cases e;obtain⟨q0,q1⟩:=Lc (kQ F) (j/2) (by rw[D6];exact hk);rw[abm hk] at q0 q1
 have hadd:((⟨g,o,none⟩:Addr).add j)=⟨g,o+j,none⟩:=by
  rw[Addr.add];by_cases h0:j=0
  ·subst h0;simp
  ·simp[h0]
 rw[hadd];rcases Nat.mod_two_eq_zero_or_one j with hm |hm
 ·have e:j/2*2=j:=by omega
  rw[e] at q0 c0;rw[q0] at hj;rw[c0,hj]
 ·have e:j/2*2+1=j:=by omega
  rw[e] at q1;rw[q1] at hj;rw[show o+j/2*2+1=o+j by omega] at c1;rw[c1,hj]
theorem Nc (F:List (Int×Int)):∀u∈dG (kQ F),u.oneCell'=true:=by
 induction F with
 |nil=>intro u hu;cases hu
 |cons p F ih=>
  intro u hu;have uq:u=.int .i64 p.1∨u=.int .i64 p.2∨u∈dG (kQ F):=by simpa [kQ,dG] using hu
  rcases uq with rfl |rfl |h
  ·rfl
  ·rfl
  ·exact ih u h
theorem Hh {o:Oper} {a:Act} (hgd:o.guard=none) (s x:Operand)
  (ho:o.op=.call {callee:=.builtin .append,args:= #[s,x],argTypes:= #[28,28]}) (base:Nat) (v:Value) (xs la:List (Int×Int)) (hs:a.eval s=v) (hown:fp w base v xs) (p:Option Addr) (ca:Nat) (hx:a.eval x=.slice p la.length ca) (hi:ny w p la) (hp:p=none ->ca=0) (hlen:xs.length+la.length<=100000) (hbase:base<=w.heap.size)
  (h:∀v' w',fp w' base v' (xs++la) ->w.grownBy w' v.ownBlock ->wpList Tryz.prog ops Q rest (a.put o.dst v') w'):wpList Tryz.prog ops Q (o::rest) a w:=by
 obtain⟨i0,bS,hz0,hz1,hz2⟩:=dK Tryz.infoFact;cases p with
 |none=>
  have hl:la=[]:=by
   cases la with
   |nil=>rfl
   |cons x l=>obtain⟨g,o,e,_⟩:=hi 0 (by simp);cases e
  subst hl;have h0:=hp rfl;subst h0;have h1:=h v w (by rw[l8];exact hown) ⟨rfl,rfl,rfl,ak _,fun _ _ _=>rfl⟩;exact wpList_append_own_none hgd s x 28 ho base 90 i0 2 Tryz.underlying28 bS v xs.length _ hs hown hx h1
 |some ad=>
  have hc:∀j u,(dG (kQ la))[j]? =some u ->w.cell? (ad.add j)=some u:=by
   cases la with
   |nil=>intro j u hj;cases hj
   |cons q l=>
    obtain⟨g,o',e,_⟩:=hi 0 (by simp);cases e;exact abl hi
  refine Cn _ hgd s x 28 ho base 90 i0 (.agg #[.int .i64 0,.int .i64 0]) 2 16 Tryz.underlying28 bS hz0 hz1 hz2 rfl (by decide) v xs.length _ hs hown ad la.length ca (dG (kQ la)) hx (by rw[E4,D6]) hc (Nc la) (by unfold maxLen;omega) (by omega) hbase ?_;intro v' w' h1 h2 _;refine h v' w' ?_ h2;rw[fp,bM,kQ,dY,E5];exact h1
theorem fp.lt {B:Nat} {v:Value} (h:fp w B v F):∀k,v.ownBlock=some k ->k<w.heap.size:=fun k hk=>by
 rcases h.2 with ⟨h1,h2⟩ |⟨g,cap,cur,h1,h2,h3,_⟩
 ·rw[h1] at hk;cases hk
 ·rw[h1] at hk;cases hk;exact(cV.1 h3).1
theorem fp.start (W:World):fp (W.alloc (.cells #[] 90)) W.heap.size (.slice (some ⟨W.heap.size,0,none⟩) 0 0) []:=
 ⟨rfl,.inr ⟨W.heap.size,0, #[],rfl,ak _,fP W _,ak _,by unfold maxLen;omega,rfl,rfl⟩⟩
theorem fp.lower {B:Nat} {v:Value} (h:fp w B v F) (hb:B'<=B):fp w B' v F:=by
 refine⟨h.1,?_⟩;rcases h.2 with h1 |⟨g,cap,cur,h1,h2,h3⟩
 ·exact .inl h1
 ·exact .inr ⟨g,cap,cur,h1,aM hb h2,h3⟩
theorem qh {o:Oper} {a:Act} (s x:Operand)
  (ho:o.op=.call {callee:=.builtin .append,args:= #[s,x],argTypes:= #[28,28]}) (base:Nat) (v:Value) (xs la:List (Int×Int)) (hs:a.eval s=v) (hown:fp w base v xs) (p:Option Addr) (ca:Nat) (hx:a.eval x=.slice p la.length ca) (hi:ny w p la) (hp:p=none ->ca=0) (hlen:xs.length+la.length<=100000) (hbase:base<=w.heap.size)
  (h:∀v' w',fp w' base v' (xs++la) ->w.grownBy w' v.ownBlock ->(v'.ownBlock=v.ownBlock∨∀k,v'.ownBlock=some k ->w.heap.size<=k) ->K (a.put o.dst v') w'):o.wp Tryz.prog a w K Q:=by
 obtain⟨i0,bS,hz0,hz1,hz2⟩:=dK Tryz.infoFact;cases p with
 |none=>
  have hl:la=[]:=by
   cases la with
   |nil=>rfl
   |cons x l=>obtain⟨g,o,e,_⟩:=hi 0 (by simp);cases e
  subst hl;have h0:=hp rfl;subst h0;have h1:=h v w (by rw[l8];exact hown) ⟨rfl,rfl,rfl,ak _,fun _ _ _=>rfl⟩ (.inl rfl);have hr:=run_append_owned_none (P:=Tryz.prog) (w:=w) base 28 o.type 90 i0 2 Tryz.underlying28 bS v xs.length _ hown;have hx':a.eval x=.slice none 0 0:=hx;unfold Oper.wp execOp;simp only[ho,resolve,invoke,builtin,Cp,vN,tY,Cx,fH,j5,hs,hx',hr];exact h1
 |some ad=>
  have hc:∀j u,(dG (kQ la))[j]? =some u ->w.cell? (ad.add j)=some u:=by
   cases la with
   |nil=>intro j u hj;cases hj
   |cons q l=>
    obtain⟨g,o',e,_⟩:=hi 0 (by simp);cases e;exact abl hi
  have hl2:(dG (kQ la)).length=la.length*2:=by rw[E4,D6]
  obtain⟨v',w',hr,h2,h3,h4⟩:=run_append_own (P:=Tryz.prog) w base 28 o.type 90 i0 (.agg #[.int .i64 0,.int .i64 0]) 2 16 Tryz.underlying28 bS hz0 hz1 hz2 rfl (by decide) v xs.length _ hown ad la.length ca (dG (kQ la)) hl2 hc (Nc la) (by unfold maxLen;omega) (by omega) hbase
  have hnew:v'.ownBlock=v.ownBlock∨∀k,v'.ownBlock=some k ->w.heap.size<=k:=by
   by_cases hm:0<la.length
   ·obtain⟨v2,w2,hr2,_,_,h5⟩:=Lg (P:=Tryz.prog) w base 28 o.type 90 i0 (.agg #[.int .i64 0,.int .i64 0]) 2 16 Tryz.underlying28 bS hz0 hz1 hz2 rfl (by decide) v xs.length _ hown ad la.length ca (dG (kQ la)) hl2 hc (Nc la) (by unfold maxLen;omega) (by omega) hbase hm;rw[hr] at hr2;cases hr2;exact h5
   ·left
    (have hm0:la.length=0:=by omega);rcases hown.2 with ⟨k1,k2⟩ |⟨g',cap,cur,k1,hbg,gD,yV,hcm,hcs,QX⟩
    ·rw[h4.2 ⟨k1,hm0⟩,k1]
    ·have e':=run_append_room (P:=Tryz.prog) w 28 o.type 90 i0 Tryz.underlying28 bS g' xs.length cap cur gD ad la.length ca (dG (kQ la)) (by rw[hz1];exact hl2) hc (Nc la) (by omega) (by rw[hz1,hcs,hl2];omega);rw[k1] at hr;rw[hr] at e';cases e';rw[k1];rfl
  unfold Oper.wp execOp;simp only[ho,resolve,invoke,builtin,Cp,vN,tY,Cx,fH,j5,hs,hx,hr];refine h v' w' ?_ h3 hnew;rw[fp,bM,kQ,dY,E5];exact h2
structure FF (S:List Nat) (U:List Int) (i:Nat) (l:List (Nat×Nat)):Prop where
 vars:l.map (·.1)=af (U.take i)
 val:∀p∈l,p.2<sz S p.1
theorem FF.start (S:List Nat) (U:List Int):FF S U 0 []:=⟨rfl,fun p hp=>by cases hp⟩
theorem FF.len {U:List Int} {l:List (Nat×Nat)} (h:FF S U i l) (hi:i<=U.length):l.length=i:=by
 have:=dt List.length h.vars;rw[cH,dR,eB] at this;omega
theorem FF.snoc {U:List Int} {l:List (Nat×Nat)} (h:FF S U i l) (hi:i<U.length) {x:Nat} (hx:x<sz S U[i].toNat):FF S U (i+1) (l++[(U[i].toNat,x)]):=by
 refine⟨?_,fun p hp=>?_⟩
 ·rw[dY,h.vars,gh hi,af,af,dY];rfl
 ·rcases bL.1 hp with hp |hp
  ·exact h.val p hp
  ·rw[eA.1 hp];exact hx
theorem Vi (l:List (Nat×Nat)) (p:Nat×Nat):zF (l++[p])=zF l++[((p.1:Int),(p.2:Int))]:=by rw[zF,zF,dY];rfl
theorem YH (w:World) (u v:Int):ny (w.alloc (.cells #[.int .i64 u,.int .i64 v] 90)) (some ⟨w.heap.size,0,none⟩) [(u,v)]:=fun k hk=>by
 obtain rfl:k=0:=by simp at hk;omega
 have h:=fP w (.cells #[.int .i64 u,.int .i64 v] 90);exact⟨w.heap.size,0,rfl,by simp,(bE _ w.heap.size _ _ _ (0,0) h).trans rfl,(bE _ w.heap.size _ _ _ (0,0) h).trans rfl⟩
theorem afq (a b c d r:Option Addr) (ca cb cc cd cr:Nat) (V:List Vr) (L:List (List Int)) (R:List (List Fr)) (U K:List Int) (w:World) (h:jx w a b c V L R) (hd:aC w d U) (hr:aC w r K) (hU:Up U V.length) (hUn:U.length<=1000) (hK:∀x∈K, -9223372036854775808<=x/\x<=9223372036854775807) (hKn:K.length<=140737488355328) (hV:∀v (h:v<V.length),1<=V[v].2.length/\V[v].2.length<=1000):
  Calls Tryz.prog 19 #[.agg #[.slice a V.length ca,.slice b L.length cb,.slice c R.length cc],.slice d U.length cd,.slice r K.length cr] w fun e w'=>∃x l,e=.returned x/\fp w' w.heap.size x (zF l)/\l.map (·.1)=af U/\(∀p∈l,p.2<sz (aq V) p.1)/\Below w.heap.size w w':=by
 have bB:=dr.at (w:=w) rfl (.slice a V.length ca) (.slice b L.length cb) (.slice c R.length cc);have hb0:Below w.heap.size w (w.alloc (NC (.slice a V.length ca) (.slice b L.length cb) (.slice c R.length cc))):=(aw _ w).alloc (ak _) _;have HN:=hid h;have HD:=hid hd;have HR:=hid hr;have HU:=hid hU;have HK:=hid hK;have HV:=hid hV;have HE:Hid (∀l,FF (aq V) U U.length l ->l.map (·.1)=af U):=fun l hl=>by have:=hl.vars;rwa [iR] at this
 obtain⟨nK,Ms⟩:∃n,K.length=n:=⟨_,rfl⟩;rw[Ms];have HNK:=hid Ms;rw[Ms] at hKn;clear h hd hr hU hK hV Ms;go_enter Tryz.func19,Tryz.ntmps19;go_wp2_with fail
 have qd:=hid bB;have EF:=hid hb0;clear bB hb0;generalize w.alloc (NC (.slice a V.length ca) (.slice b L.length cb) (.slice c R.length cc))=W0 at *;go_loopw [7,8] (fun xv iv wr=>∃(i:Nat) (l:List (Nat×Nat)),i<=U.length/\iv=.int .i64 i/\Hid (FF (aq V) U i l)/\Hid (fp wr (w.heap.size+1) xv (zF l))/\Hid (dr wr w.heap.size (.slice a V.length ca) (.slice b L.length cb) (.slice c R.length cc))/\Hid (Below w.heap.size w wr)) (fun _ iv _=>U.length - (intOf iv).toNat)
 case atStart=>exact⟨0,[],aX _,rfl,FF.start _ _,fp.nil _ _,qd,EF⟩
 case round=>
  obtain⟨i,l,hi,rfl,HF,HO,HX,HB⟩:=hrel;clear qd EF;by_cases hlt:i<U.length
  ·obtain⟨g,o,rfl,hg,c0⟩:=(HD.o.aa HB.o) i hlt;have aT:=HU.o.each i hlt;obtain⟨v,hv⟩:∃v:Nat,U[i]=(v:Int):=⟨U[i].toNat,by omega⟩;(have iA:v<V.length:=by omega);obtain⟨ga,oa,bb,cbb,rfl,wW,n0,n1,n2,n3⟩:=(HN.o.vars.aa HB.o) v iA;have hsz:=HV.o v iA;have ZO:=Pq iA
   have Ej:Hid (∀x,x<V[v].2.length ->FF (aq V) U (i+1) (l++[(v,x)])):=fun x hx=>by
    have:=HF.o.snoc hlt (x:=x) (by rw[hv,nH,ZO];exact hx);rwa [hv,nH] at this
   rw[hv] at c0;have dJ:=HF.o.len hi;clear ZO aT n2 n3 n0;generalize V[v].2.length=m at *;by_cases Jm:nK=0
   ·subst Jm;have p5:=hid HO.o.own;have Ur:=hid (HO.o.alloc (.cells #[.int .i64 (v:Nat),.int .i64 (0:Nat)] 90));have cF:=hid (HB.o.alloc HB.o.size (.cells #[.int .i64 (v:Nat),.int .i64 (0:Nat)] 90));have mO:=hid (YH wr (v:Nat) (0:Nat));have jz:=hid (HX.o.aa ((aw wr.heap.size wr).alloc (ak _) (.cells #[.int .i64 (v:Nat),.int .i64 (0:Nat)] 90)) HX.o.lt);have iP:Hid (w.heap.size+1<=(wr.alloc (.cells #[.int .i64 (v:Nat),.int .i64 (0:Nat)] 90)).heap.size):=hid (jz.o.lt);go_wp2_with (at_builtin;refine Hh rfl _ _ rfl (w.heap.size+1) _ (zF l) [((v:Int),(0:Nat))] rfl Ur.o (some ⟨wr.heap.size,0,none⟩) 1 rfl mO.o (fun e=>by cases e) (by simp[sL];omega) iP.o ?_;intro v' w2 hr2 hg2)
    have bq:=hid (cF.o.grown hg2 cF.o.size fun k hk=>Nat.le_of_succ_le (p5.o k hk));have xB:Hid (dr w2 w.heap.size (.slice (some ⟨ga,oa,none⟩) V.length ca) (.slice b L.length cb) (.slice c R.length cc)):=(hg2.block w.heap.size iP.o (fun e=>by have:=p5.o _ e.symm;omega)).trans jz.o;have fW:=hid hr2;clear hr2 hg2;go_roundw
    case rel=>exact⟨i+1,_,by omega,by go_num,Ej.o 0 (by omega),by rw[Vi];exact fW,xB,bq⟩
    case measure=>simp[intOf];omega
   ·have hj:i % nK<K.length:=by rw[HNK.o];exact gJ _ (by omega)
    obtain⟨gk,ok,rfl,RD,k0⟩:=(HR.o.aa HB.o) (i % nK) hj;have hkr:=HK.o _ (bY hj);have hmod:((i:Nat):Int) % (nK:Int)=((i % nK:Nat):Int):=(rD _ _).symm;have hjn:i % nK<nK:=gJ _ (by omega);obtain⟨x0,x1,x2⟩:=HX.o.cells;have vF:=hid (fun W=>Xf K[i % nK] m W hkr.1 hkr.2 hsz.1 hsz.2);have hP:=Lu K[i % nK] hsz.1;generalize sR K[i % nK] m=P at *;generalize K[i % nK]=kk at *;generalize i % nK=j at *;go_wp2_with fail
    go_quiet ((go_at_call 60;refine Calls.quiet_of_same (vF.o _)))
    have HO':Hid (fp (wr.drewN nq) (w.heap.size+1) u7 (zF l)):=HO;have HX':Hid (dr (wr.drewN nq) w.heap.size (.slice (some ⟨ga,oa,none⟩) V.length ca) (.slice b L.length cb) (.slice c R.length cc)):=HX;have tU:=hid (below_drewN HB.o nq);have Nr:(wr.drewN nq).cell? ⟨g,o+i,none⟩=some (.int .i64 (v:Nat)):=c0;clear HO HX HB c0 k0 x0 x1 x2 n1;generalize wr.drewN nq=wz at *;have HO:=HO';have HX:=HX';have HB:=tU;have c0:=Nr;clear HO' HX' tU Nr;have p5:=hid HO.o.own;have Ur:=hid (HO.o.alloc (.cells #[.int .i64 (v:Nat),.int .i64 (P:Nat)] 90));have cF:=hid (HB.o.alloc HB.o.size (.cells #[.int .i64 (v:Nat),.int .i64 (P:Nat)] 90));have mO:=hid (YH wz (v:Nat) (P:Nat));have jz:=hid (HX.o.aa ((aw wz.heap.size wz).alloc (ak _) (.cells #[.int .i64 (v:Nat),.int .i64 (P:Nat)] 90)) HX.o.lt);have iP:Hid (w.heap.size+1<=(wz.alloc (.cells #[.int .i64 (v:Nat),.int .i64 (P:Nat)] 90)).heap.size):=hid (jz.o.lt);go_wp2_with (at_builtin;refine Hh rfl _ _ rfl (w.heap.size+1) _ (zF l) [((v:Int),(P:Nat))] rfl Ur.o (some ⟨wz.heap.size,0,none⟩) 1 rfl mO.o (fun e=>by cases e) (by simp[sL];omega) iP.o ?_;intro v' w2 hr2 hg2)
    have bq:=hid (cF.o.grown hg2 cF.o.size fun k hk=>Nat.le_of_succ_le (p5.o k hk));have xB:Hid (dr w2 w.heap.size (.slice (some ⟨ga,oa,none⟩) V.length ca) (.slice b L.length cb) (.slice c R.length cc)):=(hg2.block w.heap.size iP.o (fun e=>by have:=p5.o _ e.symm;omega)).trans jz.o;have fW:=hid hr2;clear hr2 hg2;go_roundw
    case rel=>exact⟨i+1,_,by omega,by go_num,Ej.o P hP,by rw[Vi];exact fW,xB,bq⟩
    case measure=>simp[intOf];omega
  ·obtain rfl:i=U.length:=by omega
   go_wp2;go_ret;exact⟨_,l,rfl,HO.o.lower (Nat.le_succ _),HE.o l HF.o,HF.o.val,HB.o⟩
variable {As:List Nat}
def pq (vs:List Nat) (F:(Nat ->Nat) ->Rat):Prop:=∀v∈vs,∀g x,F (aQ g v x)=F g
theorem pq.mul {F G:(Nat ->Nat) ->Rat} (hF:pq vs F) (hG:pq vs G):pq vs (fun g=>F g*G g):=fun v hv g x=>by
 show F (aQ g v x)*G (aQ g v x)=F g*G g;rw[hF v hv,hG v hv]
theorem Yx {F G:(Nat ->Nat) ->Rat}:∀(vs:List Nat) (f:Nat ->Nat),pq vs F ->cQ S vs (fun g=>F g*G g) f=F f*cQ S vs G f
 |[],_,_=>rfl
 |v::vs,f,hF=>by
  rw[cQ,cQ, <- yz];refine iW fun x _=>?_;rw[Yx vs _ fun u hu=>hF u (dD _ hu),hF v c5]
theorem YA {F:(Nat ->Nat) ->Rat} {x:Nat} (hF:∀g x,F (aQ g v x)=F g):∀(vs:List Nat) (f:Nat ->Nat),cQ S vs F (aQ f v x)=cQ S vs F f
 |[],f=>hF f x
 |u::vs,f=>by
  rw[cQ,cQ];refine iW fun y _=>?_;by_cases e:u=v
  ·subst e;rw[Vw]
  ·rw[Hi f x y e,YA hF vs]
theorem Yv {F G:(Nat ->Nat) ->Rat} (cs:List Nat):∀(bs:List Nat) (f:Nat ->Nat),pq cs F ->pq bs G ->cQ S (bs++cs) (fun g=>F g*G g) f=cQ S bs F f*cQ S cs G f
 |[],f,hF,_=>Yx cs f hF
 |v::bs,f,hF,hG=>by
  rw[eC,cQ,cQ,EM, <- yz];refine iW fun x _=>?_;rw[Yv cs bs _ hF fun u hu=>hG u (dD _ hu),YA (fun g y=>hG v c5 g y) cs f,EM]
theorem aci (a b:List (Nat×Nat)) (g:Nat ->Nat):dL (a++b) g=dL a g*dL b g:=by
 induction a with
 |nil=>show dL b g=1*dL b g;rw[zZ]
 |cons p a ih=>rw[eC,dL,dL,ih,vO]
theorem ach {l:List (Nat×Nat)} (h:∀p∈l,¬p.1∈vs):pq vs (dL l):=fun _ hv g _=>Nw (fun p hp e=>h p hp (e▸hv)) g
theorem afB {l:List (Nat×Nat)} {x:Nat} (h:∀p∈l,p.1≠v) (g:Nat ->Nat):eR l (aQ g v x)=aQ (eR l g) v x:=Lq h g
theorem pq.put {F:(Nat ->Nat) ->Rat} (hF:pq vs F) {l:List (Nat×Nat)} (h:∀p∈l,¬p.1∈vs):pq vs (fun g=>F (eR l g)):=fun v hv g x=>by
 show F (eR l (aQ g v x))=F (eR l g);rw[afB (fun p hp e=>h p hp (e▸hv)),hF v hv]
theorem Xx {V:List Vr}:∀ {o:List Nat},(∀u∈o,∀v∈vs,u≠v/\¬v∈af (L.getD u [])) ->pq vs (fun g=>cD V L R g o):=fun h v hv _ _=>Fh fun u hu=>h u hu v hv
theorem Xy {V:List Vr} (g:Nat ->Nat) (p:Nat ->Bool):∀o:List Nat,cD V L R g o=cD V L R g (o.filter p)*cD V L R g (o.filter fun v=>!p v)
 |[]=>by simp[cD]
 |v::o=>by
  rw[cD,Xy g p o];cases h:p v
  ·rw[vV (by simp[h]),vU (by simp[h]),cD];grind
  ·rw[vU h,vV (by simp[h]),cD];grind
def wD (V:List Vr) (L:List (List Int)) (R:List (List Fr)) (l:List (Nat×Nat)):Rat:=bK (fun k=>dL l (a8 (aq V) (List.range V.length) k)*uk V L R (a8 (aq V) (List.range V.length) k) V.length) (cnt (aq V) (List.range V.length))
theorem LA {V:List Vr} (h0:bA V L R=0) {bs cs:List Nat} {fb fc fz:List (Nat×Nat)} (hn:As.Nodup) (hlt:∀v∈As,v<V.length) (hcl:oA L (·∈As)) (hp:As.Perm (fz.map (·.1)++(bs++cs))) (hx:∀p∈fz,p.2<sz (aq V) p.1)
  (hfb:∀p∈fb,p.1∈bs) (A9:∀p∈fc,p.1∈cs) (q:Nat ->Bool) (h1:∀u∈As,q u=true ->∀v∈cs,u≠v/\¬v∈af (L.getD u [])) (h2:∀u∈As,q u=false ->∀v∈bs,u≠v/\¬v∈af (L.getD u [])):
  wD V L R (fz++(fb++fc))=cQ (aq V) bs (fun g=>dL fb (eR fz g)*cD V L R (eR fz g) (As.filter q)) (fun _=>0)*cQ (aq V) cs (fun g=>dL fc (eR fz g)*cD V L R (eR fz g) (As.filter fun v=>!q v)) (fun _=>0):=by
 have hnp:=hp.nodup_iff.1 hn;rw[ue] at hnp;obtain⟨_,aah,Zz⟩:=hnp;rw[ue] at aah;obtain⟨_,_,aaL⟩:=aah;have hzb:∀p∈fz,¬p.1∈bs:=fun p hp' hm=>Zz p.1 (aU.2 ⟨p,hp',rfl⟩) p.1 (bL.2 (.inl hm)) rfl;have hzc:∀p∈fz,¬p.1∈cs:=fun p hp' hm=>Zz p.1 (aU.2 ⟨p,hp',rfl⟩) p.1 (bL.2 (.inr hm)) rfl
 have hmem:∀p∈fz++(fb++fc),p.1∈As:=fun p ID=>by
  refine hp.mem_iff.2 ?_;rcases bL.1 ID with h |h
  ·exact bL.2 (.inl (aU.2 ⟨p,h,rfl⟩))
  ·refine bL.2 (.inr ?_);rcases bL.1 h with h |h
   ·exact bL.2 (.inl (hfb p h))
   ·exact bL.2 (.inr (A9 p h))
 rw[wD,acm h0 hn hlt hcl (acg hmem)]
 have e1:(fun g=>dL (fz++(fb++fc)) g*cD V L R g As)=fun g=>dL fz g*((dL fb g*cD V L R g (As.filter q))*(dL fc g*cD V L R g (As.filter fun v=>!q v))):=by
  funext g
  rw[aci,aci,Xy g q As];grind
 rw[e1,Qn fz (fun g=>(dL fb g*cD V L R g (As.filter q))*(dL fc g*cD V L R g (As.filter fun v=>!q v))) hp hn hx];refine Yv cs bs _ ?_ ?_
 ·refine pq.put (F:=fun g=>dL fb g*cD V L R g (As.filter q)) (pq.mul (ach fun p nW hm=>?_) (Xx fun u hu v hv=>h1 u (cJ.1 hu).1 (cJ.1 hu).2 v hv)) hzc;exact aaL p.1 (hfb p nW) p.1 hm rfl
 ·refine pq.put (F:=fun g=>dL fc g*cD V L R g (As.filter fun v=>!q v)) (pq.mul (ach fun p hpc hm=>?_) (Xx fun u hu v hv=>h2 u (cJ.1 hu).1 (by simpa using (cJ.1 hu).2) v hv)) hzb;exact aaL p.1 hm p.1 (A9 p hpc) rfl
theorem af8 {V:List Vr} (h0:bA V L R=0) {bs cs:List Nat} {fb fc fz:List (Nat×Nat)} (hn:As.Nodup) (hlt:∀v∈As,v<V.length) (hcl:oA L (·∈As)) (hp:As.Perm (fz.map (·.1)++(bs++cs))) (hx:∀p∈fz,p.2<sz (aq V) p.1)
  (hfb:∀p∈fb,p.1∈bs) (A9:∀p∈fc,p.1∈cs) (q:Nat ->Bool) (h1:∀u∈As,q u=true ->∀v∈cs,u≠v/\¬v∈af (L.getD u [])) (h2:∀u∈As,q u=false ->∀v∈bs,u≠v/\¬v∈af (L.getD u [])):
  wD V L R (fz++(fb++fc))*wD V L R (fz++([]++[]))=wD V L R (fz++(fb++[]))*wD V L R (fz++([]++fc)):=by
 rw[LA h0 hn hlt hcl hp hx hfb A9 q h1 h2,LA h0 hn hlt hcl hp hx (fb:=[]) (fc:=[]) (fun p h=>by cases h) (fun p h=>by cases h) q h1 h2,LA h0 hn hlt hcl hp hx (fc:=[]) hfb (fun p h=>by cases h) q h1 h2,LA h0 hn hlt hcl hp hx (fb:=[]) (fun p h=>by cases h) A9 q h1 h2];grind
variable {fx fy:List (Nat×Nat)} {r:Nat ->Bool ->Prop} {T Y:Nat ->Prop}
def eh (L:List (List Int)) (T:Nat ->Prop) (v:Nat):Prop:=∀M:Nat ->Prop,(∀v,T v ->M v) ->(∀v w,M w ->v∈af (L.getD w []) ->M v) ->M v
theorem eh.base (h:T v):eh L T v:=fun _ h1 _=>h1 _ h
theorem eh.step {w:Nat} (h:eh L T w) (hp:v∈af (L.getD w [])):eh L T v:=fun M h1 h2=>h2 _ _ (h M h1 h2) hp
theorem eh.ind {M:∀v,eh L T v ->Prop} (base:∀ {v:Nat} (h:T v),M v (.base h)) (step:∀ {v w:Nat} (h:eh L T w) (hp:v∈af (L.getD w [])),M w h ->M v (h.step hp)):∀ {v:Nat} (h:eh L T v),M v h:=fun {_} h=>by
 obtain⟨_,k⟩:=h (fun v=>∃h,M v h) (fun _ h=>⟨_,base h⟩) (fun _ _ ⟨_,ih⟩ hp=>⟨_,step _ hp ih⟩);exact k
structure Cl (L:List (List Int)) (n:Nat) (X Y Z:Nat ->Prop) (r:Nat ->Bool ->Prop):Prop where
 start:∀x,X x ->r x true
 up:∀v,r v true ->¬Z v ->∀p∈af (L.getD v []),r p true
 down:∀v c,r v c ->¬Z v ->∀w,w< n ->v∈af (L.getD w []) ->r w false
 meet:∀v,r v false ->eh L Z v ->∀p∈af (L.getD v []),r p true
 none:∀y c,Y y ->¬r y c
theorem eh.lt (hT:∀v,T v ->v<n) (hL:∀w,w< n ->∀v∈af (L.getD w []),v<n) (h:eh L T v):v<n:=by
 induction h using eh.ind with
 |base h1=>exact hT _ h1
 |step _ h2 ih=>exact hL _ ih _ h2
theorem Cl.above (h:Cl L n X Y Z r) (ha:eh L X v) (hz:¬eh L Z v):r v true:=by
 induction ha using eh.ind with
 |base h1=>exact h.start _ h1
 |step h1 h2 ih=>
  have hw:¬eh L Z _:=fun hm=>hz (.step hm h2);exact h.up _ (ih hw) (fun hm=>hw (.base hm)) _ h2
theorem Cl.aa (h:Cl L n X Y Z r) (hY:∀y,Y y ->y<n) (hL:∀w,w< n ->∀v∈af (L.getD w []),v<n) (ha:eh L Y v):∀c,r v c ->¬eh L Z v ->False:=by
 induction ha using eh.ind with
 |base h1=>exact fun c hr _=>h.none _ c h1 hr
 |step h1 h2 ih=>
  intro c hr hz;have hw:¬eh L Z _:=fun hm=>hz (.step hm h2);exact ih false (h.down _ c hr (fun hm=>hz (.base hm)) _ (h1.lt hY hL) h2) hw
theorem Cl.parents (h:Cl L n X Y Z r) (hY:∀y,Y y ->y<n) (hL:∀w,w< n ->∀v∈af (L.getD w []),v<n) (ha:eh L (fun u=>X u∨Y u∨Z u) v) {c:Bool} (hr:r v c) (hz:¬Z v):∀p∈af (L.getD v []),r p true:=by
 cases c with
 |true=>exact h.up v hr hz
 |false=>
  by_cases hm:eh L Z v
  ·exact h.meet v hr hm
  ·have rN:eh L X v∨eh L Y v:=by
    have key:∀ {u:Nat},eh L (fun u=>X u∨Y u∨Z u) u ->eh L X u∨eh L Y u∨eh L Z u:=by
     intro u hu;induction hu using eh.ind with
     |base h1=>
      rcases h1 with h1 |h1 |h1
      ·exact .inl (.base h1)
      ·exact .inr (.inl (.base h1))
      ·exact .inr (.inr (.base h1))
     |step _ h2 ih=>
      rcases ih with ih |ih |ih
      ·exact .inl (.step ih h2)
      ·exact .inr (.inl (.step ih h2))
      ·exact .inr (.inr (.step ih h2))
    rcases key ha with h1 |h1 |h1
    ·exact .inl h1
    ·exact .inr h1
    ·exact absurd h1 hm
   rcases rN with hx |hy
   ·exact h.up v (h.above hx hm) hz
   ·exact(h.aa hY hL hy false hr hm).elim
open Classical in
theorem alN {V:List Vr} (h0:bA V L R=0) {fz:List (Nat×Nat)} (hb:Cl L V.length (fun v=>v∈fx.map (·.1)) (fun v=>v∈fy.map (·.1)) (fun v=>v∈fz.map (·.1)) r)
  (hx:∀p∈fx,p.1<V.length) (hy:∀p∈fy,p.1<V.length) (hz:∀p∈fz,p.1<V.length/\p.2<sz (aq V) p.1) (QL:(fz.map (·.1)).Nodup) (CY:∀p∈fx,¬p.1∈fz.map (·.1)) (Mb:∀p∈fy,¬p.1∈fz.map (·.1)):
  wD V L R (fz++(fx++fy))*wD V L R (fz++([]++[]))=wD V L R (fz++(fx++[]))*wD V L R (fz++([]++fy)):=by
 have aV:=kL h0
 have hL:∀w,w<V.length ->∀v∈af (L.getD w []),v<V.length:=fun w hw v hv=>by
  have ZI:w<L.length:=by rw[aV.len];exact hw
  rw[b6,ba ZI] at hv;obtain⟨z,hzm,rfl⟩:=aU.1 hv;have:=(fK.1 (aV.up w ZI)).1 z hzm;omega
 have hlt:∀ {f:List (Nat×Nat)},(∀p∈f,p.1<V.length) ->∀v∈f.map (·.1),v<V.length:=fun hf v hv=>by
  obtain⟨p,hp,rfl⟩:=aU.1 hv;exact hf p hp
 have hY:∀y,y∈fy.map (·.1) ->y<V.length:=fun y h=>hlt hy y h;obtain⟨T,hT⟩:∃T:Nat ->Prop,T=fun u=>u∈fx.map (·.1)∨u∈fy.map (·.1)∨u∈fz.map (·.1):=⟨_,rfl⟩
 have Si:∀v,T v ->v<V.length:=fun v h=>by
  rw[hT] at h;rcases h with h |h |h
  ·exact hlt hx v h
  ·exact hlt hy v h
  ·exact hlt (fun p hp=>(hz p hp).1) v h
 obtain⟨Z,hZ⟩:∃Z:Nat ->Prop,Z=fun u=>u∈fz.map (·.1):=⟨_,rfl⟩;obtain⟨B,hB⟩:∃B:Nat ->Prop,B=fun u=>∃c,r u c:=⟨_,rfl⟩;obtain⟨As,hAs⟩:∃As:List Nat,As=(List.range V.length).filter fun v=>decide (eh L T v):=⟨_,rfl⟩
 have Dc:∀v,v∈As↔eh L T v:=fun v=>by
  rw[hAs,cJ,dQ,ck];exact⟨fun h=>h.2,fun h=>⟨h.lt Si hL,h⟩⟩
 have hn:As.Nodup:=by rw[hAs];exact Ad.filter _
 have MV:∀v∈As,v<V.length:=fun v h=>((Dc v).1 h).lt Si hL;have hcl:oA L (·∈As):=fun v hv u hu=>(Dc u).2 (.step ((Dc v).1 hv) hu);obtain⟨bs,fE⟩:∃bs:List Nat,bs=As.filter fun v=>decide (¬Z v/\B v):=⟨_,rfl⟩;obtain⟨cs,hcs⟩:∃cs:List Nat,cs=As.filter fun v=>decide (¬Z v/\¬B v):=⟨_,rfl⟩;have Dd:∀v,v∈bs↔v∈As/\¬Z v/\B v:=fun v=>by rw[fE,cJ,dQ]
 have hmc:∀v,v∈cs↔v∈As/\¬Z v/\¬B v:=fun v=>by rw[hcs,cJ,dQ]
 have hp:As.Perm (fz.map (·.1)++(bs++cs)):=by
  refine(Hb hn ?_).2 fun v=>?_
  ·rw[ue];refine⟨QL,?_,fun a ha b hb' e=>?_⟩
   ·rw[ue];refine⟨by rw[fE];exact hn.filter _,by rw[hcs];exact hn.filter _,fun a ha b hb' e=>?_⟩;subst e;exact((hmc a).1 hb').2.2 ((Dd a).1 ha).2.2
   ·subst e;(have ZA:Z a:=by rw[hZ];exact ha);rcases bL.1 hb' with h |h
    ·exact((Dd a).1 h).2.1 ZA
    ·exact((hmc a).1 h).2.1 ZA
  ·rw[bL,bL,Dd,hmc];constructor
   ·intro h;by_cases h1:Z v
    ·left;rw[hZ] at h1;exact h1
    ·by_cases h2:B v
     ·exact .inr (.inl ⟨h,h1,h2⟩)
     ·exact .inr (.inr ⟨h,h1,h2⟩)
   ·rintro(h |h |h)
    ·exact(Dc v).2 (.base (by rw[hT];exact .inr (.inr h)))
    ·exact h.1
    ·exact h.1
 have aaS:∀v,v∈As ->eh L (fun u=>u∈fx.map (·.1)∨u∈fy.map (·.1)∨u∈fz.map (·.1)) v:=fun v h=>by have:=(Dc v).1 h;rwa [hT] at this
 have ajj:∀v∈As,(∃u,(u=v∨u∈af (L.getD v []))/\¬Z u/\B u) ->∀u,(u=v∨u∈af (L.getD v [])) ->¬Z u ->B u:=by
  rintro v hv ⟨u,hu,AO,wO⟩ t ht htz;rw[hB] at wO;obtain⟨c,hc⟩:=wO;have AH:v<V.length:=MV v hv;rw[hB];rcases hu with rfl |hu
  ·rcases ht with rfl |ht
   ·exact⟨c,hc⟩
   ·exact⟨true,hb.parents hY hL (aaS _ hv) hc (by rw[hZ] at AO;exact AO) t ht⟩
  ·have QV:r v false:=hb.down u c hc (by rw[hZ] at AO;exact AO) v AH hu;rcases ht with rfl |ht
   ·exact⟨false,QV⟩
   ·by_cases wM:Z v
    ·exact⟨true,hb.meet v QV (.base (by rw[hZ] at wM;exact wM)) t ht⟩
    ·exact⟨true,hb.parents hY hL (aaS _ hv) QV (by rw[hZ] at wM;exact wM) t ht⟩
 refine af8 h0 hn MV hcl hp (fun p h=>(hz p h).2) (fun p h=>?_) (fun p h=>?_) (fun v=>decide (∃u,(u=v∨u∈af (L.getD v []))/\¬Z u/\B u)) (fun u hu hq v hv=>?_) (fun u hu hq v hv=>?_)
 ·have hm:p.1∈fx.map (·.1):=aU.2 ⟨p,h,rfl⟩;exact(Dd p.1).2 ⟨(Dc p.1).2 (.base (by rw[hT];exact .inl hm)),by rw[hZ];exact CY p h,by rw[hB];exact⟨true,hb.start p.1 hm⟩⟩
 ·have hm:p.1∈fy.map (·.1):=aU.2 ⟨p,h,rfl⟩;refine(hmc p.1).2 ⟨(Dc p.1).2 (.base (by rw[hT];exact .inr (.inl hm))),by rw[hZ];exact Mb p h,?_⟩;rw[hB];rintro⟨c,hc⟩;exact hb.none p.1 c hm hc
 ·obtain⟨_,wM,mr⟩:=(hmc v).1 hv;have hall:=ajj u hu (kY hq);exact⟨fun e=>mr (hall v (.inl e.symm) wM),fun hm=>mr (hall v (.inr hm) wM)⟩
 ·obtain⟨_,wM,mr⟩:=(Dd v).1 hv;have hno:=of_decide_eq_false hq;exact⟨fun e=>hno ⟨v,.inl e.symm,wM,mr⟩,fun hm=>hno ⟨v,.inr hm,wM,mr⟩⟩
def gI (L:List (List Int)) (n:Nat) (X Z:Nat ->Prop) (v:Nat) (c:Bool):Prop:=∀M:Nat ->Bool ->Prop,(∀x,X x ->M x true) ->(∀v p,M v true ->¬Z v ->p∈af (L.getD v []) ->M p true) ->(∀v w c,M v c ->¬Z v ->w< n ->v∈af (L.getD w []) ->M w false) ->(∀v p,M v false ->eh L Z v ->p∈af (L.getD v []) ->M p true) ->M v c
theorem gI.start {x:Nat} (h:X x):gI L n X Z x true:=fun _ h1 _ _ _=>h1 _ h
theorem gI.up {p:Nat} (h:gI L n X Z v true) (hz:¬Z v) (hp:p∈af (L.getD v [])):gI L n X Z p true:=fun M h1 h2 h3 h4=>h2 _ _ (h M h1 h2 h3 h4) hz hp
theorem gI.down {w:Nat} {c:Bool} (h:gI L n X Z v c) (hz:¬Z v) (hw:w<n) (hp:v∈af (L.getD w [])):gI L n X Z w false:=fun M h1 h2 h3 h4=>h3 _ _ _ (h M h1 h2 h3 h4) hz hw hp
theorem gI.meet {p:Nat} (h:gI L n X Z v false) (ha:eh L Z v) (hp:p∈af (L.getD v [])):gI L n X Z p true:=fun M h1 h2 h3 h4=>h4 _ _ (h M h1 h2 h3 h4) ha hp
theorem gI.ind {M:∀v c,gI L n X Z v c ->Prop} (start:∀ {x:Nat} (h:X x),M x true (.start h)) (up:∀ {v p:Nat} (h:gI L n X Z v true) (hz:¬Z v) (hp:p∈af (L.getD v [])),M v true h ->M p true (h.up hz hp)) (down:∀ {v w:Nat} {c:Bool} (h:gI L n X Z v c) (hz:¬Z v) (hw:w<n) (hp:v∈af (L.getD w [])),M v c h ->M w false (h.down hz hw hp)) (meet:∀ {v p:Nat} (h:gI L n X Z v false) (ha:eh L Z v) (hp:p∈af (L.getD v [])),M v false h ->M p true (h.meet ha hp)):∀ {v:Nat} {c:Bool} (h:gI L n X Z v c),M v c h:=fun {_ _} h=>by
 obtain⟨_,k⟩:=h (fun v c=>∃h,M v c h) (fun _ h=>⟨_,start h⟩) (fun _ _ ⟨_,ih⟩ hz hp=>⟨_,up _ hz hp ih⟩) (fun _ _ _ ⟨_,ih⟩ hz hw hp=>⟨_,down _ hz hw hp ih⟩) (fun _ _ ⟨_,ih⟩ ha hp=>⟨_,meet _ ha hp ih⟩);exact k
def zm (L:List (List Int)) (n:Nat) (X Y Z:Nat ->Prop):Prop:=∃y c,Y y/\gI L n X Z y c
theorem gI.ball (h:¬zm L n X Y Z):Cl L n X Y Z (gI L n X Z):=
 ⟨fun _ hx=>.start hx,fun _ hr hz _ hp=>.up hr hz hp,fun _ _ hr hz _ hw hp=>.down hr hz hw hp,fun _ hr hm _ hp=>.meet hr hm hp,fun y c hy hr=>h ⟨y,c,hy,hr⟩⟩
theorem gI.lt (hX:∀v,X v ->v<n) (hL:∀w,w< n ->∀v∈af (L.getD w []),v<n) {c:Bool} (h:gI L n X Z v c):v<n:=by
 induction h using gI.ind with
 |start hx=>exact hX _ hx
 |up _ _ hp ih=>exact hL _ ih _ hp
 |down _ _ hw _ _=>exact hw
 |meet _ _ hp ih=>exact hL _ ih _ hp
theorem gI.back (hX:∀v,X v ->v<n) (hL:∀w,w< n ->∀v∈af (L.getD w []),v<n) {c:Bool} (h:gI L n X Z v c):
  ∀s,gI L n Y Z v s ->(c=true ->¬Z v) ->(c=false ->(s=true/\¬Z v)∨(s=false/\eh L Z v)) ->zm L n Y X Z:=by
 induction h using gI.ind with
 |start hx=>exact fun s hs _ _=>⟨_,s,hx,hs⟩
 |up hr hz hp ih=>
  intro s hs h1 _;exact ih false (.down hs (h1 rfl) (hr.lt hX hL) hp) (fun _=>hz) (fun e=>by cases e)
 | @down v w c hr hz hw hp ih=>
  intro s hs _ h2
  have aT:gI L n Y Z v true:=by
   rcases h2 rfl with ⟨rfl,hwz⟩ |⟨rfl,hm⟩
   ·exact .up hs hwz hp
   ·exact .meet hs hm hp
  exact ih true aT (fun _=>hz) (fun _=>.inl ⟨rfl,hz⟩)
 |meet hr hm hp ih=>
  intro s hs h1 _;exact ih false (.down hs (h1 rfl) (hr.lt hX hL) hp) (fun e=>by cases e) (fun _=>.inr ⟨rfl,hm⟩)
theorem zm.sym (hX:∀v,X v ->v<n) (hL:∀w,w< n ->∀v∈af (L.getD w []),v<n) (Mb:∀v,Y v ->¬Z v) (h:zm L n X Y Z):zm L n Y X Z:=by
 obtain⟨y,c,hy,hr⟩:=h;exact hr.back hX hL true (.start hy) (fun _=>Mb y hy) (fun _=>.inl ⟨rfl,Mb y hy⟩)
theorem zm.some (h:zm L n X Y Z):(∃x,X x)/\∃y,Y y:=by
 obtain⟨y,c,hy,hr⟩:=h;refine⟨?_,y,hy⟩;clear hy;induction hr using gI.ind with
 |start hx=>exact⟨_,hx⟩
 |up _ _ _ ih=>exact ih
 |down _ _ _ _ ih=>exact ih
 |meet _ _ _ ih=>exact ih
theorem wE (L:List (List Int)) (v:Nat):(aG L).getD v []=af (L.getD v []):=by
 by_cases h:v<L.length
 ·rw[H7 h,b6,ba h];rfl
 ·rw[b6,ig (by rw[iX];omega),b6,ig (by omega)];rfl
theorem al6 {a b:Nat} (h:dV (fun u v=>u∈(aG L).getD v []) a b):eh L T b ->eh L T a:=by
 induction h using dV.ind with
 |one h1=>exact fun hb=>.step hb (by rw[<- wE];exact h1)
 |more _ h1 ih=>exact fun hb=>ih (.step hb (by rw[<- wE];exact h1))
theorem al5 {a b:Nat} (h1:a∈(aG L).getD v []) (h:dV (fun u v=>u∈(aG L).getD v []) v b):dV (fun u v=>u∈(aG L).getD v []) a b:=by
 induction h using dV.ind with
 |one hp=>exact .more (.one h1) hp
 |more _ hp ih=>exact .more ih hp
theorem acn (h:bh L=0) (h8:L.length<=8) (hs:∀v∈s,v<L.length) (u:Nat):eh L (·∈s) u↔u∈cZ (aG L) s L.length:=by
 rw[JP h h8 hs];constructor
 ·intro ha;induction ha using eh.ind with
  |base h1=>exact⟨_,h1,.inl rfl⟩
  |step _ h2 ih=>
   obtain⟨b,hb,h3⟩:=ih;rw[<- wE] at h2;rcases h3 with rfl |h3
   ·exact⟨_,hb,.inr (.one h2)⟩
   ·exact⟨b,hb,.inr (al5 h2 h3)⟩
 ·rintro⟨b,hb,rfl |h1⟩
  ·exact .base hb
  ·exact al6 h1 (.base hb)
theorem LP (h:bh L=0) (h8:L.length<=8) {x y z:List Int} (hap:ia L.length [x,y,z]=true):nR L x y z=true↔zm L L.length (·∈af x) (·∈af y) (·∈af z):=by
 have hr:gR [x,y,z] L.length=true:=by
  rw[ia,fD] at hap;exact hap.1
 have hz:Up z L.length:=kK (dN.1 hr z (by simp));have hzl:=ui hz;have hgb:=(xg h).1;rw[Yf h h8 hap];constructor
 ·rintro⟨v,c,hy,hw⟩;refine⟨v,c,hy,?_⟩;clear hy;induction hw using fF.ind with
  |start hx=>exact .start hx
  |up _ h1 h2 ih=>exact .up ih h1 (by rw[<- wE];exact h2)
  |down _ h1 h2 ih=>exact .down ih h1 (Fl hgb h2).2 (by rw[<- wE];exact h2)
  |meet _ h1 h2 ih=>exact .meet ih ((acn h h8 hzl _).2 h1) (by rw[<- wE];exact h2)
 ·rintro⟨v,c,hy,hw⟩;refine⟨v,c,hy,?_⟩;clear hy;induction hw using gI.ind with
  |start hx=>exact .start hx
  |up _ h1 h2 ih=>exact .up ih h1 (by rw[wE];exact h2)
  |down _ h1 _ h2 ih=>exact .down ih h1 (by rw[wE];exact h2)
  |meet _ h1 h2 ih=>exact .meet ih ((acn h h8 hzl _).1 h1) (by rw[wE];exact h2)
theorem acj {x y z:List Int} (h:ia n [x,y,z]=true):ia n [y,x,z]=true:=by
 rw[ia,fD,dQ] at h⊢;refine⟨?_,?_⟩
 ·rw[gR,dN] at h⊢;intro l hl;refine h.1 l ?_;simp only[cT,iT,oC] at hl⊢;rcases hl with rfl |rfl |rfl
  ·exact .inr (.inl rfl)
  ·exact .inl rfl
  ·exact .inr (.inr rfl)
 ·refine(List.Perm.nodup_iff ?_).1 h.2;simp only[List.flatten_cons,List.flatten_nil,l8];rw[<- jh, <- jh];exact List.Perm.append_right _ List.perm_append_comm
theorem Ye (h:bh L=0):∀w,w<L.length ->∀v∈af (L.getD w []),v<L.length:=fun w _ v hv=>by
 rw[<- wE] at hv;exact(Fl (xg h).1 hv).1
theorem alV (h:bh L=0) (h8:L.length<=8) {x y z:List Int} (hap:ia L.length [x,y,z]=true):nR L x y z=nR L y x z:=by
 have hsw:=acj hap
 have aT:∀ {x y z:List Int},ia L.length [x,y,z]=true ->(∀v,v∈af x ->v<L.length)/\∀v,v∈af y ->¬v∈af z:=fun {x y z} hap=>by
  have hr:gR [x,y,z] L.length=true:=by
   rw[ia,fD] at hap;exact hap.1
  have hm:=((Nx hr).1 hap).2;rw[Ig] at hm;exact⟨ui (kK (dN.1 hr x (by simp))),fun v hy hz=>hm v (cJ.2 ⟨Cv _ hy,bT hz⟩)⟩
 rw[ug,LP h h8 hap,LP h h8 hsw];exact⟨fun ho=>ho.sym (aT hap).1 (Ye h) (aT hap).2,fun ho=>ho.sym (aT hsw).1 (Ye h) (aT hsw).2⟩
theorem alW (h:bh L=0) (h8:L.length<=8) {x y z:List Int} (hap:ia L.length [x,y,z]=true) (ho:nR L x y z=true):x≠[]/\y≠[]:=by
 obtain⟨⟨u,hu⟩,v,hv⟩:=((LP h h8 hap).1 ho).some;exact⟨(fun e=>by rw[e] at hu;cases hu),(fun e=>by rw[e] at hv;cases hv)⟩
theorem alX {V:List Vr} (h0:bA V L R=0) (hg:bh L=0) (h8:L.length<=8) {x y z:List Int} (hap:ia L.length [x,y,z]=true) (ho:nR L x y z=false) {fz:List (Nat×Nat)} (ex:fx.map (·.1)=af x) (ey:fy.map (·.1)=af y) (ez:fz.map (·.1)=af z) (hz:∀p∈fz,p.2<sz (aq V) p.1):
  ei V L R (fx++fy++fz)*ei V L R fz=ei V L R (fx++fz)*ei V L R (fy++fz):=by
 have aV:=kL h0
 have hr:gR [x,y,z] L.length=true:=by
  rw[ia,fD] at hap;exact hap.1
 have hux:Up x L.length:=kK (dN.1 hr x (by simp));have huy:Up y L.length:=kK (dN.1 hr y (by simp));have AO:Up z L.length:=kK (dN.1 hr z (by simp));have hm:=((Nx hr).1 hap).2;rw[Ig] at hm
 have hlt:∀ {f:List (Nat×Nat)} {l:List Int},f.map (·.1)=af l ->Up l L.length ->∀p∈f,p.1<V.length:=fun {f l} e hu p hp=>by
  rw[<- aV.len];exact ui hu p.1 (by rw[<- e];exact aU.2 ⟨p,hp,rfl⟩)
 have hno:¬zm L V.length (fun v=>v∈fx.map (·.1)) (fun v=>v∈fy.map (·.1)) (fun v=>v∈fz.map (·.1)):=fun hw=>by
  rw[ex,ey,ez, <- aV.len] at hw;rw[(LP hg h8 hap).2 hw] at ho;cases ho
 have QL:(fz.map (·.1)).Nodup:=by
  rw[ez,af];refine yh.2 ((fK.1 AO).2.imp_of_mem fun {a b} ha hb hab=>?_);have:=(fK.1 AO).1 a ha;omega
 have key:=alN h0 (gI.ball hno) (hlt ex hux) (hlt ey huy) (fun p hp=>⟨hlt ez AO p hp,hz p hp⟩) QL (fun p hp IA=>?_) (fun p hp IA=>?_)
 ·have e1:ei V L R (fx++fy++fz)=ei V L R (fz++(fx++fy)):=Qz V L R _ _;have e2:ei V L R (fx++fz)=ei V L R (fz++(fx++[])):=by rw[l8];exact Qz V L R _ _
  have e3:ei V L R (fy++fz)=ei V L R (fz++([]++fy)):=Qz V L R _ _;have e4:ei V L R fz=ei V L R (fz++([]++[])):=by rw[l8,l8]
  rw[e1,e2,e3,e4];exact key
 ·refine hm p.1 (cJ.2 ⟨yj _ ?_,bT (by rw[<- ez];exact IA)⟩);rw[<- ex];exact aU.2 ⟨p,hp,rfl⟩
 ·refine hm p.1 (cJ.2 ⟨Cv _ ?_,bT (by rw[<- ez];exact IA)⟩);rw[<- ey];exact aU.2 ⟨p,hp,rfl⟩
theorem ahL (k:Int):mkRat k 1=(k:Rat):=by
 rw[Rat.mkRat_one]
open Go
theorem JG (h:u<10):Lib.decDigits u=[UInt8.ofNat (48+u)]:=by rw[Lib.decDigits,dif_pos h]
theorem abH (h:¬u<10):Lib.decDigits u=Lib.decDigits (u/10)++[UInt8.ofNat (48+u % 10)]:=by rw[Lib.decDigits,dif_neg h]
theorem ak3 (k:Nat):∀n,n<10^(k+1) ->(decDigits n).length<=k+1:=by
 induction k with
 |zero=>intro n h;rw[JG (by simpa using h)];simp
 |succ k ih=>
  intro n h;by_cases h9:n<10
  ·rw[JG h9];simp
  ·rw[abH h9,bM];have:=ih (n/10) (by rw[gS] at h;omega);simp;omega
theorem ak4 (h:n<256^k):(decDigits n).length<=3*k+1:=by
 apply ak3;have h1:(256:Nat)^k<=(10^3)^k:=Nat.pow_le_pow_left (by decide) k;rw[<- Nat.pow_mul] at h1;have h2:10^(3*k)<=10^(3*k+1):=jf (by decide) (by omega);omega
def uW (n:Nat):List UInt8:=if n=0 then[] else decDigits n
theorem ak0 (h:n≠0):uW n=uW (n/10)++[UInt8.ofNat (48+n % 10)]:=by
 rw[uW,aD h];by_cases h9:n<10
 ·rw[JG h9,uW,aB (by omega),gi,iQ h9]
 ·rw[abH h9,uW,aD (by omega)]
theorem afc (a:ByteArray) (w:World) (ha:a.size<=500000):
  Calls Tryz.prog 61 #[.string a] w fun e w'=>e=.returned (.string ⟨(decDigits (N a)).toArray⟩)/\Below w.heap.size w w':=by
 have HT:=aF (lu a w (by omega));have sa:=aM (iu a) ha;have rQ:=ak4 (Cm (N a));generalize hA':N a=A at *;clear hA' ha;by_cases rW:A=0
 ·subst rW;rw[x4] at HT;have HZ:Hid (decDigits 0=[48]):=JG (by decide);rw[HZ.o];clear rQ;go_enter Tryz.func61,Tryz.ntmps61;go_wp2_with fail
  refine(HT.o).ae ?_;rintro e w1 ⟨rfl,hw⟩;subst hw;go_wp2;go_ret;exact⟨rfl,aw _ _⟩
 ·have hne:=zW rW;have zR:Hid (uW A=decDigits A):=aD rW;have aaX:N ⟨#[10]⟩=10:=rfl;go_enter Tryz.func61,Tryz.ntmps61;go_wp2_with fail
  refine(HT.o).ae ?_;rintro e w1 ⟨rfl,hw⟩;subst hw;clear HT;go_wp2;go_loopg [0,3] A (fun n va vs wr=>∃s:ByteArray,va=.string (B n)/\vs=.string s/\(B n).size<=500000/\Hid (uW n++s.data.toList=uW A)/\Below w1.heap.size w1 wr)
  case atStart=>exact⟨⟨#[]⟩,rfl,rfl,sa,(show _=_ by simp),aw _ _⟩
  case round=>
   obtain⟨s,rfl,rfl,hn,HS,bU⟩:=hrel;clear hne;by_cases h0:gk=0
   ·subst h0;rw[x4]
    have HE:Hid (s=⟨(decDigits A).toArray⟩):=by
     show _=_;have:=HS.o;rw[uW,aB rfl,gi,zR.o] at this;apply K2;apply K3.1;rw[this]
    go_wp2;go_ret;exact⟨by rw[<- HE.o];rfl,bU⟩
   ·have hne:=zW h0;have RL:=fun V=>Xk (B gk) ⟨#[10]⟩ V hn (by show 1<=_;omega) (by rw[aaX];decide);rw[cO,aaX] at RL;have HD:=aF RL;have ang:gk % 10<10:=gJ _ (by decide);have hsm:(B (gk % 10)).size<=500000:=aM (j7 (Nat.mod_le _ _)) hn;have RQ:=fun V=>D7 (B (gk % 10)) 0 V (by omega) (by omega);rw[cO,G6,Cs,iQ (show gk % 10<256 by omega)] at RQ;have HG:=aF RQ;have hq:=aM (j7 (vQ gk 10)) hn
    have ZU:s.size<=1500001:=by
     have e:=dt List.length HS.o;rw[bM,xp,zR.o] at e;omega
    have hlt:gk/10<gk:=Nat.div_lt_self (jY h0) (by decide);have hst:=ak0 h0
    have o8:Hid (uW (gk/10)++(strOfNums [48+((gk % 10:Nat):Int)]++s).data.toList=uW A):=by
     show _=_;rw[<- HS.o,hst,ByteArray.data_append,Array.toList_append,EH,jh];(have this:(48+((gk % 10:Nat):Int)).toNat=48+gk % 10:=by omega);rw[fH,j5,this]
    clear hst RL RQ hn hsm;generalize hd':gk % 10=d at *;clear hd'
    have wX:=fun V:World=>EI (P:=Tryz.prog) (V.alloc (.cells #[.int .u8 (48+(d:Int))] 5)) 152 5 Tryz.underlying152 Tryz.underlying5 V.heap.size 0 1 1 [48+(d:Int)] rfl (fun i hi=>by
     (obtain rfl:i=0:=by omega);rw[bE _ V.heap.size (0+0) _ _ (0,0) (fP _ _)];rfl) 9 Tryz.underlying9
    have hs1:(strOfNums [48+(d:Int)]).size=1:=strOfNums_size _;go_wp2_with fail
    refine(HD.o _).ae ?_;rintro e w2 ⟨rfl,hb2⟩;go_wp2_with fail
    refine(HG.o _).ae ?_;rintro e w3 ⟨rfl,hw3⟩;subst hw3;have anu:=wX w3;clear wX;go_wp2;go_roundg (gk/10)
    case measure=>exact hlt
    case rel=>exact⟨strOfNums [48+(d:Int)]++s,rfl,rfl,hq,o8.o,(bU.trans (hb2.ae bU.size)).alloc (bU.trans (hb2.ae bU.size)).size _⟩
def F9 (i:Nat):ByteArray:=⟨(decDigits i).toArray⟩
theorem Te (h:i<10):(F9 i).size=1:=by
 rw[F9,JG h];rfl
abbrev iz (c:UInt8) (i:Nat):ByteArray:=⟨#[c]⟩++F9 i
def qi (k:Nat):List ByteArray:=(List.range k).map (iz 118)
theorem adF (k:Nat):qi (k+1)=qi k++[iz 118 k]:=by simp[qi,ud]
theorem K9 (k:Nat):(qi k).length=k:=by simp[qi]
theorem Xg (i:Nat) (w:World) (hi:i<=1000):Calls Tryz.prog 62 #[.int .i64 (i:Nat)] w fun e w'=>e=.returned (.string (B i))/\Below w.heap.size w w':=by
 have:=Ff (i:Int) w (by omega) (by omega);rwa [nH] at this
theorem Xe (i:Nat) (w:World) (hi:i<=1000):Calls Tryz.prog 61 #[.string (B i)] w fun e w'=>e=.returned (.string (F9 i))/\Below w.heap.size w w':=by
 have:=afc (B i) w (by
  have h1:(B i).size<=1000:=by rw[kX];exact aM (oZ 2 i (by omega)) (by omega)
  omega)
 rwa [cO] at this
theorem ku.empty (w:World) (B:Nat):ku w B (.slice none 0 0) []:=⟨rfl,.inl ⟨rfl,rfl⟩⟩
theorem ku.step {B:Nat} {v:Value} {l:List ByteArray} (h:ku w B v l) (hb:Below w.heap.size w w'):ku w' B v l:=by
 refine⟨h.1,?_⟩;rcases h.2 with h1 |⟨g,cap,cur,h1,h2,h3,h4⟩
 ·exact .inl h1
 ·exact .inr ⟨g,cap,cur,h1,h2,(hb.block g (cV.1 h3).1).trans h3,h4⟩
theorem alD (k:Nat) (w:World) (hk:k<=3):
  Calls Tryz.prog 63 #[.int .i64 (k:Nat)] w fun e w'=>∃x,e=.returned x/\ku w' w.heap.size x (qi k)/\Below w.heap.size w w':=by
 have T8:=hid (fun (i:Nat) (hi:i<=1000) (U:World)=>Xg i U hi);have xE:=hid (fun (i:Nat) (hi:i<=1000) (U:World)=>Xe i U hi);go_enter Tryz.func63,Tryz.ntmps63;go_wp2_with fail
 go_loopw [3,4] (fun x iv wr=>∃i:Nat,i<=k/\iv=.int .i64 i/\Hid (ku wr w.heap.size x (qi i))/\Hid (Below w.heap.size w wr)) (fun _ iv _=>k - (intOf iv).toNat)
 case atStart=>exact⟨0,aX _,rfl,ku.empty _ _,aw _ _⟩
 case round=>
  obtain⟨i,hi,rfl,HR,HB⟩:=hrel;by_cases hlt:i<k
  ·go_wp2_with fail
   refine(T8.o i (by omega) _).ae ?_;rintro e w1 ⟨rfl,hb1⟩;go_wp2_with fail
   refine(xE.o i (by omega) _).ae ?_;rintro e w2 ⟨rfl,hb2⟩;have y5:=hb1.trans (hb2.ae hb1.size);have fW:=hid (HR.o.step y5);have bq:=hid (HB.o.trans (y5.ae HB.o.size));clear hb1 hb2 y5 HR HB;have pg:=hid (fW.o.step ((aw _ w2).alloc (ak _) (.cells #[.string (iz 118 i)] 9)));have cF:=hid (bq.o.alloc bq.o.size (.cells #[.string (iz 118 i)] 9));have lV:=hid (agM w2 (iz 118 i));have fE:w.heap.size<=(w2.alloc (.cells #[.string (iz 118 i)] 9)).heap.size:=cF.o.size;have iA:=K9 i;have vv:=hid (adF i);have hdz:=Te (i:=i) (by omega);go_wp2_with (at_builtin;refine adg rfl _ _ rfl w.heap.size _ (qi i) (iz 118 i) rfl pg.o w2.heap.size rfl lV.o (by omega) fE ?_;intro v' w3 hr3 hg3;have fA:=hid (cF.o.grown hg3 fE (fun k e=>pg.o.own k e)))
   go_roundw
   case rel=>exact⟨i+1,by omega,by go_num,by rw[vv.o];exact hr3,fA⟩
   case measure=>simp[intOf];omega
  ·obtain rfl:i=k:=by omega
   go_wp2;go_ret;exact⟨_,rfl,HR.o,HB.o⟩
def nP (Ls:List Nat):List Fr:=Ls.map fun a:Nat=>qF ((a:Rat)/(Ls.sum:Rat))
theorem PN (Ls:List Nat):(nP Ls).length=Ls.length:=by simp[nP]
theorem Xq (h:n<256):qw (n:Rat)<=2:=by
 have h1:(n:Rat).num.natAbs=n:=by simp
 have h2:(n:Rat).den=1:=rfl;rw[qw,h1,h2,kX,kX];have h3:=oZ 1 n (by omega);have h4:=oZ 1 1 (by omega);omega
theorem Ld:∀ {Ls:List Nat},(∀a∈Ls,a<=6) ->Ls.sum<=6*Ls.length
 |[],_=>ak _
 |a::l,h=>by
  have h1:=h a c5;have h2:=Ld fun b hb=>h b (dD _ hb);simp only[List.sum_cons,di];omega
theorem ae8 {Ls:List Nat} (h:∀a∈Ls,a<=6) (hl:Ls.length<=3) (hs:1<=Ls.sum):∀f∈nP Ls,f.2.1.size+f.2.2.size<=2:=by
 intro f hf;obtain⟨a,ha,rfl⟩:=aU.1 hf;have h6:=Ld h;have h1:=h a ha;show (nu ((a:Rat)/(Ls.sum:Rat))).size+(de ((a:Rat)/(Ls.sum:Rat))).size<=2;rw[sU];have rQ:Fits 1 ((a:Rat)/(Ls.sum:Rat)):=⟨(a:Int),Ls.sum,by omega,by rw[Rat.mkRat_eq_div];rfl,by omega,by simp;omega⟩;exact Na rQ
theorem ae9 {Ls:List Nat} (hs:1<=Ls.sum):jH (nP Ls)=true:=by
 have hne:(Ls.sum:Rat)≠0:=fun e=>by
  have e':Ls.sum=0:=by exact_mod_cast e
  omega
 have lF:(0:Rat)<(Ls.sum:Rat):=Rat.lt_of_le_of_ne Rat.natCast_nonneg (Ne.symm hne);rw[jH,fD];constructor
 ·rw[dN];intro f hf;obtain⟨a,ha,rfl⟩:=aU.1 hf;refine bT ?_;rw[pT,Rat.not_lt];have ha0:(0:Rat)<=(a:Rat):=Rat.natCast_nonneg;rw[ye];exact Rat.mul_nonneg ha0 (Rat.le_of_lt (Rat.inv_pos.2 lF))
 ·refine bT ?_
  have key:∀(l:List Nat) (s c:Rat),(l.map fun a:Nat=>qF ((a:Rat)/c)).foldl (fun s f=>s+F7 f) s=s+(l.sum:Rat)/c:=by
   intro l;induction l with
   |nil=>intro s c;show s=s+((0:Nat):Rat)/c;rw[ye];grind
   |cons a l ih=>
    intro s c;rw[fH,Ag,ih,show F7 (qF ((a:Rat)/c))=(a:Rat)/c from pT _,List.sum_cons,ye,ye,ye,Rat.natCast_add,Rat.add_mul,G4]
  rw[fR,nP,key,Rat.zero_add,ye,Rat.mul_inv_cancel _ hne]
variable {cap:Nat}
theorem Zy (Ls:List Nat) (a:Nat):iL (Ls++[a])=iL Ls++[(a:Int)]:=by simp[iL]
theorem bD.put {B:Nat} (h:bD w B (.slice (some ⟨g,0,none⟩) n cap) l) (j:Nat) (y:Int):bD (w.setCell ⟨g,j,none⟩ (.int .i64 y)) B (.slice (some ⟨g,0,none⟩) n cap) (l.set j y):=by
 rcases h.2 with ⟨h1,_⟩ |⟨g',cap',cur,h1,h2,h3,h4,h5,h6,h7⟩
 ·cases h1
 ·cases h1;refine⟨by simp,.inr ⟨g,cap,_,by simp,h2,jX w g j _ _ _ h3,by simpa using h4,h5,by simpa using h6,?_⟩⟩;rw[Array.toList_setIfInBounds,uf,Cy, <- h7,List.take_set]
theorem iO.lower {B:Nat} {v:Value} {l:List Fr} (h:iO w B v l) (hb:B'<=B):iO w B' v l:=by
 refine⟨h.1,?_⟩;rcases h.2 with h1 |⟨g,cap,cur,h1,h2,h3,h4⟩
 ·exact .inl h1
 ·exact .inr ⟨g,cap,cur,h1,aM hb h2,h3,h4⟩
theorem bD.emptyB (w:World) (B:Nat):bD w B (.slice none 0 0) []:=⟨rfl,.inl ⟨rfl,rfl⟩⟩
structure JR (Ls:List Nat) (i:Nat):Prop where
 len:Ls.length=i
 six:∀a∈Ls,a<=6
theorem aeW (d:Option Addr) (cd k n:Nat) (W:List Int) (w:World) (hW:aC w d W) (hr:∀x∈W, -9223372036854775808<=x/\x<=9223372036854775807) (hk:k<=100000) (eO:1<=n) (uB:n<=5) (MG:W.length<=140737488355328):
  Calls Tryz.prog 64 #[.slice d W.length cd,.int .i64 (k:Nat),.int .i64 (n:Nat)] w fun e w'=>∃(x:Value) (Ls:List Nat),e=.returned x/\iO w' w.heap.size x (nP Ls)/\JR Ls n/\1<=Ls.sum/\Below w.heap.size w w':=by
 have HW:=hid hW;have HR:=hid hr;have vF:=hid (fun (c:Int) (h: -9223372036854775808<=c/\c<=9223372036854775807) (U:World)=>Ln c 7 U h.1 h.2 (by omega) (by omega));have fX:=hid (fun (c:Int)=>Lu c (n:=7) (by omega));have q8:=hid (fun (a:Nat) (h:a<=100) (U:World)=>afi (a:Int) U (by omega) (by omega))
 have acP:Hid (∀(a:Nat),a<=100 ->∀U:World,Calls Tryz.prog 22 #[.int .i64 (a:Nat)] U fun e w'=>e=.returned (fh (qF (a:Rat)))/\Below U.heap.size U w'):=fun a ha U=>by
  have h:=q8.o a ha U;rw[ahL] at h;exact h
 have HDV:Hid (∀(a s:Nat),a<=100 ->1<=s ->s<=100 ->∀U:World,Calls Tryz.prog 92 #[fh (qF (a:Rat)),fh (qF (s:Rat))] U fun e w'=>e=.returned (.tuple #[fh (qF ((a:Rat)/(s:Rat))),.int .i64 0])/\Below U.heap.size U w'):=fun a s ha hs1 hs2 U=>by
  have hne:(s:Rat)≠0:=fun e=>by
   (have e':s=0:=by exact_mod_cast e);omega
  have h:=aft (cI (a:Rat)) (cI (s:Rat)) (nu (a:Rat)) (de (a:Rat)) (nu (s:Rat)) (de (s:Rat)) U (by rw[rF];exact hne) (by rw[sU];have:=Xq (n:=a) (by omega);omega) (by rw[sU];have:=Xq (n:=s) (by omega);omega);rw[rF,rF] at h;exact h
 clear q8;have q8:=acP;clear acP hW hr;go_enter Tryz.func64,Tryz.ntmps64;go_wp2_with fail
 go_loopw [7,8,9] (fun x sv iv wr=>∃(i:Nat) (Ls:List Nat),i<=n/\iv=.int .i64 i/\sv=.int .i64 (Ls.sum:Nat)/\Hid (JR Ls i)/\Hid (bD wr w.heap.size x (iL Ls))/\Hid (Below w.heap.size w wr)) (fun _ _ iv _=>n - (intOf iv).toNat)
 case atStart=>exact⟨0,[],aX _,rfl,rfl,⟨rfl,fun a ha=>by cases ha⟩,bD.emptyB _ _,aw _ _⟩
 case round=>
  obtain⟨i,Ls,hi,rfl,rfl,HL,HX,HB⟩:=hrel;by_cases hlt:i<n
  ·have Q8:Ls.sum<=100:=by have:=Ld HL.o.six;have:=HL.o.len;omega
   have dJ:=HL.o.len;by_cases hw0:0<W.length
   ·obtain⟨ki,hki⟩:∃ki,ki=k+i:=⟨_,rfl⟩;(have hwr:IntKind.i64.wrap ((k:Int)+(i:Int))=(ki:Int):=by rw[gV];omega);obtain⟨t,ht⟩:∃t,t=ki % W.length:=⟨_,rfl⟩;(have nT:t<W.length:=by rw[ht];exact gJ _ hw0);(have Iw:(ki:Int) % (W.length:Int)=(t:Int):=by rw[ht,rD]);obtain⟨g',o',rfl,gD,cW⟩:=(HW.o.aa HB.o) t nT;have hxr:=HR.o W[t] (bY nT);have hpl:=fX.o W[t];have Kl:=hid (fun U=>vF.o W[t] hxr U);(have am1:(0:Int)<(W.length:Int):=by omega);(have am2:¬(W.length:Int)=0:=by omega);(have QS:IntKind.i64.wrap ((ki:Int) % (W.length:Int))=(t:Int):=by rw[Iw,gV];omega);clear ht hki hw0;generalize W[t]=wt at *;generalize sR wt 7=p at *;go_wp2_with fail
    refine(Kl.o _).ae ?_;rintro e w1 ⟨rfl,hb1⟩;have JY:=hid (HX.o.aa hb1);have cP:=hid (HB.o.trans (hb1.ae HB.o.size));have jz:=hid (JY.o.aa ((aw _ w1).alloc (ak _) (.cells #[.int .i64 (p:Int)] 3)));have cF:=hid (cP.o.alloc cP.o.size (.cells #[.int .i64 (p:Int)] 3));have mO:=hid (Fp w1 (p:Int));have fE:w.heap.size<=(w1.alloc (.cells #[.int .i64 (p:Int)] 3)).heap.size:=cF.o.size;(have qD:(iL Ls).length=i:=by rw[bF];exact dJ);have vv:=hid (Zy Ls p);(have hsm:IntKind.i64.wrap ((Ls.sum:Int)+(p:Int))=(((Ls++[p]).sum:Nat):Int):=by rw[gV];simp;omega);have Ef:Hid (JR (Ls++[p]) (i+1)):=⟨by simp[dJ],fun a ha=>by rcases bL.1 ha with ha |ha;exact HL.o.six a ha;rw[eA.1 ha];omega⟩;generalize hs2:(Ls++[p]).sum=s2 at *;have o8:=hid hs2;clear hs2;clear cW hb1 HX HB JY cP;go_wp2_with (at_builtin;refine yo rfl _ _ rfl w.heap.size _ (iL Ls) [(p:Int)] rfl jz.o (some ⟨w1.heap.size,0,none⟩) 1 rfl mO.o (fun e=>by cases e) (by simp;omega) fE ?_;intro v' w3 hr3 hg3;have fA:=hid (cF.o.grown hg3 fE (fun k e=>jz.o.own k e)))
    go_roundw
    case rel=>exact⟨i+1,Ls++[p],by omega,by go_num,by rw[o8.o],Ef,by rw[vv.o];exact hr3,fA⟩
    case measure=>simp[intOf];omega
   ·have tx:¬(0:Int)<(W.length:Int):=by omega
    have ai7:decide (0<W.length)=false:=cj (by omega);have jz:=hid (HX.o.aa ((aw _ wr).alloc (ak _) (.cells #[.int .i64 1] 3)));have cF:=hid (HB.o.alloc HB.o.size (.cells #[.int .i64 1] 3));have mO:=hid (Fp wr 1);have fE:w.heap.size<=(wr.alloc (.cells #[.int .i64 1] 3)).heap.size:=cF.o.size;(have qD:(iL Ls).length=i:=by rw[bF];exact dJ);have vv:=hid (Zy Ls 1);(have hsm:IntKind.i64.wrap ((Ls.sum:Int)+1)=(((Ls++[1]).sum:Nat):Int):=by rw[gV];simp;omega);have Ef:Hid (JR (Ls++[1]) (i+1)):=⟨by simp[dJ],fun a ha=>by rcases bL.1 ha with ha |ha;exact HL.o.six a ha;rw[eA.1 ha];omega⟩;have o8:=hid (Eq.refl (Ls++[1]).sum);generalize hs2:(Ls++[1]).sum=s2 at *;have Ek:=hid hs2;clear hs2 o8 HX HB hw0;go_wp2_with (at_builtin;refine yo rfl _ _ rfl w.heap.size _ (iL Ls) [(1:Int)] rfl jz.o (some ⟨wr.heap.size,0,none⟩) 1 rfl mO.o (fun e=>by cases e) (by simp;omega) fE ?_;intro v' w3 hr3 hg3;have fA:=hid (cF.o.grown hg3 fE (fun k e=>jz.o.own k e)))
    go_roundw
    case rel=>exact⟨i+1,Ls++[1],by omega,by go_num,by rw[Ek.o],Ef,by rw[vv.o];exact hr3,fA⟩
    case measure=>simp[intOf];omega
  ·obtain rfl:n=i:=by omega
   (have Q8:Ls.sum<=100:=by have:=Ld HL.o.six;have:=HL.o.len;omega);have dJ:=HL.o.len;by_cases hs0:Ls.sum=0
   focus
    (have Df:0<(iL Ls).length:=by rw[bF];omega);rcases HX.o.cases with ⟨_,hnil⟩ |⟨g,cap,rfl,hg0,hg,hc1,hc2,hh⟩
    ·rw[hnil] at Df;exact absurd Df (by simp)
    focus
     have hput:=HX.o.put 0 1;obtain⟨hc0,hf0⟩:=hh 0 (by simpa using Df);rw[bI] at hc0 hf0;have rj:=hid (HB.o.setCell (p:=⟨g,0,none⟩) hg0 (.int .i64 1));(have Rx:(iL Ls).length=n:=by rw[bF];exact dJ);rw[Rx]
     obtain⟨a0,l0,rfl⟩:∃a0 l0,Ls=a0::l0:=by
      cases Ls with
      |nil=>rw[<- dJ] at eO;exact absurd eO (by simp)
      |cons a0 l0=>exact⟨a0,l0,rfl⟩
     (have ha0:a0=0/\l0.sum=0:=by simp at hs0;exact hs0)
     have mL:Hid (bD (wr.setCell ⟨g,0,none⟩ (.int .i64 1)) w.heap.size (.slice (some ⟨g,0,none⟩) n cap) (iL (1::l0))):=by
      rw[Rx] at hput;exact hput
     have BS:Hid (JR (1::l0) n):=⟨by simpa using dJ,fun a ha=>by rcases cT.1 ha with rfl |ha;omega;exact HL.o.six a (dD _ ha)⟩;have xF:Hid ((1::l0).sum=1/\1<=1/\1<=100):=⟨by simp[ha0.2],by omega,by omega⟩;(have bS:(0:Int)<(n:Int):=by omega);rw[hs0,show ((0:Nat):Int)=0 from rfl];clear hs0 hput hh HX HB Rx Q8 dJ HL;go_upto_region 14 with fail
     clear hc0 hf0 ha0;generalize (wr.setCell ⟨g,0,none⟩ (.int .i64 1))=wb at *;have xB:=mL;have bq:=rj;obtain⟨S,hS⟩:∃S:Nat,S=1:=⟨1,rfl⟩;obtain⟨jy,hL2⟩:∃jy,jy=1::l0:=⟨_,rfl⟩;rw[<- hL2] at BS xF xB;(have acD:Hid (jy.sum=S/\1<=S/\S<=100):=by rw[hS];exact xF);(have e1:(1:Int)=((S:Nat):Int):=by rw[hS];rfl);rw[e1];clear xF mL rj hL2 hS e1;have xF:=acD;clear acD
   rotate_left
   focus
    (have Q9:¬(Ls.sum:Int)=0:=by omega);obtain⟨S,hS⟩:∃S,Ls.sum=S:=⟨_,rfl⟩;have xF:Hid (Ls.sum=S/\1<=S/\S<=100):=⟨hS,by omega,by omega⟩;rw[hS] at Q9⊢;obtain⟨jy,hL2⟩:∃jy,jy=Ls:=⟨_,rfl⟩;rw[<- hL2] at HL HX xF;have BS:=HL;have xB:=HX;have bq:=HB;(have Q6:((S:Int)==0)=false:=by simpa using Q9);clear hs0 hS hL2 HL HX HB Q8 dJ;go_upto_region 14 with fail
    clear Q9 Q6;generalize wr=wb at *
   all_goals
    obtain⟨d7,zl,e7,I1⟩:=xB.o.ints;have HI7:=hid I1;(have aat:(iL jy).length=n:=by rw[bF];exact BS.o.len);rw[aat] at e7;cases e7;have hS1:=xF.o.2.1;have MJ:=xF.o.2.2;have Ei:=hid xF.o.1;(have iq:Hid ((nP jy).length=n):=by show _=_;rw[PN];exact BS.o.len);(have vJ:Hid (∀j (h:j<jy.length),(nP jy)[j]'(by rw[PN];exact h)=qF ((jy[j]:Rat)/(S:Rat))):=fun j h=>by simp[nP,Ei.o]);clear I1 xF;go_wp2_with fail
    go_loopw [11,12] (fun x iv wr2=>∃i:Nat,i<=n/\iv=.int .i64 i/\Hid (iO wr2 wb.heap.size x ((nP jy).take i))/\Hid (Below wb.heap.size wb wr2)) (fun _ iv _=>n - (intOf iv).toNat)
    case atStart=>exact⟨0,aX _,rfl,iO.empty _ _,aw _ _⟩
    case round=>
     obtain⟨i,hi,rfl,HY,lW⟩:=hrel;by_cases hlt:i<n
     ·have I0:i<(iL jy).length:=by rw[aat];exact hlt
      (have FV:i<jy.length:=by rw[<- bF];exact I0);obtain⟨g',o',e8,gD,cL⟩:=(HI7.o.aa lW.o) i I0;cases e8;(try rw[bI] at cL)
      (have e1:(iL jy)[i]'I0=((jy[i]'FV:Nat):Int):=by simp[iL]);rw[e1] at cL;have ha6:=BS.o.six (jy[i]'FV) (bY FV);have I8:=vJ.o i FV;(have HST:Hid ((nP jy).take i++[qF (((jy[i]'FV:Nat):Rat)/(S:Rat))]=(nP jy).take (i+1)):=by show _=_;rw[gh (by rw[iq.o];exact hlt),I8]);clear e1 I8;generalize (jy[i]'FV)=av at *;have tP:=hid (fun U=>q8.o av (by omega) U);have Ko:=hid (fun U=>q8.o S (by omega) U);have amL:=hid (fun U=>HDV.o av S (by omega) (by omega) (by omega) U);generalize qF ((av:Nat):Rat)=fa at *;generalize qF ((S:Nat):Rat)=fs at *;generalize qF (((av:Nat):Rat)/((S:Nat):Rat))=fq at *;obtain⟨an,ax,ay⟩:=fa;obtain⟨sn,sx,sy⟩:=fs;obtain⟨qn,qx,qy⟩:=fq;go_wp2_with fail
      refine(tP.o _).ae ?_;rintro e v1 ⟨rfl,hb1⟩;go_wp2_with fail
      refine(Ko.o _).ae ?_;rintro e v2 ⟨rfl,hb2⟩;go_wp2_with fail
      refine(amL.o _).ae ?_;rintro e v3 ⟨rfl,hb3⟩;have aaP:=hb2.trans (hb3.ae hb2.size);have y4:=hb1.trans (aaP.ae hb1.size);clear hb1 hb2 hb3 aaP;have bB:=aL.new v3 qn qx qy;have hb4:=y4.alloc y4.size (FC qn qx qy);obtain⟨k0,k1,k2, -⟩:=bB.facts
      have aaF:aL ((v3.alloc (FC qn qx qy)).alloc (FC qn qx qy)) (v3.heap.size+1) qn qx qy:=by
       have h:=aL.new (v3.alloc (FC qn qx qy)) qn qx qy;rwa [dE] at h
      have hb5:=hb4.alloc hb4.size (FC qn qx qy);have Gm:=hid (HY.o.aa hb5);have fG:=hid (lW.o.trans (hb5.ae lW.o.size));have qd:=hid aaF;have fE:wb.heap.size<=((v3.alloc (FC qn qx qy)).alloc (FC qn qx qy)).heap.size:=fG.o.size;(have nT:((nP jy).take i).length<=5:=by rw[eB,iq.o];omega);clear y4 hb4 hb5 bB aaF HY lW cL;go_wp2_with (at_builtin;refine adm rfl _ _ rfl wb.heap.size _ ((nP jy).take i) (qn,qx,qy) rfl Gm.o (v3.heap.size+1) rfl qd.o (by omega) fE ?_;intro v' v6 hr6 hg6;have Oz:=hid (fG.o.grown hg6 fE (fun k e=>Gm.o.own k e)))
      go_roundw
      case rel=>exact⟨i+1,by omega,by go_num,by rw[<- HST.o];exact hr6,Oz⟩
      case measure=>simp[intOf];omega
     ·obtain rfl:i=n:=by omega
      go_wp2;go_ret;have hr:=HY.o;rw[jF (by rw[iq.o];exact ak _)] at hr;exact⟨_,jy,rfl,hr.lower bq.o.size,BS.o,by rw[Ei.o];exact hS1,bq.o.trans (lW.o.ae bq.o.size)⟩
def eU (t:TypeId) (w w':World):Prop:=∀(k:Nat) (c:Array Value) (fr:Nat×Nat),w.heap[k]? =some (Obj.cells c t fr) ->w'.heap[k]? =some (Obj.cells c t fr)
theorem eU.aa {t:TypeId} (hb:Below w.heap.size w w'):eU t w w':=fun k _ _ h=>(hb.block k (cV.1 h).1).trans h
theorem eU.grown {t t':TypeId} {row:Option Nat} (hg:w.grownBy w' row) (hr:∀g,row=some g ->∃c fr,w.heap[g]? =some (.cells c t' fr)) (hne:t≠t'):eU t w w':=fun k c fr h=>by
 refine(hg.block k (cV.1 h).1 fun e=>?_).trans h;obtain⟨c',fr',h'⟩:=hr k e.symm;rw[h] at h';cases h';exact hne rfl
theorem eU.set {t t':TypeId} {b:Nat} {c':Array Value} {fr':Nat×Nat} (hb:w.heap[b]? =some (.cells c' t' fr')) (hne:t≠t') (j:Nat) (y:Value):eU t w (w.setCell ⟨b,j,none⟩ y):=fun k c fr h=>by
 refine(iU w ⟨b,j,none⟩ y k fun e=>?_).trans h;have e':k=b:=e;subst e';rw[h] at hb;cases hb;exact hne rfl
theorem eU.trans {t:TypeId} {a b c:World} (h:eU t a b) (k:eU t b c):eU t a c:=fun i cs fr hi=>k i cs fr (h i cs fr hi)
theorem mW {B:Nat} {e:TypeId} {s:Nat} {v:Value} (h:w.ownsRow B e s v n xs) (hk:eU e w w'):w'.ownsRow B e s v n xs:=by
 refine⟨h.1,?_⟩;rcases h.2 with h1 |⟨g,cap,cur,h1,h2,h3,h4⟩
 ·exact .inl h1
 ·exact .inr ⟨g,cap,cur,h1,h2,hk _ _ _ h3,h4⟩
theorem LC {B:Nat} {e:TypeId} {s:Nat} {v:Value} (h:w.ownsRow B e s v n xs):∀g,v.ownBlock=some g ->∃c fr,w.heap[g]? =some (.cells c e fr):=fun g hg=>by
 rcases h.2 with ⟨rfl,_⟩ |⟨g',cap,cur,rfl,h2,h3,h4⟩
 ·cases hg
 ·cases hg;exact⟨_,_,h3⟩
theorem LD {B:Nat} {e:TypeId} {s:Nat} {v:Value} (h:w.ownsRow B e s v n xs):∀g,v.ownBlock=some g ->B<=g:=fun g hg=>by
 rcases h.2 with ⟨rfl,_⟩ |⟨g',cap,cur,rfl,h2,h3,h4⟩
 ·cases hg
 ·cases hg;exact h2
theorem mV {B:Nat} {e:TypeId} {s:Nat} {v:Value} (h:w.ownsRow B e s v n xs):∃a c,v=.slice a n c/\(a=none ->c=0):=by
 rcases h.2 with ⟨rfl,rfl⟩ |⟨g',cap,cur,rfl,h2,h3,h4⟩
 ·exact⟨none,0,rfl,fun _=>rfl⟩
 ·exact⟨_,_,rfl,fun e=>by cases e⟩
theorem H8 {B:Nat} {e:TypeId} {s:Nat} {v:Value} (h:w.ownsRow B e s v n xs) (hb:B'<=B):w.ownsRow B' e s v n xs:=by
 refine⟨h.1,?_⟩;rcases h.2 with h1 |⟨g,cap,cur,h1,h2,h3,h4⟩
 ·exact .inl h1
 ·exact .inr ⟨g,cap,cur,h1,aM hb h2,h3,h4⟩
theorem LG {B:Nat} {e:TypeId} {s:Nat} (h:w.ownsRow B e s (.slice a n c) n xs) (hj:j<xs.length):∃g,a=some ⟨g,0,none⟩/\g<w.heap.size/\w.cell? ⟨g,j,none⟩=some xs[j]:=by
 rcases h.2 with ⟨h1,h2⟩ |⟨g',cap,cur,h1,h2,h3,h4,h5,h6,h7⟩
 ·have:=h.1;subst h2;rw[mQ] at this;omega
 ·cases h1;refine⟨g',rfl,(cV.1 h3).1,?_⟩;have hl:j<n*s:=by have:=h.1;omega
  rw[bE w g' j _ _ (0,0) h3]
  have e':cur[j]? =(cur.toList.take (n*s))[j]?:=by
   rw[rB,aB hl,vY]
  rw[e',h7,ba hj]
abbrev PV:Type:=ByteArray×Value×List ByteArray
def vC:List PV ->List Value
 |[]=>[]
 |p::l=>.string p.1::p.2.1::vC l
theorem Hl:∀l,(vC l).length=l.length*2
 |[]=>rfl
 |p::l=>by
  show (vC l).length+1+1=(l.length+1)*2;rw[Hl l];omega
theorem VB (p:PV):∀l,vC (l++[p])=vC l++[.string p.1,p.2.1]
 |[]=>rfl
 |q::l=>by
  show Value.string q.1::q.2.1::vC (l++[p])=_;rw[VB p l];rfl
theorem VA:∀(l:List PV) (k:Nat) (h:k<l.length),(vC l)[k*2]'(by rw[Hl];omega)=.string l[k].1/\(vC l)[k*2+1]'(by rw[Hl];omega)=l[k].2.1
 |p::l,0,_=>⟨rfl,rfl⟩
 |p::l,k+1,h=>by
  obtain⟨h1,h2⟩:=VA l k (by simpa using h);refine⟨?_,?_⟩
  ·simp only[show (k+1)*2=k*2+1+1 by omega];exact h1
  ·simp only[show (k+1)*2+1=k*2+1+1+1 by omega];exact h2
def vk (w:World) (B:Nat) (x:Value) (P:List PV):Prop:=w.ownsRow B 69 2 x P.length (vC P)/\∀p∈P,ku w B p.2.1 p.2.2
abbrev PL:Type:=Value×List Int
def vo (w:World) (B:Nat) (y:Value) (P:List PL):Prop:=w.ownsRow B 27 1 y P.length (P.map (·.1))/\∀p∈P,bD w B p.1 p.2
abbrev PR:Type:=Value×List Fr
def vn (w:World) (B:Nat) (z:Value) (P:List PR):Prop:=w.ownsRow B 37 1 z P.length (P.map (·.1))/\∀p∈P,iO w B p.1 p.2
theorem vk.keep {B:Nat} {P:List PV} (h:vk w B x P) (h1:eU 69 w w') (h2:eU 9 w w'):vk w' B x P:=⟨mW h.1 h1,fun p hp=>mW (h.2 p hp) h2⟩
theorem vo.keep {B:Nat} {P:List PL} (h:vo w B x P) (h1:eU 27 w w') (h2:eU 3 w w'):vo w' B x P:=⟨mW h.1 h1,fun p hp=>mW (h.2 p hp) h2⟩
theorem vn.keep {B:Nat} {P:List PR} (h:vn w B x P) (h1:eU 37 w w') (h2:eU 32 w w'):vn w' B x P:=⟨mW h.1 h1,fun p hp=>mW (h.2 p hp) h2⟩
theorem vk.nil (w:World) (B:Nat):vk w B (.slice none 0 0) []:=⟨⟨rfl,.inl ⟨rfl,rfl⟩⟩,fun p hp=>by cases hp⟩
theorem vo.nil (w:World) (B:Nat):vo w B (.slice none 0 0) []:=⟨⟨rfl,.inl ⟨rfl,rfl⟩⟩,fun p hp=>by cases hp⟩
theorem vn.nil (w:World) (B:Nat):vn w B (.slice none 0 0) []:=⟨⟨rfl,.inl ⟨rfl,rfl⟩⟩,fun p hp=>by cases hp⟩
theorem Tryz.infoInts:(Tryz.prog.info? 27).map (fun i=>(i.zero,i.size,i.bytes))=some (some (.slice none 0 0),1,24):=by kernel_rfl
theorem Tryz.infoFracs:(Tryz.prog.info? 37).map (fun i=>(i.zero,i.size,i.bytes))=some (some (.slice none 0 0),1,24):=by kernel_rfl
theorem Tryz.infoVar:(Tryz.prog.info? 69).map (fun i=>(i.zero,i.size,i.bytes))=some (some (.agg #[.string ⟨#[]⟩,.slice none 0 0]),2,40):=by kernel_rfl
theorem adi {o:Oper} {a:Act} (hgd:o.guard=none) (s x:Operand)
  (ho:o.op=.call {callee:=.builtin .append,args:= #[s,x],argTypes:= #[23,23]}) (base:Nat) (v:Value) (P:List PL) (q:Value) (hq:dA q) (hs:a.eval s=v) (hown:w.ownsRow base 27 1 v P.length (P.map (·.1))) (g:Nat) (hx:a.eval x=.slice (some ⟨g,0,none⟩) 1 1) (hg:w.cell? ⟨g,0,none⟩=some q) (hlen:P.length+1<=100000) (hbase:base<=w.heap.size)
  (h:∀v' w',w'.ownsRow base 27 1 v' (P.length+1) (P.map (·.1)++[q]) ->w.grownBy w' v.ownBlock ->wpList Tryz.prog ops Q rest (a.put o.dst v') w'):wpList Tryz.prog ops Q (o::rest) a w:=by
 obtain⟨i0,bS,hz0,hz1,hz2⟩:=dK Tryz.infoInts;refine Cn _ hgd s x 23 ho base 27 i0 (.slice none 0 0) 1 24 Tryz.underlying23 bS hz0 hz1 hz2 rfl (by decide) v P.length _ hs hown ⟨g,0,none⟩ 1 1 [q] hx rfl ?_ ?_ (by unfold maxLen;omega) (by omega) hbase ?_
 ·intro j u hj;match j,hj with
  |0,hj=>cases hj;exact hg
  |j+1,hj=>simp at hj
 ·intro u hu;simp only[cT,iT,oC] at hu;subst hu;obtain⟨_,_,_,rfl⟩:=hq;rfl
 ·intro v' w' h1 h2 _;exact h v' w' h1 h2
theorem adh {o:Oper} {a:Act} (hgd:o.guard=none) (s x:Operand)
  (ho:o.op=.call {callee:=.builtin .append,args:= #[s,x],argTypes:= #[24,24]}) (base:Nat) (v:Value) (P:List PR) (q:Value) (hq:dA q) (hs:a.eval s=v) (hown:w.ownsRow base 37 1 v P.length (P.map (·.1))) (g:Nat) (hx:a.eval x=.slice (some ⟨g,0,none⟩) 1 1) (hg:w.cell? ⟨g,0,none⟩=some q) (hlen:P.length+1<=100000) (hbase:base<=w.heap.size)
  (h:∀v' w',w'.ownsRow base 37 1 v' (P.length+1) (P.map (·.1)++[q]) ->w.grownBy w' v.ownBlock ->wpList Tryz.prog ops Q rest (a.put o.dst v') w'):wpList Tryz.prog ops Q (o::rest) a w:=by
 obtain⟨i0,bS,hz0,hz1,hz2⟩:=dK Tryz.infoFracs;refine Cn _ hgd s x 24 ho base 37 i0 (.slice none 0 0) 1 24 Tryz.underlying24 bS hz0 hz1 hz2 rfl (by decide) v P.length _ hs hown ⟨g,0,none⟩ 1 1 [q] hx rfl ?_ ?_ (by unfold maxLen;omega) (by omega) hbase ?_
 ·intro j u hj;match j,hj with
  |0,hj=>cases hj;exact hg
  |j+1,hj=>simp at hj
 ·intro u hu;simp only[cT,iT,oC] at hu;subst hu;obtain⟨_,_,_,rfl⟩:=hq;rfl
 ·intro v' w' h1 h2 _;exact h v' w' h1 h2
theorem ada {o:Oper} {a:Act} (s x:Operand)
  (ho:o.op=.call {callee:=.builtin .append,args:= #[s,x],argTypes:= #[22,22]}) (base:Nat) (v:Value) (P:List PV) (nm:ByteArray) (q:Value) (hq:dA q) (hs:a.eval s=v) (hown:w.ownsRow base 69 2 v P.length (vC P)) (g:Nat) (hx:a.eval x=.slice (some ⟨g,0,none⟩) 1 1) (hg0:w.cell? ⟨g,0,none⟩=some (.string nm)) (hg1:w.cell? ⟨g,1,none⟩=some q) (hlen:P.length+1<=100000) (hbase:base<=w.heap.size)
  (h:∀v' w',w'.ownsRow base 69 2 v' (P.length+1) (vC P++[.string nm,q]) ->w.grownBy w' v.ownBlock ->K (a.put o.dst v') w'):o.wp Tryz.prog a w K Q:=by
 obtain⟨i0,bS,hz0,hz1,hz2⟩:=dK Tryz.infoVar;refine wp_append_own _ s x 22 ho base 69 i0 (.agg #[.string ⟨#[]⟩,.slice none 0 0]) 2 40 Tryz.underlying22 bS hz0 hz1 hz2 rfl (by decide) v P.length _ hs hown ⟨g,0,none⟩ 1 1 [.string nm,q] hx rfl ?_ ?_ (by unfold maxLen;omega) (by omega) hbase ?_
 ·intro j u hj;match j,hj with
  |0,hj=>cases hj;exact hg0
  |1,hj=>cases hj;exact hg1
  |j+2,hj=>simp at hj
 ·intro u hu;simp only[cT,iT,oC] at hu;rcases hu with rfl |rfl
  ·rfl
  ·obtain⟨_,_,_,rfl⟩:=hq;rfl
 ·intro v' w' h1 h2 _;exact h v' w' h1 h2
theorem abc (a:List Fr):∀l,iN (l++a)=iN l++iN a
 |[]=>rfl
 |f::l=>by
  show Value.bool f.1::Value.string f.2.1::Value.string f.2.2::iN (l++a)=_;rw[abc a l];rfl
theorem abb {o:Nat}:∀ {l:List Fr},ew w (some ⟨g,o,none⟩) l ->∀j u,(iN l)[j]? =some u ->w.cell? ((⟨g,o,none⟩:Addr).add j)=some u/\u.oneCell'=true:=by
 intro l h j u hj;have nY:j<(iN l).length:=(nG.1 hj).1;rw[M6] at nY;have hk:j/3<l.length:=by omega
 obtain⟨g',o',e,_,h0,h1,h2⟩:=h (j/3) hk;cases e
 have hadd:(⟨g,o,none⟩:Addr).add j=⟨g,o+j,none⟩:=by
  rw[Addr.add];by_cases h0:j=0
  ·subst h0;simp
  ·simp[h0]
 have RF:=M7 l (j/3) hk;rw[hadd];have hm:j % 3=0∨j % 3=1∨j % 3=2:=by omega
 rcases hm with hm |hm |hm
 ·have e:j=j/3*3:=by omega
  rw[e] at hj⊢;rw[RF.1] at hj;cases hj;exact⟨h0,rfl⟩
 ·have e:j=j/3*3+1:=by omega
  rw[e] at hj⊢;rw[RF.2.1] at hj;cases hj;exact⟨by rw[<- Aa];exact h1,rfl⟩
 ·have e:j=j/3*3+2:=by omega
  rw[e] at hj⊢;rw[RF.2.2] at hj;cases hj;exact⟨by rw[<- Aa];exact h2,rfl⟩
theorem adl {o:Oper} {a:Act} (hgd:o.guard=none) (s x:Operand)
  (ho:o.op=.call {callee:=.builtin .append,args:= #[s,x],argTypes:= #[37,37]}) (base:Nat) (v:Value) (l la:List Fr) (hs:a.eval s=v) (hown:iO w base v l) (g og ca:Nat) (hx:a.eval x=.slice (some ⟨g,og,none⟩) la.length ca) (hf:ew w (some ⟨g,og,none⟩) la) (hlen:l.length+la.length<=100000) (hbase:base<=w.heap.size)
  (h:∀v' w',iO w' base v' (l++la) ->w.grownBy w' v.ownBlock ->wpList Tryz.prog ops Q rest (a.put o.dst v') w'):wpList Tryz.prog ops Q (o::rest) a w:=by
 obtain⟨i0,bS,hz0,hz1,hz2⟩:=dK Tryz.infoFrac;refine Cn _ hgd s x 37 ho base 32 i0 (.agg #[.bool false,.string ⟨#[]⟩,.string ⟨#[]⟩]) 3 40 Tryz.underlying37 bS hz0 hz1 hz2 rfl (by decide) v l.length _ hs hown ⟨g,og,none⟩ la.length ca (iN la) hx (by rw[M6];omega) (fun j u hj=>(abb hf j u hj).1) (fun u hu=>?_) (by unfold maxLen;omega) (by omega) hbase ?_
 ·obtain⟨j,hj,rfl⟩:=jg hu;exact(abb hf j _ (ba hj)).2
 ·intro v' w' h1 h2 _;refine h v' w' ?_ h2;rw[iO,bM,abc];exact h1
variable {bk:Bool} {Ls:List PL} {Rs:List PR} {Vs:List PV} {e v':Value}
structure MS (w W:World) (s e t:Value) (bk:Bool) (x y z:Value) (Vs:List PV) (Ls:List PL) (Rs:List PR):Prop where
 rb:W.heap[w.heap.size]? =some (.cells #[s,e,t,.bool bk] 48 (0,0))
 res:dr W (w.heap.size+1) (.slice none 0 0) (.slice none 0 0) (.slice none 0 0)
 box:dr W (w.heap.size+2) x y z
 vs:vk W w.heap.size x Vs
 ls:vo W w.heap.size y Ls
 rs:vn W w.heap.size z Rs
 bel:Below w.heap.size w W
theorem MS.step {W:World} {s t:Value} (h:MS w W s e t bk x y z Vs Ls Rs) (hb:Below W.heap.size W W'):MS w W' s e t bk x y z Vs Ls Rs:=
 ⟨(hb.block _ (cV.1 h.rb).1).trans h.rb,h.res.aa hb h.res.lt,h.box.aa hb h.box.lt,h.vs.keep (.aa hb) (.aa hb),h.ls.keep (.aa hb) (.aa hb),h.rs.keep (.aa hb) (.aa hb),h.bel.trans (hb.ae h.bel.size)⟩
theorem MS.cells {W:World} {s t:Value} (h:MS w W s e t bk x y z Vs Ls Rs):W.cell? ⟨w.heap.size,0,none⟩=some s/\W.cell? ⟨w.heap.size,1,none⟩=some e/\W.cell? ⟨w.heap.size,2,none⟩=some t/\W.cell? ⟨w.heap.size,3,none⟩=some (.bool bk):=by
 refine⟨?_,?_,?_,?_⟩<;>(rw[bE W w.heap.size _ _ _ (0,0) h.rb];rfl)
theorem MS.lt {W:World} {s t:Value} (h:MS w W s e t bk x y z Vs Ls Rs):w.heap.size+2<W.heap.size:=h.box.lt
theorem SN {W:World} {v:Value} {tt:TypeId} {Pr:Nat} (hb:Below w.heap.size w W) (ho:W.ownsRow w.heap.size tt Pr v n xs) (hg:W.grownBy W' v.ownBlock):Below w.heap.size w W':=hb.grown hg hb.size (fun k e=>LD ho k e)
theorem dr.set0 {W:World} (h:dr W g x y z) (v:Value):dr (W.setCell ⟨g,0,none⟩ v) g v y z:=jX W g 0 _ _ v h
theorem dr.set1 {W:World} (h:dr W g x y z) (v:Value):dr (W.setCell ⟨g,1,none⟩ v) g x v z:=jX W g 1 _ _ v h
theorem dr.set2 {W:World} (h:dr W g x y z) (v:Value):dr (W.setCell ⟨g,2,none⟩ v) g x y v:=jX W g 2 _ _ v h
theorem MS.pushV {W:World} {s t:Value} (h:MS w W s e t bk x y z Vs Ls Rs) {nm:ByteArray} {q:Value} {l:List ByteArray} (hr:W'.ownsRow w.heap.size 69 2 v' (Vs.length+1) (vC Vs++[.string nm,q])) (hg:W.grownBy W' x.ownBlock) (hq:ku W w.heap.size q l):
  dr W' (w.heap.size+2) x y z/\MS w (W'.setCell ⟨w.heap.size+2,0,none⟩ v') s e t bk v' y z (Vs++[(nm,q,l)]) Ls Rs:=by
 have kk:∀tt:TypeId,tt≠69 ->eU tt W W':=fun tt hne=>eU.grown hg (LC h.vs.1) hne;have uG:dr W' (w.heap.size+2) x y z:=kk 26 (by decide) _ _ _ h.box;have ks:∀tt:TypeId,tt≠26 ->eU tt W' (W'.setCell ⟨w.heap.size+2,0,none⟩ v'):=fun tt hne=>eU.set uG hne 0 v';refine⟨uG,?_,?_,uG.set0 v',⟨?_,?_⟩,?_,?_,?_⟩
 ·exact ks 48 (by decide) _ _ _ (kk 48 (by decide) _ _ _ h.rb)
 ·exact(iU W' ⟨w.heap.size+2,0,none⟩ v' (w.heap.size+1) (by show w.heap.size+1≠w.heap.size+2;omega)).trans (kk 26 (by decide) _ _ _ h.res)
 ·rw[VB,bM];exact mW hr (ks 69 (by decide))
 ·intro p hp;have hk:=(kk 9 (by decide)).trans (ks 9 (by decide));rcases bL.1 hp with hp |hp
  ·exact mW (h.vs.2 p hp) hk
  ·rw[eA.1 hp];exact mW hq hk
 ·exact h.ls.keep ((kk _ (by decide)).trans (ks _ (by decide))) ((kk _ (by decide)).trans (ks _ (by decide)))
 ·exact h.rs.keep ((kk _ (by decide)).trans (ks _ (by decide))) ((kk _ (by decide)).trans (ks _ (by decide)))
 ·exact(SN h.bel h.vs.1 hg).setCell (p:=⟨w.heap.size+2,0,none⟩) (by show w.heap.size<=w.heap.size+2;omega) _
theorem MS.pushL {W:World} {s t:Value} (h:MS w W s e t bk x y z Vs Ls Rs) {q:Value} (hr:W'.ownsRow w.heap.size 27 1 v' (Ls.length+1) (Ls.map (·.1)++[q])) (hg:W.grownBy W' y.ownBlock) (hq:bD W w.heap.size q l):
  dr W' (w.heap.size+2) x y z/\MS w (W'.setCell ⟨w.heap.size+2,1,none⟩ v') s e t bk x v' z Vs (Ls++[(q,l)]) Rs:=by
 have kk:∀tt:TypeId,tt≠27 ->eU tt W W':=fun tt hne=>eU.grown hg (LC h.ls.1) hne;have uG:dr W' (w.heap.size+2) x y z:=kk 26 (by decide) _ _ _ h.box;have ks:∀tt:TypeId,tt≠26 ->eU tt W' (W'.setCell ⟨w.heap.size+2,1,none⟩ v'):=fun tt hne=>eU.set uG hne 1 v';refine⟨uG,?_,?_,uG.set1 v',?_,⟨?_,?_⟩,?_,?_⟩
 ·exact ks 48 (by decide) _ _ _ (kk 48 (by decide) _ _ _ h.rb)
 ·exact(iU W' ⟨w.heap.size+2,1,none⟩ v' (w.heap.size+1) (by show w.heap.size+1≠w.heap.size+2;omega)).trans (kk 26 (by decide) _ _ _ h.res)
 ·exact h.vs.keep ((kk _ (by decide)).trans (ks _ (by decide))) ((kk _ (by decide)).trans (ks _ (by decide)))
 ·rw[dY,bM];exact mW hr (ks 27 (by decide))
 ·intro p hp;have hk:=(kk 3 (by decide)).trans (ks 3 (by decide));rcases bL.1 hp with hp |hp
  ·exact mW (h.ls.2 p hp) hk
  ·rw[eA.1 hp];exact mW hq hk
 ·exact h.rs.keep ((kk _ (by decide)).trans (ks _ (by decide))) ((kk _ (by decide)).trans (ks _ (by decide)))
 ·exact(SN h.bel h.ls.1 hg).setCell (p:=⟨w.heap.size+2,1,none⟩) (by show w.heap.size<=w.heap.size+2;omega) _
theorem MS.pushR {W:World} {s t:Value} (h:MS w W s e t bk x y z Vs Ls Rs) {q:Value} {l:List Fr} (hr:W'.ownsRow w.heap.size 37 1 v' (Rs.length+1) (Rs.map (·.1)++[q])) (hg:W.grownBy W' z.ownBlock) (hq:iO W w.heap.size q l):
  dr W' (w.heap.size+2) x y z/\MS w (W'.setCell ⟨w.heap.size+2,2,none⟩ v') s e t bk x y v' Vs Ls (Rs++[(q,l)]):=by
 have kk:∀tt:TypeId,tt≠37 ->eU tt W W':=fun tt hne=>eU.grown hg (LC h.rs.1) hne;have uG:dr W' (w.heap.size+2) x y z:=kk 26 (by decide) _ _ _ h.box;have ks:∀tt:TypeId,tt≠26 ->eU tt W' (W'.setCell ⟨w.heap.size+2,2,none⟩ v'):=fun tt hne=>eU.set uG hne 2 v';refine⟨uG,?_,?_,uG.set2 v',?_,?_,⟨?_,?_⟩,?_⟩
 ·exact ks 48 (by decide) _ _ _ (kk 48 (by decide) _ _ _ h.rb)
 ·exact(iU W' ⟨w.heap.size+2,2,none⟩ v' (w.heap.size+1) (by show w.heap.size+1≠w.heap.size+2;omega)).trans (kk 26 (by decide) _ _ _ h.res)
 ·exact h.vs.keep ((kk _ (by decide)).trans (ks _ (by decide))) ((kk _ (by decide)).trans (ks _ (by decide)))
 ·exact h.ls.keep ((kk _ (by decide)).trans (ks _ (by decide))) ((kk _ (by decide)).trans (ks _ (by decide)))
 ·rw[dY,bM];exact mW hr (ks 37 (by decide))
 ·intro p hp;have hk:=(kk 32 (by decide)).trans (ks 32 (by decide));rcases bL.1 hp with hp |hp
  ·exact mW (h.rs.2 p hp) hk
  ·rw[eA.1 hp];exact mW hq hk
 ·exact(SN h.bel h.rs.1 hg).setCell (p:=⟨w.heap.size+2,2,none⟩) (by show w.heap.size<=w.heap.size+2;omega) _
structure VK (v:Nat) (Vs:List PV):Prop where
 len:Vs.length=v
 each:∀j (h:j<Vs.length),Vs[j].1=iz 110 j/\∃k,1<=k/\k<=3/\Vs[j].2.2=qi k
theorem VK.snoc (h:VK v Vs) (q:Value) (h1:1<=k) (h3:k<=3):VK (v+1) (Vs++[(iz 110 v,q,qi k)]):=by
 refine⟨by simp[h.len],fun j hj=>?_⟩;rcases cM j Vs.length with hlt |hge
 ·rw[oH hlt];exact h.each j hlt
 ·rw[rA hge];have e:j=v:=by simp at hj;have:=h.len;omega
  subst e;simp[h.len];exact⟨k,h1,h3,rfl⟩
def fJ (Vs:List PV):List Vr:=Vs.map fun p=>(p.1,p.2.2)
def gw (Ls:List PL):List (List Int):=Ls.map (·.2)
def mj (Rs:List PR):List (List Fr):=Rs.map (·.2)
structure Nz (bk:Bool) (n j:Nat) (l:List Int):Prop where
 up:Up l n
 few:l.length<=3
 rank:∀x∈l,if bk=true then(j:Int)<x else x<(j:Int)
structure TU (S:List Nat) (j:Nat) (l:List Int) (r:List Fr):Prop where
 len:r.length=cnt S (af l)*sz S j
 rows:∀i,i<cnt S (af l) ->jH (fj r (sz S j) i)=true
 small:∀f∈r,f.2.1.size+f.2.2.size<=2
structure zo (bk:Bool) (n v:Nat) (S:List Nat) (Ls:List PL) (Rs:List PR):Prop where
 len:Ls.length=v
 lenR:Rs.length=v
 pars:∀j (h:j<Ls.length),Nz bk n j Ls[j].2
 rows:∀j (h:j<Ls.length) (h':j<Rs.length),TU S j Ls[j].2 Rs[j].2
theorem zo.snoc (h:zo bk n v S Ls Rs) {q q':Value} {r:List Fr} (h1:Nz bk n v l) (h2:TU S v l r):zo bk n (v+1) S (Ls++[(q,l)]) (Rs++[(q',r)]):=by
 refine⟨by simp[h.len],by simp[h.lenR],fun j hj=>?_,fun j hj hj'=>?_⟩
 ·rcases cM j Ls.length with hlt |hge
  ·rw[oH hlt];exact h.pars j hlt
  ·rw[rA hge];(have e:j=v:=by simp at hj;have:=h.len;omega);subst e;simpa [h.len] using h1
 ·rcases cM j Ls.length with hlt |hge
  ·have wV:j<Rs.length:=by have:=h.len;have:=h.lenR;omega
   rw[oH hlt,oH wV];exact h.rows j hlt wV
  ·have ajb:Rs.length<=j:=by have:=h.len;have:=h.lenR;omega
   rw[rA hge,rA ajb];(have e:j=v:=by simp at hj;have:=h.len;omega);subst e;simpa [h.len,h.lenR] using h2
structure PP (bk:Bool) (n v u:Nat) (l:List Int):Prop where
 ok:Nz bk n v l
 lt:∀x∈l,x<(u:Int)
theorem PP.nil (bk:Bool) (n v:Nat):PP bk n v 0 []:=⟨⟨fK.2 ⟨fun x hx=>(iT hx).elim,List.Pairwise.nil⟩,by simp,fun x hx=>(iT hx).elim⟩,fun x hx=>(iT hx).elim⟩
theorem PP.skip (h:PP bk n v u l):PP bk n v (u+1) l:=⟨h.ok,fun x hx=>by have:=h.lt x hx;omega⟩
theorem PP.snoc (h:PP bk n v u l) (hu:u<n) (h3:l.length≠3) (hr:if bk=true then v<u else u<v):PP bk n v (u+1) (l++[(u:Int)]):=by
 refine⟨⟨fK.2 ⟨fun x hx=>?_,?_⟩,?_,fun x hx=>?_⟩,fun x hx=>?_⟩
 ·rcases bL.1 hx with hx |hx
  ·exact(fK.1 h.ok.up).1 x hx
  ·rw[eA.1 hx];omega
 ·rw[List.pairwise_append];refine⟨(fK.1 h.ok.up).2,List.pairwise_singleton _ _,fun x hx y hy=>?_⟩;rw[eA.1 hy];exact h.lt x hx
 ·have:=h.ok.few;simp;omega
 ·rcases bL.1 hx with hx |hx
  ·exact h.ok.rank x hx
  ·rw[eA.1 hx];cases bk
   ·simp at hr⊢;exact hr
   ·simp at hr⊢;exact hr
 ·rcases bL.1 hx with hx |hx
  ·have:=h.lt x hx;omega
  ·rw[eA.1 hx];omega
structure RP (s k:Nat) (r:List Fr):Prop where
 len:r.length=k*s
 rows:∀i,i< k ->jH (fj r s i)=true
 small:∀f∈r,f.2.1.size+f.2.2.size<=2
theorem RP.nil (s:Nat):RP s 0 []:=⟨by simp,fun i hi=>by omega,fun f hf=>by cases hf⟩
theorem RP.snoc {s:Nat} {r l:List Fr} (h:RP s k r) (hl:l.length=s) (hrow:jH l=true) (hsm:∀f∈l,f.2.1.size+f.2.2.size<=2):RP s (k+1) (r++l):=by
 refine⟨by rw[bM,h.len,hl,fC,jZ],fun i hi=>?_,fun f hf=>?_⟩
 ·have hm:i*s+s<=k*s∨i=k:=by
   rcases cM i k with h1 |h1
   ·left
    have:=jD s h1;rw[Nat.succ_mul] at this;exact this
   ·right;omega
  rcases hm with hm |rfl
  ·have hik:i<k:=by
    rcases cM i k with h1 |h1
    ·exact h1
    ·have h2:=jD s h1;by_cases hs0:s=0
     ·subst hs0;have:l=[]:=EP.1 hl;subst this;exact absurd hrow (by decide)
     ·omega
   have e:fj (r++l) s i=fj r s i:=by
    rw[fj,fj,List.drop_append_of_le_length (by rw[h.len];omega),Vd (by rw[l7,h.len];omega)]
   rw[e];exact h.rows i hik
  ·have e:fj (r++l) s i=l:=by
    rw[fj, <- h.len,List.drop_left, <- hl,iR]
   rw[e];exact hrow
 ·rcases bL.1 hf with hf |hf
  ·exact h.small f hf
  ·exact hsm f hf
theorem vk.vars {W:World} {B:Nat} (h:vk W B x Vs):∃a c,x=.slice a (fJ Vs).length c/\r7 W a (fJ Vs):=by
 have hl:(fJ Vs).length=Vs.length:=by simp[fJ]
 obtain⟨a,c,rfl,_⟩:=mV h.1;refine⟨a,c,by rw[hl],fun k hk=>?_⟩;rw[hl] at hk;obtain⟨e1,e2⟩:=VA Vs k hk;obtain⟨g,rfl,hg,c1⟩:=LG h.1 (j:=k*2) (by rw[Hl];omega);obtain⟨g',e,_,c2⟩:=LG h.1 (j:=k*2+1) (by rw[Hl];omega);cases e;rw[e1] at c1;rw[e2] at c2;have hin:=h.2 Vs[k] (bY hk);obtain⟨b,cb,eb,hst⟩:=hin.st
 have qI:Vs[k].2.2.length<=cb:=by
  rcases hin.2 with ⟨h1,h2⟩ |⟨g2,cap,cur,h1,_,_,h4,_⟩
  ·omega
  ·rw[eb] at h1;injection h1 with _ _ h6;omega
 refine⟨g,0,b,cb,rfl,hg,?_,?_,?_,?_⟩
 ·rw[bI,c1];simp[fJ]
 ·rw[bI,c2,eb];simp[fJ]
 ·simpa [fJ] using hst
 ·simpa [fJ] using qI
theorem vo.pars {W:World} {B:Nat} (h:vo W B y Ls):∃a c,y=.slice a (gw Ls).length c/\dT W a (gw Ls)/\tJ W a (gw Ls):=by
 have hl:(gw Ls).length=Ls.length:=by simp[gw]
 obtain⟨a,c,rfl,_⟩:=mV h.1
 have key:∀k (hk:k<Ls.length),∃g,a=some ⟨g,0,none⟩/\g<W.heap.size/\∃b cb,W.cell? ⟨g,k,none⟩=some (.slice b Ls[k].2.length cb)/\aC W b Ls[k].2/\(b=none ->cb=0):=fun k hk=>by
  obtain⟨g,rfl,hg,c1⟩:=LG h.1 (j:=k) (by simpa using hk);have hin:=h.2 Ls[k] (bY hk);obtain⟨b,cb,eb,hn⟩:=mV hin;obtain⟨b',gG,eb',hst⟩:=hin.ints;rw[eb] at eb';cases eb';refine⟨g,rfl,hg,b,cb,?_,hst,hn⟩;rw[c1];simp[eb]
 refine⟨a,c,by rw[hl],fun k hk=>?_,fun k hk g o b n' c' ea hc hn=>?_⟩
 ·rw[hl] at hk;obtain⟨g,rfl,hg,b,cb,c1,hst,_⟩:=key k hk;exact⟨g,0,b,cb,rfl,hg,by rw[bI,c1];simp[gw],by simpa [gw] using hst⟩
 ·rw[hl] at hk;obtain⟨g',e',_,b',gG,c1,_,h0⟩:=key k hk;rw[ea] at e';cases e';rw[bI,c1] at hc;cases hc;exact h0 hn
theorem vn.rows {W:World} {B:Nat} (h:vn W B z Rs):∃a c,z=.slice a (mj Rs).length c/\KE W a (mj Rs):=by
 have hl:(mj Rs).length=Rs.length:=by simp[mj]
 obtain⟨a,c,rfl,_⟩:=mV h.1;refine⟨a,c,by rw[hl],fun k hk=>?_⟩;rw[hl] at hk;obtain⟨g,rfl,hg,c1⟩:=LG h.1 (j:=k) (by simpa using hk);have hin:=h.2 Rs[k] (bY hk);obtain⟨b,cb,eb,hst⟩:=hin.fr
 have qI:Rs[k].2.length<=cb:=by
  rcases hin.2 with ⟨h1,h2⟩ |⟨g2,cap,cur,h1,_,_,h4,_⟩
  ·omega
  ·rw[eb] at h1;injection h1 with _ _ h6;omega
 exact⟨g,0,b,cb,rfl,hg,by rw[bI,c1];simp[mj,eb],by simpa [mj] using hst,by simpa [mj] using qI⟩
theorem Xu {W:World} {u:Value} {tt:TypeId} {Pr n0:Nat} (ho:W.ownsRow w.heap.size tt Pr u n0 xs) (hg:W.grownBy W' u.ownBlock) (hb:dr W' (w.heap.size+2) x y z) (t0:TypeId) (h1:t0≠tt) (h2:t0≠26):eU t0 W (W'.setCell ⟨w.heap.size+2,j,none⟩ v'):=
 (eU.grown hg (LC ho) h1).trans (eU.set hb h2 j v')
structure SK (n:Nat) (S:List Nat):Prop where
 len:S.length=n
 each:∀x∈S,1<=x/\x<=3
theorem VK.sizes (h:VK n Vs):SK n (aq (fJ Vs)):=by
 refine⟨by simp[aq,fJ,h.len],fun x hx=>?_⟩;obtain⟨p,hp,rfl⟩:=aU.1 hx;obtain⟨q,hq,rfl⟩:=aU.1 hp;obtain⟨j,hj,rfl⟩:=jg hq;obtain⟨_,k,h1,h3,e⟩:=h.each j hj;show 1<=Vs[j].2.2.length/\Vs[j].2.2.length<=3;rw[e,K9];exact⟨h1,h3⟩
theorem SK.fine (h:SK n S) (h1:1<=n) (h8:n<=8):eK (iL S):=by
 have hl:=h.len;refine⟨by rw[bF];omega,by rw[bF];omega,fun v hv=>?_⟩;have hv':v<S.length:=by rw[bF] at hv;exact hv
 have e:(iL S)[v]=((S[v]'hv':Nat):Int):=by simp[iL]
 have:=h.each _ (bY hv');rw[e];omega
theorem SK.sz (h:SK n S) (u:Nat):1<=sz S u/\sz S u<=3:=by
 rw[Go.Proofs.YtfgkjjlocjmfeaaGreatDoor.sz];cases e:S[u]? with
 |none=>exact⟨by decide,by decide⟩
 |some x=>exact h.each x (OX e)
theorem abR (h:SK n S) {l:List Nat} (hl:l.length<=3):1<=cnt S l/\cnt S l<=27:=by
 have h1:=Tj (S:=S) (fun v=>(h.sz v).2) l;have h2:3^l.length<=3^3:=jf (by omega) hl
 have h3:∀l:List Nat,1<=cnt S l:=fun l=>by
  induction l with
  |nil=>exact ak _
  |cons v l ih=>exact Nat.mul_pos (h.sz v).1 ih
 exact⟨h3 l,by omega⟩
theorem MS.out3 {W:World} {s t:Value} (h:MS w W s e t bk x y z Vs Ls Rs):
  dr (((W.setCell ⟨w.heap.size+1,0,none⟩ x).setCell ⟨w.heap.size+1,1,none⟩ y).setCell ⟨w.heap.size+1,2,none⟩ z) (w.heap.size+1) x y z/\vk (((W.setCell ⟨w.heap.size+1,0,none⟩ x).setCell ⟨w.heap.size+1,1,none⟩ y).setCell ⟨w.heap.size+1,2,none⟩ z) w.heap.size x Vs/\vo (((W.setCell ⟨w.heap.size+1,0,none⟩ x).setCell ⟨w.heap.size+1,1,none⟩ y).setCell ⟨w.heap.size+1,2,none⟩ z) w.heap.size y Ls/\vn (((W.setCell ⟨w.heap.size+1,0,none⟩ x).setCell ⟨w.heap.size+1,1,none⟩ y).setCell ⟨w.heap.size+1,2,none⟩ z) w.heap.size z Rs/\Below w.heap.size w (((W.setCell ⟨w.heap.size+1,0,none⟩ x).setCell ⟨w.heap.size+1,1,none⟩ y).setCell ⟨w.heap.size+1,2,none⟩ z):=by
 have n0:=h.res.set0 x;have n1:=n0.set1 y;have n2:=n1.set2 z;have ks:∀tt:TypeId,tt≠26 ->eU tt W (((W.setCell ⟨w.heap.size+1,0,none⟩ x).setCell ⟨w.heap.size+1,1,none⟩ y).setCell ⟨w.heap.size+1,2,none⟩ z):=fun tt hne=>((eU.set h.res hne 0 x).trans (eU.set n0 hne 1 y)).trans (eU.set n1 hne 2 z);refine⟨n2,h.vs.keep (ks _ (by decide)) (ks _ (by decide)),h.ls.keep (ks _ (by decide)) (ks _ (by decide)),h.rs.keep (ks _ (by decide)) (ks _ (by decide)),?_⟩;exact((h.bel.setCell (p:=⟨w.heap.size+1,0,none⟩) (by show w.heap.size<=w.heap.size+1;omega) _).setCell (p:=⟨w.heap.size+1,1,none⟩) (by show w.heap.size<=w.heap.size+1;omega) _).setCell (p:=⟨w.heap.size+1,2,none⟩) (by show w.heap.size<=w.heap.size+1;omega) _
end Go.Proofs.YtfgkjjlocjmfeaaGreatDoor
