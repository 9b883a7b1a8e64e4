/- Part5: part 5. -/
import Derived.Test.YtdnhgjeihdllbaaGreatDoorPart4
set_option maxRecDepth 100000
set_option maxHeartbeats 4000000
set_option linter.unusedSimpArgs false
set_option linter.unusedVariables false
namespace Go.Proofs.YtdnhgjeihdllbaaGreatDoor
open Go.RowKit Go.Shelf
variable {S:List Nat} {V:List Vr} {i n v:Nat}
def ik (S:List Nat) (n:Nat) (F:List (Int×Int)) (i:Nat):Int:=
 if ¬(0<=(F.getD i (0,0)).1/\(F.getD i (0,0)).1<(n:Int)) then 11 else if ¬(0<=(F.getD i (0,0)).2/\(F.getD i (0,0)).2<(sz S (F.getD i (0,0)).1.toNat:Int)) then 12 else if ((F.take i).any fun p=>p.1==(F.getD i (0,0)).1)=true then 7 else 0
def bP (V:List Vr) (L:List (List Int)) (R:List (List Fr)) (F:List (Int×Int)):Int:=if aW V L R=0 then iO (ik (ah V) V.length F) F.length else aW V L R
theorem OX {F:List (Int×Int)} (h:i<F.length):F.getD i (0,0)=F[i]:=by rw[List.getD_eq_getElem?_getD,List.getElem?_eq_getElem h];rfl
theorem UW {F:List (Int×Int)} (hi:i<F.length) (h:¬(0<=F[i].1/\F[i].1<(n:Int))):ik S n F i=11:=by rw[ik,OX hi,ay h]
theorem UX {F:List (Int×Int)} (hi:i<F.length) (h:0<=F[i].1/\F[i].1<(n:Int)) (h2:¬(0<=F[i].2/\F[i].2<(sz S F[i].1.toNat:Int))):ik S n F i=12:=by rw[ik,OX hi,az (fun e=>e h),ay h2]
theorem UY {F:List (Int×Int)} (hi:i<F.length) (h:0<=F[i].1/\F[i].1<(n:Int)) (h2:0<=F[i].2/\F[i].2<(sz S F[i].1.toNat:Int)) (h3:((F.take i).any fun p=>p.1==F[i].1)=true):ik S n F i=7:=by rw[ik,OX hi,az (fun e=>e h),az (fun e=>e h2),ay h3]
theorem aca {F:List (Int×Int)} (hi:i<F.length) (h:0<=F[i].1/\F[i].1<(n:Int)) (h2:0<=F[i].2/\F[i].2<(sz S F[i].1.toNat:Int)) (h3:((F.take i).any fun p=>p.1==F[i].1)=false):ik S n F i=0:=by rw[ik,OX hi,az (fun e=>e h),az (fun e=>e h2),az (by rw[h3];decide)]
theorem Rl (h:v<V.length):sz (ah V) v=V[v].2.length:=by rw[sz,Co h];rfl
theorem SZ (a b c d:Option Addr) (ca cb cc cd:Nat) (V:List Vr) (L:List (List Int)) (R:List (List Fr)) (F:List (Int×Int)) (w:World) (h:gP w a b c V L R) (hs:sQ V L R) (hF:jI w d F) (hn:F.length<=1000) (hcd:F.length<=cd):
  Calls Tryz.prog 32 #[.agg #[.slice a V.length ca,.slice b L.length cb,.slice c R.length cc],.slice d F.length cd] w fun e w'=>e=.returned (.int .i64 (bP V L R F))/\Below w.heap.size w w':=by
 have hA:=(au w.heap.size w).alloc (ar _) (NC (.slice a V.length ca) (.slice b L.length cb) (.slice c R.length cc));have oX:=hid (gX.at (w:=w) rfl (.slice a V.length ca) (.slice b L.length cb) (.slice c R.length cc));have ee:=hid (Pn a b c ca cb cc V L R _ (h.aa hA) hs);have HA:=hid hA;have uq:=hid h.vars;have HF:=hid hF;have CX:V.length<=5000:=hs.vars.1;have VN:Hid (∀v (hv:v<V.length),V[v].2.length<=5000):=fun v hv=>hs.vars.2 _ (bH hv) |>.2.1;obtain⟨re,wN⟩:∃re,bP V L R F=re:=⟨_,rfl⟩;have fB:Hid (aW V L R≠0 ->aW V L R=re):=fun e=>by rw[<- wN,bP,az e]
 have dZ:Hid (aW V L R=0 ->∀i,i<F.length ->(∀j,j< i ->ik (ah V) V.length F j=0) ->∀k,ik (ah V) V.length F i=k ->k≠0 ->k=re):=fun e i hi hz k hk hk0=>by rw[<- wN,bP,ay e,Bd hz (by rw[hk];exact hk0) hi,hk]
 have fQ:Hid (aW V L R=0 ->(∀j,j<F.length ->ik (ah V) V.length F j=0) ->0=re):=fun e hz=>by rw[<- wN,bP,ay e,zb hz]
 have Qj:=hid (fun (i:Nat) (v:Int) (U:World) (hU:Below w.heap.size w U)=>aaL d cd (F.take i) v U ((hF.aa hU).take i) (by rw[eZ];omega));rw[wN];clear h hs hF hA wN;go_enter Tryz.func32,Tryz.ntmps32;go_wp2_with fail
 refine ee.o.af ?_;rintro e w1 ⟨rfl,hb1⟩;have eR:=hid (HA.o.trans (hb1.af HA.o.size));have sZ:=hid (oX.o.aa hb1 oX.o.lt);clear hb1 ee oX HA;by_cases hne:aW V L R=0
 ·rw[hne];have mG:=hid hne;clear hne;go_wp2_with fail
  go_loopw [15] (fun iv wr=>∃i:Nat,i<=F.length/\iv=.int .i64 i/\Hid (∀j,j< i ->ik (ah V) V.length F j=0)/\Hid (gX wr w.heap.size (.slice a V.length ca) (.slice b L.length cb) (.slice c R.length cc))/\Hid (Below w.heap.size w wr)) (fun iv _=>F.length - (intOf iv).toNat)
  case atStart=>exact⟨0,aU _,rfl,(fun j hj=>absurd hj (by omega)),sZ,eR⟩
  case round=>
   obtain⟨i,hi,rfl,HZ,HN,HB⟩:=hrel;clear sZ eR;by_cases hlt:i<F.length
   ·obtain⟨g,o,rfl,hg,h0,h1⟩:=HF.o i hlt;have k0:=(HB.o.cell (p:=⟨g,_,none⟩) hg).trans h0;have k1:=(HB.o.cell (p:=⟨g,_,none⟩) hg).trans h1;have HR:=hid (dZ.o mG.o i hlt HZ.o);have x6:Hid (¬(0<=F[i].1/\F[i].1<(V.length:Int)) ->ik (ah V) V.length F i=11):=UW hlt;have DL:Hid (0<=F[i].1/\F[i].1<(V.length:Int) ->¬(0<=F[i].2/\F[i].2<(sz (ah V) F[i].1.toNat:Int)) ->ik (ah V) V.length F i=12):=UX hlt;have Mp:Hid (0<=F[i].1/\F[i].1<(V.length:Int) ->(0<=F[i].2/\F[i].2<(sz (ah V) F[i].1.toNat:Int)) ->((F.take i).any fun p=>p.1==F[i].1)=true ->ik (ah V) V.length F i=7):=UY hlt;have nX:Hid (0<=F[i].1/\F[i].1<(V.length:Int) ->(0<=F[i].2/\F[i].2<(sz (ah V) F[i].1.toNat:Int)) ->((F.take i).any fun p=>p.1==F[i].1)=false ->ik (ah V) V.length F i=0):=aca hlt;have mE:Hid (ik (ah V) V.length F i=0 ->∀j,j<i+1 ->ik (ah V) V.length F j=0):=fun e=>Eh HZ.o e;have adq:=hid (Qj.o i F[i].1);(have EH:(F.take i).length=i:=by rw[eZ];omega);rw[EH] at adq;generalize ik (ah V) V.length F i=fe at *;generalize ((F.take i).any fun p=>p.1==F[i].1)=fq at *;generalize F[i].1=f1 at *;generalize F[i].2=f2 at *;have hA:=(au wr.heap.size wr).alloc (ar _) (.cells #[.int .i64 f1,.int .i64 f2] 90);(have AU:(wr.alloc (.cells #[.int .i64 f1,.int .i64 f2] 90)).heap.size=wr.heap.size+1:=by simp);have Ku:(wr.alloc (.cells #[.int .i64 f1,.int .i64 f2] 90)).heap[wr.heap.size]? =some (.cells #[.int .i64 f1,.int .i64 f2] 90 (0,0)):=kd wr _;have qA:=hid Ku;have Wj:=hid (HN.o.aa hA HN.o.lt);have dC:=hid (HB.o.trans (hA.af HB.o.size))
    have nc:=Wj.o.cells.1;clear h0 h1 EH hA Ku;by_cases hv:0<=f1/\f1<(V.length:Int)
    ·obtain⟨v,rfl⟩:∃v:Nat,f1=v:=⟨f1.toNat,by omega⟩;(have uX:v<V.length:=by omega);obtain⟨gv,ov,bv,cv,rfl,yV,hv0,ny,_,_⟩:=uq.o v uX;have r8:sz (ah V) v=V[v].2.length:=Rl uX;have ai9:=VN.o v uX;rw[pT,r8] at DL Mp nX;have kv:=(dC.o.cell (p:=⟨gv,_,none⟩) yV).trans ny;generalize V[v].2.length=sv at *;have Fy:=hid hv;clear hv0 ny hv r8;obtain⟨f0c,f1c⟩:(wr.alloc (.cells #[.int .i64 (v:Nat),.int .i64 f2] 90)).cell? ⟨wr.heap.size,0,none⟩=some (.int .i64 (v:Nat))/\(wr.alloc (.cells #[.int .i64 (v:Nat),.int .i64 f2] 90)).cell? ⟨wr.heap.size,1,none⟩=some (.int .i64 f2):=⟨by rw[cC _ _ 0 _ _ (0,0) qA.o];rfl,by rw[cC _ _ 1 _ _ (0,0) qA.o];rfl⟩;by_cases hval:0<=f2/\f2<(sv:Int)
     ·obtain⟨z,rfl⟩:∃z:Nat,f2=z:=⟨f2.toNat,by omega⟩;(have hzs:z<sv:=by omega);have Fz:=hid hval;clear hval;go_upto_region 11 with (go_quiet (fail))
      have HFD:Hid (((wr.alloc (.cells #[.int .i64 (v:Nat),.int .i64 (z:Nat)] 90)).drewN nq).heap[wr.heap.size]? =some (.cells #[.int .i64 (v:Nat),.int .i64 (z:Nat)] 90 (0,0))):=qA.o;have mF:Hid (gX ((wr.alloc (.cells #[.int .i64 (v:Nat),.int .i64 (z:Nat)] 90)).drewN nq) w.heap.size (.slice (some ⟨gv,ov,none⟩) V.length ca) (.slice b L.length cb) (.slice c R.length cc)):=Wj.o;have dI:=hid (below_drewN dC.o nq);(have EK:wr.heap.size<((wr.alloc (.cells #[.int .i64 (v:Nat),.int .i64 (z:Nat)] 90)).drewN nq).heap.size:=by show wr.heap.size<(wr.alloc _).heap.size;rw[AU];omega);clear f0c f1c kv nc qA Wj dC AU;generalize (wr.alloc (.cells #[.int .i64 (v:Nat),.int .i64 (z:Nat)] 90)).drewN nq=W3 at *
      have Bz:Hid (∀U:World,Below W3.drew.heap.size W3.drew U ->U.cell? ⟨wr.heap.size,0,none⟩=some (.int .i64 (v:Nat))):=fun U hU=>(hU.cell (p:=⟨wr.heap.size,0,none⟩) EK).trans (by
       have:W3.drew.heap[wr.heap.size]? =some (.cells #[.int .i64 (v:Nat),.int .i64 (z:Nat)] 90 (0,0)):=HFD.o;rw[cC _ _ 0 _ _ (0,0) this];rfl)
      have adp:=hid (adq.o W3.drew dI.o.drew);(have hic:(i:Int)<=(cd:Int):=by omega);refine jJ (S:=fun U=>U.cell? ⟨wr.heap.size,0,none⟩=some (.int .i64 (v:Nat))) (by kernel_rfl) (Bz.o _ (au _ _)) (fun aq=>?_);refine aw 0 (.slice (some ⟨g,o,none⟩) F.length cd) ?_;refine aw 1 (.int .i64 (i:Nat)) ?_;refine aw 2 (.slice (some ⟨g,o,none⟩) i cd) ?_;refine aw 3 (.pointer (some ⟨wr.heap.size,0,none⟩)) ?_;refine aw 4 (.int .i64 (v:Nat)) ?_;refine aF [5] (cA ?_ aD);intro K' hK';go_simp;refine adp.o.af ?_;rintro r w5 ⟨rfl,hb5⟩;refine hK'.o _ _ (Bz.o w5 hb5) (fun ak=>?_);clear hK' K' aq;(try simp only[gE,aP]);refine dW (by kernel_rfl) ?_ _;clear ak;have eD:Hid (Below w.heap.size w w5):=dI.o.drew.trans (hb5.af dI.o.drew.size);have BC:Hid (gX w5 w.heap.size (.slice (some ⟨gv,ov,none⟩) V.length ca) (.slice b L.length cb) (.slice c R.length cc)):=gX.aa (w:=W3.drew) mF.o hb5 mF.o.lt;clear hb5 adp Bz;cases fq with
      |true=>
       have j6:=hid (HR.o 7 (Mp.o Fy.o Fz.o rfl) (by decide));go_wp2;go_ret;exact⟨by rw[<- j6.o];rfl,eD.o⟩
      |false=>
       have VD:=hid (mE.o (nX.o Fy.o Fz.o rfl));go_wp2;go_roundw
       case rel=>exact⟨i+1,by omega,by go_num,VD,BC,eD⟩
       case measure=>simp[intOf];omega
     ·have j6:=hid (HR.o 12 (DL.o Fy.o hval) (by decide));rcases Int.lt_or_le f2 0 with h2 |h2
      ·have pj:decide (f2<0)=true:=cJ h2;clear hval;go_wp2_with (go_quiet (fail))
       go_ret;exact⟨by rw[<- j6.o];rfl,below_drewN dC.o _⟩
      ·have pj:decide (f2<0)=false:=cz (by omega);have i7:decide ((sv:Int)<=f2)=true:=cJ (by omega);clear hval;go_wp2_with (go_quiet (fail))
       go_ret;exact⟨by rw[<- j6.o];rfl,below_drewN dC.o _⟩
    ·have j6:=hid (HR.o 11 (x6.o hv) (by decide));obtain⟨f0c,f1c⟩:(wr.alloc (.cells #[.int .i64 f1,.int .i64 f2] 90)).cell? ⟨wr.heap.size,0,none⟩=some (.int .i64 f1)/\(wr.alloc (.cells #[.int .i64 f1,.int .i64 f2] 90)).cell? ⟨wr.heap.size,1,none⟩=some (.int .i64 f2):=⟨by rw[cC _ _ 0 _ _ (0,0) qA.o];rfl,by rw[cC _ _ 1 _ _ (0,0) qA.o];rfl⟩;rcases Int.lt_or_le f1 0 with h2 |h2
     ·clear hv;go_wp2_with fail
      go_ret;exact⟨by rw[<- j6.o];rfl,dC.o⟩
     ·have h3:(V.length:Int)<=f1:=by omega
      (have h4:¬f1<0:=by omega);clear hv;go_wp2_with fail
      go_ret;exact⟨by rw[<- j6.o];rfl,dC.o⟩
   ·obtain rfl:i=F.length:=by omega
    have j6:=hid (fQ.o mG.o HZ.o);go_wp2;go_ret;exact⟨by rw[<- j6.o];rfl,HB.o⟩
 ·have j6:=hid (fB.o hne);have hgb:(aW V L R==0)=false:=by simpa using hne
  clear hne fB dZ fQ;generalize aW V L R=ne at *;go_wp2;go_ret;exact⟨by rw[<- j6.o];rfl,eR.o⟩
variable {s:List Nat}
theorem aau {u:Nat} (hu:u<8):(gN s).contains (u:Int)=decide (u∈s):=by
 refine ry.2 ?_;rw[lh,ei,gN,iL,bs];constructor
 ·rintro⟨v,hv,e⟩;obtain rfl:v=u:=by omega
  exact(He.1 hv).2
 ·exact fun h=>⟨u,He.2 ⟨hu,h⟩,rfl⟩
variable {R:List (List Fr)} {L:List (List Int)} {l:List Int} {A ws:List Nat} {m:Nat} {Pa:Nat ->Nat ->Prop}
def zF (l:List (Nat×Nat)):List (Int×Int):=l.map fun p=>((p.1:Int),(p.2:Int))
theorem wu (l:List (Nat×Nat)):(zF l).length=l.length:=by simp[zF]
structure kW (S:List Nat) (n:Nat) (l:List (Nat×Nat)):Prop where
 nd:(l.map (·.1)).Nodup
 lt:∀p∈l,p.1<n
 val:∀p∈l,p.2<sz S p.1
theorem ak0 {F:List (Int×Int)} (h:bP V L R F=0):aW V L R=0/\∃l,F=zF l/\kW (ah V) V.length l:=by
 have h0:aW V L R=0:=by
  by_cases e:aW V L R=0
  ·exact e
  ·rw[bP,az e] at h;exact h
 rw[bP,ay h0] at h;have hz:=K7 h
 have hb:∀i (hi:i<F.length),(0<=F[i].1/\F[i].1<(V.length:Int))/\(0<=F[i].2/\F[i].2<(sz (ah V) F[i].1.toNat:Int))/\((F.take i).any fun p=>p.1==F[i].1)=false:=fun i hi=>by
  have h1:=hz i hi;by_cases a:0<=F[i].1/\F[i].1<(V.length:Int)
  ·by_cases b:0<=F[i].2/\F[i].2<(sz (ah V) F[i].1.toNat:Int)
   ·refine⟨a,b,?_⟩;cases c:(F.take i).any fun p=>p.1==F[i].1 with
    |false=>rfl
    |true=>rw[UY hi a b c] at h1;exact absurd h1 (by decide)
   ·rw[UX hi a b] at h1;exact absurd h1 (by decide)
  ·rw[UW hi a] at h1;exact absurd h1 (by decide)
 refine⟨h0,F.map fun p=>(p.1.toNat,p.2.toNat),?_,?_,?_,?_⟩
 ·rw[zF,wj];refine pS (by simp) fun i hi _=>?_;rw[og];obtain⟨⟨a,_⟩,⟨b,_⟩,_⟩:=hb i hi;show F[i]=(((F[i].1.toNat:Nat):Int),((F[i].2.toNat:Nat):Int));rw[Int.toNat_of_nonneg a,Int.toNat_of_nonneg b]
 ·rw[wj,List.Nodup,Gp];refine Cg.2 fun i j hi hj CP e=>?_;obtain⟨⟨ai,_⟩,_,_⟩:=hb i hi;obtain⟨⟨aj,_⟩,_,hc⟩:=hb j hj
  have:=Ji.1 hc F[i] (by
   (have hk:i<(F.take j).length:=by rw[eZ];omega);have:=bH hk;rwa [Aa] at this)
  refine this (rp.2 ?_);have e':F[i].1.toNat=F[j].1.toNat:=e;omega
 ·intro p hp;obtain⟨x,hx,rfl⟩:=bs.1 hp;obtain⟨i,hi,rfl⟩:=iE hx;obtain⟨⟨a,b⟩,_,_⟩:=hb i hi;show F[i].1.toNat<_;omega
 ·intro p hp;obtain⟨x,hx,rfl⟩:=bs.1 hp;obtain⟨i,hi,rfl⟩:=iE hx;obtain⟨_,⟨a,b⟩,_⟩:=hb i hi;show F[i].2.toNat<sz _ F[i].1.toNat;omega
def yv (L:List (List Int)) (A:List Nat):List Nat:=(ir L).filter fun v:Nat=>(gN (gV (aI L) A L.length)).contains (v:Int)
theorem Ej (h:Up l n):∀x∈l,0<=x/\x<n:=(pV.1 h).1
theorem XH (h:Up l n):(ag l).Pairwise (·<·):=by
 rw[ag,Gp];refine List.Pairwise.imp_of_mem (fun {a b} ha hb hab=>?_) (pV.1 h).2;have h1:=Ej h a ha;have h2:=Ej h b hb;omega
theorem ZA (L:List (List Int)) (i:Nat):(aI L).getD i []=ag (L.getD i []):=by
 rw[aI,List.getD_eq_getElem?_getD,oh,List.getD_eq_getElem?_getD];cases L[i]? with
 |none=>rfl
 |some x=>rfl
theorem NQ (hg:gB L=true) (h1:1<=L.length) (h8:L.length<=8) (h:v∈ir L):v<L.length:=by
 have hp:((ir L).filter fun v=>decide (v<L.length)).Perm (List.range L.length):=
  (Jd ((Sm hg h1 h8).sublist Gt) pO).2 fun u=>by
   rw[c4,bG,ei];exact⟨fun h=>h.2,fun h=>⟨Sn hg h1 h8 h,h⟩⟩
 have hl:=hp.length_eq;have hn:(ir L).length=L.length:=by rw[NS];simp
 rw[lY] at hl;replace hl:=hl.trans hn.symm;exact rS (List.length_filter_eq_length_iff.1 hl v h)
theorem amV (hg:gB L=true) (hA:∀v∈A,v<L.length) (h:v∈gV (aI L) A L.length):v<L.length:=
 Lp (fun x u hu=>(SE hg x u hu).1) hA L.length v h
theorem Xn (hg:gB L=true) (h1:1<=L.length) (h8:L.length<=8) (hA:∀v∈A,v<L.length):v∈yv L A↔v∈gV (aI L) A L.length:=by
 rw[yv,c4];constructor
 ·rintro⟨a,b⟩;have hv:=NQ hg h1 h8 a;rw[aau (by omega)] at b;exact rS b
 ·intro h;have hv:=amV hg hA h;exact⟨Sn hg h1 h8 hv,by rw[aau (by omega)];exact cJ h⟩
theorem adG (hg:gB L=true) (h1:1<=L.length) (h8:L.length<=8) (A:List Nat):(yv L A).Nodup:=(Sm hg h1 h8).sublist Gt
theorem adH (hg:gB L=true) (h1:1<=L.length) (h8:L.length<=8) (h:v∈yv L A):v<L.length:=NQ hg h1 h8 (c4.1 h).1
theorem amR {u w:Nat} (h:Pa u v) (h2:BZ Pa v w):BZ Pa u w:=by
 induction h2 using BZ.ind with
 |one h3=>exact .more (.one h) h3
 |more _ h3 ih=>exact .more ih h3
theorem adI (nG:bE L=0) (h1:1<=L.length) (h8:L.length<=8) (hA:∀v∈A,v<L.length):lT L (·∈yv L A):=fun v hv u hu=>by
 have hg:=ud nG;show u∈yv L A;have hv:v∈yv L A:=hv;rw[Xn hg h1 h8 hA,ac4 nG h8 hA] at hv⊢;obtain⟨b,hb,e⟩:=hv;rw[<- ZA] at hu;refine⟨b,hb,.inr ?_⟩;rcases e with rfl |e
 ·exact .one hu
 ·exact amR (Pa:=fun u v=>u∈(aI L).getD v []) hu e
theorem Xo (nG:bE L=0) (h1:1<=L.length) (h8:L.length<=8) (hA:∀v∈A,v<L.length) (hv:v∈A):v∈yv L A:=by
 rw[Xn (ud nG) h1 h8 hA,ac4 nG h8 hA];exact⟨v,hv,.inl rfl⟩
def gT (V:List Vr) (L:List (List Int)) (R:List (List Fr)) (ws:List Nat):List Tb:=ws.map fun v=>(gU L v,gL V L R v)
theorem abT (h0:aW V L R=0) (hlt:∀v∈ws,v<V.length) (hc:lT L (·∈ws)):eX (ah V) V.length (gT V L R ws) (eW R ws) 1:=
 ⟨(PI.net h0 hlt hc).ok,PD.net h0 hlt,fun t ht=>by
  obtain⟨v,_,rfl⟩:=bs.1 ht;exact akj V L R v⟩
theorem eX.fixes (hp:Pos S):∀ {l:List (Nat×Nat)} {P:List Tb} {D c:Nat},eX S n P D c ->(∀p∈l,p.2<sz S p.1) ->eX S n (ko S l P) D c
 |[],_,_,_,h,_=>h
 |p::l,_,_,_,h,hx=>eX.fixes hp (l:=l) (h.fix hp (hx p dJ)) fun q hq=>hx q (eE _ hq)
theorem K5 (S:List Nat):∀(l:List (Nat×Nat)) (P:List Tb),(ko S l P).length=P.length
 |[],_=>rfl
 |p::l,P=>by rw[ko,K5 S l,c5]
theorem aeC (hp:Pos S) {a b:List Nat} (h:a.Sublist b):jg S a<=jg S b:=by
 induction h with
 |slnil=>exact ar _
 |cons x _ ih=>rw[jg];exact aS ih (zX _ (im hp x))
 |cons_cons x _ ih=>rw[jg,jg];exact kZ _ ih
theorem N8:∀(l:List (Nat×Nat)) (fr:List Nat),(fC fr l).Sublist fr
 |[],_=>List.Sublist.refl _
 |_::l,_=>(N8 l _).trans Gt
def dr (V:List Vr) (L:List (List Int)) (R:List (List Fr)) (q:List Int) (l:List (Nat×Nat)):Tb:=
 (q,(List.range (cnt (ah V) (ag q))).map fun K=>qF (AD V L R (qV (ah V) (ag q) K++l)))
theorem XI {a b:List Int} (ha:Up a n) (hb:Up b m) (h:∀u,u∈ag a↔u∈ag b):a=b:=by
 have e:ag a=ag b:=by
  refine List.Perm.eq_of_pairwise (le:=(·<·)) (fun x y _ _ h1 h2=>by omega) (XH ha) (XH hb) ?_;exact(Jd ha.nodup hb.nodup).2 h
 have h1:iL (ag a)=a:=by
  rw[iL,ag,wj];refine(rq fun x hx=>?_).trans (List.map_id _);have:=(Ej ha x hx).1;show ((x.toNat:Nat):Int)=x;omega
 have h2:iL (ag b)=b:=by
  rw[iL,ag,wj];refine(rq fun x hx=>?_).trans (List.map_id _);have:=(Ej hb x hx).1;show ((x.toNat:Nat):Int)=x;omega
 rw[<- h1, <- h2,e]
theorem Zh {q:List Int} (h:Up q n) (v:Nat):q.contains (v:Int)=(ag q).contains v:=by
 rw[ry,lh,lh];constructor
 ·intro hv;exact bs.2 ⟨_,hv,by simp⟩
 ·intro hv;obtain⟨x,hx,e⟩:=bs.1 hv;have:=(Ej h x hx).1;have e2:x.toNat=v:=e;have:x=(v:Int):=by omega
  rwa [<- this]
theorem ad8 (h0:aW V L R=0) (hp:Pos (ah V)) {l:List (Nat×Nat)} {q:List Int} (hn:ws.Nodup) (hlt:∀v∈ws,v<V.length) (hc:lT L (·∈ws)) (hl:kW (ah V) V.length l) (Kj:∀p∈l,p.1∈ws) (hq:Up q V.length) (AW:∀v∈ag q,v∈ws/\¬v∈l.map (·.1)):
  allT (ah V) (iX (ah V) false (fun v=>q.contains (v:Int)) (fC ws l) (ko (ah V) l (gT V L R ws)))=dr V L R q l:=by
 have e1:(fun v:Nat=>q.contains (v:Int))=fun v=>(ag q).contains v:=funext (Zh hq);rw[e1];have eN:PI (ah V) V.length (fC ws l) (ko (ah V) l (gT V L R ws)) (fun g=>dA V L R (cY l g) ws):=(PI.net h0 hlt hc).fixes hp hl.nd hl.val;obtain⟨free',hf,qN⟩:=PI.outs hp (fun v=>(ag q).contains v) (fC ws l) eN;have ha:=xH hp qN.ok
 have hfr:∀u,u∈free'↔u∈ag q:=fun u=>by
  rw[hf u,yK];constructor
  ·rintro⟨⟨a,b⟩,c⟩;exact lh.1 (c ⟨a,b⟩)
  ·intro h;exact⟨AW u h,fun _=>lh.2 h⟩
 have hv:(allT (ah V) (iX (ah V) false (fun v=>(ag q).contains v) (fC ws l) (ko (ah V) l (gT V L R ws)))).1=q:=by
  refine XI ha.1.up hq fun u=>?_;rw[ha.2.1 u, <- hfr u];exact⟨fun ⟨t,ht,hu⟩=>qN.sub t ht u hu,fun h=>qN.sup u h⟩
 refine Prod.ext hv ?_;rw[Rh hp ha.1 (Vq _ _),hv];refine rq fun K hK=>?_;have hK':=bG.1 hK;rw[ha.2.2 _ (fun u=>nN hp _ _ u hK'),qN.val _ (fun u=>nN hp _ _ u hK')];exact bR qF (aiC h0 hn hlt hc hl.nd Kj hl.val hq.nodup AW hK')
variable {w:World}
theorem QV {o:Oper} {a:Act} {K:Act ->World ->Prop} {Q:Exit ->Act ->World ->Prop} (s x:Operand)
  (ho:o.op=.call {callee:=.builtin .append,args:= #[s,x],argTypes:= #[27,27]}) (base:Nat) (v:Value) (l:List Int) (f:Int) (hs:a.eval s=v) (hown:cX w base v l) (g:Nat) (hx:a.eval x=.slice (some ⟨g,0,none⟩) 1 1) (hg:w.cell? ⟨g,0,none⟩=some (.int .i64 f)) (hlen:l.length+1<=100000) (hbase:base<=w.heap.size)
  (h:∀v' w',cX w' base v' (l++[f]) ->w.grownBy w' v.ownBlock ->(v'.ownBlock=v.ownBlock∨∀k,v'.ownBlock=some k ->w.heap.size<=k) ->K (a.put o.dst v') w'):o.wp Tryz.prog a w K Q:=by
 obtain⟨i0,cU,hz0,hz1,hz2⟩:=eT Tryz.infoInt
 have hnews:∀j u,[Value.int .i64 f][j]? =some u ->w.cell? ((⟨g,0,none⟩:Addr).add j)=some u:=fun j u hj=>by
  match j,hj with
  |0,hj=>cases hj;exact hg
  |j+1,hj=>simp at hj
 have yQ:∀u∈[Value.int .i64 f],u.oneCell'=true:=fun u hu=>by
  simp only[dK,qG,B3] at hu;subst hu;rfl
 have hmax:l.length+1<=maxLen:=by unfold maxLen;omega
 obtain⟨v',w',hr,h2,h3, -⟩:=run_append_own (P:=Tryz.prog) w base 27 o.type 3 i0 (.int .i64 0) 1 8 Tryz.underlying27 cU hz0 hz1 hz2 rfl (by decide) v l.length _ hown ⟨g,0,none⟩ 1 1 [.int .i64 f] rfl hnews yQ hmax (by omega) hbase
 have hnew:v'.ownBlock=v.ownBlock∨∀k,v'.ownBlock=some k ->w.heap.size<=k:=by
  rcases hown.2 with ⟨h4,h5⟩ |⟨g',cap,cur,h4,hbg,iK,CL,hcm,hcs,aaT⟩
  ·right
   have e:=run_append_nil (P:=Tryz.prog) w 27 o.type 3 i0 (.int .i64 0) Tryz.underlying27 cU hz0 ⟨g,0,none⟩ 1 1 [.int .i64 f] (by rw[hz1];rfl) hnews (by decide) (by decide) (by rw[hz2];decide);rw[h4] at hr;rw[hr] at e;cases e;intro k hk;cases hk;exact ar _
  ·rw[h4] at hr;by_cases hroom:l.length+1<=cap
   ·left
    have e:=run_append_room (P:=Tryz.prog) w 27 o.type 3 i0 Tryz.underlying27 cU g' l.length cap cur iK ⟨g,0,none⟩ 1 1 [.int .i64 f] (by rw[hz1];rfl) hnews yQ hroom (by rw[hz1,hcs];simp;omega);rw[hr] at e;cases e;rw[h4];rfl
   ·right
    have hown':=hown;rw[h4] at hown';have e:=run_append_grow (P:=Tryz.prog) w 27 o.type 3 i0 (.int .i64 0) Tryz.underlying27 cU hz0 ⟨g',0,none⟩ l.length cap (l.map (Value.int .i64)) (by rw[hz1];simp) (World.ownsRow.cells hown' rfl) ⟨g,0,none⟩ 1 1 [.int .i64 f] (by rw[hz1];rfl) hnews (by omega) (by omega) (ME (by omega) (by rw[hz2];omega));rw[hr] at e;cases e;intro k hk;cases hk;exact ar _
 unfold Oper.wp execOp;simp only[ho,resolve,invoke,builtin,I8,DZ,zR,Je,gQ,ld,hs,hx,hr];refine h v' w' ?_ h3 hnew;rw[cX,dM,fY];exact h2
theorem QU {o:Oper} {a:Act} {K:Act ->World ->Prop} {Q:Exit ->Act ->World ->Prop} (s x:Operand)
  (ho:o.op=.call {callee:=.builtin .append,args:= #[s,x],argTypes:= #[85,85]}) (base:Nat) (v:Value) (n:Nat) (xs:List Value) (u1 u2:Value) (hs:a.eval s=v) (hown:w.ownsRow base 39 2 v n xs) (g:Nat) (hx:a.eval x=.slice (some ⟨g,0,none⟩) 1 1) (h0:w.cell? ⟨g,0,none⟩=some u1) (h1:w.cell? ⟨g,1,none⟩=some u2) (hu1:cM u1) (hu2:cM u2) (hlen:n+1<=100000) (hbase:base<=w.heap.size)
  (h:∀v' w',w'.ownsRow base 39 2 v' (n+1) (xs++[u1,u2]) ->w.grownBy w' v.ownBlock ->(v'.ownBlock=v.ownBlock∨∀k,v'.ownBlock=some k ->w.heap.size<=k) ->K (a.put o.dst v') w'):o.wp Tryz.prog a w K Q:=by
 obtain⟨i0,cU,hz0,hz1,hz2⟩:=eT Tryz.infoTable
 obtain⟨v',w',hr,r1,r2,r3⟩:=YT (P:=Tryz.prog) w base 85 o.type 39 i0 (.agg #[.slice none 0 0,.slice none 0 0]) 2 48 Tryz.underlying85 cU hz0 hz1 hz2 rfl (by decide) v n xs hown ⟨g,0,none⟩ 1 1 [u1,u2] rfl (fun j u hj=>by
  match j,hj with
  |0,hj=>cases hj;exact h0
  |1,hj=>cases hj;exact h1
  |j+2,hj=>simp at hj) (fun u hu=>by
  simp only[dK,qG,B3] at hu;rcases hu with rfl |rfl
  ·obtain⟨_,_,_,rfl⟩:=hu1;rfl
  ·obtain⟨_,_,_,rfl⟩:=hu2;rfl) (by unfold maxLen;omega) (by omega) hbase (by decide)
 unfold Oper.wp execOp;simp only[ho,resolve,invoke,builtin,I8,DZ,zR,Je,gQ,ld,hs,hx,hr];exact h v' w' r1 r2 r3
variable {rs:List Nat} {oi:Oper}
section
variable {P : Program} {ops : Array Oper} {Q : Exit -> Act -> World -> Prop} {md : Region.Mode} {S : Bool -> World -> Prop} {k : Nat}
def tD (P:Program) (md:Region.Mode) (ops:Array Oper) (Q:Exit ->Act ->World ->Prop) (S:Bool ->World ->Prop) (k:Nat):Nat ->Array Bool ->Act ->World ->Prop
 |0,l,a,w=>Region.ready md ops l=[]/\Q .normal a w
 |n+1,l,a,w=>(Region.ready md ops l=[] ->Q .normal a w)/\∀i∈Region.ready md ops l,wpOp P ops Q i (fun a' w'=>S ((l.setIfInBounds i true).getD k true) w'/\tD P md ops Q S k n (l.setIfInBounds i true) a' w') a w
theorem Xr:∀(n:Nat) (l:Array Bool) (a:Act) (w:World),tD P md ops Q S k n l a w ->wpAny P md ops Q n l a w
 |0,_,_,_,h=>h
 |n+1,_,_,_,h=>⟨h.1,fun i hi=>wpOp_mono (fun a' w' h'=>Xr n _ a' w' h'.2) (h.2 i hi)⟩
theorem Y3 {l:Array Bool} (h:i∈Region.ready md ops l):l.getD i true=false:=(mem_ready.1 h).1
theorem Xq {v:Value} (W:Bool ->Prop) (hi:ops[i]? =some oi) (aa2:∀(j:Nat) (o:Oper) cs b,ops[j]? =some o ->o.op≠.select cs b)
  (hQ:∀c a w,Q (.panic c) (a.put oi.dst v) w ->Q (.panic c) a w)
  (hW:∀(l:Array Bool) (j:Nat),i∈Region.ready md ops l ->j∈Region.ready md ops l ->j≠i ->W (l.getD k true) ->W ((l.setIfInBounds j true).getD k true)) (hk:k≠i):
  ∀(n:Nat) (l:Array Bool) (a:Act) (w:World),
   (∀j oj,ops[j]? =some oj ->j≠i ->l.getD j true=false ->(∀e∈oj.after,Region.binds md e=true ->e.on≠i) ->oi.apart ops oj=true) ->
   i∈Region.ready md ops l ->YieldsIf P ops (fun u=>∃b,W b/\S b u) oi v a ->W (l.getD k true) ->S (l.getD k true) w ->
   tD P md ops Q S k n (l.setIfInBounds i true) (a.put oi.dst v) w ->tD P md ops Q S k (n+1) l a w:=by
 have abq:∀l:Array Bool,(l.setIfInBounds i true).getD k true=l.getD k true:=fun l=>getD_set_ne true (Ne.symm hk);intro n;induction n with
 |zero=>
  intro l a w _ hr hy hw hS H;refine⟨fun h=>(by rw[h] at hr;cases hr),fun j hj=>?_⟩;by_cases ml:j=i
  ·subst ml;exact hy.wpOp hi ⟨_,hw,hS⟩ ⟨by rw[abq];exact hS,H⟩
  ·have:=ready_mono hj ml;rw[H.1] at this;cases this
 |succ n ih=>
  intro l a w wW hr hy hw hS H;refine⟨fun h=>(by rw[h] at hr;cases hr),fun j hj=>?_⟩;by_cases ml:j=i
  ·subst ml;exact hy.wpOp hi ⟨_,hw,hS⟩ ⟨by rw[abq];exact hS,H⟩
  ·have h1:=H.2 j (ready_mono hj ml);obtain⟨abl,oj,Hn,hall⟩:=mem_ready.1 hj
   have ajn:∀e∈oj.after,Region.binds md e=true ->e.on≠i:=fun e he hb heq=>by
    have h1:=hall e he hb;have h0:=Y3 hr;rw[heq] at h1;rcases cD i l.size with h' |h'
    ·simp[h'] at h0 h1;rw[h0] at h1;cases h1
    ·simp[Array.getElem?_eq_none h'] at h1
   have h2:=wpOp_putIf Hn (wW j oj Hn ml abl ajn) (fun cs b=>aa2 i oi cs b hi) (fun cs b=>aa2 j oj cs b Hn) hQ hy h1
   have ajF:∀x ox,ops[x]? =some ox ->x≠i ->(l.setIfInBounds j true).getD x true=false ->(∀e∈ox.after,Region.binds md e=true ->e.on≠i) ->oi.apart ops ox=true:=fun x ox hx hxi Oe hno=>by
    refine wW x ox hx hxi ?_ hno;by_cases hjx:j=x
    ·subst hjx;exact abl
    ·rw[getD_set_ne true hjx] at Oe;exact Oe
   have hw':=hW l j hr hj ml hw;have acm:(l.setIfInBounds i true).setIfInBounds j true=(l.setIfInBounds j true).setIfInBounds i true:=Array.setIfInBounds_comm _ _ (Ne.symm ml);refine wpOp_mono (fun a' w' h3=>?_) h2
   have hS':S ((l.setIfInBounds j true).getD k true) w':=by
    have:=h3.2.1;rwa [acm,getD_set_ne true (Ne.symm hk)] at this
   refine⟨hS',ih (l.setIfInBounds j true) a' w' ajF (ready_mono hr (Ne.symm ml)) h3.1 hw' hS' ?_⟩;rw[<- acm];exact h3.2.2
theorem l6 {v:Value} {l:Array Bool} {a:Act} (hi:ops[i]? =some oi)
  (hs:Region.noSelect ops=true) (hf:Region.free md ops l i=true) (hr:(Region.ready md ops l).contains i=true) (hk:k≠i)
  (hQ:∀c a w,Q (.panic c) (a.put oi.dst v) w ->Q (.panic c) a w) (hy:YieldsIf P ops (fun u=>∃b,S b u) oi v a) {b:Bool} (hb:l.getD k true=b) (hS:S b w)
  (h:tD P md ops Q S k n (l.setIfInBounds i true) (a.put oi.dst v) w):tD P md ops Q S k (n+1) l a w:=
 Xq (fun _=>True) hi (Region.noSelect_spec hs) hQ (fun _ _ _ _ _ h=>h) hk n l a w (Region.free_spec hi hf) (by simpa using hr) (hy.imp (fun ⟨h1,h2⟩=>⟨h1,fun u ⟨b,_,hu⟩=>h2 u ⟨b,hu⟩⟩) id) trivial (by rw[hb];exact hS) h
theorem GD {ok:Oper} {v:Value} {l:Array Bool} {a:Act} (hi:ops[i]? =some oi)
  (hs:Region.noSelect ops=true) (hf:Region.free md ops l i=true) (hr:(Region.ready md ops l).contains i=true) (hk:k≠i)
  (aM:ops[k]? =some ok) (hw:(ok.after.any fun e=>Region.binds md e&&e.on==i)=true)
  (hQ:∀c a w,Q (.panic c) (a.put oi.dst v) w ->Q (.panic c) a w) (hy:YieldsIf P ops (S false) oi v a) (hb:l.getD k true=false) (hS:S false w)
  (h:tD P md ops Q S k n (l.setIfInBounds i true) (a.put oi.dst v) w):tD P md ops Q S k (n+1) l a w:=by
 refine Xq (fun b=>b=false) hi (Region.noSelect_spec hs) hQ (fun l j hri hj ml e=>?_) hk n l a w (Region.free_spec hi hf) (by simpa using hr) (hy.imp (fun ⟨h1,h2⟩=>⟨h1,fun u ⟨b,hb,hu⟩=>h2 u (by subst hb;exact hu)⟩) id) hb (by rw[hb];exact hS) h;by_cases hjk:j=k
 ·subst hjk;exfalso
  obtain⟨_,oj,Hn,hall⟩:=mem_ready.1 hj;rw[aM] at Hn;cases Hn;obtain⟨e,he,h2⟩:=Array.any_eq_true'.1 hw;obtain⟨h3,h4⟩:=Bool.and_eq_true_iff.1 h2;have h5:=hall e he h3;have h0:=Y3 hri;rw[eq_of_beq h4] at h5;rcases cD i l.size with h' |h'
  ·simp[h'] at h0 h5;rw[h0] at h5;cases h5
  ·simp[Array.getElem?_eq_none h'] at h5
 ·rw[getD_set_ne true hjk];exact e
def dS (P:Program) (md:Region.Mode) (ops:Array Oper) (Q:Exit ->Act ->World ->Prop) (S:Bool ->World ->Prop) (k n:Nat) (l:Array Bool) (a:Act) (w:World) (rs:List Nat):Prop:=
 ∀i∈rs,wpOp P ops Q i (fun a' w'=>S ((l.setIfInBounds i true).getD k true) w'/\tD P md ops Q S k n (l.setIfInBounds i true) a' w') a w
theorem dS.nil {l:Array Bool} {a:Act}:dS P md ops Q S k n l a w []:=fun _ h=>by cases h
theorem dS.cons {l:Array Bool} {a:Act} {o:Oper} {b:Bool} (ho:ops[i]? =some o) (hb:(l.setIfInBounds i true).getD k true=b)
  (h:∀K':Act ->World ->Prop,Go.Shut (∀a w,S b w ->(S b w ->tD P md ops Q S k n (l.setIfInBounds i true) a w) ->K' a w) ->if Region.wanted o (yielded ops a.tmps)=true then Oper.wp P o a w K' Q else K' (a.put o.dst undef) w)
  (hs:dS P md ops Q S k n l a w rs):dS P md ops Q S k n l a w (i::rs):=fun j hj=>by
 rcases dK.1 hj with rfl |hj
 ·exact wpOp_step ho (fun K' hK=>h K' (fun a w hS hU=>hK a w ⟨by rw[hb];exact hS,hU hS⟩))
 ·exact hs j hj
theorem om {l:Array Bool} {a:Act} (hr:Region.ready md ops l=rs) (hne:rs≠[]) (h:dS P md ops Q S k n l a w rs):tD P md ops Q S k (n+1) l a w:=
 ⟨fun h0=>absurd (hr▸h0) hne,hr▸h⟩
theorem Jk {l:Array Bool} {a:Act} (hr:Region.ready md ops l=[]) (h:Q .normal a w):∀n,tD P md ops Q S k n l a w
 |0=>⟨hr,h⟩
 |_+1=>⟨fun _=>h,by rw[hr];simp⟩
theorem QT {id:Nat} {a:Act} (k:Nat) (S:Bool ->World ->Prop) (hm:P.follows .mixedOrders=true) (hS:S false w.drew) (h:S false w.drew ->tD P .any ops Q S k ops.size (Array.replicate ops.size false) a w.drew):(Code.region id ops true).wp P Q a w:=
 wp_region_any hm (Xr _ _ _ _ (h hS))
end
variable {Q:List (Value×Value)} {P:List Tb} {fv mq tv mZ u1 u2 x:Value} {U U':World}
structure nQ (U:World) (B:Nat) (u1 u2 fv tv:Value):Prop where
 tb:bh U B u1 u2
 nf:fv.ownBlock≠some B
 nt:tv.ownBlock≠some B
theorem nQ.under {B:Nat} (h:nQ U B u1 u2 fv tv) (hb:Below U.heap.size U U'):nQ U' B u1 u2 fv tv:=⟨h.tb.aa hb h.tb.lt,h.nf,h.nt⟩
theorem nQ.pushF {B:Nat} {De:Value} (h:nQ U B u1 u2 fv tv) (hg:U.grownBy U' fv.ownBlock) (hn:De.ownBlock=fv.ownBlock∨∀k,De.ownBlock=some k ->U.heap.size<=k):nQ U' B u1 u2 De tv:=
 ⟨(hg.block B h.tb.lt (fun e=>h.nf e.symm)).trans h.tb,fun e=>by
  rcases hn with hn |hn
  ·exact h.nf (hn▸e)
  ·have:=hn B e;have:=h.tb.lt;omega,h.nt⟩
theorem nQ.pushT {B:Nat} {Ck:Value} (h:nQ U B u1 u2 fv tv) (hg:U.grownBy U' tv.ownBlock) (hn:Ck.ownBlock=tv.ownBlock∨∀k,Ck.ownBlock=some k ->U.heap.size<=k):nQ U' B u1 u2 fv Ck:=
 ⟨(hg.block B h.tb.lt (fun e=>h.nt e.symm)).trans h.tb,h.nf,fun e=>by
  rcases hn with hn |hn
  ·exact h.nt (hn▸e)
  ·have:=hn B e;have:=h.tb.lt;omega⟩
theorem nQ.off {B:Nat} (h:nQ U B u1 u2 fv tv) (b j:Nat) (u:Value) (hne:B≠b):nQ (U.setCell ⟨b,j,none⟩ u) B u1 u2 fv tv:=⟨(je U ⟨b,j,none⟩ u B hne).trans h.tb,h.nf,h.nt⟩
theorem nQ.new {W V:World} {b:Nat} (h:lN W b x fv tv mq mZ l Q P V) (u1 u2:Value):nQ (V.alloc (TC u1 u2)) V.heap.size u1 u2 mq mZ:=
 ⟨bh.at rfl u1 u2,fun e=>by have:=(p4 h.fo _ e).2;omega,fun e=>by have:=(h.own.lt _ e).2;omega⟩
def kQ (b B:Nat) (fv tv u1 u2:Value) (c:Bool) (U:World):Prop:=(U.cell? ⟨B,0,none⟩=some u1/\U.cell? ⟨B,1,none⟩=some u2)/\(c=false ->U.cell? ⟨b,1,none⟩=some fv/\U.cell? ⟨b,2,none⟩=some tv)
theorem kQ.of {W:World} {b B:Nat} (h:lN W b x fv tv mq mZ l Q P U) (o:nQ U B u1 u2 mq mZ) (c:Bool):kQ b B fv tv u1 u2 c U:=⟨⟨o.tb.c0,o.tb.c1⟩,fun _=>h.box.cells.2⟩
theorem kQ.late {b B:Nat} (o:nQ U B u1 u2 mq mZ):kQ b B fv tv u1 u2 true U:=⟨⟨o.tb.c0,o.tb.c1⟩,fun e=>by cases e⟩
theorem Zo (a b c q:Option Addr) (ca cb cc cq:Nat) (V:List Vr) (L:List (List Int)) (R:List (List Fr)) (vars:List Int) (w:World) (h:gP w a b c V L R) (hN:vK w b L) (hs:sQ V L R) (hw:∀l∈R,fw l<=4200) (h0:aW V L R=0) (nG:bE L=0) (h1:1<=L.length) (dh:∀l∈L,l.length<=140737488355328) (hq:ax w q vars) (dN:vars.length<=1000) (vC:∀U:World,gP U a b c V L R ->Calls Tryz.prog 75 #[.agg #[.slice a V.length ca,.slice b L.length cb,.slice c R.length cc]] U fun e w'=>e=.returned (.int .i64 (aW V L R))/\Below U.heap.size U w'):
  Calls Tryz.prog 46 #[.agg #[.slice a V.length ca,.slice b L.length cb,.slice c R.length cc],.slice q vars.length cq] w fun e w'=>∃g d cd t' b9,e=.returned (.agg #[.slice (some ⟨g,0,none⟩) V.length V.length,.slice d ((ir L).filter fun v:Nat=>vars.contains (v:Int)).length cd,.slice t' ((ir L).filter fun v:Nat=>vars.contains (v:Int)).length b9])/\ax w' (some ⟨g,0,none⟩) (iL (ah V))/\ax w' d (iL ((ir L).filter fun v:Nat=>vars.contains (v:Int)))/\dQ w' t' (((ir L).filter fun v:Nat=>vars.contains (v:Int)).map fun v=>(gU L v,gL V L R v))/\Below w.heap.size w w'/\eC w.heap.size t' b9:=by
 have aM:=gD h0;have h8:L.length<=8:=by rw[aM.len];exact aM.n8
 have HMO:=hid (fun (U:World) (hU:Below w.heap.size w U)=>ain b cb L U (h.aa hU).pars dh nG);have bC:=hid (fun (x:Option Addr) (cx:Nat) (U:World) (hx:fh U x (np L))=>akX x cx L U hx (ud nG) h1 h8);have fT:=hid (fun (U:World) (hU:Below w.heap.size w U)=>NX a b c ca cb cc L.length R.length V U (h.aa hU).vars hs.vars.1);have Wx:=hid (fun (v:Nat) (hv:v<V.length) (U:World) (hU:Below w.heap.size w U)=>ake a b c ca cb cc v V L R U (h.aa hU) (hN.aa h.pars hU) hs hw h0 hv vC);have jt:Hid (∀(x:Int) (U:World),Below w.heap.size w U ->Calls Tryz.prog 49 #[.slice q vars.length cq,.int .i64 x] U fun e w'=>e=.returned (.bool (vars.contains x))/\Below U.heap.size U w'):=fun x U hU=>GS q cq vars x U (hq.aa hU) (by omega);have A8:=(au w.heap.size w).alloc (ar _) (NC (.slice a V.length ca) (.slice b L.length cb) (.slice c R.length cc));have Dc:=A8.alloc A8.size (.cells #[.slice none 0 0,.slice none 0 0,.slice none 0 0] 87);have Uj:=gX.at (w:=w) rfl (.slice a V.length ca) (.slice b L.length cb) (.slice c R.length cc);have Hv:=Uj.aa ((au _ _).alloc (ar _) (.cells #[.slice none 0 0,.slice none 0 0,.slice none 0 0] 87)) Uj.lt;have iA:bj ((w.alloc (NC (.slice a V.length ca) (.slice b L.length cb) (.slice c R.length cc))).alloc (.cells #[.slice none 0 0,.slice none 0 0,.slice none 0 0] 87)) (w.heap.size+1) (.slice none 0 0) (.slice none 0 0) (.slice none 0 0):=bj.at (w:=w.alloc (NC (.slice a V.length ca) (.slice b L.length cb) (.slice c R.length cc))) (by simp) _ _ _;have n1:=Hv.cells.2.1
 obtain⟨FL,C8⟩:∃FL:Nat ->List Nat,∀k,((ir L).take k).filter (fun v:Nat=>vars.contains (v:Int))=FL k:=⟨fun k=>((ir L).take k).filter (fun v:Nat=>vars.contains (v:Int)),fun _=>rfl⟩;obtain⟨TL,oK⟩:∃TL:Nat ->List Tb,∀k,(FL k).map (fun v=>(gU L v,gL V L R v))=TL k:=⟨fun k=>(FL k).map (fun v=>(gU L v,gL V L R v)),fun _=>rfl⟩;have ER:(ir L).length=L.length:=by rw[NS];simp
 have uw:Hid (∀i,i<L.length ->∃v:Nat,v<V.length/\(∀(d1:Option Addr) (U:World),ax U d1 (iL (ir L)) ->∃g o,d1=some ⟨g,o,none⟩/\g<U.heap.size/\U.cell? ⟨g,o+i,none⟩=some (.int .i64 (v:Nat)))/\(vars.contains (v:Int)=true ->FL (i+1)=FL i++[v])/\(vars.contains (v:Int)=false ->FL (i+1)=FL i)):=fun i hi=>by
  have Ox:i<(ir L).length:=by omega
  have hiL:i<(iL (ir L)).length:=by rw[ba];exact Ox
  refine⟨(ir L)[i],?_,fun d1 U hU=>?_,fun h=>?_,fun h=>?_⟩
  ·rw[<- aM.len];exact NQ (ud nG) h1 h8 (bH Ox)
  ·obtain⟨g,o,e,hg,hc⟩:=hU i hiL;refine⟨g,o,e,hg,?_⟩;rw[hc];simp[iL]
  ·rw[<- C8, <- C8,fR Ox,Ch,Ad (p:=fun v:Nat=>vars.contains (v:Int)) h];rfl
  ·rw[<- C8, <- C8,fR Ox,Ch,Ae (p:=fun v:Nat=>vars.contains (v:Int)) (by rw[h];decide)];simp
 have Mq:Hid (FL 0=[]/\TL 0=[]):=by show _/\_;rw[<- oK, <- C8];exact⟨rfl,rfl⟩
 have kz:Hid (∀k,(FL k).length<=8):=fun k=>by rw[<- C8];exact aS (pR ..) (by rw[eZ];omega)
 have VS:Hid (∀k,(TL k).length<=8):=fun k=>by rw[<- oK,c5];exact kz.o k
 have sU:Hid (∀(k v:Nat),FL (k+1)=FL k++[v] ->iL (FL (k+1))=iL (FL k)++[(v:Int)]/\TL (k+1)=TL k++[(gU L v,gL V L R v)]):=fun k v h=>by rw[<- oK, <- oK,h,fY,iL,fY];exact⟨rfl,rfl⟩
 have LJ:Hid (∀k,FL (k+1)=FL k ->TL (k+1)=TL k):=fun k h=>by rw[<- oK, <- oK,h]
 have Mo:Hid (FL L.length=(ir L).filter (fun v:Nat=>vars.contains (v:Int))):=by show _=_;rw[<- C8, <- ER,fJ]
 have qu:Hid (TL L.length=((ir L).filter (fun v:Nat=>vars.contains (v:Int))).map fun v=>(gU L v,gL V L R v)):=by show _=_;rw[<- oK,Mo.o]
 have abI:(TL L.length).length=(FL L.length).length:=by rw[<- oK,c5]
 rw[<- Mo.o] at qu⊢;rw[<- qu.o];clear C8 oK Mo qu ER;clear h hN hs hw hq vC A8 Uj;go_enter Tryz.func46,Tryz.ntmps46;go_wp2_with fail
 generalize ((w.alloc (NC (.slice a V.length ca) (.slice b L.length cb) (.slice c R.length cc))).alloc (.cells #[.slice none 0 0,.slice none 0 0,.slice none 0 0] 87))=W0 at *;refine(HMO.o W0 Dc).af ?_;rintro e w1 ⟨G1,rfl,i6,hb1⟩;have hB1:=Dc.trans (hb1.af Dc.size);have vA:=Hv.aa hb1 Hv.lt;have hR1:=iA.aa hb1 iA.lt;have x6:=hid (bC.o _ L.length w1 i6);clear n1 Hv iA Dc hb1 i6;go_wp2_with fail
 refine x6.o.af ?_;rintro e w2 ⟨d1,zh,G2,rfl,jP,hb2⟩;have hB2:=hB1.trans (hb2.af hB1.size);have E8:=vA.aa hb2 vA.lt;have hR2:=hR1.aa hb2 hR1.lt;obtain⟨n0,n1,n2⟩:=E8.cells;have iR:=hid (fT.o w2 hB2);clear hB1 vA hR1 hb2 x6;go_wp2_with fail
 refine iR.o.af ?_;rintro e w3 ⟨G,rfl,hG,hsz,hb3⟩;have bU:=hB2.trans (hb3.af hB2.size);have Ui:=E8.aa hb3 E8.lt;have lH:=hR2.aa hb3 hR2.lt;have Uo:=jP.aa hb3;have hl0:=hR2.lt;have hs3:=hb3.size;have jT:=(au w3.heap.size w3).alloc (ar _) (.cells #[.slice (some ⟨G,0,none⟩) V.length V.length,.slice none 0 0,.slice none 0 0] 87);have eM:(w3.alloc (.cells #[.slice (some ⟨G,0,none⟩) V.length V.length,.slice none 0 0,.slice none 0 0] 87)).heap.size=w3.heap.size+1:=by simp
 have fV:=hid (bU.trans (jT.af bU.size));have uA:=hid (Ui.aa jT Ui.lt);have js:=hid (lH.alloc (.cells #[.slice (some ⟨G,0,none⟩) V.length V.length,.slice none 0 0,.slice none 0 0] 87));have F4:=hid (Uo.aa jT);have HIS:=hid (hsz.ints.aa jT);have E9:=hsz.lt;have vS:Hid (lN (w3.alloc (.cells #[.slice (some ⟨G,0,none⟩) V.length V.length,.slice none 0 0,.slice none 0 0] 87)) w3.heap.size (.slice (some ⟨G,0,none⟩) V.length V.length) (.slice none 0 0) (.slice none 0 0) (.slice none 0 0) (.slice none 0 0) (iL []) [] [] (w3.alloc (.cells #[.slice (some ⟨G,0,none⟩) V.length V.length,.slice none 0 0,.slice none 0 0] 87))):=lN.start (bj.at (w:=w3) rfl (.slice (some ⟨G,0,none⟩) V.length V.length) (.slice none 0 0) (.slice none 0 0));have mI:=hid jT
 have HIW:Hid (∀U:World,(w3.alloc (.cells #[.slice (some ⟨G,0,none⟩) V.length V.length,.slice none 0 0,.slice none 0 0] 87)).grownBy U (some w3.heap.size) ->ax U d1 (iL (ir L))):=fun U hU=>Hg F4.o (fun g o e hne e2=>by
  obtain⟨g',o',e',iK,_⟩:=Uo 0 (by cases hl:iL (ir L) with |nil=>exact absurd hl hne |cons x l=>simp);rw[e] at e';cases e';cases e2;omega) hU
 have HIG:Hid (∀U:World,(w3.alloc (.cells #[.slice (some ⟨G,0,none⟩) V.length V.length,.slice none 0 0,.slice none 0 0] 87)).grownBy U (some w3.heap.size) ->ax U (some ⟨G,0,none⟩) (iL (ah V))):=fun U hU=>Hg HIS.o (fun g o e hne e2=>by
  cases e;cases e2;omega) hU
 clear hB2 bU E8 Ui hR2 lH Uo jP jT hsz hb3 n0 n1 n2 iR fT HMO bC;clear h0 nG aM dh;go_wp2_with fail
 generalize (w3.alloc (.cells #[.slice (some ⟨G,0,none⟩) V.length V.length,.slice none 0 0,.slice none 0 0] 87))=W4 at *;have hb5:w3.heap.size<W4.heap.size:=by omega
 go_loopw [32] (fun iv wr=>∃(i:Nat) (fv tv:Value) (Q:List (Value×Value)),i<=L.length/\iv=.int .i64 i/\Hid (lN W4 w3.heap.size (.slice (some ⟨G,0,none⟩) V.length V.length) fv tv fv tv (iL (FL i)) Q (TL i) wr)) (fun iv _=>L.length - (intOf iv).toNat)
 case atStart=>exact⟨0,_,_,_,aU _,rfl,by rw[Mq.o.1,Mq.o.2];exact vS⟩
 case round=>
  obtain⟨i,fv,tv,Q,hi,rfl,HM⟩:=hrel;have Hq:=HM.o.fr.size;have HB:Hid (Below w.heap.size w wr):=H4 fV.o HM.o.fr (by omega) (by omega);have BS:Hid (Below w3.heap.size w3 wr):=H4 mI.o HM.o.fr (by omega) (by omega);have IE:Hid (gX wr w.heap.size (.slice a V.length ca) (.slice b L.length cb) (.slice c R.length cc)):=(HM.o.fr.block _ uA.o.lt (fun e=>by have:=lV e;omega)).trans uA.o;have lQ:Hid (bj wr (w.heap.size+1) (.slice none 0 0) (.slice none 0 0) (.slice none 0 0)):=(HM.o.fr.block _ js.o.lt (fun e=>by have:=lV e;omega)).trans js.o;by_cases hlt2:i<L.length
  ·obtain⟨v,hv,hcl,hS1,Ue⟩:=uw.o i hlt2;obtain⟨g,o,rfl,hg,hc⟩:=hcl d1 wr (HIW.o wr HM.o.fr);have HX:=hid (jt.o (v:Int) wr HB.o);have HGX:=hid (Wx.o v hv);have j5:=hid (fun h=>sU.o i v (hS1 h));have qZ:=hid Ue;clear hcl hS1 Ue js uA lQ;generalize vars.contains (v:Int)=bv at *;go_wp2_with fail
   refine HX.o.af ?_;rintro e w5 ⟨rfl,KE⟩;have xV:=hid (HM.o.under KE);have BC:=hid (IE.o.aa KE IE.o.lt);have eD:=hid (HB.o.trans (KE.af HB.o.size));have hs5:=KE.size;have Dx:Hid (∀Z,fv.ownBlock=some Z ->Z<wr.heap.size):=fun Z hZ=>(p4 HM.o.fo Z hZ).2;have Dw:Hid (∀Z,tv.ownBlock=some Z ->Z<wr.heap.size):=fun Z hZ=>(HM.o.own.lt Z hZ).2;clear hc HX HM IE HB KE BS;cases bv with
   |false=>
    replace qZ:=hid (qZ.o rfl);replace LJ:=hid (LJ.o i qZ.o);go_wp2;go_roundw
    case rel=>exact⟨i+1,fv,tv,Q,by omega,by go_num,by rw[qZ.o,LJ.o];exact xV⟩
    case measure=>simp[intOf];omega
   |true=>
    obtain⟨n0,n1,n2⟩:=BC.o.cells;have x4:=hid (HGX.o w5 eD.o);replace j5:=hid (j5.o rfl);clear HGX qZ eD Wx jt LJ sU;go_wp2_with fail
    refine x4.o.af ?_;rintro e w6 ⟨⟨u1,u2,rfl,yM,hn6⟩,bD⟩;have rM:=hid yM.slices;have hs6:=bD.size;have pI:Hid (∀Z,Z<wr.heap.size ->fE Z (gU L v,gL V L R v) (u1,u2)):=fun Z hZ=>hn6 Z (by omega);have Wl:=hid (xV.o.under bD);have HV6:=hid yM;obtain⟨x1,kf,kh,rfl⟩:=yM.slices.1;obtain⟨x2,ke,kg,rfl⟩:=yM.slices.2;clear yM hn6 x4 n0 n1 n2 BC xV;go_upto_region 9 with (fail)
    have sL:=(au w6.heap.size w6).alloc (ar _) (TC (.slice x1 kf kh) (.slice x2 ke kg));have HO:=hid (nQ.new Wl.o (.slice x1 kf kh) (.slice x2 ke kg));have HM:=hid (Wl.o.under sL);have HV:=hid (HV6.o.aa sL);(have hne:w6.heap.size≠w3.heap.size:=by omega);clear sL Wl HV6 bD;generalize aj0:w6.heap.size=Gh at *;obtain⟨W8,T8⟩:∃W8,w6.alloc (TC (.slice x1 kf kh) (.slice x2 ke kg))=W8:=⟨_,rfl⟩;have abH:w6.alloc (.cells #[.slice x1 kf kh,.slice x2 ke kg] 39)=W8:=T8;rw[T8] at HO HM HV;simp only[abH];clear T8 abH aj0;have iN:Below W8.heap.size W8 W8.drew:=(au W8.heap.size W8).drew;replace HO:=hid (HO.o.under iN);replace HM:=hid (HM.o.under iN);replace HV:=hid (HV.o.aa iN);clear iN;obtain⟨D5,iM⟩:∃D5,W8.drew=D5:=⟨_,rfl⟩;rw[iM] at HO HM HV;refine QT 11 (kQ w3.heap.size Gh fv tv (.slice x1 kf kh) (.slice x2 ke kg)) (by kernel_rfl) (by rw[iM];exact kQ.of HM.o HO.o false) (fun aq=>?_);rw[iM] at aq⊢;clear iM;(try simp only[gE,aP]);refine l6 (i:=0) (oi:=_) (v:=.pointer (some ⟨w3.heap.size,1,none⟩)) (b:=false) rfl (by kernel_rfl) (by kernel_rfl) (by kernel_rfl) (by decide) (fun _ _ _ h=>h) (Or.inl ⟨by rfl,?_⟩) (by kernel_rfl) (by assumption) ?_
    ·intro u' aL;go_simp
    (try simp only[gE,aP]);refine GD (i:=1) (oi:=_) (v:=fv) rfl (by kernel_rfl) (by kernel_rfl) (by kernel_rfl) (by decide) rfl (by kernel_rfl) (fun _ _ _ h=>h) (Or.inl ⟨by rfl,?_⟩) (by kernel_rfl) (by assumption) ?_
    ·intro u' aL;(try simp only[gE]);obtain⟨⟨_,_⟩,Ud⟩:=aL;obtain⟨hS3,hS4⟩:=Ud rfl;go_simp
    (try simp only[gE,aP]);refine l6 (i:=2) (oi:=_) (v:=.int .i64 (v:Nat)) (b:=false) rfl (by kernel_rfl) (by kernel_rfl) (by kernel_rfl) (by decide) (fun _ _ _ h=>h) (Or.inl ⟨by rfl,?_⟩) (by kernel_rfl) (by assumption) ?_
    ·intro u' aL;go_simp
    (try simp only[gE,aP]);refine l6 (i:=5) (oi:=_) (v:=.pointer (some ⟨w3.heap.size,2,none⟩)) (b:=false) rfl (by kernel_rfl) (by kernel_rfl) (by kernel_rfl) (by decide) (fun _ _ _ h=>h) (Or.inl ⟨by rfl,?_⟩) (by kernel_rfl) (by assumption) ?_
    ·intro u' aL;go_simp
    (try simp only[gE,aP]);refine GD (i:=6) (oi:=_) (v:=tv) rfl (by kernel_rfl) (by kernel_rfl) (by kernel_rfl) (by decide) rfl (by kernel_rfl) (fun _ _ _ h=>h) (Or.inl ⟨by rfl,?_⟩) (by kernel_rfl) (by assumption) ?_
    ·intro u' aL;(try simp only[gE]);obtain⟨⟨_,_⟩,Ud⟩:=aL;obtain⟨hS3,hS4⟩:=Ud rfl;go_simp
    (try simp only[gE,aP]);refine l6 (i:=7) (oi:=_) (v:=.agg #[.slice x1 kf kh,.slice x2 ke kg]) (b:=false) rfl (by kernel_rfl) (by kernel_rfl) (by kernel_rfl) (by decide) (fun _ _ _ h=>h) (Or.inl ⟨by rfl,?_⟩) (by kernel_rfl) (by assumption) ?_
    ·intro u' aL;(try simp only[gE]);obtain⟨_,⟨Ue,hS1⟩,_⟩:=aL;go_simp
    (try simp only[gE,aP]);refine om (rs:=[3,8]) (by kernel_rfl) (by simp) (dS.cons (b:=false) rfl (by kernel_rfl) ?_ (dS.cons (b:=false) rfl (by kernel_rfl) ?_ (dS.nil)))
    ·intro K' hK';go_simp;have aN:=(au D5.heap.size D5).alloc (ar _) (.cells #[.int .i64 (v:Nat)] 3);have pM:=hid (a7 D5 3 (.int .i64 (v:Nat))).cell;replace HM:=hid (HM.o.under aN);replace HO:=hid (HO.o.under aN);replace HV:=hid (HV.o.aa aN);refine hK'.o _ _ (kQ.of HM.o HO.o false) (fun ak=>?_);clear aN;clear hK' K' aq;have aq:=ak;clear ak;obtain⟨ga,wU⟩:∃ga,D5.heap.size=ga:=⟨_,rfl⟩;obtain⟨ua,mj⟩:∃ua,D5.alloc (.cells #[.int .i64 (v:Nat)] 3)=ua:=⟨_,rfl⟩;rw[wU,mj] at pM;rw[mj] at HM HO HV;simp only[mj] at aq⊢;simp only[wU];clear mj wU;(try simp only[gE,aP]);refine om (rs:=[4,8]) (by kernel_rfl) (by simp) (dS.cons (b:=false) rfl (by kernel_rfl) ?_ (dS.cons (b:=false) rfl (by kernel_rfl) ?_ (dS.nil)))
     ·intro K' hK';rw[ay (by rfl)];refine QV _ _ rfl W4.heap.size fv (iL (FL i)) (v:Int) rfl HM.o.fo ga rfl pM.o (by rw[ba];have:=kz.o i;omega) HM.o.fr.size ?_;intro Df w9 rH jo nC
      have DF:Hid (∀Z,Df.ownBlock=some Z ->fE Z (gU L v,gL V L R v) (.slice x1 kf kh,.slice x2 ke kg)):=fun Z hR=>by
       rcases nC with hn |hn
       ·exact pI.o Z (Dx.o Z (by rw[<- hn];exact hR))
       ·exact HV.o.lt (hn Z hR)
      replace HV:=hid (HV.o.keepR (fun r hr=>pI.o r (Dx.o r hr)) jo);replace HO:=hid (HO.o.pushF jo nC);replace HM:=hid (HM.o.pushF hb5 rH jo nC)
      obtain⟨nf,fa,fc,rfl⟩:∃nf fa fc,Df=Value.slice fa nf fc:=by
       obtain⟨fa,fc,e⟩:=uO rH;exact⟨_,fa,fc,e⟩
      refine hK'.o _ _ (kQ.of HM.o HO.o false) (fun ak=>?_);clear rH jo nC pM;clear hK' K' aq;have aq:=ak;clear ak;(try simp only[gE,aP]);refine l6 (i:=10) (oi:=_) (v:=.pointer (some ⟨w3.heap.size,1,none⟩)) (b:=false) rfl (by kernel_rfl) (by kernel_rfl) (by kernel_rfl) (by decide) (fun _ _ _ h=>h) (Or.inl ⟨by rfl,?_⟩) (by kernel_rfl) (by assumption) ?_
      ·intro u' aL;go_simp
      (try simp only[gE,aP]);refine om (rs:=[8]) (by kernel_rfl) (by simp) (dS.cons (b:=false) rfl (by kernel_rfl) ?_ (dS.nil))
      ·intro K' hK';go_simp;have aN:=(au w9.heap.size w9).alloc (ar _) (TC (.slice x1 kf kh) (.slice x2 ke kg));have mD:=hid (nQ.new HM.o (.slice x1 kf kh) (.slice x2 ke kg));replace HM:=hid (HM.o.under aN);replace HO:=hid (HO.o.under aN);replace HV:=hid (HV.o.aa aN);refine hK'.o _ _ (kQ.of HM.o HO.o false) (fun ak=>?_);clear aN;clear hK' K' aq;have aq:=ak;clear ak;obtain⟨gt,oI⟩:∃gt,w9.heap.size=gt:=⟨_,rfl⟩;obtain⟨ut,oB⟩:∃ut,w9.alloc (TC (.slice x1 kf kh) (.slice x2 ke kg))=ut:=⟨_,rfl⟩;have Cz:w9.alloc (.cells #[.slice x1 kf kh,.slice x2 ke kg] 39)=ut:=oB;rw[oI,oB] at mD;rw[oB] at HM HO HV;simp only[Cz] at aq⊢;simp only[oI];clear oB Cz oI;(try simp only[gE,aP]);refine om (rs:=[9]) (by kernel_rfl) (by simp) (dS.cons (b:=false) rfl (by kernel_rfl) ?_ (dS.nil))
       ·intro K' hK';rw[ay (by rfl)];refine QU _ _ rfl W4.heap.size tv (TL i).length (fK Q) (.slice x1 kf kh) (.slice x2 ke kg) rfl HM.o.own.own gt rfl mD.o.tb.c0 mD.o.tb.c1 rM.o.1 rM.o.2 (by have:=VS.o i;omega) HM.o.fr.size ?_;intro cP bI dw dO fS;replace HO:=hid (HO.o.pushT dO fS);replace HM:=hid (HM.o.pushT hb5 HV.o (fun Z hZ=>pI.o Z (Dw.o Z hZ)) DF.o (fun Z hZ=>pI.o Z (by omega)) dw dO fS);obtain⟨ta,tc,rfl⟩:=uO dw;refine hK'.o _ _ (kQ.of HM.o HO.o false) (fun ak=>?_);clear dw dO fS mD HV DF;clear hK' K' aq;have aq:=ak;clear ak;have c1:=HM.o.box.cells.2.1;have f1:=HM.o.box.fz 1;refine om (rs:=[11]) (by kernel_rfl) (by simp) (dS.cons (b:=true) rfl (by kernel_rfl) ?_ (dS.nil))
        ·intro K' hK';go_simp;replace HM:=hid (HM.o.set1 hb5 (.slice fa nf fc));replace HO:=hid (HO.o.off w3.heap.size 1 (.slice fa nf fc) hne);refine hK'.o _ _ (kQ.late HO.o) (fun ak=>?_);clear c1 f1;clear hK' K' aq;have aq:=ak;clear ak;(try simp only[gE,aP]);refine l6 (i:=12) (oi:=_) (v:=.pointer (some ⟨w3.heap.size,2,none⟩)) (b:=true) rfl (by kernel_rfl) (by kernel_rfl) (by kernel_rfl) (by decide) (fun _ _ _ h=>h) (Or.inl ⟨by rfl,?_⟩) (by kernel_rfl) (by assumption) ?_
         ·intro u' aL;go_simp
         have c2:=HM.o.box.cells.2.2;have f2:=HM.o.box.fz 2;refine om (rs:=[13]) (by kernel_rfl) (by simp) (dS.cons (b:=true) rfl (by kernel_rfl) ?_ (dS.nil))
         ·intro K' hK';go_simp;replace HM:=hid (HM.o.set2 hb5 (.slice ta ((TL i).length+1) tc));replace HO:=hid (HO.o.off w3.heap.size 2 (.slice ta ((TL i).length+1) tc) hne);refine hK'.o _ _ (kQ.late HO.o) (fun ak=>?_);clear c2 f2;clear hK' K' aq;have aq:=ak;clear ak;(try simp only[gE,aP]);refine Jk (by kernel_rfl) ?_ _;clear aq HO;generalize (((bI.setCell ⟨w3.heap.size,1,none⟩ (.slice fa nf fc))).setCell ⟨w3.heap.size,2,none⟩ (.slice ta ((TL i).length+1) tc))=tE at *;go_wp2;go_roundw
          case rel=>exact⟨i+1,_,_,_,by omega,by go_num,by rw[j5.o.1,j5.o.2];exact HM⟩
          case measure=>simp[intOf];omega
     ·intro K' hK';go_simp;have aN:=(au ua.heap.size ua).alloc (ar _) (TC (.slice x1 kf kh) (.slice x2 ke kg));have mD:=hid (nQ.new HM.o (.slice x1 kf kh) (.slice x2 ke kg));replace HM:=hid (HM.o.under aN);replace HO:=hid (HO.o.under aN);replace HV:=hid (HV.o.aa aN);replace pM:=hid (((aN.cell (p:=⟨ga,0,none⟩) (World.block_lt_of_cell? _ _ pM.o))).trans pM.o);refine hK'.o _ _ (kQ.of HM.o HO.o false) (fun ak=>?_);clear aN;clear hK' K' aq;have aq:=ak;clear ak;obtain⟨gt,oI⟩:∃gt,ua.heap.size=gt:=⟨_,rfl⟩;obtain⟨ut,oB⟩:∃ut,ua.alloc (TC (.slice x1 kf kh) (.slice x2 ke kg))=ut:=⟨_,rfl⟩;have Cz:ua.alloc (.cells #[.slice x1 kf kh,.slice x2 ke kg] 39)=ut:=oB;rw[oI,oB] at mD;rw[oB] at HM HO HV pM;simp only[Cz] at aq⊢;simp only[oI];clear oB Cz oI;(try simp only[gE,aP]);refine om (rs:=[4]) (by kernel_rfl) (by simp) (dS.cons (b:=false) rfl (by kernel_rfl) ?_ (dS.nil))
      ·intro K' hK';rw[ay (by rfl)];refine QV _ _ rfl W4.heap.size fv (iL (FL i)) (v:Int) rfl HM.o.fo ga rfl pM.o (by rw[ba];have:=kz.o i;omega) HM.o.fr.size ?_;intro Df w9 rH jo nC
       have DF:Hid (∀Z,Df.ownBlock=some Z ->fE Z (gU L v,gL V L R v) (.slice x1 kf kh,.slice x2 ke kg)):=fun Z hR=>by
        rcases nC with hn |hn
        ·exact pI.o Z (Dx.o Z (by rw[<- hn];exact hR))
        ·exact HV.o.lt (hn Z hR)
       replace HV:=hid (HV.o.keepR (fun r hr=>pI.o r (Dx.o r hr)) jo);replace mD:=hid (mD.o.pushF jo nC);replace HO:=hid (HO.o.pushF jo nC);replace HM:=hid (HM.o.pushF hb5 rH jo nC)
       obtain⟨nf,fa,fc,rfl⟩:∃nf fa fc,Df=Value.slice fa nf fc:=by
        obtain⟨fa,fc,e⟩:=uO rH;exact⟨_,fa,fc,e⟩
       refine hK'.o _ _ (kQ.of HM.o HO.o false) (fun ak=>?_);clear rH jo nC pM;clear hK' K' aq;have aq:=ak;clear ak;(try simp only[gE,aP]);refine l6 (i:=10) (oi:=_) (v:=.pointer (some ⟨w3.heap.size,1,none⟩)) (b:=false) rfl (by kernel_rfl) (by kernel_rfl) (by kernel_rfl) (by decide) (fun _ _ _ h=>h) (Or.inl ⟨by rfl,?_⟩) (by kernel_rfl) (by assumption) ?_
       ·intro u' aL;go_simp
       (try simp only[gE,aP]);refine om (rs:=[9]) (by kernel_rfl) (by simp) (dS.cons (b:=false) rfl (by kernel_rfl) ?_ (dS.nil))
       ·intro K' hK';rw[ay (by rfl)];refine QU _ _ rfl W4.heap.size tv (TL i).length (fK Q) (.slice x1 kf kh) (.slice x2 ke kg) rfl HM.o.own.own gt rfl mD.o.tb.c0 mD.o.tb.c1 rM.o.1 rM.o.2 (by have:=VS.o i;omega) HM.o.fr.size ?_;intro cP bI dw dO fS;replace HO:=hid (HO.o.pushT dO fS);replace HM:=hid (HM.o.pushT hb5 HV.o (fun Z hZ=>pI.o Z (Dw.o Z hZ)) DF.o (fun Z hZ=>pI.o Z (by omega)) dw dO fS);obtain⟨ta,tc,rfl⟩:=uO dw;refine hK'.o _ _ (kQ.of HM.o HO.o false) (fun ak=>?_);clear dw dO fS mD HV DF;clear hK' K' aq;have aq:=ak;clear ak;have c1:=HM.o.box.cells.2.1;have f1:=HM.o.box.fz 1;refine om (rs:=[11]) (by kernel_rfl) (by simp) (dS.cons (b:=true) rfl (by kernel_rfl) ?_ (dS.nil))
        ·intro K' hK';go_simp;replace HM:=hid (HM.o.set1 hb5 (.slice fa nf fc));replace HO:=hid (HO.o.off w3.heap.size 1 (.slice fa nf fc) hne);refine hK'.o _ _ (kQ.late HO.o) (fun ak=>?_);clear c1 f1;clear hK' K' aq;have aq:=ak;clear ak;(try simp only[gE,aP]);refine l6 (i:=12) (oi:=_) (v:=.pointer (some ⟨w3.heap.size,2,none⟩)) (b:=true) rfl (by kernel_rfl) (by kernel_rfl) (by kernel_rfl) (by decide) (fun _ _ _ h=>h) (Or.inl ⟨by rfl,?_⟩) (by kernel_rfl) (by assumption) ?_
         ·intro u' aL;go_simp
         have c2:=HM.o.box.cells.2.2;have f2:=HM.o.box.fz 2;refine om (rs:=[13]) (by kernel_rfl) (by simp) (dS.cons (b:=true) rfl (by kernel_rfl) ?_ (dS.nil))
         ·intro K' hK';go_simp;replace HM:=hid (HM.o.set2 hb5 (.slice ta ((TL i).length+1) tc));replace HO:=hid (HO.o.off w3.heap.size 2 (.slice ta ((TL i).length+1) tc) hne);refine hK'.o _ _ (kQ.late HO.o) (fun ak=>?_);clear c2 f2;clear hK' K' aq;have aq:=ak;clear ak;(try simp only[gE,aP]);refine Jk (by kernel_rfl) ?_ _;clear aq HO;generalize (((bI.setCell ⟨w3.heap.size,1,none⟩ (.slice fa nf fc))).setCell ⟨w3.heap.size,2,none⟩ (.slice ta ((TL i).length+1) tc))=tE at *;go_wp2;go_roundw
          case rel=>exact⟨i+1,_,_,_,by omega,by go_num,by rw[j5.o.1,j5.o.2];exact HM⟩
          case measure=>simp[intOf];omega
    ·intro K' hK';go_simp;have aN:=(au D5.heap.size D5).alloc (ar _) (TC (.slice x1 kf kh) (.slice x2 ke kg));have mD:=hid (nQ.new HM.o (.slice x1 kf kh) (.slice x2 ke kg));replace HM:=hid (HM.o.under aN);replace HO:=hid (HO.o.under aN);replace HV:=hid (HV.o.aa aN);refine hK'.o _ _ (kQ.of HM.o HO.o false) (fun ak=>?_);clear aN;clear hK' K' aq;have aq:=ak;clear ak;obtain⟨gt,oI⟩:∃gt,D5.heap.size=gt:=⟨_,rfl⟩;obtain⟨ut,oB⟩:∃ut,D5.alloc (TC (.slice x1 kf kh) (.slice x2 ke kg))=ut:=⟨_,rfl⟩;have Cz:D5.alloc (.cells #[.slice x1 kf kh,.slice x2 ke kg] 39)=ut:=oB;rw[oI,oB] at mD;rw[oB] at HM HO HV;simp only[Cz] at aq⊢;simp only[oI];clear oB Cz oI;(try simp only[gE,aP]);refine om (rs:=[3]) (by kernel_rfl) (by simp) (dS.cons (b:=false) rfl (by kernel_rfl) ?_ (dS.nil))
     ·intro K' hK';go_simp;have aN:=(au ut.heap.size ut).alloc (ar _) (.cells #[.int .i64 (v:Nat)] 3);have pM:=hid (a7 ut 3 (.int .i64 (v:Nat))).cell;replace HM:=hid (HM.o.under aN);replace HO:=hid (HO.o.under aN);replace mD:=hid (mD.o.under aN);replace HV:=hid (HV.o.aa aN);refine hK'.o _ _ (kQ.of HM.o HO.o false) (fun ak=>?_);clear aN;clear hK' K' aq;have aq:=ak;clear ak;obtain⟨ga,wU⟩:∃ga,ut.heap.size=ga:=⟨_,rfl⟩;obtain⟨ua,mj⟩:∃ua,ut.alloc (.cells #[.int .i64 (v:Nat)] 3)=ua:=⟨_,rfl⟩;rw[wU,mj] at pM;rw[mj] at HM HO HV mD;simp only[mj] at aq⊢;simp only[wU];clear mj wU;(try simp only[gE,aP]);refine om (rs:=[4]) (by kernel_rfl) (by simp) (dS.cons (b:=false) rfl (by kernel_rfl) ?_ (dS.nil))
      ·intro K' hK';rw[ay (by rfl)];refine QV _ _ rfl W4.heap.size fv (iL (FL i)) (v:Int) rfl HM.o.fo ga rfl pM.o (by rw[ba];have:=kz.o i;omega) HM.o.fr.size ?_;intro Df w9 rH jo nC
       have DF:Hid (∀Z,Df.ownBlock=some Z ->fE Z (gU L v,gL V L R v) (.slice x1 kf kh,.slice x2 ke kg)):=fun Z hR=>by
        rcases nC with hn |hn
        ·exact pI.o Z (Dx.o Z (by rw[<- hn];exact hR))
        ·exact HV.o.lt (hn Z hR)
       replace HV:=hid (HV.o.keepR (fun r hr=>pI.o r (Dx.o r hr)) jo);replace mD:=hid (mD.o.pushF jo nC);replace HO:=hid (HO.o.pushF jo nC);replace HM:=hid (HM.o.pushF hb5 rH jo nC)
       obtain⟨nf,fa,fc,rfl⟩:∃nf fa fc,Df=Value.slice fa nf fc:=by
        obtain⟨fa,fc,e⟩:=uO rH;exact⟨_,fa,fc,e⟩
       refine hK'.o _ _ (kQ.of HM.o HO.o false) (fun ak=>?_);clear rH jo nC pM;clear hK' K' aq;have aq:=ak;clear ak;(try simp only[gE,aP]);refine l6 (i:=10) (oi:=_) (v:=.pointer (some ⟨w3.heap.size,1,none⟩)) (b:=false) rfl (by kernel_rfl) (by kernel_rfl) (by kernel_rfl) (by decide) (fun _ _ _ h=>h) (Or.inl ⟨by rfl,?_⟩) (by kernel_rfl) (by assumption) ?_
       ·intro u' aL;go_simp
       (try simp only[gE,aP]);refine om (rs:=[9]) (by kernel_rfl) (by simp) (dS.cons (b:=false) rfl (by kernel_rfl) ?_ (dS.nil))
       ·intro K' hK';rw[ay (by rfl)];refine QU _ _ rfl W4.heap.size tv (TL i).length (fK Q) (.slice x1 kf kh) (.slice x2 ke kg) rfl HM.o.own.own gt rfl mD.o.tb.c0 mD.o.tb.c1 rM.o.1 rM.o.2 (by have:=VS.o i;omega) HM.o.fr.size ?_;intro cP bI dw dO fS;replace HO:=hid (HO.o.pushT dO fS);replace HM:=hid (HM.o.pushT hb5 HV.o (fun Z hZ=>pI.o Z (Dw.o Z hZ)) DF.o (fun Z hZ=>pI.o Z (by omega)) dw dO fS);obtain⟨ta,tc,rfl⟩:=uO dw;refine hK'.o _ _ (kQ.of HM.o HO.o false) (fun ak=>?_);clear dw dO fS mD HV DF;clear hK' K' aq;have aq:=ak;clear ak;have c1:=HM.o.box.cells.2.1;have f1:=HM.o.box.fz 1;refine om (rs:=[11]) (by kernel_rfl) (by simp) (dS.cons (b:=true) rfl (by kernel_rfl) ?_ (dS.nil))
        ·intro K' hK';go_simp;replace HM:=hid (HM.o.set1 hb5 (.slice fa nf fc));replace HO:=hid (HO.o.off w3.heap.size 1 (.slice fa nf fc) hne);refine hK'.o _ _ (kQ.late HO.o) (fun ak=>?_);clear c1 f1;clear hK' K' aq;have aq:=ak;clear ak;(try simp only[gE,aP]);refine l6 (i:=12) (oi:=_) (v:=.pointer (some ⟨w3.heap.size,2,none⟩)) (b:=true) rfl (by kernel_rfl) (by kernel_rfl) (by kernel_rfl) (by decide) (fun _ _ _ h=>h) (Or.inl ⟨by rfl,?_⟩) (by kernel_rfl) (by assumption) ?_
         ·intro u' aL;go_simp
         have c2:=HM.o.box.cells.2.2;have f2:=HM.o.box.fz 2;refine om (rs:=[13]) (by kernel_rfl) (by simp) (dS.cons (b:=true) rfl (by kernel_rfl) ?_ (dS.nil))
         ·intro K' hK';go_simp;replace HM:=hid (HM.o.set2 hb5 (.slice ta ((TL i).length+1) tc));replace HO:=hid (HO.o.off w3.heap.size 2 (.slice ta ((TL i).length+1) tc) hne);refine hK'.o _ _ (kQ.late HO.o) (fun ak=>?_);clear c2 f2;clear hK' K' aq;have aq:=ak;clear ak;(try simp only[gE,aP]);refine Jk (by kernel_rfl) ?_ _;clear aq HO;generalize (((bI.setCell ⟨w3.heap.size,1,none⟩ (.slice fa nf fc))).setCell ⟨w3.heap.size,2,none⟩ (.slice ta ((TL i).length+1) tc))=tE at *;go_wp2;go_roundw
          case rel=>exact⟨i+1,_,_,_,by omega,by go_num,by rw[j5.o.1,j5.o.2];exact HM⟩
          case measure=>simp[intOf];omega
  ·obtain rfl:i=L.length:=by omega
   obtain⟨d,cd,rfl,abm⟩:=HM.o.fo.ints;obtain⟨ta,tc,rfl,yO⟩:=HM.o.own.row;obtain⟨x0,x1,x2⟩:=HM.o.box.cells;obtain⟨r0,r1,r2⟩:=lQ.o.cells;have Am:=lQ.o.fz 0;have JE:=lQ.o.fz 1;have JD:=lQ.o.fz 2;have e1:(iL (FL L.length)).length=(FL L.length).length:=ba _;rw[e1] at HM x1;rw[abI] at HM x2;have xR:=hid (lQ.o.put (.slice (some ⟨G,0,none⟩) V.length V.length) (.slice d (FL L.length).length cd) (.slice ta (FL L.length).length tc));have uF:=hid (bF HB.o (show w.heap.size<=w.heap.size+1 by omega) (.slice (some ⟨G,0,none⟩) V.length V.length) (.slice d (FL L.length).length cd) (.slice ta (FL L.length).length tc))
   have eQ:Value.ownBlock (.slice ta (FL L.length).length tc)≠some (w.heap.size+1):=fun e=>by
    have:=(HM.o.own.lt _ e).1;omega
   have vz:=((HM.o.own.off (g:=w.heap.size+1) (j:=0) (.slice (some ⟨G,0,none⟩) V.length V.length) (HM.o.far _ (by omega)) eQ).off (g:=w.heap.size+1) (j:=1) (.slice d (FL L.length).length cd) (HM.o.far _ (by omega)) eQ).off (g:=w.heap.size+1) (j:=2) (.slice ta (FL L.length).length tc) (HM.o.far _ (by omega)) eQ;obtain⟨Ri,Re,e2,wI⟩:=vz.row;rw[abI] at e2;injection e2 with e3 e4 e5;subst e3 e5;clear e4;have FB:=hid wI
   have mF:∀g o,d=some ⟨g,o,none⟩ ->iL (FL L.length)≠[] ->g≠w.heap.size+1:=fun g o e _ e2=>by
    subst e;have:=(p4 HM.o.fo g rfl).1;omega
   have vV:=hid (((abm.off (g:=w.heap.size+1) (j:=0) (y:=.slice (some ⟨G,0,none⟩) V.length V.length) mF).off (g:=w.heap.size+1) (j:=1) (y:=.slice d (FL L.length).length cd) mF).off (g:=w.heap.size+1) (j:=2) (y:=.slice ta (FL L.length).length tc) mF)
   have uz:∀g o,(some ⟨G,0,none⟩:Option Addr)=some ⟨g,o,none⟩ ->iL (ah V)≠[] ->g≠w.heap.size+1:=fun g o e _ e2=>by
    cases e;omega
   have Ml:=hid ((((HIG.o wr HM.o.fr).off (g:=w.heap.size+1) (j:=0) (y:=.slice (some ⟨G,0,none⟩) V.length V.length) uz).off (g:=w.heap.size+1) (j:=1) (y:=.slice d (FL L.length).length cd) uz).off (g:=w.heap.size+1) (j:=2) (y:=.slice ta (FL L.length).length tc) uz);have FU:=hid ((ND HM.o.own.own).up (show w.heap.size<=W4.heap.size by omega));clear vz wI yO abm uz mF eQ HM HB BS IE lQ HIW uw Wx jt sU LJ;go_wp2;refine bB (xR.o.result1 rfl _ rfl) rfl ?_;exact⟨G,d,cd,ta,tc,rfl,Ml.o,vV.o,FB.o,uF.o,FU.o⟩
theorem agy (a b c q:Option Addr) (ca cb cc cq:Nat) (V:List Vr) (L:List (List Int)) (R:List (List Fr)) (vars:List Int) (w:World) (h:gP w a b c V L R) (hN:vK w b L) (hs:sQ V L R) (hw:∀l∈R,fw l<=4200) (h0:aW V L R=0) (nG:bE L=0) (h1:1<=L.length) (dh:∀l∈L,l.length<=140737488355328) (hq:ax w q vars) (dN:vars.length<=1000) (vC:∀U:World,gP U a b c V L R ->Calls Tryz.prog 75 #[.agg #[.slice a V.length ca,.slice b L.length cb,.slice c R.length cc]] U fun e w'=>e=.returned (.int .i64 (aW V L R))/\Below U.heap.size U w'):
  Calls Tryz.prog 46 #[.agg #[.slice a V.length ca,.slice b L.length cb,.slice c R.length cc],.slice q vars.length cq] w fun e w'=>∃g d cd t' b9,e=.returned (.agg #[.slice (some ⟨g,0,none⟩) V.length V.length,.slice d ((ir L).filter fun v:Nat=>vars.contains (v:Int)).length cd,.slice t' ((ir L).filter fun v:Nat=>vars.contains (v:Int)).length b9])/\ax w' (some ⟨g,0,none⟩) (iL (ah V))/\ax w' d (iL ((ir L).filter fun v:Nat=>vars.contains (v:Int)))/\dQ w' t' (((ir L).filter fun v:Nat=>vars.contains (v:Int)).map fun v=>(gU L v,gL V L R v))/\Below w.heap.size w w':=
 (Zo a b c q ca cb cc cq V L R vars w h hN hs hw h0 nG h1 dh hq dN vC).af fun _ _ ⟨g,d,cd,t',b9,e,k1,k2,k3,k4,_⟩=>⟨g,d,cd,t',b9,e,k1,k2,k3,k4⟩
open Go.Sort Go.Lib
theorem ae0 {B:Nat} (d:Option Addr) (n cd:Nat) (l:List Int) (w:World) (h:cX w B (.slice d n cd) l) (hB:B<=w.heap.size) (hn:l.length<=100000):
  Calls Tryz.prog 77 #[.slice d n cd] w fun e w'=>e=.returned (.tuple #[])/\n=l.length/\ax w' d (l.mergeSort fun x y=>decide (x<=y))/\Below B w w':=by
 rcases h.cases with ⟨e,rfl⟩ |⟨g,cap,e,hg0,hg,hc1,hc2,hh⟩
 ·cases e;refine(Tryz.slices_Sort_int_none none 0 w).af ?_;rintro e w2 ⟨rfl,rfl⟩;exact⟨rfl,rfl,fun k hk=>absurd hk (by simp),au _ _⟩
 ·cases e;refine(Tryz.slices_Sort_int g 0 cd l w hh hg (by omega)).af ?_;have hlen:(l.mergeSort fun x y=>decide (x<=y)).length=l.length:=MP _;generalize (l.mergeSort fun x y=>decide (x<=y))=zs at *;rintro e w2 ⟨rfl,q,os,rfl⟩;have hsz:zs.toArray.size=l.toArray.size:=by simp;exact hlen
  have C7:Holds (Value.int .i64) (grow (putRow (Value.int .i64) (Sort.ahead w q) g 0 zs.toArray) os) g 0 zs.toArray:=fun j hj=>by
   obtain⟨h1,h2⟩:=holds_putRow (Value.int .i64) (Sort.ahead w q) g 0 _ zs.toArray hh hsz j hj;(have gj:g<(putRow (Value.int .i64) (Sort.ahead w q) g 0 zs.toArray).heap.size:=by rw[size_putRow];exact hg);refine⟨(cell?_grow _ _ _ gj).trans h1,?_⟩;rw[frozen?_grow _ _ _ gj];exact h2
  have Kr:g<(grow (putRow (Value.int .i64) (Sort.ahead w q) g 0 zs.toArray) os).heap.size:=aR hg (MF (w:=w) (g:=g) (n:=q) (os:=os) zs.toArray).size;exact⟨rfl,rfl,EP C7 Kr (fun j hj=>⟨by simpa using hj,by simp⟩),Vi zs.toArray (au _ _) hB hg0⟩
theorem aeZ (hl:∀x∈l,0<=x/\x<n) (iZ:l.Nodup):Up (l.mergeSort fun x y=>decide (x<=y)) n:=by
 have hs:(l.mergeSort fun x y=>decide (x<=y)).Pairwise (fun x y=>decide (x<=y)=true):=List.pairwise_mergeSort (fun a b c=>by simp;omega) (fun a b=>by simp;omega) _;have hp:=QL l fun x y=>decide (x<=y);have hn:(l.mergeSort fun x y=>decide (x<=y)).Nodup:=hp.nodup_iff.2 iZ;refine pV.2 ⟨fun x hx=>hl x (hp.mem_iff.1 hx),(hs.and hn).imp fun {a b} h=>?_⟩;have h3:=rS h.1;have h4:=h.2;omega
abbrev PV:Type:=ByteArray×Value×List ByteArray
structure am5 (bk:Bool) (n j:Nat) (l:List Int):Prop where
 up:Up l n
 few:l.length<=3
 anU:∀x∈l,if bk=true then(j:Int)<x else x<(j:Int)
structure PP (bk:Bool) (n v u:Nat) (l:List Int):Prop where
 ok:am5 bk n v l
 lt:∀x∈l,x<(u:Int)
structure SK (n:Nat) (S:List Nat):Prop where
 len:S.length=n
 each:∀x∈S,1<=x/\x<=3
theorem ad2 (h2:Up l n):dD l n=true:=by
 rw[dD,eJ];intro i hi;have hi':=bG.1 hi;rw[lu,ei,getD_eq hi'];refine⟨(h2.each i hi').1,(h2.each i hi').2,fun h0=>?_⟩;rw[getD_eq (show i - 1<l.length by omega)];exact h2.lt (i - 1) i hi' (by omega)
def pK (V:List Vr) (L:List (List Int)) (R:List (List Fr)) (k:Nat):Rat:=ji V L R (aO (ah V) (List.range V.length) k) V.length
def Vl (V:List Vr) (k:Nat):List Int:=iL (bM (ah V) (List.range V.length) k)
theorem XJ (n:Nat):Up (iL (List.range n)) n:=pV.2 ⟨fun x hx=>by
  obtain⟨i,hi,rfl⟩:=bs.1 hx;have:=bG.1 hi;omega,by rw[iL,Gp];exact(afI n).imp fun h=>by omega⟩
theorem amE (k:Nat):(fun u=>(ag (Vl V k)).getD u 0)=aO (ah V) (List.range V.length) k:=by
 funext u
 rw[Vl,ew,List.getD_eq_getElem?_getD];by_cases hu:u<V.length
 ·rw[Ic pO (by rw[lY];exact hu),qH];rfl
 ·rw[iF (by rw[ue,lY];omega),Bg (fun h=>hu (bG.1 h))];rfl
variable {us vs:List Nat} {k:Nat}
theorem JW (hn:us.Nodup) (hlt:∀v∈us,v<n):us.Perm ((List.range n).filter fun v=>us.contains v):=
 (Jd hn (pO.sublist Gt)).2 fun v=>by
  rw[c4,bG,lh];exact⟨fun h=>⟨hlt v h,h⟩,fun h=>h.2⟩
theorem alf {a b:List Nat} (h:a.Perm b):eW R a=eW R b:=by
 induction h with
 |nil=>rfl
 |cons x _ ih=>rw[eW,eW,ih]
 |swap x y l=>simp only[eW];rw[<- il, <- il,dp (vG _) (vG _)]
 |trans _ _ h1 h2=>rw[h1,h2]
theorem ale {a b:List Nat} (h:a.Sublist b):eW R a<=eW R b:=by
 induction h with
 |slnil=>exact ar _
 |cons x _ ih=>rw[eW];exact aS ih (zX _ (lX (Ld _)))
 |cons_cons x _ ih=>rw[eW,eW];exact kZ _ ih
theorem alg (hn:us.Nodup) (hlt:∀v∈us,v<n):eW R us<=eW R (List.range n):=by
 rw[alf (JW hn hlt)];exact ale Gt
theorem Nd (S:List Nat):∀l,jg S l=cnt S l
 |[]=>rfl
 |v::l=>by rw[jg,cnt,Nd S l]
theorem acC (h:∀v,sz S v<=4):∀l:List Nat,cnt S l<=4^l.length
 |[]=>ar _
 |v::l=>by
  rw[cnt,eU,jc,dp];exact iW (acC h l) (h v)
theorem Jy (hf:eH (iL S)) (v:Nat):sz S v<=4:=by
 by_cases hv:v<S.length
 ·have h1:=(hf.each v (by rw[ba];exact hv)).2;have h2:(iL S)[v]'(by rw[ba];exact hv)=(S[v]:Int):=by simp[iL]
  rw[h2] at h1;rw[sz,List.getElem?_eq_getElem hv];show S[v]<=4;omega
 ·rw[sz,iF (by omega)];decide
theorem U6 (hf:eH (iL S)) (hn:us.Nodup) (hlt:∀v∈us,v<S.length):cnt S us<=65536:=by
 have h1:=(JW hn hlt).length_eq;have h2:((List.range S.length).filter fun v=>us.contains v).length<=S.length:=aS (pR ..) (by simp);have h3:=hf.eight;rw[ba] at h3;have h4:=acC (Jy hf) us;have h5:4^us.length<=4^8:=lW (by decide) (by omega);exact aS h4 h5
theorem Qy (h:n<=65536):(B n).size<=3:=by
 have h1:=kj h;have h2:(B 65536).size<=3:=by rw[mK];exact qT 3 65536 (by decide)
 omega
def mJ (V:List Vr) (R:List (List Fr)):Prop:=(B (eW R (List.range V.length))).size<=4000
theorem mJ.at (h:mJ V R) (hn:us.Nodup) (hlt:∀v∈us,v<V.length):(B (eW R us)).size<=4000:=aS (kj (alg hn hlt)) h
theorem mJ.pool (h:mJ V R) (h0:aW V L R=0) (hn:us.Nodup) (hlt:∀v∈us,v<V.length) (hv:vs.Nodup) (ly:∀v∈vs,v<V.length):2*(B (eW R us)).size+(B (jg (ah V) vs*1)).size+2<=8192:=by
 have h1:=h.at hn hlt
 have h2:jg (ah V) vs*1<=65536:=by
  rw[mN,Nd];exact U6 (gD h0).fine hv (by rw[gR];exact ly)
 have h3:=Qy h2;omega
theorem NU (h0:aW V L R=0):bE L=0:=by
 rw[aW] at h0;by_cases h1:L.length=V.length/\R.length=V.length
 ·rw[ay h1] at h0;by_cases h2:bE L=0
  ·exact h2
  ·rw[az h2] at h0;exact absurd h0 h2
 ·rw[az h1] at h0;exact absurd h0 (by decide)
theorem RD (h0:aW V L R=0):lT L (·∈List.range V.length):=fun v _ u hu=>by
 have aM:=gD h0;rw[<- ZA] at hu;have:=(SE (ud (NU h0)) v u hu).1;rw[aM.len] at this;exact bG.2 this
theorem Zu (h0:aW V L R=0) (hp:Pos (ah V)) (hk:k<cnt (ah V) (List.range V.length)):eP (eW R (List.range V.length)) (pK V L R k)/\kX 1 (pK V L R k):=by
 have hf:Fit (ah V) (aO (ah V) (List.range V.length) k):=fun u=>nN hp _ _ u hk;have h1:=(PD.net (R:=R) (L:=L) (ws:=List.range V.length) h0 (fun v hv=>bG.1 hv)).prod hf;have h2:=(PI.net h0 (fun v hv=>bG.1 hv) (RD h0)).val _ hf;rw[h2, <- JN] at h1;exact h1
def aK (V:List Vr) (L:List (List Int)) (R:List (List Fr)) (l:List (Nat×Nat)) (k:Nat):Rat:=jX l (aO (ah V) (List.range V.length) k)*pK V L R k
theorem N4 (V:List Vr) (L:List (List Int)) (R:List (List Fr)) (l:List (Nat×Nat)):AD V L R l=a8 (aK V L R l) (cnt (ah V) (List.range V.length)):=rfl
theorem Vx (h0:aW V L R=0) (hp:Pos (ah V)) (l:List (Nat×Nat)) (hk:k<cnt (ah V) (List.range V.length)):eP (eW R (List.range V.length)) (aK V L R l k)/\kX 1 (aK V L R l k):=by
 obtain⟨h1,h2⟩:=Zu h0 hp hk;rw[aK,KG];by_cases h:rI l (aO (ah V) (List.range V.length) k)=true
 ·rw[ay h,vZ];exact⟨h1,h2⟩
 ·rw[az h,Gm];exact⟨eP.zero _,by constructor<;>decide⟩
theorem aeH (h0:aW V L R=0) (hD:mJ V R) {g:Nat ->Rat} (hn:n<=65536) (hg:∀k,k< n ->eP (eW R (List.range V.length)) (g k)/\kX 1 (g k)):qw (a8 g n)<=8003:=by
 have hz:eW R (List.range V.length)≠0:=(PD.net (V:=V) (L:=L) h0 (fun v hv=>bG.1 hv)).nz.1;have h1:=eP.sum (k:=n) fun x hx=>(hg x hx).1;have h2:=kX.sum (k:=n) fun x hx=>(hg x hx).2;have h3:=h1.size hz h2;have h4:=Qy (n:=n*1) (by omega);have h5:(B (eW R (List.range V.length))).size<=4000:=hD;omega
theorem Pz (h0:aW V L R=0):cnt (ah V) (List.range V.length)<=65536:=U6 (gD h0).fine pO fun v hv=>by rw[gR];exact bG.1 hv
theorem SQ (h0:aW V L R=0) (hp:Pos (ah V)) (hD:mJ V R) (l:List (Nat×Nat)) (hn:n<=cnt (ah V) (List.range V.length)):qw (a8 (aK V L R l) n)<=8003:=
 aeH h0 hD (aS hn (Pz h0)) fun k hk=>Vx h0 hp l (by omega)
theorem Nx (h0:aW V L R=0) (hp:Pos (ah V)) (hD:mJ V R) (hk:k<cnt (ah V) (List.range V.length)):qw (pK V L R k)<=8003:=by
 obtain⟨h1,h2⟩:=Zu h0 hp hk;have hz:eW R (List.range V.length)≠0:=(PD.net (V:=V) (L:=L) h0 (fun v hv=>bG.1 hv)).nz.1;have h3:=h1.size hz h2;have h4:=Qy (n:=1) (by omega);have h5:(B (eW R (List.range V.length))).size<=4000:=hD;omega
theorem mi (h0:aW V L R=0):Pos (ah V):=by have:=(gD h0).fine.pos;rwa [ew] at this
def uf (q:List Int) (l:List (Nat×Nat)):List Int:=q++(zF l).map (·.1)
def xG (q:List Int) (l:List (Nat×Nat)):List Int:=(uf q l).mergeSort fun x y=>decide (x<=y)
theorem acU {q:List Int} {l:List (Nat×Nat)} (v:Nat):v∈ag (xG q l)↔v∈ag q∨v∈l.map (·.1):=by
 have hp:=QL (uf q l) fun x y=>decide (x<=y)
 have hm:v∈ag (xG q l)↔∃x∈uf q l,x.toNat=v:=by
  rw[xG,ag,bs];exact⟨fun ⟨x,h,e⟩=>⟨x,hp.mem_iff.1 h,e⟩,fun ⟨x,h,e⟩=>⟨x,hp.mem_iff.2 h,e⟩⟩
 rw[hm];constructor
 ·rintro⟨x,hx,rfl⟩;rcases dz.1 hx with hx |hx
  ·exact .inl (bs.2 ⟨x,hx,rfl⟩)
  ·obtain⟨p,hp',rfl⟩:=bs.1 hx;obtain⟨r,hr,rfl⟩:=bs.1 hp';exact .inr (bs.2 ⟨r,hr,by simp⟩)
 ·rintro(h |h)
  ·obtain⟨x,hx,e⟩:=bs.1 h;exact⟨x,dz.2 (.inl hx),e⟩
  ·obtain⟨r,hr,rfl⟩:=bs.1 h;exact⟨(r.1:Int),dz.2 (.inr (bs.2 ⟨_,bs.2 ⟨r,hr,rfl⟩,rfl⟩)),by simp⟩
theorem amI {q:List Int} {l:List (Nat×Nat)} (hq:Up q n) (hl:kW S n l) (hd:∀v∈ag q,¬v∈l.map (·.1)):Up (xG q l) n:=by
 refine aeZ (fun x hx=>?_) ?_
 ·rcases dz.1 hx with hx |hx
  ·exact Ej hq x hx
  ·obtain⟨p,hp',rfl⟩:=bs.1 hx;obtain⟨r,hr,rfl⟩:=bs.1 hp';have:=hl.lt r hr;show 0<=(r.1:Int)/\(r.1:Int)<n;omega
 ·refine Gq.2 ⟨?_,?_,fun x hx y hy e=>?_⟩
  ·exact(pV.1 hq).2.imp fun h=>by omega
  ·rw[zF,wj];refine(Gp.2 ?_);exact(Gp.1 hl.nd).imp fun {a b} h e=>h (by have e':(a.1:Int)=(b.1:Int):=e;omega)
  ·subst e;obtain⟨p,hp',rfl⟩:=bs.1 hy;obtain⟨r,hr,rfl⟩:=bs.1 hp';exact hd r.1 (bs.2 ⟨_,hx,by simp⟩) (bs.2 ⟨r,hr,rfl⟩)
theorem kW.len {l:List (Nat×Nat)} (h:kW S n l):l.length<=n:=by
 have h1:=(JW h.nd (n:=n) fun v hv=>by
  obtain⟨p,hp,rfl⟩:=bs.1 hv;exact h.lt p hp).length_eq
 have h2:((List.range n).filter fun v=>(l.map (·.1)).contains v).length<=n:=aS (pR ..) (by simp);rw[c5] at h1;omega
theorem amT (b d:Option Addr) (cb cd:Nat) (L:List (List Int)) (A:List Int) (w:World) (h:fh w b L) (hl:∀l∈L,l.length<=140737488355328) (hA:ax w d A) (hg:bE L=0) (hu:Up A L.length) (y7:A.length<=1000):
  Calls Tryz.prog 78 #[.slice b L.length cb,.slice d A.length cd] w fun e w'=>∃d cd,e=.returned (.tuple #[.slice d (gN (gV (aI L) (ag A) L.length)).length cd,.int .i64 0])/\ax w' d (gN (gV (aI L) (ag A) L.length))/\Below w.heap.size w w':=
 (akp b d cb cd L A w h hl hA (by omega)).af fun e w' hh=>by
  rcases hh with ⟨⟨h1,_⟩ |⟨_,h2,_⟩ |⟨_,_,d,cd,h3,h4⟩,hb⟩
  ·exact absurd hg h1
  ·rw[ad2 hu] at h2;cases h2
  ·exact⟨d,cd,h3,h4,hb⟩
theorem UO (S:List Nat) (p:Nat×Nat):∀(l:List (Nat×Nat)) (P:List Tb),ko S (l++[p]) P=(ko S l P).map (gK S p.1 p.2)
 |[],_=>rfl
 |x::l,P=>by rw[fg,ko,ko,UO S p l]
theorem SV (p:Nat×Nat):∀(l:List (Nat×Nat)) (fr:List Nat),fC fr (l++[p])=(fC fr l).filter fun u=>!(u==p.1)
 |[],_=>rfl
 |x::l,fr=>by rw[fg,fC,fC,SV p l]
theorem aaH (fr:List Nat) (v:Nat):bw (iL fr) (v:Int)=iL (fr.filter fun u=>!(u==v)):=by
 rw[bw,iL,MS];congr 1
 refine List.filter_congr fun x _=>?_;show (!((x:Int)==(v:Int)))=!(x==v);congr 1
 rw[ry,rp,rp];omega
def oN (ws:List Nat) (l:List (Nat×Nat)) (i:Nat):List Int:=iL (fC ws (l.take i))
def nJ (V:List Vr) (L:List (List Int)) (R:List (List Fr)) (ws:List Nat) (l:List (Nat×Nat)) (i:Nat):List Tb:=ko (ah V) (l.take i) (gT V L R ws)
theorem aks {l:List (Nat×Nat)} (h:i<l.length):oN ws l (i+1)=bw (oN ws l i) (l[i].1:Int):=by
 rw[oN,oN,fR h,SV,aaH]
theorem akq {l:List (Nat×Nat)} (h:i<l.length):nJ V L R ws l (i+1)=(nJ V L R ws l i).map (gK (ah V) l[i].1 l[i].2):=by
 rw[nJ,nJ,fR h,UO]
theorem abV (h0:aW V L R=0) (hlt:∀v∈ws,v<V.length) (hc:lT L (·∈ws)) {l:List (Nat×Nat)} (hl:kW (ah V) V.length l) (i:Nat):eX (ah V) V.length (nJ V L R ws l i) (eW R ws) 1:=
 eX.fixes (mi h0) (abT h0 hlt hc) fun p hp=>hl.val p (MM hp)
theorem akr (V:List Vr) (L:List (List Int)) (R:List (List Fr)) (ws:List Nat) (l:List (Nat×Nat)) (i:Nat):(nJ V L R ws l i).length=ws.length:=by rw[nJ,K5,gT,c5]
theorem akt (ws:List Nat) (l:List (Nat×Nat)) (i:Nat):(oN ws l i).length<=ws.length:=by rw[oN,ba];exact(N8 _ _).length_le
theorem Et (hn:ws.Nodup) (hlt:∀v∈ws,v<n):ws.length<=n:=by
 have h1:=(JW hn hlt).length_eq;have h2:((List.range n).filter fun v=>ws.contains v).length<=n:=aS (pR ..) (by simp);omega
theorem akQ (h0:aW V L R=0) (hD:mJ V R) (hn:ws.Nodup) (hlt:∀v∈ws,v<V.length) (hc:lT L (·∈ws)) {l:List (Nat×Nat)} (hl:kW (ah V) V.length l) (hi:i<l.length) (s b t:Option Addr) (cs cb ct:Nat) (w:World) (hs:ax w s (iL (ah V))) (hb:ax w b (oN ws l i)) (hP:dQ w t (nJ V L R ws l i)):
  Calls Tryz.prog 48 #[.agg #[.slice s V.length cs,.slice b (oN ws l i).length cb,.slice t (nJ V L R ws l i).length ct],.agg #[.int .i64 (l[i].1:Nat),.int .i64 (l[i].2:Nat)]] w fun e w'=>∃d cd t' b9,e=.returned (.agg #[.slice s V.length cs,.slice d (oN ws l (i+1)).length cd,.slice t' (nJ V L R ws l (i+1)).length b9])/\ax w' d (oN ws l (i+1))/\dQ w' t' (nJ V L R ws l (i+1))/\eC w.heap.size t' b9/\Below w.heap.size w w':=by
 have aM:=gD h0;have bJ:(ah V).length=V.length:=gR V;have hwl:=Et hn hlt;have h8:=aM.n8;have h1:=akt ws l i;have h2:=akr V L R ws l i;have qN:=abV h0 hlt hc hl i;have hm:=hD.pool h0 hn hlt (vs:=[]) List.nodup_nil (fun v hv=>by cases hv);have:=agM s b t cs cb ct (ah V) (oN ws l i) (nJ V L R ws l i) (eW R ws) 1 l[i].1 l[i].2 w aM.fine hs hb hP (by rw[bJ];exact qN) (by omega) (by omega) hm (by rw[bJ];exact hl.lt _ (bH hi)) (hl.val _ (bH hi));rw[bJ] at this;rw[aks hi,akq hi,c5];exact this
theorem ahr (h0:aW V L R=0) (hD:mJ V R) (hn:ws.Nodup) (hlt:∀v∈ws,v<V.length) (hc:lT L (·∈ws)) {l:List (Nat×Nat)} (hl:kW (ah V) V.length l) (Kj:∀p∈l,p.1∈ws) {Q:List Int} (hq:Up Q V.length) (AW:∀v∈ag Q,v∈ws/\¬v∈l.map (·.1)) (s b t q:Option Addr) (cs cb ct cq:Nat) (w:World) (hs:ax w s (iL (ah V))) (hb:ax w b (oN ws l l.length)) (hP:dQ w t (nJ V L R ws l l.length)) (hQ:ax w q Q):
  Calls Tryz.prog 51 #[.agg #[.slice s V.length cs,.slice b (oN ws l l.length).length cb,.slice t (nJ V L R ws l l.length).length ct],.slice q Q.length cq,.bool false] w fun e w'=>∃x y,e=.returned (.agg #[x,y])/\cR w' x y (dr V L R Q l)/\Below w.heap.size w w':=by
 have aM:=gD h0;have hp:=mi h0;have bJ:(ah V).length=V.length:=gR V;have hwl:=Et hn hlt;have h8:=aM.n8;have wQ:=J4 (l:=l) hn;have tS:∀v∈fC ws l,v<V.length:=fun v hv=>hlt v (yK.1 hv).1;have fN:oN ws l l.length=iL (fC ws l):=by rw[oN,fJ]
 have hpe:nJ V L R ws l l.length=ko (ah V) l (gT V L R ws):=by rw[nJ,fJ]
 have qN:=abV h0 hlt hc hl l.length;rw[hpe] at qN hP⊢;rw[fN] at hb⊢;have dh:=Et wQ tS;have hpl:(ko (ah V) l (gT V L R ws)).length=ws.length:=by rw[K5,gT,c5]
 have:=Zt s b t q cs cb ct cq (ah V) (fC ws l) Q (ko (ah V) l (gT V L R ws)) _ (eW R ws) 1 false w aM.fine hs hb hP hQ (by have:=hq.length;omega) wQ (by rw[bJ];exact tS) (by rw[bJ];exact(PI.net h0 hlt hc).fixes hp hl.nd hl.val) (NN.fixes hp hl.val (PI.net h0 hlt hc).ok (NN.net h0 hlt)) (by rw[bJ];exact qN) (by omega) (hD.pool h0 hn hlt wQ tS);rw[bJ,ad8 h0 hp hn hlt hc hl Kj hq AW] at this;rw[ba];exact this
theorem aaR (a b c q f:Option Addr) (ca cb cc cq cf:Nat) (V:List Vr) (L:List (List Int)) (R:List (List Fr)) (Q:List Int) (l:List (Nat×Nat)) (w:World) (h:gP w a b c V L R) (hN:vK w b L) (hs:sQ V L R) (hw:∀l∈R,fw l<=4200) (h0:aW V L R=0) (hD:mJ V R) (hq:ax w q Q) (wO:Up Q V.length) (hF:jI w f (zF l)) (hl:kW (ah V) V.length l) (hd:∀v∈ag Q,¬v∈l.map (·.1)) (vC:∀U:World,gP U a b c V L R ->Calls Tryz.prog 75 #[.agg #[.slice a V.length ca,.slice b L.length cb,.slice c R.length cc]] U fun e w'=>e=.returned (.int .i64 (aW V L R))/\Below U.heap.size U w'):
  Calls Tryz.prog 33 #[.agg #[.slice a V.length ca,.slice b L.length cb,.slice c R.length cc],.slice q Q.length cq,.slice f l.length cf] w fun e w'=>∃x y,e=.returned (.agg #[x,y])/\cR w' x y (dr V L R Q l)/\Below w.heap.size w w':=by
 have aM:=gD h0;have h8:=aM.n8;have nG:=NU h0;have hgb:=ud nG
 have xo:1<=L.length:=by
  have:=aM.fine.one;rw[ba,gR] at this;rw[aM.len];exact this
 have sJ:L.length<=8:=by rw[aM.len];exact h8
 have dh:∀x∈L,x.length<=140737488355328:=fun x hx=>by
  obtain⟨i,hi,rfl⟩:=iE hx;have:=(aM.up i hi).length;omega
 have dN:=wO.length;have jR:=hl.len;have TX:=amI wO hl hd;have y7:(xG Q l).length=(uf Q l).length:=MP _;have hAn:(uf Q l).length=Q.length+l.length:=by rw[uf,dM,c5,wu]
 have hA:∀v∈ag (xG Q l),v<L.length:=fun v hv=>by rw[aM.len];exact TX.aa v hv
 obtain⟨ws,o8⟩:∃ws,yv L (ag (xG Q l))=ws:=⟨_,rfl⟩;have S7:ws.Nodup:=by rw[<- o8];exact adG hgb xo sJ _
 have hwt:∀v∈ws,v<V.length:=fun v hv=>by rw[<- aM.len];rw[<- o8] at hv;exact adH hgb xo sJ hv
 have hwc:lT L (·∈ws):=by rw[<- o8];exact adI nG xo sJ hA
 have hwl:∀p∈l,p.1∈ws:=fun p hp=>by
  rw[<- o8];exact Xo nG xo sJ hA ((acU _).2 (.inr (bs.2 ⟨p,hp,rfl⟩)))
 have S6:∀v∈ag Q,v∈ws/\¬v∈l.map (·.1):=fun v hv=>⟨by
  rw[<- o8];exact Xo nG xo sJ hA ((acU _).2 (.inl hv)),hd v hv⟩
 have F9:=hid (fun (U:World) (hU:Below w.heap.size w U)=>Nf q cq Q U (hq.aa hU) (by omega));have HST:Hid (∀(d:Option Addr) (n cd B:Nat) (U:World),cX U B (.slice d n cd) (uf Q l) ->B<=U.heap.size ->Calls Tryz.prog 77 #[.slice d n cd] U fun e w'=>e=.returned (.tuple #[])/\n=(uf Q l).length/\ax w' d (xG Q l)/\Below B U w'):=fun d n cd B U h1 h2=>ae0 d n cd (uf Q l) U h1 h2 (by omega);obtain⟨vars,Ob⟩:∃vars,gN (gV (aI L) (ag (xG Q l)) L.length)=vars:=⟨_,rfl⟩;have ly:vars.length<=8:=by rw[<- Ob,gN,ba,fM];exact aS (pR ..) (by simp)
 have BW:Hid (∀(d:Option Addr) (cd:Nat) (U:World),Below w.heap.size w U ->ax U d (xG Q l) ->Calls Tryz.prog 78 #[.slice b L.length cb,.slice d (uf Q l).length cd] U fun e w'=>∃d cd,e=.returned (.tuple #[.slice d vars.length cd,.int .i64 0])/\ax w' d vars/\Below U.heap.size U w'):=fun d cd U hU hi=>by
  have:=amT b d cb cd L (xG Q l) U (h.aa hU).pars dh hi nG (by rw[aM.len];exact TX) (by omega);rwa [Ob,y7] at this
 have q7:Hid (∀(d:Option Addr) (cd:Nat) (U:World),Below w.heap.size w U ->ax U d vars ->Calls Tryz.prog 46 #[.agg #[.slice a V.length ca,.slice b L.length cb,.slice c R.length cc],.slice d vars.length cd] U fun e w'=>∃g d cd t' b9,e=.returned (.agg #[.slice (some ⟨g,0,none⟩) V.length V.length,.slice d (oN ws l 0).length cd,.slice t' (nJ V L R ws l 0).length b9])/\ax w' (some ⟨g,0,none⟩) (iL (ah V))/\ax w' d (oN ws l 0)/\dQ w' t' (nJ V L R ws l 0)/\Below U.heap.size U w'):=fun d cd U hU hi=>by
  have:=agy a b c d ca cb cc cd V L R vars U (h.aa hU) (hN.aa h.pars hU) hs hw h0 nG xo dh hi (by omega) vC;have e:(ir L).filter (fun v:Nat=>vars.contains (v:Int))=ws:=by rw[<- o8,yv,Ob]
  rw[e] at this;have e1:oN ws l 0=iL ws:=rfl;have e2:nJ V L R ws l 0=ws.map fun v=>(gU L v,gL V L R v):=rfl;rw[e1,e2,ba,c5];exact this
 have qA:=hid (fun (i:Nat) (hi:i<l.length) (s b t:Option Addr) (cs cb ct:Nat) (U:World)=>akQ (L:=L) h0 hD S7 hwt hwc hl hi s b t cs cb ct U);have ID:=hid (fun (s b t:Option Addr) (cs cb ct:Nat) (U:World) (hU:Below w.heap.size w U) h1 h2 h3=>ahr h0 hD S7 hwt hwc hl hwl wO S6 s b t q cs cb ct cq U h1 h2 h3 (hq.aa hU))
 have HF:Hid (∀i (hi:i<l.length) (U:World),Below w.heap.size w U ->∃g o,f=some ⟨g,o,none⟩/\g<U.heap.size/\U.cell? ⟨g,o+i*2,none⟩=some (.int .i64 (l[i].1:Nat))/\U.cell? ⟨g,o+i*2+1,none⟩=some (.int .i64 (l[i].2:Nat))):=fun i hi U hU=>by
  have hz:i<(zF l).length:=by rw[wu];exact hi
  obtain⟨g,o,e,hg,h0,h1⟩:=(hF.aa hU) i hz;have e1:(zF l)[i]=((l[i].1:Int),(l[i].2:Int)):=by simp[zF]
  rw[e1] at h0 h1;exact⟨g,o,e,hg,h0,h1⟩
 obtain⟨AK,Hz⟩:∃AK:Nat ->List Int,∀k,Q++(l.take k).map (fun p=>(p.1:Int))=AK k:=⟨fun k=>Q++(l.take k).map (fun p=>(p.1:Int)),fun _=>rfl⟩;have tq:Hid (AK 0=Q):=by show _=_;rw[<- Hz];simp
 have HAS:Hid (∀k (hk:k<l.length),AK (k+1)=AK k++[((l[k].1:Nat):Int)]):=fun k hk=>by rw[<- Hz, <- Hz,fR hk,fY,rW];rfl
 have WZ:Hid (AK l.length=uf Q l):=by show _=_;rw[<- Hz,fJ,uf,zF,wj];rfl
 have rO:Hid (∀k,(AK k).length<=16):=fun k=>by
  rw[<- Hz,dM,c5,eZ];omega
 have oX:=hid (gX.at (w:=w) rfl (.slice a V.length ca) (.slice b L.length cb) (.slice c R.length cc));clear Hz h hN hs hw h0 hD hq wO hF hl hd vC aM nG hgb dh TX y7 hAn hA o8 S7 hwt hwc hwl S6 Ob xo;generalize oN ws l=FW at *;generalize nJ V L R ws l=PS at *;generalize dr V L R Q l=TT at *
 have HA:Hid (Below w.heap.size w ((w.alloc (NC (.slice a V.length ca) (.slice b L.length cb) (.slice c R.length cc))).alloc (TC (.slice none 0 0) (.slice none 0 0)))):=by
  have h1:=(au w.heap.size w).alloc (ar _) (NC (.slice a V.length ca) (.slice b L.length cb) (.slice c R.length cc));exact h1.alloc h1.size _
 have mG:Hid (gX ((w.alloc (NC (.slice a V.length ca) (.slice b L.length cb) (.slice c R.length cc))).alloc (TC (.slice none 0 0) (.slice none 0 0))) w.heap.size (.slice a V.length ca) (.slice b L.length cb) (.slice c R.length cc)):=oX.o.aa ((au _ _).alloc (ar _) (TC (.slice none 0 0) (.slice none 0 0))) oX.o.lt;have nU:Hid (bh ((w.alloc (NC (.slice a V.length ca) (.slice b L.length cb) (.slice c R.length cc))).alloc (TC (.slice none 0 0) (.slice none 0 0))) (w.heap.size+1) (.slice none 0 0) (.slice none 0 0)):=bh.at (w:=w.alloc (NC (.slice a V.length ca) (.slice b L.length cb) (.slice c R.length cc))) (by simp) _ _;clear oX;go_enter Tryz.func33,Tryz.ntmps33;go_wp2_with fail
 generalize ((w.alloc (NC (.slice a V.length ca) (.slice b L.length cb) (.slice c R.length cc))).alloc (TC (.slice none 0 0) (.slice none 0 0)))=W0 at *;refine(F9.o W0 HA.o).af ?_;rintro e w1 ⟨av,rfl,hr1,hb1⟩;have hs0:=nU.o.lt;have adm:=hid hr1;have eR:=hid hb1;clear hr1 hb1 F9;go_wp2_with fail
 go_loopw [7,19] (fun av iv wr=>∃i:Nat,i<=l.length/\iv=.int .i64 i/\Hid (cX wr W0.heap.size av (AK i))/\Hid (Below W0.heap.size W0 wr)) (fun _ iv _=>l.length - (intOf iv).toNat)
 case atStart=>exact⟨0,aU _,rfl,by rw[tq.o];exact adm,eR⟩
 case round=>
  obtain⟨i,hi,rfl,fj,Gc⟩:=hrel;clear adm eR;have HB:=hid (HA.o.trans (Gc.o.af HA.o.size));obtain⟨d,cd,rfl⟩:=uO fj.o;by_cases hlt:i<l.length
  ·obtain⟨g,o,rfl,hg,k0,k1⟩:=HF.o i hlt wr HB.o;have anK:=hid (HAS.o i hlt);generalize l[i].1=v at *;generalize l[i].2=z at *;have sF:=(au wr.heap.size wr).alloc (ar _) (.cells #[.int .i64 (v:Nat),.int .i64 (z:Nat)] 90);(have ze:(wr.alloc (.cells #[.int .i64 (v:Nat),.int .i64 (z:Nat)] 90)).cell? ⟨wr.heap.size,0,none⟩=some (.int .i64 (v:Nat)):=by rw[cC _ _ 0 _ _ (0,0) (kd wr _)];rfl);(have hsF:(wr.alloc (.cells #[.int .i64 (v:Nat),.int .i64 (z:Nat)] 90)).heap.size=wr.heap.size+1:=by simp);have hbG:=(au _ (wr.alloc (.cells #[.int .i64 (v:Nat),.int .i64 (z:Nat)] 90))).alloc (ar _) (.cells #[.int .i64 (v:Nat)] 3)
   have HC8:Hid (((wr.alloc (.cells #[.int .i64 (v:Nat),.int .i64 (z:Nat)] 90)).alloc (.cells #[.int .i64 (v:Nat)] 3)).cell? ⟨wr.heap.size+1,0,none⟩=some (.int .i64 (v:Nat))):=by
    have:=(a7 (wr.alloc (.cells #[.int .i64 (v:Nat),.int .i64 (z:Nat)] 90)) 3 (.int .i64 (v:Nat))).cell;rwa [hsF] at this
   have jS:=sF.trans (hbG.af sF.size);have adl:=hid (JR fj.o (Dn.aa jS));have IX:=hid (Gc.o.trans (jS.af Gc.o.size));have hAL:=rO.o i;have iQ:Hid (W0.heap.size<=((wr.alloc (.cells #[.int .i64 (v:Nat),.int .i64 (z:Nat)] 90)).alloc (.cells #[.int .i64 (v:Nat)] 3)).heap.size):=IX.o.size;clear sF hbG jS hsF fj Gc HB;go_wp2_with (at_builtin;refine adN rfl _ _ rfl W0.heap.size (.slice d (AK i).length cd) (AK i) (v:Int) rfl adl.o (wr.heap.size+1) rfl HC8.o (by omega) iQ.o ?_;intro av' w9 rH jo nC;have ans:=hid rH;have kV:=hid (IX.o.grown jo iQ.o (fun k e=>(p4 adl.o k e).1));obtain⟨n9,d9,c9,rfl⟩:∃n d c,av'=Value.slice d n c:=(uO rH).elim fun d h=>h.elim fun c e=>⟨_,d,c,e⟩;clear rH jo nC)
   go_roundw
   case rel=>exact⟨i+1,by omega,by go_num,by rw[anK.o];exact ans,kV⟩
   case measure=>simp[intOf];omega
  ·obtain rfl:i=l.length:=by omega
   rw[WZ.o] at fj;(have e1:(AK l.length).length=(uf Q l).length:=by rw[WZ.o]);rw[e1];clear e1 WZ HAS rO tq;have j5:=hid (HST.o d _ cd W0.heap.size wr fj.o Gc.o.size);clear fj HB HST;go_wp2_with fail
   refine j5.o.af ?_;rintro e w2 ⟨rfl, -,jP,hb2⟩;have OV:=Gc.o.trans hb2;have bc:=hid (HA.o.trans (OV.af HA.o.size));have fA:=hid (mG.o.aa OV mG.o.lt);have iT:=hid (nU.o.aa OV nU.o.lt);have sR:=hid (BW.o d cd w2 bc.o jP);have n1:=fA.o.cells.2.1;clear jP hb2 OV Gc j5 BW mG nU HA;go_wp2_with fail
   refine sR.o.af ?_;rintro e w3 ⟨d3,Fq,rfl,sj,hb3⟩;have dU:=hid (bc.o.trans (hb3.af bc.o.size));have BD:=hid (fA.o.aa hb3 fA.o.lt);have jH:=hid (iT.o.aa hb3 iT.o.lt);have lO:=hid (q7.o d3 Fq w3 dU.o sj);clear n1;obtain⟨n0,n1,n2⟩:=BD.o.cells;clear sj hb3 sR q7 fA iT bc;go_wp2_with fail
   refine lO.o.af ?_;rintro e w4 ⟨G,d4,xE,t4,Lf,rfl,hG4,Oy,wJ,hb4⟩;have jT:=hb4.alloc hb4.size (.cells #[.slice (some ⟨G,0,none⟩) V.length V.length,.slice d4 (FW 0).length xE,.slice t4 (PS 0).length Lf] 87);have Db:=(au w4.heap.size w4).alloc (ar _) (.cells #[.slice (some ⟨G,0,none⟩) V.length V.length,.slice d4 (FW 0).length xE,.slice t4 (PS 0).length Lf] 87);have eD:=hid (dU.o.trans (jT.af dU.o.size));have sW:=hid (jH.o.aa jT jH.o.lt);have Qa:Hid (bj (w4.alloc (.cells #[.slice (some ⟨G,0,none⟩) V.length V.length,.slice d4 (FW 0).length xE,.slice t4 (PS 0).length Lf] 87)) w4.heap.size (.slice (some ⟨G,0,none⟩) V.length V.length) (.slice d4 (FW 0).length xE) (.slice t4 (PS 0).length Lf)):=bj.at (w:=w4) rfl _ _ _;have x4:=hid (hG4.aa Db);have F3:=hid (Oy.aa Db);have Iq:=hid (wJ.aa Db);have hlo:w.heap.size+1<w4.heap.size:=(jH.o.aa hb4 jH.o.lt).lt;clear hG4 Oy wJ hb4 jT Db lO dU BD jH n0 n1 n2;go_wp2_with fail
   generalize (w4.alloc (.cells #[.slice (some ⟨G,0,none⟩) V.length V.length,.slice d4 (FW 0).length xE,.slice t4 (PS 0).length Lf] 87))=W5 at *;go_loopw [43] (fun iv wr=>∃(i:Nat) (b' t':Option Addr) (fD b9:Nat),i<=l.length/\iv=.int .i64 i/\Hid (bj wr w4.heap.size (.slice (some ⟨G,0,none⟩) V.length V.length) (.slice b' (FW i).length fD) (.slice t' (PS i).length b9))/\Hid (ax wr (some ⟨G,0,none⟩) (iL (ah V)))/\Hid (ax wr b' (FW i))/\Hid (dQ wr t' (PS i))/\Hid (bh wr (w.heap.size+1) (.slice none 0 0) (.slice none 0 0))/\Hid (Below w.heap.size w wr)) (fun iv _=>l.length - (intOf iv).toNat)
   case atStart=>exact⟨0,_,_,_,_,aU _,rfl,Qa,x4,F3,Iq,sW,eD⟩
   case round=>
    obtain⟨i,b',t',fD,b9,hi,rfl,sX,HG,HI,HT,HR,HB⟩:=hrel;clear Qa x4 F3 Iq sW eD;rename World=>W6
    obtain⟨p0,p1,p2⟩:=sX.o.cells;by_cases hlt2:i<l.length
    ·obtain⟨g,o,rfl,hg,k0,k1⟩:=HF.o i hlt2 W6 HB.o;have HFi:=hid (qA.o i hlt2);generalize l[i].1=v at *;generalize l[i].2=z at *;have sF:=(au W6.heap.size W6).alloc (ar _) (.cells #[.int .i64 (v:Nat),.int .i64 (z:Nat)] 90);(have ze:(W6.alloc (.cells #[.int .i64 (v:Nat),.int .i64 (z:Nat)] 90)).cell? ⟨W6.heap.size,0,none⟩=some (.int .i64 (v:Nat)):=by rw[cC _ _ 0 _ _ (0,0) (kd W6 _)];rfl);(have Be:(W6.alloc (.cells #[.int .i64 (v:Nat),.int .i64 (z:Nat)] 90)).cell? ⟨W6.heap.size,1,none⟩=some (.int .i64 (z:Nat)):=by rw[cC _ _ 1 _ _ (0,0) (kd W6 _)];rfl);have P9:=hid (sX.o.aa sF sX.o.lt);have DK:=hid (HG.o.aa sF);have ur:=hid (HR.o.aa sF HR.o.lt);have eR:=hid (HB.o.trans (sF.af HB.o.size));have HX:=hid (HFi.o (some ⟨G,0,none⟩) b' t' V.length fD b9 _ DK.o (HI.o.aa sF) (HT.o.aa sF));clear p0 p1 p2 sX HG HI HT HR HB HFi sF;obtain⟨p0,p1,p2⟩:=P9.o.cells;go_wp2_with fail
     refine HX.o.af ?_;rintro e w7 ⟨d7,xD,t7,xB,rfl,wT,tL,hn7,bK⟩;have A4:=P9.o.aa bK P9.o.lt;have tV:=ur.o.aa bK ur.o.lt;have mo:=eR.o.trans (bK.af eR.o.size);have hG7:=DK.o.aa bK;have hl7:=P9.o.lt;clear p0 p1 p2 ze Be k0 k1;obtain⟨p0,p1,p2⟩:=A4.cells;have Av:=A4.fz 0;have Au:=A4.fz 1;have Ar:=A4.fz 2;have gY:=hid (A4.put (.slice (some ⟨G,0,none⟩) V.length V.length) (.slice d7 (FW (i+1)).length xD) (.slice t7 (PS (i+1)).length xB));have HG8:=hid (hG7.putP A4 (slv _ _ _) (slv _ _ _) (slv _ _ _) (.slice (some ⟨G,0,none⟩) V.length V.length) (.slice d7 (FW (i+1)).length xD) (.slice t7 (PS (i+1)).length xB));have HI8:=hid (wT.putP A4 (slv _ _ _) (slv _ _ _) (slv _ _ _) (.slice (some ⟨G,0,none⟩) V.length V.length) (.slice d7 (FW (i+1)).length xD) (.slice t7 (PS (i+1)).length xB));have HT8:=hid (tL.putP A4 (slv _ _ _) (slv _ _ _) (slv _ _ _) (fun g' o' e=>by have:=hn7.2 g' o' e;omega) (slv (some ⟨G,0,none⟩) V.length V.length) (slv d7 (FW (i+1)).length xD) (.slice t7 (PS (i+1)).length xB));have LQ:=hid (((tV.off w4.heap.size 0 (.slice (some ⟨G,0,none⟩) V.length V.length) (by omega)).off w4.heap.size 1 (.slice d7 (FW (i+1)).length xD) (by omega)).off w4.heap.size 2 (.slice t7 (PS (i+1)).length xB) (by omega));have IX:=hid (bF mo (show w.heap.size<=w4.heap.size by omega) (.slice (some ⟨G,0,none⟩) V.length V.length) (.slice d7 (FW (i+1)).length xD) (.slice t7 (PS (i+1)).length xB));clear wT tL hn7 bK A4 tV mo hG7 HX;go_wp2;go_roundw
     case rel=>exact⟨i+1,_,_,_,_,by omega,by go_num,gY,HG8,HI8,HT8,LQ,IX⟩
     case measure=>simp[intOf];omega
    ·obtain rfl:i=l.length:=by omega
     have Wb:=hid (ID.o (some ⟨G,0,none⟩) b' t' V.length fD b9 W6 HB.o HG.o HI.o HT.o);go_wp2_with fail
     refine Wb.o.af ?_;rintro e w7 ⟨x,y,rfl,Oc,bK⟩;obtain⟨xs,xn,xc,rfl⟩:=Oc.slices.1;obtain⟨ys,yn,yc,rfl⟩:=Oc.slices.2;have tV:=HR.o.aa bK HR.o.lt;have mo:=HB.o.trans (bK.af HB.o.size);obtain⟨t0,t1,f0,f1⟩:=tV.facts;have lR:=hid (tV.put (.slice xs xn xc) (.slice ys yn yc));have FA:=hid (Oc.putT tV (slv _ _ _) (slv _ _ _) (slv xs xn xc) (.slice ys yn yc));have kV:=hid (mr (g:=w.heap.size+1) mo (by omega) (.slice xs xn xc) (.slice ys yn yc));clear Oc bK tV mo p0 p1 p2;go_wp2;refine bB (lR.o.result1 rfl _ rfl) rfl ?_;exact⟨_,_,rfl,FA.o,kV.o⟩
def kP (A:List Nat) (l:List (Nat×Nat)):Bool:=l.all fun p=>A.getD p.1 0==p.2
theorem agi (d f:Option Addr) (cd cf:Nat) (A:List Nat) (l:List (Nat×Nat)) (w:World) (hA:ax w d (iL A)) (hF:jI w f (zF l)) (hl:∀p∈l,p.1<A.length) (hn:l.length<=1000):
  Calls Tryz.prog 58 #[.slice d A.length cd,.slice f l.length cf] w fun e w'=>e=.returned (.bool (kP A l))/\Below w.heap.size w w':=by
 have HC:Hid (∀i (hi:i<l.length),∃g o,f=some ⟨g,o,none⟩/\w.cell? ⟨g,o+i*2,none⟩=some (.int .i64 (l[i].1:Nat))/\w.cell? ⟨g,o+i*2+1,none⟩=some (.int .i64 (l[i].2:Nat))/\l[i].1<A.length/\∃g' o',d=some ⟨g',o',none⟩/\w.cell? ⟨g',o'+l[i].1,none⟩=some (.int .i64 (A.getD l[i].1 0:Nat))):=fun i hi=>by
  have hz:i<(zF l).length:=by rw[wu];exact hi
  obtain⟨g,o,e,hg,h0,h1⟩:=hF i hz;have e1:(zF l)[i]=((l[i].1:Int),(l[i].2:Int)):=by simp[zF]
  rw[e1] at h0 h1;have hlt:=hl _ (bH hi);obtain⟨g',o',e',iK,h2⟩:=hA l[i].1 (by rw[ba];exact hlt);refine⟨g,o,e,h0,h1,hlt,g',o',e',?_⟩;rw[h2];simp[iL,List.getD_eq_getElem?_getD,hlt]
 obtain⟨ab,hab⟩:∃ab,kP A l=ab:=⟨_,rfl⟩
 have HY:Hid ((∀j (hj:j<l.length),A.getD l[j].1 0=l[j].2) ->ab=true):=fun h=>by
  rw[<- hab,kP,eJ];intro p hp;obtain⟨j,hj,rfl⟩:=iE hp;exact rp.2 (h j hj)
 have HN:Hid (∀j (hj:j<l.length),A.getD l[j].1 0≠l[j].2 ->ab=false):=fun j hj h=>by
  rw[<- hab,kP,Gw];exact⟨l[j],bH hj,by simpa using h⟩
 rw[hab];clear hA hF hl hab;go_enter Tryz.func58,Tryz.ntmps58;go_wp2_with fail
 go_loopw [5] (fun iv wr=>∃i m:Nat,i<=l.length/\iv=.int .i64 i/\Hid (∀j (hj:j<l.length),j< i ->A.getD l[j].1 0=l[j].2)/\wr=w.drewN m) (fun iv _=>l.length - (intOf iv).toNat)
 case atStart=>exact⟨0,0,aU _,rfl,(fun j _ hj=>absurd hj (by omega)),rfl⟩
 case round=>
  obtain⟨i,m,hi,rfl,HZ,rfl⟩:=hrel;by_cases hlt2:i<l.length
  ·obtain⟨g,o,rfl,c0,c1,hv,g',o',rfl,c2⟩:=HC.o i hlt2;have j7:=hid (HN.o i hlt2)
   have rL:Hid (A.getD l[i].1 0=l[i].2 ->∀j (hj:j<l.length),j<i+1 ->A.getD l[j].1 0=l[j].2):=fun e j hj tR=>by
    rcases cD j i with h2 |h2
    ·exact HZ.o j hj h2
    ·obtain rfl:j=i:=by omega
     exact e
   generalize A.getD l[i].1 0=x at *;generalize l[i].1=v at *;generalize l[i].2=y at *;by_cases he:x=y
   ·have HE:=hid (rL.o he);subst he;go_wp2_with (go_quiet (fail))
    go_roundw
    case rel=>exact⟨i+1,_,by omega,by go_num,HE,rfl⟩
    case measure=>simp[intOf];omega
   ·have HR:=hid (j7.o he);(have heb:((x:Int)==(y:Int))=false:=by rw[zQ];omega);go_wp2_with (go_quiet (fail))
    go_ret;exact⟨by rw[HR.o];rfl,by first |exact below_drewN (au _ _) _ |exact below_drewN (below_drewN (au _ _) _) _⟩
  ·obtain rfl:i=l.length:=by omega
   have HR:=hid (HY.o fun j hj=>HZ.o j hj hj);go_wp2;go_ret;exact⟨by rw[HR.o];rfl,below_drewN (au _ _) _⟩
theorem RL (a b c d:Option Addr) (ca cb cc cd:Nat) (V:List Vr) (L:List (List Int)) (R:List (List Fr)) (F:List (Int×Int)) (w:World) (h:gP w a b c V L R) (hs:sQ V L R) (hF:jI w d F) (hn:F.length<=1000):
  Calls Tryz.prog 34 #[.agg #[.slice a V.length ca,.slice b L.length cb,.slice c R.length cc],.slice d F.length cd] w fun e w'=>e=.returned (.int .i64 (bP V L R F))/\Below w.heap.size w w':=by
 have hA:=(au w.heap.size w).alloc (ar _) (NC (.slice a V.length ca) (.slice b L.length cb) (.slice c R.length cc));have oX:=hid (gX.at (w:=w) rfl (.slice a V.length ca) (.slice b L.length cb) (.slice c R.length cc));have ee:=hid (afW a b c ca cb cc V L R _ (h.aa hA) hs);have HA:=hid hA;have uq:=hid h.vars;have HF:=hid hF;have CX:V.length<=5000:=hs.vars.1;have VN:Hid (∀v (hv:v<V.length),V[v].2.length<=5000):=fun v hv=>hs.vars.2 _ (bH hv) |>.2.1;obtain⟨re,wN⟩:∃re,bP V L R F=re:=⟨_,rfl⟩;have fB:Hid (aW V L R≠0 ->aW V L R=re):=fun e=>by rw[<- wN,bP,az e]
 have dZ:Hid (aW V L R=0 ->∀i,i<F.length ->(∀j,j< i ->ik (ah V) V.length F j=0) ->∀k,ik (ah V) V.length F i=k ->k≠0 ->k=re):=fun e i hi hz k hk hk0=>by rw[<- wN,bP,ay e,Bd hz (by rw[hk];exact hk0) hi,hk]
 have fQ:Hid (aW V L R=0 ->(∀j,j<F.length ->ik (ah V) V.length F j=0) ->0=re):=fun e hz=>by rw[<- wN,bP,ay e,zb hz]
 have WY:Hid (∀i (hi:i<F.length),(∀j (hj:j<F.length),j< i ->F[j].1≠F[i].1) ->((F.take i).any fun p=>p.1==F[i].1)=false):=fun i hi hh=>Ji.2 fun p hp=>by
  obtain⟨j,hj,rfl⟩:=iE hp;rw[eZ] at hj;rw[Aa];simpa using hh j (by omega) (by omega)
 have HAY:Hid (∀i j (hi:i<F.length) (hj:j<F.length),j< i ->F[j].1=F[i].1 ->((F.take i).any fun p=>p.1==F[i].1)=true):=fun i j hi hj hlt e=>rX.2 ⟨F[j],by
  have:j<(F.take i).length:=by rw[eZ];omega
  have h2:=bH this;rwa [Aa] at h2,by simpa using e⟩
 rw[wN];clear h hs hF hA wN;go_enter Tryz.func34,Tryz.ntmps34;go_wp2_with fail
 refine ee.o.af ?_;rintro e w1 ⟨rfl,hb1⟩;have eR:=hid (HA.o.trans (hb1.af HA.o.size));have sZ:=hid (oX.o.aa hb1 oX.o.lt);clear hb1 ee oX HA;by_cases hne:aW V L R=0
 ·rw[hne];have mG:=hid hne;clear hne;go_wp2_with fail
  go_loopw [6] (fun iv wr=>∃i:Nat,i<=F.length/\iv=.int .i64 i/\Hid (∀j,j< i ->ik (ah V) V.length F j=0)/\Hid (gX wr w.heap.size (.slice a V.length ca) (.slice b L.length cb) (.slice c R.length cc))/\Hid (Below w.heap.size w wr)) (fun iv _=>F.length - (intOf iv).toNat)
  case atStart=>exact⟨0,aU _,rfl,(fun j hj=>absurd hj (by omega)),sZ,eR⟩
  case round=>
   obtain⟨i,hi,rfl,HZ,HN,HB⟩:=hrel;rename World=>W0
   clear sZ eR;by_cases hlt:i<F.length
   ·obtain⟨g,o,rfl,hg,h0,h1⟩:=HF.o i hlt;have k0:=(HB.o.cell (p:=⟨g,_,none⟩) hg).trans h0;have k1:=(HB.o.cell (p:=⟨g,_,none⟩) hg).trans h1;have HR:=hid (dZ.o mG.o i hlt HZ.o);have x6:Hid (¬(0<=F[i].1/\F[i].1<(V.length:Int)) ->ik (ah V) V.length F i=11):=UW hlt;have DL:Hid (0<=F[i].1/\F[i].1<(V.length:Int) ->¬(0<=F[i].2/\F[i].2<(sz (ah V) F[i].1.toNat:Int)) ->ik (ah V) V.length F i=12):=UX hlt;have Mp:Hid (0<=F[i].1/\F[i].1<(V.length:Int) ->(0<=F[i].2/\F[i].2<(sz (ah V) F[i].1.toNat:Int)) ->((F.take i).any fun p=>p.1==F[i].1)=true ->ik (ah V) V.length F i=7):=UY hlt;have nX:Hid (0<=F[i].1/\F[i].1<(V.length:Int) ->(0<=F[i].2/\F[i].2<(sz (ah V) F[i].1.toNat:Int)) ->((F.take i).any fun p=>p.1==F[i].1)=false ->ik (ah V) V.length F i=0):=aca hlt;have mE:Hid (ik (ah V) V.length F i=0 ->∀j,j<i+1 ->ik (ah V) V.length F j=0):=fun e=>Eh HZ.o e;have anL:=hid (WY.o i hlt);have anJ:=hid (fun j=>HAY.o i j hlt);generalize ik (ah V) V.length F i=fe at *;generalize ((F.take i).any fun p=>p.1==F[i].1)=fq at *;generalize F[i].1=f1 at *;generalize F[i].2=f2 at *;have nc:=HN.o.cells.1;clear h0 h1;by_cases hv:0<=f1/\f1<(V.length:Int)
    focus
     obtain⟨v,rfl⟩:∃v:Nat,f1=v:=⟨f1.toNat,by omega⟩;(have uX:v<V.length:=by omega);obtain⟨gv,ov,bv,cv,rfl,yV,hv0,ny,_,_⟩:=uq.o v uX;have r8:sz (ah V) v=V[v].2.length:=Rl uX;have ai9:=VN.o v uX;rw[pT,r8] at DL Mp nX;have kv:=(HB.o.cell (p:=⟨gv,_,none⟩) yV).trans ny;generalize V[v].2.length=sv at *;have Fy:=hid hv;clear hv0 ny hv r8;by_cases hval:0<=f2/\f2<(sv:Int)
     ·obtain⟨z,rfl⟩:∃z:Nat,f2=z:=⟨f2.toNat,by omega⟩;(have hzs:z<sv:=by omega);have Fz:=hid hval;clear hval;go_wp2_with (go_quiet (fail))
      have HKJ:Hid (∀k (hk:k<F.length),W0.cell? ⟨g,o+k*2,none⟩=some (.int .i64 F[k].1)):=fun k hk=>by
       obtain⟨g',o',e,iK,h0,_⟩:=HF.o k hk;cases e;exact(HB.o.cell (p:=⟨g,_,none⟩) iK).trans h0
      have dI:Hid (∀m,Below w.heap.size w (W0.drewN m)):=fun m=>below_drewN HB.o m;have mF:Hid (∀m,gX (W0.drewN m) w.heap.size (.slice (some ⟨gv,ov,none⟩) V.length ca) (.slice b L.length cb) (.slice c R.length cc)):=fun m=>HN.o;go_loopw [7] (fun jv wq=>∃k m:Nat,k<=i/\jv=.int .i64 k/\Hid (∀j (hj:j<F.length),j< k ->F[j].1≠(v:Int))/\wq=W0.drewN m) (fun jv _=>i - (intOf jv).toNat)
      case atStart=>exact⟨0,_,aU _,rfl,(fun j _ hj=>absurd hj (by omega)),World.drewN_drewN _ _ _⟩
      case round=>
       obtain⟨k,m,hk,rfl,Qb,rfl⟩:=hrel;by_cases hki:k<i
       ·have hkF:k<F.length:=by omega
        have kk:=HKJ.o k hkF;have Bq:=hid (anJ.o k hkF hki)
        have ux:Hid (F[k].1≠(v:Int) ->∀j (hj:j<F.length),j<k+1 ->F[j].1≠(v:Int)):=fun e j hj tR=>by
         rcases cD j k with h2 |h2
         ·exact Qb.o j hj h2
         ·obtain rfl:j=k:=by omega
          exact e
        generalize F[k].1=fk at *;by_cases he:fk=(v:Int)
        ·have j6:=hid (HR.o 7 (Mp.o Fy.o Fz.o (Bq.o he)) (by decide));subst he;go_wp2_with (go_quiet (fail))
         go_ret;exact⟨by rw[<- j6.o];rfl,by first |exact dI.o _ |exact below_drewN (dI.o _) _⟩
        ·have HE:=hid (ux.o he);(have heb:(fk==(v:Int))=false:=by simpa using he);go_wp2_with (go_quiet (fail))
         go_roundw
         case rel=>exact⟨k+1,_,by omega,by go_num,HE,rfl⟩
         case measure=>simp[intOf];omega
       ·obtain rfl:k=i:=by omega
        have VD:=hid (mE.o (nX.o Fy.o Fz.o (anL.o fun j hj tR=>Qb.o j hj tR)));have BC:=hid (mF.o m);have eD:=hid (dI.o m);generalize W0.drewN m=W9 at *;go_wp2;go_roundw
        case rel=>exact⟨k+1,by omega,by go_num,VD,BC,eD⟩
        case measure=>simp[intOf];omega
     focus
      have j6:=hid (HR.o 12 (DL.o Fy.o hval) (by decide));rcases Int.lt_or_le f2 0 with h2 |h2
      focus
       have pj:decide (f2<0)=true:=cJ h2;clear hval
      rotate_left
      focus
       have pj:decide (f2<0)=false:=cz (by omega);have i7:decide ((sv:Int)<=f2)=true:=cJ (by omega);clear hval
    rotate_left 2
    focus
     have j6:=hid (HR.o 11 (x6.o hv) (by decide));rcases Int.lt_or_le f1 0 with h2 |h2
     focus
      have pj:decide (f1<0)=true:=cJ h2;clear hv
     rotate_left
     focus
      have pj:decide (f1<0)=false:=cz (by omega);have i7:decide ((V.length:Int)<=f1)=true:=cJ (by omega);clear hv
    all_goals
     go_wp2_with (go_quiet (fail))
     go_ret;exact⟨by rw[<- j6.o];rfl,by first |exact below_drewN HB.o _ |exact below_drewN (below_drewN HB.o _) _⟩
   ·obtain rfl:i=F.length:=by omega
    have j6:=hid (fQ.o mG.o HZ.o);go_wp2;go_ret;exact⟨by rw[<- j6.o];rfl,HB.o⟩
 ·have j6:=hid (fB.o hne);have hgb:(aW V L R==0)=false:=by simpa using hne
  clear hne fB dZ fQ;generalize aW V L R=ne at *;go_wp2;go_ret;exact⟨by rw[<- j6.o];rfl,eR.o⟩
theorem Vs (l:List (Nat×Nat)) (k:Nat):kP (bM (ah V) (List.range V.length) k) l=rI l (aO (ah V) (List.range V.length) k):=by
 rw[kP,rI];refine List.all_congr rfl fun p=>?_;have e:=congrFun (amE (V:=V) k) p.1;simp only[Vl,ew] at e;rw[e]
theorem ac6 {l:List (Nat×Nat)} (h:kP (bM (ah V) (List.range V.length) k) l=true):aK V L R l k=pK V L R k:=by
 rw[Vs] at h;rw[aK,KG,ay h,vZ]
theorem ac8 {l:List (Nat×Nat)} (h:kP (bM (ah V) (List.range V.length) k) l=false):aK V L R l k=0:=by
 rw[Vs] at h;rw[aK,KG,az (by rw[h];decide),Gm]
theorem RP (h0:aW V L R=0) (s d:Option Addr) (cs cd:Nat) (U:World) (i1:ax U s (iL (ah V))) (i2:ax U d (iL (List.range V.length))):
  Calls Tryz.prog 55 #[.slice s V.length cs,.slice d V.length cd] U fun e w'=>e=.returned (.tuple #[.int .i64 (cnt (ah V) (List.range V.length):Nat),.int .i64 0])/\Below U.heap.size U w':=by
 have bJ:(iL (ah V)).length=V.length:=by rw[ba,gR]
 have KH:(iL (List.range V.length)).length=V.length:=by simp[iL]
 have h:=RN s d cs cd (iL (ah V)) (iL (List.range V.length)) U i1 i2 (gD h0).fine (by rw[bJ];exact XJ _);rwa [bJ,KH,ew,ew] at h
theorem RG (h0:aW V L R=0) (s d:Option Addr) (cs cd k:Nat) (U:World) (hk:k<cnt (ah V) (List.range V.length)) (i1:ax U s (iL (ah V))) (i2:ax U d (iL (List.range V.length))):
  Calls Tryz.prog 57 #[.slice s V.length cs,.slice d V.length cd,.int .i64 (k:Nat)] U fun e w'=>∃(c':Option Addr) (kp:Nat),e=.returned (.tuple #[.slice c' V.length kp,.int .i64 0])/\ax w' c' (iL (bM (ah V) (List.range V.length) k))/\Below U.heap.size U w':=by
 have bJ:(iL (ah V)).length=V.length:=by rw[ba,gR]
 have KH:(iL (List.range V.length)).length=V.length:=by simp[iL]
 have h:=afK s d cs cd k (iL (ah V)) (iL (List.range V.length)) U i1 i2 (gD h0).fine (by rw[bJ];exact XJ _) (by rw[ew,ew];exact hk);rwa [bJ,KH,ew,ew] at h
theorem RI (h0:aW V L R=0) (hw:∀l∈R,fw l<=4200) (a b c d:Option Addr) (ca cb cc cd k:Nat) (U:World) (hk:k<cnt (ah V) (List.range V.length)) (i1:gP U a b c V L R) (i2:ax U d (iL (bM (ah V) (List.range V.length) k))):
  Calls Tryz.prog 59 #[.agg #[.slice a V.length ca,.slice b L.length cb,.slice c R.length cc],.slice d V.length cd] U fun e w'=>e=.returned (dP (qF (pK V L R k)))/\Below U.heap.size U w':=by
 have hl:(bM (ah V) (List.range V.length) k).length=V.length:=by rw[ue,lY]
 have h:=af3 a b c d ca cb cc cd V L R (bM (ah V) (List.range V.length) k) U i1 (gD h0) hw i2 hl (aO (ah V) (List.range V.length) k) (fun u=>nN (mi h0) _ _ u hk) fun u hu=>by
  rw[Ic pO (by rw[lY];exact hu),qH]
 rwa [hl] at h
theorem Zd (p q:Rat) (U:World) (hp:qw p<=40000) (hq:qw q<=40000):Calls Tryz.prog 71 #[dP (qF p),dP (qF q)] U fun e w'=>e=.returned (dP (qF (p+q)))/\Below U.heap.size U w':=by
 have h:=Nq (aH p) (aH q) (nu p) (de p) (nu q) (de q) U (by rw[ng];omega) (by rw[ng];omega);rw[gC,gC] at h;exact h
theorem RR (d f:Option Addr) (cd cf k:Nat) (V:List Vr) (l:List (Nat×Nat)) (w:World) (hA:ax w d (iL (bM (ah V) (List.range V.length) k))) (hF:jI w f (zF l)) (hl:∀p∈l,p.1<V.length) (hn:l.length<=1000):
  Calls Tryz.prog 58 #[.slice d V.length cd,.slice f l.length cf] w fun e w'=>e=.returned (.bool (kP (bM (ah V) (List.range V.length) k) l))/\Below w.heap.size w w':=by
 have h:=agi d f cd cf (bM (ah V) (List.range V.length) k) l w hA hF (fun p hp=>by rw[ue,lY];exact hl p hp) hn;rwa [ue,lY] at h
theorem Nn (a b c:Option Addr) (ca cb cc n m:Nat) (V:List Vr) (w:World) (h:sO w a V) (hV:V.length<=5000):
  Calls Tryz.prog 54 #[.agg #[.slice a V.length ca,.slice b n cb,.slice c m cc]] w fun e w'=>∃s cs,e=.returned (.slice s V.length cs)/\ax w' s (iL (ah V))/\Below w.heap.size w w':=
 (Y6 a b c ca cb cc n m V w h hV).af fun e w' ⟨x,h1,h2,h3⟩=>by
  obtain⟨d,cd,rfl,hi⟩:=h2.ints;rw[ba,gR] at h1;exact⟨d,cd,h1,hi,h3⟩
theorem RQ (a:Option Addr) (ca n:Nat) (w:World) (hn:n<=1000):
  Calls Tryz.prog 56 #[.slice a n ca] w fun e w'=>∃s cs,e=.returned (.slice s n cs)/\ax w' s (iL (List.range n))/\Below w.heap.size w w':=
 (agh a ca n w hn).af fun e w' ⟨x,h1,h2,h3⟩=>by
  obtain⟨d,cd,rfl,hi⟩:=h2.ints;rw[ba,lY] at h1;exact⟨d,cd,h1,hi,h3⟩
theorem afT (a b c f:Option Addr) (ca cb cc cf:Nat) (V:List Vr) (L:List (List Int)) (R:List (List Fr)) (l:List (Nat×Nat)) (w:World) (h:gP w a b c V L R) (hw:∀l∈R,fw l<=4200) (h0:aW V L R=0) (hD:mJ V R) (hF:jI w f (zF l)) (hl:kW (ah V) V.length l) (hn:l.length<=1000):
  Calls Tryz.prog 35 #[.agg #[.slice a V.length ca,.slice b L.length cb,.slice c R.length cc],.slice f l.length cf] w fun e w'=>e=.returned (dP (qF (AD V L R l)))/\Below w.heap.size w w':=by
 have E6:=(gD h0).n8;have hp:=mi h0;have fT:=hid (fun (U:World) (hU:Below w.heap.size w U)=>Nn a b c ca cb cc L.length R.length V U (h.aa hU).vars (by omega));have rO:=hid (fun (U:World) (s:Option Addr) (cs:Nat)=>RQ s cs V.length U (by omega));have jt:=hid (fun (s d:Option Addr) (cs cd:Nat) (U:World)=>RP h0 s d cs cd U);have uo:=hid (fun (s d:Option Addr) (cs cd k:Nat) (U:World)=>RG h0 s d cs cd k U);have HJ:=hid (fun (d:Option Addr) (cd k:Nat) (U:World) (hk:k<cnt (ah V) (List.range V.length)) (hU:Below w.heap.size w U)=>RI h0 hw a b c d ca cb cc cd k U hk (h.aa hU));have BV:=hid (fun (d:Option Addr) (cd k:Nat) (U:World) (hA:ax U d (iL (bM (ah V) (List.range V.length) k))) (hU:Below w.heap.size w U)=>RR d f cd cf k V l U hA (hF.aa hU) hl.lt hn)
 have HAD:Hid (∀k,k<cnt (ah V) (List.range V.length) ->∀U:World,Calls Tryz.prog 71 #[dP (qF (a8 (aK V L R l) k)),dP (qF (pK V L R k))] U fun e w'=>e=.returned (dP (qF (a8 (aK V L R l) k+pK V L R k)))/\Below U.heap.size U w'):=fun k hk U=>by
  have h1:=SQ h0 hp hD l (uH hk);have h2:=Nx h0 hp hD hk;exact Zd _ _ U (by omega) (by omega)
 have Dp:Hid (∀k,kP (bM (ah V) (List.range V.length) k) l=true ->a8 (aK V L R l) k+pK V L R k=a8 (aK V L R l) (k+1)):=fun k hk=>by rw[a8,ac6 hk]
 have eQ:Hid (∀k,kP (bM (ah V) (List.range V.length) k) l=false ->a8 (aK V L R l) k=a8 (aK V L R l) (k+1)):=fun k hk=>by rw[a8,ac8 hk,Ea]
 have qZ:Hid (a8 (aK V L R l) 0=0):=rfl;have KY:=Pz h0;rw[N4];generalize a8 (aK V L R l)=SK at *;generalize pK V L R=PK at *;generalize cnt (ah V) (List.range V.length)=C0 at *;have bY:=hid (LK.new w (.slice a V.length ca) (.slice b L.length cb) (.slice c R.length cc));clear h hw h0 hD hF hl hp;go_enter Tryz.func35,Tryz.ntmps35;obtain⟨c0,c1,c2⟩:=bY.o.1.1.cells;go_wp2_with fail
 generalize ((w.alloc (NC (.slice a V.length ca) (.slice b L.length cb) (.slice c R.length cc))).alloc (FC false ⟨#[]⟩ ⟨#[]⟩))=w1 at *;refine(fT.o w1 bY.o.1.2).af ?_;rintro e w2 ⟨s,cs,rfl,hs2,hb2⟩;have oY:=hid (bY.o.step hb2);clear hb2 bY fT c0 c1 c2;go_wp2_with fail
 refine(rO.o w2 s cs).af ?_;rintro e w3 ⟨d3,Fq,rfl,sj,hb3⟩;have hs3:=hs2.aa hb3;have nW:=hid (oY.o.step hb3);clear hb3 oY hs2;go_wp2_with fail
 refine(jt.o s d3 cs Fq w3 hs3 sj).af ?_;rintro e w4 ⟨rfl,hb4⟩;have eM:=hs3.aa hb4;have qy:=hid (nW.o.step hb4);clear hb4 nW hs3 sj jt;go_wp2_with fail
 refine(JG _).af ?_;rintro e w5 ⟨rfl,hb5⟩;have hs5:=eM.aa hb5;have aN:=(au _ w5).alloc (ar _) (FC (aH 0) (nu 0) (de 0));have hB2:w.heap.size+1<w5.heap.size:=(qy.o.step hb5).2.lt;have xZ:=hid ((qy.o.step hb5).step aN);have Dr:=hid (aC.new w5 (aH 0) (nu 0) (de 0));have Ix:=hid hs5;have dC:=hid aN;clear hb5 qy eM hs5 aN;go_wp2_with fail
 generalize (w5.alloc (FC (aH 0) (nu 0) (de 0)))=w6 at *;go_loopw [9] (fun iv wr=>∃k:Nat,k<=C0/\iv=.int .i64 k/\Hid (LK w wr (.slice a V.length ca) (.slice b L.length cb) (.slice c R.length cc))/\Hid (aC wr w5.heap.size (aH (SK k)) (nu (SK k)) (de (SK k)))/\Hid (Below w5.heap.size w5 wr)) (fun iv _=>C0 - (intOf iv).toNat)
 case atStart=>exact⟨0,aU _,rfl,xZ,by rw[qZ.o];exact Dr,dC⟩
 case round=>
  obtain⟨k,hk,rfl,HK,HX,HB⟩:=hrel;clear xZ Dr dC;by_cases hlt:k<C0
  ·go_wp2_with fail
   refine(rO.o wr s cs).af ?_;rintro e z1 ⟨d1,zh,rfl,jQ,hb1⟩;have pL:=hid jQ;clear jQ;go_wp2_with fail
   refine(uo.o s d1 cs zh k z1 hlt ((Ix.o.aa HB.o).aa hb1) pL.o).af ?_;rintro e z2 ⟨d2,sM,rfl,jP,hb2⟩;have kN:=hb1.trans (hb2.af hb1.size);have iU:=hid jP;have oY:=hid (HK.o.step kN);have sR:=hid (HX.o.aa kN HX.o.lt);have bc:=hid (HB.o.trans (kN.af HB.o.size));clear pL jP hb1 hb2 kN HK HX HB;have Bq:=hid (Dp.o k);have ux:=hid (eQ.o k);have DT:=hid (BV.o d2 sM k z2 iU.o oY.o.1.2);have zI:=hid (fun U=>HJ.o d2 sM k U hlt);have IZ:=hid (HAD.o k hlt);generalize bM (ah V) (List.range V.length) k=DG at *;generalize kP DG l=ab at *;go_wp2_with fail
   refine DT.o.af ?_;rintro e z3 ⟨rfl,hb3⟩;have Qk:=hid (iU.o.aa hb3);have nW:=hid (oY.o.step hb3);have lO:=hid (sR.o.aa hb3 sR.o.lt);have dU:=hid (bc.o.trans (hb3.af bc.o.size));clear iU oY sR bc hb3 DT;cases ab with
   |false=>
    replace ux:=hid (ux.o rfl);go_wp2;go_roundw
    case rel=>exact⟨k+1,by omega,by go_num,nW,by rw[<- ux.o];exact lO,dU⟩
    case measure=>simp[intOf];omega
   |true=>
    obtain⟨c0,c1,c2⟩:=nW.o.1.1.cells;have hYk:=Bq.o rfl;rw[hYk] at IZ;clear hYk Bq ux;go_wp2_with fail
    refine(zI.o z3 nW.o.1.2 Qk.o).af ?_;rintro e z4 ⟨rfl,hb4⟩;have aN:=hb4.alloc hb4.size (FC (qF (PK k)).1 (qF (PK k)).2.1 (qF (PK k)).2.2);have Mj:=hid (nW.o.step aN);have qp:=hid (lO.o.aa aN lO.o.lt);have eD:=hid (dU.o.trans (aN.af dU.o.size));have hP5:=aC.new z4 (qF (PK k)).1 (qF (PK k)).2.1 (qF (PK k)).2.2;obtain⟨p0,p1,p2, -⟩:=hP5.facts;obtain⟨x0,x1,x2, -⟩:=qp.o.facts;clear nW lO dU Qk hb4 aN hP5 c0 c1 c2 zI;go_wp2_with fail
    generalize (z4.alloc (FC (qF (PK k)).1 (qF (PK k)).2.1 (qF (PK k)).2.2))=z5 at *;refine(IZ.o z5).af ?_;rintro e z6 ⟨rfl,bD⟩;have y4:=Mj.o.step bD;have T6:=qp.o.aa bD qp.o.lt;have hB6:=eD.o.trans (bD.af eD.o.size);clear p0 p1 p2 x0 x1 x2;obtain⟨x0,x1,x2,f0,f1,f2⟩:=T6.facts;have VJ:=hid (T6.put (aH (SK (k+1))) (nu (SK (k+1))) (de (SK (k+1))));have uD:=hid (y4.put hB2 (aH (SK (k+1))) (nu (SK (k+1))) (de (SK (k+1))));have WX:=hid (bF hB6 (ar _) (.bool (aH (SK (k+1)))) (.string (nu (SK (k+1)))) (.string (de (SK (k+1)))));clear bD y4 T6 hB6 Mj qp eD IZ;go_wp2;go_roundw
    case rel=>exact⟨k+1,by omega,by go_num,uD,VJ,WX⟩
    case measure=>simp[intOf];omega
  ·obtain rfl:k=C0:=by omega
   obtain⟨k0,k1,k2,f0,f1,f2⟩:=HK.o.2.facts;obtain⟨q0,q1,q2, -⟩:=HX.o.facts;have eA:=HK.o.2.put (aH (SK k)) (nu (SK k)) (de (SK k));have qb:=bF HK.o.1.2 (show w.heap.size<=w.heap.size+1 by omega) (.bool (aH (SK k))) (.string (nu (SK k))) (.string (de (SK k)));go_wp2;refine bB (eA.result rfl _ rfl) rfl ?_;exact⟨rfl,qb⟩
variable {a:Option Addr} {w':World}
structure zk (w:World) (a b c:Option Addr) (V:List Vr) (L:List (List Int)) (R:List (List Fr)):Prop where
 net:gP w a b c V L R
 ls:vK w b L
 sm:sQ V L R
 wt:∀l∈R,fw l<=4200
 lt:mJ V R
 few:aW V L R=0 ->cnt (ah V) (List.range V.length)<=800
theorem zk.aa {b c:Option Addr} (h:zk w a b c V L R) (hb:Below w.heap.size w w'):zk w' a b c V L R:=⟨h.net.aa hb,h.ls.aa h.net.pars hb,h.sm,h.wt,h.lt,h.few⟩
def nF (F:List (Int×Int)):List (Nat×Nat):=F.map fun p=>(p.1.toNat,p.2.toNat)
theorem ah2 (l:List (Nat×Nat)):nF (zF l)=l:=by
 rw[nF,zF,wj];refine(rq fun p _=>?_).trans (List.map_id l);show (((p.1:Int).toNat),((p.2:Int).toNat))=p;simp
theorem qh {F:List (Int×Int)} (h:bP V L R F=0):aW V L R=0/\F=zF (nF F)/\kW (ah V) V.length (nF F):=by
 obtain⟨h0,l,rfl,hl⟩:=ak0 h;rw[ah2];exact⟨h0,rfl,hl⟩
def qJ (V:List Vr) (L:List (List Int)) (R:List (List Fr)) (F:List (Int×Int)):Fr:=if bP V L R F=0 then qF (AD V L R (nF F)) else(false,⟨#[]⟩,⟨#[]⟩)
theorem aea (V:List Vr) (L:List (List Int)) (R:List (List Fr)) (l:List (Nat×Nat)):dr V L R [] l=([],[qF (AD V L R l)]):=rfl
theorem afS (a b c f:Option Addr) (ca cb cc cf:Nat) (V:List Vr) (L:List (List Int)) (R:List (List Fr)) (F:List (Int×Int)) (w:World) (h:zk w a b c V L R) (hF:jI w f F) (hn:F.length<=1000):
  Calls Tryz.prog 9 #[.agg #[.slice a V.length ca,.slice b L.length cb,.slice c R.length cc],.slice f F.length cf] w fun e w'=>e=.returned (.tuple #[dP (qJ V L R F),.int .i64 (bP V L R F)])/\Below w.heap.size w w':=by
 have oZ:=hid (fun (U:World) (hU:Below w.heap.size w U)=>RL a b c f ca cb cc cf V L R F U (h.net.aa hU) h.sm (hF.aa hU) hn)
 have rN:Hid (bP V L R F=0 ->∀U:World,Below w.heap.size w U ->Calls Tryz.prog 35 #[.agg #[.slice a V.length ca,.slice b L.length cb,.slice c R.length cc],.slice f F.length cf] U fun e w'=>e=.returned (dP (qJ V L R F))/\Below U.heap.size U w'):=fun e U hU=>by
  obtain⟨h0,hz,hl⟩:=qh e;have h1:=hF.aa hU;rw[hz] at h1;have:=afT a b c f ca cb cc cf V L R (nF F) U (h.net.aa hU) h.wt h0 h.lt h1 hl (by rw[<- wu, <- hz];exact hn);rw[<- wu, <- hz] at this;rw[qJ,ay e];exact this
 have fB:Hid (bP V L R F≠0 ->qJ V L R F=(false,⟨#[]⟩,⟨#[]⟩)):=fun e=>az e;generalize qJ V L R F=pf at *;generalize bP V L R F=fe at *;clear h hF;have bY:=hid (LK.new w (.slice a V.length ca) (.slice b L.length cb) (.slice c R.length cc));obtain⟨c0,c1,c2⟩:=bY.o.1.1.cells;go_enter Tryz.func9,Tryz.ntmps9;go_wp2_with fail
 generalize ((w.alloc (NC (.slice a V.length ca) (.slice b L.length cb) (.slice c R.length cc))).alloc (FC false ⟨#[]⟩ ⟨#[]⟩))=w1 at *;refine(oZ.o _ bY.o.1.2).af ?_;rintro e w2 ⟨rfl,hb⟩;have hK:=bY.o.step hb;clear hb bY c0 c1 c2 oZ;by_cases iy:fe=0
 ·subst iy;have HP:=hid (rN.o rfl);have HK:=hid hK;obtain⟨c0,c1,c2⟩:=hK.1.1.cells;clear fB rN hK;obtain⟨pn,px,py⟩:=pf;go_wp2_with fail
  refine(HP.o _ HK.o.1.2).af ?_;rintro e w6 ⟨rfl,hb⟩;have y4:=HK.o.step hb;obtain⟨k0,k1,k2,f0,f1,f2⟩:=y4.2.facts;have eA:=y4.2.put pn px py;have qb:=bF y4.1.2 (show w.heap.size<=w.heap.size+1 by omega) (.bool pn) (.string px) (.string py);clear hb c0 c1 c2;go_wp2;refine bB (eA.result2 rfl _ rfl) rfl ?_;exact⟨rfl,qb⟩
 ·have HQ:=hid (fB.o iy);have jA:(fe==0)=false:=by simpa using iy
  obtain⟨k0,k1,k2,f0,f1,f2⟩:=hK.2.facts;have eA:=hK.2.put false ⟨#[]⟩ ⟨#[]⟩;have qb:=bF hK.1.2 (show w.heap.size<=w.heap.size+1 by omega) (.bool false) (.string ⟨#[]⟩) (.string ⟨#[]⟩);clear iy rN fB;go_wp2;refine bB (eA.result2 rfl _ rfl) rfl ?_;exact⟨by rw[HQ.o];rfl,qb⟩
theorem aiX (a b c f:Option Addr) (ca cb cc cf:Nat) (V:List Vr) (L:List (List Int)) (R:List (List Fr)) (F:List (Int×Int)) (w:World) (h:zk w a b c V L R) (hF:jI w f F) (hn:F.length<=1000) (vt:F.length<=cf):
  Calls Tryz.prog 8 #[.agg #[.slice a V.length ca,.slice b L.length cb,.slice c R.length cc],.slice f F.length cf] w fun e w'=>e=.returned (.tuple #[dP (qJ V L R F),.int .i64 (bP V L R F)])/\Below w.heap.size w w':=by
 have oZ:=hid (fun (U:World) (hU:Below w.heap.size w U)=>SZ a b c f ca cb cc cf V L R F U (h.net.aa hU) h.sm (hF.aa hU) hn vt)
 have rN:Hid (bP V L R F=0 ->∀U:World,Below w.heap.size w U ->Calls Tryz.prog 33 #[.agg #[.slice a V.length ca,.slice b L.length cb,.slice c R.length cc],.slice none 0 0,.slice f F.length cf] U fun e w'=>∃(x:Value) (g o cg:Nat),e=.returned (.agg #[x,.slice (some ⟨g,o,none⟩) 1 cg])/\w'.cell? ⟨g,o,none⟩=some (.bool (qJ V L R F).1)/\w'.cell? ⟨g,o+1,none⟩=some (.string (qJ V L R F).2.1)/\w'.cell? ⟨g,o+2,none⟩=some (.string (qJ V L R F).2.2)/\cM x/\Below U.heap.size U w'):=fun e U hU=>by
  obtain⟨h0,hz,hl⟩:=qh e;have h1:=hF.aa hU;rw[hz] at h1;have CY:=h.aa hU;have:=aaR a b c none f ca cb cc 0 cf V L R [] (nF F) U CY.net CY.ls h.sm h.wt h0 h.lt (fun k hk=>absurd hk (by simp)) ⟨fun i hi=>absurd hi (by simp),fun i j hj=>absurd hj (by simp)⟩ h1 hl (fun v hv=>by cases hv) (fun U' CZ=>Pn a b c ca cb cc V L R U' CZ h.sm);rw[<- wu, <- hz,aea] at this;refine this.af fun e' w' hh=>?_;obtain⟨x,y,h2,⟨b',c',fD,kp,h3,h4,_,h5,_⟩,h6⟩:=hh;obtain⟨g,o,h7,_,h8,h9,h10⟩:=h5 0 (by simp);rw[qJ,ay e];refine⟨x,g,o,kp,by rw[h2,h4,h7];rfl,?_,?_,?_,⟨_,_,_,h3⟩,h6⟩
  ·rw[jw,fH] at h8;exact h8
  ·rw[jw,fH] at h9;exact h9
  ·rw[jw,fH] at h10;exact h10
 have fB:Hid (bP V L R F≠0 ->qJ V L R F=(false,⟨#[]⟩,⟨#[]⟩)):=fun e=>az e;generalize qJ V L R F=pf at *;generalize bP V L R F=fe at *;clear h hF vt;have bY:=hid (LK.new w (.slice a V.length ca) (.slice b L.length cb) (.slice c R.length cc));obtain⟨c0,c1,c2⟩:=bY.o.1.1.cells;go_enter Tryz.func8,Tryz.ntmps8;go_wp2_with fail
 generalize ((w.alloc (NC (.slice a V.length ca) (.slice b L.length cb) (.slice c R.length cc))).alloc (FC false ⟨#[]⟩ ⟨#[]⟩))=w1 at *;refine(oZ.o _ bY.o.1.2).af ?_;rintro e w2 ⟨rfl,hb⟩;have hK:=bY.o.step hb;clear hb bY c0 c1 c2 oZ;by_cases iy:fe=0
 ·subst iy;have HP:=hid (rN.o rfl);have HK:=hid hK;obtain⟨c0,c1,c2⟩:=hK.1.1.cells;clear fB rN hK;obtain⟨pn,px,py⟩:=pf;go_wp2_with fail
  refine(HP.o _ HK.o.1.2).af ?_;rintro e w6 ⟨x,g,o,cg,rfl,q0,q1,q2,⟨xa,xn,xc,rfl⟩,hb⟩;have y4:=HK.o.step hb;obtain⟨k0,k1,k2,f0,f1,f2⟩:=y4.2.facts;have eA:=y4.2.put pn px py;have qb:=bF y4.1.2 (show w.heap.size<=w.heap.size+1 by omega) (.bool pn) (.string px) (.string py);have hfd:∀U:World,(Instr.field 39 (.agg #[.slice xa xn xc,.slice (some ⟨g,o,none⟩) 1 cg]) 1).run Tryz.prog U=.ok (.slice (some ⟨g,o,none⟩) 1 cg) U:=fun _=>by kernel_rfl
  clear hb c0 c1 c2;go_wp2;refine bB (eA.result2 rfl _ rfl) rfl ?_;exact⟨rfl,qb⟩
 ·have HQ:=hid (fB.o iy);have jA:(fe==0)=false:=by simpa using iy
  obtain⟨k0,k1,k2,f0,f1,f2⟩:=hK.2.facts;have eA:=hK.2.put false ⟨#[]⟩ ⟨#[]⟩;have qb:=bF hK.1.2 (show w.heap.size<=w.heap.size+1 by omega) (.bool false) (.string ⟨#[]⟩) (.string ⟨#[]⟩);clear iy rN fB;go_wp2;refine bB (eA.result2 rfl _ rfl) rfl ?_;exact⟨by rw[HQ.o];rfl,qb⟩
variable {K cap g:Nat}
theorem kq.put {B:Nat} {l:List Fr} (h:kq w B (.slice (some ⟨g,0,none⟩) n cap) l) (k:Nat) (f:Fr):kq (((w.setCell ⟨g,k*3,none⟩ (.bool f.1)).setCell ⟨g,k*3+1,none⟩ (.string f.2.1)).setCell ⟨g,k*3+2,none⟩ (.string f.2.2)) B (.slice (some ⟨g,0,none⟩) n cap) (l.set k f):=by
 obtain⟨h1,h2⟩:=h;rcases h2 with ⟨e,_⟩ |⟨g',cap',cur,e,hB,hg,h4,h5,h6,h7⟩
 ·cases e
 ·injection e with e1 e2 e3;injection e1 with e1;injection e1 with e1;subst e1 e2 e3;refine⟨by rw[UN,rU];omega,.inr ⟨g,cap,((cur.setIfInBounds (k*3) (.bool f.1)).setIfInBounds (k*3+1) (.string f.2.1)).setIfInBounds (k*3+2) (.string f.2.2),by rw[rU],hB,Kv _ _ _ _ _ _ (Kv _ _ _ _ _ _ (Kv _ _ _ _ _ _ hg)),by rw[rU];exact h4,h5,by simp[h6],?_⟩⟩;rw[<- UM, <- h7,rU];simp only[Array.toList_setIfInBounds,List.take_set]
theorem YU {B:Nat} {l:List Fr} (h:kq w B (.slice (some ⟨g,0,none⟩) n cap) l) (hk:k<l.length):w.cell? ⟨g,k*3,none⟩=some (.bool l[k].1)/\w.cell? ⟨g,k*3+1,none⟩=some (.string l[k].2.1)/\w.cell? ⟨g,k*3+2,none⟩=some (.string l[k].2.2)/\w.frozen? ⟨g,k*3,none⟩=false/\w.frozen? ⟨g,k*3+1,none⟩=false/\w.frozen? ⟨g,k*3+2,none⟩=false:=by
 obtain⟨h1,h2⟩:=h;rcases h2 with ⟨e,_⟩ |⟨g',cap',cur,e,hB,hg,h4,h5,h6,h7⟩
 ·cases e
 ·injection e with e1 e2 e3;injection e1 with e1;injection e1 with e1;subst e1 e2 e3;obtain⟨a0,a1,a2⟩:=O4 l k hk;rw[<- h7] at a0 a1 a2;refine⟨?_,?_,?_,pN w g _ _ _ hg,pN w g _ _ _ hg,pN w g _ _ _ hg⟩
  ·rw[cC w g _ _ _ (0,0) hg, <- wm];rw[rV] at a0;split at a0
   ·exact a0
   ·cases a0
  ·rw[cC w g _ _ _ (0,0) hg, <- wm];rw[rV] at a1;split at a1
   ·exact a1
   ·cases a1
  ·rw[cC w g _ _ _ (0,0) hg, <- wm];rw[rV] at a2;split at a2
   ·exact a2
   ·cases a2
theorem amz {B:Nat} {a:World} (h:Below B a w) (hg:B<=g) (j:Nat) (u v x:Value):Below B a (((w.setCell ⟨g,j,none⟩ u).setCell ⟨g,j+1,none⟩ v).setCell ⟨g,j+2,none⟩ x):=((h.setCell hg u).setCell hg v).setCell hg x
def Lr (g i B:Nat) (s p:Fr) (c:Bool) (U:World):Prop:=c=false ->(U.cell? ⟨g,i*3,none⟩=some (.bool s.1)/\U.cell? ⟨g,i*3+1,none⟩=some (.string s.2.1)/\U.cell? ⟨g,i*3+2,none⟩=some (.string s.2.2))/\U.cell? ⟨B,0,none⟩=some (.bool p.1)/\U.cell? ⟨B,1,none⟩=some (.string p.2.1)/\U.cell? ⟨B,2,none⟩=some (.string p.2.2)
theorem Lr.of {B0 B:Nat} {l:List Fr} {s p:Fr} (h:kq U B0 (.slice (some ⟨g,0,none⟩) n cap) l) (hi:i<l.length) (e:l[i]=s) (hb:aC U B p.1 p.2.1 p.2.2) (c:Bool):Lr g i B s p c U:=fun _=>by
 obtain⟨y0,y1,y2,_⟩:=YU h hi;rw[e] at y0 y1 y2;exact⟨⟨y0,y1,y2⟩,hb.c0,hb.c1,hb.c2⟩
def kC (V:List Vr) (L:List (List Int)) (R:List (List Fr)) (q:List Nat) (l:List (Nat×Nat)) (k:Nat):List Fr:=(List.range (cnt (ah V) q)).map fun K=>qF (a8 (aK V L R (qV (ah V) q K++l)) k)
theorem XX (V:List Vr) (L:List (List Int)) (R:List (List Fr)) (q:List Nat) (l:List (Nat×Nat)) (k:Nat):(kC V L R q l k).length=cnt (ah V) q:=by simp[kC]
theorem Na {q:List Nat} {l:List (Nat×Nat)} (h:K<(kC V L R q l k).length):(kC V L R q l k)[K]=qF (a8 (aK V L R (qV (ah V) q K++l)) k):=by simp[kC]
theorem aeh (V:List Vr) (L:List (List Int)) (R:List (List Fr)) (q:List Nat) (l:List (Nat×Nat)):kC V L R q l 0=List.replicate (cnt (ah V) q) (qF 0):=by
 refine pS (by simp[kC]) fun i h1 h2=>?_;rw[Na,List.getElem_replicate];rfl
theorem aek (V:List Vr) (L:List (List Int)) (R:List (List Fr)) (Q:List Int) (l:List (Nat×Nat)):kC V L R (ag Q) l (cnt (ah V) (List.range V.length))=(dr V L R Q l).2:=rfl
theorem ac7 (hp:Pos (ah V)) {q:List Nat} (hq:q.Nodup) (l:List (Nat×Nat)) (hk:k<cnt (ah V) (List.range V.length)) (hK:K<cnt (ah V) q):aK V L R (qV (ah V) q K++l) k=if pos (ah V) (aO (ah V) (List.range V.length) k) q=K then aK V L R l k else 0:=by
 rw[aK,acY,KG (qV (ah V) q K),agm hp hq hK (fun u=>nN hp _ _ u hk),yj];by_cases e:pos (ah V) (aO (ah V) (List.range V.length) k) q=K
 ·rw[cJ e,ay rfl,ay e,vZ];rfl
 ·rw[cz e,az (by decide),az e,Gm]
theorem aej (hp:Pos (ah V)) {q:List Nat} (hq:q.Nodup) {l:List (Nat×Nat)} (hk:k<cnt (ah V) (List.range V.length)) (h:kP (bM (ah V) (List.range V.length) k) l=false):kC V L R q l (k+1)=kC V L R q l k:=by
 refine rq fun K hK=>?_;rw[a8,ac7 hp hq l hk (bG.1 hK),ac8 h];split<;>rw[Ea]
theorem aei (hp:Pos (ah V)) {q:List Nat} (hq:q.Nodup) {l:List (Nat×Nat)} (hk:k<cnt (ah V) (List.range V.length)) (h:kP (bM (ah V) (List.range V.length) k) l=true) {x:Rat} (hx:a8 (aK V L R (qV (ah V) q (pos (ah V) (aO (ah V) (List.range V.length) k) q)++l)) k=x):
  kC V L R q l (k+1)=(kC V L R q l k).set (pos (ah V) (aO (ah V) (List.range V.length) k) q) (qF (x+pK V L R k)):=by
 refine pS (by simp[kC]) fun K h1 h2=>?_;have hK:K<cnt (ah V) q:=by rwa [XX] at h1
 rw[Na,Jf,a8,ac7 hp hq l hk hK,ac6 h];by_cases e:pos (ah V) (aO (ah V) (List.range V.length) k) q=K
 ·rw[ay e,ay e, <- hx,e]
 ·rw[az e,az e,Na,Ea]
theorem acA {q:List Nat} (hp:Pos (ah V)) (hq:q.Nodup) (hlt:∀v∈q,v<V.length):cnt (ah V) q<=cnt (ah V) (List.range V.length):=by
 rw[<- Nd, <- Nd]
 have h1:jg (ah V) q=jg (ah V) ((List.range V.length).filter fun v=>q.contains v):=by
  have hperm:=JW hq hlt;generalize ((List.range V.length).filter fun v=>q.contains v)=b at hperm;clear hq hlt;induction hperm with
  |nil=>rfl
  |cons x _ ih=>rw[jg,jg,ih]
  |swap x y l=>simp only[jg];rw[<- il, <- il,dp (sz _ _) (sz _ _)]
  |trans _ _ h1 h2=>rw[h1,h2]
 rw[h1];exact aeC hp Gt
theorem afM (a b c q f:Option Addr) (ca cb cc cq cf:Nat) (V:List Vr) (L:List (List Int)) (R:List (List Fr)) (Q:List Int) (l:List (Nat×Nat)) (w:World) (h:gP w a b c V L R) (hw:∀l∈R,fw l<=4200) (h0:aW V L R=0) (hD:mJ V R) (hq:ax w q Q) (wO:Up Q V.length) (hF:jI w f (zF l)) (hl:kW (ah V) V.length l) (hn:l.length<=1000) (CR:cnt (ah V) (List.range V.length)<=800):
  Calls Tryz.prog 43 #[.agg #[.slice a V.length ca,.slice b L.length cb,.slice c R.length cc],.slice q Q.length cq,.slice f l.length cf] w fun e w'=>∃d cd,e=.returned (.slice d (dr V L R Q l).2.length cd)/\bZ w' d (dr V L R Q l).2/\Below w.heap.size w w':=by
 have aM:=gD h0;have E6:=aM.n8;have hp:=mi h0;have bJ:(iL (ah V)).length=V.length:=by rw[ba,gR]
 have Ol:=wO.nodup;have hQ8:=wO.length;have hc1:=acA hp Ol wO.aa;have hc0:=zg hp (ag Q);have fT:=hid (fun (U:World) (hU:Below w.heap.size w U)=>Nn a b c ca cb cc L.length R.length V U (h.aa hU).vars (by omega))
 have DM:Hid (∀(s:Option Addr) (cs:Nat) (U:World),Below w.heap.size w U ->ax U s (iL (ah V)) ->Calls Tryz.prog 55 #[.slice s V.length cs,.slice q Q.length cq] U fun e w'=>e=.returned (.tuple #[.int .i64 (cnt (ah V) (ag Q):Nat),.int .i64 0])/\Below U.heap.size U w'):=fun s cs U hU hi=>by
  have:=RN s q cs cq (iL (ah V)) Q U hi (hq.aa hU) aM.fine (by rw[bJ];exact wO);rwa [bJ,ew] at this
 have rO:=hid (fun (U:World) (s:Option Addr) (cs:Nat)=>RQ s cs V.length U (by omega));have jt:=hid (fun (s d:Option Addr) (cs cd:Nat) (U:World)=>RP h0 s d cs cd U);have uo:=hid (fun (s d:Option Addr) (cs cd k:Nat) (U:World)=>RG h0 s d cs cd k U);have HJ:=hid (fun (d:Option Addr) (cd k:Nat) (U:World) (hk:k<cnt (ah V) (List.range V.length)) (hU:Below w.heap.size w U)=>RI h0 hw a b c d ca cb cc cd k U hk (h.aa hU));have BV:=hid (fun (d:Option Addr) (cd k:Nat) (U:World) (hA:ax U d (iL (bM (ah V) (List.range V.length) k))) (hU:Below w.heap.size w U)=>RR d f cd cf k V l U hA (hF.aa hU) hl.lt hn);obtain⟨mz,E7⟩:∃mz:Nat ->Nat ->Nat,∀k j,pos (ah V) (aO (ah V) (List.range V.length) k) ((ag Q).take j)=mz k j:=⟨fun k j=>pos (ah V) (aO (ah V) (List.range V.length) k) ((ag Q).take j),fun _ _=>rfl⟩;have zD:Hid (∀k,mz k 0=0):=fun k=>by rw[<- E7];rfl
 have mC:Hid (∀k j,k<cnt (ah V) (List.range V.length) ->mz k j<=65536):=fun k j hk=>by
  rw[<- E7];have:=RZ (Jy aM.fine) (aO (ah V) (List.range V.length) k) (fun u=>nN hp _ _ u hk) (P:=ag Q) (by rw[cS];omega) j;omega
 have LW:Hid (∀k,k<cnt (ah V) (List.range V.length) ->mz k Q.length<cnt (ah V) (ag Q)):=fun k hk=>by
  rw[<- E7, <- cS,fJ];exact p3 _ (fun u=>nN hp _ _ u hk) _
 have HST:Hid (∀k j (hj:j<Q.length),k<cnt (ah V) (List.range V.length) ->∃u:Nat,u<V.length/\(∀(U:World),Below w.heap.size w U ->∃g o,q=some ⟨g,o,none⟩/\U.cell? ⟨g,o+j,none⟩=some (.int .i64 (u:Nat)))/\(∀(s:Option Addr) (U:World),ax U s (iL (ah V)) ->∃g o,s=some ⟨g,o,none⟩/\U.cell? ⟨g,o+u,none⟩=some (.int .i64 (sz (ah V) u:Nat)))/\(∀(s:Option Addr) (U:World),ax U s (iL (bM (ah V) (List.range V.length) k)) ->∃g o,s=some ⟨g,o,none⟩/\U.cell? ⟨g,o+u,none⟩=some (.int .i64 (aO (ah V) (List.range V.length) k u:Nat)))/\sz (ah V) u<=4/\aO (ah V) (List.range V.length) k u<4/\mz k (j+1)=mz k j*sz (ah V) u+aO (ah V) (List.range V.length) k u):=fun k j hj hk=>by
  obtain⟨gh,dm⟩:=wO.nat hj;refine⟨Q[j].toNat,dm,fun U hU=>?_,fun s U hU=>?_,fun s U hU=>?_,Jy aM.fine _,?_,?_⟩
  ·obtain⟨g,o,e,hg,hc⟩:=(hq.aa hU) j hj;exact⟨g,o,e,by rw[hc,gh]⟩
  ·obtain⟨g,o,e,hg,hc⟩:=hU Q[j].toNat (by rw[bJ];exact dm);refine⟨g,o,e,?_⟩;(have hs2:Q[j].toNat<(ah V).length:=by rw[gR];exact dm);rw[hc,sz,List.getElem?_eq_getElem hs2];simp[iL]
  ·have pg:(bM (ah V) (List.range V.length) k).length=V.length:=by rw[ue,lY]
   obtain⟨g,o,e,hg,hc⟩:=hU Q[j].toNat (by rw[ba,pg];exact dm);refine⟨g,o,e,?_⟩;have hd:=Ic (S:=ah V) (k:=k) (i:=Q[j].toNat) (vs:=List.range V.length) pO (by rw[lY];exact dm);rw[qH] at hd;rw[hc]
   have i7:(bM (ah V) (List.range V.length) k)[Q[j].toNat]'(by rw[pg];exact dm)=aO (ah V) (List.range V.length) k Q[j].toNat:=by
    rw[List.getElem?_eq_getElem (by rw[pg];exact dm)] at hd;exact lV hd
   simp[iL,i7]
  ·have h1:=nN hp (List.range V.length) k Q[j].toNat hk;have h2:=Jy aM.fine Q[j].toNat;omega
  ·have hjn:j<(ag Q).length:=by rw[cS];exact hj
   rw[<- E7, <- E7,R1 _ _ hjn,o6 hj]
 have adB:Hid (∀k,k<cnt (ah V) (List.range V.length) ->∀U:World,Calls Tryz.prog 71 #[dP (qF (a8 (aK V L R (qV (ah V) (ag Q) (mz k Q.length)++l)) k)),dP (qF (pK V L R k))] U fun e w'=>e=.returned (dP (qF (a8 (aK V L R (qV (ah V) (ag Q) (mz k Q.length)++l)) k+pK V L R k)))/\Below U.heap.size U w'):=fun k hk U=>by
  have h1:=SQ h0 hp hD (qV (ah V) (ag Q) (mz k Q.length)++l) (uH hk);have h2:=Nx h0 hp hD hk;exact Zd _ _ U (by omega) (by omega)
 have ads:Hid (∀k (h:mz k Q.length<(kC V L R (ag Q) l k).length),(kC V L R (ag Q) l k)[mz k Q.length]=qF (a8 (aK V L R (qV (ah V) (ag Q) (mz k Q.length)++l)) k)):=fun k h=>Na h
 have Dp:Hid (∀k,k<cnt (ah V) (List.range V.length) ->kP (bM (ah V) (List.range V.length) k) l=true ->kC V L R (ag Q) l (k+1)=(kC V L R (ag Q) l k).set (mz k Q.length) (qF (a8 (aK V L R (qV (ah V) (ag Q) (mz k Q.length)++l)) k+pK V L R k))):=fun k hk hh=>by
  rw[<- E7, <- cS,fJ];exact aei hp Ol hk hh rfl
 have eQ:Hid (∀k,k<cnt (ah V) (List.range V.length) ->kP (bM (ah V) (List.range V.length) k) l=false ->kC V L R (ag Q) l (k+1)=kC V L R (ag Q) l k):=fun k hk hh=>aej hp Ol hk hh;have vQ:Hid (kC V L R (ag Q) l 0=List.replicate (cnt (ah V) (ag Q)) (qF 0)):=aeh ..;have qu:Hid (kC V L R (ag Q) l (cnt (ah V) (List.range V.length))=(dr V L R Q l).2):=aek ..;have vO:Hid (∀k,(kC V L R (ag Q) l k).length=cnt (ah V) (ag Q)):=fun k=>XX ..;have oK:(dr V L R Q l).2.length=cnt (ah V) (ag Q):=by rw[<- qu.o,vO.o]
 rw[oK];clear oK;generalize kC V L R (ag Q) l=TG at *;generalize (dr V L R Q l).2=TT at *;generalize cnt (ah V) (ag Q)=C1 at *;obtain⟨SM,hSM⟩:∃SM:Nat ->Rat,∀k,a8 (aK V L R (qV (ah V) (ag Q) (mz k Q.length)++l)) k=SM k:=⟨_,fun _=>rfl⟩;simp only[hSM] at adB ads Dp;generalize pK V L R=PK at *;clear hSM E7;generalize cnt (ah V) (List.range V.length)=C0 at *;have tq:=hid ((au w.heap.size w).alloc (ar _) (NC (.slice a V.length ca) (.slice b L.length cb) (.slice c R.length cc)));have BB:=hid (gX.at (w:=w) rfl (.slice a V.length ca) (.slice b L.length cb) (.slice c R.length cc));obtain⟨n0,n1,n2⟩:=BB.o.cells;clear h hw h0 hD hq wO hF hl hp aM bJ Ol;go_enter Tryz.func43,Tryz.ntmps43;go_wp2_with fail
 generalize (w.alloc (NC (.slice a V.length ca) (.slice b L.length cb) (.slice c R.length cc)))=w1 at *;refine(fT.o w1 tq.o).af ?_;rintro e w2 ⟨s,cs,rfl,hs2,hb2⟩;have bc:=hid (tq.o.trans (hb2.af tq.o.size));have fA:=hid (BB.o.aa hb2 BB.o.lt);have sR:=hid (DM.o s cs w2 bc.o hs2);have iR:=hid hs2;clear n0 n1 n2 hb2 tq BB fT DM hs2;go_wp2_with fail
 refine sR.o.af ?_;rintro e w3 ⟨rfl,hb3⟩;have dU:=hid (bc.o.trans (hb3.af bc.o.size));have BD:=hid (fA.o.aa hb3 fA.o.lt);have Bz:=hid (iR.o.aa hb3);clear hb3 bc fA iR sR;go_wp2_with fail
 go_loopw [10,11] (fun v iv wr=>∃k:Nat,k<=C1/\iv=.int .i64 k/\Hid (kq wr w3.heap.size v (List.replicate k (qF 0)))/\Hid (Below w3.heap.size w3 wr)) (fun _ iv _=>C1 - (intOf iv).toNat)
 case atStart=>exact⟨0,aU _,rfl,kq.empty _ _,au _ _⟩
 case round=>
  obtain⟨k,hk,rfl,fj,HB⟩:=hrel;obtain⟨vd,vn,vc,rfl⟩:=fj.o.slv;by_cases hlt:k<C1
  ·go_wp2_with fail
   refine(JG wr).af ?_;rintro e z1 ⟨rfl,hb1⟩;have aN:=hb1.alloc hb1.size (FC (aH 0) (nu 0) (de 0));have LP:=hid (fj.o.aa aN);have bc:=hid (HB.o.trans (aN.af HB.o.size));have sR:=hid (aC.new z1 (aH 0) (nu 0) (de 0));have iR:Hid (w3.heap.size<=(z1.alloc (FC (aH 0) (nu 0) (de 0))).heap.size):=bc.o.size;clear hb1 aN fj HB;go_wp2_with (at_builtin;refine Xs rfl _ _ rfl w3.heap.size (.slice vd vn vc) (List.replicate k (qF 0)) (qF 0) rfl LP.o z1.heap.size rfl sR.o (by rw[Gs];omega) iR.o ?_;intro v' bI dw dO;have anI:=hid (bc.o.grown dO iR.o (fun j e=>LP.o.own j e));have ant:=hid dw;obtain⟨d10,n10,c10,rfl⟩:=dw.slv;clear dw dO)
   go_roundw
   case rel=>exact⟨k+1,by omega,by go_num,by rw[List.replicate_succ'];exact ant,anI⟩
   case measure=>simp[intOf];omega
  ·obtain rfl:C1=k:=by omega
   rw[<- vQ.o] at fj
   obtain⟨gr,cr,er,hgr⟩:∃gr cr,Value.slice (some ⟨gr,0,none⟩) C1 cr=.slice vd vn vc/\w3.heap.size<=gr:=by
    rcases fj.o.2 with ⟨e,e2⟩ |⟨g',cap',cur,e,hB,_⟩
    ·rw[vO.o] at e2;omega
    ·rw[vO.o] at e;exact⟨g',cap',e.symm,hB⟩
   injection er with er1 er2 er3;subst er1 er2 er3;clear vQ;go_wp2_with fail
   refine(rO.o wr s cs).af ?_;rintro e z1 ⟨d1,zh,rfl,jQ,hb1⟩;have pL:=hid jQ;clear jQ;go_wp2_with fail
   refine(jt.o s d1 cs zh z1 ((Bz.o.aa HB.o).aa hb1) pL.o).af ?_;rintro e z2 ⟨rfl,hb2⟩;have kN:=hb1.trans (hb2.af hb1.size);have LP:=hid (fj.o.aa kN);have bc:=hid (HB.o.trans (kN.af HB.o.size));clear hb1 hb2 kN fj HB pL jt;go_wp2_with fail
   go_loopw [12] (fun iv wr=>∃k:Nat,k<=C0/\iv=.int .i64 k/\Hid (kq wr w3.heap.size (.slice (some ⟨gr,0,none⟩) C1 cr) (TG k))/\Hid (Below w3.heap.size w3 wr)) (fun iv _=>C0 - (intOf iv).toNat)
   case atStart=>exact⟨0,aU _,rfl,LP,bc⟩
   case round=>
    obtain⟨k,hk2,rfl,fj,HB⟩:=hrel;clear LP bc;rename World=>W6
    by_cases hlt2:k<C0
    ·go_wp2_with fail
     refine(rO.o W6 s cs).af ?_;rintro e z1 ⟨d1,zh,rfl,jQ,hb1⟩;have pL:=hid jQ;clear jQ;go_wp2_with fail
     refine(uo.o s d1 cs zh k z1 hlt2 ((Bz.o.aa HB.o).aa hb1) pL.o).af ?_;rintro e z2 ⟨d2,sM,rfl,jP,hb2⟩;have kN:=hb1.trans (hb2.af hb1.size);replace fj:=hid (fj.o.aa kN);replace HB:=hid (HB.o.trans (kN.af HB.o.size));have iU:=hid jP;clear hb1 hb2 kN pL jP;have DT:=hid (BV.o d2 sM k z2 iU.o (dU.o.trans (HB.o.af dU.o.size)));have Bq:=hid (Dp.o k hlt2);have ux:=hid (eQ.o k hlt2);have zI:=hid (fun U=>HJ.o d2 sM k U hlt2);have adh:=hid (fun j hj=>HST.o k j hj hlt2);generalize bM (ah V) (List.range V.length) k=DG at *;generalize kP DG l=ab at *;go_wp2_with fail
     refine DT.o.af ?_;rintro e z3 ⟨rfl,hb3⟩;replace fj:=hid (fj.o.aa hb3);replace HB:=hid (HB.o.trans (hb3.af HB.o.size));replace iU:=hid (iU.o.aa hb3);clear hb3 DT;cases ab with
     |false=>
      replace ux:=hid (ux.o rfl);go_wp2;go_roundw
      case rel=>exact⟨k+1,by omega,by go_num,by rw[ux.o];exact fj,HB⟩
      case measure=>simp[intOf];omega
     |true=>
      have PZ:=hid (Bq.o rfl);clear Bq ux;have adg:=hid (Bz.o.aa HB.o);have kT:=hid (dU.o.trans (HB.o.af dU.o.size));go_wp2_with fail
      go_loopw [16,17] (fun av jv wq=>∃j m:Nat,j<=Q.length/\jv=.int .i64 j/\av=.int .i64 (mz k j:Nat)/\wq=z3.drewN m) (fun _ jv _=>Q.length - (intOf jv).toNat)
      case atStart=>exact⟨0,0,aU _,rfl,by rw[zD.o];rfl,rfl⟩
      case round=>
       obtain⟨j,m,hj,rfl,rfl,rfl⟩:=hrel;by_cases oH:j<Q.length
       ·obtain⟨u,hu,f1,f2,f3,tJ,ha4,eN⟩:=adh.o j oH;obtain⟨gq,oq,rfl,cq0⟩:=f1 z3 kT.o;obtain⟨gs,os,rfl,cs0⟩:=f2 s z3 adg.o;obtain⟨ga,oa,rfl,ca0⟩:=f3 d2 z3 iU.o;have vr:=mC.o k j hlt2;have zC:=hid eN;clear f1 f2 f3 eN;generalize tY:mz k (j+1)=P1 at *;generalize mz k j=P0 at *;generalize sz (ah V) u=su at *;generalize aO (ah V) (List.range V.length) k u=fu at *;have h1:P0*su<=65536*4:=iW vr tJ
        have hm1:IntKind.i64.wrap ((P0:Int)*(su:Int))=((P0*su:Nat):Int):=by
         rw[eo, <- iH];omega
        have bq:IntKind.i64.wrap (((P0*su:Nat):Int)+(fu:Int))=(P1:Int):=by
         rw[eo];have:=zC.o;omega
        generalize P0*su=Q0 at *;have lS:=hid tY;clear tY h1 zC;go_wp2_with (go_quiet (fail))
        go_roundw
        case rel=>exact⟨j+1,_,by omega,by go_num,by rw[lS.o],rfl⟩
        case measure=>simp[intOf];omega
       ·obtain rfl:j=Q.length:=by omega
        have ajl:=LW.o k hlt2;(have eN:mz k Q.length<(TG k).length:=by rw[vO.o];exact ajl);have F6:=hid (ads.o k eN);have IZ:=hid (adB.o k hlt2);have K0:=below_drewN (au z3.heap.size z3) m;replace fj:=hid (fj.o.aa K0);replace HB:=hid (HB.o.trans (K0.af HB.o.size));replace iU:=hid (iU.o.aa K0);replace kT:=hid (kT.o.trans (K0.af kT.o.size));have hN:=BD.o.aa HB.o BD.o.lt;obtain⟨n0,n1,n2⟩:=hN.cells;clear K0 adh adg hN;generalize z3.drewN m=z4 at *;generalize mz k Q.length=pi at *;obtain⟨sn,sx,sy,vo⟩:∃x y z,qF (SM k)=(x,y,z):=⟨_,_,_,rfl⟩;obtain⟨pn,px,py,lC⟩:∃x y z,qF (PK k)=(x,y,z):=⟨_,_,_,rfl⟩;obtain⟨tn,tx,ty,Tc⟩:∃x y z,qF (SM k+PK k)=(x,y,z):=⟨_,_,_,rfl⟩;rw[vo,lC,Tc] at IZ;rw[lC] at zI;rw[vo] at F6;rw[Tc] at PZ;clear vo lC Tc;go_wp2_with fail
        refine(zI.o z4 kT.o iU.o).af ?_;rintro e QS ⟨rfl,hb5⟩;have aN:=hb5.alloc hb5.size (FC pn px py);replace fj:=hid (fj.o.aa aN);replace HB:=hid (HB.o.trans (aN.af HB.o.size));have zq:=hid (aC.new QS pn px py);clear hb5 aN iU kT n0 n1 n2 zI;go_upto_region 21 with (fail)
        generalize ajX:QS.heap.size=B18 at *;generalize hz5:(QS.alloc (FC pn px py))=z5 at *;clear ajX hz5;obtain⟨D5,iM⟩:∃D5,z5.drew=D5:=⟨_,rfl⟩;have iN:Below z5.heap.size z5 z5.drew:=(au z5.heap.size z5).drew;replace fj:=hid (fj.o.aa iN);replace zq:=hid (zq.o.aa iN zq.o.lt);replace HB:=hid (HB.o.trans (iN.af HB.o.size));rw[iM] at fj zq HB;clear iN;refine QT 9 (Lr gr pi B18 (sn,sx,sy) (pn,px,py)) (by kernel_rfl) (by rw[iM];exact Lr.of fj.o eN F6.o zq.o false) (fun aq=>?_);rw[iM] at aq⊢;clear iM;(try simp only[gE,aP]);refine l6 (i:=0) (oi:=_) (v:=.slice (some ⟨gr,0,none⟩) C1 cr) (b:=false) rfl (by kernel_rfl) (by kernel_rfl) (by kernel_rfl) (by decide) (fun _ _ _ h=>h) (Or.inl ⟨by rfl,?_⟩) (by kernel_rfl) (by assumption) ?_
        ·intro u' aL;go_simp
        (try simp only[gE,aP]);refine l6 (i:=1) (oi:=_) (v:=.int .i64 (pi:Nat)) (b:=false) rfl (by kernel_rfl) (by kernel_rfl) (by kernel_rfl) (by decide) (fun _ _ _ h=>h) (Or.inl ⟨by rfl,?_⟩) (by kernel_rfl) (by assumption) ?_
        ·intro u' aL;go_simp
        (try simp only[gE,aP]);refine l6 (i:=2) (oi:=_) (v:=.slice (some ⟨gr,0,none⟩) C1 cr) (b:=false) rfl (by kernel_rfl) (by kernel_rfl) (by kernel_rfl) (by decide) (fun _ _ _ h=>h) (Or.inl ⟨by rfl,?_⟩) (by kernel_rfl) (by assumption) ?_
        ·intro u' aL;go_simp
        (try simp only[gE,aP]);refine l6 (i:=3) (oi:=_) (v:=.int .i64 (pi:Nat)) (b:=false) rfl (by kernel_rfl) (by kernel_rfl) (by kernel_rfl) (by decide) (fun _ _ _ h=>h) (Or.inl ⟨by rfl,?_⟩) (by kernel_rfl) (by assumption) ?_
        ·intro u' aL;go_simp
        (try simp only[gE,aP]);refine l6 (i:=4) (oi:=_) (v:=.pointer (some ⟨gr,pi*3,none⟩)) (b:=false) rfl (by kernel_rfl) (by kernel_rfl) (by kernel_rfl) (by decide) (fun _ _ _ h=>h) (Or.inl ⟨by rfl,?_⟩) (by kernel_rfl) (by assumption) ?_
        ·intro u' aL;go_simp
        (try simp only[gE,aP]);refine GD (i:=5) (oi:=_) (v:=.agg #[.bool sn,.string sx,.string sy]) rfl (by kernel_rfl) (by kernel_rfl) (by kernel_rfl) (by decide) rfl (by kernel_rfl) (fun _ _ _ h=>h) (Or.inl ⟨by rfl,?_⟩) (by kernel_rfl) (by assumption) ?_
        ·intro u' aL;(try simp only[gE]);obtain⟨⟨hs0,hs1,hs2⟩,hs3,eM,hs5⟩:=aL rfl;go_simp
        (try simp only[gE,aP]);refine GD (i:=6) (oi:=_) (v:=.agg #[.bool pn,.string px,.string py]) rfl (by kernel_rfl) (by kernel_rfl) (by kernel_rfl) (by decide) rfl (by kernel_rfl) (fun _ _ _ h=>h) (Or.inl ⟨by rfl,?_⟩) (by kernel_rfl) (by assumption) ?_
        ·intro u' aL;(try simp only[gE]);obtain⟨⟨hs0,hs1,hs2⟩,hs3,eM,hs5⟩:=aL rfl;go_simp
        (try simp only[gE,aP]);refine om (rs:=[7]) (by kernel_rfl) (by simp) (dS.cons (b:=false) rfl (by kernel_rfl) ?_ (dS.nil))
        ·intro K' hK';go_simp;refine(IZ.o D5).af ?_;rintro e z6 ⟨rfl,bD⟩;replace fj:=hid (fj.o.aa bD);replace zq:=hid (zq.o.aa bD zq.o.lt);replace HB:=hid (HB.o.trans (bD.af HB.o.size));refine hK'.o _ _ (Lr.of fj.o eN F6.o zq.o false) (fun ak=>?_);clear bD;clear hK' K' aq;have aq:=ak;clear ak;(try simp only[gE,aP]);refine l6 (i:=8) (oi:=_) (v:=.pointer (some ⟨gr,pi*3,none⟩)) (b:=false) rfl (by kernel_rfl) (by kernel_rfl) (by kernel_rfl) (by decide) (fun _ _ _ h=>h) (Or.inl ⟨by rfl,?_⟩) (by kernel_rfl) (by assumption) ?_
         ·intro u' aL;go_simp
         (try simp only[gE,aP]);obtain⟨y0,y1,y2,f0,f1,f2⟩:=YU fj.o eN;rw[F6.o] at y0 y1 y2;refine om (rs:=[9]) (by kernel_rfl) (by simp) (dS.cons (b:=true) rfl (by kernel_rfl) ?_ (dS.nil))
         ·intro K' hK';go_simp;replace fj:=hid (fj.o.put pi (tn,tx,ty));replace HB:=hid (amz HB.o hgr (pi*3) (.bool tn) (.string tx) (.string ty));refine hK'.o _ _ (fun e=>by cases e) (fun ak=>?_);clear y0 y1 y2 f0 f1 f2 zq;clear hK' K' aq;have aq:=ak;clear ak;(try simp only[gE,aP]);refine Jk (by kernel_rfl) ?_ _;clear aq;rw[<- PZ.o] at fj;generalize (((z6.setCell ⟨gr,pi*3,none⟩ (.bool tn)).setCell ⟨gr,pi*3+1,none⟩ (.string tx)).setCell ⟨gr,pi*3+2,none⟩ (.string ty))=z7 at *;go_wp2;go_roundw
          case rel=>exact⟨k+1,by omega,by go_num,fj,HB⟩
          case measure=>simp[intOf];omega
    ·obtain rfl:C0=k:=by omega
     rw[qu.o] at fj;obtain⟨d,cd,e,hfr⟩:=fj.o.fr;injection e with e1 e2 e3;subst e1 e3;have WE:=hid hfr;have kT:=hid (dU.o.trans (HB.o.af dU.o.size));clear hfr fj HB e2;go_wp2;go_ret;exact⟨_,_,rfl,WE.o,kT.o⟩
def iB (V:List Vr) (L:List (List Int)) (R:List (List Fr)) (Q:List Int) (F:List (Int×Int)):Int:=
 if bP V L R F=0 then(if (gm (iL (ah V)) Q).2=0 then(if (F.any fun p=>ie p.1 Q)=true then 7 else 0) else(gm (iL (ah V)) Q).2) else bP V L R F
def km (V:List Vr) (L:List (List Int)) (R:List (List Fr)) (Q:List Int) (F:List (Int×Int)):Int:=
 if iB V L R Q F=0 then(if aV (dr V L R Q (nF F)).2=0 then 3 else 0) else iB V L R Q F
def jk (V:List Vr) (L:List (List Int)) (R:List (List Fr)) (Q:List Int) (F:List (Int×Int)):Tb:=
 if km V L R Q F=0 then(Q,iu (dr V L R Q (nF F)).2) else([],[])
theorem amN (Q:List Int) (F:List (Int×Int)):(F.any fun p=>ie p.1 Q)=Q.any fun v=>F.any fun p=>p.1==v:=by
 rw[ry,rX,rX];constructor
 ·rintro⟨p,hp,h⟩;obtain⟨x,hx,e⟩:=rX.1 h;exact⟨x,hx,rX.2 ⟨p,hp,by rw[rp] at e⊢;exact e.symm⟩⟩
 ·rintro⟨v,hv,h⟩;obtain⟨p,hp,e⟩:=rX.1 h;exact⟨p,hp,rX.2 ⟨v,hv,by rw[rp] at e⊢;exact e.symm⟩⟩
theorem U5 {Q:List Int} (h:(gm (iL (ah V)) Q).2=0):Up Q V.length:=by
 cases hb:countB (iL (ah V)) Q with
 |false=>rw[Fm hb] at h;exact absurd h (by decide)
 |true=>
  rw[countB,ia] at hb;have:=Al hb.2;rwa [ba,gR] at this
theorem amL {Q:List Int} {l:List (Nat×Nat)} (hq:Up Q n) (h:((zF l).any fun p=>ie p.1 Q)=false):∀v∈ag Q,¬v∈l.map (·.1):=fun v hv hm=>by
 obtain⟨p,hp,rfl⟩:=bs.1 hm;refine Ji.1 h ((p.1:Int),(p.2:Int)) (bs.2 ⟨p,hp,rfl⟩) ?_;obtain⟨x,hx,e⟩:=bs.1 hv;have:=(Ej hq x hx).1;refine rX.2 ⟨x,hx,rp.2 ?_⟩;have e':x.toNat=p.1:=e;show x=(p.1:Int);omega
theorem ab0 (g:Nat ->Rat):∀n,aV ((List.range n).map fun K=>qF (g K))=a8 g n
 |0=>rfl
 |n+1=>by
  rw[rT,fY,List.map_singleton,O3,ab0 g n];show a8 g n+aT (qF (g n))=_;rw[qQ];rfl
theorem anS (h:n<=4294967296):(B n).size<=5:=by
 have h1:=kj h;have h2:(B 4294967296).size<=5:=by rw[mK];exact qT 5 4294967296 (by decide)
 omega
theorem Rc (h0:aW V L R=0) (hD:mJ V R) (Q:List Int) (l:List (Nat×Nat)):∀k (h:k<(dr V L R Q l).2.length),(dr V L R Q l).2[k].2.1.size+(dr V L R Q l).2[k].2.2.size<=40000:=fun k h=>by
 have e:(dr V L R Q l).2[k]=qF (AD V L R (qV (ah V) (ag Q) k++l)):=by simp[dr]
 rw[e,RU,N4];have:=SQ h0 (mi h0) hD (qV (ah V) (ag Q) k++l) (ar _);omega
theorem Ra (h0:aW V L R=0) (hD:mJ V R) {Q:List Int} (hq:Up Q V.length) (l:List (Nat×Nat)):∀k,k<=(dr V L R Q l).2.length ->qw (aV ((dr V L R Q l).2.take k))<=40000:=fun k hk=>by
 have hlen:(dr V L R Q l).2.length=cnt (ah V) (ag Q):=by simp[dr]
 have e:(dr V L R Q l).2.take k=(List.range k).map fun K=>qF (AD V L R (qV (ah V) (ag Q) K++l)):=by
  rw[dr, <- List.map_take,List.take_range,uG (by omega)]
 rw[e,ab0];have hp:=mi h0;have hz:eW R (List.range V.length)≠0:=(PD.net (V:=V) (L:=L) h0 (fun v hv=>bG.1 hv)).nz.1
 have h1:eP (eW R (List.range V.length)) (a8 (fun K=>AD V L R (qV (ah V) (ag Q) K++l)) k):=eP.sum fun K _=>by
  rw[N4];exact eP.sum fun x hx=>(Vx h0 hp _ hx).1
 have h2:kX (k*(cnt (ah V) (List.range V.length)*1)) (a8 (fun K=>AD V L R (qV (ah V) (ag Q) K++l)) k):=kX.sum fun K _=>by
  rw[N4];exact kX.sum fun x hx=>(Vx h0 hp _ hx).2
 have h3:=h1.size hz h2;have h4:=Pz h0;have h5:=U6 (gD h0).fine hq.nodup (by rw[gR];exact hq.aa);have h6:k*(cnt (ah V) (List.range V.length)*1)<=65536*65536:=iW (by omega) (by omega);have h7:=anS (n:=k*(cnt (ah V) (List.range V.length)*1)) (by omega);have h8:(B (eW R (List.range V.length))).size<=4000:=hD;omega
theorem ad9 (h0:aW V L R=0) {Q:List Int} (hq:Up Q V.length) (l:List (Nat×Nat)):jr (iL (ah V)) Q (dr V L R Q l).2.length=0:=
 Po (Fk (gD h0).fine (by rw[ba,gR];exact hq)) (by rw[ew];simp[dr])
theorem Rb (h0:aW V L R=0) {Q:List Int} (hq:Up Q V.length) (l:List (Nat×Nat)) (hc:cnt (ah V) (List.range V.length)<=800):(dr V L R Q l).2.length<=800/\1<=(dr V L R Q l).2.length:=by
 have e:(dr V L R Q l).2.length=cnt (ah V) (ag Q):=by simp[dr]
 have h1:=acA (mi h0) hq.nodup hq.aa;have h2:=zg (mi h0) (ag Q);omega
variable {base:Nat}
theorem afN (a:Option Addr) (cap:Nat) (l:List Fr) (w:World) (h:bZ w a l) (hl:∀k (h:k<l.length),l[k].2.1.size+l[k].2.2.size<=40000) (hq:∀k,k<=l.length ->qw (aV (l.take k))<=40000) (hn:l.length<=10000):
  Calls Tryz.prog 27 #[.slice a l.length cap] w fun e w'=>e=.returned (C (aV l))/\Below w.heap.size w w':=by
 have HF:=aB h;clear h;have tj:Hid (aV (l.take l.length)=aV l):=by show _=_;rw[fJ]
 have HO:=aB (fun V=>Np 0 V (by omega) (by omega));rw[D7] at HO;go_enter Tryz.func27,Tryz.ntmps27;have hbr:=aC.at (w:=w) rfl false ⟨#[]⟩ ⟨#[]⟩;have hB0:Below w.heap.size w (w.alloc (FC false ⟨#[]⟩ ⟨#[]⟩)):=(au _ w).alloc (ar _) _;go_wp2_with fail
 refine(HO.o _).af ?_;rintro e w1 ⟨rfl,hb1⟩;have hr1:=hbr.aa hb1 hbr.lt;have hB1:Below w.heap.size w w1:=hB0.trans (hb1.af hB0.size);clear hbr hB0 hb1;rw[j9];go_wp2_with fail
 have Kk:=hr1.lt;go_loopw [4] (fun iv wr=>∃k:Nat,k<=l.length/\iv=.int .i64 k/\Hid (aC wr w1.heap.size (aH (aV (l.take k))) (nu (aV (l.take k))) (de (aV (l.take k))))/\Hid (aC wr w.heap.size false ⟨#[]⟩ ⟨#[]⟩)/\Below w.heap.size w wr) (fun iv _=>l.length - (intOf iv).toNat)
 case atStart=>exact⟨0,aU _,rfl,aC.at rfl _ _ _,hr1.alloc _,hB1.alloc hB1.size _⟩
 case round=>
  obtain⟨k,hk,rfl,HS,HR,cE⟩:=hrel;by_cases hlt:k<l.length
  ·obtain⟨g,o,rfl,hg,c0,c1,c2⟩:=(HF.o.aa cE) k hlt;have hstep:=take_one hlt;have hmem:=hl k hlt;have oJ:=hq k hk;have hz:=ng (aV (l.take k));have DU:=aB (fun V=>Nq (aH (aV (l.take k))) l[k].1 (nu (aV (l.take k))) (de (aV (l.take k))) l[k].2.1 l[k].2.2 V (by omega) (by omega));rw[gC,show val l[k].1 l[k].2.1 l[k].2.2=H5 l[k] from rfl, <- hstep] at DU;have kL:=HS.o;clear HS hstep hmem oJ hz;generalize l[k].1=fn at *;generalize l[k].2.1=fx at *;generalize l[k].2.2=fy at *;obtain⟨k0,k1,k2,f0,f1,f2⟩:=kL.facts;have cH:=kL.lt;go_upto_region 5 with fail
   go_region_with (
     (go_at_call 71;refine(DU.o _).af ?_;rintro e w2 ⟨rfl,hb2⟩;have hs2:=kL.drew.aa hb2 kL.lt;have hr2:=(aC.drew HR.o).aa hb2 HR.o.lt;have hB2:=cE.drew.trans (hb2.af cE.size);obtain⟨k0,k1,k2,f0,f1,f2⟩:=hs2.facts;rw[j9]))
   all_goals
    go_wp2;go_roundw
    case rel=>exact⟨k+1,by omega,by go_num,hs2.put _ _ _,hr2.far3 (by omega) _ _ _,bF hB2 hB1.size _ _ _⟩
    case measure=>simp[intOf];omega
  ·obtain rfl:k=l.length:=by omega
   have kL:=HS.o;rw[tj.o] at kL;obtain⟨k0,k1,k2,f0,f1,f2⟩:=kL.facts;obtain⟨j0,j1,j2,i0,i1,i2⟩:=HR.o.facts;go_wp2;refine bB ((HR.o.put _ _ _).result rfl _ rfl) rfl ?_;exact⟨rfl,bF cE (ar _) _ _ _⟩
structure zj (w:World) (B4 base:Nat) (s:Fr) (v:Value) (N:List Fr) (U:World):Prop where
 bx:aC U B4 s.1 s.2.1 s.2.2
 row:kq U base v N
 bel:Below w.heap.size w U
theorem zj.step {B4:Nat} {s:Fr} {v:Value} {N:List Fr} (h:zj w B4 base s v N U) (hb:Below U.heap.size U U'):zj w B4 base s v N U':=⟨h.bx.aa hb h.bx.lt,h.row.aa hb,h.bel.trans (hb.af h.bel.size)⟩
theorem zj.put3 {B4:Nat} {s:Fr} {v:Value} {N:List Fr} (h:zj w B4 base s v N U) (h1:g≠B4) (h2:v.ownBlock≠some g) (h3:w.heap.size<=g) (x y z:Value):zj w B4 base s v N (((U.setCell ⟨g,0,none⟩ x).setCell ⟨g,1,none⟩ y).setCell ⟨g,2,none⟩ z):=
 ⟨h.bx.far3 (Ne.symm h1) x y z,DY (DY (DY h.row h2 x) h2 y) h2 z,bF h.bel h3 x y z⟩
theorem afQ (a:Option Addr) (cap:Nat) (l:List Fr) (w:World) (h:bZ w a l) (hl:∀k (h:k<l.length),l[k].2.1.size+l[k].2.2.size<=40000) (hq:∀k,k<=l.length ->qw (aV (l.take k))<=40000) (hn:l.length<=10000) (h1:1<=l.length):
  Calls Tryz.prog 44 #[.slice a l.length cap] w fun e w'=>((aV l=0/\e=.returned (.tuple #[.slice none 0 0,.int .i64 3]))∨(aV l≠0/\∃d cd,e=.returned (.tuple #[.slice d (iu l).length cd,.int .i64 0])/\bZ w' d (iu l)))/\Below w.heap.size w w':=by
 have kR:=hid (afN a cap l w h hl hq hn);have HF:=hid h;have o9:=hq l.length (ar _);rw[fJ] at o9;obtain⟨DV,KX⟩:∃DV:Nat ->Fr×Int,∀k (hk:k<l.length),DV k=if aV l=0 then((false,⟨#[]⟩,⟨#[]⟩),3) else(qF (aT l[k]*(1/aV l)),0):=⟨fun k=>if aV l=0 then((false,⟨#[]⟩,⟨#[]⟩),3) else(qF (aT (l.getD k (false,⟨#[]⟩,⟨#[]⟩))*(1/aV l)),0),fun k hk=>by dsimp only;rw[List.getD_eq_getElem?_getD,List.getElem?_eq_getElem hk];rfl⟩
 have adu:Hid (∀k (hk:k<l.length) (U:World),Calls Tryz.prog 92 #[.agg #[.bool l[k].1,.string l[k].2.1,.string l[k].2.2],.agg #[.bool (aH (aV l)),.string (nu (aV l)),.string (de (aV l))]] U fun e w'=>e=.returned (.tuple #[.agg #[.bool (DV k).1.1,.string (DV k).1.2.1,.string (DV k).1.2.2],.int .i64 (DV k).2])/\Below U.heap.size U w'):=fun k hk U=>by
  have hz:=ng (aV l);have hlk:=hl k hk;rw[KX k hk];by_cases e:aV l=0
  ·rw[ay e];exact agd l[k].1 (aH (aV l)) l[k].2.1 l[k].2.2 (nu (aV l)) (de (aV l)) U (by rw[gC];exact e) (by omega)
  ·rw[az e];have:=agc l[k].1 (aH (aV l)) l[k].2.1 l[k].2.2 (nu (aV l)) (de (aV l)) U (by rw[gC];exact e) (by omega) (by omega);rw[gC,D8, <- vZ (aV l)⁻¹, <- D8] at this;exact this
 have VE:Hid (aV l=0 ->∀k (hk:k<l.length),(DV k).2=3):=fun e k hk=>by rw[KX k hk,ay e]
 have LB:Hid (aV l≠0 ->∀k (hk:k<l.length),(DV k).2=0):=fun e k hk=>by rw[KX k hk,az e]
 obtain⟨NK,Hu⟩:∃NK:Nat ->List Fr,∀k,(iu l).take k=NK k:=⟨fun k=>(iu l).take k,fun _=>rfl⟩;have hnl:(iu l).length=l.length:=by simp[iu]
 have mG:Hid (NK 0=[]):=by show _=_;rw[<- Hu];rfl
 have IG:Hid (aV l≠0 ->∀k (hk:k<l.length),NK (k+1)=NK k++[(DV k).1]):=fun e k hk=>by
  have dH:k<(iu l).length:=by rw[hnl];exact hk
  rw[<- Hu, <- Hu,fR dH,KX k hk,az e];simp[iu]
 have Qb:Hid (NK l.length=iu l):=by show _=_;rw[<- Hu, <- hnl,fJ]
 have IJ:Hid (∀k,(NK k).length<=l.length):=fun k=>by rw[<- Hu,eZ];omega
 clear h hl hq KX Hu;obtain⟨s,hs⟩:∃s:Fr,s=(aH (aV l),nu (aV l),de (aV l)):=⟨_,rfl⟩;obtain⟨z,hz⟩:∃z:Prop,z=(aV l=0):=⟨_,rfl⟩;have zw:Hid (C (aV l)=.agg #[.bool s.1,.string s.2.1,.string s.2.2]):=by show _=_;rw[hs];rfl
 have anC:Hid (∀k (hk:k<l.length) (U:World),Calls Tryz.prog 92 #[.agg #[.bool l[k].1,.string l[k].2.1,.string l[k].2.2],.agg #[.bool s.1,.string s.2.1,.string s.2.2]] U fun e w'=>e=.returned (.tuple #[.agg #[.bool (DV k).1.1,.string (DV k).1.2.1,.string (DV k).1.2.2],.int .i64 (DV k).2])/\Below U.heap.size U w'):=by rw[hs];exact adu
 rw[zw.o] at kR;clear adu zw hs;have HLR:Hid ((iu l).length=l.length):=hnl;clear hnl o9 hz z;obtain⟨sn,sx,sy⟩:=s;go_enter Tryz.func44,Tryz.ntmps44;go_wp2_with fail
 refine kR.o.af ?_;rintro e w1 ⟨rfl,hb1⟩;have hA:=hb1.alloc hb1.size (FC sn sx sy);have bY:Hid (zj w w1.heap.size (w1.heap.size+1) (sn,sx,sy) (.slice none 0 0) [] (w1.alloc (FC sn sx sy))):=⟨aC.new w1 sn sx sy,kq.empty _ _,hA⟩;have hs1:=hb1.size;clear hb1 hA kR;go_wp2_with fail
 generalize dY:w1.heap.size=B4 at *;generalize hW2:(w1.alloc (FC sn sx sy))=W2 at *;clear dY hW2;go_loopw [5,6] (fun v iv wr=>∃k:Nat,k<=l.length/\iv=.int .i64 k/\Hid (k=0∨aV l≠0)/\Hid (zj w B4 (B4+1) (sn,sx,sy) v (NK k) wr)) (fun _ iv _=>l.length - (intOf iv).toNat)
 case atStart=>exact⟨0,aU _,rfl,.inl rfl,by rw[mG.o];exact bY⟩
 case round=>
  obtain⟨k,hk,rfl,Lz,Mh⟩:=hrel;clear bY;obtain⟨vd,vn,vc,rfl⟩:=Mh.o.row.slv;by_cases hlt:k<l.length
  ·obtain⟨g,o,rfl,hg,c0,c1,c2⟩:=HF.o k hlt;have Mt:=hid (anC.o k hlt);have Fw:=hid (fun e=>VE.o e k hlt);have Ih:=hid (fun e=>LB.o e k hlt);have Ma:=hid (fun e=>IG.o e k hlt);generalize l[k].1=fn at *;generalize l[k].2.1=fx at *;generalize l[k].2.2=fy at *;generalize DV k=dv at *;obtain⟨⟨dn,dx,dy⟩,dk⟩:=dv;simp only at Mt Fw Ih Ma;have BG:Hid (∀U:World,zj w B4 (B4+1) (sn,sx,sy) (.slice vd vn vc) (NK k) U ->(U.cell? ⟨g,o+k*3,none⟩=some (.bool fn)/\U.cell? ⟨g,o+k*3+1,none⟩=some (.string fx)/\U.cell? ⟨g,o+k*3+2,none⟩=some (.string fy))/\U.cell? ⟨B4,0,none⟩=some (.bool sn)/\U.cell? ⟨B4,1,none⟩=some (.string sx)/\U.cell? ⟨B4,2,none⟩=some (.string sy)):=fun U hU=>⟨⟨(hU.bel.cell (p:=⟨g,_,none⟩) hg).trans c0,(hU.bel.cell (p:=⟨g,_,none⟩) hg).trans c1,(hU.bel.cell (p:=⟨g,_,none⟩) hg).trans c2⟩,hU.bx.c0,hU.bx.c1,hU.bx.c2⟩;clear c0 c1 c2;obtain⟨v,hv⟩:∃v,v=Value.slice vd vn vc:=⟨_,rfl⟩;clear hv v;go_upto_region 6 with (go_quiet (fail))
   obtain⟨D5,iM⟩:∃D5,wr.drew=D5:=⟨_,rfl⟩;have HK:=hid (Mh.o.step ((au wr.heap.size wr).drew));rw[iM] at HK;refine jJ (S:=(fun U=>(U.cell? ⟨g,o+k*3,none⟩=some (.bool fn)/\U.cell? ⟨g,o+k*3+1,none⟩=some (.string fx)/\U.cell? ⟨g,o+k*3+2,none⟩=some (.string fy))/\U.cell? ⟨B4,0,none⟩=some (.bool sn)/\U.cell? ⟨B4,1,none⟩=some (.string sx)/\U.cell? ⟨B4,2,none⟩=some (.string sy))) (by kernel_rfl) (by rw[iM];exact BG.o D5 HK.o) (fun aq=>?_);rw[iM] at aq⊢;clear iM Mh;refine aw 0 (.slice (some ⟨g,o,none⟩) l.length cap) ?_;refine aw 1 (.int .i64 (k:Nat)) ?_;refine aw 2 (.pointer (some ⟨g,o+k*3,none⟩)) ?_;(try simp only[gE,aP]);refine cK 3 (.agg #[.bool fn,.string fx,.string fy]) ?_ ?_
   ·intro u' aL;try simp only[gE];obtain⟨⟨s0,s1,s2⟩,s3,s4,s5⟩:=aL;go_simp
   (try simp only[gE,aP]);refine cK 4 (.agg #[.bool sn,.string sx,.string sy]) ?_ ?_
   ·intro u' aL;try simp only[gE];obtain⟨⟨s0,s1,s2⟩,s3,s4,s5⟩:=aL;go_simp
   refine aF [5,9] (cA ?_ (cA ?_ aD))
   focus
    intro K' hK';go_simp;refine(Mt.o D5).af ?_;rintro e u1 ⟨rfl,hb1⟩;replace HK:=hid (HK.o.step hb1);refine hK'.o _ _ (BG.o u1 HK.o) (fun ak=>?_);clear hb1;clear hK' K' aq;have aq:=ak;clear ak;refine aw 6 (.tuple #[.agg #[.bool dn,.string dx,.string dy],.int .i64 dk]) ?_;refine aw 7 (.agg #[.bool dn,.string dx,.string dy]) ?_;refine aw 8 (.int .i64 dk) ?_;refine aF [9] (cA ?_ aD);intro K' hK';go_simp;have aN:=(au _ u1).alloc (ar _) (FC false ⟨#[]⟩ ⟨#[]⟩);have eY:=hid (aC.new u1 false ⟨#[]⟩ ⟨#[]⟩);have mo:u1.heap.size≠B4/\w.heap.size<=u1.heap.size:=⟨by have:=HK.o.bx.lt;omega,HK.o.bel.size⟩
    have FR:Hid (Value.ownBlock (.slice vd vn vc)≠some u1.heap.size):=fun e=>by
     have:=(p4 HK.o.row _ e).2;omega
    replace HK:=hid (HK.o.step aN);refine hK'.o _ _ (BG.o _ HK.o) (fun ak=>?_);clear aN;clear hK' K' aq;have aq:=ak;clear ak;obtain⟨B7,Ff⟩:∃B7,u1.heap.size=B7:=⟨_,rfl⟩;obtain⟨u3,eG⟩:∃u3,u1.alloc (FC false ⟨#[]⟩ ⟨#[]⟩)=u3:=⟨_,rfl⟩;have kI:u1.alloc (.cells #[.bool false,.string ⟨#[]⟩,.string ⟨#[]⟩] 32)=u3:=eG;rw[Ff] at eY mo FR;rw[eG] at eY HK;simp only[kI] at aq⊢;simp only[Ff];clear eG kI Ff;(try simp only[gE,aP]);obtain⟨x0,x1,x2,f0,f1,f2⟩:=eY.o.facts;refine aF [10] (cA ?_ aD);intro K' hK';go_simp;have Il:=hid (eY.o.put dn dx dy);have xY:=hid (HK.o.put3 mo.1 FR.o mo.2 (.bool dn) (.string dx) (.string dy));refine hK'.o _ _ (BG.o _ xY.o) (fun ak=>?_);clear x0 x1 x2 f0 f1 f2 eY HK FR mo;clear hK' K' aq;have aq:=ak;clear ak;refine aw 11 (.int .i64 dk) ?_;(try simp only[gE,aP]);refine dW (by kernel_rfl) ?_ _;clear aq BG Mt;obtain⟨u9,J8⟩:∃u9,((u3.setCell ⟨B7,0,none⟩ (.bool dn)).setCell ⟨B7,1,none⟩ (.string dx)).setCell ⟨B7,2,none⟩ (.string dy)=u9:=⟨_,rfl⟩;rw[J8] at Il xY⊢;clear J8;by_cases kK:dk=0
    focus
     subst kK
    rotate_left
    ·have hz:aV l=0:=Decidable.byContradiction fun e=>kK (Ih.o e);have KB:=Fw.o hz;subst KB;have Bo:=hid hz;have kV:=hid xY.o.bel;clear hz kK Fw Ih Ma Lz xY Il;go_wp2;go_ret2;exact⟨.inl ⟨Bo.o,rfl⟩,kV.o⟩
   rotate_left
   focus
    intro K' hK';go_simp;have aN:=(au _ D5).alloc (ar _) (FC false ⟨#[]⟩ ⟨#[]⟩);have eY:=hid (aC.new D5 false ⟨#[]⟩ ⟨#[]⟩);have mo:D5.heap.size≠B4/\w.heap.size<=D5.heap.size:=⟨by have:=HK.o.bx.lt;omega,HK.o.bel.size⟩
    have FR:Hid (Value.ownBlock (.slice vd vn vc)≠some D5.heap.size):=fun e=>by
     have:=(p4 HK.o.row _ e).2;omega
    replace HK:=hid (HK.o.step aN);refine hK'.o _ _ (BG.o _ HK.o) (fun ak=>?_);clear aN;clear hK' K' aq;have aq:=ak;clear ak;obtain⟨B7,Ff⟩:∃B7,D5.heap.size=B7:=⟨_,rfl⟩;obtain⟨u3,eG⟩:∃u3,D5.alloc (FC false ⟨#[]⟩ ⟨#[]⟩)=u3:=⟨_,rfl⟩;have kI:D5.alloc (.cells #[.bool false,.string ⟨#[]⟩,.string ⟨#[]⟩] 32)=u3:=eG;rw[Ff] at eY mo FR;rw[eG] at eY HK;simp only[kI] at aq⊢;simp only[Ff];clear eG kI Ff;refine aF [5] (cA ?_ aD);intro K' hK';go_simp;refine(Mt.o u3).af ?_;rintro e u1 ⟨rfl,hb1⟩;replace HK:=hid (HK.o.step hb1);replace eY:=hid (eY.o.aa hb1 eY.o.lt);refine hK'.o _ _ (BG.o u1 HK.o) (fun ak=>?_);clear hb1;clear hK' K' aq;have aq:=ak;clear ak;refine aw 6 (.tuple #[.agg #[.bool dn,.string dx,.string dy],.int .i64 dk]) ?_;refine aw 7 (.agg #[.bool dn,.string dx,.string dy]) ?_;refine aw 8 (.int .i64 dk) ?_;(try simp only[gE,aP]);obtain⟨x0,x1,x2,f0,f1,f2⟩:=eY.o.facts;refine aF [10] (cA ?_ aD);intro K' hK';go_simp;have Il:=hid (eY.o.put dn dx dy);have xY:=hid (HK.o.put3 mo.1 FR.o mo.2 (.bool dn) (.string dx) (.string dy));refine hK'.o _ _ (BG.o _ xY.o) (fun ak=>?_);clear x0 x1 x2 f0 f1 f2 eY HK FR mo;clear hK' K' aq;have aq:=ak;clear ak;refine aw 11 (.int .i64 dk) ?_;(try simp only[gE,aP]);refine dW (by kernel_rfl) ?_ _;clear aq BG Mt;obtain⟨u9,J8⟩:∃u9,((u1.setCell ⟨B7,0,none⟩ (.bool dn)).setCell ⟨B7,1,none⟩ (.string dx)).setCell ⟨B7,2,none⟩ (.string dy)=u9:=⟨_,rfl⟩;rw[J8] at Il xY⊢;clear J8;by_cases kK:dk=0
    focus
     subst kK
    rotate_left
    ·have hz:aV l=0:=Decidable.byContradiction fun e=>kK (Ih.o e);have KB:=Fw.o hz;subst KB;have Bo:=hid hz;have kV:=hid xY.o.bel;clear hz kK Fw Ih Ma Lz xY Il;go_wp2;go_ret2;exact⟨.inl ⟨Bo.o,rfl⟩,kV.o⟩
   all_goals
    (have hz:aV l≠0:=fun e=>by have:=Fw.o e;omega);have ux:=hid (Ma.o hz);have Bo:Hid (k+1=0∨aV l≠0):=.inr hz;obtain⟨x0,x1,x2, -⟩:=Il.o.facts;have aN:=(au _ u9).alloc (ar _) (FC dn dx dy);have vU:=hid (xY.o.step aN);have nS:=hid (aC.new u9 dn dx dy);have pG:Hid (B4+1<=(u9.alloc (FC dn dx dy)).heap.size):=vU.o.bx.lt;have hnl:=IJ.o k;clear hz aN Fw Ih Ma Lz xY;go_wp2_with (at_builtin;refine Xs rfl _ _ rfl (B4+1) (.slice vd vn vc) (NK k) (dn,dx,dy) rfl vU.o.row u9.heap.size rfl nS.o (by omega) pG.o ?_;intro v' bI dw dO;have anB:Hid (zj w B4 (B4+1) (sn,sx,sy) v' (NK k++[(dn,dx,dy)]) bI):=⟨(dO.block B4 vU.o.bx.lt (fun e=>by have:=vU.o.row.own B4 e.symm;omega)).trans vU.o.bx,dw,vU.o.bel.grown dO vU.o.bel.size (fun j e=>aS (by omega) (vU.o.row.own j e))⟩;obtain⟨d10,n10,c10,rfl⟩:=dw.slv;clear dw dO)
    go_roundw
    case rel=>exact⟨k+1,by omega,by go_num,Bo,by rw[ux.o];exact anB⟩
    case measure=>simp[intOf];omega
  ·obtain rfl:k=l.length:=by omega
   have hz:=Lz.o.resolve_left (by omega);have Bo:=hid hz;have vU:=Mh;rw[Qb.o] at vU;obtain⟨d,cd,e,hfr⟩:=vU.o.row.fr;injection e with e1 e2 e3;subst e1 e2 e3;have WE:=hid hfr;have kV:=hid vU.o.bel;clear hz hfr Lz Mh;go_wp2;go_ret2;exact⟨.inr ⟨Bo.o,vd,vc,rfl,WE.o⟩,kV.o⟩
variable {y:Value}
theorem amH (q:Option Addr) (cq:Nat) (V:List Vr) (Q:List Int) (w:World) (s:Option Addr) (cs:Nat) (hi:ax w s (iL (ah V))) (hq:ax w q Q) (hQ:Q.length<=1000) (hV:V.length<=5000):
  Calls Tryz.prog 55 #[.slice s V.length cs,.slice q Q.length cq] w fun e w'=>e=.returned (.tuple #[.int .i64 (gm (iL (ah V)) Q).1,.int .i64 (gm (iL (ah V)) Q).2])/\Below w.heap.size w w':=by
 have bJ:(iL (ah V)).length=V.length:=by rw[ba,gR]
 have:=RO s q cs cq (iL (ah V)) Q w hi hq (by rw[bJ];omega) (by omega);rwa [bJ] at this
theorem agf (a b c q f:Option Addr) (ca cb cc cq cf:Nat) (V:List Vr) (L:List (List Int)) (R:List (List Fr)) (Q:List Int) (F:List (Int×Int)) (w:World) (h:gP w a b c V L R) (hs:sQ V L R) (hq:ax w q Q) (hQ:Q.length<=1000) (hF:jI w f F) (hn:F.length<=1000):
  Calls Tryz.prog 42 #[.agg #[.slice a V.length ca,.slice b L.length cb,.slice c R.length cc],.slice q Q.length cq,.slice f F.length cf] w fun e w'=>e=.returned (.int .i64 (iB V L R Q F))/\Below w.heap.size w w':=by
 have oZ:=hid (fun (U:World) (hU:Below w.heap.size w U)=>RL a b c f ca cb cc cf V L R F U (h.aa hU) hs (hF.aa hU) hn);have fT:=hid (fun (U:World) (hU:Below w.heap.size w U)=>Nn a b c ca cb cc L.length R.length V U (h.aa hU).vars hs.vars.1);have DM:=hid (fun (s:Option Addr) (cs:Nat) (U:World) (hU:Below w.heap.size w U) (hi:ax U s (iL (ah V)))=>amH q cq V Q U s cs hi (hq.aa hU) hQ hs.vars.1);have IM:=hid (fun (x:Int) (U:World) (hU:Below w.heap.size w U)=>RJ x q cq Q U (hq.aa hU) (by omega));have WG:=hid (fun (U:World) (hU:Below w.heap.size w U)=>hF.aa hU);obtain⟨ae,sG⟩:∃ae,iB V L R Q F=ae:=⟨_,rfl⟩;have fB:Hid (bP V L R F≠0 ->bP V L R F=ae):=fun e=>by rw[<- sG,iB,az e]
 have dZ:Hid (bP V L R F=0 ->(gm (iL (ah V)) Q).2≠0 ->(gm (iL (ah V)) Q).2=ae):=fun e e2=>by rw[<- sG,iB,ay e,az e2]
 have fQ:Hid (bP V L R F=0 ->(gm (iL (ah V)) Q).2=0 ->∀i (hi:i<F.length),ie F[i].1 Q=true ->7=ae):=fun e e2 i hi h3=>by rw[<- sG,iB,ay e,ay e2,ay (rX.2 ⟨F[i],bH hi,h3⟩)]
 have WJ:Hid (bP V L R F=0 ->(gm (iL (ah V)) Q).2=0 ->(∀i (hi:i<F.length),ie F[i].1 Q=false) ->0=ae):=fun e e2 h3=>by
  rw[<- sG,iB,ay e,ay e2,az];rw[yr,Ji];intro p hp;obtain⟨i,hi,rfl⟩:=iE hp;rw[h3 i hi];decide
 rw[sG];have tq:=hid ((au w.heap.size w).alloc (ar _) (NC (.slice a V.length ca) (.slice b L.length cb) (.slice c R.length cc)));have BB:=hid (gX.at (w:=w) rfl (.slice a V.length ca) (.slice b L.length cb) (.slice c R.length cc));obtain⟨n0,n1,n2⟩:=BB.o.cells;clear h hs hq hF sG;generalize bP V L R F=fe at *;go_enter Tryz.func42,Tryz.ntmps42;go_wp2_with fail
 generalize (w.alloc (NC (.slice a V.length ca) (.slice b L.length cb) (.slice c R.length cc)))=w1 at *;refine(oZ.o w1 tq.o).af ?_;rintro e w2 ⟨rfl,hb2⟩;have bc:=hid (tq.o.trans (hb2.af tq.o.size));have fA:=hid (BB.o.aa hb2 BB.o.lt);clear n0 n1 n2 hb2 tq BB oZ;by_cases fN:fe=0
 ·subst fN;have x8:=hid (dZ.o rfl);have x7:=hid (fQ.o rfl);have WI:=hid (WJ.o rfl);obtain⟨n0,n1,n2⟩:=fA.o.cells;clear fB dZ fQ WJ;go_wp2_with fail
  refine(fT.o w2 bc.o).af ?_;rintro e w3 ⟨s,cs,rfl,hs3,hb3⟩;have dU:=hid (bc.o.trans (hb3.af bc.o.size));have lO:=hid (DM.o s cs w3 dU.o hs3);clear n0 n1 n2 hb3 bc fA fT DM hs3;generalize (gm (iL (ah V)) Q).1=c1 at *;generalize (gm (iL (ah V)) Q).2=c2 at *;go_wp2_with fail
  refine lO.o.af ?_;rintro e w4 ⟨rfl,hb4⟩;have fV:=hid (dU.o.trans (hb4.af dU.o.size));clear hb4 dU lO;by_cases hc2:c2=0
  ·subst hc2;have Mr:=hid (x7.o rfl);have HE6:=hid (WI.o rfl);clear x8 x7 WI;go_wp2_with fail
   go_loopw [8] (fun iv wr=>∃i:Nat,i<=F.length/\iv=.int .i64 i/\Hid (∀j (hj:j<F.length),j< i ->ie F[j].1 Q=false)/\Hid (Below w.heap.size w wr)) (fun iv _=>F.length - (intOf iv).toNat)
   case atStart=>exact⟨0,aU _,rfl,(fun j _ hj=>absurd hj (by omega)),fV⟩
   case round=>
    obtain⟨i,hi,rfl,HZ,HB⟩:=hrel;clear fV;by_cases hlt:i<F.length
    ·obtain⟨g,o,rfl,hg,k0,k1⟩:=WG.o wr HB.o i hlt;have HX:=hid (IM.o F[i].1 wr HB.o);have HEi:=hid (Mr.o i hlt)
     have rL:Hid (ie F[i].1 Q=false ->∀j (hj:j<F.length),j<i+1 ->ie F[j].1 Q=false):=fun e j hj tR=>by
      rcases cD j i with h2 |h2
      ·exact HZ.o j hj h2
      ·obtain rfl:j=i:=by omega
       exact e
     clear k1;generalize ie F[i].1 Q=ib at *;generalize F[i].1=f1 at *;go_wp2_with fail
     refine HX.o.af ?_;rintro e w5 ⟨rfl,rfl⟩;clear HX k0;cases ib with
     |true=>
      have HR:=hid (HEi.o rfl);go_wp2;go_ret;exact⟨by rw[<- HR.o];rfl,HB.o⟩
     |false=>
      have HR:=hid (rL.o rfl);go_wp2;go_roundw
      case rel=>exact⟨i+1,by omega,by go_num,HR,HB⟩
      case measure=>simp[intOf];omega
    ·obtain rfl:i=F.length:=by omega
     have HR:=hid (HE6.o fun j hj=>HZ.o j hj hj);go_wp2;go_ret;exact⟨by rw[<- HR.o];rfl,HB.o⟩
  ·have HR:=hid (x8.o hc2);(have jA:(c2==0)=false:=by simpa using hc2);clear hc2 x8 x7 WI;go_wp2;go_ret;exact⟨by rw[<- HR.o];rfl,fV.o⟩
 ·have HR:=hid (fB.o fN);have jA:(fe==0)=false:=by simpa using fN
  clear fN fB dZ fQ WJ;go_wp2;go_ret;exact⟨by rw[<- HR.o];rfl,bc.o⟩
theorem afx {B:Nat} {v:Value} (h:cX w B v l):∃d cd,v=.slice d l.length cd/\ax w d l/\(d=none ->cd=0):=by
 rcases h.cases with ⟨rfl,rfl⟩ |⟨g,cap,rfl,_,hg,_,_,hh⟩
 ·exact⟨none,0,rfl,fun k hk=>absurd hk (by simp),fun _=>rfl⟩
 ·exact⟨_,_,rfl,EP hh hg fun j hj=>⟨by simpa using hj,by simp⟩,fun e=>by cases e⟩
theorem cR.tabA {t:Tb} (h:cR w x y t) (k:Int):qU t.1 t.2 k (.returned (.tuple #[.agg #[x,y],.int .i64 k])) w:=by
 obtain⟨b,c,cb,cc,rfl,rfl,h1,h2,_⟩:=h;exact⟨b,c,cb,cc,rfl,h1,h2⟩
theorem afU (a b c q f:Option Addr) (ca cb cc cq cf:Nat) (V:List Vr) (L:List (List Int)) (R:List (List Fr)) (Q:List Int) (F:List (Int×Int)) (w:World) (h:zk w a b c V L R) (hq:ax w q Q) (EO:q=none ->cq=0) (hQ:Q.length<=1000) (hF:jI w f F) (hn:F.length<=1000):
  Calls Tryz.prog 12 #[.agg #[.slice a V.length ca,.slice b L.length cb,.slice c R.length cc],.slice q Q.length cq,.slice f F.length cf] w fun e w'=>qU (jk V L R Q F).1 (jk V L R Q F).2 (km V L R Q F) e w'/\Below w.heap.size w w':=by
 have HAS:=hid (fun (U:World) (hU:Below w.heap.size w U)=>agf a b c q f ca cb cc cq cf V L R Q F U (h.net.aa hU) h.sm (hq.aa hU) hQ (hF.aa hU) hn)
 have Fh:iB V L R Q F=0 ->aW V L R=0/\F=zF (nF F)/\kW (ah V) V.length (nF F)/\Up Q V.length:=fun e=>by
  rw[iB] at e;by_cases h1:bP V L R F=0
  ·rw[ay h1] at e;obtain⟨e1,e2,e3⟩:=qh h1;by_cases h2:(gm (iL (ah V)) Q).2=0
   ·exact⟨e1,e2,e3,U5 h2⟩
   ·rw[az h2] at e;exact absurd e h2
  ·rw[az h1] at e;exact absurd e h1
 have xM:Hid (iB V L R Q F=0 ->∀U:World,Below w.heap.size w U ->Calls Tryz.prog 43 #[.agg #[.slice a V.length ca,.slice b L.length cb,.slice c R.length cc],.slice q Q.length cq,.slice f F.length cf] U fun e w'=>∃d cd,e=.returned (.slice d (dr V L R Q (nF F)).2.length cd)/\bZ w' d (dr V L R Q (nF F)).2/\Below U.heap.size U w'):=fun e U hU=>by
  obtain⟨h0,hz,hl,hu⟩:=Fh e;have h1:=hF.aa hU;rw[hz] at h1;have:=afM a b c q f ca cb cc cq cf V L R Q (nF F) U (h.net.aa hU) h.wt h0 h.lt (hq.aa hU) hu h1 hl (by rw[<- wu, <- hz];exact hn) (h.few h0);rw[<- wu, <- hz] at this;exact this
 have nT:Hid (iB V L R Q F=0 ->∀(d:Option Addr) (cd:Nat) (U:World),bZ U d (dr V L R Q (nF F)).2 ->Calls Tryz.prog 44 #[.slice d (dr V L R Q (nF F)).2.length cd] U fun e w'=>((aV (dr V L R Q (nF F)).2=0/\e=.returned (.tuple #[.slice none 0 0,.int .i64 3]))∨(aV (dr V L R Q (nF F)).2≠0/\∃d cd,e=.returned (.tuple #[.slice d (iu (dr V L R Q (nF F)).2).length cd,.int .i64 0])/\bZ w' d (iu (dr V L R Q (nF F)).2)))/\Below U.heap.size U w'):=fun e d cd U hU=>by
  obtain⟨h0,hz,hl,hu⟩:=Fh e;have h5:=Rb h0 hu (nF F) (h.few h0);exact afQ d cd _ U hU (Rc h0 h.lt Q (nF F)) (Ra h0 h.lt hu (nF F)) (by omega) h5.2
 have fB:Hid (iB V L R Q F≠0 ->km V L R Q F=iB V L R Q F/\jk V L R Q F=([],[])):=fun e=>by
  have e1:km V L R Q F=iB V L R Q F:=az e;exact⟨e1,by rw[jk,e1,az e]⟩
 have dZ:Hid (iB V L R Q F=0 ->aV (dr V L R Q (nF F)).2=0 ->km V L R Q F=3/\jk V L R Q F=([],[])):=fun e e2=>by
  have e1:km V L R Q F=3:=by rw[km,ay e,ay e2]
  exact⟨e1,by rw[jk,e1,az (by decide)]⟩
 have fQ:Hid (iB V L R Q F=0 ->aV (dr V L R Q (nF F)).2≠0 ->km V L R Q F=0/\jk V L R Q F=(Q,iu (dr V L R Q (nF F)).2)):=fun e e2=>by
  have e1:km V L R Q F=0:=by rw[km,ay e,az e2]
  exact⟨e1,by rw[jk,ay e1]⟩
 have HQ:=hid hq;have IA:=hid EO;generalize km V L R Q F=pe at *;generalize jk V L R Q F=pt at *;generalize iB V L R Q F=ae at *;generalize (dr V L R Q (nF F)).2=TT at *;clear h hq EO hF Fh
 have HA:Hid (Below w.heap.size w ((w.alloc (NC (.slice a V.length ca) (.slice b L.length cb) (.slice c R.length cc))).alloc (TC (.slice none 0 0) (.slice none 0 0)))):=by
  have h1:=(au w.heap.size w).alloc (ar _) (NC (.slice a V.length ca) (.slice b L.length cb) (.slice c R.length cc));exact h1.alloc h1.size _
 have mG:Hid (gX ((w.alloc (NC (.slice a V.length ca) (.slice b L.length cb) (.slice c R.length cc))).alloc (TC (.slice none 0 0) (.slice none 0 0))) w.heap.size (.slice a V.length ca) (.slice b L.length cb) (.slice c R.length cc)):=by
  have hN:=gX.at (w:=w) rfl (.slice a V.length ca) (.slice b L.length cb) (.slice c R.length cc);exact hN.aa ((au _ _).alloc (ar _) (TC (.slice none 0 0) (.slice none 0 0))) hN.lt
 have nU:Hid (bh ((w.alloc (NC (.slice a V.length ca) (.slice b L.length cb) (.slice c R.length cc))).alloc (TC (.slice none 0 0) (.slice none 0 0))) (w.heap.size+1) (.slice none 0 0) (.slice none 0 0)):=bh.at (w:=w.alloc (NC (.slice a V.length ca) (.slice b L.length cb) (.slice c R.length cc))) (by simp) _ _;obtain⟨n0,n1,n2⟩:=mG.o.cells;go_enter Tryz.func12,Tryz.ntmps12;go_wp2_with fail
 generalize ((w.alloc (NC (.slice a V.length ca) (.slice b L.length cb) (.slice c R.length cc))).alloc (TC (.slice none 0 0) (.slice none 0 0)))=W0 at *;refine(HAS.o W0 HA.o).af ?_;rintro e w2 ⟨rfl,hb2⟩;have bc:=hid (HA.o.trans (hb2.af HA.o.size));have fA:=hid (mG.o.aa hb2 mG.o.lt);have iT:=hid (nU.o.aa hb2 nU.o.lt);clear n0 n1 n2 hb2 HA mG nU HAS;by_cases sG:ae=0
 ·subst sG;have jZ:=hid (xM.o rfl w2 bc.o);have iR:=hid (nT.o rfl);have x8:=hid (dZ.o rfl);have x7:=hid (fQ.o rfl);obtain⟨n0,n1,n2⟩:=fA.o.cells;clear fB dZ fQ xM nT;go_wp2_with fail
  refine jZ.o.af ?_;rintro e w3 ⟨d3,Fq,rfl,hf3,hb3⟩;have dU:=hid (bc.o.trans (hb3.af bc.o.size));have jH:=hid (iT.o.aa hb3 iT.o.lt);have lO:=hid (iR.o d3 Fq w3 hf3);clear n0 n1 n2 hb3 bc iT fA jZ iR hf3;go_wp2_with fail
  refine lO.o.af ?_;rintro e w4 ⟨CS,hb4⟩;have fV:=hid (dU.o.trans (hb4.af dU.o.size));have js:=hid (jH.o.aa hb4 jH.o.lt);clear hb4 dU jH lO;rcases CS with ⟨hz,rfl⟩ |⟨hz,d4,xE,rfl,OB⟩
  ·obtain⟨q1,q2⟩:=x8.o hz;have gA:=hid q1;have fp:=hid q2;obtain⟨t0,t1,f0,f1⟩:=js.o.facts;have lR:=hid (js.o.put (.slice none 0 0) (.slice none 0 0));have kV:=hid (mr (g:=w.heap.size+1) fV.o (by omega) (.slice none 0 0) (.slice none 0 0));clear q1 q2 hz x8 x7;go_wp2;refine bB (lR.o.result2 rfl _ rfl) rfl ?_;exact⟨by rw[gA.o,fp.o];exact qU.empty 3 _,kV.o⟩
  ·obtain⟨q1,q2⟩:=x7.o hz;have gA:=hid q1;have fp:=hid q2;have nX:=hid OB;have OD:Below w4.heap.size w4 (w4.alloc (.cells #[] 3)):=(au _ w4).alloc (ar _) _;have FN:Hid (cX (w4.alloc (.cells #[] 3)) w4.heap.size (.slice (some ⟨w4.heap.size,0,none⟩) 0 0) []):=⟨rfl,.inr ⟨w4.heap.size,0, #[],rfl,ar _,kd _ _,ar _,aU _,rfl,rfl⟩⟩;have HIv:=hid ((HQ.o.aa fV.o).aa OD);have CD:w4.heap.size<=(w4.alloc (.cells #[] 3)).heap.size:=OD.size;have DR:=hid OD
   have HKY:Hid (∀(v':Value) (w5:World),cX w5 w4.heap.size v' Q ->(w4.alloc (.cells #[] 3)).grownBy w5 (Value.ownBlock (.slice (some ⟨w4.heap.size,0,none⟩) 0 0)) ->∃d5 vH,v'=.slice d5 Q.length vH/\cR w5 (.slice d5 Q.length vH) (.slice d4 (iu TT).length xE) (Q,iu TT)/\bh w5 (w.heap.size+1) (.slice none 0 0) (.slice none 0 0)/\Below w.heap.size w w5):=fun v' w5 hr hg=>by
    have hb5:Below w4.heap.size w4 w5:=DR.o.grown hg CD (fun k e=>by cases e;exact ar _);obtain⟨d5,vH,e5,Kq,h05⟩:=afx hr;exact⟨d5,vH,e5,⟨d5,d4,vH,xE,rfl,rfl,Kq,nX.o.aa hb5,h05⟩,js.o.aa hb5 js.o.lt,fV.o.trans (hb5.af fV.o.size)⟩
   clear q1 q2 hz x8 x7 OB OD;go_wp2_with (at_builtin;refine GF rfl _ _ rfl w4.heap.size _ [] Q rfl FN.o q cq rfl HIv.o IA.o (by simp;omega) CD ?_;intro v' w5 oC wV;rw[iD] at oC;obtain⟨d5,vH,rfl,uY,Ht,qP⟩:=HKY.o v' w5 oC wV;obtain⟨t0,t1,f0,f1⟩:=Ht.facts;have lR:=hid (Ht.put (.slice d5 Q.length vH) (.slice d4 (iu TT).length xE));have FA:=hid (uY.putT Ht (slv _ _ _) (slv _ _ _) (slv d5 Q.length vH) (.slice d4 (iu TT).length xE));have kV:=hid (mr (g:=w.heap.size+1) qP (by omega) (.slice d5 Q.length vH) (.slice d4 (iu TT).length xE));clear oC wV uY Ht qP)
   refine bB (lR.o.result2 rfl _ rfl) rfl ?_;exact⟨by rw[gA.o,fp.o];exact FA.o.tabA 0,kV.o⟩
 ·obtain⟨q1,q2⟩:=fB.o sG;have gA:=hid q1;have fp:=hid q2;have jA:(ae==0)=false:=by simpa using sG
  obtain⟨t0,t1,f0,f1⟩:=iT.o.facts;have lR:=hid (iT.o.put (.slice none 0 0) (.slice none 0 0));have kV:=hid (mr (g:=w.heap.size+1) bc.o (by omega) (.slice none 0 0) (.slice none 0 0));clear q1 q2 sG fB dZ fQ xM nT;go_wp2;refine bB (lR.o.result2 rfl _ rfl) rfl ?_;exact⟨by rw[gA.o,fp.o];exact qU.empty ae _,kV.o⟩
theorem aiV (a:Option Addr) (ca f:Nat) (lb:Array Value) (F:List Int) (p:Int ->Bool) (w:World) (h:ax w a F) (hn:F.length<=1000) (eF:∀args w,(callFunc f args).run Tryz.prog w=.ok (.enter f args) w)
  (hp:∀q∈F,∀U:World,Below w.heap.size w U ->Calls Tryz.prog f (#[.int .i64 q]++lb) U fun e w'=>e=.returned (.bool (p q))/\Below U.heap.size U w'):
  Calls Tryz.prog 83 #[.slice a F.length ca,.func (.func f) #[] lb] w fun e w'=>∃j:Int,e=.returned (.int .i64 j)/\decide (0<=j)=F.any p/\Below w.heap.size w w':=by
 have HF:=hid h;have HP:=hid hp
 have eQ:Hid ((∀i (hi:i<F.length),p F[i]=false) ->F.any p=false):=fun hh=>Ji.2 fun q hq=>by
  obtain⟨i,hi,rfl⟩:=iE hq;rw[hh i hi];decide
 have Dp:Hid (∀i (hi:i<F.length),p F[i]=true ->F.any p=true):=fun i hi hh=>rX.2 ⟨_,bH hi,hh⟩;clear h hp;generalize F.any p=R at *;go_enter Tryz.func83,Tryz.ntmps83;go_wp2_with fail
 go_loopw [8] (fun iv wr=>∃i:Nat,i<=F.length/\iv=.int .i64 i/\Hid (∀j (hj:j<F.length),j< i ->p F[j]=false)/\Hid (Below w.heap.size w wr)) (fun iv _=>F.length - (intOf iv).toNat)
 case atStart=>exact⟨0,aU _,rfl,(fun j _ hj=>absurd hj (by omega)),au _ _⟩
 case round=>
  obtain⟨i,hi,rfl,HN,HB⟩:=hrel;by_cases hlt:i<F.length
  ·obtain⟨g,o,rfl,hg,h0⟩:=HF.o i hlt;have k0:=(HB.o.cell (p:=⟨g,_,none⟩) hg).trans h0;have HC:=hid (HP.o F[i] (bH hlt) wr HB.o);have VG:=hid (Dp.o i hlt)
   have mE:Hid (p F[i]=false ->∀j (hj:j<F.length),j<i+1 ->p F[j]=false):=fun e j hj tR=>by
    rcases cD j i with h2 |h2
    ·exact HN.o j hj h2
    ·obtain rfl:j=i:=by omega
     exact e
   clear h0;generalize p F[i]=q at *;generalize F[i]=f1 at *;go_wp2_with fail
   refine HC.o.af ?_;rintro e w2 ⟨rfl,hb2⟩;have bc:=hid (HB.o.trans (hb2.af HB.o.size));clear hb2 HC;cases q with
   |true=>
    have HE:=hid (VG.o rfl);go_wp2;go_ret;exact⟨(i:Nat),rfl,by rw[HE.o];simp,bc.o⟩
   |false=>
    have HE:=hid (mE.o rfl);go_wp2;go_roundw
    case rel=>exact⟨i+1,by omega,by go_num,HE,bc⟩
    case measure=>simp[intOf];omega
  ·obtain rfl:i=F.length:=by omega
   have HE:=hid (eQ.o fun j hj=>HN.o j hj hj);go_wp2;go_ret;exact⟨-1,rfl,by rw[HE.o];rfl,HB.o⟩
theorem alz (a:Option Addr) (ca f:Nat) (lb:Array Value) (F:List Int) (p:Int ->Bool) (w:World) (h:ax w a F) (hn:F.length<=1000) (eF:∀args w,(callFunc f args).run Tryz.prog w=.ok (.enter f args) w)
  (hp:∀q∈F,∀U:World,Below w.heap.size w U ->Calls Tryz.prog f (#[.int .i64 q]++lb) U fun e w'=>e=.returned (.bool (p q))/\Below U.heap.size U w'):
  Calls Tryz.prog 38 #[.slice a F.length ca,.func (.func f) #[] lb] w fun e w'=>e=.returned (.bool (F.any p))/\Below w.heap.size w w':=by
 have HI:=hid (aiV a ca f lb F p w h hn eF hp);clear h hp;generalize F.any p=R at *;go_enter Tryz.func38,Tryz.ntmps38;go_wp2_with fail
 refine HI.o.af ?_;rintro e w2 ⟨j,rfl,hj,hb2⟩;have HB:=hid hb2;have HJ:=hid hj;clear hb2 hj;go_wp2;go_ret;exact⟨by rw[<- HJ.o];rfl,HB.o⟩
theorem agt (a:Option Addr) (ca:Nat) (F:List (Int×Int)) (v:Int) (B:Nat) (w:World) (h:jI w a F) (hn:F.length<=1000) (hc:w.cell? ⟨B,0,none⟩=some (.slice a F.length ca)):
  Calls Tryz.prog 39 #[.int .i64 v,.pointer (some ⟨B,0,none⟩)] w fun e w'=>e=.returned (.bool (F.any fun p=>p.1==v))/\Below w.heap.size w w':=by
 have HI:=hid (aaL a ca F v w h hn);clear h;generalize (F.any fun p=>p.1==v)=R at *;go_enter Tryz.func39,Tryz.ntmps39;go_wp2_with fail
 refine HI.o.af ?_;rintro e w2 ⟨rfl,hb2⟩;have HB:=hid hb2;clear hb2;go_wp2;go_ret;exact⟨rfl,HB.o⟩
theorem aiY (a b c q f:Option Addr) (ca cb cc cq cf:Nat) (V:List Vr) (L:List (List Int)) (R:List (List Fr)) (Q:List Int) (F:List (Int×Int)) (w:World) (h:zk w a b c V L R) (hq:ax w q Q) (hQ:Q.length<=1000) (hF:jI w f F) (hn:F.length<=1000) (vt:F.length<=cf):
  Calls Tryz.prog 11 #[.agg #[.slice a V.length ca,.slice b L.length cb,.slice c R.length cc],.slice q Q.length cq,.slice f F.length cf] w fun e w'=>qU (jk V L R Q F).1 (jk V L R Q F).2 (km V L R Q F) e w'/\Below w.heap.size w w':=by
 have oZ:=hid (fun (U:World) (hU:Below w.heap.size w U)=>SZ a b c f ca cb cc cf V L R F U (h.net.aa hU) h.sm (hF.aa hU) hn vt);have fT:=hid (fun (U:World) (hU:Below w.heap.size w U)=>NX a b c ca cb cc L.length R.length V U (h.net.aa hU).vars h.sm.vars.1)
 have DM:Hid (∀(G:Nat) (U:World),Below w.heap.size w U ->bV U G (ah V) ->Calls Tryz.prog 37 #[.slice (some ⟨G,0,none⟩) V.length V.length,.slice q Q.length cq] U fun e w'=>e=.returned (.tuple #[.int .i64 (gm (iL (ah V)) Q).1,.int .i64 (gm (iL (ah V)) Q).2])/\Below U.heap.size U w'):=fun G U hU hi=>by
  have bJ:(iL (ah V)).length=V.length:=by rw[ba,gR]
  have uY:=h.sm.vars.1;have:=Nc (some ⟨G,0,none⟩) q V.length cq (iL (ah V)) Q U hi.ints (hq.aa hU) (by rw[bJ];omega) (by omega);rwa [bJ] at this
 have HCF:Hid (∀(B:Nat) (U:World),Below w.heap.size w U ->B<U.heap.size ->U.cell? ⟨B,0,none⟩=some (.slice f F.length cf) ->Calls Tryz.prog 38 #[.slice q Q.length cq,.func (.func 39) #[] #[.pointer (some ⟨B,0,none⟩)]] U fun e w'=>e=.returned (.bool (F.any fun p=>ie p.1 Q))/\Below U.heap.size U w'):=fun B U hU hB hc=>by
  rw[amN];exact alz q cq 39 #[.pointer (some ⟨B,0,none⟩)] Q (fun v=>F.any fun p=>p.1==v) U (hq.aa hU) hQ (enters_of Tryz.func39 (by kernel_rfl) rfl) (fun v _ U' CZ=>agt f cf F v B U' ((hF.aa hU).aa CZ) hn ((CZ.cell (p:=⟨B,0,none⟩) hB).trans hc))
 have Fh:bP V L R F=0 ->(gm (iL (ah V)) Q).2=0 ->aW V L R=0/\F=zF (nF F)/\kW (ah V) V.length (nF F)/\Up Q V.length:=fun e e2=>by
  obtain⟨e1,e3,e4⟩:=qh e;exact⟨e1,e3,e4,U5 e2⟩
 have xM:Hid (bP V L R F=0 ->(gm (iL (ah V)) Q).2=0 ->(F.any fun p=>ie p.1 Q)=false ->∀U:World,Below w.heap.size w U ->Calls Tryz.prog 33 #[.agg #[.slice a V.length ca,.slice b L.length cb,.slice c R.length cc],.slice q Q.length cq,.slice f F.length cf] U fun e w'=>∃x y,e=.returned (.agg #[x,y])/\cR w' x y (dr V L R Q (nF F))/\Below U.heap.size U w'):=fun e e2 e3 U hU=>by
  obtain⟨h0,hz,hl,hu⟩:=Fh e e2;have h1:=hF.aa hU;rw[hz] at h1 e3;have CY:=h.aa hU;have:=aaR a b c q f ca cb cc cq cf V L R Q (nF F) U CY.net CY.ls h.sm h.wt h0 h.lt (hq.aa hU) hu h1 hl (amL hu e3) (fun U' CZ=>Pn a b c ca cb cc V L R U' CZ h.sm);rw[<- wu, <- hz] at this;exact this
 have eQ:Hid (bP V L R F=0 ->(gm (iL (ah V)) Q).2=0 ->(F.any fun p=>ie p.1 Q)=false ->∀(G:Nat) (x y:Value) (U:World),bV U G (ah V) ->cR U x y (dr V L R Q (nF F)) ->Calls Tryz.prog 41 #[.slice (some ⟨G,0,none⟩) V.length V.length,.agg #[x,y]] U fun e w'=>qU (jk V L R Q F).1 (jk V L R Q F).2 (km V L R Q F) e w'/\Below U.heap.size U w'):=fun e e2 e3 G x y U hi hv=>by
  obtain⟨h0,hz,hl,hu⟩:=Fh e e2;have bJ:(iL (ah V)).length=V.length:=by rw[ba,gR]
  have h8:=(gD h0).n8;have h5:=Rb h0 hu (nF F) (h.few h0);have hck:=ad9 h0 hu (nF F);obtain⟨b',c',fD,kp,rfl,rfl,h1,h2,_⟩:=hv;have sG:iB V L R Q F=0:=by rw[iB,ay e,ay e2,az (by rw[e3];decide)]
  by_cases hfz:aV (dr V L R Q (nF F)).2=0
  ·have e1:km V L R Q F=3:=by rw[km,ay sG,ay hfz]
   (have e5:jk V L R Q F=([],[]):=by rw[jk,e1,az (by decide)]);rw[e1,e5];have:=aey (some ⟨G,0,none⟩) b' c' V.length fD kp (iL (ah V)) Q (dr V L R Q (nF F)).2 U hi.ints h1 h2 (by rw[bJ];omega) (by omega) hck (Rc h0 h.lt Q (nF F)) (Ra h0 h.lt hu (nF F)) (by omega) hfz;rwa [bJ] at this
  ·have e1:km V L R Q F=0:=by rw[km,ay sG,az hfz]
   (have e5:jk V L R Q F=(Q,iu (dr V L R Q (nF F)).2):=by rw[jk,ay e1]);rw[e1,e5];have:=aez (some ⟨G,0,none⟩) b' c' V.length fD kp (iL (ah V)) Q (dr V L R Q (nF F)).2 U hi.ints h1 h2 (by rw[bJ];omega) (by omega) hck (Rc h0 h.lt Q (nF F)) (Ra h0 h.lt hu (nF F)) (by omega) hfz;rwa [bJ] at this
 have HE:Hid (∀k,iB V L R Q F=k ->k≠0 ->km V L R Q F=k/\jk V L R Q F=([],[])):=fun k e e2=>by
  have e1:km V L R Q F=k:=by rw[km,az (by rw[e];exact e2),e]
  exact⟨e1,by rw[jk,e1,az e2]⟩
 have fB:Hid (bP V L R F≠0 ->iB V L R Q F=bP V L R F):=fun e=>az e;have dZ:Hid (bP V L R F=0 ->(gm (iL (ah V)) Q).2≠0 ->iB V L R Q F=(gm (iL (ah V)) Q).2):=fun e e2=>by rw[iB,ay e,az e2]
 have fQ:Hid (bP V L R F=0 ->(gm (iL (ah V)) Q).2=0 ->(F.any fun p=>ie p.1 Q)=true ->iB V L R Q F=7):=fun e e2 e3=>by rw[iB,ay e,ay e2,ay e3]
 generalize km V L R Q F=pe at *;generalize jk V L R Q F=pt at *;generalize iB V L R Q F=ae at *;generalize dr V L R Q (nF F)=TT at *;generalize bP V L R F=fe at *;generalize (F.any fun p=>ie p.1 Q)=fq at *;clear h hq hF Fh vt;have Dc:=(au w.heap.size w).alloc (ar _) (NC (.slice a V.length ca) (.slice b L.length cb) (.slice c R.length cc));have Uz:=Dc.alloc Dc.size (.cells #[.slice f F.length cf] 28);have HA:=hid (Uz.alloc Uz.size (TC (.slice none 0 0) (.slice none 0 0)));have hs1:(w.alloc (NC (.slice a V.length ca) (.slice b L.length cb) (.slice c R.length cc))).heap.size=w.heap.size+1:=by simp
 have hs2:((w.alloc (NC (.slice a V.length ca) (.slice b L.length cb) (.slice c R.length cc))).alloc (.cells #[.slice f F.length cf] 28)).heap.size=w.heap.size+1+1:=by simp
 have mG:Hid (gX (((w.alloc (NC (.slice a V.length ca) (.slice b L.length cb) (.slice c R.length cc))).alloc (.cells #[.slice f F.length cf] 28)).alloc (TC (.slice none 0 0) (.slice none 0 0))) w.heap.size (.slice a V.length ca) (.slice b L.length cb) (.slice c R.length cc)):=by
  have hN:=gX.at (w:=w) rfl (.slice a V.length ca) (.slice b L.length cb) (.slice c R.length cc);have E8:=hN.aa ((au _ _).alloc (ar _) (.cells #[.slice f F.length cf] 28)) hN.lt;exact E8.aa ((au _ _).alloc (ar _) (TC (.slice none 0 0) (.slice none 0 0))) E8.lt
 have zr:Hid (Boxed (((w.alloc (NC (.slice a V.length ca) (.slice b L.length cb) (.slice c R.length cc))).alloc (.cells #[.slice f F.length cf] 28)).alloc (TC (.slice none 0 0) (.slice none 0 0))) (w.heap.size+1) 28 (.slice f F.length cf)):=by
  have:=(a7 (w.alloc (NC (.slice a V.length ca) (.slice b L.length cb) (.slice c R.length cc))) 28 (.slice f F.length cf)).alloc (TC (.slice none 0 0) (.slice none 0 0));rwa [hs1] at this
 have nU:Hid (bh (((w.alloc (NC (.slice a V.length ca) (.slice b L.length cb) (.slice c R.length cc))).alloc (.cells #[.slice f F.length cf] 28)).alloc (TC (.slice none 0 0) (.slice none 0 0))) (w.heap.size+1+1) (.slice none 0 0) (.slice none 0 0)):=bh.at (w:=(w.alloc (NC (.slice a V.length ca) (.slice b L.length cb) (.slice c R.length cc))).alloc (.cells #[.slice f F.length cf] 28)) hs2 _ _;obtain⟨n0,n1,n2⟩:=mG.o.cells;have x0:=zr.o.cell;clear Dc Uz hs1 hs2;go_enter Tryz.func11,Tryz.ntmps11;go_wp2_with fail
 generalize (((w.alloc (NC (.slice a V.length ca) (.slice b L.length cb) (.slice c R.length cc))).alloc (.cells #[.slice f F.length cf] 28)).alloc (TC (.slice none 0 0) (.slice none 0 0)))=W0 at *;refine(oZ.o W0 HA.o).af ?_;rintro e w2 ⟨rfl,hb2⟩;have bc:=hid (HA.o.trans (hb2.af HA.o.size));have fA:=hid (mG.o.aa hb2 mG.o.lt);have sR:=hid (aZ zr.o hb2);have iT:=hid (nU.o.aa hb2 nU.o.lt);clear n0 n1 n2 x0 hb2 HA mG zr nU oZ;by_cases fN:fe=0
 ·subst fN;have jZ:=hid (xM.o rfl);have Dy:=hid (eQ.o rfl);have x8:=hid (dZ.o rfl);have x7:=hid (fQ.o rfl);obtain⟨n0,n1,n2⟩:=fA.o.cells;clear fB dZ fQ xM eQ;go_wp2_with fail
  refine(fT.o w2 bc.o).af ?_;rintro e w3 ⟨G,rfl,hG,hrow,hb3⟩;have dU:=hid (bc.o.trans (hb3.af bc.o.size));have BD:=hid (fA.o.aa hb3 fA.o.lt);have lO:=hid (aZ sR.o hb3);have jH:=hid (iT.o.aa hb3 iT.o.lt);have HC3:=hid (DM.o G w3 dU.o hrow);have ri:=hid hrow;clear n0 n1 n2 hb3 hrow hG bc fA sR iT fT DM;generalize (gm (iL (ah V)) Q).1=c1 at *;generalize (gm (iL (ah V)) Q).2=c2 at *;go_wp2_with fail
  refine HC3.o.af ?_;rintro e w4 ⟨rfl,hb4⟩;have fV:=hid (dU.o.trans (hb4.af dU.o.size));have uA:=hid (BD.o.aa hb4 BD.o.lt);have Bu:=hid (aZ lO.o hb4);have js:=hid (jH.o.aa hb4 jH.o.lt);have WC:=hid (ri.o.aa hb4 ri.o.lt);clear hb4 dU BD lO jH ri HC3;by_cases hc2:c2=0
  ·subst hc2;have VT:=hid (jZ.o rfl);have Wc:=hid (Dy.o rfl);have Mr:=hid (x7.o rfl);have nX:=hid (HCF.o (w.heap.size+1) w4 fV.o Bu.o.lt Bu.o.cell);clear x8 x7 jZ Dy HCF;go_wp2_with fail
   refine nX.o.af ?_;rintro e w5 ⟨rfl,hb5⟩;have eD:=hid (fV.o.trans (hb5.af fV.o.size));have BC:=hid (uA.o.aa hb5 uA.o.lt);have qp:=hid (aZ Bu.o hb5);have sW:=hid (js.o.aa hb5 js.o.lt);have x4:=hid (WC.o.aa hb5 WC.o.lt);clear hb5 fV uA Bu js WC nX;cases fq with
   |true=>
    obtain⟨q1,q2⟩:=HE.o 7 (Mr.o rfl) (by decide);have gA:=hid q1;have fp:=hid q2;obtain⟨t0,t1,f0,f1⟩:=sW.o.facts;have lR:=hid (sW.o.put (.slice none 0 0) (.slice none 0 0));have kV:=hid (mr (g:=w.heap.size+1+1) eD.o (by omega) (.slice none 0 0) (.slice none 0 0));clear q1 q2 HE Mr VT Wc;go_wp2;refine bB (lR.o.result2 rfl _ rfl) rfl ?_;exact⟨by rw[gA.o,fp.o];exact qU.empty 7 _,kV.o⟩
   |false=>
    have vP:=hid (VT.o rfl w5 eD.o);have L8:=hid (Wc.o rfl);obtain⟨n0,n1,n2⟩:=BC.o.cells;have x0:=qp.o.cell;clear HE Mr VT Wc;go_wp2_with fail
    refine vP.o.af ?_;rintro e w6 ⟨x,y,rfl,yM,bD⟩;have IY:=hid (eD.o.trans (bD.af eD.o.size));have V5:=hid (sW.o.aa bD sW.o.lt);have Dr:=hid (L8.o G x y w6 (x4.o.aa bD x4.o.lt) yM);obtain⟨xs,xn,xc,rfl⟩:=yM.slices.1;obtain⟨ys,yn,yc,rfl⟩:=yM.slices.2;clear n0 n1 n2 x0 yM bD eD BC qp sW x4 vP L8;go_wp2_with fail
    refine Dr.o.af ?_;rintro e w7 ⟨⟨b7,c7,Lj,Li,rfl,wT,hf7⟩,bK⟩;have tV:=V5.o.aa bK V5.o.lt;have mo:=IY.o.trans (bK.af IY.o.size);obtain⟨t0,t1,f0,f1⟩:=tV.facts;have lR:=hid (tV.put (.slice b7 pt.1.length Lj) (.slice c7 pt.2.length Li));have BM:=hid (wT.putT tV (slv _ _ _) (slv _ _ _) (slv b7 pt.1.length Lj) (.slice c7 pt.2.length Li));have HF9:=hid (hf7.putT tV (slv _ _ _) (slv _ _ _) (slv b7 pt.1.length Lj) (.slice c7 pt.2.length Li));have kV:=hid (mr (g:=w.heap.size+1+1) mo (by omega) (.slice b7 pt.1.length Lj) (.slice c7 pt.2.length Li));clear wT hf7 bK tV mo Dr V5 IY;go_wp2;refine bB (lR.o.result2 rfl _ rfl) rfl ?_;exact⟨⟨b7,c7,Lj,Li,rfl,BM.o,HF9.o⟩,kV.o⟩
  ·obtain⟨q1,q2⟩:=HE.o c2 (x8.o hc2) hc2;have gA:=hid q1;have fp:=hid q2;(have jA:(c2==0)=false:=by simpa using hc2);obtain⟨t0,t1,f0,f1⟩:=js.o.facts;have lR:=hid (js.o.put (.slice none 0 0) (.slice none 0 0));have kV:=hid (mr (g:=w.heap.size+1+1) fV.o (by omega) (.slice none 0 0) (.slice none 0 0));clear q1 q2 hc2 HE x8 x7 jZ Dy;go_wp2;refine bB (lR.o.result2 rfl _ rfl) rfl ?_;exact⟨by rw[gA.o,fp.o];exact qU.empty c2 _,kV.o⟩
 ·obtain⟨q1,q2⟩:=HE.o fe (fB.o fN) fN;have gA:=hid q1;have fp:=hid q2;have jA:(fe==0)=false:=by simpa using fN
  obtain⟨t0,t1,f0,f1⟩:=iT.o.facts;have lR:=hid (iT.o.put (.slice none 0 0) (.slice none 0 0));have kV:=hid (mr (g:=w.heap.size+1+1) bc.o (by omega) (.slice none 0 0) (.slice none 0 0));clear q1 q2 fN HE fB dZ fQ xM eQ;go_wp2;refine bB (lR.o.result2 rfl _ rfl) rfl ?_;exact⟨by rw[gA.o,fp.o];exact qU.empty fe _,kV.o⟩
variable {F:(Nat ->Nat) ->Rat} {f:Nat ->Nat}
theorem Mx.put {m:Rat} {l:List (Nat×Nat)} (hn:(l.map (·.1)).Nodup) (hx:∀p∈l,p.2<sz S p.1) (hd:∀u∈vs,¬u∈l.map (·.1)) (hf:Fit S f) (h:Mx S vs (fun g=>F (cY l g)) f m):Mx S vs F (cY l f) m:=by
 have hkey:∀g u,u∈l.map (·.1) ->cY l g u=cY l f u:=fun g u hu=>by
  obtain⟨p,hp,rfl⟩:=bs.1 hu;rw[G0 hn hp,G0 hn hp]
 obtain⟨⟨g,h1,h2,h3⟩,h4⟩:=h;refine⟨⟨cY l g,Nr hx h1,fun u hu=>?_,h3⟩,fun g hg ha=>?_⟩
 ·by_cases hk:u∈l.map (·.1)
  ·exact hkey g u hk
  ·rw[Cr hk,Cr hk];exact h2 u hu
 ·have e:cY l (fun u=>if u∈l.map (·.1) then f u else g u)=g:=funext fun u=>by
   by_cases hk:u∈l.map (·.1)
   ·rw[hkey _ u hk, <- ha u fun hv=>hd u hv hk]
   ·rw[Cr hk,az hk]
  have:=h4 (fun u=>if u∈l.map (·.1) then f u else g u) (fun u=>by
   show (if u∈l.map (·.1) then f u else g u)<sz S u;split
   ·exact hf u
   ·exact hg u) (fun u hu=>by
   show (if u∈l.map (·.1) then f u else g u)=f u;split
   ·rfl
   ·rename_i hk
    rw[ha u hu,Cr hk])
  have h5:F (cY l fun u=>if u∈l.map (·.1) then f u else g u)<=m:=this;rwa [e] at h5
def gG (V:List Vr) (L:List (List Int)) (R:List (List Fr)) (ws:List Nat) (l:List (Nat×Nat)) (q:List Int):Tb:=allT (ah V) (iX (ah V) true (fun u=>q.contains (u:Int)) (fC ws l) (ko (ah V) l (gT V L R ws)))
def pF (V:List Vr) (L:List (List Int)) (R:List (List Fr)) (g:Nat ->Nat):Rat:=ji V L R g V.length
theorem NY (h0:aW V L R=0) (hw:ws.Perm (List.range V.length)) (hc:lT L (·∈ws)) {l:List (Nat×Nat)} (hl:kW (ah V) V.length l) {q:List Int} (hq:Up q V.length) (AW:∀v∈ag q,¬v∈l.map (·.1)):
  di (ah V) V.length (gG V L R ws l q)/\(gG V L R ws l q).1=q/\∃M:Nat ->Rat,(gG V L R ws l q).2=(List.range (cnt (ah V) (ag q))).map (fun K=>qF (M K))/\∀K,K<cnt (ah V) (ag q) ->Mx (ah V) ((List.range V.length).filter fun u=>!(l.map (·.1)).contains u&&!(ag q).contains u) (pF V L R) (cY l (aO (ah V) (ag q) K)) (M K):=by
 have hp:=mi h0;have hlt:∀v∈ws,v<V.length:=fun v hv=>bG.1 (hw.mem_iff.1 hv);have e1:(fun v:Nat=>q.contains (v:Int))=fun v=>(ag q).contains v:=funext (Zh hq);have eN:PI (ah V) V.length (fC ws l) (ko (ah V) l (gT V L R ws)) (fun g=>dA V L R (cY l g) ws):=(PI.net h0 hlt hc).fixes hp hl.nd hl.val;have nB:NN (ah V) (ko (ah V) l (gT V L R ws)):=NN.fixes hp hl.val (PI.net h0 hlt hc).ok (NN.net h0 hlt);obtain⟨free',hf,qN,_⟩:=PI.mosts hp (fun v=>(ag q).contains v) (fC ws l) eN nB
 have hfr:∀u,u∈free'↔u∈ag q:=fun u=>by
  rw[hf u,yK];constructor
  ·rintro⟨⟨a,b⟩,c⟩;exact lh.1 (c ⟨a,b⟩)
  ·intro h;exact⟨⟨hw.mem_iff.2 (bG.2 (hq.aa u h)),AW u h⟩,fun _=>lh.2 h⟩
 have ha:=xH hp qN.ok
 have hv:(allT (ah V) (iX (ah V) true (fun v=>(ag q).contains v) (fC ws l) (ko (ah V) l (gT V L R ws)))).1=q:=by
  refine XI ha.1.up hq fun u=>?_;rw[ha.2.1 u, <- hfr u];exact⟨fun ⟨t,ht,hu⟩=>qN.sub t ht u hu,fun h=>qN.sup u h⟩
 rw[gG,e1];refine⟨ha.1,hv,fun K=>elimM (ah V) ((fC ws l).filter fun v=>!(ag q).contains v) (fun g=>dA V L R (cY l g) ws) (aO (ah V) (ag q) K),?_,fun K hK=>?_⟩
 ·rw[Rh hp ha.1 (Vq _ _),hv];refine rq fun K hK=>?_;have hK':=bG.1 hK;rw[ha.2.2 _ (fun u=>nN hp _ _ u hK'),qN.val _ (fun u=>nN hp _ _ u hK')]
 ·have oJ:Fit (ah V) (aO (ah V) (ag q) K):=fun u=>nN hp _ _ u hK;have h1:=acj hp ((fC ws l).filter fun v=>!(ag q).contains v) (fun g=>dA V L R (cY l g) ws) (aO (ah V) (ag q) K) oJ;have h2:=Mx.put (F:=fun g=>dA V L R g ws) hl.nd hl.val (fun u hu=>(yK.1 (c4.1 hu).1).2) oJ h1;have e2:(fun g=>dA V L R g ws)=pF V L R:=funext fun g=>by rw[pF,JN,RX hw]
  rw[e2] at h2;refine h2.same fun u=>?_;rw[c4,c4,yK,hw.mem_iff,ia,Ag, <- yr,lh,Ag, <- yr,lh];exact⟨fun h=>⟨h.1.1,h.1.2,h.2⟩,fun h=>⟨⟨h.1,h.2.1⟩,h.2.2⟩⟩
def cj (V:List Vr) (L:List (List Int)) (R:List (List Fr)) (ws:List Nat) (l:List (Nat×Nat)):Nat ->List (Nat×Nat)
 |0=>l
 |k+1=>if (l.map (·.1)).contains k then cj V L R ws l k else cj V L R ws l k++[(k,gM (gG V L R ws (cj V L R ws l k) [(k:Int)]).2 ((gG V L R ws (cj V L R ws l k) [(k:Int)]).2.length - 1))]
theorem Ia {l:List (Nat×Nat)}:∀(k u:Nat),u∈(cj V L R ws l k).map (·.1)↔u∈l.map (·.1)∨u<k
 |0,u=>by rw[cj];exact⟨.inl,fun h=>h.resolve_right (Cc _)⟩
 |k+1,u=>by
  rw[cj];by_cases hk:(l.map (·.1)).contains k=true
  ·rw[ay hk,Ia k u];have:=lh.1 hk;constructor
   ·rintro(h |h)
    ·exact .inl h
    ·exact .inr (by omega)
   ·rintro(h |h)
    ·exact .inl h
    ·by_cases e:u=k
     ·subst e;exact .inl this
     ·exact .inr (by omega)
  ·rw[az hk,fY,dz,Ia k u];simp only[gQ,ld,fX];constructor
   ·rintro((h |h) |h)
    ·exact .inl h
    ·exact .inr (by omega)
    ·exact .inr (by omega)
   ·rintro(h |h)
    ·exact .inl (.inl h)
    ·by_cases e:u=k
     ·exact .inr e
     ·exact .inl (.inr (by omega))
theorem NT (h:k<n):Up [(k:Int)] n:=pV.2 ⟨fun x hx=>by
  rw[fX.1 hx];omega,List.pairwise_singleton _ _⟩
theorem Cl (k:Nat):ag [(k:Int)]=[k]:=by simp[ag]
theorem Pj (S:List Nat) (k:Nat):cnt S [k]=sz S k:=by rw[cnt,cnt,mN]
theorem Vc {l:List (Nat×Nat)} (hk:(l.map (·.1)).contains k=false):¬k∈(cj V L R ws l k).map (·.1):=fun h=>by
 rcases (Ia k k).1 h with h1 |h1
 ·rw[lh.2 h1] at hk;cases hk
 ·omega
theorem Pq (h0:aW V L R=0) (hw:ws.Perm (List.range V.length)) (hc:lT L (·∈ws)) {l:List (Nat×Nat)} (hl:kW (ah V) V.length l):∀k,k<=V.length ->kW (ah V) V.length (cj V L R ws l k)
 |0,_=>hl
 |k+1,hk=>by
  have ih:=Pq h0 hw hc hl k (by omega);rw[cj];cases dX:(l.map (·.1)).contains k with
  |true=>rw[ay rfl];exact ih
  |false=>
   rw[az (by decide)];have hnew:=Vc (V:=V) (L:=L) (R:=R) (ws:=ws) dX;obtain⟨_,_,M,hM,_⟩:=NY h0 hw hc ih (NT (show k<V.length by omega)) (fun v hv=>by rw[Cl,fX] at hv;subst hv;exact hnew);(have hlen:(gG V L R ws (cj V L R ws l k) [(k:Int)]).2.length=sz (ah V) k:=by rw[hM,c5,lY,Cl,Pj]);have hs:=im (mi h0) k;refine⟨?_,fun p hp=>?_,fun p hp=>?_⟩
   ·rw[fY];refine Gq.2 ⟨ih.nd,List.pairwise_singleton _ _,fun x hx y hy e=>?_⟩;subst e;rw[gQ,ld,fX] at hy;have e2:x=k:=hy;exact hnew (e2▸hx)
   ·rcases dz.1 hp with h |h
    ·exact ih.lt p h
    ·rw[fX.1 h];show k<V.length;omega
   ·rcases dz.1 hp with h |h
    ·exact ih.val p h
    ·rw[fX.1 h];have:=Ib (gG V L R ws (cj V L R ws l k) [(k:Int)]).2 ((gG V L R ws (cj V L R ws l k) [(k:Int)]).2.length - 1);show gM _ _<sz (ah V) k;omega
theorem amK (S:List Nat) (k y:Nat):aO S [k] y=aQ (fun _=>0) k y:=funext fun u=>by
 rw[aO,aQ];by_cases h:u=k
 ·rw[ay h,ay h,cnt,Ce]
 ·rw[az h,az h];rfl
theorem acO (h0:aW V L R=0) (hw:ws.Perm (List.range V.length)) (hc:lT L (·∈ws)) {l:List (Nat×Nat)} (hl:kW (ah V) V.length l):∀d k,k+d=V.length ->rP (ah V) ((List.range V.length).drop k) (fun v=>!(l.map (·.1)).contains v) (pF V L R) (cY (cj V L R ws l k) fun _=>0) (cY (cj V L R ws l V.length) fun _=>0)
 |0,k,hk=>by
  obtain rfl:k=V.length:=by omega
  rw[List.drop_eq_nil_of_le (by simp)];exact rP.nil (Nr (Pq h0 hw hc hl _ (ar _)).val fun u=>im (mi h0) u)
 |d+1,k,hk=>by
  have hkn:k<V.length:=by omega
  have ih:=acO h0 hw hc hl d (k+1) (by omega);have aM:=Pq h0 hw hc hl k (by omega)
  have ed:(List.range V.length).drop k=k::(List.range V.length).drop (k+1):=by
   rw[mS (by simp;exact hkn),qH]
  have iZ:¬k∈(List.range V.length).drop (k+1):=fun h=>by
   obtain⟨i,hi,e⟩:=iE h;rw[Jg,qH] at e;omega
  rw[ed];cases dX:(l.map (·.1)).contains k with
  |true=>
   rw[cj,ay dX] at ih;exact ih.known (by rw[dX];rfl)
  |false=>
   have hnew:=Vc (V:=V) (L:=L) (R:=R) (ws:=ws) dX;obtain⟨_,_,M,hM,KQ⟩:=NY h0 hw hc aM (NT hkn) (fun v hv=>by rw[Cl,fX] at hv;subst hv;exact hnew);rw[Cl] at hM KQ;rw[Pj] at hM KQ;(have hlen:(gG V L R ws (cj V L R ws l k) [(k:Int)]).2.length=sz (ah V) k:=by rw[hM,c5,lY]);have hs:=im (mi h0) k
   have OC:∀y,y<sz (ah V) k ->aT (bA (gG V L R ws (cj V L R ws l k) [(k:Int)]).2 y)=M y:=fun y hy=>by
    rw[pz (by omega)];(have:(gG V L R ws (cj V L R ws l k) [(k:Int)]).2[y]'(by omega)=qF (M y):=by simp[hM]);rw[this,qQ]
   have CA:=acP (gG V L R ws (cj V L R ws l k) [(k:Int)]).2 ((gG V L R ws (cj V L R ws l k) [(k:Int)]).2.length - 1);have aom:=Ib (gG V L R ws (cj V L R ws l k) [(k:Int)]).2 ((gG V L R ws (cj V L R ws l k) [(k:Int)]).2.length - 1);rw[cj,az (by rw[dX];decide),Nt] at ih;refine rP.chosen (M:=M) (x:=gM (gG V L R ws (cj V L R ws l k) [(k:Int)]).2 ((gG V L R ws (cj V L R ws l k) [(k:Int)]).2.length - 1)) (fun y hy=>?_) (by omega) (fun y hy=>?_) (fun y hy=>?_) iZ ih (by rw[dX];rfl)
   ·have h1:=KQ y hy;rw[amK,Ns (fun p hp e=>hnew (bs.2 ⟨p,hp,e⟩))] at h1;refine h1.same fun u=>?_;rw[c4,c4,ia,Ag, <- yr,lh,Ag, <- yr,lh,Ag, <- yr,lh,bG,Ia,fX]
    have hdr:u∈(List.range V.length).drop (k+1)↔k<u/\u<V.length:=by
     constructor
     ·intro h;obtain⟨i,hi,e⟩:=iE h;rw[mR,lY] at hi;rw[Jg,qH] at e;omega
     ·rintro⟨a,b⟩
      have:(List.range V.length).drop (k+1)=(List.range (V.length - (k+1))).map (k+1+·):=by
       refine pS (by simp) fun i h1 h2=>?_;rw[Jg,qH,og,qH]
      rw[this,bs];exact⟨u - (k+1),bG.2 (by omega),by omega⟩
    rw[hdr];constructor
    ·rintro⟨a,b,c⟩
     exact⟨⟨Nat.lt_of_not_le fun hle=>by
      rcases cD u k with h |h
      ·exact b (.inr h)
      ·exact c (by omega),a⟩,fun h=>b (.inl h)⟩
    ·rintro⟨⟨a,a2⟩,b⟩;exact⟨a2,fun h=>h.elim b fun h=>by omega,by omega⟩
   ·have h1:=CA.1 y (by omega);rwa [OC y hy,OC _ (by omega)] at h1
   ·have h1:=CA.2 y hy;rwa [OC y (by omega),OC _ (by omega)] at h1
variable {Z c j:Nat} {u z:Value}
def jG (w:World) (Z:Nat) (a:Option Addr) (P:List Tb):Prop:=∀k (h:k<P.length),∃g o x y,a=some ⟨g,o,none⟩/\g<w.heap.size/\g≠Z/\w.cell? ⟨g,o+k*2,none⟩=some x/\w.cell? ⟨g,o+k*2+1,none⟩=some y/\cR w x y P[k]/\fE Z P[k] (x,y)
theorem jG.tbs (h:jG w Z a P):dQ w a P:=fun k hk=>by
 obtain⟨g,o,x,y,h1,h2,_,h3,h4,h5,_⟩:=h k hk;exact⟨g,o,x,y,h1,h2,h3,h4,h5⟩
theorem jG.aa (h:jG w Z a P) (hb:Below w.heap.size w w'):jG w' Z a P:=fun k hk=>by
 obtain⟨g,o,x,y,h1,h2,hne,h3,h4,h5,h6⟩:=h k hk;exact⟨g,o,x,y,h1,aR h2 hb.size,hne,(hb.cell (p:=⟨g,_,none⟩) h2).trans h3,(hb.cell (p:=⟨g,_,none⟩) h2).trans h4,h5.aa hb,h6⟩
theorem jG.old (h:dQ w a P) (hZ:w.heap.size<=Z):jG w Z a P:=fun k hk=>by
 obtain⟨g,o,x,y,h1,h2,h3,h4,h5⟩:=h k hk;exact⟨g,o,x,y,h1,h2,by omega,h3,h4,h5,h5.lt hZ⟩
theorem jG.off (h:jG w Z a P) (j:Nat) (u:Value):jG (w.setCell ⟨Z,j,none⟩ u) Z a P:=fun k hk=>by
 obtain⟨g,o,x,y,h1,h2,hne,h3,h4,h5,h6⟩:=h k hk;have hb:(w.setCell ⟨Z,j,none⟩ u).heap[g]? =w.heap[g]?:=je w ⟨Z,j,none⟩ u g hne;exact⟨g,o,x,y,h1,aR h2 (iG w _ _).size,hne,(kA (a:=⟨g,_,none⟩) hb).trans h3,(kA (a:=⟨g,_,none⟩) hb).trans h4,h5.off u h6,h6⟩
theorem jG.offP {V:World} (u:Value) (h:jG V Z a P) (hn:∀g' o',a=some ⟨g',o',none⟩ ->g'≠g) (ht:∀k (hk:k<P.length) p q,cR V p q P[k] ->fE g P[k] (p,q)):jG (V.setCell ⟨g,j,none⟩ u) Z a P:=fun k hk=>by
 obtain⟨g',o,p,q,e,hg,hne,h0,h1,h2,h3⟩:=h k hk;have hb:(V.setCell ⟨g,j,none⟩ u).heap[g']? =V.heap[g']?:=je V ⟨g,j,none⟩ u g' (hn g' o e);exact⟨g',o,p,q,e,aR hg (iG V _ _).size,hne,(kA (a:=⟨g',_,none⟩) hb).trans h0,(kA (a:=⟨g',_,none⟩) hb).trans h1,h2.off u (ht k hk p q h2),h3⟩
theorem jG.putP {V:World} (h:jG V Z a P) (hb:bj V g x y z) (hx:cM x) (hy:cM y) (hz:cM z) (hn:∀g' o',a=some ⟨g',o',none⟩ ->g'≠g) {v:Value} (hu:cM u) (hv:cM v) (s:Value):jG (((V.setCell ⟨g,0,none⟩ u).setCell ⟨g,1,none⟩ v).setCell ⟨g,2,none⟩ s) Z a P:=
 ((h.offP u hn fun _ _ _ _ ht=>GN ht hb hx hy hz).offP v hn fun _ _ _ _ ht=>GN ht (hb.set0 u) hu hy hz).offP s hn fun _ _ _ _ ht=>GN ht ((hb.set0 u).set1 v) hu hv hz
theorem kr.rowA {B:Nat} (h:kr w B (.slice a n c) Q P) (hf:∀k (h:k<P.length) (h':k<Q.length),fE Z P[k] Q[k]) (hZ:Z<B):jG w Z a P:=by
 rcases h.own.2 with ⟨h1,h2⟩ |⟨g,cap,cur,h1,h2,h3,h4,h5,h6,h7⟩
 ·exact fun k hk=>absurd hk (by omega)
 ·intro k hk;injection h1 with e1 _ _;have gi:k<Q.length:=by rw[h.len];exact hk
  obtain⟨q0,q1⟩:=Rg Q k gi;have hcl:=Rf Q
  have hc:∀j u,(fK Q)[j]? =some u ->w.cell? ⟨g,j,none⟩=some u:=fun j u hj=>by
   rw[cC w g j _ _ (0,0) h3];have oH:=(o0.1 hj).1;rw[<- h7,rV,ay (by have:=h.len;omega),wm] at hj;exact hj
  exact⟨g,0,_,_,e1,(eL.1 h3).1,by omega,by rw[bT];exact hc _ _ q0,by rw[bT];exact hc _ _ q1,h.val k hk gi,hf k hk gi⟩
theorem agL (a b t:Option Addr) (ca cb ct:Nat) (S:List Nat) (fr:List Int) (P:List Tb) (D c v z:Nat) (w:World) (aJ:eH (iL S)) (hs:ax w a (iL S)) (hb:ax w b fr) (hP:dQ w t P) (aM:eX S S.length P D c) (hpl:P.length<=1000) (jR:fr.length<=1000) (hm:2*(B D).size+(B c).size+2<=8192) (hv:v<S.length) (hz:z<sz S v):
  Calls Tryz.prog 48 #[.agg #[.slice a S.length ca,.slice b fr.length cb,.slice t P.length ct],.agg #[.int .i64 (v:Nat),.int .i64 (z:Nat)]] w fun e w'=>∃d cd t' b9,e=.returned (.agg #[.slice a S.length ca,.slice d (bw fr v).length cd,.slice t' P.length b9])/\ax w' d (bw fr v)/\dQ w' t' (P.map (gK S v z))/\eC w.heap.size t' b9/\Below w.heap.size w w'/\eC w.heap.size d cd/\∀Z,Z<w.heap.size ->jG w' Z t' (P.map (gK S v z)):=by
 have df:Pos S:=by have:=aJ.pos;rwa [ew] at this
 have ku:=hid (fun (U:World) (hU:Below w.heap.size w U)=>R3 (.slice a S.length ca) (.slice t P.length ct) b cb fr (v:Int) U (slv _ _ _) (slv _ _ _) (hb.aa hU) jR);have qA:Hid (∀(k:Nat) (hk:k<P.length) (x y:Value) (U:World),Below w.heap.size w U ->cR U x y P[k] ->Calls Tryz.prog 97 #[.slice a S.length ca,.agg #[x,y],.int .i64 (v:Nat),.int .i64 (z:Nat)] U fun e w'=>Bi U.heap.size (gK S v z P[k]) e w'/\Below U.heap.size U w'):=fun k hk x y U hU h1=>ab6 a ca S x y _ v z U aJ (hs.aa hU) h1 (aM.ok _ (bH hk)) ((aM.cw df hm P[k] (bH hk)).up (by decide)) hv hz;have HP:=hid hP;clear hs hb hP aM aJ df hm hz;go_enter Tryz.func48,Tryz.ntmps48;go_wp2_with fail
 have hb0:Below w.heap.size w (((w.alloc (.cells #[.slice a S.length ca,.slice b fr.length cb,.slice t P.length ct] 87)).alloc (.cells #[.int .i64 (v:Nat),.int .i64 (z:Nat)] 90)).alloc (.cells #[.slice none 0 0,.slice none 0 0,.slice none 0 0] 87)):=by
  have h1:=(au w.heap.size w).alloc (ar _) (.cells #[.slice a S.length ca,.slice b fr.length cb,.slice t P.length ct] 87);have h2:=h1.alloc h1.size (.cells #[.int .i64 (v:Nat),.int .i64 (z:Nat)] 90);exact h2.alloc h2.size _
 have pq:bj (((w.alloc (.cells #[.slice a S.length ca,.slice b fr.length cb,.slice t P.length ct] 87)).alloc (.cells #[.int .i64 (v:Nat),.int .i64 (z:Nat)] 90)).alloc (.cells #[.slice none 0 0,.slice none 0 0,.slice none 0 0] 87)) w.heap.size (.slice a S.length ca) (.slice b fr.length cb) (.slice t P.length ct):=((bj.at (w:=w) rfl _ _ _).alloc _).alloc _
 have C9:(((w.alloc (.cells #[.slice a S.length ca,.slice b fr.length cb,.slice t P.length ct] 87)).alloc (.cells #[.int .i64 (v:Nat),.int .i64 (z:Nat)] 90)).alloc (.cells #[.slice none 0 0,.slice none 0 0,.slice none 0 0] 87)).heap[w.heap.size+1]? =some (.cells #[.int .i64 (v:Nat),.int .i64 (z:Nat)] 90 (0,0)):=by
  rw[rY _ _ _ (by simp)];have:=kd (w.alloc (.cells #[.slice a S.length ca,.slice b fr.length cb,.slice t P.length ct] 87)) (.cells #[.int .i64 (v:Nat),.int .i64 (z:Nat)] 90);rwa [cN] at this
 have iA:bj (((w.alloc (.cells #[.slice a S.length ca,.slice b fr.length cb,.slice t P.length ct] 87)).alloc (.cells #[.int .i64 (v:Nat),.int .i64 (z:Nat)] 90)).alloc (.cells #[.slice none 0 0,.slice none 0 0,.slice none 0 0] 87)) (w.heap.size+1+1) (.slice none 0 0) (.slice none 0 0) (.slice none 0 0):=bj.at (w:=(w.alloc (.cells #[.slice a S.length ca,.slice b fr.length cb,.slice t P.length ct] 87)).alloc (.cells #[.int .i64 (v:Nat),.int .i64 (z:Nat)] 90)) (by simp) _ _ _;have zt:=hid (ku.o _ hb0);clear ku;generalize (((w.alloc (.cells #[.slice a S.length ca,.slice b fr.length cb,.slice t P.length ct] 87)).alloc (.cells #[.int .i64 (v:Nat),.int .i64 (z:Nat)] 90)).alloc (.cells #[.slice none 0 0,.slice none 0 0,.slice none 0 0] 87))=W0 at *;refine zt.o.af ?_;rintro e w3 ⟨d,cd,rfl,wS,AX,hb3⟩;have hl0:=iA.lt;have anw:=hid (AX.up hb0.size);have jT:=(au w3.heap.size w3).alloc (ar _) (.cells #[.slice a S.length ca,.slice d (bw fr v).length cd,.slice none 0 0] 87);have eM:(w3.alloc (.cells #[.slice a S.length ca,.slice d (bw fr v).length cd,.slice none 0 0] 87)).heap.size=w3.heap.size+1:=by simp
 have dY:=(hb0.trans (hb3.af hb0.size)).trans (jT.af (aS hb0.size hb3.size));have xj:=(pq.aa hb3 pq.lt).alloc (.cells #[.slice a S.length ca,.slice d (bw fr v).length cd,.slice none 0 0] 87);have vw:=(iA.aa hb3 iA.lt).alloc (.cells #[.slice a S.length ca,.slice d (bw fr v).length cd,.slice none 0 0] 87)
 have y5:(w3.alloc (.cells #[.slice a S.length ca,.slice d (bw fr v).length cd,.slice none 0 0] 87)).heap[w.heap.size+1]? =some (.cells #[.int .i64 (v:Nat),.int .i64 (z:Nat)] 90 (0,0)):=by
  rw[rY _ _ _ (by have:=hb3.size;omega),hb3.block _ (by omega)];exact C9
 have C3:pE 0 (w3.alloc (.cells #[.slice a S.length ca,.slice d (bw fr v).length cd,.slice none 0 0] 87)) w3.heap.size (.slice a S.length ca) (.slice d (bw fr v).length cd) (.slice none 0 0) [] [] (w3.alloc (.cells #[.slice a S.length ca,.slice d (bw fr v).length cd,.slice none 0 0] 87)):=pE.start (bj.at (w:=w3) rfl (.slice a S.length ca) (.slice d (bw fr v).length cd) (.slice none 0 0));have C6:=wS.aa jT;have hs3:=hb3.size
 have Mb:Hid (∀g o,d=some ⟨g,o,none⟩ ->bw fr v≠[] ->some g≠some w3.heap.size):=fun g o e hne e2=>by
  obtain⟨g',o',e',iK,_⟩:=wS 0 (by cases hl:bw fr v with |nil=>exact absurd hl hne |cons x l=>simp);rw[e] at e';cases e';cases e2;omega
 have mF:Hid (∀g o,d=some ⟨g,o,none⟩ ->bw fr v≠[] ->g≠w.heap.size+1+1):=fun g o e _ e2=>by
  have:=AX.2 g o e;omega
 clear wS AX hb3 hb0 pq C9 iA jT zt;have fV:=hid dY;have q9:=hid xj;have js:=hid vw;have nX:=hid y5;have vS:=hid C3;have F4:=hid C6;have tM:=xj.cells.2.2;clear dY xj vw y5 C3 C6;generalize xm:bw fr v=LF at *;have Qd:=hid xm;clear xm;go_wp2_with fail
 generalize (w3.alloc (.cells #[.slice a S.length ca,.slice d LF.length cd,.slice none 0 0] 87))=W4 at *;clear tM;obtain⟨T,hT⟩:∃T:Nat ->List Tb,∀k,(P.take k).map (gK S v z)=T k:=⟨fun k=>(P.take k).map (gK S v z),fun _=>rfl⟩;have vQ:Hid (T 0=[]):=by show _=_;rw[<- hT];rfl
 have sU:Hid (∀k (hk:k<P.length),T (k+1)=T k++[gK S v z P[k]]):=fun k hk=>by rw[<- hT, <- hT,fR hk,fY];rfl
 have qu:Hid (T P.length=P.map (gK S v z)):=by show _=_;rw[<- hT,fJ]
 have vO:Hid (∀k,k<=P.length ->(T k).length=k):=fun k hk=>by rw[<- hT,c5,eZ];omega
 clear hT;go_loopw [17] (fun iv wr=>∃(i:Nat) (tv:Value) (Q:List (Value×Value)),i<=P.length/\iv=.int .i64 i/\Hid (pE 0 W4 w3.heap.size (.slice a S.length ca) (.slice d LF.length cd) tv Q (T i) wr)) (fun iv _=>P.length - (intOf iv).toNat)
 case atStart=>exact⟨0,_,_,aU _,rfl,by rw[vQ.o];exact vS⟩
 case round=>
  obtain⟨i,tv,Q,hi,rfl,HM⟩:=hrel;have Hq:=HM.o.fr.size;have HB:Hid (Below w.heap.size w wr):=H4 fV.o HM.o.fr (by omega) (by omega);have FO:Hid (bj wr w.heap.size (.slice a S.length ca) (.slice b fr.length cb) (.slice t P.length ct)):=(HM.o.fr.block _ q9.o.lt (fun e=>by have:=lV e;omega)).trans q9.o;have lQ:Hid (bj wr (w.heap.size+1+1) (.slice none 0 0) (.slice none 0 0) (.slice none 0 0)):=(HM.o.fr.block _ js.o.lt (fun e=>by have:=lV e;omega)).trans js.o;have WD:Hid (wr.heap[w.heap.size+1]? =some (.cells #[.int .i64 (v:Nat),.int .i64 (z:Nat)] 90 (0,0))):=(HM.o.fr.block _ (by omega) (fun e=>by have:=lV e;omega)).trans nX.o;by_cases hlt2:i<P.length
  ·obtain⟨g,o,p,q,rfl,hg,k0,k1,lC⟩:=(HP.o.aa HB.o) i hlt2;have hA:=(au wr.heap.size wr).alloc (ar _) (TC p q);have dC:=hid (HB.o.trans (hA.af HB.o.size));(have AU:(wr.alloc (TC p q)).heap.size=wr.heap.size+1:=by simp);have KN:=FO.o.alloc (TC p q);have Tr:=KN.cells.1;have Fc:(wr.alloc (TC p q)).heap[w.heap.size+1]? =some (.cells #[.int .i64 (v:Nat),.int .i64 (z:Nat)] 90 (0,0)):=(rY _ _ _ (by omega)).trans WD.o;(have ze:(wr.alloc (TC p q)).cell? ⟨w.heap.size+1,0,none⟩=some (.int .i64 (v:Nat)):=by rw[cC _ _ 0 _ _ (0,0) Fc];rfl);(have Be:(wr.alloc (TC p q)).cell? ⟨w.heap.size+1,1,none⟩=some (.int .i64 (z:Nat)):=by rw[cC _ _ 1 _ _ (0,0) Fc];rfl);have bW:=bh.at (w:=wr) rfl p q;have b0:=bW.c0;have b1:=bW.c1;have DI:=hid (HM.o.under hA);have HX:=hid (qA.o i hlt2 p q _ dC.o (lC.aa hA));have VR:=hid (sU.o i hlt2);have oK:=vO.o i hi;obtain⟨ps,pn,pc,rfl⟩:=lC.slices.1;obtain⟨qs,qn,qc,rfl⟩:=lC.slices.2;have BA:Hid (∀R,tv.ownBlock=some R ->W4.heap.size<=R/\R<wr.heap.size):=HM.o.own.lt;clear lC hA bW KN Fc;generalize gK S v z P[i]=ft at *;go_wp2_with fail
   refine HX.o.af ?_;rintro e w7 ⟨⟨x2,y2,rfl,hv2,dm⟩,bK⟩;obtain⟨xs,xn,xc,rfl⟩:=hv2.slices.1;obtain⟨ys,yn,yc,rfl⟩:=hv2.slices.2;rw[AU] at dm;have Ti:=bK.size;rw[AU] at Ti;have IK:=hid (DI.o.under bK);have sL:=(au w7.heap.size w7).alloc (ar _) (TC (.slice xs xn xc) (.slice ys yn yc));have xU:=hid (IK.o.under sL);(have CE:(w7.alloc (TC (.slice xs xn xc) (.slice ys yn yc))).heap.size=w7.heap.size+1:=by simp);have wY:=bh.at (w:=w7) rfl (.slice xs xn xc) (.slice ys yn yc);have c80:=wY.c0;have c81:=wY.c1;have t82:=xU.o.box.cells.2.2;have Fi:=(au (w7.alloc (TC (.slice xs xn xc) (.slice ys yn yc))).heap.size (w7.alloc (TC (.slice xs xn xc) (.slice ys yn yc)))).alloc (ar _) (TC (.slice xs xn xc) (.slice ys yn yc));have xT:=hid (xU.o.under Fi);have FA:=hid ((hv2.aa sL).aa Fi);have E5:=bh.at (w:=w7.alloc (TC (.slice xs xn xc) (.slice ys yn yc))) CE (.slice xs xn xc) (.slice ys yn yc);have WV:=hid E5.c0;have WU:=hid E5.c1;have rM:=hid hv2.slices;have fA:=hid dm;have pG:Hid (W4.heap.size<=((w7.alloc (TC (.slice xs xn xc) (.slice ys yn yc))).alloc (TC (.slice xs xn xc) (.slice ys yn yc))).heap.size):=xT.o.fr.size;have hb5:=vS.o.box.lt;clear hv2 bK sL Fi wY E5 dm HX DI k0 k1 b0 b1 Tr ze Be
   have KEY:∀(cP:Value) (bI:World),bI.ownsRow W4.heap.size 39 2 cP ((T i).length+1) (fK Q++[.slice xs xn xc,.slice ys yn yc]) ->((w7.alloc (TC (.slice xs xn xc) (.slice ys yn yc))).alloc (TC (.slice xs xn xc) (.slice ys yn yc))).grownBy bI tv.ownBlock ->(cP.ownBlock=tv.ownBlock∨∀k,cP.ownBlock=some k ->((w7.alloc (TC (.slice xs xn xc) (.slice ys yn yc))).alloc (TC (.slice xs xn xc) (.slice ys yn yc))).heap.size<=k) ->(∃a' n' c',cP=Value.slice a' n' c')/\(pE 0 W4 w3.heap.size (.slice a S.length ca) (.slice d LF.length cd) cP (Q++[(.slice xs xn xc,.slice ys yn yc)]) (T (i+1)) (bI.setCell ⟨w3.heap.size,2,none⟩ cP))/\bI.cell? ⟨w3.heap.size,2,none⟩=some tv/\bI.frozen? ⟨w3.heap.size,2,none⟩=false:=fun cP bI dw dO fS=>by
    have hM:=xT.o.push (by omega) hb5 FA.o (fun R hR=>fA.o R (by have:=(BA.o R hR).2;omega)) (fun R _ hR=>fA.o R (by omega)) dw dO fS;rw[<- VR.o] at hM;have xu:bj bI w3.heap.size (.slice a S.length ca) (.slice d LF.length cd) tv:=(dO.block _ xT.o.box.lt (fun e=>by have:=(BA.o _ e.symm).1;omega)).trans xT.o.box;refine⟨?_,hM,xu.cells.2.2,xu.fz 2⟩;rcases dw.2 with ⟨h1,_⟩ |⟨g',cap',cur',h1,_⟩
    ·exact⟨_,_,_,h1⟩
    ·exact⟨_,_,_,h1⟩
   have HKEY:=hid KEY;clear KEY;go_wp2_with (at_builtin;refine Jl rfl _ _ rfl W4.heap.size tv (T i).length (fK Q) (.slice xs xn xc) (.slice ys yn yc) rfl xT.o.own.own (w7.heap.size+1) rfl WV.o WU.o rM.o.1 rM.o.2 (by omega) pG.o ?_;intro cP bI dw dO fS;obtain⟨⟨wC,tn',wB,rfl⟩,sI,t102,f102⟩:=HKEY.o cP bI dw dO fS;have nV:=hid sI;clear sI dw dO fS)
   go_roundw
   case rel=>exact⟨i+1,_,_,by omega,by go_num,nV⟩
   case measure=>simp[intOf];omega
  ·obtain rfl:i=P.length:=by omega
   rw[qu.o] at HM;obtain⟨ta,tc,rfl,yO⟩:=HM.o.own.row;obtain⟨x0,x1,x2⟩:=HM.o.box.cells;obtain⟨r0,r1,r2⟩:=lQ.o.cells;have Am:=lQ.o.fz 0;have JE:=lQ.o.fz 1;have JD:=lQ.o.fz 2;(have qa:(P.map (gK S v z)).length=P.length:=by simp);rw[qa] at HM x2;have C5:ax wr d LF:=Hg F4.o Mb.o HM.o.fr;have xR:=hid (lQ.o.put (.slice a S.length ca) (.slice d LF.length cd) (.slice ta P.length tc));have uF:=hid (bF HB.o (show w.heap.size<=w.heap.size+1+1 by omega) (.slice a S.length ca) (.slice d LF.length cd) (.slice ta P.length tc))
   have eQ:Value.ownBlock (.slice ta P.length tc)≠some (w.heap.size+1+1):=fun e=>by
    have:=(HM.o.own.lt _ e).1;omega
   have vz:=((HM.o.own.off (g:=w.heap.size+1+1) (j:=0) (.slice a S.length ca) (HM.o.far _ (by omega) (by omega)) eQ).off (g:=w.heap.size+1+1) (j:=1) (.slice d LF.length cd) (HM.o.far _ (by omega) (by omega)) eQ).off (g:=w.heap.size+1+1) (j:=2) (.slice ta P.length tc) (HM.o.far _ (by omega) (by omega)) eQ;have oV:Hid (∀Z,Z<w.heap.size ->jG _ Z ta (P.map (gK S v z))):=fun Z hZ=>vz.rowA (fun k h1 h2=>HM.o.far Z (aU _) (by omega) k h1 h2) (by omega);obtain⟨Ri,Re,e2,wI⟩:=vz.row;rw[qa] at e2;injection e2 with e3 e4 e5;subst e3 e5;clear e4;have FB:=hid wI;have vV:=hid (((C5.off (g:=w.heap.size+1+1) (j:=0) (y:=.slice a S.length ca) mF.o).off (g:=w.heap.size+1+1) (j:=1) (y:=.slice d LF.length cd) mF.o).off (g:=w.heap.size+1+1) (j:=2) (y:=.slice ta P.length tc) mF.o);have FU:=hid ((ND HM.o.own.own).up (show w.heap.size<=W4.heap.size by omega));clear vz wI C5 yO;go_wp2;refine bB (xR.o.result1 rfl _ rfl) rfl ?_;have e6:=Qd.o;subst e6;exact⟨d,cd,ta,tc,rfl,vV.o,FB.o,FU.o,uF.o,anw.o,oV.o⟩
theorem aiQ (a b c:Option Addr) (ca cb cc n m:Nat) (V:List Vr) (w:World) (hV:V.length<=8):
  Calls Tryz.prog 47 #[.agg #[.slice a V.length ca,.slice b n cb,.slice c m cc]] w fun e w'=>∃G,e=.returned (.slice (some ⟨G,0,none⟩) V.length V.length)/\bV w' G (List.range V.length)/\Below w.heap.size w w':=by
 obtain⟨i0,cU,hz0,hz1,hz2⟩:=eT Tryz.infoInt;have bJ:(List.range V.length).length=V.length:=lY
 have qx:Hid (∀i,i<V.length ->(kD (List.range V.length) i).set i i=kD (List.range V.length) (i+1)):=fun i hi=>by
  have h1:i<(List.range V.length).length:=by rw[bJ];exact hi
  have h2:=Nz (List.range V.length) h1;rwa [qH] at h2
 generalize List.range V.length=ds at *;have hN:=gX.at (w:=w) rfl (.slice a V.length ca) (.slice b n cb) (.slice c m cc);have hB0:=(au _ w).alloc (ar _) (NC (.slice a V.length ca) (.slice b n cb) (.slice c m cc));obtain⟨c0, -, -⟩:=hN.cells;go_enter Tryz.func47,Tryz.ntmps47;go_upto_region 1 with fail
 generalize (w.alloc (NC (.slice a V.length ca) (.slice b n cb) (.slice c m cc)))=w1 at *
 go_wp2_with (first
  |(at_make;refine mL _ rfl _ _ 27 rfl w1.heap.size 3 i0 (.int .i64 0) 1 Tryz.underlying27 cU hz0 hz1 .i64 .i64 _ _ V.length rfl rfl (by go_num) (by go_num) (by rw[hz2];omega) (by unfold maxLen;omega) (ar _) ?_;intro w2 hown2 hgrow2))
 have hb2:=pC hown2;rw[AB] at hb2;have hB2:Below w1.heap.size w1 w2:=(au _ w1).grown hgrow2 (ar _) (fun k e=>by cases e);have HI:Hid (bV w2 w1.heap.size (List.replicate V.length 0)):=hb2;have bc:Hid (Below w.heap.size w w2):=hB0.trans (hB2.af hB0.size);have hG:=hB0.size;clear hown2 hgrow2 hb2 hB2 c0;go_wp2_with fail
 go_loopw [11] (fun iv wr=>∃i:Nat,i<=V.length/\iv=.int .i64 i/\Hid (bV wr w1.heap.size (kD ds i))/\Hid (Below w.heap.size w wr)) (fun iv _=>V.length - (intOf iv).toNat)
 case atStart=>exact⟨0,aU _,rfl,by rw[Ny,bJ];exact HI,bc⟩
 case round=>
  obtain⟨i,hi,rfl,HR,HB⟩:=hrel;clear HI bc;by_cases hlt:i<V.length
  ·have k0:=HR.o.cell i (by rw[Aw _ (by omega)];omega);have f0:=HR.o.fz i;have hS:=HR.o.set i i;rw[qx.o i hlt] at hS;have HS:=hid hS;have BU:=hid (HB.o.setCell (p:=⟨w1.heap.size,i,none⟩) hG (.int .i64 (i:Nat)));generalize (kD ds i)[i]'(by rw[Aw _ (by omega)];omega)=z at *;clear hS;go_wp2;go_roundw
   case rel=>exact⟨i+1,by omega,by go_num,HS,BU⟩
   case measure=>simp[intOf];omega
  ·obtain rfl:i=V.length:=by omega
   have eA:=HR.o;rw[<- bJ,NA] at eA;have bC:=hid eA;clear eA;go_wp2;go_ret;exact⟨w1.heap.size,rfl,bC.o,HB.o⟩
variable {B8 G9 cd ct:Nat}
def mh (ws:List Nat) (m:List (Nat×Nat)):List Int:=iL (fC ws m)
def jN (V:List Vr) (L:List (List Int)) (R:List (List Fr)) (ws:List Nat) (m:List (Nat×Nat)):List Tb:=ko (ah V) m (gT V L R ws)
def lL (n:Nat) (m:List (Nat×Nat)):List Nat:=(List.range n).map (cY m fun _=>0)
theorem Lm (n:Nat) (m:List (Nat×Nat)):(lL n m).length=n:=by simp[lL]
theorem amD (n:Nat):lL n []=List.replicate n 0:=by
 refine pS (by simp[lL]) fun i h1 h2=>?_;simp[lL,cY]
theorem acT (n:Nat) (m:List (Nat×Nat)) (p:Nat×Nat):lL n (m++[p])=(lL n m).set p.1 p.2:=by
 refine pS (by simp[lL]) fun i h1 h2=>?_;rw[Jf];simp only[lL,og,qH,Nt];show aQ (cY m fun _=>0) p.1 p.2 i=_;rw[aQ];by_cases e:i=p.1
 ·rw[ay e,ay e.symm]
 ·rw[az e,az (fun h=>e h.symm)]
def uJ (L:List (List Int)) (n:Nat):List Nat:=(ir L).filter fun v:Nat=>(iL (List.range n)).contains (v:Int)
theorem M3 (h0:aW V L R=0):(uJ L V.length).Perm (List.range V.length):=by
 have aM:=gD h0;have hg:=ud (NU h0);have h8:L.length<=8:=by rw[aM.len];exact aM.n8
 have h1:1<=L.length:=by
  have:=aM.fine.one;rw[ba,gR] at this;rw[aM.len];exact this
 refine(Jd ((Sm hg h1 h8).sublist Gt) pO).2 fun v=>?_;rw[c4,bG];constructor
 ·rintro⟨a,_⟩;rw[<- aM.len];exact NQ hg h1 h8 a
 ·intro h;refine⟨Sn hg h1 h8 (by rw[aM.len];exact h),?_⟩;rw[lh,iL];exact bs.2 ⟨v,bG.2 h,rfl⟩
theorem Xm (h0:aW V L R=0):lT L (·∈uJ L V.length):=fun v hv u hu=>by
 have:=RD h0 v ((M3 h0).mem_iff.1 hv) u hu;exact(M3 h0).mem_iff.2 this
theorem R2 (h0:aW V L R=0) (hw:ws.Perm (List.range V.length)) (hc:lT L (·∈ws)) {m:List (Nat×Nat)} (hm:kW (ah V) V.length m):eX (ah V) V.length (jN V L R ws m) (eW R ws) 1:=
 eX.fixes (mi h0) (abT h0 (fun _ hv=>bG.1 (hw.mem_iff.1 hv)) hc) hm.val
theorem ab5 (h0:aW V L R=0) (hD:mJ V R) (hw:ws.Perm (List.range V.length)) (hc:lT L (·∈ws)) {m:List (Nat×Nat)} (hm:kW (ah V) V.length m) {p:Nat×Nat} (CJ:p.1<V.length) (tM:p.2<sz (ah V) p.1) (s b t:Option Addr) (cs cb ct:Nat) (w:World) (hs:ax w s (iL (ah V))) (hb:ax w b (mh ws m)) (hP:dQ w t (jN V L R ws m)):
  Calls Tryz.prog 48 #[.agg #[.slice s V.length cs,.slice b (mh ws m).length cb,.slice t (jN V L R ws m).length ct],.agg #[.int .i64 (p.1:Nat),.int .i64 (p.2:Nat)]] w fun e w'=>∃d cd t' b9,e=.returned (.agg #[.slice s V.length cs,.slice d (mh ws (m++[p])).length cd,.slice t' (jN V L R ws (m++[p])).length b9])/\ax w' d (mh ws (m++[p]))/\Below w.heap.size w w'/\eC w.heap.size d cd/\eC w.heap.size t' b9/\∀Z,Z<w.heap.size ->jG w' Z t' (jN V L R ws (m++[p])):=by
 have aM:=gD h0;have bJ:(ah V).length=V.length:=gR V;have hn:ws.Nodup:=hw.nodup_iff.2 pO;have hlt:∀v∈ws,v<V.length:=fun v hv=>bG.1 (hw.mem_iff.1 hv);have hwl:=Et hn hlt;have h8:=aM.n8;have h1:(mh ws m).length<=ws.length:=by rw[mh,ba];exact(N8 _ _).length_le
 have h2:(jN V L R ws m).length=ws.length:=by rw[jN,K5,gT,c5]
 have qN:=R2 h0 hw hc hm;have hmm:=hD.pool h0 hn hlt (vs:=[]) List.nodup_nil (fun v hv=>by cases hv);have:=agL s b t cs cb ct (ah V) (mh ws m) (jN V L R ws m) (eW R ws) 1 p.1 p.2 w aM.fine hs hb hP (by rw[bJ];exact qN) (by omega) (by omega) hmm (by rw[bJ];exact CJ) tM;rw[bJ] at this;have e1:mh ws (m++[p])=bw (mh ws m) (p.1:Int):=by rw[mh,mh,SV,aaH]
 have e2:jN V L R ws (m++[p])=(jN V L R ws m).map (gK (ah V) p.1 p.2):=by rw[jN,jN,UO]
 rw[e1,e2,c5];exact this.af fun e w' ⟨d,cd,t',b9,k1,k2,_,k3,k4,k5,k6⟩=>⟨d,cd,t',b9,k1,k2,k4,k5,k3,k6⟩
theorem ZX (h0:aW V L R=0) (hD:mJ V R) (hw:ws.Perm (List.range V.length)) (hc:lT L (·∈ws)) {m:List (Nat×Nat)} (hm:kW (ah V) V.length m) {Q:List Int} (hQl:Q.length<=8) (s b t q:Option Addr) (cs cb ct cq:Nat) (w:World) (hs:ax w s (iL (ah V))) (hb:ax w b (mh ws m)) (hP:dQ w t (jN V L R ws m)) (hQ:ax w q Q):
  Calls Tryz.prog 51 #[.agg #[.slice s V.length cs,.slice b (mh ws m).length cb,.slice t (jN V L R ws m).length ct],.slice q Q.length cq,.bool true] w fun e w'=>∃x y,e=.returned (.agg #[x,y])/\cR w' x y (gG V L R ws m Q)/\Below w.heap.size w w':=by
 have aM:=gD h0;have hp:=mi h0;have bJ:(ah V).length=V.length:=gR V;have hn:ws.Nodup:=hw.nodup_iff.2 pO;have hlt:∀v∈ws,v<V.length:=fun v hv=>bG.1 (hw.mem_iff.1 hv);have hwl:=Et hn hlt;have h8:=aM.n8;have wQ:=J4 (l:=m) hn;have tS:∀v∈fC ws m,v<V.length:=fun v hv=>hlt v (yK.1 hv).1;have dh:=Et wQ tS;have hpl:(jN V L R ws m).length=ws.length:=by rw[jN,K5,gT,c5]
 have:=Zt s b t q cs cb ct cq (ah V) (fC ws m) Q (jN V L R ws m) _ (eW R ws) 1 true w aM.fine hs hb hP hQ (by omega) wQ (by rw[bJ];exact tS) (by rw[bJ];exact(PI.net h0 hlt hc).fixes hp hm.nd hm.val) (NN.fixes hp hm.val (PI.net h0 hlt hc).ok (NN.net h0 hlt)) (by rw[bJ];exact R2 h0 hw hc hm) (by omega) (hD.pool h0 hn hlt wQ tS);rw[bJ] at this;rw[mh,ba];exact this
theorem ah5 (h0:aW V L R=0) (hD:mJ V R) (hw:ws.Perm (List.range V.length)) (hc:lT L (·∈ws)) {m:List (Nat×Nat)} (hm:kW (ah V) V.length m) (Q:List Int):Cw 8192 (gG V L R ws m Q).2:=by
 have hp:=mi h0;have hn:ws.Nodup:=hw.nodup_iff.2 pO;have hlt:∀v∈ws,v<V.length:=fun v hv=>bG.1 (hw.mem_iff.1 hv);have wQ:=J4 (l:=m) hn;have tS:∀v∈fC ws m,v<V.length:=fun v hv=>hlt v (yK.1 hv).1;obtain⟨d,hd,hle⟩:=eX.outs hp true (fun u=>Q.contains (u:Int)) (fC ws m) (R2 h0 hw hc hm);have h1:=hD.pool h0 hn hlt wQ tS;have h2:=kj hle;have h3:=hd.part hp (m:=8192) (by omega) (iX (ah V) true (fun u=>Q.contains (u:Int)) (fC ws m) (jN V L R ws m)).length;rw[fJ] at h3;exact h3.2
structure tu (w:World) (S:List Nat) (n G9 B8 G:Nat) (d t:Option Addr) (cd ct:Nat) (F:List Int) (P:List Tb) (A:List Nat) (U:World):Prop where
 box:bj U B8 (.slice (some ⟨G,0,none⟩) n n) (.slice d F.length cd) (.slice t P.length ct)
 sz:ax U (some ⟨G,0,none⟩) (iL S)
 fr:ax U d F
 fa:∀g o,d=some ⟨g,o,none⟩ ->F≠[] ->g≠G9
 tb:jG U G9 t P
 row:bV U G9 A
 rb:aC U (w.heap.size+1) false ⟨#[]⟩ ⟨#[]⟩
 bel:Below w.heap.size w U
 lo:w.heap.size+1<B8/\B8<G9/\G<G9
theorem tu.step {G:Nat} {d t:Option Addr} {F:List Int} (h:tu w S n G9 B8 G d t cd ct F P A U) (hb:Below U.heap.size U U'):tu w S n G9 B8 G d t cd ct F P A U':=
 ⟨h.box.aa hb h.box.lt,h.sz.aa hb,h.fr.aa hb,h.fa,h.tb.aa hb,h.row.aa hb h.row.lt,h.rb.aa hb h.rb.lt,h.bel.trans (hb.af h.bel.size),h.lo⟩
theorem tu.setA {G:Nat} {d t:Option Addr} {F:List Int} (h:tu w S n G9 B8 G d t cd ct F P A U) (j y:Nat):tu w S n G9 B8 G d t cd ct F P (A.set j y) (U.setCell ⟨G9,j,none⟩ (.int .i64 (y:Int))):=by
 obtain⟨l1,l2,l3⟩:=h.lo;exact⟨h.box.off G9 j _ (by omega),h.sz.off (fun g o e _=>by cases e;omega),h.fr.off h.fa,h.fa,h.tb.off j _,h.row.set j y,h.rb.far (by omega) _,h.bel.setCell (p:=⟨G9,j,none⟩) (by show w.heap.size<=G9;omega) _,h.lo⟩
theorem tu.putP {G:Nat} {d t d' t':Option Addr} {zi b9:Nat} {F F':List Int} {P':List Tb} (h:tu w S n G9 B8 G d t cd ct F P A U) (hf:ax U d' F') (A0:∀g o,d'=some ⟨g,o,none⟩ ->F'≠[] ->g≠G9) (ht:jG U G9 t' P') (htn:∀g o,t'=some ⟨g,o,none⟩ ->g≠B8):
  tu w S n G9 B8 G d' t' zi b9 F' P' A (((U.setCell ⟨B8,0,none⟩ (.slice (some ⟨G,0,none⟩) n n)).setCell ⟨B8,1,none⟩ (.slice d' F'.length zi)).setCell ⟨B8,2,none⟩ (.slice t' P'.length b9)):=by
 obtain⟨l1,l2,l3⟩:=h.lo;exact⟨h.box.put _ _ _,h.sz.putP h.box (slv _ _ _) (slv _ _ _) (slv _ _ _) _ _ _,hf.putP h.box (slv _ _ _) (slv _ _ _) (slv _ _ _) _ _ _,A0,ht.putP h.box (slv _ _ _) (slv _ _ _) (slv _ _ _) htn (slv _ _ _) (slv _ _ _) _,((h.row.off B8 0 _ (by omega)).off B8 1 _ (by omega)).off B8 2 _ (by omega),h.rb.far3 (by omega) _ _ _,bF h.bel (by omega) _ _ _,h.lo⟩
theorem Y2 {P:Program} {c:Code} {Q:Exit ->Act ->World ->Prop} {a:Act} (T:Act ->Exit ->Act ->World ->Prop) (h:c.wp P (T a) a w) (hm:∀e a' w',T a e a' w' ->Q e a' w'):c.wp P Q a w:=Code.wp_mono hm h
theorem aem {t:Option Addr} (h:dQ w t P) (hne:P≠[]) {o:Nat} (e:t=some ⟨g,o,none⟩):g≠w.heap.size:=by
 obtain⟨g',o',_,_,e',hg,_⟩:=h 0 (by cases P with |nil=>exact absurd rfl hne |cons x l=>simp);rw[e] at e';cases e';omega
theorem ael {V:World} (h:dQ V a P) (hb:bj V g x y z) (hx:cM x) (hy:cM y) (hz:cM z) (hn:∀g' o',a=some ⟨g',o',none⟩ ->P≠[] ->g'≠g) {v:Value} (hu:cM u) (hv:cM v) (s:Value):dQ (((V.setCell ⟨g,0,none⟩ u).setCell ⟨g,1,none⟩ v).setCell ⟨g,2,none⟩ s) a P:=by
 cases P with
 |nil=>exact fun k hk=>absurd hk (by simp)
 |cons t l=>exact h.putP hb hx hy hz (fun g' o' e=>hn g' o' e (by simp)) hu hv s
theorem aaO {d:Option Addr} (h:ax w d l) {o:Nat} (e:d=some ⟨g,o,none⟩) (hne:l≠[]):g<w.heap.size:=by
 obtain⟨g',o',e',hg,_⟩:=h 0 (by cases l with |nil=>exact absurd rfl hne |cons x l=>simp);rw[e] at e';cases e';exact hg
def vJ (V:List Vr) (L:List (List Int)) (R:List (List Fr)) (F:List (Int×Int)):List (Nat×Nat):=cj V L R (uJ L V.length) (nF F) V.length
def gw (V:List Vr) (L:List (List Int)) (R:List (List Fr)) (F:List (Int×Int)):Rat:=pF V L R (cY (vJ V L R F) fun _=>0)
def jW (V:List Vr) (L:List (List Int)) (R:List (List Fr)) (F:List (Int×Int)):Int:=if bP V L R F=0 then(if gw V L R F=0 then 3 else 0) else bP V L R F
def pA (V:List Vr) (L:List (List Int)) (R:List (List Fr)) (F:List (Int×Int)):List Int:=if jW V L R F=0 then iL (lL V.length (vJ V L R F)) else[]
def qi (V:List Vr) (L:List (List Int)) (R:List (List Fr)) (F:List (Int×Int)):Fr:=if jW V L R F=0 then qF (gw V L R F) else(false,⟨#[]⟩,⟨#[]⟩)
def Xb (V:List Vr) (L:List (List Int)) (R:List (List Fr)) (F:List (Int×Int)) (e:Ending) (w':World):Prop:=∃d cd,e=.returned (.tuple #[.slice d (pA V L R F).length cd,dP (qi V L R F),.int .i64 (jW V L R F)])/\ax w' d (pA V L R F)
structure BeC (V:List Vr) (L:List (List Int)) (R:List (List Fr)) (F:List (Int×Int)) (FF:Nat ->List Int) (PP:Nat ->List Tb) (AT:Nat ->List Nat) (FC:Nat ->List Int) (PC:Nat ->List Tb) (AC:Nat ->List Nat) (ck:Nat ->Bool) (xk:Nat ->Nat) (MT:Nat ->Tb):Prop where
 fix1:∀i (hi:i<F.length) (s b t:Option Addr) (cs cb ct:Nat) (U:World),ax U s (iL (ah V)) ->ax U b (FF i) ->dQ U t (PP i) ->Calls Tryz.prog 48 #[.agg #[.slice s V.length cs,.slice b (FF i).length cb,.slice t (PP i).length ct],.agg #[.int .i64 F[i].1,.int .i64 F[i].2]] U fun e w'=>∃d cd t' b9,e=.returned (.agg #[.slice s V.length cs,.slice d (FF (i+1)).length cd,.slice t' (PP (i+1)).length b9])/\ax w' d (FF (i+1))/\Below U.heap.size U w'/\eC U.heap.size d cd/\eC U.heap.size t' b9/\∀Z,Z<U.heap.size ->jG w' Z t' (PP (i+1))
 at1:∀i (hi:i<F.length),∃v z:Nat,F[i].1=(v:Int)/\F[i].2=(z:Int)/\v<V.length/\AT (i+1)=(AT i).set v z
 at0:AT 0=List.replicate V.length 0
 len:∀i,(AT i).length=V.length/\(AC i).length=V.length
 link:FF F.length=FC 0/\PP F.length=PC 0/\AT F.length=AC 0
 con:∀k,k<V.length ->(FC k).contains (k:Int)=ck k
 no:∀k,k<V.length ->ck k=false ->FC (k+1)=FC k/\PC (k+1)=PC k/\AC (k+1)=AC k
 only:∀k,k<V.length ->ck k=true ->∀(s b t q:Option Addr) (cs cb ct cq:Nat) (U:World),ax U s (iL (ah V)) ->ax U b (FC k) ->dQ U t (PC k) ->ax U q [(k:Int)] ->Calls Tryz.prog 51 #[.agg #[.slice s V.length cs,.slice b (FC k).length cb,.slice t (PC k).length ct],.slice q 1 cq,.bool true] U fun e w'=>∃x y,e=.returned (.agg #[x,y])/\cR w' x y (MT k)/\Below U.heap.size U w'
 best:∀k,k<V.length ->ck k=true ->∀(s:Option Addr) (cs:Nat) (x y:Value) (U:World),ax U s (iL (ah V)) ->cR U x y (MT k) ->Calls Tryz.prog 50 #[.slice s V.length cs,.agg #[x,y]] U fun e w'=>∃(d:Option Addr) (cd:Nat) (bf:Fr),e=.returned (.tuple #[.slice d 1 cd,dP bf,.int .i64 0])/\ax w' d [(xk k:Int)]/\Below U.heap.size U w'
 fix2:∀k,k<V.length ->ck k=true ->∀(s b t:Option Addr) (cs cb ct:Nat) (U:World),ax U s (iL (ah V)) ->ax U b (FC k) ->dQ U t (PC k) ->Calls Tryz.prog 48 #[.agg #[.slice s V.length cs,.slice b (FC k).length cb,.slice t (PC k).length ct],.agg #[.int .i64 (k:Nat),.int .i64 (xk k:Nat)]] U fun e w'=>∃d cd t' b9,e=.returned (.agg #[.slice s V.length cs,.slice d (FC (k+1)).length cd,.slice t' (PC (k+1)).length b9])/\ax w' d (FC (k+1))/\Below U.heap.size U w'/\eC U.heap.size d cd/\eC U.heap.size t' b9/\∀Z,Z<U.heap.size ->jG w' Z t' (PC (k+1))
 at2:∀k,k<V.length ->ck k=true ->AC (k+1)=(AC k).set k (xk k)
 last:∀(s b t:Option Addr) (cs cb ct:Nat) (U:World),ax U s (iL (ah V)) ->ax U b (FC V.length) ->dQ U t (PC V.length) ->Calls Tryz.prog 51 #[.agg #[.slice s V.length cs,.slice b (FC V.length).length cb,.slice t (PC V.length).length ct],.slice none 0 0,.bool true] U fun e w'=>∃(x:Value) (g o cg:Nat),e=.returned (.agg #[x,.slice (some ⟨g,o,none⟩) 1 cg])/\w'.cell? ⟨g,o,none⟩=some (.bool (qF (gw V L R F)).1)/\w'.cell? ⟨g,o+1,none⟩=some (.string (qF (gw V L R F)).2.1)/\w'.cell? ⟨g,o+2,none⟩=some (.string (qF (gw V L R F)).2.2)/\cM x/\Below U.heap.size U w'
 fin:AC V.length=lL V.length (vJ V L R F)
 size:qw (gw V L R F)<=40000
 few:∀k,(FC k).length<=1000
theorem amw {F:List (Int×Int)} (hD:mJ V R) (fN:bP V L R F=0):∃FF PP AT FC PC AC ck xk MT,BeC V L R F FF PP AT FC PC AC ck xk MT/\FF 0=iL (uJ L V.length)/\PP 0=gT V L R (uJ L V.length):=by
 obtain⟨h0,hz,hl⟩:=qh fN;have aM:=gD h0;have hp:=mi h0;have hw:=M3 h0;have hc:=Xm h0;generalize o8:uJ L V.length=ws at hw hc;have hn:ws.Nodup:=hw.nodup_iff.2 pO;have hlt:∀v∈ws,v<V.length:=fun v hv=>bG.1 (hw.mem_iff.1 hv);have hwl:=Et hn hlt;have h8:=aM.n8;have bJ:(iL (ah V)).length=V.length:=by rw[ba,gR]
 have hFl:F.length=(nF F).length:=by simp[nF]
 have Ur:∀i (hi:i<F.length),F[i]=((((nF F)[i]'(by omega)).1:Int),(((nF F)[i]'(by omega)).2:Int)):=fun i hi=>by
  have:∀(l:List (Nat×Nat)) (e:F=zF l) (h2:i<l.length),F[i]=((l[i].1:Int),(l[i].2:Int)):=fun l e h2=>by
   subst e;simp[zF]
  exact this (nF F) hz (by omega)
 have lA:∀i,kW (ah V) V.length ((nF F).take i):=fun i=>⟨by rw[List.map_take];exact hl.nd.sublist (List.take_sublist _ _),fun p hp=>hl.lt p (MM hp),fun p hp=>hl.val p (MM hp)⟩;have hch:=Pq h0 hw hc hl;have hnew:∀k,(!((nF F).map (·.1)).contains k)=true ->¬k∈(cj V L R ws (nF F) k).map (·.1):=fun k h=>Vc (by simpa using h)
 have hstep:∀k,(!((nF F).map (·.1)).contains k)=true ->cj V L R ws (nF F) (k+1)=cj V L R ws (nF F) k++[(k,gM (gG V L R ws (cj V L R ws (nF F) k) [(k:Int)]).2 ((gG V L R ws (cj V L R ws (nF F) k) [(k:Int)]).2.length - 1))]:=fun k h=>by
  rw[cj,az];intro e;rw[e] at h;cases h
 have hmx:∀k,k<V.length ->(!((nF F).map (·.1)).contains k)=true ->di (ah V) V.length (gG V L R ws (cj V L R ws (nF F) k) [(k:Int)])/\(gG V L R ws (cj V L R ws (nF F) k) [(k:Int)]).1=[(k:Int)]/\(gG V L R ws (cj V L R ws (nF F) k) [(k:Int)]).2.length=sz (ah V) k:=fun k hk h=>by
  obtain⟨h1,h2,M,hM,_⟩:=NY h0 hw hc (hch k (by omega)) (NT hk) (fun v hv=>by rw[Cl,fX] at hv;subst hv;exact hnew v h);refine⟨h1,h2,?_⟩;rw[hM,c5,lY,Cl,Pj]
 have S4:∀k,k<V.length ->(!((nF F).map (·.1)).contains k)=true ->gM (gG V L R ws (cj V L R ws (nF F) k) [(k:Int)]).2 ((gG V L R ws (cj V L R ws (nF F) k) [(k:Int)]).2.length - 1)<sz (ah V) k:=fun k hk h=>by
  have h1:=Ib (gG V L R ws (cj V L R ws (nF F) k) [(k:Int)]).2 ((gG V L R ws (cj V L R ws (nF F) k) [(k:Int)]).2.length - 1);have h2:=(hmx k hk h).2.2;have h3:=im hp k;omega
 refine⟨fun i=>mh ws ((nF F).take i),fun i=>jN V L R ws ((nF F).take i),fun i=>lL V.length ((nF F).take i),fun k=>mh ws (cj V L R ws (nF F) k),fun k=>jN V L R ws (cj V L R ws (nF F) k),fun k=>lL V.length (cj V L R ws (nF F) k),fun k=>!((nF F).map (·.1)).contains k,fun k=>gM (gG V L R ws (cj V L R ws (nF F) k) [(k:Int)]).2 ((gG V L R ws (cj V L R ws (nF F) k) [(k:Int)]).2.length - 1),fun k=>gG V L R ws (cj V L R ws (nF F) k) [(k:Int)],?_,rfl,rfl⟩;have TS:vJ V L R F=cj V L R ws (nF F) V.length:=by rw[vJ,o8]
 refine{fix1:=?_,at1:=?_,at0:=amD _,len:=fun i=>⟨Lm _ _,Lm _ _⟩,link:=?_,con:=?_,no:=?_,only:=?_,best:=?_,fix2:=?_,at2:=?_,last:=?_,fin:=by rw[TS],size:=?_,few:=?_}
 ·intro i hi s b t cs cb ct U h1 h2 h3;have hi':i<(nF F).length:=by omega
  rw[Ur i hi,fR hi'];exact ab5 h0 hD hw hc (lA i) (hl.lt _ (bH hi')) (hl.val _ (bH hi')) s b t cs cb ct U h1 h2 h3
 ·intro i hi;have hi':i<(nF F).length:=by omega
  refine⟨(nF F)[i].1,(nF F)[i].2,by rw[Ur i hi],by rw[Ur i hi],hl.lt _ (bH hi'),?_⟩;show lL V.length ((nF F).take (i+1))=_;rw[fR hi',acT]
 ·show mh ws ((nF F).take F.length)=mh ws (nF F)/\jN V L R ws ((nF F).take F.length)=jN V L R ws (nF F)/\lL V.length ((nF F).take F.length)=lL V.length (nF F);rw[hFl,fJ];exact⟨rfl,rfl,rfl⟩
 ·intro k hk;show (iL (fC ws (cj V L R ws (nF F) k))).contains (k:Int)=!((nF F).map (·.1)).contains k;rw[ry,lh,Ag, <- yr,lh]
  have:((k:Nat):Int)∈iL (fC ws (cj V L R ws (nF F) k))↔k∈fC ws (cj V L R ws (nF F) k):=by
   rw[iL,bs];exact⟨fun ⟨x,hx,e⟩=>(show x=k by omega)▸hx,fun h=>⟨k,h,rfl⟩⟩
  rw[this,yK,hw.mem_iff,bG,Ia];exact⟨fun h hm=>h.2 (.inl hm),fun h=>⟨hk,fun hm=>hm.elim h fun h=>by omega⟩⟩
 ·intro k hk h
  have e:cj V L R ws (nF F) (k+1)=cj V L R ws (nF F) k:=by
   rw[cj,ay (by simpa using h)]
  show mh ws (cj V L R ws (nF F) (k+1))=_/\jN V L R ws (cj V L R ws (nF F) (k+1))=_/\lL V.length (cj V L R ws (nF F) (k+1))=_;rw[e];exact⟨rfl,rfl,rfl⟩
 ·intro k hk h s b t q cs cb ct cq U h1 h2 h3 h4;exact ZX (Q:=[(k:Int)]) h0 hD hw hc (hch k (by omega)) (by simp) s b t q cs cb ct cq U h1 h2 h3 h4
 ·intro k hk h s cs x y U h1 h2;obtain⟨m1,m2,m3⟩:=hmx k hk h;obtain⟨b',c',fD,kp,rfl,rfl,h3,h4,_⟩:=h2;have hcw:=ah5 h0 hD hw hc (hch k (by omega)) [(k:Int)];have eM:=Jy aM.fine k;have hs1:=im hp k;rw[m2] at h3;have:=aeB s b' c' cs fD kp (iL (ah V)) [(k:Int)] (gG V L R ws (cj V L R ws (nF F) k) [(k:Int)]).2 U h1 h3 h4 (by rw[bJ];omega) (by simp) (Po (Fk aM.fine (by rw[bJ];exact NT hk)) (by rw[ew,Cl,Pj];exact m3)) (hcw.up (by decide)) (by omega);rw[bJ,ew,Cl] at this;have ed:∀x,bM (ah V) [k] x=[x]:=fun x=>by rw[bM,bM,cnt,Ce]
  rw[ed] at this;rw[m2];exact this.af fun e w' ⟨d,cd,k1,k2,k3⟩=>⟨d,cd,_,k1,k2,k3⟩
 ·intro k hk h s b t cs cb ct U h1 h2 h3;show Calls _ _ _ U fun e w'=>∃d cd t' b9,e=.returned (.agg #[.slice s V.length cs,.slice d (mh ws (cj V L R ws (nF F) (k+1))).length cd,.slice t' (jN V L R ws (cj V L R ws (nF F) (k+1))).length b9])/\ax w' d (mh ws (cj V L R ws (nF F) (k+1)))/\Below U.heap.size U w'/\eC U.heap.size d cd/\eC U.heap.size t' b9/\∀Z,Z<U.heap.size ->jG w' Z t' (jN V L R ws (cj V L R ws (nF F) (k+1)));rw[hstep k h];exact ab5 h0 hD hw hc (hch k (by omega)) (p:=(k,_)) hk (S4 k hk h) s b t cs cb ct U h1 h2 h3
 ·intro k hk h;show lL V.length (cj V L R ws (nF F) (k+1))=_;rw[hstep k h,acT]
 ·intro s b t cs cb ct U h1 h2 h3;have CR:=hch V.length (ar _);have hnone:∀v∈ag ([]:List Int),¬v∈(cj V L R ws (nF F) V.length).map (·.1):=fun v hv=>by cases hv
  obtain⟨m1,m2,M,hM,KQ⟩:=NY h0 hw hc CR (q:=[]) (pV.2 ⟨fun x hx=>(by cases hx),List.Pairwise.nil⟩) hnone
  have hM0:M 0=gw V L R F:=by
   have h4:=KQ 0 (show 0<1 by decide)
   have he:(List.range V.length).filter (fun u=>!((cj V L R ws (nF F) V.length).map (·.1)).contains u&&!(ag ([]:List Int)).contains u)=[]:=by
    rw[List.filter_eq_nil_iff];intro u hu;rw[ia,Ag, <- yr,lh];exact fun hh=>hh.1 ((Ia _ _).2 (.inr (bG.1 hu)))
   rw[he] at h4;obtain⟨⟨g,_,hg,sk⟩,_⟩:=h4;rw[<- sk,gw,TS];congr 1
   funext u
   rw[hg u qG];rfl
  refine(ZX (Q:=[]) h0 hD hw hc CR (by simp) s b t none cs cb ct 0 U h1 h2 h3 (fun k hk=>absurd hk (by simp))).af fun e' w' hh=>?_;obtain⟨x,y,k2,⟨b',c',fD,kp,k3,k4,_,k5,_⟩,k6⟩:=hh;have hc1:(gG V L R ws (cj V L R ws (nF F) V.length) []).2=[qF (gw V L R F)]:=by rw[hM, <- hM0];rfl
  rw[hc1] at k4 k5;obtain⟨g,o,k7,_,k8,k9,k10⟩:=k5 0 (by simp);refine⟨x,g,o,kp,by rw[k2,k4,k7];rfl,?_,?_,?_,⟨_,_,_,k3⟩,k6⟩
  ·rw[jw,fH] at k8;exact k8
  ·rw[jw,fH] at k9;exact k9
  ·rw[jw,fH] at k10;exact k10
 ·have CR:=hch V.length (ar _);have hg:Fit (ah V) (cY (cj V L R ws (nF F) V.length) fun _=>0):=Nr CR.val fun u=>im hp u;have h1:=(PD.net (R:=R) (L:=L) (ws:=List.range V.length) h0 (fun v hv=>bG.1 hv)).prod hg;have h2:=(PI.net h0 (fun v hv=>bG.1 hv) (RD h0)).val _ hg;rw[h2, <- JN] at h1;have hz:eW R (List.range V.length)≠0:=(PD.net (V:=V) (L:=L) h0 (fun v hv=>bG.1 hv)).nz.1;have h3:=h1.1.size hz h1.2;have h4:=Qy (n:=1) (by omega);have h5:(B (eW R (List.range V.length))).size<=4000:=hD;rw[gw,TS,pF];omega
 ·intro k;show (iL _).length<=1000;rw[ba];exact aS (N8 _ _).length_le (by omega)
variable {p q:Rat}
def BeT (B8 G9 k:Nat) (p q r:Value) (x:Nat) (c:Bool) (U:World):Prop:=c=false ->(U.cell? ⟨B8,0,none⟩=some p/\U.cell? ⟨B8,1,none⟩=some q/\U.cell? ⟨B8,2,none⟩=some r)/\U.cell? ⟨G9,k,none⟩=some (.int .i64 (x:Nat))
theorem alK (h:cQ p q=0):p=q:=by
 by_cases h1:p<q
 ·rw[cQ,ay h1] at h;exact absurd h (by decide)
 ·by_cases h2:p=q
  ·exact h2
  ·rw[cQ,az h1,az h2] at h;exact absurd h (by decide)
theorem AG {V:World} {b:Option Addr} {n:Bool} {x y:ByteArray} (h:ax V b l) (hb:aC V g n x y) (u v s:Value):ax (((V.setCell ⟨g,0,none⟩ u).setCell ⟨g,1,none⟩ v).setCell ⟨g,2,none⟩ s) b l:=by
 have hn:∀g' o',b=some ⟨g',o',none⟩ ->l≠[] ->g'≠g:=fun g' o' e hne e2=>by
  obtain⟨g2,o2,e3,_,hc⟩:=h 0 (by cases l with |nil=>exact absurd rfl hne |cons x l=>simp);rw[e] at e3;cases e3;subst e2;rw[fH,cC V _ _ _ _ (0,0) hb] at hc;match o',hc with
  |0,hc=>cases hc
  |1,hc=>cases hc
  |2,hc=>cases hc
  |o+3,hc=>simp at hc
 exact((h.off hn).off hn).off hn
theorem ai1 (a b c f:Option Addr) (ca cb cc cf:Nat) (V:List Vr) (L:List (List Int)) (R:List (List Fr)) (F:List (Int×Int)) (w:World) (h:zk w a b c V L R) (hF:jI w f F) (hn:F.length<=1000) (vt:F.length<=cf):
  Calls Tryz.prog 14 #[.agg #[.slice a V.length ca,.slice b L.length cb,.slice c R.length cc],.slice f F.length cf] w fun e w'=>Xb V L R F e w'/\Below w.heap.size w w':=by
 obtain⟨i0,cU,hz0,hz1,hz2⟩:=eT Tryz.infoInt;have oZ:=hid (fun (U:World) (hU:Below w.heap.size w U)=>SZ a b c f ca cb cc cf V L R F U (h.net.aa hU) h.sm (hF.aa hU) hn vt)
 have fB:Hid (bP V L R F≠0 ->jW V L R F=bP V L R F/\pA V L R F=[]/\qi V L R F=(false,⟨#[]⟩,⟨#[]⟩)):=fun e=>by
  have e1:jW V L R F=bP V L R F:=az e;exact⟨e1,by rw[pA,e1,az e],by rw[qi,e1,az e]⟩
 have dZ:Hid (bP V L R F=0 ->gw V L R F=0 ->jW V L R F=3/\pA V L R F=[]/\qi V L R F=(false,⟨#[]⟩,⟨#[]⟩)):=fun e e2=>by
  have e1:jW V L R F=3:=by rw[jW,ay e,ay e2]
  exact⟨e1,by rw[pA,e1,az (by decide)],by rw[qi,e1,az (by decide)]⟩
 have fQ:Hid (bP V L R F=0 ->gw V L R F≠0 ->jW V L R F=0/\pA V L R F=iL (lL V.length (vJ V L R F))/\qi V L R F=qF (gw V L R F)):=fun e e2=>by
  have e1:jW V L R F=0:=by rw[jW,ay e,az e2]
  exact⟨e1,by rw[pA,ay e1],by rw[qi,ay e1]⟩
 have pM:Hid (bP V L R F=0 ->∃FF PP AT FC PC AC ck xk MT,BeC V L R F FF PP AT FC PC AC ck xk MT/\FF 0=iL (uJ L V.length)/\PP 0=gT V L R (uJ L V.length)):=fun e=>amw h.lt e
 have vM:Hid (bP V L R F=0 ->V.length<=8/\1<=V.length):=fun e=>by
  have aM:=gD (qh e).1;have:=aM.fine.one;rw[ba,gR] at this;exact⟨aM.n8,this⟩
 have Ge:Hid (bP V L R F=0 ->∀U:World,Calls Tryz.prog 47 #[.agg #[.slice a V.length ca,.slice b L.length cb,.slice c R.length cc]] U fun e w'=>∃G,e=.returned (.slice (some ⟨G,0,none⟩) V.length V.length)/\bV w' G (List.range V.length)/\Below U.heap.size U w'):=fun e U=>aiQ a b c ca cb cc L.length R.length V U (vM.o e).1
 have q7:Hid (bP V L R F=0 ->∀(Ga:Nat) (U:World),Below w.heap.size w U ->bV U Ga (List.range V.length) ->Calls Tryz.prog 46 #[.agg #[.slice a V.length ca,.slice b L.length cb,.slice c R.length cc],.slice (some ⟨Ga,0,none⟩) V.length V.length] U fun e w'=>∃g d cd t' b9,e=.returned (.agg #[.slice (some ⟨g,0,none⟩) V.length V.length,.slice d (iL (uJ L V.length)).length cd,.slice t' (gT V L R (uJ L V.length)).length b9])/\ax w' (some ⟨g,0,none⟩) (iL (ah V))/\ax w' d (iL (uJ L V.length))/\dQ w' t' (gT V L R (uJ L V.length))/\Below U.heap.size U w'/\eC U.heap.size t' b9):=fun e Ga U hU hr=>by
  obtain⟨h0,_,_⟩:=qh e;have aM:=gD h0;have xo:1<=L.length:=by rw[aM.len];exact(vM.o e).2
  have dh:∀x∈L,x.length<=140737488355328:=fun x hx=>by
   obtain⟨i,hi,rfl⟩:=iE hx;have:=(aM.up i hi).length;have:=aM.n8;omega
  have KH:(iL (List.range V.length)).length=V.length:=by simp[iL]
  have CY:=h.aa hU;have:=Zo a b c (some ⟨Ga,0,none⟩) ca cb cc V.length V L R (iL (List.range V.length)) U CY.net CY.ls h.sm h.wt h0 (NU h0) xo dh hr.ints (by have:=aM.n8;omega) (fun U' CZ=>Pn a b c ca cb cc V L R U' CZ h.sm);rw[KH] at this;rw[ba,gT,c5];exact this
 have WG:=hid (fun (U:World) (hU:Below w.heap.size w U)=>hF.aa hU);have bY:=hid (LK.new w (.slice a V.length ca) (.slice b L.length cb) (.slice c R.length cc));obtain⟨n0,n1,n2⟩:=bY.o.1.1.cells;clear h hF vt;obtain⟨FE,KW⟩:∃FE,bP V L R F=FE:=⟨_,rfl⟩;rw[KW] at oZ fB dZ fQ pM vM Ge q7;clear KW;go_enter Tryz.func14,Tryz.ntmps14;go_wp2_with fail
 generalize ((w.alloc (NC (.slice a V.length ca) (.slice b L.length cb) (.slice c R.length cc))).alloc (FC false ⟨#[]⟩ ⟨#[]⟩))=W00 at *;refine(oZ.o W00 bY.o.1.2).af ?_;rintro e W0 ⟨rfl,hb2⟩;have HK:=hid (bY.o.step hb2);clear n0 n1 n2 hb2 bY oZ;by_cases fN:FE=0
 ·subst fN;obtain⟨FF,PP,AT,vX,PC,AC,ck,xk,MT,hBC,C9,pq⟩:=pM.o rfl;obtain⟨E6,hV1⟩:=vM.o rfl;replace Ge:=hid (Ge.o rfl);replace q7:=hid (q7.o rfl);replace dZ:=hid (dZ.o rfl);replace fQ:=hid (fQ.o rfl);rw[<- C9, <- pq] at q7;have mI:=hid hBC;clear fB pM vM hBC C9 pq;obtain⟨zK,Us⟩:∃zK,FF 0=zK:=⟨_,rfl⟩;obtain⟨uj,Uf⟩:∃uj,PP 0=uj:=⟨_,rfl⟩;rw[Us,Uf] at q7;have Mq:=hid Us;have zD:=hid Uf;clear Us Uf;obtain⟨n0,n1,n2⟩:=HK.o.1.1.cells;have hW0:w.heap.size+1<W0.heap.size:=HK.o.2.lt;go_upto_region 4 with fail
  refine Y2 (fun a0 e a' w'=>e=.normal/\∃(Ga G B8:Nat) (d t:Option Addr) (cd ct:Nat),a'=((((a0.put (some 24) (.agg #[.slice a V.length ca,.slice b L.length cb,.slice c R.length cc])).put (some 25) (.agg #[.slice a V.length ca,.slice b L.length cb,.slice c R.length cc])).put (some 26) (.slice (some ⟨Ga,0,none⟩) V.length V.length)).put (some 27) (.agg #[.slice (some ⟨G,0,none⟩) V.length V.length,.slice d zK.length cd,.slice t uj.length ct])).put (some 8) (.pointer (some ⟨B8,0,none⟩))/\bj w' B8 (.slice (some ⟨G,0,none⟩) V.length V.length) (.slice d zK.length cd) (.slice t uj.length ct)/\ax w' (some ⟨G,0,none⟩) (iL (ah V))/\ax w' d zK/\dQ w' t uj/\Below W0.heap.size W0 w'/\w.heap.size+1<B8) ?_ ?_
  ·have dT:Hid (∀U:World,Below W0.heap.size W0 U ->U.cell? ⟨w.heap.size,0,none⟩=some (.slice a V.length ca)/\U.cell? ⟨w.heap.size,1,none⟩=some (.slice b L.length cb)/\U.cell? ⟨w.heap.size,2,none⟩=some (.slice c R.length cc)):=fun U hU=>(HK.o.1.1.aa hU HK.o.1.1.lt).cells;have aG:Hid (Below W0.heap.size W0 W0.drew):=(au W0.heap.size W0).drew;obtain⟨W1,hW1⟩:∃W1,W0.drew=W1:=⟨_,rfl⟩;rw[hW1] at aG;refine jJ (S:=fun U=>U.cell? ⟨w.heap.size,0,none⟩=some (.slice a V.length ca)/\U.cell? ⟨w.heap.size,1,none⟩=some (.slice b L.length cb)/\U.cell? ⟨w.heap.size,2,none⟩=some (.slice c R.length cc)) (by kernel_rfl) (by rw[hW1];exact dT.o _ aG.o) (fun aq=>?_);rw[hW1] at aq⊢;have kT:Hid (∀U:World,Below W0.heap.size W0 U ->Below w.heap.size w U):=fun U hU=>HK.o.1.2.trans (hU.af HK.o.1.2.size);clear hW1 n0 n1 n2 dZ fQ mI;refine aw 0 (.agg #[.slice a V.length ca,.slice b L.length cb,.slice c R.length cc]) ?_;refine aw 1 (.agg #[.slice a V.length ca,.slice b L.length cb,.slice c R.length cc]) ?_;refine aF [2,4] (cA ?_ (cA ?_ aD))
   focus
    intro K' hK';go_simp;refine(Ge.o W1).af ?_;rintro e u1 ⟨Ga,rfl,vp,hb1⟩;have ky:=hid vp;replace aG:=hid (aG.o.trans (hb1.af aG.o.size));refine hK'.o _ _ (dT.o u1 aG.o) (fun ak=>?_);clear hb1 vp;clear hK' K' aq;have aq:=ak;clear ak;refine aF [3,4] (cA ?_ (cA ?_ aD))
    focus
     intro K' hK';go_simp;refine(q7.o Ga u1 (kT.o _ aG.o) ky.o).af ?_;rintro e u2 ⟨G,d,cd,t,ct,rfl,xp,i7,CC,hb2,dm⟩;have j8:=hid xp;have vW:=hid i7;have jZ:=hid CC;have fA:Hid (∀g o,t=some ⟨g,o,none⟩ ->u1.heap.size<=g):=dm.2;have yZ:u1.heap.size<=u2.heap.size:=hb2.size;replace aG:=hid (aG.o.trans (hb2.af aG.o.size));refine hK'.o _ _ (dT.o u2 aG.o) (fun ak=>?_);clear hb2 xp i7 CC dm;clear hK' K' aq;have aq:=ak;clear ak;refine aF [4] (cA ?_ aD);intro K' hK';go_simp;have aN:=(au _ u2).alloc (ar _) (Fu (.slice none 0 0) (.slice none 0 0) (.slice none 0 0));have gY:=hid (bj.at (w:=u2) rfl (.slice none 0 0) (.slice none 0 0) (.slice none 0 0));have sJ:w.heap.size+1<u2.heap.size:=aR hW0 aG.o.size;have Hw:W0.heap.size<=u2.heap.size:=aG.o.size;have dB:Hid (∀g o,t=some ⟨g,o,none⟩ ->uj≠[] ->g≠u2.heap.size):=fun g o e hne=>aem jZ.o hne e;replace j8:=hid (j8.o.aa aN);replace vW:=hid (vW.o.aa aN);replace jZ:=hid (jZ.o.aa aN);replace aG:=hid (aG.o.trans (aN.af aG.o.size));refine hK'.o _ _ (dT.o _ aG.o) (fun ak=>?_);clear aN;clear hK' K' aq;have aq:=ak;clear ak;obtain⟨B8,xr⟩:∃B8,u2.heap.size=B8:=⟨_,rfl⟩;obtain⟨u3,eG⟩:∃u3,u2.alloc (Fu (.slice none 0 0) (.slice none 0 0) (.slice none 0 0))=u3:=⟨_,rfl⟩;have kI:u2.alloc (.cells #[.slice none 0 0,.slice none 0 0,.slice none 0 0] 87)=u3:=eG;rw[xr] at gY sJ Hw dB;rw[eG] at gY aG j8 vW jZ;simp only[kI] at aq⊢;simp only[xr];clear eG kI xr;try simp only[gE,aP]
    rotate_left
    focus
     intro K' hK';go_simp;have aN:=(au _ u1).alloc (ar _) (Fu (.slice none 0 0) (.slice none 0 0) (.slice none 0 0));have gY:=hid (bj.at (w:=u1) rfl (.slice none 0 0) (.slice none 0 0) (.slice none 0 0));have sJ:w.heap.size+1<u1.heap.size:=aR hW0 aG.o.size;have Hw:W0.heap.size<=u1.heap.size:=aG.o.size;replace aG:=hid (aG.o.trans (aN.af aG.o.size));replace ky:=hid (ky.o.aa aN ky.o.lt);refine hK'.o _ _ (dT.o _ aG.o) (fun ak=>?_);clear aN;clear hK' K' aq;have aq:=ak;clear ak;obtain⟨B8,xr⟩:∃B8,u1.heap.size=B8:=⟨_,rfl⟩;obtain⟨u3,eG⟩:∃u3,u1.alloc (Fu (.slice none 0 0) (.slice none 0 0) (.slice none 0 0))=u3:=⟨_,rfl⟩;have kI:u1.alloc (.cells #[.slice none 0 0,.slice none 0 0,.slice none 0 0] 87)=u3:=eG;rw[xr] at gY sJ Hw;rw[eG] at gY aG ky;simp only[kI] at aq⊢;simp only[xr];clear eG kI xr;refine aF [3] (cA ?_ aD);intro K' hK';go_simp;refine(q7.o Ga u3 (kT.o _ aG.o) ky.o).af ?_;rintro e u2 ⟨G,d,cd,t,ct,rfl,xp,i7,CC,hb2,dm⟩;have j8:=hid xp;have vW:=hid i7;have jZ:=hid CC;have fA:Hid (∀g o,t=some ⟨g,o,none⟩ ->u3.heap.size<=g):=dm.2;have yZ:u3.heap.size<=u2.heap.size:=hb2.size;replace aG:=hid (aG.o.trans (hb2.af aG.o.size));have hB2:B8<u3.heap.size:=gY.o.lt;replace gY:=hid (gY.o.aa hb2 gY.o.lt);refine hK'.o _ _ (dT.o u2 aG.o) (fun ak=>?_);clear hb2 xp i7 CC dm;clear hK' K' aq;have aq:=ak;clear ak;have dB:Hid (∀g o,t=some ⟨g,o,none⟩ ->uj≠[] ->g≠B8):=fun g o e _=>by have:=fA.o g o e;omega
   rotate_left 2
   focus
    intro K' hK';go_simp;have aN:=(au _ W1).alloc (ar _) (Fu (.slice none 0 0) (.slice none 0 0) (.slice none 0 0));have gY:=hid (bj.at (w:=W1) rfl (.slice none 0 0) (.slice none 0 0) (.slice none 0 0));have sJ:w.heap.size+1<W1.heap.size:=aR hW0 aG.o.size;have Hw:W0.heap.size<=W1.heap.size:=aG.o.size;replace aG:=hid (aG.o.trans (aN.af aG.o.size));refine hK'.o _ _ (dT.o _ aG.o) (fun ak=>?_);clear aN;clear hK' K' aq;have aq:=ak;clear ak;obtain⟨B8,xr⟩:∃B8,W1.heap.size=B8:=⟨_,rfl⟩;obtain⟨u3,eG⟩:∃u3,W1.alloc (Fu (.slice none 0 0) (.slice none 0 0) (.slice none 0 0))=u3:=⟨_,rfl⟩;have kI:W1.alloc (.cells #[.slice none 0 0,.slice none 0 0,.slice none 0 0] 87)=u3:=eG;rw[xr] at gY sJ Hw;rw[eG] at gY aG;simp only[kI] at aq⊢;simp only[xr];clear eG kI xr;refine aF [2] (cA ?_ aD);intro K' hK';go_simp;refine(Ge.o u3).af ?_;rintro e u1 ⟨Ga,rfl,vp,hb1⟩;have ky:=hid vp;replace aG:=hid (aG.o.trans (hb1.af aG.o.size));replace gY:=hid (gY.o.aa hb1 gY.o.lt);refine hK'.o _ _ (dT.o u1 aG.o) (fun ak=>?_);clear hb1 vp;clear hK' K' aq;have aq:=ak;clear ak;refine aF [3] (cA ?_ aD);intro K' hK';go_simp;refine(q7.o Ga u1 (kT.o _ aG.o) ky.o).af ?_;rintro e u2 ⟨G,d,cd,t,ct,rfl,xp,i7,CC,hb2,dm⟩;have j8:=hid xp;have vW:=hid i7;have jZ:=hid CC;have fA:Hid (∀g o,t=some ⟨g,o,none⟩ ->u1.heap.size<=g):=dm.2;have yZ:u1.heap.size<=u2.heap.size:=hb2.size;replace aG:=hid (aG.o.trans (hb2.af aG.o.size));have hB2:B8<u1.heap.size:=gY.o.lt;replace gY:=hid (gY.o.aa hb2 gY.o.lt);refine hK'.o _ _ (dT.o u2 aG.o) (fun ak=>?_)
    clear hb2 xp i7 CC dm;clear hK' K' aq;have aq:=ak;clear ak;have dB:Hid (∀g o,t=some ⟨g,o,none⟩ ->uj≠[] ->g≠B8):=fun g o e _=>by have:=fA.o g o e;omega
   all_goals
    obtain⟨p0,p1,p2⟩:=gY.o.cells;have Av:=gY.o.fz 0;have Au:=gY.o.fz 1;have Ar:=gY.o.fz 2;refine aF [5] (cA ?_ aD);intro K' hK';go_simp;have lR:=hid (gY.o.put (.slice (some ⟨G,0,none⟩) V.length V.length) (.slice d zK.length cd) (.slice t uj.length ct));have Mn:=hid (j8.o.putP gY.o (slv _ _ _) (slv _ _ _) (slv _ _ _) (.slice (some ⟨G,0,none⟩) V.length V.length) (.slice d zK.length cd) (.slice t uj.length ct));have Mu:=hid (vW.o.putP gY.o (slv _ _ _) (slv _ _ _) (slv _ _ _) (.slice (some ⟨G,0,none⟩) V.length V.length) (.slice d zK.length cd) (.slice t uj.length ct));have PX:=hid (ael jZ.o gY.o (slv _ _ _) (slv _ _ _) (slv _ _ _) dB.o (slv (some ⟨G,0,none⟩) V.length V.length) (slv d zK.length cd) (.slice t uj.length ct));have sT:=hid (bF aG.o Hw (.slice (some ⟨G,0,none⟩) V.length V.length) (.slice d zK.length cd) (.slice t uj.length ct));refine hK'.o _ _ (dT.o _ sT.o) (fun ak=>?_);clear p0 p1 p2 Av Au Ar gY j8 vW jZ aG dB;clear hK' K' aq;have aq:=ak;clear ak;(try simp only[gE,aP]);refine dW (by kernel_rfl) ?_ _;exact⟨rfl,Ga,G,B8,d,t,cd,ct,rfl,lR.o,Mn.o,Mu.o,PX.o,sT.o,sJ⟩
  ·rintro e a' w4 ⟨rfl,Ga,G,B8,d,t,cd,ct,rfl,hP9,Hx,vB,hT9,OJ,sJ⟩;(try simp only[aP]);have lR:=hid hP9;have Mn:=hid Hx;have Mu:=hid vB;have PX:=hid hT9;have qy:=hid (HK.o.step OJ);clear hP9 Hx vB hT9 OJ HK n0 n1 n2 Ge q7;obtain⟨n0,n1,n2⟩:=qy.o.1.1.cells
   go_wp2_with (first
    |(at_make;refine mL _ rfl _ _ 27 rfl w4.heap.size 3 i0 (.int .i64 0) 1 Tryz.underlying27 cU hz0 hz1 .i64 .i64 _ _ V.length rfl rfl (by go_num) (by go_num) (by rw[hz2];omega) (by unfold maxLen;omega) (ar _) ?_;intro w5 Oo OA))
   have hb5:=pC Oo;rw[AB] at hb5;have qP:Below w4.heap.size w4 w5:=(au _ w4).grown OA (ar _) (fun k e=>by cases e);have E9:G<w4.heap.size:=aaO Mn.o rfl (fun e=>by have e2:=bR List.length e;rw[ba,gR,lg] at e2;omega)
   have qZ:Hid (tu w (ah V) V.length w4.heap.size B8 G d t cd ct (FF 0) (PP 0) (AT 0) w5):=by
    rw[Mq.o,zD.o,mI.o.at0];exact⟨lR.o.aa qP lR.o.lt,Mn.o.aa qP,Mu.o.aa qP,fun g o e hne=>Nat.ne_of_lt (aaO Mu.o e hne),(jG.old PX.o (ar _)).aa qP,hb5,qy.o.2.aa qP qy.o.2.lt,qy.o.1.2.trans (qP.af qy.o.1.2.size),sJ,lR.o.lt,E9⟩
   clear Oo OA hb5 qP E9 lR Mn Mu PX qy n0 n1 n2 Mq zD;generalize w4.heap.size=G9 at *;go_wp2_with fail
   go_loopw [34] (fun iv wr=>∃(i:Nat) (d t:Option Addr) (cd ct:Nat),i<=F.length/\iv=.int .i64 i/\Hid (tu w (ah V) V.length G9 B8 G d t cd ct (FF i) (PP i) (AT i) wr)) (fun iv _=>F.length - (intOf iv).toNat)
   case atStart=>exact⟨0,d,t,cd,ct,aU _,rfl,qZ⟩
   case round=>
    obtain⟨i,d',t',zi,b9,hi,rfl,HS⟩:=hrel;clear qZ;by_cases hlt:i<F.length
    ·obtain⟨v,z,ev,ez,hv,hat⟩:=mI.o.at1 i hlt;obtain⟨g,o,rfl,hg,k0,k1⟩:=WG.o wr HS.o.bel i hlt;rw[ev] at k0;rw[ez] at k1;have zr:=hid (mI.o.fix1 i hlt);rw[ev,ez] at zr;have Qt:=hid hat;clear ev ez hat;have sF:=(au wr.heap.size wr).alloc (ar _) (.cells #[.int .i64 (v:Nat),.int .i64 (z:Nat)] 90);have hfb:(wr.alloc (.cells #[.int .i64 (v:Nat),.int .i64 (z:Nat)] 90)).heap[wr.heap.size]? =some (.cells #[.int .i64 (v:Nat),.int .i64 (z:Nat)] 90 (0,0)):=kd wr _;(have ze:(wr.alloc (.cells #[.int .i64 (v:Nat),.int .i64 (z:Nat)] 90)).cell? ⟨wr.heap.size,0,none⟩=some (.int .i64 (v:Nat)):=by rw[cC _ _ 0 _ _ (0,0) hfb];rfl);(have Be:(wr.alloc (.cells #[.int .i64 (v:Nat),.int .i64 (z:Nat)] 90)).cell? ⟨wr.heap.size,1,none⟩=some (.int .i64 (z:Nat)):=by rw[cC _ _ 1 _ _ (0,0) hfb];rfl);have j5:=hid (HS.o.step sF);(have hvA:v<(AT i).length:=by rw[(mI.o.len i).1];exact hv);have r0:=j5.o.row.cell v hvA;have Am:=j5.o.row.fz v;generalize (AT i)[v]'hvA=old at *;have iR:=hid (j5.o.setA v z);rw[<- Qt.o] at iR;(have hGw:wr.heap.size≠G9:=by have:=HS.o.row.lt;omega);have TH:((wr.alloc (.cells #[.int .i64 (v:Nat),.int .i64 (z:Nat)] 90)).setCell ⟨G9,v,none⟩ (.int .i64 (z:Int))).heap[wr.heap.size]? =some (.cells #[.int .i64 (v:Nat),.int .i64 (z:Nat)] 90 (0,0)):=(je _ ⟨G9,v,none⟩ _ _ hGw).trans hfb
     have zJ:Hid (((wr.alloc (.cells #[.int .i64 (v:Nat),.int .i64 (z:Nat)] 90)).setCell ⟨G9,v,none⟩ (.int .i64 (z:Int))).cell? ⟨wr.heap.size,0,none⟩=some (.int .i64 (v:Nat))/\((wr.alloc (.cells #[.int .i64 (v:Nat),.int .i64 (z:Nat)] 90)).setCell ⟨G9,v,none⟩ (.int .i64 (z:Int))).cell? ⟨wr.heap.size,1,none⟩=some (.int .i64 (z:Nat))):=⟨by rw[cC _ _ 0 _ _ (0,0) TH];rfl,by rw[cC _ _ 1 _ _ (0,0) TH];rfl⟩;clear sF hfb TH HS j5 Qt;go_upto_region 10 with fail
     generalize hU7:((wr.alloc (.cells #[.int .i64 (v:Nat),.int .i64 (z:Nat)] 90)).setCell ⟨G9,v,none⟩ (.int .i64 (z:Int)))=U7 at *;generalize wr.heap.size=od at *;clear hU7 ze Be r0 Am k0 k1 hGw;obtain⟨ze,Be⟩:=zJ.o;obtain⟨p0,p1,p2⟩:=iR.o.box.cells;have HX:=hid (zr.o (some ⟨G,0,none⟩) d' t' V.length zi b9 U7 iR.o.sz iR.o.fr iR.o.tb.tbs);clear zJ zr;go_wp2_with fail
     refine HX.o.af ?_;rintro e w7 ⟨d7,xD,t7,xB,rfl,wT,bK,iZ,Kh,EJ⟩;have Iw:=hid (iR.o.step bK);have nD:=iR.o.box.lt;have Ho:=iR.o.row.lt;have iQ:=hid (Iw.o.putP (zi:=xD) (b9:=xB) wT (fun g o e _=>by have:=iZ.2 g o e;omega) (EJ G9 Ho) (fun g o e=>by have:=Kh.2 g o e;omega));clear p0 p1 p2 ze Be;obtain⟨p0,p1,p2⟩:=Iw.o.box.cells;have Av:=Iw.o.box.fz 0;have Au:=Iw.o.box.fz 1;have Ar:=Iw.o.box.fz 2;clear wT bK iZ Kh EJ HX Iw iR;go_wp2;go_roundw
     case rel=>exact⟨i+1,_,_,_,_,by omega,by go_num,iQ⟩
     case measure=>simp[intOf];omega
    ·obtain rfl:i=F.length:=by omega
     obtain⟨l1,l2,l3⟩:=mI.o.link;rw[l1,l2,l3] at HS;clear l1 l2 l3;go_wp2_with fail
     go_loopw [50] (fun iv wr=>∃(k:Nat) (d t:Option Addr) (cd ct:Nat),k<=V.length/\iv=.int .i64 k/\Hid (tu w (ah V) V.length G9 B8 G d t cd ct (vX k) (PC k) (AC k) wr)) (fun iv _=>V.length - (intOf iv).toNat)
     case atStart=>exact⟨0,d',t',zi,b9,aU _,rfl,HS⟩
     case round=>
      obtain⟨k,d,t,cd,ct,hk,rfl,xN⟩:=hrel;clear HS;rename World=>W6
      by_cases hkn:k<V.length
      ·obtain⟨p0,p1,p2⟩:=xN.o.box.cells;have HX:=hid (GS d cd (vX k) (k:Int) W6 xN.o.fr (by have:=mI.o.few k;omega));rw[mI.o.con k hkn] at HX;obtain⟨Vb,TP⟩:∃Vb,ck k=Vb:=⟨_,rfl⟩;rw[TP] at HX;have ee:=hid TP;clear TP;go_wp2_with fail
       refine HX.o.af ?_;rintro e W7 ⟨rfl,bD⟩;have LN:=hid (xN.o.step bD);clear bD HX xN p0 p1 p2;cases Vb with
       |false=>
        obtain⟨e1,e2,e3⟩:=mI.o.no k hkn ee.o;rw[<- e1, <- e2, <- e3] at LN;clear e1 e2 e3;go_wp2;go_roundw
        case rel=>exact⟨k+1,_,_,_,_,by omega,by go_num,LN⟩
        case measure=>simp[intOf];omega
       |true=>
        have ID:=hid (mI.o.only k hkn ee.o);have DR:=hid (mI.o.best k hkn ee.o);have qA:=hid (mI.o.fix2 k hkn ee.o);have BX:=hid (mI.o.at2 k hkn ee.o);(have hkA:k<(AC k).length:=by rw[(mI.o.len k).2];exact hkn);obtain⟨x,hx⟩:∃x,xk k=x:=⟨_,rfl⟩;rw[hx] at DR qA BX;clear hx ee;go_upto_region 16 with fail
        refine Y2 (fun a0 e a' w'=>e=.normal/\∃(rR lU:Nat) (tx ty:Value) (dv:Option Addr) (jV:Nat) (bn:Bool) (bx eB:ByteArray),a'=(((((((((((((a0.put (some 58) (.pointer (some ⟨B8,0,none⟩))).put (some 59) (.slice (some ⟨G,0,none⟩) V.length V.length)).put (some 60) (.agg #[.slice (some ⟨G,0,none⟩) V.length V.length,.slice d (vX k).length cd,.slice t (PC k).length ct])).put (some 61) (.int .i64 (k:Nat))).put (some 62) (.slice (some ⟨rR,0,none⟩) 1 1)).put (some 63) (.agg #[tx,ty])).put (some 64) (.tuple #[.slice dv 1 jV,.agg #[.bool bn,.string bx,.string eB],.int .i64 0])).put (some 57) (.tuple #[.slice dv 1 jV,.agg #[.bool bn,.string bx,.string eB],.int .i64 0])).put (some 65) (.slice dv 1 jV)).put (some 66) (.agg #[.bool bn,.string bx,.string eB])).put (some 67) (.int .i64 0)).put (some 14) (.pointer (some ⟨lU,0,none⟩))).put (some 13) (.slice dv 1 jV)).put (some 15) (.int .i64 0)/\tu w (ah V) V.length G9 B8 G d t cd ct (vX k) (PC k) (AC k) w'/\ax w' dv [(x:Int)]) ?_ ?_
        ·obtain⟨D6,OS⟩:∃D6,W7.drew=D6:=⟨_,rfl⟩;have oW:=hid (LN.o.step ((au W7.heap.size W7).drew));rw[OS] at oW;have dT:Hid (∀U:World,Below D6.heap.size D6 U ->U.cell? ⟨B8,0,none⟩=some (.slice (some ⟨G,0,none⟩) V.length V.length)/\U.cell? ⟨B8,1,none⟩=some (.slice d (vX k).length cd)/\U.cell? ⟨B8,2,none⟩=some (.slice t (PC k).length ct)):=fun U hU=>(oW.o.step hU).box.cells;have aG:Hid (Below D6.heap.size D6 D6):=au _ _;refine jJ (S:=fun U=>U.cell? ⟨B8,0,none⟩=some (.slice (some ⟨G,0,none⟩) V.length V.length)/\U.cell? ⟨B8,1,none⟩=some (.slice d (vX k).length cd)/\U.cell? ⟨B8,2,none⟩=some (.slice t (PC k).length ct)) (by kernel_rfl) (by rw[OS];exact dT.o _ aG.o) (fun aq=>?_);rw[OS] at aq⊢;clear OS LN qA BX;refine aw 0 (.pointer (some ⟨B8,0,none⟩)) ?_;refine aw 1 (.slice (some ⟨G,0,none⟩) V.length V.length) ?_;refine aw 2 (.agg #[.slice (some ⟨G,0,none⟩) V.length V.length,.slice d (vX k).length cd,.slice t (PC k).length ct]) ?_;refine aw 3 (.int .i64 (k:Nat)) ?_;refine aF [4,11] (cA ?_ (cA ?_ aD))
         ·intro K' hK';go_simp;have aN:=(au _ D6).alloc (ar _) (.cells #[.int .i64 (k:Nat)] 3);have BO:Hid (ax (D6.alloc (.cells #[.int .i64 (k:Nat)] 3)) (some ⟨D6.heap.size,0,none⟩) [(k:Int)]):=JS D6 k;replace aG:=hid (aG.o.trans (aN.af aG.o.size));refine hK'.o _ _ (dT.o _ aG.o) (fun ak=>?_);clear aN;clear hK' K' aq;have aq:=ak;clear ak;obtain⟨rR,Fg⟩:∃rR,D6.heap.size=rR:=⟨_,rfl⟩;obtain⟨tF,AQ⟩:∃tF,D6.alloc (.cells #[.int .i64 (k:Nat)] 3)=tF:=⟨_,rfl⟩;rw[Fg,AQ] at BO;rw[AQ] at aG;simp only[AQ] at aq⊢;simp only[Fg];clear AQ Fg;refine aF [5,11] (cA ?_ (cA ?_ aD))
          ·intro K' hK';go_simp;refine(ID.o (some ⟨G,0,none⟩) d t (some ⟨rR,0,none⟩) V.length cd ct 1 tF (oW.o.step aG.o).sz (oW.o.step aG.o).fr (oW.o.step aG.o).tb.tbs BO.o).af ?_;rintro e u5 ⟨tx,ty,rfl,uY,hb5⟩;have HV:=hid uY;replace aG:=hid (aG.o.trans (hb5.af aG.o.size));refine hK'.o _ _ (dT.o _ aG.o) (fun ak=>?_);clear hb5 uY;clear hK' K' aq;have aq:=ak;clear ak;refine aF [6,11] (cA ?_ (cA ?_ aD))
           ·intro K' hK';go_simp;refine(DR.o (some ⟨G,0,none⟩) V.length tx ty u5 (oW.o.step aG.o).sz HV.o).af ?_;rintro e u6 ⟨dv,jV,⟨bn,bx,eB⟩,rfl,si,bD⟩;have td:=hid si;replace aG:=hid (aG.o.trans (bD.af aG.o.size));refine hK'.o _ _ (dT.o _ aG.o) (fun ak=>?_);clear bD si;clear hK' K' aq;have aq:=ak;clear ak;refine aw 7 (.tuple #[.slice dv 1 jV,.agg #[.bool bn,.string bx,.string eB],.int .i64 0]) ?_;refine aw 8 (.slice dv 1 jV) ?_;refine aw 9 (.agg #[.bool bn,.string bx,.string eB]) ?_;refine aw 10 (.int .i64 0) ?_;refine aF [11] (cA ?_ aD)
            ·intro K' hK';go_simp;have aN:=(au _ u6).alloc (ar _) (FC false ⟨#[]⟩ ⟨#[]⟩);have fF:=hid (aC.new u6 false ⟨#[]⟩ ⟨#[]⟩);have wK:D6.heap.size<=u6.heap.size:=aG.o.size;replace td:=hid (td.o.aa aN);replace aG:=hid (aG.o.trans (aN.af aG.o.size));refine hK'.o _ _ (dT.o _ aG.o) (fun ak=>?_);clear aN;clear hK' K' aq;have aq:=ak;clear ak;obtain⟨lU,oM⟩:∃lU,u6.heap.size=lU:=⟨_,rfl⟩;(have Fj:D6.heap.size<=lU:=by rw[<- oM];exact wK);clear wK;obtain⟨u14,rE⟩:∃u14,u6.alloc (FC false ⟨#[]⟩ ⟨#[]⟩)=u14:=⟨_,rfl⟩;have wH:u6.alloc (.cells #[.bool false,.string ⟨#[]⟩,.string ⟨#[]⟩] 32)=u14:=rE;rw[oM] at fF;rw[rE] at fF aG td;simp only[wH] at aq⊢;simp only[oM];clear rE wH oM;refine aw 12 (.slice dv 1 jV) ?_;(try simp only[gE,aP]);obtain⟨x0,x1,x2,f0,f1,f2⟩:=fF.o.facts;refine aF [13] (cA ?_ aD)
             ·intro K' hK';go_simp;have BM:=hid (AG td.o fF.o (.bool bn) (.string bx) (.string eB));have sT:=hid (bF aG.o Fj (.bool bn) (.string bx) (.string eB));refine hK'.o _ _ (dT.o _ sT.o) (fun ak=>?_);clear x0 x1 x2 f0 f1 f2;clear hK' K' aq;have aq:=ak;clear ak;refine aw 14 (.int .i64 0) ?_;(try simp only[gE,aP]);refine dW (by kernel_rfl) ?_ _;exact⟨rfl,rR,lU,tx,ty,dv,jV,bn,bx,eB,rfl,oW.o.step sT.o,BM.o⟩
           ·intro K' hK';go_simp;have aN:=(au _ u5).alloc (ar _) (FC false ⟨#[]⟩ ⟨#[]⟩);have fF:=hid (aC.new u5 false ⟨#[]⟩ ⟨#[]⟩);have wK:D6.heap.size<=u5.heap.size:=aG.o.size;replace HV:=hid (HV.o.aa aN);replace aG:=hid (aG.o.trans (aN.af aG.o.size));refine hK'.o _ _ (dT.o _ aG.o) (fun ak=>?_);clear aN;clear hK' K' aq;have aq:=ak;clear ak;obtain⟨lU,oM⟩:∃lU,u5.heap.size=lU:=⟨_,rfl⟩;(have Fj:D6.heap.size<=lU:=by rw[<- oM];exact wK);clear wK;obtain⟨u14,rE⟩:∃u14,u5.alloc (FC false ⟨#[]⟩ ⟨#[]⟩)=u14:=⟨_,rfl⟩;have wH:u5.alloc (.cells #[.bool false,.string ⟨#[]⟩,.string ⟨#[]⟩] 32)=u14:=rE;rw[oM] at fF;rw[rE] at fF aG HV;simp only[wH] at aq⊢;simp only[oM];clear rE wH oM;refine aF [6] (cA ?_ aD)
            ·intro K' hK';go_simp;refine(DR.o (some ⟨G,0,none⟩) V.length tx ty u14 (oW.o.step aG.o).sz HV.o).af ?_;rintro e u6 ⟨dv,jV,⟨bn,bx,eB⟩,rfl,si,bD⟩;have td:=hid si;replace aG:=hid (aG.o.trans (bD.af aG.o.size));replace fF:=hid (fF.o.aa bD fF.o.lt);refine hK'.o _ _ (dT.o _ aG.o) (fun ak=>?_);clear bD si;clear hK' K' aq;have aq:=ak;clear ak;refine aw 7 (.tuple #[.slice dv 1 jV,.agg #[.bool bn,.string bx,.string eB],.int .i64 0]) ?_;refine aw 8 (.slice dv 1 jV) ?_;refine aw 9 (.agg #[.bool bn,.string bx,.string eB]) ?_;refine aw 10 (.int .i64 0) ?_;refine aw 12 (.slice dv 1 jV) ?_;(try simp only[gE,aP]);obtain⟨x0,x1,x2,f0,f1,f2⟩:=fF.o.facts;refine aF [13] (cA ?_ aD)
             ·intro K' hK';go_simp;have BM:=hid (AG td.o fF.o (.bool bn) (.string bx) (.string eB));have sT:=hid (bF aG.o Fj (.bool bn) (.string bx) (.string eB));refine hK'.o _ _ (dT.o _ sT.o) (fun ak=>?_);clear x0 x1 x2 f0 f1 f2;clear hK' K' aq;have aq:=ak;clear ak;refine aw 14 (.int .i64 0) ?_;(try simp only[gE,aP]);refine dW (by kernel_rfl) ?_ _;exact⟨rfl,rR,lU,tx,ty,dv,jV,bn,bx,eB,rfl,oW.o.step sT.o,BM.o⟩
          ·intro K' hK';go_simp;have aN:=(au _ tF).alloc (ar _) (FC false ⟨#[]⟩ ⟨#[]⟩);have fF:=hid (aC.new tF false ⟨#[]⟩ ⟨#[]⟩);have wK:D6.heap.size<=tF.heap.size:=aG.o.size;replace BO:=hid (BO.o.aa aN);replace aG:=hid (aG.o.trans (aN.af aG.o.size));refine hK'.o _ _ (dT.o _ aG.o) (fun ak=>?_);clear aN;clear hK' K' aq;have aq:=ak;clear ak;obtain⟨lU,oM⟩:∃lU,tF.heap.size=lU:=⟨_,rfl⟩;(have Fj:D6.heap.size<=lU:=by rw[<- oM];exact wK);clear wK;obtain⟨u14,rE⟩:∃u14,tF.alloc (FC false ⟨#[]⟩ ⟨#[]⟩)=u14:=⟨_,rfl⟩;have wH:tF.alloc (.cells #[.bool false,.string ⟨#[]⟩,.string ⟨#[]⟩] 32)=u14:=rE;rw[oM] at fF;rw[rE] at fF aG BO;simp only[wH] at aq⊢;simp only[oM];clear rE wH oM;refine aF [5] (cA ?_ aD)
           ·intro K' hK';go_simp;refine(ID.o (some ⟨G,0,none⟩) d t (some ⟨rR,0,none⟩) V.length cd ct 1 u14 (oW.o.step aG.o).sz (oW.o.step aG.o).fr (oW.o.step aG.o).tb.tbs BO.o).af ?_;rintro e u5 ⟨tx,ty,rfl,uY,hb5⟩;have HV:=hid uY;replace aG:=hid (aG.o.trans (hb5.af aG.o.size));replace fF:=hid (fF.o.aa hb5 fF.o.lt);refine hK'.o _ _ (dT.o _ aG.o) (fun ak=>?_);clear hb5 uY;clear hK' K' aq;have aq:=ak;clear ak;refine aF [6] (cA ?_ aD)
            ·intro K' hK';go_simp;refine(DR.o (some ⟨G,0,none⟩) V.length tx ty u5 (oW.o.step aG.o).sz HV.o).af ?_;rintro e u6 ⟨dv,jV,⟨bn,bx,eB⟩,rfl,si,bD⟩;have td:=hid si;replace aG:=hid (aG.o.trans (bD.af aG.o.size));replace fF:=hid (fF.o.aa bD fF.o.lt);refine hK'.o _ _ (dT.o _ aG.o) (fun ak=>?_);clear bD si;clear hK' K' aq;have aq:=ak;clear ak;refine aw 7 (.tuple #[.slice dv 1 jV,.agg #[.bool bn,.string bx,.string eB],.int .i64 0]) ?_;refine aw 8 (.slice dv 1 jV) ?_;refine aw 9 (.agg #[.bool bn,.string bx,.string eB]) ?_;refine aw 10 (.int .i64 0) ?_;refine aw 12 (.slice dv 1 jV) ?_;(try simp only[gE,aP]);obtain⟨x0,x1,x2,f0,f1,f2⟩:=fF.o.facts;refine aF [13] (cA ?_ aD)
             ·intro K' hK';go_simp;have BM:=hid (AG td.o fF.o (.bool bn) (.string bx) (.string eB));have sT:=hid (bF aG.o Fj (.bool bn) (.string bx) (.string eB));refine hK'.o _ _ (dT.o _ sT.o) (fun ak=>?_);clear x0 x1 x2 f0 f1 f2;clear hK' K' aq;have aq:=ak;clear ak;refine aw 14 (.int .i64 0) ?_;(try simp only[gE,aP]);refine dW (by kernel_rfl) ?_ _;exact⟨rfl,rR,lU,tx,ty,dv,jV,bn,bx,eB,rfl,oW.o.step sT.o,BM.o⟩
         ·intro K' hK';go_simp;have aN:=(au _ D6).alloc (ar _) (FC false ⟨#[]⟩ ⟨#[]⟩);have fF:=hid (aC.new D6 false ⟨#[]⟩ ⟨#[]⟩);have wK:D6.heap.size<=D6.heap.size:=aG.o.size;replace aG:=hid (aG.o.trans (aN.af aG.o.size));refine hK'.o _ _ (dT.o _ aG.o) (fun ak=>?_);clear aN;clear hK' K' aq;have aq:=ak;clear ak;obtain⟨lU,oM⟩:∃lU,D6.heap.size=lU:=⟨_,rfl⟩;(have Fj:D6.heap.size<=lU:=by rw[<- oM];exact wK);clear wK;obtain⟨u14,rE⟩:∃u14,D6.alloc (FC false ⟨#[]⟩ ⟨#[]⟩)=u14:=⟨_,rfl⟩;have wH:D6.alloc (.cells #[.bool false,.string ⟨#[]⟩,.string ⟨#[]⟩] 32)=u14:=rE;rw[oM] at fF;rw[rE] at fF aG;simp only[wH] at aq⊢;simp only[oM];clear rE wH oM;refine aF [4] (cA ?_ aD)
          ·intro K' hK';go_simp;have aN:=(au _ u14).alloc (ar _) (.cells #[.int .i64 (k:Nat)] 3);have BO:Hid (ax (u14.alloc (.cells #[.int .i64 (k:Nat)] 3)) (some ⟨u14.heap.size,0,none⟩) [(k:Int)]):=JS u14 k;replace fF:=hid (fF.o.aa aN fF.o.lt);replace aG:=hid (aG.o.trans (aN.af aG.o.size));refine hK'.o _ _ (dT.o _ aG.o) (fun ak=>?_);clear aN;clear hK' K' aq;have aq:=ak;clear ak;obtain⟨rR,Fg⟩:∃rR,u14.heap.size=rR:=⟨_,rfl⟩;obtain⟨tF,AQ⟩:∃tF,u14.alloc (.cells #[.int .i64 (k:Nat)] 3)=tF:=⟨_,rfl⟩;rw[Fg,AQ] at BO;rw[AQ] at aG fF;simp only[AQ] at aq⊢;simp only[Fg];clear AQ Fg;refine aF [5] (cA ?_ aD)
           ·intro K' hK';go_simp;refine(ID.o (some ⟨G,0,none⟩) d t (some ⟨rR,0,none⟩) V.length cd ct 1 tF (oW.o.step aG.o).sz (oW.o.step aG.o).fr (oW.o.step aG.o).tb.tbs BO.o).af ?_;rintro e u5 ⟨tx,ty,rfl,uY,hb5⟩;have HV:=hid uY;replace aG:=hid (aG.o.trans (hb5.af aG.o.size));replace fF:=hid (fF.o.aa hb5 fF.o.lt);refine hK'.o _ _ (dT.o _ aG.o) (fun ak=>?_);clear hb5 uY;clear hK' K' aq;have aq:=ak;clear ak;refine aF [6] (cA ?_ aD)
            ·intro K' hK';go_simp;refine(DR.o (some ⟨G,0,none⟩) V.length tx ty u5 (oW.o.step aG.o).sz HV.o).af ?_;rintro e u6 ⟨dv,jV,⟨bn,bx,eB⟩,rfl,si,bD⟩;have td:=hid si;replace aG:=hid (aG.o.trans (bD.af aG.o.size));replace fF:=hid (fF.o.aa bD fF.o.lt);refine hK'.o _ _ (dT.o _ aG.o) (fun ak=>?_);clear bD si;clear hK' K' aq;have aq:=ak;clear ak;refine aw 7 (.tuple #[.slice dv 1 jV,.agg #[.bool bn,.string bx,.string eB],.int .i64 0]) ?_;refine aw 8 (.slice dv 1 jV) ?_;refine aw 9 (.agg #[.bool bn,.string bx,.string eB]) ?_;refine aw 10 (.int .i64 0) ?_;refine aw 12 (.slice dv 1 jV) ?_;(try simp only[gE,aP]);obtain⟨x0,x1,x2,f0,f1,f2⟩:=fF.o.facts;refine aF [13] (cA ?_ aD)
             ·intro K' hK';go_simp;have BM:=hid (AG td.o fF.o (.bool bn) (.string bx) (.string eB));have sT:=hid (bF aG.o Fj (.bool bn) (.string bx) (.string eB));refine hK'.o _ _ (dT.o _ sT.o) (fun ak=>?_);clear x0 x1 x2 f0 f1 f2;clear hK' K' aq;have aq:=ak;clear ak;refine aw 14 (.int .i64 0) ?_;(try simp only[gE,aP]);refine dW (by kernel_rfl) ?_ _;exact⟨rfl,rR,lU,tx,ty,dv,jV,bn,bx,eB,rfl,oW.o.step sT.o,BM.o⟩
        ·rintro e a' w8 ⟨rfl,rR,lU,tx,ty,dv,jV,bn,bx,eB,rfl,KM,hi8⟩;(try simp only[aP]);have iQ:=hid KM;obtain⟨gx,ox,rfl,hgx,kx⟩:=hi8 0 (by simp);rw[fH] at kx;have r0:=KM.row.cell k hkA;have Am:=KM.row.fz k;generalize (AC k)[k]'hkA=old at *;have pG:=hid (KM.setA k x);rw[<- BX.o] at pG;clear KM hi8 iQ LN ID DR hgx;go_upto_region 18 with fail
         generalize OJ:(w8.setCell ⟨G9,k,none⟩ (.int .i64 (x:Int)))=U9 at *;clear OJ kx r0 Am;obtain⟨D5,iM⟩:∃D5,U9.drew=D5:=⟨_,rfl⟩;replace pG:=hid (pG.o.step ((au U9.heap.size U9).drew));rw[iM] at pG;(have TA:k<(AC (k+1)).length:=by rw[(mI.o.len (k+1)).2];exact hkn)
         have HAX:Hid ((AC (k+1))[k]'TA=x):=by
          have e:=BX.o;(have:∀(A:List Nat) (h:k<A.length),A=(AC k).set k x ->A[k]=x:=fun A h e=>by subst e;rw[List.getElem_set_self]);exact this _ TA e
         have sU:Hid (∀U:World,tu w (ah V) V.length G9 B8 G d t cd ct (vX k) (PC k) (AC (k+1)) U ->∀c,BeT B8 G9 k (.slice (some ⟨G,0,none⟩) V.length V.length) (.slice d (vX k).length cd) (.slice t (PC k).length ct) x c U):=fun U hU c _=>⟨hU.box.cells,by have:=hU.row.cell k TA;rw[HAX.o] at this;exact this⟩;refine QT 8 (BeT B8 G9 k (.slice (some ⟨G,0,none⟩) V.length V.length) (.slice d (vX k).length cd) (.slice t (PC k).length ct) x) (by kernel_rfl) (by rw[iM];exact sU.o _ pG.o false) (fun aq=>?_);rw[iM] at aq⊢;clear iM;(try simp only[gE,aP]);refine GD (i:=0) (oi:=_) (v:=.agg #[.slice (some ⟨G,0,none⟩) V.length V.length,.slice d (vX k).length cd,.slice t (PC k).length ct]) rfl (by kernel_rfl) (by kernel_rfl) (by kernel_rfl) (by decide) rfl (by kernel_rfl) (fun _ _ _ h=>h) (Or.inl ⟨by rfl,?_⟩) (by kernel_rfl) (by assumption) ?_
         ·intro u' aL;(try simp only[gE]);obtain⟨⟨s0,s1,s2⟩,s3⟩:=aL rfl;go_simp
         (try simp only[gE,aP]);refine l6 (i:=1) (oi:=_) (v:=.int .i64 (k:Nat)) (b:=false) rfl (by kernel_rfl) (by kernel_rfl) (by kernel_rfl) (by decide) (fun _ _ _ h=>h) (Or.inl ⟨by rfl,?_⟩) (by kernel_rfl) (by assumption) ?_
         ·intro u' aL;go_simp
         (try simp only[gE,aP]);refine l6 (i:=2) (oi:=_) (v:=.slice (some ⟨G9,0,none⟩) V.length V.length) (b:=false) rfl (by kernel_rfl) (by kernel_rfl) (by kernel_rfl) (by decide) (fun _ _ _ h=>h) (Or.inl ⟨by rfl,?_⟩) (by kernel_rfl) (by assumption) ?_
         ·intro u' aL;go_simp
         (try simp only[gE,aP]);refine l6 (i:=3) (oi:=_) (v:=.int .i64 (k:Nat)) (b:=false) rfl (by kernel_rfl) (by kernel_rfl) (by kernel_rfl) (by decide) (fun _ _ _ h=>h) (Or.inl ⟨by rfl,?_⟩) (by kernel_rfl) (by assumption) ?_
         ·intro u' aL;go_simp
         (try simp only[gE,aP]);refine l6 (i:=4) (oi:=_) (v:=.pointer (some ⟨G9,k,none⟩)) (b:=false) rfl (by kernel_rfl) (by kernel_rfl) (by kernel_rfl) (by decide) (fun _ _ _ h=>h) (Or.inl ⟨by rfl,?_⟩) (by kernel_rfl) (by assumption) ?_
         ·intro u' aL;go_simp
         (try simp only[gE,aP]);refine GD (i:=5) (oi:=_) (v:=.int .i64 (x:Nat)) rfl (by kernel_rfl) (by kernel_rfl) (by kernel_rfl) (by decide) rfl (by kernel_rfl) (fun _ _ _ h=>h) (Or.inl ⟨by rfl,?_⟩) (by kernel_rfl) (by assumption) ?_
         ·intro u' aL;(try simp only[gE]);obtain⟨⟨s0,s1,s2⟩,s3⟩:=aL rfl;go_simp
         (try simp only[gE,aP]);refine l6 (i:=6) (oi:=_) (v:=.agg #[.int .i64 (k:Nat),.int .i64 (x:Nat)]) (b:=false) rfl (by kernel_rfl) (by kernel_rfl) (by kernel_rfl) (by decide) (fun _ _ _ h=>h) (Or.inl ⟨by rfl,?_⟩) (by kernel_rfl) (by assumption) ?_
         ·intro u' aL;go_simp
         (try simp only[gE,aP]);refine om (rs:=[7]) (by kernel_rfl) (by simp) (dS.cons (b:=false) rfl (by kernel_rfl) ?_ (dS.nil))
         ·intro K' hK';go_simp;refine(qA.o (some ⟨G,0,none⟩) d t V.length cd ct D5 pG.o.sz pG.o.fr pG.o.tb.tbs).af ?_;rintro e bI ⟨d7,xD,t7,xB,rfl,wT,bK,iZ,Kh,EJ⟩;have FM:=hid (pG.o.step bK);have nD:=pG.o.box.lt;have Ho:=pG.o.row.lt;have anq:=hid (FM.o.putP (zi:=xD) (b9:=xB) wT (fun g o e _=>by have:=iZ.2 g o e;omega) (EJ G9 Ho) (fun g o e=>by have:=Kh.2 g o e;omega));refine hK'.o _ _ (sU.o _ FM.o false) (fun ak=>?_);clear wT bK iZ Kh EJ;clear hK' K' aq;have aq:=ak;clear ak;(try simp only[gE,aP]);obtain⟨p0,p1,p2⟩:=FM.o.box.cells;have Av:=FM.o.box.fz 0;have Au:=FM.o.box.fz 1;have Ar:=FM.o.box.fz 2;refine om (rs:=[8]) (by kernel_rfl) (by simp) (dS.cons (b:=true) rfl (by kernel_rfl) ?_ (dS.nil))
          ·intro K' hK';go_simp;refine hK'.o _ _ (fun e=>by cases e) (fun ak=>?_);clear p0 p1 p2 Av Au Ar;clear hK' K' aq;have aq:=ak;clear ak;(try simp only[gE,aP]);refine Jk (by kernel_rfl) ?_ _;clear aq sU HAX pG FM qA;generalize (((bI.setCell ⟨B8,0,none⟩ (.slice (some ⟨G,0,none⟩) V.length V.length)).setCell ⟨B8,1,none⟩ (.slice d7 (vX (k+1)).length xD)).setCell ⟨B8,2,none⟩ (.slice t7 (PC (k+1)).length xB))=tE at *;go_wp2;go_roundw
           case rel=>exact⟨k+1,_,_,_,_,by omega,by go_num,anq⟩
           case measure=>simp[intOf];omega
      ·obtain rfl:k=V.length:=by omega
       obtain⟨p0,p1,p2⟩:=xN.o.box.cells;have HX:=hid (mI.o.last (some ⟨G,0,none⟩) d t V.length cd ct W6 xN.o.sz xN.o.fr xN.o.tb.tbs);have o9:=mI.o.size;have tj:=hid mI.o.fin;obtain⟨sn,sx,sy,vo⟩:∃a b c,qF (gw V L R F)=(a,b,c):=⟨_,_,_,rfl⟩;(have hval:val sn sx sy=gw V L R F:=by have:=qQ (gw V L R F);rw[vo] at this;exact this);(have hsz:sx.size+sy.size<=40000:=by have:=RU (gw V L R F);rw[vo] at this;simp only at this;omega);rw[vo] at HX fQ;have Fz:=hid hval;clear vo o9 hval mI;go_wp2_with fail
       refine HX.o.af ?_;rintro e w7 ⟨xt,gx,ox,cgx,rfl,q0,q1,q2,⟨xa,xn,xc,rfl⟩,bK⟩;(have hfd:∀U:World,(Instr.field 39 (.agg #[.slice xa xn xc,.slice (some ⟨gx,ox,none⟩) 1 cgx]) 1).run Tryz.prog U=.ok (.slice (some ⟨gx,ox,none⟩) 1 cgx) U:=fun _=>by kernel_rfl);have aN:=bK.alloc bK.size (FC sn sx sy);have iQ:=hid (xN.o.step aN);have jb:=hid (aC.new w7 sn sx sy);have ajZ:w.heap.size+1<w7.heap.size:=(xN.o.step bK).rb.lt;clear p0 p1 p2 bK aN xN HX;go_upto_region 21 with fail
       generalize ajY:w7.heap.size=I0 at *;generalize hw8:(w7.alloc (FC sn sx sy))=w8 at *;clear ajY hw8 q0 q1 q2 hfd;obtain⟨D5,iM⟩:∃D5,w8.drew=D5:=⟨_,rfl⟩;have iN:=(au w8.heap.size w8).drew;replace iQ:=hid (iQ.o.step iN);replace jb:=hid (jb.o.aa iN jb.o.lt);rw[iM] at iQ jb;clear iN;refine jJ (S:=fun U=>U.cell? ⟨I0,0,none⟩=some (.bool sn)/\U.cell? ⟨I0,1,none⟩=some (.string sx)/\U.cell? ⟨I0,2,none⟩=some (.string sy)) (by kernel_rfl) (by rw[iM];exact⟨jb.o.c0,jb.o.c1,jb.o.c2⟩) (fun aq=>?_);rw[iM] at aq⊢;clear iM;refine aw 0 (.agg #[.bool sn,.string sx,.string sy]) ?_;refine aF [1] (cA ?_ aD);intro K' hK';go_simp;refine(ak2 0 D5 (by omega) (by omega)).af ?_;rintro e u1 ⟨rfl,hb1⟩;replace iQ:=hid (iQ.o.step hb1);replace jb:=hid (jb.o.aa hb1 jb.o.lt);rw[D7];refine hK'.o _ _ ⟨jb.o.c0,jb.o.c1,jb.o.c2⟩ (fun ak=>?_);clear hb1;clear hK' K' aq;have aq:=ak;clear ak;refine aF [2] (cA ?_ aD);intro K' hK';go_simp;refine(acf sn (aH 0) sx sy (nu 0) (de 0) u1 (by omega) (by omega) (by have:=ng (0:Rat);have:=GZ;omega) (by have:=ng (0:Rat);have:=GZ;omega)).af ?_;rintro e u2 ⟨rfl,hb2⟩;replace iQ:=hid (iQ.o.step hb2);replace jb:=hid (jb.o.aa hb2 jb.o.lt);rw[gC,Fz.o];refine hK'.o _ _ ⟨jb.o.c0,jb.o.c1,jb.o.c2⟩ (fun ak=>?_);clear hb2;clear hK' K' aq;have aq:=ak;clear ak;refine aw 3 (.bool (cQ (gw V L R F) 0==0)) ?_;(try simp only[gE,aP]);refine dW (by kernel_rfl) ?_ _;clear aq;(have Hx:G9≠w.heap.size+1:=by have:=iQ.o.lo;omega);by_cases hz:gw V L R F=0
       ·have hc:(cQ (gw V L R F) 0==0)=true:=by rw[hz];rfl
        rw[hc];obtain⟨q1,q2,q3⟩:=dZ.o hz;have gA:=hid q1;have fp:=hid q2;have uu:=hid q3;obtain⟨k0,k1,k2,f0,f1,f2⟩:=iQ.o.rb.facts;have bC:=hid (iQ.o.rb.put false ⟨#[]⟩ ⟨#[]⟩);have yf:=hid (bF iQ.o.bel (show w.heap.size<=w.heap.size+1 by omega) (.bool false) (.string ⟨#[]⟩) (.string ⟨#[]⟩));clear q1 q2 q3 hc hz dZ fQ jb iQ;go_wp2;refine bB (Eo bC.o rfl _ rfl) rfl ?_;exact⟨⟨none,0,by rw[gA.o,fp.o,uu.o];rfl,by rw[fp.o];exact fun k hk=>absurd hk (by simp)⟩,yf.o⟩
       ·have hc:(cQ (gw V L R F) 0==0)=false:=by
         rw[zQ];exact fun e=>hz (alK e)
        rw[hc];obtain⟨q1,q2,q3⟩:=fQ.o hz;rw[<- tj.o] at q2;have gA:=hid q1;have fp:=hid q2;have uu:=hid q3;(have Ty:(iL (AC V.length)).length=V.length:=by rw[tj.o,ba,Lm]);clear q1 q2 q3 hc hz dZ fQ;go_upto_region 23 with fail
        obtain⟨D9,vB⟩:∃D9,u2.drew=D9:=⟨_,rfl⟩;have iN:=(au u2.heap.size u2).drew;replace iQ:=hid (iQ.o.step iN);replace jb:=hid (jb.o.aa iN jb.o.lt);rw[vB] at iQ jb;clear iN;refine jJ (S:=fun U=>U.cell? ⟨I0,0,none⟩=some (.bool sn)/\U.cell? ⟨I0,1,none⟩=some (.string sx)/\U.cell? ⟨I0,2,none⟩=some (.string sy)) (by kernel_rfl) (by rw[vB];exact⟨jb.o.c0,jb.o.c1,jb.o.c2⟩) (fun aq=>?_);rw[vB] at aq⊢;clear vB;refine aw 0 (.slice (some ⟨G9,0,none⟩) V.length V.length) ?_;refine aw 1 (.agg #[.bool sn,.string sx,.string sy]) ?_;refine aw 2 (.slice (some ⟨G9,0,none⟩) V.length V.length) ?_;(try simp only[gE,aP]);obtain⟨k0,k1,k2,f0,f1,f2⟩:=iQ.o.rb.facts;refine aF [3] (cA ?_ aD);intro K' hK';go_simp;have Fx:=hid (jb.o.far3 (Nat.ne_of_gt ajZ) (.bool sn) (.string sx) (.string sy));have bC:=hid (iQ.o.rb.put sn sx sy);have yf:=hid (bF iQ.o.bel (show w.heap.size<=w.heap.size+1 by omega) (.bool sn) (.string sx) (.string sy));have V3:=hid (((iQ.o.row.off (w.heap.size+1) 0 (.bool sn) Hx).off (w.heap.size+1) 1 (.string sx) Hx).off (w.heap.size+1) 2 (.string sy) Hx);refine hK'.o _ _ ⟨Fx.o.c0,Fx.o.c1,Fx.o.c2⟩ (fun ak=>?_);clear k0 k1 k2 f0 f1 f2;clear hK' K' aq;have aq:=ak;clear ak;refine aw 4 (.int .i64 0) ?_;(try simp only[gE,aP]);refine dW (by kernel_rfl) ?_ _;clear aq;go_wp2;refine bB (Eo bC.o rfl _ rfl) rfl ?_;exact⟨⟨some ⟨G9,0,none⟩,V.length,by rw[gA.o,fp.o,uu.o,Ty];rfl,by rw[fp.o];exact V3.o.ints⟩,yf.o⟩
 ·obtain⟨q1,q2,q3⟩:=fB.o fN;have gA:=hid q1;have fp:=hid q2;have uu:=hid q3;have jA:(FE==0)=false:=by simpa using fN
  obtain⟨k0,k1,k2,f0,f1,f2⟩:=HK.o.2.facts;have bC:=hid (HK.o.2.put false ⟨#[]⟩ ⟨#[]⟩);have yf:=hid (bF HK.o.1.2 (show w.heap.size<=w.heap.size+1 by omega) (.bool false) (.string ⟨#[]⟩) (.string ⟨#[]⟩));clear q1 q2 q3 fN fB dZ fQ pM vM Ge q7;go_wp2;refine bB (Eo bC.o rfl _ rfl) rfl ?_;exact⟨⟨none,0,by rw[gA.o,fp.o,uu.o];rfl,by rw[fp.o];exact fun k hk=>absurd hk (by simp)⟩,yf.o⟩
end Go.Proofs.YtdnhgjeihdllbaaGreatDoor
