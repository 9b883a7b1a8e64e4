/- Part5: part 5. -/
import Derived.Test.YtfhdoommfenijaaGreatDoorLegM4
set_option maxRecDepth 100000
set_option maxHeartbeats 400000000
set_option linter.unusedSimpArgs false
set_option linter.unusedVariables false
namespace Go.Proofs.YtfhdoommfenijaaGreatDoor
open Go.RowKit Go.Shelf
variable {F:List (Int×Int)} {S:List Nat} {V:List Vr} {i n v:Nat}
def iT (S:List Nat) (n:Nat) (F:List (Int×Int)) (i:Nat):Int:=
 if ¬(0<=(F.getD i (0,0)).1/\(F.getD i (0,0)).1<(n:Int)) then 11 else if ¬(0<=(F.getD i (0,0)).2/\(F.getD i (0,0)).2<(sz S (F.getD i (0,0)).1.toNat:Int)) then 12 else if ((F.take i).any fun p=>p.1==(F.getD i (0,0)).1)=true then 7 else 0
def bY (V:List Vr) (L:List (List Int)) (R:List (List Fr)) (F:List (Int×Int)):Int:=if aY V L R=0 then js (iT (ah V) V.length F) F.length else aY V L R
theorem Rq (h:i<F.length):F.getD i (0,0)=F[i]:=by rw[List.getD_eq_getElem?_getD,List.getElem?_eq_getElem h];rfl
theorem XL (a:i<F.length) (h:¬(0<=F[i].1/\F[i].1<(n:Int))):iT S n F i=11:=by rw[iT,Rq a,aA h]
theorem XM (b:i<F.length) (h:0<=F[i].1/\F[i].1<(n:Int)) (a:¬(0<=F[i].2/\F[i].2<(sz S F[i].1.toNat:Int))):iT S n F i=12:=by rw[iT,Rq b,aB (fun e=>e h),aA a]
theorem XN (c:i<F.length) (h:0<=F[i].1/\F[i].1<(n:Int)) (a:0<=F[i].2/\F[i].2<(sz S F[i].1.toNat:Int)) (b:((F.take i).any fun p=>p.1==F[i].1)=true):iT S n F i=7:=by rw[iT,Rq c,aB (fun e=>e h),aB (fun e=>e a),aA b]
theorem ae8 (c:i<F.length) (h:0<=F[i].1/\F[i].1<(n:Int)) (a:0<=F[i].2/\F[i].2<(sz S F[i].1.toNat:Int)) (b:((F.take i).any fun p=>p.1==F[i].1)=false):iT S n F i=0:=by rw[iT,Rq c,aB (fun e=>e h),aB (fun e=>e a),aB (by rw[b];decide)]
theorem Lk (h:v<V.length):sz (ah V) v=V[v].2.length:=by rw[sz,Eh h];rfl
theorem Vj (a b c d:Option Addr) (ca cb cc cd:Nat) (V:List Vr) (L:List (List Int)) (R:List (List Fr)) (F:List (Int×Int)) (w:World) (h:gO w a b c V L R) (E:tK V L R) (X:jf w d F) (hn:F.length<=1000) (aN:F.length<=cd):
  c6 35 #[.agg #[.slice a V.length ca,.slice b L.length cb,.slice c R.length cc],.slice d F.length cd] w (da w (.int .i64 (bY V L R F))):=by
 have A:=(aw w.heap.size w).alloc (ar _) (NC (.slice a V.length ca) (.slice b L.length cb) (.slice c R.length cc));have qd:=hid (cT.at (w:=w) rfl (.slice a V.length ca) (.slice b L.length cb) (.slice c R.length cc));have eQ:=hid (RO a b c ca cb cc V L R _ (h.aa A) E);have J:=hid A;have sL:=hid h.vars;have HF:=hid X;have EN:V.length<=5000:=E.vars.1;have YD:Hid (∀v (n:v<V.length),V[v].2.length<=5000):=fun v n=>E.vars.2 _ (bB n) |>.2.1;obtain⟨u,y⟩:∃u,bY V L R F=u:=⟨_,rfl⟩;have fR:Hid (aY V L R≠0 ->aY V L R=u):=fun e=>by rw[<- y,bY,aB e]
 have eP:Hid (aY V L R=0 ->∀i,i<F.length ->(∀j,j< i ->iT (ah V) V.length F j=0) ->∀k,iT (ah V) V.length F i=k ->k≠0 ->k=u):=fun e i hi hz k hk ay=>by rw[<- y,bY,aA e,Da hz (by rw[hk];exact ay) hi,hk]
 have gA:Hid (aY V L R=0 ->(∀j,j<F.length ->iT (ah V) V.length F j=0) ->0=u):=fun e hz=>by rw[<- y,bY,aA e,xH hz]
 have SH:=hid (fun (i:Nat) (v:Int) (U:World) (hU:c8 w U)=>adv d cd (F.take i) v U ((X.aa hU).take i) (by rw[eX];omega));rw[y];clear h E X A y;go_enter Tryz.func35,Tryz.ntmps35;go_wp2_with fail
 refine eQ.o.af ?_;rintro e w1 ⟨rfl,ab⟩;have O:=hid (J.o.trans (ab.af J.o.size));have uP:=hid (qd.o.aa ab qd.o.lt);clear ab eQ qd J;by_cases q:aY V L R=0
 ·rw[q];have nV:=hid q;clear q;go_wp2_with fail
  go_loopw [15] (fun iv wr=>∃i:Nat,i<=F.length/\iv=.int .i64 i/\Hid (∀j,j< i ->iT (ah V) V.length F j=0)/\Hid (cT wr w.heap.size (.slice a V.length ca) (.slice b L.length cb) (.slice c R.length cc))/\Hid (c8 w wr)) (fun iv _=>F.length - (intOf iv).toNat)
  case atStart=>exact⟨0,aS _,rfl,(fun j hj=>absurd hj al),uP,O⟩
  case round=>
   obtain⟨i,hi,rfl,Z,HN,H⟩:=hrel;clear uP O;by_cases t:i<F.length
   ·obtain⟨g,ad,rfl,hg,h0,h1⟩:=HF.o i t;have k0:=(H.o.cell (p:=⟨g,_,none⟩) hg).trans h0;have k1:=(H.o.cell (p:=⟨g,_,none⟩) hg).trans h1;have K:=hid (eP.o nV.o i t Z.o);have zO:Hid (¬(0<=F[i].1/\F[i].1<(V.length:Int)) ->iT (ah V) V.length F i=11):=XL t;have FN:Hid (0<=F[i].1/\F[i].1<(V.length:Int) ->¬(0<=F[i].2/\F[i].2<(sz (ah V) F[i].1.toNat:Int)) ->iT (ah V) V.length F i=12):=XM t;have OA:Hid (0<=F[i].1/\F[i].1<(V.length:Int) ->(0<=F[i].2/\F[i].2<(sz (ah V) F[i].1.toNat:Int)) ->((F.take i).any fun p=>p.1==F[i].1)=true ->iT (ah V) V.length F i=7):=XN t;have pC:Hid (0<=F[i].1/\F[i].1<(V.length:Int) ->(0<=F[i].2/\F[i].2<(sz (ah V) F[i].1.toNat:Int)) ->((F.take i).any fun p=>p.1==F[i].1)=false ->iT (ah V) V.length F i=0):=ae8 t;have nT:Hid (iT (ah V) V.length F i=0 ->∀j,j<i+1 ->iT (ah V) V.length F j=0):=fun e=>Gb Z.o e;have ai:=hid (SH.o i F[i].1);(have rC:(F.take i).length=i:=by rw[eX];omega);rw[rC] at ai;generalize iT (ah V) V.length F i=fe at *;generalize ((F.take i).any fun p=>p.1==F[i].1)=fq at *;generalize F[i].1=l at *;generalize F[i].2=f at *;have A:=(aw wr.heap.size wr).alloc (ar _) (.cells #[.int .i64 l,.int .i64 f] 66);(have CM:(wr.alloc (.cells #[.int .i64 l,.int .i64 f] 66)).heap.size=wr.heap.size+1:=aE);have Mq:(wr.alloc (.cells #[.int .i64 l,.int .i64 f] 66)).heap[wr.heap.size]? =some (.cells #[.int .i64 l,.int .i64 f] 66 (0,0)):=jg wr _;have o:=hid Mq;have Y:=hid (HN.o.aa A HN.o.lt);have T:=hid (H.o.trans (A.af H.o.size))
    have nc:=Y.o.cells.1;clear h0 h1 rC A Mq;by_cases n:0<=l/\l<(V.length:Int)
    ·obtain⟨v,rfl⟩:∃v:Nat,l=v:=⟨l.toNat,al⟩;(have wZ:v<V.length:=al);obtain⟨Q,ov,bv,cv,rfl,AL,aG,oK,_,_⟩:=sL.o v wZ;have uf:sz (ah V) v=V[v].2.length:=Lk wZ;have aM:=YD.o v wZ;rw[nh,uf] at FN OA pC;have kv:=(T.o.cell (p:=⟨Q,_,none⟩) AL).trans oK;generalize V[v].2.length=sv at *;have M:=hid n;clear aG oK n uf;obtain⟨aj,an⟩:(wr.alloc (.cells #[.int .i64 (v:Nat),.int .i64 f] 66)).cell? ⟨wr.heap.size,0,none⟩=some (.int .i64 (v:Nat))/\(wr.alloc (.cells #[.int .i64 (v:Nat),.int .i64 f] 66)).cell? ⟨wr.heap.size,1,none⟩=some (.int .i64 f):=⟨by rw[bZ _ _ 0 _ _ (0,0) o.o];rfl,by rw[bZ _ _ 1 _ _ (0,0) o.o];rfl⟩;by_cases x:0<=f/\f<(sv:Int)
     ·obtain⟨z,rfl⟩:∃z:Nat,f=z:=⟨f.toNat,al⟩;(have a1:z<sv:=al);have Hu:=hid x;clear x;go_upto_region 11 with (go_quiet (fail))
      have ax:Hid (((wr.alloc (.cells #[.int .i64 (v:Nat),.int .i64 (z:Nat)] 66)).drewN nq).heap[wr.heap.size]? =some (.cells #[.int .i64 (v:Nat),.int .i64 (z:Nat)] 66 (0,0))):=o.o;have nU:Hid (cT ((wr.alloc (.cells #[.int .i64 (v:Nat),.int .i64 (z:Nat)] 66)).drewN nq) w.heap.size (.slice (some ⟨Q,ov,none⟩) V.length ca) (.slice b L.length cb) (.slice c R.length cc)):=Y.o;have P:=hid (below_drewN T.o nq);(have GG:wr.heap.size<((wr.alloc (.cells #[.int .i64 (v:Nat),.int .i64 (z:Nat)] 66)).drewN nq).heap.size:=by show wr.heap.size<(wr.alloc _).heap.size;rw[CM];omega);clear aj an kv nc o Y T CM;generalize (wr.alloc (.cells #[.int .i64 (v:Nat),.int .i64 (z:Nat)] 66)).drewN nq=s at *
      have zu:Hid (∀U:World,Below s.drew.heap.size s.drew U ->U.cell? ⟨wr.heap.size,0,none⟩=some (.int .i64 (v:Nat))):=fun U hU=>(hU.cell (p:=⟨wr.heap.size,0,none⟩) GG).trans (by
       have:s.drew.heap[wr.heap.size]? =some (.cells #[.int .i64 (v:Nat),.int .i64 (z:Nat)] 66 (0,0)):=ax.o;rw[bZ _ _ 0 _ _ (0,0) this];rfl)
      have ae:=hid (ai.o s.drew P.o.drew);(have aQ:(i:Int)<=(cd:Int):=al);refine iu (S:=fun U=>U.cell? ⟨wr.heap.size,0,none⟩=some (.int .i64 (v:Nat))) ao (zu.o _ (aw _ _)) (fun aq=>?_);refine au 0 (.slice (some ⟨g,ad,none⟩) F.length cd) ?_;refine au 1 (.int .i64 (i:Nat)) ?_;refine au 2 (.slice (some ⟨g,ad,none⟩) i cd) ?_;refine au 3 (.pointer (some ⟨wr.heap.size,0,none⟩)) ?_;refine au 4 (.int .i64 (v:Nat)) ?_;refine aI [5] (cA ?_ aH);intro K' av;go_simp;refine ae.o.af ?_;rintro r w5 ⟨rfl,I⟩;refine av.o _ _ (zu.o w5 I) (fun ak=>?_);clear av K' aq;(try simp only[gE,aP]);refine dC ao ?_ _;clear ak;have eE:Hid (c8 w w5):=P.o.drew.trans (I.af P.o.drew.size);have Ds:Hid (cT w5 w.heap.size (.slice (some ⟨Q,ov,none⟩) V.length ca) (.slice b L.length cb) (.slice c R.length cc)):=cT.aa (w:=s.drew) nU.o I nU.o.lt;clear I ae zu;cases fq with
      |true=>
       have m:=hid (K.o 7 (OA.o M.o Hu.o rfl) a6);go_wp2;go_ret;exact⟨by rw[<- m.o];rfl,eE.o⟩
      |false=>
       have Yv:=hid (nT.o (pC.o M.o Hu.o rfl));go_wp2;go_roundw
       case rel=>exact⟨i+1,al,bd,Yv,Ds,eE⟩
       case measure=>simp[intOf];omega
     ·have m:=hid (K.o 12 (FN.o M.o x) a6);rcases Int.lt_or_le f 0 with D |D
      ·have qD:decide (f<0)=true:=cY D;clear x;go_wp2_with (go_quiet (fail))
       go_ret;exact⟨by rw[<- m.o];rfl,below_drewN T.o _⟩
      ·have qD:decide (f<0)=false:=cK al;have jH:decide ((sv:Int)<=f)=true:=cY al;clear x;go_wp2_with (go_quiet (fail))
       go_ret;exact⟨by rw[<- m.o];rfl,below_drewN T.o _⟩
    ·have m:=hid (K.o 11 (zO.o n) a6);obtain⟨aj,an⟩:(wr.alloc (.cells #[.int .i64 l,.int .i64 f] 66)).cell? ⟨wr.heap.size,0,none⟩=some (.int .i64 l)/\(wr.alloc (.cells #[.int .i64 l,.int .i64 f] 66)).cell? ⟨wr.heap.size,1,none⟩=some (.int .i64 f):=⟨by rw[bZ _ _ 0 _ _ (0,0) o.o];rfl,by rw[bZ _ _ 1 _ _ (0,0) o.o];rfl⟩;rcases Int.lt_or_le l 0 with D |D
     ·clear n;go_wp2_with fail
      go_ret;exact⟨by rw[<- m.o];rfl,T.o⟩
     ·have h3:(V.length:Int)<=l:=al
      (have h4:¬l<0:=al);clear n;go_wp2_with fail
      go_ret;exact⟨by rw[<- m.o];rfl,T.o⟩
   ·obtain rfl:i=F.length:=al
    have m:=hid (gA.o nV.o Z.o);go_wp2;go_ret;exact⟨by rw[<- m.o];rfl,H.o⟩
 ·have m:=hid (fR.o q);have aO:(aY V L R==0)=false:=by simpa using q
  clear q fR eP gA;generalize aY V L R=ne at *;go_wp2;go_ret;exact⟨by rw[<- m.o];rfl,O.o⟩
variable {s:List Nat} {u:Nat}
theorem ade (a:u<8):(im s).contains (u:Int)=decide (u∈s):=by
 refine td.2 ?_;rw[mh,eR,im,iL,bc];constructor
 ·rintro⟨v,b,e⟩;obtain rfl:v=u:=al
  exact(Jr.1 b).2
 ·exact fun h=>⟨u,Jr.2 ⟨a,h⟩,rfl⟩
variable {R:List (List Fr)} {L:List (List Int)} {l:List Int} {A ws:List Nat} {m:Nat} {Pa:Nat ->Nat ->Prop}
def zF (l:List (Nat×Nat)):List (Int×Int):=l.map fun p=>((p.1:Int),(p.2:Int))
theorem tY (l:List (Nat×Nat)):(zF l).length=l.length:=by simp[zF]
structure lV (S:List Nat) (n:Nat) (l:List (Nat×Nat)):Prop where
 nd:(l.map (·.1)).Nodup
 lt:∀p∈l,p.1<n
 val:∀p∈l,p.2<sz S p.1
theorem aox (h:bY V L R F=0):aY V L R=0/\∃l,F=zF l/\lV (ah V) V.length l:=by
 have n:aY V L R=0:=by
  by_cases e:aY V L R=0
  ·exact e
  ·rw[bY,aB e] at h;exact h
 rw[bY,aA n] at h;have z:=M9 h
 have g:∀i (d:i<F.length),(0<=F[i].1/\F[i].1<(V.length:Int))/\(0<=F[i].2/\F[i].2<(sz (ah V) F[i].1.toNat:Int))/\((F.take i).any fun p=>p.1==F[i].1)=false:=fun i d=>by
  have f:=z i d;by_cases a:0<=F[i].1/\F[i].1<(V.length:Int)
  ·by_cases b:0<=F[i].2/\F[i].2<(sz (ah V) F[i].1.toNat:Int)
   ·refine⟨a,b,?_⟩;cases c:(F.take i).any fun p=>p.1==F[i].1 with
    |false=>rfl
    |true=>rw[XN d a b c] at f;exact absurd f a6
   ·rw[XM d a b] at f;exact absurd f a6
  ·rw[XL d a] at f;exact absurd f a6
 refine⟨n,F.map fun p=>(p.1.toNat,p.2.toNat),?_,?_,?_,?_⟩
 ·rw[zF,D7];refine qh aE fun i d _=>?_;rw[om];obtain⟨⟨a,_⟩,⟨b,_⟩,_⟩:=g i d;show F[i]=(((F[i].1.toNat:Nat):Int),((F[i].2.toNat:Nat):Int));rw[Int.toNat_of_nonneg a,Int.toNat_of_nonneg b]
 ·rw[D7,List.Nodup,IK];refine DZ.2 fun i j d q S e=>?_;obtain⟨⟨s,_⟩,_,_⟩:=g i d;obtain⟨⟨t,_⟩,_,o⟩:=g j q
  have:=KZ.1 o F[i] (by
   (have r:i<(F.take j).length:=by rw[eX];omega);have:=bB r;rwa [Ce] at this)
  refine this (sU.2 ?_);have u:F[i].1.toNat=F[j].1.toNat:=e;omega
 ·intro p k;obtain⟨x,m,rfl⟩:=bc.1 k;obtain⟨i,d,rfl⟩:=ij m;obtain⟨⟨a,b⟩,_,_⟩:=g i d;show F[i].1.toNat<_;omega
 ·intro p k;obtain⟨x,m,rfl⟩:=bc.1 k;obtain⟨i,d,rfl⟩:=ij m;obtain⟨_,⟨a,b⟩,_⟩:=g i d;show F[i].2.toNat<sz _ F[i].1.toNat;omega
def Af (L:List (List Int)) (A:List Nat):List Nat:=(iY L).filter fun v:Nat=>(im (iC (aL L) A L.length)).contains (v:Int)
theorem Gd (h:Up l n):∀x∈l,0<=x/\x<n:=(il.1 h).1
theorem aan (h:Up l n):(ag l).Pairwise (·<·):=by
 rw[ag,IK];refine List.Pairwise.imp_of_mem (fun {a b} c d g=>?_) (il.1 h).2;have e:=Gd h a c;have f:=Gd h b d;omega
theorem acf (L:List (List Int)) (i:Nat):(aL L).getD i []=ag (L.getD i []):=by
 rw[aL,List.getD_eq_getElem?_getD,pL,List.getD_eq_getElem?_getD];cases L[i]? with
 |none=>rfl
 |some x=>rfl
theorem Ql (g:gB L=true) (h1:1<=L.length) (a:L.length<=8) (h:v∈iY L):v<L.length:=by
 have p:((iY L).filter fun v=>decide (v<L.length)).Perm (List.range L.length):=
  (KU ((UH g h1 a).sublist IP) qZ).2 fun u=>by
   rw[dB,bJ,eR];exact⟨fun h=>h.2,fun h=>⟨UI g h1 a h,h⟩⟩
 have l:=p.length_eq;have n:(iY L).length=L.length:=by rw[Qm];simp
 rw[ly] at l;replace l:=l.trans n.symm;exact tW (List.length_filter_eq_length_iff.1 l v h)
theorem aqj (g:gB L=true) (a:∀v∈A,v<L.length) (h:v∈iC (aL L) A L.length):v<L.length:=
 Nv (fun x u b=>(U3 g x u b).1) a L.length v h
theorem ZZ (g:gB L=true) (h1:1<=L.length) (c:L.length<=8) (e:∀v∈A,v<L.length):v∈Af L A↔v∈iC (aL L) A L.length:=by
 rw[Af,dB];constructor
 ·rintro⟨a,b⟩;have d:=Ql g h1 c a;rw[ade al] at b;exact tW b
 ·intro h;have d:=aqj g e h;exact⟨UI g h1 c d,by rw[ade al];exact cY h⟩
theorem agG (g:gB L=true) (h1:1<=L.length) (h:L.length<=8) (A:List Nat):(Af L A).Nodup:=(UH g h1 h).sublist IP
theorem agH (g:gB L=true) (h1:1<=L.length) (a:L.length<=8) (h:v∈Af L A):v<L.length:=Ql g h1 a (dB.1 h).1
theorem aqf {w:Nat} (h:Pa u v) (a:lY Pa v w):lY Pa u w:=by
 induction a using lY.ind with
 |one h3=>exact .more (.one h) h3
 |more _ h3 ih=>exact .more ih h3
theorem agI (o:bH L=0) (h1:1<=L.length) (c:L.length<=8) (d:∀v∈A,v<L.length):mS L (·∈Af L A):=fun v h u a=>by
 have g:=vS o;show u∈Af L A;have h:v∈Af L A:=h;rw[ZZ g h1 c d,afZ o c d] at h⊢;obtain⟨b,f,e⟩:=h;rw[<- acf] at a;refine⟨b,f,.inr ?_⟩;rcases e with rfl |e
 ·exact .one a
 ·exact aqf (Pa:=fun u v=>u∈(aL L).getD v []) a e
theorem Z0 (o:bH L=0) (h1:1<=L.length) (h:L.length<=8) (a:∀v∈A,v<L.length) (b:v∈A):v∈Af L A:=by
 rw[ZZ (vS o) h1 h a,afZ o h a];exact⟨v,b,.inl rfl⟩
def gT (V:List Vr) (L:List (List Int)) (R:List (List Fr)) (ws:List Nat):List Tb:=ws.map fun v=>(gU L v,gL V L R v)
theorem aeN (h0:aY V L R=0) (h:∀v∈ws,v<V.length) (c:mS L (·∈ws)):fH (ah V) V.length (gT V L R ws) (fp R ws) 1:=
 ⟨(PI.net h0 h c).ok,PD.net h0 h,fun t a=>by
  obtain⟨v,_,rfl⟩:=bc.1 a;exact anN V L R v⟩
theorem fH.fixes (a:Pos S):∀ {l:List (Nat×Nat)} {P:List Tb} {D c:Nat},fH S n P D c ->(∀p∈l,p.2<sz S p.1) ->fH S n (kY S l P) D c
 |[],_,_,_,h,_=>h
 |p::l,_,_,_,h,hx=>fH.fixes a (l:=l) (h.fix a (hx p dQ)) fun q b=>hx q (eH _ b)
theorem M6 (S:List Nat):∀(l:List (Nat×Nat)) (P:List Tb),(kY S l P).length=P.length
 |[],_=>rfl
 |p::l,P=>by rw[kY,M6 S l,dD]
theorem ahF (p:Pos S) {a b:List Nat} (h:a.Sublist b):jO S a<=jO S b:=by
 induction h with
 |slnil=>exact ar _
 |cons x _ ih=>rw[jO];exact aR ih (B6 _ (iM p x))
 |cons_cons x _ ih=>rw[jO,jO];exact l6 _ ih
theorem QB:∀(l:List (Nat×Nat)) (fr:List Nat),(fT fr l).Sublist fr
 |[],_=>List.Sublist.refl _
 |_::l,_=>(QB l _).trans IP
def dF (V:List Vr) (L:List (List Int)) (R:List (List Fr)) (q:List Int) (l:List (Nat×Nat)):Tb:=
 (q,(List.range (cnt (ah V) (ag q))).map fun K=>qF (CB V L R (qV (ah V) (ag q) K++l)))
theorem aap {a b:List Int} (c:Up a n) (d:Up b m) (h:∀u,u∈ag a↔u∈ag b):a=b:=by
 have e:ag a=ag b:=by
  refine List.Perm.eq_of_pairwise (le:=(·<·)) (fun x y _ _ g i=>al) (aan c) (aan d) ?_;exact(KU c.nodup d.nodup).2 h
 have g:iL (ag a)=a:=by
  rw[iL,ag,D7];refine(wG fun x f=>?_).trans (List.map_id _);have:=(Gd c x f).1;show ((x.toNat:Nat):Int)=x;omega
 have i:iL (ag b)=b:=by
  rw[iL,ag,D7];refine(wG fun x f=>?_).trans (List.map_id _);have:=(Gd d x f).1;show ((x.toNat:Nat):Int)=x;omega
 rw[<- g, <- i,e]
theorem abU {q:List Int} (h:Up q n) (v:Nat):q.contains (v:Int)=(ag q).contains v:=by
 rw[td,mh,mh];constructor
 ·intro a;exact bc.2 ⟨_,a,aE⟩
 ·intro a;obtain⟨x,b,e⟩:=bc.1 a;have:=(Gd h x b).1;have c:x.toNat=v:=e;have:x=(v:Int):=al
  rwa [<- this]
theorem ahb (h0:aY V L R=0) (d:Pos (ah V)) {l:List (Nat×Nat)} {q:List Int} (y:ws.Nodup) (n:∀v∈ws,v<V.length) (k:mS L (·∈ws)) (f:lV (ah V) V.length l) (M:∀p∈l,p.1∈ws) (i:Up q V.length) (P:∀v∈ag q,v∈ws/\¬v∈l.map (·.1)):
  allT (ah V) (jC (ah V) false (fun v=>q.contains (v:Int)) (fT ws l) (kY (ah V) l (gT V L R ws)))=dF V L R q l:=by
 have o:(fun v:Nat=>q.contains (v:Int))=fun v=>(ag q).contains v:=funext (abU i);rw[o];have r:PI (ah V) V.length (fT ws l) (kY (ah V) l (gT V L R ws)) (fun g=>dT V L R (dw l g) ws):=(PI.net h0 n k).fixes d f.nd f.val;obtain⟨E,x,s⟩:=PI.outs d (fun v=>(ag q).contains v) (fT ws l) r;have e:=zg d s.ok
 have D:∀u,u∈E↔u∈ag q:=fun u=>by
  rw[x u,Aw];constructor
  ·rintro⟨⟨a,b⟩,c⟩;exact mh.1 (c ⟨a,b⟩)
  ·intro h;exact⟨P u h,fun _=>mh.2 h⟩
 have m:(allT (ah V) (jC (ah V) false (fun v=>(ag q).contains v) (fT ws l) (kY (ah V) l (gT V L R ws)))).1=q:=by
  refine aap e.1.up i fun u=>?_;rw[e.2.1 u, <- D u];exact⟨fun ⟨t,z,A⟩=>s.sub t z u A,fun h=>s.sup u h⟩
 refine Prod.ext m ?_;rw[TF d e.1 (Yj _ _),m];refine wG fun K w=>?_;have j:=bJ.1 w;rw[e.2.2 _ (fun u=>o6 d _ _ u j),s.val _ (fun u=>o6 d _ _ u j)];exact bU qF (alN h0 y n k f.nd M f.val i.nodup P j)
variable {ops:Array Oper} {rest:List Oper} {B' g k:Nat} {w w':World}
def tJ (F:List (Int×Int)):List (Value×Value):=F.map fun p=>(.int .i64 p.1,.int .i64 p.2)
theorem JU (F:List (Int×Int)):(tJ F).length=F.length:=dD _
theorem ae7 (h:k<F.length):(tJ F)[k]'(by rw[JU];exact h)=(.int .i64 F[k].1,.int .i64 F[k].2):=om _
def lQ (w:World) (B:Nat) (v:Value) (F:List (Int×Int)):Prop:=w.ownsRow B 66 2 v F.length (eI (tJ F))
theorem lQ.nil (w:World) (B:Nat):lQ w B (.slice none 0 0) []:=⟨rfl,.inl ⟨rfl,rfl⟩⟩
theorem lQ.aa {B:Nat} {v:Value} (h:lQ w B v F) (b:c8 w w'):lQ w' B v F:=Jk h (Dg.aa b)
theorem lQ.facts {B:Nat} {v:Value} (h:lQ w B v F):∃d cd,v=.slice d F.length cd/\jf w d F/\F.length<=cd/\(d=none ->cd=0):=by
 rcases h.2 with ⟨b,f⟩ |⟨g,cap,y,b,f,i,o,s,t,p⟩
 ·exact⟨none,0,by rw[b,f],(fun k a=>absurd a al),al,fun _=>rfl⟩
 ·refine⟨_,cap,b,fun k a=>?_,o,fun e=>by cases e⟩;have n:k<(tJ F).length:=by rw[JU];exact a
  obtain⟨q,m⟩:=Lg (tJ F) k n;have r:=I4 (tJ F)
  have l:∀j u,(eI (tJ F))[j]? =some u ->w.cell? ⟨g,j,none⟩=some u:=fun j u c=>by
   rw[bZ w g j _ _ (0,0) i];have x:=(mZ.1 c).1;rw[<- p,r7,aA (by rw[JU] at r;omega),vr] at c;exact c
  rw[ae7 a] at q m;exact⟨g,0,rfl,(dS.1 i).1,by rw[bM];exact l _ _ q,by rw[bM];exact l _ _ m⟩
theorem lQ.own {B:Nat} {v:Value} (h:lQ w B v F):∀k,v.ownBlock=some k ->B<=k:=fun k a=>by
 rcases h.2 with ⟨b,c⟩ |⟨g,cap,r,b,c,_⟩
 ·rw[b] at a;cases a
 ·rw[b] at a;cases a;exact c
theorem lQ.alloc {B:Nat} {v:Value} (h:lQ w B v F) (o:Obj):lQ (w.alloc o) B v F:=h.aa ((aw w.heap.size w).alloc (ar _) o)
theorem Tryz.infoFact:(Tryz.prog.info? 66).map (fun i=>(i.zero,i.size,i.bytes))=some (some (.agg #[.int .i64 0,.int .i64 0]),2,16):=ao
theorem aow {o:Nat} (h:jf w (some ⟨g,o,none⟩) F):∀j u,(eI (tJ F))[j]? =some u ->w.cell? ((⟨g,o,none⟩:Addr).add j)=some u:=fun j u a=>by
 have i:=(mZ.1 a).1;rw[I4,JU] at i;have k:j/2<F.length:=al
 obtain⟨g',o',e,_,c,d⟩:=h (j/2) k;cases e;obtain⟨q,b⟩:=Lg (tJ F) (j/2) (by rw[JU];exact k);rw[ae7 k] at q b
 have l:((⟨g,o,none⟩:Addr).add j)=⟨g,o+j,none⟩:=by
  rw[Addr.add];by_cases f:j=0
  ·subst f;simp
  ·simp[f]
 rw[l];rcases Nat.mod_two_eq_zero_or_one j with m |m
 ·have e:j/2*2=j:=al
  rw[e] at q c;rw[q] at a;rw[c,a]
 ·have e:j/2*2+1=j:=al
  rw[e] at b;rw[b] at a;rw[show o+j/2*2+1=o+j by omega] at d;rw[d,a]
theorem aov (F:List (Int×Int)):∀u∈eI (tJ F),u.oneCell'=true:=by
 induction F with
 |nil=>intro u a;cases a
 |cons p F ih=>
  intro u a;have z:u=.int .i64 p.1∨u=.int .i64 p.2∨u∈eI (tJ F):=by simpa [tJ,eI] using a
  rcases z with rfl |rfl |h
  ·rfl
  ·rfl
  ·exact ih u h
theorem Z5 {o:Oper} {a:Act} {Q:Exit ->Act ->World ->Prop} (r:o.guard=none) (s x:Operand)
  (d:o.op=.call {callee:=.builtin .append,args:= #[s,x],argTypes:= #[33,33]}) (base:Nat) (v:Value) (xs la:List (Int×Int)) (f:a.eval s=v) (n:lQ w base v xs) (p:Option Addr) (ca:Nat) (k:a.eval x=.slice p la.length ca) (i:jf w p la) (E:p=none ->ca=0) (K:xs.length+la.length<=100000) (J:base<=w.heap.size)
  (h:∀v' w',lQ w' base v' (xs++la) ->w.grownBy w' v.ownBlock ->wpList Tryz.prog ops Q rest (a.put o.dst v') w'):wpList Tryz.prog ops Q (o::rest) a w:=by
 obtain⟨m,c,F,H,I⟩:=dW Tryz.infoFact;cases p with
 |none=>
  have D:la=[]:=by
   cases la with
   |nil=>rfl
   |cons x l=>obtain⟨g,o,e,_⟩:=i 0 aE;cases e
  subst D;have t:=E rfl;subst t;have b:=h v w (by rw[F9];exact n) ⟨rfl,rfl,rfl,ar _,fun _ _ _=>rfl⟩;exact wpList_append_own_none r s x 33 d base 66 m 2 Tryz.underlying33 c v xs.length _ f n k b
 |some ad=>
  have z:∀j u,(eI (tJ la))[j]? =some u ->w.cell? (ad.add j)=some u:=by
   cases la with
   |nil=>intro j u A;cases A
   |cons q l=>
    obtain⟨g,o',e,_⟩:=i 0 aE;cases e;exact aow i
  refine FX _ r s x 33 d base 66 m (.agg #[.int .i64 0,.int .i64 0]) 2 16 Tryz.underlying33 c F H I rfl a6 v xs.length _ f n ad la.length ca (eI (tJ la)) k (by rw[I4,JU]) z (aov la) (by unfold maxLen;omega) al J ?_;intro v' w' b y _;refine h v' w' ?_ y;rw[lQ,dm,tJ,fg,Lh];exact b
theorem lQ.lower {B:Nat} {v:Value} (h:lQ w B v F) (d:B'<=B):lQ w B' v F:=by
 refine⟨h.1,?_⟩;rcases h.2 with a |⟨g,cap,r,a,b,c⟩
 ·exact .inl a
 ·exact .inr ⟨g,cap,r,a,aR d b,c⟩
structure FF (S:List Nat) (U:List Int) (i:Nat) (l:List (Nat×Nat)):Prop where
 vars:l.map (·.1)=ag (U.take i)
 val:∀p∈l,p.2<sz S p.1
theorem FF.start (S:List Nat) (U:List Int):FF S U 0 []:=⟨rfl,fun p h=>by cases h⟩
theorem FF.len {U:List Int} {l:List (Nat×Nat)} (h:FF S U i l) (a:i<=U.length):l.length=i:=by
 have:=bU List.length h.vars;rw[dD,cV,eX] at this;omega
theorem FF.snoc {U:List Int} {l:List (Nat×Nat)} (h:FF S U i l) (b:i<U.length) {x:Nat} (c:x<sz S U[i].toNat):FF S U (i+1) (l++[(U[i].toNat,x)]):=by
 refine⟨?_,fun p a=>?_⟩
 ·rw[fg,h.vars,fL b,ag,ag,fg];rfl
 ·rcases dh.1 a with a |a
  ·exact h.val p a
  ·rw[dX.1 a];exact c
theorem ZW (l:List (Nat×Nat)) (p:Nat×Nat):zF (l++[p])=zF l++[((p.1:Int),(p.2:Int))]:=by rw[zF,zF,fg];rfl
theorem acZ (w:World) (u v:Int):jf (w.alloc (.cells #[.int .i64 u,.int .i64 v] 66)) (some ⟨w.heap.size,0,none⟩) [(u,v)]:=fun k a=>by
 obtain rfl:k=0:=by simp at a;omega
 have h:=jg w (.cells #[.int .i64 u,.int .i64 v] 66);exact⟨w.heap.size,0,rfl,aE,(bZ _ w.heap.size _ _ _ (0,0) h).trans rfl,(bZ _ w.heap.size _ _ _ (0,0) h).trans rfl⟩
theorem ajf (a b c d r:Option Addr) (ca cb cc cd cr:Nat) (V:List Vr) (L:List (List Int)) (R:List (List Fr)) (U K:List Int) (w:World) (h:gO w a b c V L R) (hd:az w d U) (hr:az w r K) (hU:Up U V.length) (av:U.length<=1000) (hK:∀x∈K, -9223372036854775808<=x/\x<=9223372036854775807) (ao:K.length<=140737488355328) (hV:∀v (h:v<V.length),1<=V[v].2.length/\V[v].2.length<=1000):
  c6 7 #[.agg #[.slice a V.length ca,.slice b L.length cb,.slice c R.length cc],.slice d U.length cd,.slice r K.length cr] w fun e w'=>∃x l,e=.returned x/\lQ w' w.heap.size x (zF l)/\l.map (·.1)=ag U/\(∀p∈l,p.2<sz (ah V) p.1)/\c8 w w':=by
 have bP:=cT.at (w:=w) rfl (.slice a V.length ca) (.slice b L.length cb) (.slice c R.length cc);have aj:c8 w (w.alloc (NC (.slice a V.length ca) (.slice b L.length cb) (.slice c R.length cc))):=(aw _ w).alloc (ar _) _;have HN:=hid h;have HD:=hid hd;have HR:=hid hr;have HU:=hid hU;have HK:=hid hK;have HV:=hid hV;have HE:Hid (∀l,FF (ah V) U U.length l ->l.map (·.1)=ag U):=fun l hl=>by have:=hl.vars;rwa [fD] at this
 obtain⟨f,Q⟩:∃n,K.length=n:=⟨_,rfl⟩;rw[Q];have Y4:=hid Q;rw[Q] at ao;clear h hd hr hU hK hV Q;go_enter Tryz.func7,Tryz.ntmps7;go_wp2_with fail
 have qY:=hid bP;have IA:=hid aj;clear bP aj;generalize w.alloc (NC (.slice a V.length ca) (.slice b L.length cb) (.slice c R.length cc))=W0 at *;go_loopw [7,8] (fun xv iv wr=>∃(i:Nat) (l:List (Nat×Nat)),i<=U.length/\iv=.int .i64 i/\Hid (FF (ah V) U i l)/\Hid (lQ wr (w.heap.size+1) xv (zF l))/\Hid (cT wr w.heap.size (.slice a V.length ca) (.slice b L.length cb) (.slice c R.length cc))/\Hid (c8 w wr)) (fun _ iv _=>U.length - (intOf iv).toNat)
 case atStart=>exact⟨0,[],aS _,rfl,FF.start _ _,lQ.nil _ _,qY,IA⟩
 case round=>
  obtain⟨i,l,hi,rfl,F,O,X,H⟩:=hrel;clear qY IA;by_cases ab:i<U.length
  ·obtain⟨g,an,rfl,hg,t⟩:=(HD.o.aa H.o) i ab;have a8:=HU.o.each i ab;obtain⟨v,I⟩:∃v:Nat,U[i]=(v:Int):=⟨U[i].toNat,al⟩;(have J:v<V.length:=al);obtain⟨A,oa,bb,aq,rfl,xw,n0,n1,n2,n3⟩:=(HN.o.vars.aa H.o) v J;have ad:=HV.o v J;have ai:=Lk J
   have Dm:Hid (∀x,x<V[v].2.length ->FF (ah V) U (i+1) (l++[(v,x)])):=fun x hx=>by
    have:=F.o.snoc ab (x:=x) (by rw[I,nh,ai];exact hx);rwa [I,nh] at this
   rw[I] at t;have cN:=F.o.len hi;clear ai a8 n2 n3 n0;generalize V[v].2.length=m at *;by_cases MM:f=0
   ·subst MM;have S:=hid O.o.own;have Y:=hid (O.o.alloc (.cells #[.int .i64 (v:Nat),.int .i64 (0:Nat)] 66));have T:=hid (H.o.alloc H.o.size (.cells #[.int .i64 (v:Nat),.int .i64 (0:Nat)] 66));have M:=hid (acZ wr (v:Nat) (0:Nat));have q:=hid (X.o.aa ((aw wr.heap.size wr).alloc (ar _) (.cells #[.int .i64 (v:Nat),.int .i64 (0:Nat)] 66)) X.o.lt);have D:Hid (w.heap.size+1<=(wr.alloc (.cells #[.int .i64 (v:Nat),.int .i64 (0:Nat)] 66)).heap.size):=hid (q.o.lt);go_wp2_with (at_builtin;refine Z5 rfl _ _ rfl (w.heap.size+1) _ (zF l) [((v:Int),(0:Nat))] rfl Y.o (some ⟨wr.heap.size,0,none⟩) 1 rfl M.o (fun e=>by cases e) (by simp[tY];omega) D.o ?_;intro v' w2 s o)
    have u:=hid (T.o.grown o T.o.size fun k E=>Nat.le_of_succ_le (S.o k E));have Z:Hid (cT w2 w.heap.size (.slice (some ⟨A,oa,none⟩) V.length ca) (.slice b L.length cb) (.slice c R.length cc)):=(o.block w.heap.size D.o (fun e=>by have:=S.o _ e.symm;omega)).trans q.o;have y:=hid s;clear s o;go_roundw
    case rel=>exact⟨i+1,_,al,bd,Dm.o 0 al,by rw[ZW];exact y,Z,u⟩
    case measure=>simp[intOf];omega
   ·have hj:i % f<K.length:=by rw[Y4.o];exact iw _ al
    obtain⟨gk,ok,rfl,ax,k0⟩:=(HR.o.aa H.o) (i % f) hj;have ak:=HK.o _ (bB hj);have aE:((i:Nat):Int) % (f:Int)=((i % f:Nat):Int):=(sY _ _).symm;have ay:i % f<f:=iw _ al;obtain⟨x0,x1,x2⟩:=X.o.cells;have zB:=hid (fun W=>abE K[i % f] m W ak.1 ak.2 ad.1 ad.2);have hP:=P8 K[i % f] ad.1;generalize wM K[i % f] m=P at *;generalize K[i % f]=kk at *;generalize i % f=j at *;go_wp2_with fail
    go_quiet ((go_at_call 9;refine Calls.quiet_of_same (zB.o _)))
    have ae:Hid (lQ (wr.drewN nq) (w.heap.size+1) u7 (zF l)):=O;have af:Hid (cT (wr.drewN nq) w.heap.size (.slice (some ⟨A,oa,none⟩) V.length ca) (.slice b L.length cb) (.slice c R.length cc)):=X;have x6:=hid (below_drewN H.o nq);have RU:(wr.drewN nq).cell? ⟨g,an+i,none⟩=some (.int .i64 (v:Nat)):=t;clear O X H t k0 x0 x1 x2 n1;generalize wr.drewN nq=z at *;have O:=ae;have X:=af;have H:=x6;have t:=RU;clear ae af x6 RU;have S:=hid O.o.own;have Y:=hid (O.o.alloc (.cells #[.int .i64 (v:Nat),.int .i64 (P:Nat)] 66));have T:=hid (H.o.alloc H.o.size (.cells #[.int .i64 (v:Nat),.int .i64 (P:Nat)] 66));have M:=hid (acZ z (v:Nat) (P:Nat));have q:=hid (X.o.aa ((aw z.heap.size z).alloc (ar _) (.cells #[.int .i64 (v:Nat),.int .i64 (P:Nat)] 66)) X.o.lt);have D:Hid (w.heap.size+1<=(z.alloc (.cells #[.int .i64 (v:Nat),.int .i64 (P:Nat)] 66)).heap.size):=hid (q.o.lt);go_wp2_with (at_builtin;refine Z5 rfl _ _ rfl (w.heap.size+1) _ (zF l) [((v:Int),(P:Nat))] rfl Y.o (some ⟨z.heap.size,0,none⟩) 1 rfl M.o (fun e=>by cases e) (by simp[tY];omega) D.o ?_;intro v' w2 s o)
    have u:=hid (T.o.grown o T.o.size fun k E=>Nat.le_of_succ_le (S.o k E));have Z:Hid (cT w2 w.heap.size (.slice (some ⟨A,oa,none⟩) V.length ca) (.slice b L.length cb) (.slice c R.length cc)):=(o.block w.heap.size D.o (fun e=>by have:=S.o _ e.symm;omega)).trans q.o;have y:=hid s;clear s o;go_roundw
    case rel=>exact⟨i+1,_,al,bd,Dm.o P hP,by rw[ZW];exact y,Z,u⟩
    case measure=>simp[intOf];omega
  ·obtain rfl:i=U.length:=al
   go_wp2;go_ret;exact⟨_,l,rfl,O.o.lower (Nat.le_succ _),HE.o l F.o,F.o.val,H.o⟩
theorem alw (k:Int):mkRat k 1=(k:Rat):=by
 rw[Rat.mkRat_one]
open Go
theorem Nh (h:u<10):Lib.decDigits u=[UInt8.ofNat (48+u)]:=by rw[Lib.decDigits,dif_pos h]
theorem afq (h:¬u<10):Lib.decDigits u=Lib.decDigits (u/10)++[UInt8.ofNat (48+u % 10)]:=by rw[Lib.decDigits,dif_neg h]
open Go.Lib
theorem ao2 (k:Nat):∀n,n<10^(k+1) ->(decDigits n).length<=k+1:=by
 induction k with
 |zero=>intro n h;rw[Nh (by simpa using h)];simp
 |succ k ih=>
  intro n h;by_cases a:n<10
  ·rw[Nh a];simp
  ·rw[afq a,dm];have:=ih (n/10) (by rw[ji] at h;omega);simp;omega
theorem ao3 (h:n<256^k):(decDigits n).length<=3*k+1:=by
 apply ao2;have a:(256:Nat)^k<=(10^3)^k:=Nat.pow_le_pow_left a6 k;rw[<- Nat.pow_mul] at a;have b:10^(3*k)<=10^(3*k+1):=kN a6 al;omega
def y7 (n:Nat):List UInt8:=if n=0 then[] else decDigits n
theorem aoZ (h:n≠0):y7 n=y7 (n/10)++[UInt8.ofNat (48+n % 10)]:=by
 rw[y7,aB h];by_cases a:n<10
 ·rw[Nh a,y7,aA al,iI,jM a]
 ·rw[afq a,y7,aB al]
theorem aiQ (a:ByteArray) (w:World) (j:a.size<=500000):
  c6 10 #[.string a] w (da w (.string ⟨(decDigits (N a)).toArray⟩)):=by
 have H:=aD (oF a w al);have u:=aR (jL a) j;have I:=ao3 (FV (N a));generalize hA':N a=A at *;clear hA' j;by_cases v:A=0
 ·subst v;rw[BP] at H;have Z:Hid (decDigits 0=[48]):=Nh a6;rw[Z.o];clear I;go_enter Tryz.func10,Tryz.ntmps10;go_wp2_with fail
  refine(H.o).af ?_;rintro e k ⟨rfl,g⟩;subst g;go_wp2;go_ret;exact⟨rfl,aw _ _⟩
 ·have m:=DR v;have D:Hid (y7 A=decDigits A):=aB v;have F:N ⟨#[10]⟩=10:=rfl;go_enter Tryz.func10,Tryz.ntmps10;go_wp2_with fail
  refine(H.o).af ?_;rintro e k ⟨rfl,g⟩;subst g;clear H;go_wp2;go_loopg [0,3] A (fun n va vs wr=>∃s:ByteArray,va=.string (B n)/\vs=.string s/\(B n).size<=500000/\Hid (y7 n++s.data.toList=y7 A)/\c8 k wr)
  case atStart=>exact⟨⟨#[]⟩,rfl,rfl,u,(show _=_ by simp),aw _ _⟩
  case round=>
   obtain⟨s,rfl,rfl,c,S,b⟩:=hrel;clear m;by_cases h:gk=0
   ·subst h;rw[BP]
    have E:Hid (s=⟨(decDigits A).toArray⟩):=by
     show _=_;have:=S.o;rw[y7,aA rfl,iI,D.o] at this;apply Pe;apply Ph.1;rw[this]
    go_wp2;go_ret;exact⟨by rw[<- E.o];rfl,b⟩
   ·have m:=DR h;have f:=fun V=>abJ (B gk) ⟨#[10]⟩ V c (by show 1<=_;omega) (by rw[F];decide);rw[bS,F] at f;have p:=aD f;have O:gk % 10<10:=iw _ a6;have z:(B (gk % 10)).size<=500000:=aR (j8 (II _ _)) c;have X:=fun V=>Hh (B (gk % 10)) 0 V al al;rw[bS,KP,Cb,jM (show gk % 10<256 by omega)] at X;have q:=aD X;have r:=aR (j8 (wF gk 10)) c
    have K:s.size<=1500001:=by
     have e:=bU List.length S.o;rw[dm,A5,D.o] at e;omega
    have y:gk/10<gk:=Nat.div_lt_self (lZ h) a6;have t:=aoZ h
    have Q:Hid (y7 (gk/10)++(strOfNums [48+((gk % 10:Nat):Int)]++s).data.toList=y7 A):=by
     show _=_;rw[<- S.o,t,ByteArray.data_append,Array.toList_append,ID,sX];(have this:(48+((gk % 10:Nat):Int)).toNat=48+gk % 10:=al);rw[gV,lx,this]
    clear t f X c z;generalize hd':gk % 10=d at *;clear hd'
    have R:=fun V:World=>IE (P:=Tryz.prog) (V.alloc (.cells #[.int .u8 (48+(d:Int))] 5)) 72 5 Tryz.underlying72 Tryz.underlying5 V.heap.size 0 1 1 [48+(d:Int)] rfl (fun i L=>by
     (obtain rfl:i=0:=al);rw[bZ _ V.heap.size (0+0) _ _ (0,0) (jg _ _)];rfl) 9 Tryz.underlying9
    have T:(strOfNums [48+(d:Int)]).size=1:=strOfNums_size _;go_wp2_with fail
    refine(p.o _).af ?_;rintro e M ⟨rfl,l⟩;go_wp2_with fail
    refine(q.o _).af ?_;rintro e x ⟨rfl,J⟩;subst J;have U:=R x;clear R;go_wp2;go_roundg (gk/10)
    case measure=>exact y
    case rel=>exact⟨strOfNums [48+(d:Int)]++s,rfl,rfl,r,Q.o,(b.trans (l.af b.size)).alloc (b.trans (l.af b.size)).size _⟩
def JW (i:Nat):ByteArray:=⟨(decDigits i).toArray⟩
theorem XS (h:i<10):(JW i).size=1:=by
 rw[JW,Nh h];rfl
abbrev jT (c:UInt8) (i:Nat):ByteArray:=⟨#[c]⟩++JW i
def tZ (k:Nat):List ByteArray:=(List.range k).map (jT 118)
theorem ag3 (k:Nat):tZ (k+1)=tZ k++[jT 118 k]:=by simp[tZ,sV]
theorem Ps (k:Nat):(tZ k).length=k:=by simp[tZ]
theorem abG (i:Nat) (w:World) (h:i<=1000):c6 11 #[.int .i64 (i:Nat)] w (da w (.string (B i))):=by
 have:=Jd (i:Int) w al al;rwa [nh] at this
theorem abB (i:Nat) (w:World) (a:i<=1000):c6 10 #[.string (B i)] w (da w (.string (JW i))):=by
 have:=aiQ (B i) w (by
  have h:(B i).size<=1000:=by rw[lq];exact aR (pY 2 i al) al
  omega)
 rwa [bS] at this
theorem ld.empty (w:World) (B:Nat):ld w B (.slice none 0 0) []:=⟨rfl,.inl ⟨rfl,rfl⟩⟩
theorem ld.step {B:Nat} {v:Value} {l:List ByteArray} (h:ld w B v l) (e:c8 w w'):ld w' B v l:=by
 refine⟨h.1,?_⟩;rcases h.2 with a |⟨g,cap,r,a,c,b,d⟩
 ·exact .inl a
 ·exact .inr ⟨g,cap,r,a,c,(e.block g (dS.1 b).1).trans b,d⟩
theorem apL (k:Nat) (w:World) (q:k<=3):
  c6 12 #[.int .i64 (k:Nat)] w fun e w'=>∃x,e=.returned x/\ld w' w.heap.size x (tZ k)/\c8 w w':=by
 have K:=hid (fun (i:Nat) (h:i<=1000) (U:World)=>abG i U h);have u:=hid (fun (i:Nat) (h:i<=1000) (U:World)=>abB i U h);go_enter Tryz.func12,Tryz.ntmps12;go_wp2_with fail
 go_loopw [3,4] (fun x iv wr=>∃i:Nat,i<=k/\iv=.int .i64 i/\Hid (ld wr w.heap.size x (tZ i))/\Hid (c8 w wr)) (fun _ iv _=>k - (intOf iv).toNat)
 case atStart=>exact⟨0,aS _,rfl,ld.empty _ _,aw _ _⟩
 case round=>
  obtain⟨i,h,rfl,R,H⟩:=hrel;by_cases y:i<k
  ·go_wp2_with fail
   refine(K.o i al _).af ?_;rintro e t ⟨rfl,b⟩;go_wp2_with fail
   refine(u.o i al _).af ?_;rintro e a ⟨rfl,f⟩;have j:=b.trans (f.af b.size);have l:=hid (R.o.step j);have c:=hid (H.o.trans (j.af H.o.size));clear b f j R H;have r:=hid (l.o.step ((aw _ a).alloc (ar _) (.cells #[.string (jT 118 i)] 9)));have T:=hid (c.o.alloc c.o.size (.cells #[.string (jT 118 i)] 9));have J:=hid (acF a (jT 118 i));have d:w.heap.size<=(a.alloc (.cells #[.string (jT 118 i)] 9)).heap.size:=T.o.size;have s:=Ps i;have m:=hid (ag3 i);have z:=XS (i:=i) al;go_wp2_with (at_builtin;refine Z4 rfl _ _ rfl w.heap.size _ (tZ i) (jT 118 i) rfl r.o a.heap.size rfl J.o al d ?_;intro v' v p n;have g:=hid (T.o.grown n d (fun k e=>r.o.own k e)))
   go_roundw
   case rel=>exact⟨i+1,al,bd,by rw[m.o];exact p,g⟩
   case measure=>simp[intOf];omega
  ·obtain rfl:i=k:=al
   go_wp2;go_ret;exact⟨_,rfl,R.o,H.o⟩
def rp (Ls:List Nat):List Fr:=Ls.map fun a:Nat=>qF ((a:Rat)/(Ls.sum:Rat))
theorem T6 (Ls:List Nat):(rp Ls).length=Ls.length:=by simp[rp]
theorem abR (h:n<256):qw (n:Rat)<=2:=by
 have a:(n:Rat).num.natAbs=n:=aE
 have b:(n:Rat).den=1:=rfl;rw[qw,a,b,lq,lq];have c:=pY 1 n al;have d:=pY 1 1 al;omega
theorem PA:∀ {Ls:List Nat},(∀a∈Ls,a<=6) ->Ls.sum<=6*Ls.length
 |[],_=>ar _
 |a::l,h=>by
  have d:=h a dQ;have e:=PA fun b c=>h b (eH _ c);simp only[List.sum_cons,eA];omega
theorem aiJ {Ls:List Nat} (h:∀a∈Ls,a<=6) (g:Ls.length<=3) (s:1<=Ls.sum):∀f∈rp Ls,f.2.1.size+f.2.2.size<=2:=by
 intro f c;obtain⟨a,b,rfl⟩:=bc.1 c;have e:=PA h;have d:=h a b;show (nu ((a:Rat)/(Ls.sum:Rat))).size+(de ((a:Rat)/(Ls.sum:Rat))).size<=2;rw[lC];have l:Fits 1 ((a:Rat)/(Ls.sum:Rat)):=⟨(a:Int),Ls.sum,al,by rw[Rat.mkRat_eq_div];rfl,al,by simp;omega⟩;exact M7 l
theorem aiK {Ls:List Nat} (j:1<=Ls.sum):gY (rp Ls)=true:=by
 have h:(Ls.sum:Rat)≠0:=fun e=>by
  have g:Ls.sum=0:=by exact_mod_cast e
  omega
 have k:(0:Rat)<(Ls.sum:Rat):=Rat.lt_of_le_of_ne Rat.natCast_nonneg (Ne.symm h);rw[gY,gX];constructor
 ·rw[gW];intro f b;obtain⟨a,i,rfl⟩:=bc.1 b;refine cY ?_;rw[qJ,BW];have d:(0:Rat)<=(a:Rat):=Rat.natCast_nonneg;rw[vg];exact OY d (Rat.le_of_lt (Rat.inv_pos.2 k))
 ·refine cY ?_
  have y:∀(l:List Nat) (s c:Rat),(l.map fun a:Nat=>qF ((a:Rat)/c)).foldl (fun s f=>s+E8 f) s=s+(l.sum:Rat)/c:=by
   intro l;induction l with
   |nil=>intro s c;show s=s+((0:Nat):Rat)/c;rw[vg];grind
   |cons a l ih=>
    intro s c;rw[gV,Ea,ih,show E8 (qF ((a:Rat)/c))=(a:Rat)/c from qJ _,List.sum_cons,vg,vg,vg,Rat.natCast_add,Rat.add_mul,KO]
  rw[aX,rp,y,Rat.zero_add,vg,Rat.mul_inv_cancel _ h]
variable {cap:Nat}
theorem adC (Ls:List Nat) (a:Nat):iL (Ls++[a])=iL Ls++[(a:Int)]:=by simp[iL]
theorem bA.put {B:Nat} (h:bA w B (.slice (some ⟨g,0,none⟩) n cap) l) (j:Nat) (y:Int):bA (w.setCell ⟨g,j,none⟩ (.int .i64 y)) B (.slice (some ⟨g,0,none⟩) n cap) (l.set j y):=by
 rcases h.2 with ⟨a,_⟩ |⟨g',p,r,a,b,c,d,e,f,i⟩
 ·cases a
 ·cases a;refine⟨aE,.inr ⟨g,cap,_,aE,b,kM w g j _ _ _ c,by simpa using d,e,by simpa using f,?_⟩⟩;rw[Array.toList_setIfInBounds,sW,F8, <- i,List.take_set]
theorem fW.lower {B:Nat} {v:Value} {l:List Fr} (h:fW w B v l) (e:B'<=B):fW w B' v l:=by
 refine⟨h.1,?_⟩;rcases h.2 with a |⟨g,cap,r,a,b,c,d⟩
 ·exact .inl a
 ·exact .inr ⟨g,cap,r,a,aR e b,c,d⟩
theorem bA.emptyB (w:World) (B:Nat):bA w B (.slice none 0 0) []:=⟨rfl,.inl ⟨rfl,rfl⟩⟩
structure Nw (Ls:List Nat) (i:Nat):Prop where
 len:Ls.length=i
 six:∀a∈Ls,a<=6
theorem aiy (d:Option Addr) (cd k n:Nat) (W:List Int) (w:World) (hW:az w d W) (L:∀x∈W, -9223372036854775808<=x/\x<=9223372036854775807) (hk:k<=100000) (eN:1<=n) (yH:n<=5) (bK:W.length<=140737488355328):
  c6 15 #[.slice d W.length cd,.int .i64 (k:Nat),.int .i64 (n:Nat)] w fun e w'=>∃(x:Value) (Ls:List Nat),e=.returned x/\fW w' w.heap.size x (rp Ls)/\Nw Ls n/\1<=Ls.sum/\c8 w w':=by
 have HW:=hid hW;have HR:=hid L;have zB:=hid (fun (c:Int) (h: -9223372036854775808<=c/\c<=9223372036854775807) (U:World)=>PO c 7 U h.1 h.2 al al);have gH:=hid (fun (c:Int)=>P8 c (n:=7) al);have P:=hid (fun (a:Nat) (h:a<=100) (U:World)=>Lu (a:Int) U al al)
 have aQ:Hid (∀(a:Nat),a<=100 ->∀U:World,c6 33 #[.int .i64 (a:Nat)] U fun e w'=>e=.returned (dM (qF (a:Rat)))/\c8 U w'):=fun a b U=>by
  have h:=P.o a b U;rw[alw] at h;exact h
 have Ix:Hid (∀(a s:Nat),a<=100 ->1<=s ->s<=100 ->∀U:World,c6 32 #[dM (qF (a:Rat)),dM (qF (s:Rat))] U fun e w'=>e=.returned (.tuple #[dM (qF ((a:Rat)/(s:Rat))),.int .i64 0])/\c8 U w'):=fun a s b bV E U=>by
  have bp:(s:Rat)≠0:=fun e=>by
   (have e':s=0:=by exact_mod_cast e);omega
  have h:=abL (aJ (a:Rat)) (aJ (s:Rat)) (nu (a:Rat)) (de (a:Rat)) (nu (s:Rat)) (de (s:Rat)) U (by rw[gg];exact bp) (by rw[lC];have:=abR (n:=a) al;omega) (by rw[lC];have:=abR (n:=s) al;omega);rw[gg,gg] at h;exact h
 clear P;have P:=aQ;clear aQ hW L;go_enter Tryz.func15,Tryz.ntmps15;go_wp2_with fail
 go_loopw [7,8,9] (fun x sv iv wr=>∃(i:Nat) (Ls:List Nat),i<=n/\iv=.int .i64 i/\sv=.int .i64 (Ls.sum:Nat)/\Hid (Nw Ls i)/\Hid (bA wr w.heap.size x (iL Ls))/\Hid (c8 w wr)) (fun _ _ iv _=>n - (Go.RowKit.intOf iv).toNat)
 case atStart=>exact⟨0,[],aS _,rfl,rfl,⟨rfl,fun a b=>by cases b⟩,bA.emptyB _ _,aw _ _⟩
 case round=>
  obtain⟨i,Ls,hi,rfl,rfl,H,X,f⟩:=hrel;by_cases aj:i<n
  ·have VO:Ls.sum<=100:=by have:=PA H.o.six;have:=H.o.len;omega
   have r:=H.o.len;by_cases ao:0<W.length
   ·obtain⟨A,QX⟩:∃A,A=k+i:=⟨_,rfl⟩;(have bW:IntKind.i64.wrap ((k:Int)+(i:Int))=(A:Int):=by rw[dE];omega);obtain⟨t,ht⟩:∃t,t=A % W.length:=⟨_,rfl⟩;(have rC:t<W.length:=by rw[ht];exact iw _ ao);(have L0:(A:Int) % (W.length:Int)=(t:Int):=by rw[ht,sY]);obtain⟨g',o',rfl,iA,cW⟩:=(HW.o.aa f.o) t rC;have bu:=HR.o W[t] (bB rC);have bR:=gH.o W[t];have N5:=hid (fun U=>zB.o W[t] bu U);(have bE:(0:Int)<(W.length:Int):=al);(have bI:¬(W.length:Int)=0:=al);(have Vu:IntKind.i64.wrap ((A:Int) % (W.length:Int))=(t:Int):=by rw[L0,dE];omega);clear ht QX ao;generalize W[t]=wt at *;generalize wM wt 7=p at *;go_wp2_with fail
    refine(N5.o _).af ?_;rintro e w1 ⟨rfl,z⟩;have NS:=hid (X.o.aa z);have dN:=hid (f.o.trans (z.af f.o.size));have M:=hid (NS.o.aa ((aw _ w1).alloc (ar _) (.cells #[.int .i64 (p:Int)] 3)));have T:=hid (dN.o.alloc dN.o.size (.cells #[.int .i64 (p:Int)] 3));have lS:=hid (Cv w1 (p:Int));have R:w.heap.size<=(w1.alloc (.cells #[.int .i64 (p:Int)] 3)).heap.size:=T.o.size;(have jG:(iL Ls).length=i:=by rw[ba];exact r);have jw:=hid (adC Ls p);(have br:IntKind.i64.wrap ((Ls.sum:Int)+(p:Int))=(((Ls++[p]).sum:Nat):Int):=by rw[dE];simp;omega);have Hs:Hid (Nw (Ls++[p]) (i+1)):=⟨by simp[r],fun a b=>by rcases dh.1 b with b |b;exact H.o.six a b;rw[dX.1 b];omega⟩;generalize E:(Ls++[p]).sum=s2 at *;have gQ:=hid E;clear E cW z X f NS dN;go_wp2_with (at_builtin;refine wI rfl _ _ rfl w.heap.size _ (iL Ls) [(p:Int)] rfl M.o (some ⟨w1.heap.size,0,none⟩) 1 rfl lS.o (fun e=>by cases e) (by simp;omega) R ?_;intro v' w3 ak ai;have df:=hid (T.o.grown ai R (fun k e=>M.o.own k e)))
    go_roundw
    case rel=>exact⟨i+1,Ls++[p],al,bd,by rw[gQ.o],Hs,by rw[jw.o];exact ak,df⟩
    case measure=>simp[Go.RowKit.intOf];omega
   ·have oP:¬(0:Int)<(W.length:Int):=al
    have bx:decide (0<W.length)=false:=cK al;have M:=hid (X.o.aa ((aw _ wr).alloc (ar _) (.cells #[.int .i64 1] 3)));have T:=hid (f.o.alloc f.o.size (.cells #[.int .i64 1] 3));have lS:=hid (Cv wr 1);have R:w.heap.size<=(wr.alloc (.cells #[.int .i64 1] 3)).heap.size:=T.o.size;(have jG:(iL Ls).length=i:=by rw[ba];exact r);have jw:=hid (adC Ls 1);(have br:IntKind.i64.wrap ((Ls.sum:Int)+1)=(((Ls++[1]).sum:Nat):Int):=by rw[dE];simp;omega);have Hs:Hid (Nw (Ls++[1]) (i+1)):=⟨by simp[r],fun a b=>by rcases dh.1 b with b |b;exact H.o.six a b;rw[dX.1 b];omega⟩;have gQ:=hid (Eq.refl (Ls++[1]).sum);generalize E:(Ls++[1]).sum=s2 at *;have zu:=hid E;clear E gQ X f ao;go_wp2_with (at_builtin;refine wI rfl _ _ rfl w.heap.size _ (iL Ls) [(1:Int)] rfl M.o (some ⟨wr.heap.size,0,none⟩) 1 rfl lS.o (fun e=>by cases e) (by simp;omega) R ?_;intro v' w3 ak ai;have df:=hid (T.o.grown ai R (fun k e=>M.o.own k e)))
    go_roundw
    case rel=>exact⟨i+1,Ls++[1],al,bd,by rw[zu.o],Hs,by rw[jw.o];exact ak,df⟩
    case measure=>simp[Go.RowKit.intOf];omega
  ·obtain rfl:n=i:=al
   (have VO:Ls.sum<=100:=by have:=PA H.o.six;have:=H.o.len;omega);have r:=H.o.len;by_cases Y:Ls.sum=0
   focus
    (have GR:0<(iL Ls).length:=by rw[ba];omega);rcases X.o.cases with ⟨_,bw⟩ |⟨g,cap,rfl,bm,hg,bO,bQ,hh⟩
    ·rw[bw] at GR;exact absurd GR aE
    focus
     have aq:=X.o.put 0 1;obtain⟨a8,bb⟩:=hh 0 (by simpa using GR);rw[bM] at a8 bb;have sS:=hid (f.o.setCell (p:=⟨g,0,none⟩) bm (.int .i64 1));(have Wc:(iL Ls).length=n:=by rw[ba];exact r);rw[Wc]
     obtain⟨I,u,rfl⟩:∃I u,Ls=I::u:=by
      cases Ls with
      |nil=>rw[<- r] at eN;exact absurd eN aE
      |cons I u=>exact⟨I,u,rfl⟩
     (have a1:I=0/\u.sum=0:=by simp at Y;exact Y)
     have Sg:Hid (bA (wr.setCell ⟨g,0,none⟩ (.int .i64 1)) w.heap.size (.slice (some ⟨g,0,none⟩) n cap) (iL (1::u))):=by
      rw[Wc] at aq;exact aq
     have F:Hid (Nw (1::u) n):=⟨by simpa using r,fun a b=>by rcases dR.1 b with rfl |b;omega;exact H.o.six a (eH _ b)⟩;have m:Hid ((1::u).sum=1/\1<=1/\1<=100):=⟨by simp[a1.2],al,al⟩;(have b6:(0:Int)<(n:Int):=al);rw[Y,show ((0:Nat):Int)=0 from rfl];clear Y aq hh X f Wc VO r H;go_upto_region 14 with fail
     clear a8 bb a1;generalize (wr.setCell ⟨g,0,none⟩ (.int .i64 1))=Q at *;have mN:=Sg;have Z:=sS;obtain⟨S,v⟩:∃S:Nat,S=1:=⟨1,rfl⟩;obtain⟨l,V⟩:∃l,l=1::u:=⟨_,rfl⟩;rw[<- V] at F m mN;(have aO:Hid (l.sum=S/\1<=S/\S<=100):=by rw[v];exact m);(have K:(1:Int)=((S:Nat):Int):=by rw[v];rfl);rw[K];clear m Sg sS V v K;have m:=aO;clear aO
   rotate_left
   focus
    (have VP:¬(Ls.sum:Int)=0:=al);obtain⟨S,v⟩:∃S,Ls.sum=S:=⟨_,rfl⟩;have m:Hid (Ls.sum=S/\1<=S/\S<=100):=⟨v,al,al⟩;rw[v] at VP⊢;obtain⟨l,V⟩:∃l,l=Ls:=⟨_,rfl⟩;rw[<- V] at H X m;have F:=H;have mN:=X;have Z:=f;(have VL:((S:Int)==0)=false:=by simpa using VP);clear Y v V H X f VO r;go_upto_region 14 with fail
    clear VP VL;generalize wr=Q at *
   all_goals
    obtain⟨d7,uC,e7,uh⟩:=mN.o.ints;have bf:=hid uh;(have aG:(iL l).length=n:=by rw[ba];exact F.o.len);rw[aG] at e7;cases e7;have bl:=m.o.2.1;have Rg:=m.o.2.2;have H3:=hid m.o.1;(have jK:Hid ((rp l).length=n):=by show _=_;rw[T6];exact F.o.len);(have zN:Hid (∀j (h:j<l.length),(rp l)[j]'(by rw[T6];exact h)=qF ((l[j]:Rat)/(S:Rat))):=fun j h=>by simp[rp,H3.o]);clear uh m;go_wp2_with fail
    go_loopw [11,12] (fun x iv wr2=>∃i:Nat,i<=n/\iv=.int .i64 i/\Hid (fW wr2 Q.heap.size x ((rp l).take i))/\Hid (c8 Q wr2)) (fun _ iv _=>n - (Go.RowKit.intOf iv).toNat)
    case atStart=>exact⟨0,aS _,rfl,fW.empty _ _,aw _ _⟩
    case round=>
     obtain⟨i,hi,rfl,HY,O⟩:=hrel;by_cases aj:i<n
     ·have Ml:i<(iL l).length:=by rw[aG];exact aj
      (have J:i<l.length:=by rw[<- ba];exact Ml);obtain⟨g',o',e8,iA,cL⟩:=(bf.o.aa O.o) i Ml;cases e8;(try rw[bM] at cL)
      (have K:(iL l)[i]'Ml=((l[i]'J:Nat):Int):=by simp[iL]);rw[K] at cL;have bN:=F.o.six (l[i]'J) (bB J);have Mr:=zN.o i J;(have bg:Hid ((rp l).take i++[qF (((l[i]'J:Nat):Rat)/(S:Rat))]=(rp l).take (i+1)):=by show _=_;rw[fL (by rw[jK.o];exact aj),Mr]);clear K Mr;generalize (l[i]'J)=av at *;have rT:=hid (fun U=>P.o av al U);have xV:=hid (fun U=>P.o S al U);have bk:=hid (fun U=>Ix.o av S al al al U);generalize qF ((av:Nat):Rat)=fa at *;generalize qF ((S:Nat):Rat)=fs at *;generalize qF (((av:Nat):Rat)/((S:Nat):Rat))=fq at *;obtain⟨an,ax,ay⟩:=fa;obtain⟨sn,sx,sy⟩:=fs;obtain⟨qn,q,y⟩:=fq;go_wp2_with fail
      refine(rT.o _).af ?_;rintro e v1 ⟨rfl,z⟩;go_wp2_with fail
      refine(xV.o _).af ?_;rintro e v2 ⟨rfl,ab⟩;go_wp2_with fail
      refine(bk.o _).af ?_;rintro e D ⟨rfl,a6⟩;have aN:=ab.trans (a6.af ab.size);have WE:=z.trans (aN.af z.size);clear z ab a6 aN;have bP:=aF.new D qn q y;have ad:=WE.alloc WE.size (FC qn q y);obtain⟨k0,k1,k2, -⟩:=bP.facts
      have aM:aF ((D.alloc (FC qn q y)).alloc (FC qn q y)) (D.heap.size+1) qn q y:=by
       have h:=aF.new (D.alloc (FC qn q y)) qn q y;rwa [cU] at h
      have ae:=ad.alloc ad.size (FC qn q y);have Ka:=hid (HY.o.aa ae);have eE:=hid (O.o.trans (ae.af O.o.size));have qY:=hid aM;have R:Q.heap.size<=((D.alloc (FC qn q y)).alloc (FC qn q y)).heap.size:=eE.o.size;(have rC:((rp l).take i).length<=5:=by rw[eX,jK.o];omega);clear WE ad ae bP aM HY O cL;go_wp2_with (at_builtin;refine Tp rfl _ _ rfl Q.heap.size _ ((rp l).take i) (qn,q,y) rfl Ka.o (D.heap.size+1) rfl qY.o al R ?_;intro v' v6 GL bo;have FQ:=hid (eE.o.grown bo R (fun k e=>Ka.o.own k e)))
      go_roundw
      case rel=>exact⟨i+1,al,bd,by rw[<- bg.o];exact GL,FQ⟩
      case measure=>simp[Go.RowKit.intOf];omega
     ·obtain rfl:i=n:=al
      go_wp2;go_ret;have L:=HY.o;rw[jA (by rw[jK.o];exact ar _)] at L;exact⟨_,l,rfl,L.lower Z.o.size,F.o,by rw[H3.o];exact bl,Z.o.trans (O.o.af Z.o.size)⟩
variable {xs:List Value} {c j:Nat} {a:Option Addr} {x:Value}
def gG (t:TypeId) (w w':World):Prop:=∀(k:Nat) (c:Array Value) (fr:Nat×Nat),w.heap[k]? =some (Obj.cells c t fr) ->w'.heap[k]? =some (Obj.cells c t fr)
theorem gG.aa {t:TypeId} (b:c8 w w'):gG t w w':=fun k _ _ h=>(b.block k (dS.1 h).1).trans h
theorem gG.grown {t b:TypeId} {row:Option Nat} (d:w.grownBy w' row) (r:∀g,row=some g ->∃c f,w.heap[g]? =some (.cells c b f)) (n:t≠b):gG t w w':=fun k c f h=>by
 refine(d.block k (dS.1 h).1 fun e=>?_).trans h;obtain⟨i,j,a⟩:=r k e.symm;rw[h] at a;cases a;exact n rfl
theorem gG.set {t d:TypeId} {b:Nat} {f:Array Value} {r:Nat×Nat} (a:w.heap[b]? =some (.cells f d r)) (n:t≠d) (j:Nat) (y:Value):gG t w (w.setCell ⟨b,j,none⟩ y):=fun k c i h=>by
 refine(iJ w ⟨b,j,none⟩ y k fun e=>?_).trans h;have g:k=b:=e;subst g;rw[h] at a;cases a;exact n rfl
theorem gG.trans {t:TypeId} {a b c:World} (h:gG t a b) (k:gG t b c):gG t a c:=fun i s f d=>k i s f (h i s f d)
theorem qp {B:Nat} {e:TypeId} {s:Nat} {v:Value} (h:w.ownsRow B e s v n xs) (k:gG e w w'):w'.ownsRow B e s v n xs:=by
 refine⟨h.1,?_⟩;rcases h.2 with a |⟨g,cap,r,a,b,c,d⟩
 ·exact .inl a
 ·exact .inr ⟨g,cap,r,a,b,k _ _ _ c,d⟩
theorem Qc {B:Nat} {e:TypeId} {s:Nat} {v:Value} (h:w.ownsRow B e s v n xs):∀g,v.ownBlock=some g ->∃c f,w.heap[g]? =some (.cells c e f):=fun g a=>by
 rcases h.2 with ⟨rfl,_⟩ |⟨g',cap,r,rfl,d,b,i⟩
 ·cases a
 ·cases a;exact⟨_,_,b⟩
theorem Qd {B:Nat} {e:TypeId} {s:Nat} {v:Value} (h:w.ownsRow B e s v n xs):∀g,v.ownBlock=some g ->B<=g:=fun g a=>by
 rcases h.2 with ⟨rfl,_⟩ |⟨g',cap,r,rfl,b,c,d⟩
 ·cases a
 ·cases a;exact b
theorem qo {B:Nat} {e:TypeId} {s:Nat} {v:Value} (h:w.ownsRow B e s v n xs):∃a c,v=.slice a n c/\(a=none ->c=0):=by
 rcases h.2 with ⟨rfl,rfl⟩ |⟨g',cap,r,rfl,b,d,f⟩
 ·exact⟨none,0,rfl,fun _=>rfl⟩
 ·exact⟨_,_,rfl,fun e=>by cases e⟩
theorem LG {B:Nat} {e:TypeId} {s:Nat} {v:Value} (h:w.ownsRow B e s v n xs) (f:B'<=B):w.ownsRow B' e s v n xs:=by
 refine⟨h.1,?_⟩;rcases h.2 with a |⟨g,cap,r,a,b,c,d⟩
 ·exact .inl a
 ·exact .inr ⟨g,cap,r,a,aR f b,c,d⟩
theorem Qe {B:Nat} {e:TypeId} {s:Nat} (h:w.ownsRow B e s (.slice a n c) n xs) (l:j<xs.length):∃g,a=some ⟨g,0,none⟩/\g<w.heap.size/\w.cell? ⟨g,j,none⟩=some xs[j]:=by
 rcases h.2 with ⟨b,d⟩ |⟨g',cap,r,b,d,f,o,p,q,k⟩
 ·have:=h.1;subst d;rw[mX] at this;omega
 ·cases b;refine⟨g',rfl,(dS.1 f).1,?_⟩;have m:j<n*s:=by have:=h.1;omega
  rw[bZ w g' j _ _ (0,0) f]
  have i:r[j]? =(r.toList.take (n*s))[j]?:=by
   rw[r7,aA m,vr]
  rw[i,k,List.getElem?_eq_getElem l]
abbrev PV:Type:=ByteArray×Value×List ByteArray
def vC:List PV ->List Value
 |[]=>[]
 |p::l=>.string p.1::p.2.1::vC l
theorem K8:∀l,(vC l).length=l.length*2
 |[]=>rfl
 |p::l=>by
  show (vC l).length+1+1=(l.length+1)*2;rw[K8 l];omega
theorem aal (p:PV):∀l,vC (l++[p])=vC l++[.string p.1,p.2.1]
 |[]=>rfl
 |q::l=>by
  show Value.string q.1::q.2.1::vC (l++[p])=_;rw[aal p l];rfl
theorem aak:∀(l:List PV) (k:Nat) (h:k<l.length),(vC l)[k*2]'(by rw[K8];omega)=.string l[k].1/\(vC l)[k*2+1]'(by rw[K8];omega)=l[k].2.1
 |p::l,0,_=>⟨rfl,rfl⟩
 |p::l,k+1,h=>by
  obtain⟨a,b⟩:=aak l k (by simpa using h);refine⟨?_,?_⟩
  ·simp only[show (k+1)*2=k*2+1+1 by omega];exact a
  ·simp only[show (k+1)*2+1=k*2+1+1+1 by omega];exact b
def zj (w:World) (B:Nat) (x:Value) (P:List PV):Prop:=w.ownsRow B 44 2 x P.length (vC P)/\∀p∈P,ld w B p.2.1 p.2.2
abbrev PL:Type:=Value×List Int
def zl (w:World) (B:Nat) (y:Value) (P:List PL):Prop:=w.ownsRow B 22 1 y P.length (P.map (·.1))/\∀p∈P,bA w B p.1 p.2
abbrev PR:Type:=Value×List Fr
def zk (w:World) (B:Nat) (z:Value) (P:List PR):Prop:=w.ownsRow B 49 1 z P.length (P.map (·.1))/\∀p∈P,fW w B p.1 p.2
theorem zj.keep {B:Nat} {P:List PV} (h:zj w B x P) (h1:gG 44 w w') (a:gG 9 w w'):zj w' B x P:=⟨qp h.1 h1,fun p b=>qp (h.2 p b) a⟩
theorem zl.keep {B:Nat} {P:List PL} (h:zl w B x P) (h1:gG 22 w w') (a:gG 3 w w'):zl w' B x P:=⟨qp h.1 h1,fun p b=>qp (h.2 p b) a⟩
theorem zk.keep {B:Nat} {P:List PR} (h:zk w B x P) (h1:gG 49 w w') (a:gG 53 w w'):zk w' B x P:=⟨qp h.1 h1,fun p b=>qp (h.2 p b) a⟩
theorem zj.nil (w:World) (B:Nat):zj w B (.slice none 0 0) []:=⟨⟨rfl,.inl ⟨rfl,rfl⟩⟩,fun p h=>by cases h⟩
theorem zl.nil (w:World) (B:Nat):zl w B (.slice none 0 0) []:=⟨⟨rfl,.inl ⟨rfl,rfl⟩⟩,fun p h=>by cases h⟩
theorem zk.nil (w:World) (B:Nat):zk w B (.slice none 0 0) []:=⟨⟨rfl,.inl ⟨rfl,rfl⟩⟩,fun p h=>by cases h⟩
theorem Tryz.infoInts:(Tryz.prog.info? 22).map (fun i=>(i.zero,i.size,i.bytes))=some (some (.slice none 0 0),1,24):=ao
theorem Tryz.infoFracs:(Tryz.prog.info? 49).map (fun i=>(i.zero,i.size,i.bytes))=some (some (.slice none 0 0),1,24):=ao
theorem Tryz.infoVar:(Tryz.prog.info? 44).map (fun i=>(i.zero,i.size,i.bytes))=some (some (.agg #[.string ⟨#[]⟩,.slice none 0 0]),2,40):=ao
theorem agO {o:Oper} {a:Act} {Q:Exit ->Act ->World ->Prop} (r:o.guard=none) (s x:Operand)
  (k:o.op=.call {callee:=.builtin .append,args:= #[s,x],argTypes:= #[26,26]}) (base:Nat) (v:Value) (P:List PL) (q:Value) (l:cP q) (m:a.eval s=v) (A:w.ownsRow base 22 1 v P.length (P.map (·.1))) (g:Nat) (n:a.eval x=.slice (some ⟨g,0,none⟩) 1 1) (i:w.cell? ⟨g,0,none⟩=some q) (E:P.length+1<=100000) (D:base<=w.heap.size)
  (h:∀v' w',w'.ownsRow base 22 1 v' (P.length+1) (P.map (·.1)++[q]) ->w.grownBy w' v.ownBlock ->wpList Tryz.prog ops Q rest (a.put o.dst v') w'):wpList Tryz.prog ops Q (o::rest) a w:=by
 obtain⟨p,d,z,t,y⟩:=dW Tryz.infoInts;refine FX _ r s x 26 k base 22 p (.slice none 0 0) 1 24 Tryz.underlying26 d z t y rfl a6 v P.length _ m A ⟨g,0,none⟩ 1 1 [q] n rfl ?_ ?_ (by unfold maxLen;omega) al D ?_
 ·intro j u b;match j,b with
  |0,b=>cases b;exact i
  |j+1,b=>simp at b
 ·intro u c;simp only[dR,l8,ye] at c;subst c;obtain⟨_,_,_,rfl⟩:=l;rfl
 ·intro v' w' e f _;exact h v' w' e f
theorem agN {o:Oper} {a:Act} {Q:Exit ->Act ->World ->Prop} (r:o.guard=none) (s x:Operand)
  (k:o.op=.call {callee:=.builtin .append,args:= #[s,x],argTypes:= #[27,27]}) (base:Nat) (v:Value) (P:List PR) (q:Value) (l:cP q) (m:a.eval s=v) (A:w.ownsRow base 49 1 v P.length (P.map (·.1))) (g:Nat) (n:a.eval x=.slice (some ⟨g,0,none⟩) 1 1) (i:w.cell? ⟨g,0,none⟩=some q) (E:P.length+1<=100000) (D:base<=w.heap.size)
  (h:∀v' w',w'.ownsRow base 49 1 v' (P.length+1) (P.map (·.1)++[q]) ->w.grownBy w' v.ownBlock ->wpList Tryz.prog ops Q rest (a.put o.dst v') w'):wpList Tryz.prog ops Q (o::rest) a w:=by
 obtain⟨p,d,z,t,y⟩:=dW Tryz.infoFracs;refine FX _ r s x 27 k base 49 p (.slice none 0 0) 1 24 Tryz.underlying27 d z t y rfl a6 v P.length _ m A ⟨g,0,none⟩ 1 1 [q] n rfl ?_ ?_ (by unfold maxLen;omega) al D ?_
 ·intro j u b;match j,b with
  |0,b=>cases b;exact i
  |j+1,b=>simp at b
 ·intro u c;simp only[dR,l8,ye] at c;subst c;obtain⟨_,_,_,rfl⟩:=l;rfl
 ·intro v' w' e f _;exact h v' w' e f
theorem agJ {o:Oper} {a:Act} {K:Act ->World ->Prop} {Q:Exit ->Act ->World ->Prop} (s x:Operand)
  (i:o.op=.call {callee:=.builtin .append,args:= #[s,x],argTypes:= #[25,25]}) (base:Nat) (v:Value) (P:List PV) (m:ByteArray) (q:Value) (k:cP q) (l:a.eval s=v) (D:w.ownsRow base 44 2 v P.length (vC P)) (g:Nat) (n:a.eval x=.slice (some ⟨g,0,none⟩) 1 1) (r:w.cell? ⟨g,0,none⟩=some (.string m)) (t:w.cell? ⟨g,1,none⟩=some q) (F:P.length+1<=100000) (E:base<=w.heap.size)
  (h:∀v' w',w'.ownsRow base 44 2 v' (P.length+1) (vC P++[.string m,q]) ->w.grownBy w' v.ownBlock ->K (a.put o.dst v') w'):o.wp Tryz.prog a w K Q:=by
 obtain⟨p,d,z,y,A⟩:=dW Tryz.infoVar;refine wp_append_own _ s x 25 i base 44 p (.agg #[.string ⟨#[]⟩,.slice none 0 0]) 2 40 Tryz.underlying25 d z y A rfl a6 v P.length _ l D ⟨g,0,none⟩ 1 1 [.string m,q] n rfl ?_ ?_ (by unfold maxLen;omega) al E ?_
 ·intro j u b;match j,b with
  |0,b=>cases b;exact r
  |1,b=>cases b;exact t
  |j+2,b=>simp at b
 ·intro u c;simp only[dR,l8,ye] at c;rcases c with rfl |rfl
  ·rfl
  ·obtain⟨_,_,_,rfl⟩:=k;rfl
 ·intro v' w' e f _;exact h v' w' e f
theorem aeZ (a:List Fr):∀l,kg (l++a)=kg l++kg a
 |[]=>rfl
 |f::l=>by
  show Value.bool f.1::Value.string f.2.1::Value.string f.2.2::kg (l++a)=_;rw[aeZ a l];rfl
theorem aeY {o:Nat}:∀ {l:List Fr},cG w (some ⟨g,o,none⟩) l ->∀j u,(kg l)[j]? =some u ->w.cell? ((⟨g,o,none⟩:Addr).add j)=some u/\u.oneCell'=true:=by
 intro l h j u a;have i:j<(kg l).length:=(mZ.1 a).1;rw[M4] at i;have k:j/3<l.length:=al
 obtain⟨g',o',e,_,b,d,f⟩:=h (j/3) k;cases e
 have n:(⟨g,o,none⟩:Addr).add j=⟨g,o+j,none⟩:=by
  rw[Addr.add];by_cases b:j=0
  ·subst b;simp
  ·simp[b]
 have c:=M5 l (j/3) k;rw[n];have m:j % 3=0∨j % 3=1∨j % 3=2:=al
 rcases m with m |m |m
 ·have e:j=j/3*3:=al
  rw[e] at a⊢;rw[c.1] at a;cases a;exact⟨b,rfl⟩
 ·have e:j=j/3*3+1:=al
  rw[e] at a⊢;rw[c.2.1] at a;cases a;exact⟨by rw[<- DY];exact d,rfl⟩
 ·have e:j=j/3*3+2:=al
  rw[e] at a⊢;rw[c.2.2] at a;cases a;exact⟨by rw[<- DY];exact f,rfl⟩
theorem agQ {o:Oper} {a:Act} {Q:Exit ->Act ->World ->Prop} (r:o.guard=none) (s x:Operand)
  (k:o.op=.call {callee:=.builtin .append,args:= #[s,x],argTypes:= #[49,49]}) (base:Nat) (v:Value) (l la:List Fr) (m:a.eval s=v) (A:fW w base v l) (g c ca:Nat) (p:a.eval x=.slice (some ⟨g,c,none⟩) la.length ca) (f:cG w (some ⟨g,c,none⟩) la) (E:l.length+la.length<=100000) (D:base<=w.heap.size)
  (h:∀v' w',fW w' base v' (l++la) ->w.grownBy w' v.ownBlock ->wpList Tryz.prog ops Q rest (a.put o.dst v') w'):wpList Tryz.prog ops Q (o::rest) a w:=by
 obtain⟨q,d,z,t,y⟩:=dW Tryz.infoFrac;refine FX _ r s x 49 k base 53 q (.agg #[.bool false,.string ⟨#[]⟩,.string ⟨#[]⟩]) 3 40 Tryz.underlying49 d z t y rfl a6 v l.length _ m A ⟨g,c,none⟩ la.length ca (kg la) p (by rw[M4];omega) (fun j u b=>(aeY f j u b).1) (fun u n=>?_) (by unfold maxLen;omega) al D ?_
 ·obtain⟨j,b,rfl⟩:=ij n;exact(aeY f j _ (List.getElem?_eq_getElem b)).2
 ·intro v' w' e i _;refine h v' w' ?_ i;rw[fW,dm,aeZ];exact e
variable {bk:Bool} {Ls:List PL} {Rs:List PR} {Vs:List PV} {e v' y z:Value} {W':World}
structure MS (w W:World) (s e t:Value) (bk:Bool) (x y z:Value) (Vs:List PV) (Ls:List PL) (Rs:List PR):Prop where
 rb:W.heap[w.heap.size]? =some (.cells #[s,e,t,.bool bk] 24 (0,0))
 res:cT W (w.heap.size+1) (.slice none 0 0) (.slice none 0 0) (.slice none 0 0)
 box:cT W (w.heap.size+2) x y z
 vs:zj W w.heap.size x Vs
 ls:zl W w.heap.size y Ls
 rs:zk W w.heap.size z Rs
 bel:c8 w W
theorem MS.step {W:World} {s t:Value} (h:MS w W s e t bk x y z Vs Ls Rs) (b:c8 W W'):MS w W' s e t bk x y z Vs Ls Rs:=
 ⟨(b.block _ (dS.1 h.rb).1).trans h.rb,h.res.aa b h.res.lt,h.box.aa b h.box.lt,h.vs.keep (.aa b) (.aa b),h.ls.keep (.aa b) (.aa b),h.rs.keep (.aa b) (.aa b),h.bel.trans (b.af h.bel.size)⟩
theorem MS.cells {W:World} {s t:Value} (h:MS w W s e t bk x y z Vs Ls Rs):W.cell? ⟨w.heap.size,0,none⟩=some s/\W.cell? ⟨w.heap.size,1,none⟩=some e/\W.cell? ⟨w.heap.size,2,none⟩=some t/\W.cell? ⟨w.heap.size,3,none⟩=some (.bool bk):=by
 refine⟨?_,?_,?_,?_⟩<;>(rw[bZ W w.heap.size _ _ _ (0,0) h.rb];rfl)
theorem MS.lt {W:World} {s t:Value} (h:MS w W s e t bk x y z Vs Ls Rs):w.heap.size+2<W.heap.size:=h.box.lt
theorem Xu {W:World} {v:Value} {t:TypeId} {K:Nat} (b:c8 w W) (h:W.ownsRow w.heap.size t K v n xs) (g:W.grownBy W' v.ownBlock):c8 w W':=b.grown g b.size (fun k e=>Qd h k e)
theorem cT.set0 {W:World} (h:cT W g x y z) (v:Value):cT (W.setCell ⟨g,0,none⟩ v) g v y z:=kM W g 0 _ _ v h
theorem cT.set1 {W:World} (h:cT W g x y z) (v:Value):cT (W.setCell ⟨g,1,none⟩ v) g x v z:=kM W g 1 _ _ v h
theorem cT.set2 {W:World} (h:cT W g x y z) (v:Value):cT (W.setCell ⟨g,2,none⟩ v) g x y v:=kM W g 2 _ _ v h
theorem MS.pushV {W:World} {s t:Value} (h:MS w W s e t bk x y z Vs Ls Rs) {m:ByteArray} {q:Value} {l:List ByteArray} (r:W'.ownsRow w.heap.size 44 2 v' (Vs.length+1) (vC Vs++[.string m,q])) (g:W.grownBy W' x.ownBlock) (f:ld W w.heap.size q l):
  cT W' (w.heap.size+2) x y z/\MS w (W'.setCell ⟨w.heap.size+2,0,none⟩ v') s e t bk v' y z (Vs++[(m,q,l)]) Ls Rs:=by
 have k:∀b:TypeId,b≠44 ->gG b W W':=fun b n=>gG.grown g (Qc h.vs.1) n;have P:cT W' (w.heap.size+2) x y z:=k 29 a6 _ _ _ h.box;have a:∀b:TypeId,b≠29 ->gG b W' (W'.setCell ⟨w.heap.size+2,0,none⟩ v'):=fun b n=>gG.set P n 0 v';refine⟨P,?_,?_,P.set0 v',⟨?_,?_⟩,?_,?_,?_⟩
 ·exact a 24 a6 _ _ _ (k 24 a6 _ _ _ h.rb)
 ·exact(iJ W' ⟨w.heap.size+2,0,none⟩ v' (w.heap.size+1) (by show w.heap.size+1≠w.heap.size+2;omega)).trans (k 29 a6 _ _ _ h.res)
 ·rw[aal,dm];exact qp r (a 44 a6)
 ·intro p c;have d:=(k 9 a6).trans (a 9 a6);rcases dh.1 c with c |c
  ·exact qp (h.vs.2 p c) d
  ·rw[dX.1 c];exact qp f d
 ·exact h.ls.keep ((k _ a6).trans (a _ a6)) ((k _ a6).trans (a _ a6))
 ·exact h.rs.keep ((k _ a6).trans (a _ a6)) ((k _ a6).trans (a _ a6))
 ·exact(Xu h.bel h.vs.1 g).setCell (p:=⟨w.heap.size+2,0,none⟩) (by show w.heap.size<=w.heap.size+2;omega) _
theorem MS.pushL {W:World} {s t:Value} (h:MS w W s e t bk x y z Vs Ls Rs) {q:Value} (r:W'.ownsRow w.heap.size 22 1 v' (Ls.length+1) (Ls.map (·.1)++[q])) (g:W.grownBy W' y.ownBlock) (f:bA W w.heap.size q l):
  cT W' (w.heap.size+2) x y z/\MS w (W'.setCell ⟨w.heap.size+2,1,none⟩ v') s e t bk x v' z Vs (Ls++[(q,l)]) Rs:=by
 have k:∀b:TypeId,b≠22 ->gG b W W':=fun b n=>gG.grown g (Qc h.ls.1) n;have P:cT W' (w.heap.size+2) x y z:=k 29 a6 _ _ _ h.box;have a:∀b:TypeId,b≠29 ->gG b W' (W'.setCell ⟨w.heap.size+2,1,none⟩ v'):=fun b n=>gG.set P n 1 v';refine⟨P,?_,?_,P.set1 v',?_,⟨?_,?_⟩,?_,?_⟩
 ·exact a 24 a6 _ _ _ (k 24 a6 _ _ _ h.rb)
 ·exact(iJ W' ⟨w.heap.size+2,1,none⟩ v' (w.heap.size+1) (by show w.heap.size+1≠w.heap.size+2;omega)).trans (k 29 a6 _ _ _ h.res)
 ·exact h.vs.keep ((k _ a6).trans (a _ a6)) ((k _ a6).trans (a _ a6))
 ·rw[fg,dm];exact qp r (a 22 a6)
 ·intro p c;have d:=(k 3 a6).trans (a 3 a6);rcases dh.1 c with c |c
  ·exact qp (h.ls.2 p c) d
  ·rw[dX.1 c];exact qp f d
 ·exact h.rs.keep ((k _ a6).trans (a _ a6)) ((k _ a6).trans (a _ a6))
 ·exact(Xu h.bel h.ls.1 g).setCell (p:=⟨w.heap.size+2,1,none⟩) (by show w.heap.size<=w.heap.size+2;omega) _
theorem MS.pushR {W:World} {s t:Value} (h:MS w W s e t bk x y z Vs Ls Rs) {q:Value} {l:List Fr} (r:W'.ownsRow w.heap.size 49 1 v' (Rs.length+1) (Rs.map (·.1)++[q])) (g:W.grownBy W' z.ownBlock) (f:fW W w.heap.size q l):
  cT W' (w.heap.size+2) x y z/\MS w (W'.setCell ⟨w.heap.size+2,2,none⟩ v') s e t bk x y v' Vs Ls (Rs++[(q,l)]):=by
 have k:∀b:TypeId,b≠49 ->gG b W W':=fun b n=>gG.grown g (Qc h.rs.1) n;have P:cT W' (w.heap.size+2) x y z:=k 29 a6 _ _ _ h.box;have a:∀b:TypeId,b≠29 ->gG b W' (W'.setCell ⟨w.heap.size+2,2,none⟩ v'):=fun b n=>gG.set P n 2 v';refine⟨P,?_,?_,P.set2 v',?_,?_,⟨?_,?_⟩,?_⟩
 ·exact a 24 a6 _ _ _ (k 24 a6 _ _ _ h.rb)
 ·exact(iJ W' ⟨w.heap.size+2,2,none⟩ v' (w.heap.size+1) (by show w.heap.size+1≠w.heap.size+2;omega)).trans (k 29 a6 _ _ _ h.res)
 ·exact h.vs.keep ((k _ a6).trans (a _ a6)) ((k _ a6).trans (a _ a6))
 ·exact h.ls.keep ((k _ a6).trans (a _ a6)) ((k _ a6).trans (a _ a6))
 ·rw[fg,dm];exact qp r (a 49 a6)
 ·intro p c;have d:=(k 53 a6).trans (a 53 a6);rcases dh.1 c with c |c
  ·exact qp (h.rs.2 p c) d
  ·rw[dX.1 c];exact qp f d
 ·exact(Xu h.bel h.rs.1 g).setCell (p:=⟨w.heap.size+2,2,none⟩) (by show w.heap.size<=w.heap.size+2;omega) _
structure VK (v:Nat) (Vs:List PV):Prop where
 len:Vs.length=v
 each:∀j (h:j<Vs.length),Vs[j].1=jT 110 j/\∃k,1<=k/\k<=3/\Vs[j].2.2=tZ k
theorem VK.snoc (h:VK v Vs) (q:Value) (h1:1<=k) (a:k<=3):VK (v+1) (Vs++[(jT 110 v,q,tZ k)]):=by
 refine⟨by simp[h.len],fun j b=>?_⟩;rcases cF j Vs.length with l |g
 ·rw[r6 l];exact h.each j l
 ·rw[vo g];have e:j=v:=by simp at b;have:=h.len;omega
  subst e;simp[h.len];exact⟨k,h1,a,rfl⟩
def ik (Vs:List PV):List Vr:=Vs.map fun p=>(p.1,p.2.2)
def iN (Ls:List PL):List (List Int):=Ls.map (·.2)
def pO (Rs:List PR):List (List Fr):=Rs.map (·.2)
structure R7 (bk:Bool) (n j:Nat) (l:List Int):Prop where
 up:Up l n
 few:l.length<=3
 rank:∀x∈l,if bk=true then(j:Int)<x else x<(j:Int)
structure Yq (S:List Nat) (j:Nat) (l:List Int) (r:List Fr):Prop where
 len:r.length=cnt S (ag l)*sz S j
 rows:∀i,i<cnt S (ag l) ->gY (eJ r (sz S j) i)=true
 small:∀f∈r,f.2.1.size+f.2.2.size<=2
structure Df (bk:Bool) (n v:Nat) (S:List Nat) (Ls:List PL) (Rs:List PR):Prop where
 len:Ls.length=v
 lenR:Rs.length=v
 pars:∀j (h:j<Ls.length),R7 bk n j Ls[j].2
 rows:∀j (h:j<Ls.length) (h':j<Rs.length),Yq S j Ls[j].2 Rs[j].2
theorem Df.snoc (h:Df bk n v S Ls Rs) {q c:Value} {r:List Fr} (h1:R7 bk n v l) (b:Yq S v l r):Df bk n (v+1) S (Ls++[(q,l)]) (Rs++[(c,r)]):=by
 refine⟨by simp[h.len],by simp[h.lenR],fun j a=>?_,fun j a d=>?_⟩
 ·rcases cF j Ls.length with t |g
  ·rw[r6 t];exact h.pars j t
  ·rw[vo g];(have e:j=v:=by simp at a;have:=h.len;omega);subst e;simpa [h.len] using h1
 ·rcases cF j Ls.length with t |g
  ·have s:j<Rs.length:=by have:=h.len;have:=h.lenR;omega
   rw[r6 t,r6 s];exact h.rows j t s
  ·have m:Rs.length<=j:=by have:=h.len;have:=h.lenR;omega
   rw[vo g,vo m];(have e:j=v:=by simp at a;have:=h.len;omega);subst e;simpa [h.len,h.lenR] using b
structure PP (bk:Bool) (n v u:Nat) (l:List Int):Prop where
 ok:R7 bk n v l
 lt:∀x∈l,x<(u:Int)
theorem PP.nil (bk:Bool) (n v:Nat):PP bk n v 0 []:=⟨⟨il.2 ⟨fun x h=>(l8 h).elim,List.Pairwise.nil⟩,aE,fun x h=>(l8 h).elim⟩,fun x h=>(l8 h).elim⟩
theorem PP.skip (h:PP bk n v u l):PP bk n v (u+1) l:=⟨h.ok,fun x a=>by have:=h.lt x a;omega⟩
theorem PP.snoc (h:PP bk n v u l) (d:u<n) (c:l.length≠3) (r:if bk=true then v<u else u<v):PP bk n v (u+1) (l++[(u:Int)]):=by
 refine⟨⟨il.2 ⟨fun x a=>?_,?_⟩,?_,fun x a=>?_⟩,fun x a=>?_⟩
 ·rcases dh.1 a with a |a
  ·exact(il.1 h.ok.up).1 x a
  ·rw[dX.1 a];omega
 ·rw[List.pairwise_append];refine⟨(il.1 h.ok.up).2,O2 _ _,fun x a y b=>?_⟩;rw[dX.1 b];exact h.lt x a
 ·have:=h.ok.few;simp;omega
 ·rcases dh.1 a with a |a
  ·exact h.ok.rank x a
  ·rw[dX.1 a];cases bk
   ·simp at r⊢;exact r
   ·simp at r⊢;exact r
 ·rcases dh.1 a with a |a
  ·have:=h.lt x a;omega
  ·rw[dX.1 a];omega
structure RP (s k:Nat) (r:List Fr):Prop where
 len:r.length=k*s
 rows:∀i,i< k ->gY (eJ r s i)=true
 small:∀f∈r,f.2.1.size+f.2.2.size<=2
theorem RP.nil (s:Nat):RP s 0 []:=⟨aE,fun i a=>al,fun f h=>by cases h⟩
theorem RP.snoc {s:Nat} {r l:List Fr} (h:RP s k r) (c:l.length=s) (o:gY l=true) (j:∀f∈l,f.2.1.size+f.2.2.size<=2):RP s (k+1) (r++l):=by
 refine⟨by rw[dm,h.len,c,gC,kO],fun i p=>?_,fun f b=>?_⟩
 ·have m:i*s+s<=k*s∨i=k:=by
   rcases cF i k with a |a
   ·left
    have:=j6 s a;rw[Nat.succ_mul] at this;exact this
   ·right;omega
  rcases m with m |rfl
  ·have d:i<k:=by
    rcases cF i k with a |a
    ·exact a
    ·have n:=j6 s a;by_cases g:s=0
     ·subst g;have:l=[]:=D8.1 c;subst this;exact absurd o a6
     ·omega
   have e:eJ (r++l) s i=eJ r s i:=by
    rw[eJ,eJ,List.drop_append_of_le_length (by rw[h.len];omega),ZO (by rw[mY,h.len];omega)]
   rw[e];exact h.rows i d
  ·have e:eJ (r++l) s i=l:=by
    rw[eJ, <- h.len,List.drop_left, <- c,fD]
   rw[e];exact o
 ·rcases dh.1 b with b |b
  ·exact h.small f b
  ·exact j f b
theorem zj.vars {W:World} {B:Nat} (h:zj W B x Vs):∃a c,x=.slice a (ik Vs).length c/\uG W a (ik Vs):=by
 have n:(ik Vs).length=Vs.length:=by simp[ik]
 obtain⟨a,c,rfl,_⟩:=qo h.1;refine⟨a,c,by rw[n],fun k f=>?_⟩;rw[n] at f;obtain⟨p,q⟩:=aak Vs k f;obtain⟨g,rfl,r,i⟩:=Qe h.1 (j:=k*2) (by rw[K8];omega);obtain⟨g',e,_,l⟩:=Qe h.1 (j:=k*2+1) (by rw[K8];omega);cases e;rw[p] at i;rw[q] at l;have o:=h.2 Vs[k] (bB f);obtain⟨b,cb,m,t⟩:=o.st
 have s:Vs[k].2.2.length<=cb:=by
  rcases o.2 with ⟨d,v⟩ |⟨u,cap,y,d,_,_,w,_⟩
  ·omega
  ·rw[m] at d;injection d with _ _ h6;omega
 refine⟨g,0,b,cb,rfl,r,?_,?_,?_,?_⟩
 ·rw[bM,i];simp[ik]
 ·rw[bM,l,m];simp[ik]
 ·simpa [ik] using t
 ·simpa [ik] using s
theorem zl.pars {W:World} {B:Nat} (h:zl W B y Ls):∃a c,y=.slice a (iN Ls).length c/\fN W a (iN Ls)/\vZ W a (iN Ls):=by
 have l:(iN Ls).length=Ls.length:=by simp[iN]
 obtain⟨a,c,rfl,_⟩:=qo h.1
 have t:∀k (d:k<Ls.length),∃g,a=some ⟨g,0,none⟩/\g<W.heap.size/\∃b cb,W.cell? ⟨g,k,none⟩=some (.slice b Ls[k].2.length cb)/\az W b Ls[k].2/\(b=none ->cb=0):=fun k d=>by
  obtain⟨g,rfl,f,e⟩:=Qe h.1 (j:=k) (by simpa using d);have r:=h.2 Ls[k] (bB d);obtain⟨b,cb,m,n⟩:=qo r;obtain⟨u,w,q,s⟩:=r.ints;rw[m] at q;cases q;refine⟨g,rfl,f,b,cb,?_,s,n⟩;rw[e];simp[m]
 refine⟨a,c,by rw[l],fun k d=>?_,fun k d g o b A z v p n=>?_⟩
 ·rw[l] at d;obtain⟨g,rfl,f,b,cb,e,s,_⟩:=t k d;exact⟨g,0,b,cb,rfl,f,by rw[bM,e];simp[iN],by simpa [iN] using s⟩
 ·rw[l] at d;obtain⟨g',i,_,u,w,e,_,x⟩:=t k d;rw[v] at i;cases i;rw[bM,e] at p;cases p;exact x n
theorem zk.rows {W:World} {B:Nat} (h:zk W B z Rs):∃a c,z=.slice a (pO Rs).length c/\OL W a (pO Rs):=by
 have l:(pO Rs).length=Rs.length:=by simp[pO]
 obtain⟨a,c,rfl,_⟩:=qo h.1;refine⟨a,c,by rw[l],fun k e=>?_⟩;rw[l] at e;obtain⟨g,rfl,n,m⟩:=Qe h.1 (j:=k) (by simpa using e);have i:=h.2 Rs[k] (bB e);obtain⟨b,cb,f,t⟩:=i.fr
 have s:Rs[k].2.length<=cb:=by
  rcases i.2 with ⟨d,p⟩ |⟨o,cap,r,d,_,_,q,_⟩
  ·omega
  ·rw[f] at d;injection d with _ _ h6;omega
 exact⟨g,0,b,cb,rfl,n,by rw[bM,m];simp[pO,f],by simpa [pO] using t,by simpa [pO] using s⟩
theorem abV {W:World} {u:Value} {a:TypeId} {K n:Nat} (o:W.ownsRow w.heap.size a K u n xs) (g:W.grownBy W' u.ownBlock) (b:cT W' (w.heap.size+2) x y z) (t:TypeId) (h1:t≠a) (h:t≠29):gG t W (W'.setCell ⟨w.heap.size+2,j,none⟩ v'):=
 (gG.grown g (Qc o) h1).trans (gG.set b h j v')
structure SK (n:Nat) (S:List Nat):Prop where
 len:S.length=n
 each:∀x∈S,1<=x/\x<=3
theorem VK.sizes (h:VK n Vs):SK n (ah (ik Vs)):=by
 refine⟨by simp[ah,ik,h.len],fun x g=>?_⟩;obtain⟨p,d,rfl⟩:=bc.1 g;obtain⟨q,f,rfl⟩:=bc.1 d;obtain⟨j,c,rfl⟩:=ij f;obtain⟨_,k,a,b,e⟩:=h.each j c;show 1<=Vs[j].2.2.length/\Vs[j].2.2.length<=3;rw[e,Ps];exact⟨a,b⟩
theorem SK.fine (h:SK n S) (h1:1<=n) (c:n<=8):eW (iL S):=by
 have l:=h.len;refine⟨by rw[ba];omega,by rw[ba];omega,fun v a=>?_⟩;have b:v<S.length:=by rw[ba] at a;exact a
 have e:(iL S)[v]=((S[v]'b:Nat):Int):=by simp[iL]
 have:=h.each _ (bB b);rw[e];omega
theorem SK.sz (h:SK n S) (u:Nat):1<=sz S u/\sz S u<=3:=by
 rw[Go.Proofs.YtfhdoommfenijaaGreatDoor.sz];cases e:S[u]? with
 |none=>exact⟨a6,a6⟩
 |some x=>exact h.each x (Td e)
theorem afy (h:SK n S) {l:List Nat} (b:l.length<=3):1<=cnt S l/\cnt S l<=27:=by
 have c:=XV (S:=S) (fun v=>(h.sz v).2) l;have d:3^l.length<=3^3:=kN al b
 have a:∀l:List Nat,1<=cnt S l:=fun l=>by
  induction l with
  |nil=>exact ar _
  |cons v l ih=>exact Nat.mul_pos (h.sz v).1 ih
 exact⟨a l,al⟩
theorem MS.out3 {W:World} {s t:Value} (h:MS w W s e t bk x y z Vs Ls Rs):
  cT (((W.setCell ⟨w.heap.size+1,0,none⟩ x).setCell ⟨w.heap.size+1,1,none⟩ y).setCell ⟨w.heap.size+1,2,none⟩ z) (w.heap.size+1) x y z/\zj (((W.setCell ⟨w.heap.size+1,0,none⟩ x).setCell ⟨w.heap.size+1,1,none⟩ y).setCell ⟨w.heap.size+1,2,none⟩ z) w.heap.size x Vs/\zl (((W.setCell ⟨w.heap.size+1,0,none⟩ x).setCell ⟨w.heap.size+1,1,none⟩ y).setCell ⟨w.heap.size+1,2,none⟩ z) w.heap.size y Ls/\zk (((W.setCell ⟨w.heap.size+1,0,none⟩ x).setCell ⟨w.heap.size+1,1,none⟩ y).setCell ⟨w.heap.size+1,2,none⟩ z) w.heap.size z Rs/\c8 w (((W.setCell ⟨w.heap.size+1,0,none⟩ x).setCell ⟨w.heap.size+1,1,none⟩ y).setCell ⟨w.heap.size+1,2,none⟩ z):=by
 have b:=h.res.set0 x;have c:=b.set1 y;have d:=c.set2 z;have k:∀a:TypeId,a≠29 ->gG a W (((W.setCell ⟨w.heap.size+1,0,none⟩ x).setCell ⟨w.heap.size+1,1,none⟩ y).setCell ⟨w.heap.size+1,2,none⟩ z):=fun a n=>((gG.set h.res n 0 x).trans (gG.set b n 1 y)).trans (gG.set c n 2 z);refine⟨d,h.vs.keep (k _ a6) (k _ a6),h.ls.keep (k _ a6) (k _ a6),h.rs.keep (k _ a6) (k _ a6),?_⟩;exact((h.bel.setCell (p:=⟨w.heap.size+1,0,none⟩) (by show w.heap.size<=w.heap.size+1;omega) _).setCell (p:=⟨w.heap.size+1,1,none⟩) (by show w.heap.size<=w.heap.size+1;omega) _).setCell (p:=⟨w.heap.size+1,2,none⟩) (by show w.heap.size<=w.heap.size+1;omega) _
def QC (p:Nat):Nat:=[2,2,3,2,1].getD p 2
theorem alV (p:Nat):1<=QC p/\QC p<=3:=by
 match p with
 |0=>decide
 |1=>decide
 |2=>decide
 |3=>decide
 |4=>decide
 |p+5=>exact⟨by show 1<=2;omega,by show 2<=3;omega⟩
theorem aon (W:World) {p:Nat} (h:p<5):(W.alloc (.cells #[.int .i64 2,.int .i64 2,.int .i64 3,.int .i64 2,.int .i64 1] 3)).cell? ⟨W.heap.size,p,none⟩=some (.int .i64 (QC p:Nat)):=by
 rw[bZ _ _ _ _ _ (0,0) (jg W _)];match p,h with
 |0,_=>rfl
 |1,_=>rfl
 |2,_=>rfl
 |3,_=>rfl
 |4,_=>rfl
def aqz (w:World) (e:Ending) (w':World):Prop:=∃(bk:Bool) (n:Nat) (x y z:Value) (Vs:List PV) (Ls:List PL) (Rs:List PR),e=.returned (.agg #[x,y,z])/\(1<=n/\n<=6)/\VK n Vs/\Df bk n n (ah (ik Vs)) Ls Rs/\zj w' w.heap.size x Vs/\zl w' w.heap.size y Ls/\zk w' w.heap.size z Rs/\c8 w w'
def xL (l:List Int):Prop:=l.length<=140737488355328/\∀x∈l, -9223372036854775808<=x/\x<=9223372036854775807
theorem alK (a1 R T:Option Addr) (c1 I c3:Nat) (m L P:List Int) (bk:Bool) (w:World) (h1:az w a1 m) (h2:az w R L) (h3:az w T P) (r1:xL m) (r2:xL L) (r3:xL P):
  c6 4 #[.agg #[.slice a1 m.length c1,.slice R L.length I,.slice T P.length c3,.bool bk]] w fun e w'=>aqz w e w':=by
 have lT:=hid h1;have gS:=hid h2;have FK:=hid h3;have rS:=hid r1.2;have fK:=hid r2.2;have jy:=hid r3.2;have jm:=r1.1;have dI:=r2.1;have ae:=r3.1;have Kj:=hid (fun (i:Nat) (hi:i<=1000) (U:World)=>abG i U hi);have ju:=hid (fun (i:Nat) (hi:i<=1000) (U:World)=>abB i U hi);have BI:=hid (fun (k:Nat) (hk:k<=3) (U:World)=>apL k U hk);have Kr:=hid (fun (c:Int) (h: -9223372036854775808<=c/\c<=9223372036854775807) (U:World)=>PO c 5 U h.1 h.2 al al);have N2:=hid (fun (k:Nat) (hk:k<=100000) (n:Nat) (h1:1<=n) (dn:n<=3) (U:World) (hU:az U T P)=>aiy T c3 k n P U hU r3.2 hk h1 al r3.1);have Fv:=hid (fun (c:Int) (h: -9223372036854775808<=c/\c<=9223372036854775807) (U:World)=>PO c 2 U h.1 h.2 al al);clear h1 h2 h3 r1 r2 r3;have VT:((w.alloc (.cells #[.slice a1 m.length c1,.slice R L.length I,.slice T P.length c3,.bool bk] 24)).alloc (NC (.slice none 0 0) (.slice none 0 0) (.slice none 0 0))).heap[w.heap.size]? =some (.cells #[.slice a1 m.length c1,.slice R L.length I,.slice T P.length c3,.bool bk] 24 (0,0)):=(r8 _ _ _ aE).trans (jg w _);have cE:((w.alloc (.cells #[.slice a1 m.length c1,.slice R L.length I,.slice T P.length c3,.bool bk] 24)).alloc (NC (.slice none 0 0) (.slice none 0 0) (.slice none 0 0))).cell? ⟨w.heap.size,0,none⟩=some (.slice a1 m.length c1):=by rw[bZ _ _ _ _ _ (0,0) VT];rfl
 have br:Hid (MS w (((w.alloc (.cells #[.slice a1 m.length c1,.slice R L.length I,.slice T P.length c3,.bool bk] 24)).alloc (NC (.slice none 0 0) (.slice none 0 0) (.slice none 0 0))).alloc (NC (.slice none 0 0) (.slice none 0 0) (.slice none 0 0))) (.slice a1 m.length c1) (.slice R L.length I) (.slice T P.length c3) bk (.slice none 0 0) (.slice none 0 0) (.slice none 0 0) [] [] []):=⟨(r8 _ _ _ (by simp;omega)).trans VT,(cT.at aE _ _ _).aa ((aw _ _).alloc (ar _) _) aE,cT.at aE _ _ _,zj.nil _ _,zl.nil _ _,zk.nil _ _,(((aw _ w).alloc (ar _) _).alloc aE _).alloc (by simp;omega) _⟩;clear VT;go_enter Tryz.func4,Tryz.ntmps4;go_upto_if 23 with fail
 clear cE;generalize hW0:((w.alloc (.cells #[.slice a1 m.length c1,.slice R L.length I,.slice T P.length c3,.bool bk] 24)).alloc (NC (.slice none 0 0) (.slice none 0 0) (.slice none 0 0)))=W0 at *;go_cut [3] from 19 to 25 (fun s wx=>∃n:Nat,s=.int .i64 (n:Nat)/\1<=n/\n<=140737488355328/\wx=W0)
 case first=>
  by_cases hl:m.length<1
  ·have bo:(m.length:Int)<1:=al
   go_wp2_with fail
   go_meet
   exact⟨1,rfl,al,al,rfl⟩
  ·have bo:(1:Int)<=(m.length:Int):=al
   go_wp2_with fail
   go_meet
   exact⟨m.length,rfl,al,al,rfl⟩
 case rest=>
 obtain⟨n0,rfl,cb,ca,a8⟩:=hcut;rw[a8];clear a8;go_upto_if 25 with fail
 go_cut [3] from 19 to 25 (fun s wx=>∃n:Nat,s=.int .i64 (n:Nat)/\1<=n/\n<=6/\wx=W0)
 case first=>
  by_cases hl:6<n0
  ·have bo:(6:Int)<(n0:Int):=al
   go_wp2_with fail
   go_meet
   exact⟨6,rfl,al,al,rfl⟩
  ·have bo:(n0:Int)<=6:=al
   go_wp2_with fail
   go_meet
   exact⟨n0,rfl,al,al,rfl⟩
 case rest=>
 obtain⟨n,rfl,eN,CR,a8⟩:=hcut;rw[a8];clear a8 cb ca;have cn:W0.heap.size=w.heap.size+2:=by rw[<- hW0];simp
 clear hW0;go_upto_region 7 with fail
 generalize (W0.alloc (NC (.slice none 0 0) (.slice none 0 0) (.slice none 0 0)))=W1 at *;clear cn;go_wp2_with fail
 go_loopw [5] (fun iv wr=>∃(v:Nat) (x:Value) (Vs:List PV),v<=n/\iv=.int .i64 v/\Hid (VK v Vs)/\Hid (MS w wr (.slice a1 m.length c1) (.slice R L.length I) (.slice T P.length c3) bk x (.slice none 0 0) (.slice none 0 0) Vs [] [])) (fun iv _=>n - (intOf iv).toNat)
 case atStart=>exact⟨0,_,[],aS _,rfl,⟨rfl,fun j hj=>absurd hj aE⟩,br⟩
 case round=>
  obtain⟨v,x,Vs,hv,rfl,NU,D⟩:=hrel;clear br;by_cases bf:v<n
  ·obtain⟨d0, -, -, -⟩:=D.o.cells;go_upto_if 36 with fail
   clear d0;go_cut [6] from 27 to 58 (fun s wx=>∃k:Nat,s=.int .i64 (k:Nat)/\1<=k/\k<=3/\Hid (MS w wx (.slice a1 m.length c1) (.slice R L.length I) (.slice T P.length c3) bk x (.slice none 0 0) (.slice none 0 0) Vs [] []))
   case first=>
    by_cases i6:v<m.length
    ·have cj:(v:Int)<(m.length:Int):=al
     have A:c8 wr (wr.alloc (.cells #[.int .i64 2,.int .i64 2,.int .i64 3,.int .i64 2,.int .i64 1] 3)):=(aw _ wr).alloc (ar _) _;have C5:=D.o.step A;obtain⟨d0, -, -, -⟩:=C5.cells;obtain⟨g',o',rfl,iA,cs⟩:=(lT.o.aa C5.bel) v i6;have zB:=hid (fun U=>Kr.o m[v] (rS.o _ (bB i6)) U);have cL:=P8 m[v] (n:=5) al;have h5:=aon wr cL;have QY:=alV (wM m[v] 5);generalize m[v]=lv at *;generalize wM lv 5=pk at *;generalize QC pk=kk at *;have pw:=hid C5;clear C5 A;go_wp2_with (go_at_call 9;refine(zB.o _).af ?_;rintro e w2 ⟨rfl,F⟩;have dr:=(F.cell (p:=⟨wr.heap.size,pk,none⟩) aE).trans h5;have Ii:=hid (pw.o.step F))
     go_meet
     exact⟨kk,rfl,QY.1,QY.2,Ii⟩
    ·have cj:(m.length:Int)<=(v:Int):=al
     go_wp2_with fail
     go_meet
     exact⟨2,rfl,al,al,D⟩
   case rest=>
   obtain⟨k,rfl,xu,bm,bu⟩:=hcut;clear D;go_wp2_with fail
   refine(Kj.o v al _).af ?_;rintro e w1 ⟨rfl,an⟩;go_wp2_with fail
   refine(ju.o v al _).af ?_;rintro e b6 ⟨rfl,b3⟩;have M:=(bu.o.step an).step b3;have ds:=XS (i:=v) al;clear an b3 bu;go_upto_region 14 with fail
   replace M:=M.step (aw _ _).drew;refine iu (S:=fun _=>True) ao trivial (fun H=>?_);generalize b6.drew=u0 at *;have ab:=M.box.cells.1;refine au 0 (.pointer (some ⟨w.heap.size+2,0,none⟩)) ?_;(try simp only[gE,aP]);refine au 2 (.string (JW v)) ?_;(try simp only[gE,aP]);refine au 3 (.string (jT 110 v)) ?_;(try simp only[gE,aP]);refine au 4 (.int .i64 (k:Nat)) ?_;(try simp only[gE,aP]);refine aI [1,5] (cA ?_ (cA ?_ aH))
   focus
    intro g K;go_simp;refine K.o _ _ trivial (fun _=>?_);clear K g;(try simp only[gE,aP]);refine aI [5] (cA ?_ aH);intro g K;go_simp;refine(BI.o k bm _).af ?_;rintro e u1 ⟨q,rfl,tB,F⟩;have hq:ld u1 w.heap.size q (tZ k):=LG tB M.bel.size;replace M:=M.step F;(obtain⟨Y,nq,X,rfl⟩:∃a n c,q=.slice a n c:=by obtain⟨a,c,e,_⟩:=qo hq;exact⟨_,_,_,e⟩);refine K.o _ _ trivial (fun _=>?_);clear F tB ab;have ab:=M.box.cells.1;clear K g;(try simp only[gE,aP]);refine au 6 (.agg #[.string (jT 110 v),.slice Y nq X]) ?_;(try simp only[gE,aP]);refine aI [7] (cA ?_ aH);intro g K;go_simp;obtain⟨bg,an⟩:=IX u1 (.string (jT 110 v)) (.slice Y nq X);have A:=(aw _ u1).alloc (ar _) (VC (.string (jT 110 v)) (.slice Y nq X));replace M:=M.step A;replace hq:=ld.step hq A;refine K.o _ _ trivial (fun _=>?_);generalize (u1.alloc (VC (.string (jT 110 v)) (.slice Y nq X)))=u2 at *;generalize u1.heap.size=gq at *;clear A ab;have ab:=M.box.cells.1
   rotate_left
   focus
    intro g K;go_simp;refine(BI.o k bm _).af ?_;rintro e u1 ⟨q,rfl,tB,F⟩;have hq:ld u1 w.heap.size q (tZ k):=LG tB M.bel.size;replace M:=M.step F;(obtain⟨Y,nq,X,rfl⟩:∃a n c,q=.slice a n c:=by obtain⟨a,c,e,_⟩:=qo hq;exact⟨_,_,_,e⟩);refine K.o _ _ trivial (fun _=>?_);clear F tB ab;have ab:=M.box.cells.1;clear K g;(try simp only[gE,aP]);refine au 6 (.agg #[.string (jT 110 v),.slice Y nq X]) ?_;(try simp only[gE,aP]);refine aI [1,7] (cA ?_ (cA ?_ aH))
    focus
     intro g K;go_simp;refine K.o _ _ trivial (fun _=>?_);clear K g;(try simp only[gE,aP]);refine aI [7] (cA ?_ aH);intro g K;go_simp;obtain⟨bg,an⟩:=IX u1 (.string (jT 110 v)) (.slice Y nq X);have A:=(aw _ u1).alloc (ar _) (VC (.string (jT 110 v)) (.slice Y nq X));replace M:=M.step A;replace hq:=ld.step hq A;refine K.o _ _ trivial (fun _=>?_);generalize (u1.alloc (VC (.string (jT 110 v)) (.slice Y nq X)))=u2 at *;generalize u1.heap.size=gq at *;clear A ab;have ab:=M.box.cells.1
    rotate_left
    focus
     intro g K;go_simp;obtain⟨bg,an⟩:=IX u1 (.string (jT 110 v)) (.slice Y nq X);have A:=(aw _ u1).alloc (ar _) (VC (.string (jT 110 v)) (.slice Y nq X));replace M:=M.step A;replace hq:=ld.step hq A;refine K.o _ _ trivial (fun _=>?_);generalize (u1.alloc (VC (.string (jT 110 v)) (.slice Y nq X)))=u2 at *;generalize u1.heap.size=gq at *;clear A ab;have ab:=M.box.cells.1;clear K g;(try simp only[gE,aP]);refine aI [1] (cA ?_ aH);intro g K;go_simp;refine K.o _ _ trivial (fun _=>?_)
   all_goals
    clear K g;(try simp only[gE,aP]);refine aI [8] (cA ?_ aH);intro g K;rw[aA (by rfl)];refine agJ _ _ rfl w.heap.size x Vs (jT 110 v) (.slice Y nq X) ⟨_,_,_,rfl⟩ rfl M.vs.1 gq rfl bg an (by have:=NU.o.len;omega) (by have:=M.lt;omega) ?_;intro v' u4 ay aG;obtain⟨d4,rL,rfl, -⟩:=qo ay;have Q:=M.pushV ay aG hq;refine K.o _ _ trivial (fun _=>?_);clear M ay aG hq bg an ab K g;(try simp only[gE,aP]);have cH:=Q.1.cells.1;have V3:u4.frozen? ⟨w.heap.size+2,0,none⟩=false:=lr _ _ 0 _ _ Q.1;refine au 9 (.pointer (some ⟨w.heap.size+2,0,none⟩)) ?_;(try simp only[gE,aP]);refine aI [10] (cA ?_ aH);intro g K;go_simp;refine K.o _ _ trivial (fun _=>dC ao ?_ _);clear K g cH V3;have Su:=hid Q.2;clear Q;go_wp2;go_roundw
    case rel=>exact⟨v+1,_,_,al,bd,NU.o.snoc (.slice Y nq X) xu bm,Su⟩
    case measure=>simp[intOf];omega
  ·obtain rfl:n=v:=al
   obtain⟨ax,cx,rfl,fF⟩:=D.o.vs.vars;(have b2:(ik Vs).length=n:=by simp[ik,NU.o.len]);have eD:=hid (fun U hU=>Ub ax none none cx 0 0 0 0 (ik Vs) U hU al);have b1:=NU.o.sizes;have sL:=hid fF;have Kl:Hid (ah (ik Vs)=ah (ik Vs)):=rfl;rw[b2] at eD D;generalize ak:ah (ik Vs)=S at *;have H3:=hid ak;have xT:=hid b1;clear ak b1 fF Kl;obtain⟨e0,e1,e2⟩:=D.o.box.cells;go_wp2_with fail
   refine(eD.o _ sL.o).af ?_;rintro e W2 ⟨xv,rfl,CN,F⟩;(have cB:(iL S).length=n:=by rw[ba];exact xT.o.len);obtain⟨aQ,J4,Dc, -⟩:=qo CN;rw[cB] at Dc;subst Dc;have qb:Hid (bA W2 w.heap.size (.slice aQ n J4) (iL S)):=LG CN D.o.bel.size;have Ii:=hid (D.o.step F);clear CN F e0 e1 e2 D eD sL b2 bf hv;generalize hxg:Value.slice ax n cx=x at *;clear hxg;go_wp2_with fail
   go_loopw [8,9,11] (fun ev av iv wr=>∃(v e aM:Nat) (y z:Value) (Ls:List PL) (Rs:List PR),v<=n/\iv=.int .i64 v/\ev=.int .i64 (e:Nat)/\av=.int .i64 (aM:Nat)/\e<=6*v/\aM<=81*v/\Hid (Df bk n v S Ls Rs)/\Hid (MS w wr (.slice a1 m.length c1) (.slice R L.length I) (.slice T P.length c3) bk x y z Vs Ls Rs)/\Hid (bA wr w.heap.size (.slice aQ n J4) (iL S))) (fun _ _ iv _=>n - (intOf iv).toNat)
   case atStart=>exact⟨0,0,0,_,_,[],[],aS _,rfl,rfl,rfl,ar _,ar _,⟨rfl,rfl,fun j hj=>absurd hj aE,fun j hj=>absurd hj aE⟩,Ii,qb⟩
   case round=>
    obtain⟨v,e,aM,y,z,Ls,Rs,hv,rfl,rfl,rfl,du,c4,zG,D,HS⟩:=hrel;clear Ii qb;by_cases bf:v<n
    ·go_wp2_with fail
     generalize wr=wb at *;go_loopw [8,12,13] (fun ev pv uv q8=>∃(u E:Nat) (d:List Int),u<=n/\uv=.int .i64 u/\ev=.int .i64 (E:Nat)/\E<=e+u/\Hid (PP bk n v u d)/\Hid (bA q8 wb.heap.size pv d)/\Hid (c8 wb q8)) (fun _ _ uv _=>n - (intOf uv).toNat)
     case atStart=>exact⟨0,e,[],aS _,rfl,rfl,ar _,PP.nil bk n v,bA.emptyB _ _,aw _ _⟩
     case round=>
      obtain⟨u,E,d,hu,rfl,rfl,dv,xU,gH,Z⟩:=hrel;by_cases Az:u<n
      ·generalize wr=q8 at *;obtain⟨dp,cp,L9, -⟩:=qo gH.o;subst L9;have f:=D.o.step Z.o;obtain⟨-, -, -,d3⟩:=f.cells;have Wl:=xU.o.ok.few;have dt:E<=1000:=al
       cases bk
       case true=>
        by_cases hs:(u:Int)<=(v:Int)
        ·go_wp2;go_roundw
         case rel=>exact⟨u+1,E,d,al,bd,rfl,al,xU.o.skip,gH,Z⟩
         case measure=>simp[intOf];omega
        ·have hk:(v:Int)<(u:Int):=al
         clear hs;by_cases ae:d.length=3
         ·have jF:((d.length:Int)==3)=true:=by rw[ae];rfl
          clear ae;go_wp2;go_roundw
          case rel=>exact⟨u+1,E,d,al,bd,rfl,al,xU.o.skip,gH,Z⟩
          case measure=>simp[intOf];omega
         ·have jF:((d.length:Int)==3)=false:=by
           (have:¬(d.length:Int)=3:=al);simpa using this
          (have JA:if true=true then v<u else u<v:=by simp;omega);go_upto_region 26 with fail
          clear d3 jF;have bK:c8 q8 q8.drew:=(aw _ _).drew;go_cut [109] from 66 to 115 (fun s wx=>∃b:Bool,s=.bool b/\Hid (c8 q8 wx))
          case first=>
           by_cases V:0<L.length
           ·obtain⟨t,ht⟩:∃t,t=E % L.length:=⟨_,rfl⟩;(have rC:t<L.length:=by rw[ht];exact iw _ V);(have L0:(E:Int) % (L.length:Int)=(t:Int):=by rw[ht,sY]);(have ai:IntKind.i64.wrap (t:Int)=(t:Int):=by rw[dE];omega);(have Vu:IntKind.i64.wrap ((E:Int) % (L.length:Int))=(t:Int):=by rw[L0];exact ai);(have Mi:(0:Int)<(L.length:Int):=al);(have cf:¬(L.length:Int)=0:=al);have N5:=hid (fun U=>Fv.o L[t] (fK.o _ (bB rC)) U);obtain⟨O,J,rfl,bb,cs⟩:=gS.o t rC;have zT:=hid cs;generalize L[t]=lt at *;generalize wM lt 2=pk at *;obtain⟨b,tC⟩:∃b:Bool,((pk:Int)==0)=b:=⟨_,rfl⟩;(have b8:(pk==0)=b:=by rw[<- tC];cases pk<;>rfl);have Zb:=hid V;(have FB:Hid (¬L=[]):=fun h=>by rw[h] at V;exact absurd V aE);(have NW:Hid ((E:Int).tmod (L.length:Int)=(t:Int)):=by rw[ht];rfl);clear cs ht V;replace f:=f.step (aw _ _).drew;refine iu (S:=fun u=>u.cell? ⟨w.heap.size,1,none⟩=some (.slice (some ⟨O,J,none⟩) L.length I)/\u.cell? ⟨O,J+t,none⟩=some (.int .i64 lt)) ao ⟨f.cells.2.1,(f.bel.cell (p:=⟨O,J+t,none⟩) bb).trans zT.o⟩ (fun H=>?_);generalize q8.drew=u0 at *;refine au 0 (.pointer (some ⟨w.heap.size,1,none⟩)) ?_;(try simp only[gE,aP]);refine au 1 (.slice (some ⟨O,J,none⟩) L.length I) ?_;(try simp only[gE,aP]);refine au 2 (.int .i64 (L.length:Nat)) ?_;(try simp only[gE,aP]);refine cM 3 (.bool true) ?_ ?_
            ·intro u' aO;go_simp;exact Zb.o
            (try simp only[gE,aP]);refine au 4 (.bool true) ?_;(try simp only[gE,aP]);refine au 5 (.pointer (some ⟨w.heap.size,1,none⟩)) ?_;(try simp only[gE,aP]);refine au 6 (.slice (some ⟨O,J,none⟩) L.length I) ?_;(try simp only[gE,aP]);refine au 7 (.int .i64 (E:Nat)) ?_;(try simp only[gE,aP]);refine au 8 (.pointer (some ⟨w.heap.size,1,none⟩)) ?_;(try simp only[gE,aP]);refine au 9 (.slice (some ⟨O,J,none⟩) L.length I) ?_;(try simp only[gE,aP]);refine au 10 (.int .i64 (L.length:Nat)) ?_;(try simp only[gE,aP]);refine cM 11 (.int .i64 (t:Nat)) ?_ ?_
            ·intro u' aO;go_simp;rw[aB FB.o,NW.o]
            (try simp only[gE,aP]);refine au 12 (.pointer (some ⟨O,J+t,none⟩)) ?_;(try simp only[gE,aP]);refine au 13 (.int .i64 lt) ?_;(try simp only[gE,aP]);refine aI [14] (cA ?_ aH);intro g K;go_simp;refine(N5.o _).af ?_;rintro _ u1 ⟨rfl,F⟩;replace f:=f.step F;replace bK:=bK.trans (F.af bK.size);clear H;refine K.o _ _ ⟨f.cells.2.1,(f.bel.cell (p:=⟨O,J+t,none⟩) bb).trans zT.o⟩ (fun H=>?_);clear K g F;(try simp only[gE,aP]);refine au 15 (.bool b) ?_;(try simp only[gE,aP]);refine au 16 (.bool b) ?_;(try simp only[gE,aP]);refine dC ao ?_ _;clear H;go_wp2_with fail
            go_meet
            exact⟨b,rfl,bK⟩
           ·have Mi:¬(0:Int)<(L.length:Int):=al
            have cd:decide ((0:Int)<(L.length:Int))=false:=cK Mi;have cc:¬0<L.length:=V;clear V;replace f:=f.step (aw _ _).drew;refine iu (S:=fun u=>u.cell? ⟨w.heap.size,1,none⟩=some (.slice R L.length I)) ao f.cells.2.1 (fun H=>?_);generalize q8.drew=u0 at *;refine au 0 (.pointer (some ⟨w.heap.size,1,none⟩)) ?_;(try simp only[gE,aP]);refine au 1 (.slice R L.length I) ?_;(try simp only[gE,aP]);refine au 2 (.int .i64 (L.length:Nat)) ?_;(try simp only[gE,aP]);refine au 3 (.bool false) ?_;(try simp only[gE,aP]);refine au 4 (.bool false) ?_;(try simp only[gE,aP]);refine mV (i:=5) (oi:=_) (v:=undef) rfl ao ao ao (fun _ _ _ h=>h) (Or.inr ⟨by rfl,rfl⟩) b5 ?_;(try simp only[gE,aP]);refine mV (i:=6) (oi:=_) (v:=undef) rfl ao ao ao (fun _ _ _ h=>h) (Or.inr ⟨by rfl,rfl⟩) b5 ?_;(try simp only[gE,aP]);refine mV (i:=7) (oi:=_) (v:=undef) rfl ao ao ao (fun _ _ _ h=>h) (Or.inr ⟨by rfl,rfl⟩) b5 ?_;(try simp only[gE,aP]);refine mV (i:=8) (oi:=_) (v:=undef) rfl ao ao ao (fun _ _ _ h=>h) (Or.inr ⟨by rfl,rfl⟩) b5 ?_;(try simp only[gE,aP]);refine mV (i:=9) (oi:=_) (v:=undef) rfl ao ao ao (fun _ _ _ h=>h) (Or.inr ⟨by rfl,rfl⟩) b5 ?_;(try simp only[gE,aP])
            refine mV (i:=10) (oi:=_) (v:=undef) rfl ao ao ao (fun _ _ _ h=>h) (Or.inr ⟨by rfl,rfl⟩) b5 ?_;(try simp only[gE,aP]);refine mV (i:=11) (oi:=_) (v:=undef) rfl ao ao ao (fun _ _ _ h=>h) (Or.inr ⟨by rfl,rfl⟩) b5 ?_;(try simp only[gE,aP]);refine mV (i:=12) (oi:=_) (v:=undef) rfl ao ao ao (fun _ _ _ h=>h) (Or.inr ⟨by rfl,rfl⟩) b5 ?_;(try simp only[gE,aP]);refine mV (i:=13) (oi:=_) (v:=undef) rfl ao ao ao (fun _ _ _ h=>h) (Or.inr ⟨by rfl,rfl⟩) b5 ?_;(try simp only[gE,aP]);refine aI [14] (cA ?_ aH);intro g K;go_simp;refine K.o _ _ H (fun ak=>?_);clear K g H;have H:=ak;clear ak;(try simp only[gE,aP]);refine mV (i:=15) (oi:=_) (v:=undef) rfl ao ao ao (fun _ _ _ h=>h) (Or.inr ⟨by rfl,rfl⟩) b5 ?_;(try simp only[gE,aP]);refine au 16 (.bool false) ?_;(try simp only[gE,aP]);refine dC ao ?_ _;clear H;go_wp2_with fail
            go_meet
            exact⟨false,rfl,bK⟩
          case rest=>
          obtain⟨b,rfl,rW⟩:=hcut;have H7:=hid (gH.o.aa rW.o);have DK:=hid (Z.o.trans (rW.o.af Z.o.size));clear gH Z f bK;cases b
          case false=>
           clear rW;go_wp2;go_roundw
           case rel=>exact⟨u+1,E+1,d,al,bd,bd,al,xU.o.skip,H7,DK⟩
           case measure=>simp[intOf];omega
          case true=>
           clear rW;have lj:=hid (H7.o.aa ((aw _ wc).alloc (ar _) (.cells #[.int .i64 (u:Int)] 3)));have bT:=hid (DK.o.alloc DK.o.size (.cells #[.int .i64 (u:Int)] 3));have lS:=hid (Cv wc (u:Int));have iR:wb.heap.size<=(wc.alloc (.cells #[.int .i64 (u:Int)] 3)).heap.size:=bT.o.size;have nQ:=hid (xU.o.snoc Az ae JA);clear H7 DK;go_wp2_with (at_builtin;refine wI rfl _ _ rfl wb.heap.size _ d [(u:Int)] rfl lj.o (some ⟨wc.heap.size,0,none⟩) 1 rfl lS.o (fun e=>by cases e) (by simp;omega) iR ?_;intro v' w3 bp bl;have df:=hid (bT.o.grown bl iR (fun k e=>Qd lj.o k e)))
           go_roundw
           case rel=>exact⟨u+1,E+1,d++[(u:Int)],al,bd,bd,al,nQ,bp,df⟩
           case measure=>simp[intOf];omega
       case false=>
        by_cases hs:(v:Int)<=(u:Int)
        ·go_wp2;go_roundw
         case rel=>exact⟨u+1,E,d,al,bd,rfl,al,xU.o.skip,gH,Z⟩
         case measure=>simp[intOf];omega
        ·have hk:(u:Int)<(v:Int):=al
         clear hs;by_cases ae:d.length=3
         ·have jF:((d.length:Int)==3)=true:=by rw[ae];rfl
          clear ae;go_wp2;go_roundw
          case rel=>exact⟨u+1,E,d,al,bd,rfl,al,xU.o.skip,gH,Z⟩
          case measure=>simp[intOf];omega
         ·have jF:((d.length:Int)==3)=false:=by
           (have:¬(d.length:Int)=3:=al);simpa using this
          (have JA:if false=true then v<u else u<v:=by simp;omega);go_upto_region 26 with fail
          clear d3 jF;have bK:c8 q8 q8.drew:=(aw _ _).drew;go_cut [109] from 66 to 115 (fun s wx=>∃b:Bool,s=.bool b/\Hid (c8 q8 wx))
          case first=>
           by_cases V:0<L.length
           ·obtain⟨t,ht⟩:∃t,t=E % L.length:=⟨_,rfl⟩;(have rC:t<L.length:=by rw[ht];exact iw _ V);(have L0:(E:Int) % (L.length:Int)=(t:Int):=by rw[ht,sY]);(have ai:IntKind.i64.wrap (t:Int)=(t:Int):=by rw[dE];omega);(have Vu:IntKind.i64.wrap ((E:Int) % (L.length:Int))=(t:Int):=by rw[L0];exact ai);(have Mi:(0:Int)<(L.length:Int):=al);(have cf:¬(L.length:Int)=0:=al);have N5:=hid (fun U=>Fv.o L[t] (fK.o _ (bB rC)) U);obtain⟨O,J,rfl,bb,cs⟩:=gS.o t rC;have zT:=hid cs;generalize L[t]=lt at *;generalize wM lt 2=pk at *;obtain⟨b,tC⟩:∃b:Bool,((pk:Int)==0)=b:=⟨_,rfl⟩;(have b8:(pk==0)=b:=by rw[<- tC];cases pk<;>rfl);have Zb:=hid V;(have FB:Hid (¬L=[]):=fun h=>by rw[h] at V;exact absurd V aE);(have NW:Hid ((E:Int).tmod (L.length:Int)=(t:Int)):=by rw[ht];rfl);clear cs ht V;replace f:=f.step (aw _ _).drew;refine iu (S:=fun u=>u.cell? ⟨w.heap.size,1,none⟩=some (.slice (some ⟨O,J,none⟩) L.length I)/\u.cell? ⟨O,J+t,none⟩=some (.int .i64 lt)) ao ⟨f.cells.2.1,(f.bel.cell (p:=⟨O,J+t,none⟩) bb).trans zT.o⟩ (fun H=>?_);generalize q8.drew=u0 at *;refine au 0 (.pointer (some ⟨w.heap.size,1,none⟩)) ?_;(try simp only[gE,aP]);refine au 1 (.slice (some ⟨O,J,none⟩) L.length I) ?_;(try simp only[gE,aP]);refine au 2 (.int .i64 (L.length:Nat)) ?_;(try simp only[gE,aP]);refine cM 3 (.bool true) ?_ ?_
            ·intro u' aO;go_simp;exact Zb.o
            (try simp only[gE,aP]);refine au 4 (.bool true) ?_;(try simp only[gE,aP]);refine au 5 (.pointer (some ⟨w.heap.size,1,none⟩)) ?_;(try simp only[gE,aP]);refine au 6 (.slice (some ⟨O,J,none⟩) L.length I) ?_;(try simp only[gE,aP]);refine au 7 (.int .i64 (E:Nat)) ?_;(try simp only[gE,aP]);refine au 8 (.pointer (some ⟨w.heap.size,1,none⟩)) ?_;(try simp only[gE,aP]);refine au 9 (.slice (some ⟨O,J,none⟩) L.length I) ?_;(try simp only[gE,aP]);refine au 10 (.int .i64 (L.length:Nat)) ?_;(try simp only[gE,aP]);refine cM 11 (.int .i64 (t:Nat)) ?_ ?_
            ·intro u' aO;go_simp;rw[aB FB.o,NW.o]
            (try simp only[gE,aP]);refine au 12 (.pointer (some ⟨O,J+t,none⟩)) ?_;(try simp only[gE,aP]);refine au 13 (.int .i64 lt) ?_;(try simp only[gE,aP]);refine aI [14] (cA ?_ aH);intro g K;go_simp;refine(N5.o _).af ?_;rintro _ u1 ⟨rfl,F⟩;replace f:=f.step F;replace bK:=bK.trans (F.af bK.size);clear H;refine K.o _ _ ⟨f.cells.2.1,(f.bel.cell (p:=⟨O,J+t,none⟩) bb).trans zT.o⟩ (fun H=>?_);clear K g F;(try simp only[gE,aP]);refine au 15 (.bool b) ?_;(try simp only[gE,aP]);refine au 16 (.bool b) ?_;(try simp only[gE,aP]);refine dC ao ?_ _;clear H;go_wp2_with fail
            go_meet
            exact⟨b,rfl,bK⟩
           ·have Mi:¬(0:Int)<(L.length:Int):=al
            have cd:decide ((0:Int)<(L.length:Int))=false:=cK Mi;have cc:¬0<L.length:=V;clear V;replace f:=f.step (aw _ _).drew;refine iu (S:=fun u=>u.cell? ⟨w.heap.size,1,none⟩=some (.slice R L.length I)) ao f.cells.2.1 (fun H=>?_);generalize q8.drew=u0 at *;refine au 0 (.pointer (some ⟨w.heap.size,1,none⟩)) ?_;(try simp only[gE,aP]);refine au 1 (.slice R L.length I) ?_;(try simp only[gE,aP]);refine au 2 (.int .i64 (L.length:Nat)) ?_;(try simp only[gE,aP]);refine au 3 (.bool false) ?_;(try simp only[gE,aP]);refine au 4 (.bool false) ?_;(try simp only[gE,aP]);refine mV (i:=5) (oi:=_) (v:=undef) rfl ao ao ao (fun _ _ _ h=>h) (Or.inr ⟨by rfl,rfl⟩) b5 ?_;(try simp only[gE,aP]);refine mV (i:=6) (oi:=_) (v:=undef) rfl ao ao ao (fun _ _ _ h=>h) (Or.inr ⟨by rfl,rfl⟩) b5 ?_;(try simp only[gE,aP]);refine mV (i:=7) (oi:=_) (v:=undef) rfl ao ao ao (fun _ _ _ h=>h) (Or.inr ⟨by rfl,rfl⟩) b5 ?_;(try simp only[gE,aP]);refine mV (i:=8) (oi:=_) (v:=undef) rfl ao ao ao (fun _ _ _ h=>h) (Or.inr ⟨by rfl,rfl⟩) b5 ?_;(try simp only[gE,aP]);refine mV (i:=9) (oi:=_) (v:=undef) rfl ao ao ao (fun _ _ _ h=>h) (Or.inr ⟨by rfl,rfl⟩) b5 ?_;(try simp only[gE,aP])
            refine mV (i:=10) (oi:=_) (v:=undef) rfl ao ao ao (fun _ _ _ h=>h) (Or.inr ⟨by rfl,rfl⟩) b5 ?_;(try simp only[gE,aP]);refine mV (i:=11) (oi:=_) (v:=undef) rfl ao ao ao (fun _ _ _ h=>h) (Or.inr ⟨by rfl,rfl⟩) b5 ?_;(try simp only[gE,aP]);refine mV (i:=12) (oi:=_) (v:=undef) rfl ao ao ao (fun _ _ _ h=>h) (Or.inr ⟨by rfl,rfl⟩) b5 ?_;(try simp only[gE,aP]);refine mV (i:=13) (oi:=_) (v:=undef) rfl ao ao ao (fun _ _ _ h=>h) (Or.inr ⟨by rfl,rfl⟩) b5 ?_;(try simp only[gE,aP]);refine aI [14] (cA ?_ aH);intro g K;go_simp;refine K.o _ _ H (fun ak=>?_);clear K g H;have H:=ak;clear ak;(try simp only[gE,aP]);refine mV (i:=15) (oi:=_) (v:=undef) rfl ao ao ao (fun _ _ _ h=>h) (Or.inr ⟨by rfl,rfl⟩) b5 ?_;(try simp only[gE,aP]);refine au 16 (.bool false) ?_;(try simp only[gE,aP]);refine dC ao ?_ _;clear H;go_wp2_with fail
            go_meet
            exact⟨false,rfl,bK⟩
          case rest=>
          obtain⟨b,rfl,rW⟩:=hcut;have H7:=hid (gH.o.aa rW.o);have DK:=hid (Z.o.trans (rW.o.af Z.o.size));clear gH Z f bK;cases b
          case false=>
           clear rW;go_wp2;go_roundw
           case rel=>exact⟨u+1,E+1,d,al,bd,bd,al,xU.o.skip,H7,DK⟩
           case measure=>simp[intOf];omega
          case true=>
           clear rW;have lj:=hid (H7.o.aa ((aw _ wc).alloc (ar _) (.cells #[.int .i64 (u:Int)] 3)));have bT:=hid (DK.o.alloc DK.o.size (.cells #[.int .i64 (u:Int)] 3));have lS:=hid (Cv wc (u:Int));have iR:wb.heap.size<=(wc.alloc (.cells #[.int .i64 (u:Int)] 3)).heap.size:=bT.o.size;have nQ:=hid (xU.o.snoc Az ae JA);clear H7 DK;go_wp2_with (at_builtin;refine wI rfl _ _ rfl wb.heap.size _ d [(u:Int)] rfl lj.o (some ⟨wc.heap.size,0,none⟩) 1 rfl lS.o (fun e=>by cases e) (by simp;omega) iR ?_;intro v' w3 bp bl;have df:=hid (bT.o.grown bl iR (fun k e=>Qd lj.o k e)))
           go_roundw
           case rel=>exact⟨u+1,E+1,d++[(u:Int)],al,bd,bd,al,nQ,bp,df⟩
           case measure=>simp[intOf];omega
      ·obtain rfl:n=u:=al
       obtain⟨dp,cp,L9, -⟩:=qo gH.o;subst L9;have f:=D.o.step Z.o;have Rf:=HS.o.aa Z.o;have bW:bA wr w.heap.size (.slice dp d.length cp) d:=LG gH.o D.o.bel.size;obtain⟨dy,cy,Vp, -⟩:=qo f.ls.1;subst Vp;have A:c8 wr (wr.alloc (.cells #[.slice dp d.length cp] 22)):=(aw _ wr).alloc (ar _) _;have C5:=f.step A;have b0:=Rf.aa A;have ES:=bW.aa A;have cW:=C5.box.cells.2.1;have ch:=f.box.cells.2.1;have kJ:=hid ((bh wr 22 (.slice dp d.length cp)).cell);have iR:w.heap.size<=(wr.alloc (.cells #[.slice dp d.length cp] 22)).heap.size:=C5.bel.size;have pw:=hid C5;have lp:=hid b0;have Dn:=hid ES;clear f Rf bW C5 b0 ES D HS gH Z cW A;go_wp2_with (at_builtin;refine agO rfl _ _ rfl w.heap.size _ Ls (.slice dp d.length cp) ⟨_,_,_,rfl⟩ rfl pw.o.ls.1 wr.heap.size rfl kJ.o (by have:=zG.o.len;omega) iR ?_;intro v4 W4 ay aG;obtain⟨d4,rL,rfl, -⟩:=qo ay;have Q:=pw.o.pushL ay aG Dn.o;have cI:=Q.1.cells.2.1;have V3:W4.frozen? ⟨w.heap.size+2,1,none⟩=false:=lr _ _ 1 _ _ Q.1;have Su:=hid Q.2;have Zf:=hid (abV (j:=1) (v':=.slice d4 (Ls.length+1) rL) pw.o.ls.1 aG Q.1 3 a6 a6);clear Q ay aG)
       clear cI V3 ch;have Bu:Hid (bA (W4.setCell ⟨w.heap.size+2,1,none⟩ (.slice d4 (Ls.length+1) rL)) w.heap.size (.slice aQ n J4) (iL S)):=qp lp.o Zf.o;have bQ:Hid (bA (W4.setCell ⟨w.heap.size+2,1,none⟩ (.slice d4 (Ls.length+1) rL)) w.heap.size (.slice dp d.length cp) d):=qp Dn.o Zf.o;generalize (W4.setCell ⟨w.heap.size+2,1,none⟩ (.slice d4 (Ls.length+1) rL))=W5 at *;clear pw lp Dn Zf kJ iR;(have G4:(iL S).length=n:=by rw[ba];exact xT.o.len)
       have je:Hid (c6 14 #[.slice aQ n J4,.slice dp d.length cp] W5 fun e w'=>e=.returned (.tuple #[.int .i64 (cnt S (ag d):Nat),.int .i64 0])/\c8 W5 w'):=by
        have h5:=Bu.o;rw[<- G4] at h5;have h:=PT aQ dp J4 cp (iL S) d W5 (bA.intS h5) (bA.intS bQ.o) (xT.o.fine eN al) (by rw[G4];exact xU.o.ok.up);rwa [G4,eM] at h
       obtain⟨dc,db⟩:=afy xT.o (l:=ag d) (by rw[cV];exact xU.o.ok.few);obtain⟨ck,VD⟩:=xT.o.sz v;(have VB:v<S.length:=by rw[xT.o.len];exact bf);(have bE:S[v]'VB=sz S v:=by rw[Go.Proofs.YtfhdoommfenijaaGreatDoor.sz,List.getElem?_eq_getElem VB];rfl);have qU:=hid xU.o.ok;generalize AQ:cnt S (ag d)=Nk at *;have zR:=hid AQ;clear AQ;refine je.o.af ?_;rintro e8 K5 ⟨rfl,jo⟩;have Ih:=hid (Su.o.step jo);have MG:=Bu.o.aa jo;rw[<- G4] at MG;obtain⟨aj,Jm,Dc,dL,XT⟩:=(bA.intS MG) v (by rw[G4];exact bf);subst Dc;(have ee:(iL S)[v]'(by rw[G4];exact bf)=((S[v]'VB:Nat):Int):=by simp[iL]);rw[ee,bE] at XT;rw[G4] at MG;have bR:=hid XT;have tO:=hid MG;clear jo Su Bu bQ je XT MG ee bE;generalize adH:sz S v=sv at *;have bP:=hid adH;clear adH;go_wp2_with fail
       go_loopw [9,16,17] (fun av rv kv sf=>∃(k ad:Nat) (r:List Fr),k<=Nk/\kv=.int .i64 k/\av=.int .i64 (ad:Nat)/\ad<=aM+3*k/\Hid (RP sv k r)/\Hid (fW sf K5.heap.size rv r)/\Hid (c8 K5 sf)) (fun _ _ kv _=>Nk - (intOf kv).toNat)
       case atStart=>exact⟨0,aM,[],aS _,rfl,rfl,ar _,RP.nil sv,fW.empty _ _,aw _ _⟩
       case round=>
        obtain⟨k,ad,r,hk,rfl,rfl,c0,N1,iE,eL⟩:=hrel;obtain⟨a7,Nn,cl, -⟩:=qo iE.o;subst cl;generalize wr=sf at *;by_cases dA:k<Nk
        ·have cg:k<27:=al
         have nJ:=Ih.o.step eL.o;have bN:=(eL.o.cell (p:=⟨aj,Jm+v,none⟩) dL).trans bR.o;have cm:=bN;have b7:aj<sf.heap.size:=aU dL eL.o.size;(have cZ:ad<=100000:=al);go_upto_region 35 with fail
         replace nJ:=nJ.step (aw _ _).drew;have qH:c8 sf sf.drew:=(aw _ _).drew;refine iu (S:=fun u=>u.cell? ⟨w.heap.size,2,none⟩=some (.slice T P.length c3)/\u.cell? ⟨aj,Jm+v,none⟩=some (.int .i64 (sv:Nat))) ao ⟨nJ.cells.2.2.1,bN⟩ (fun H=>?_);generalize sf.drew=u0 at *;refine au 0 (.pointer (some ⟨w.heap.size,2,none⟩)) ?_;(try simp only[gE,aP]);refine au 1 (.slice T P.length c3) ?_;(try simp only[gE,aP]);refine au 2 (.int .i64 (ad:Nat)) ?_;(try simp only[gE,aP]);refine au 3 (.slice (some ⟨aj,Jm,none⟩) n J4) ?_;(try simp only[gE,aP]);refine au 4 (.int .i64 (v:Nat)) ?_;(try simp only[gE,aP]);refine au 5 (.pointer (some ⟨aj,Jm+v,none⟩)) ?_;(try simp only[gE,aP]);refine au 6 (.int .i64 (sv:Nat)) ?_;(try simp only[gE,aP]);refine aI [7] (cA ?_ aH);intro g K;go_simp;refine(N2.o ad al sv ck VD _ (FK.o.aa nJ.bel)).af ?_;rintro e9 u1 ⟨dK,Yu,rfl,CN,ai,AD,F⟩;have WG:=qH.trans (F.af qH.size);obtain⟨dk,bO,rfl,Wn⟩:=CN.fr;(have bI:(rp Yu).length=sv:=by rw[T6];exact ai.len);rw[bI];obtain⟨bV,b4,cw, -, -⟩:=Wn 0 al;subst cw;have cr:=hid Wn;have Fu:=hid (aiK AD);have ct:=hid (aiJ ai.six (by rw[ai.len];exact VD) AD);have Zc:=hid bI;replace nJ:=nJ.step F;clear H;refine K.o _ _ ⟨nJ.cells.2.2.1,(WG.cell (p:=⟨aj,Jm+v,none⟩) b7).trans cm⟩ (fun H=>?_);clear K g F CN ai AD Wn;(try simp only[gE,aP]);refine au 8 (.slice (some ⟨bV,b4,none⟩) sv bO) ?_;(try simp only[gE,aP])
         refine dC ao ?_ _;clear H;have bx:=hid (iE.o.aa WG);have dN:=hid (eL.o.trans (WG.af eL.o.size));have iR:K5.heap.size<=u1.heap.size:=dN.o.size;have cN:=N1.o.len;have dG:k*sv<=81:=aR (iH (vk cg) VD) al;(have c7:r.length<=81:=al);clear cN;go_wp2_with (at_builtin;refine agQ rfl _ _ rfl K5.heap.size _ r (rp Yu) rfl bx.o bV b4 bO (by rw[Zc.o];rfl) cr.o (by rw[Zc.o];omega) iR ?_;intro v9 u2 CO jn;have Xn:=dN.o.grown jn iR (fun k e=>Qd bx.o k e);have da:=(Xn.cell (p:=⟨aj,Jm+v,none⟩) dL).trans bR.o;have kK:=hid Xn;clear Xn)
         go_roundw
         case rel=>exact⟨k+1,ad+sv,r++rp Yu,al,bd,bd,al,N1.o.snoc Zc.o Fu.o ct.o,CO,kK⟩
         case measure=>simp[intOf];omega
        ·obtain rfl:Nk=k:=al
         have nJ:=Ih.o.step eL.o;have Re:=tO.o.aa eL.o;have tH:fW sf w.heap.size (.slice a7 r.length Nn) r:=LG iE.o Ih.o.bel.size;obtain⟨dz,cz,Vo, -⟩:=qo nJ.rs.1;subst Vo;have A:c8 sf (sf.alloc (.cells #[.slice a7 r.length Nn] 49)):=(aw _ sf).alloc (ar _) _;have pw:=hid (nJ.step A);have lp:=hid (Re.aa A);have ir:=hid (tH.aa A);have dd:=nJ.box.cells.2.2;have kJ:=hid ((bh sf 49 (.slice a7 r.length Nn)).cell);have iR:w.heap.size<=(sf.alloc (.cells #[.slice a7 r.length Nn] 49)).heap.size:=pw.o.bel.size;have YQ:Hid (Yq S v d r):=⟨by rw[zR.o,bP.o];exact N1.o.len,fun i hi=>by rw[bP.o];exact N1.o.rows i (by rw[<- zR.o];exact hi),N1.o.small⟩;clear nJ Re tH A iE eL;go_wp2_with (at_builtin;refine agN rfl _ _ rfl w.heap.size _ Rs (.slice a7 r.length Nn) ⟨_,_,_,rfl⟩ rfl pw.o.rs.1 sf.heap.size rfl kJ.o (by have:=zG.o.lenR;omega) iR ?_;intro v5 W7 VU Wi;obtain⟨d7,uC,rfl, -⟩:=qo VU;have Q:=pw.o.pushR VU Wi ir.o;have bw:=Q.1.cells.2.2;have c9:W7.frozen? ⟨w.heap.size+2,2,none⟩=false:=lr _ _ 2 _ _ Q.1;have cu:=hid Q.2;have cv:=hid (abV (j:=2) (v':=.slice d7 (Rs.length+1) uC) pw.o.rs.1 Wi Q.1 3 a6 a6);clear Q VU Wi)
         go_roundw
         case rel=>exact⟨v+1,E,ad,_,_,_,_,al,bd,rfl,rfl,al,al,zG.o.snoc qU.o YQ.o,cu,qp lp.o cv.o⟩
         case measure=>simp[intOf];omega
    ·obtain rfl:n=v:=al
     obtain⟨dx,dj,cR, -⟩:=qo D.o.vs.1;subst cR;obtain⟨dy,cy,Vp, -⟩:=qo D.o.ls.1;subst Vp;obtain⟨dz,cz,Vo, -⟩:=qo D.o.rs.1;subst Vo;obtain⟨e0,e1,e2⟩:=D.o.box.cells;obtain⟨q0,q1,q2⟩:=D.o.res.cells;have f0:wr.frozen? ⟨w.heap.size+1,0,none⟩=false:=lr _ _ 0 _ _ D.o.res;have f1:wr.frozen? ⟨w.heap.size+1,1,none⟩=false:=lr _ _ 1 _ _ D.o.res;have f2:wr.frozen? ⟨w.heap.size+1,2,none⟩=false:=lr _ _ 2 _ _ D.o.res;obtain⟨o1,J,o3,o4,o5⟩:=D.o.out3;have rT:=hid o1;have xV:=hid J;have Ob:=hid o3;have Ib:=hid o4;have Dq:=hid o5;clear o1 J o3 o4 o5;go_wp2;refine bD (FY rfl _ _ (w.heap.size+1) _ _ _ _ rfl rT.o Tryz.underlying29 rfl ao) rfl ?_;exact⟨bk,n,_,_,_,Vs,Ls,Rs,rfl,⟨eN,CR⟩,NU.o,by rw[H3.o];exact zG.o,xV.o,Ob.o,Ib.o,Dq.o⟩
theorem aaq (a:Up l n):dY l n=true:=by
 rw[dY,gW];intro i b;have h:=bJ.1 b;rw[mo,eR,getD_eq h];refine⟨(a.each i h).1,(a.each i h).2,fun c=>?_⟩;rw[getD_eq (show i - 1<l.length by omega)];exact a.lt (i - 1) i h al
theorem Uv (h:Df bk n n S Ls Rs) (a:v<(iN Ls).length):R7 bk n v (iN Ls)[v]:=by
 have b:v<Ls.length:=by simpa [iN] using a
 simpa [iN] using h.pars v b
theorem abA:∀(n:Nat) (l:List Nat),(∀v,v< n ->v∈l) ->n<=l.length
 |0,_,_=>aS _
 |n+1,l,h=>by
  have m:=h n al;have a:=abA n (l.erase n) fun v d=>(List.mem_erase_of_ne al).2 (h v al);have b:=Tf m;have c:=List.length_pos_of_mem m;omega
theorem acy {P:List (List Nat)} (r:Nat ->Nat) (h:∀v,v<P.length ->∀u∈P.getD v [],u<P.length/\r u<r v):∀k,k<=P.length ->(aZ P k).length=k
 |0,_=>rfl
 |k+1,hk=>by
  have j:=acy r h k al;cases e:nD P (aZ P k) with
  |some v=>rw[LI e,dm,j];rfl
  |none=>
   exfalso
   have n:∀v,v<P.length ->gz P (aZ P k) v=false:=fun v a=>by
    have:=List.find?_eq_none.1 e v (bJ.2 a);simpa using this
   have l:∀m v,v<P.length ->r v<=m ->v∈aZ P k:=by
    intro m;induction m with
    |zero=>
     intro v a i;refine Eb fun b=>?_;have f:=n v a;rw[gz,Bool.and_eq_false_iff] at f;rcases f with f |f
     ·exact absurd b (by simpa using f)
     ·have d:=of_decide_eq_false f;refine d fun u c=>?_;have:=(h v a u c).2;omega
    |succ m Vl=>
     intro v a i;refine Eb fun b=>?_;have f:=n v a;rw[gz,Bool.and_eq_false_iff] at f;rcases f with f |f
     ·exact absurd b (by simpa using f)
     ·have d:=of_decide_eq_false f;refine d fun u c=>?_;obtain⟨g,o⟩:=h v a u c;exact Vl u g al
   have p:=abA P.length (aZ P k) fun v a=>l (r v) v a (ar _);omega
theorem alJ (h:Df bk n n S Ls Rs) (h1:1<=n) (k:n<=6):bH (iN Ls)=0:=by
 have d:(iN Ls).length=n:=by simp[iN,h.len]
 have A:∀v (a:v<(iN Ls).length),∀x∈(iN Ls)[v],(0<=x/\x<n)/\(if bk=true then(v:Int)<x else x<(v:Int)):=fun v a x b=>
  ⟨(il.1 (Uv h a).up).1 x b,(Uv h a).rank x b⟩
 have j:gB (iN Ls)=true:=by
  rw[gB,gX,gX];refine⟨⟨cY ⟨al,al⟩,?_⟩,?_⟩
  ·rw[uF,gW];intro l i;obtain⟨v,a,rfl⟩:=ij i;rw[d];exact aaq (Uv h a).up
  ·rw[Am,gW];intro v a;have c:v<(iN Ls).length:=bJ.1 a;rw[List.getD_eq_getElem?_getD,List.getElem?_eq_getElem c];simp only[zY,Ac,OW];intro m;obtain⟨x,b,e⟩:=bc.1 m;obtain⟨⟨g,_⟩,r⟩:=A v c x b;cases bk<;>simp at r<;>omega
 rw[bH,aA j,aB];have p:(aL (iN Ls)).length=n:=by rw[kW,d]
 have D:=acy (P:=aL (iN Ls)) (fun v=>if bk=true then n - v else v) (fun v a u f=>by
  have c:v<(iN Ls).length:=by rw[kW] at a;exact a
  rw[LD c] at f;obtain⟨x,b,rfl⟩:=bc.1 f;obtain⟨⟨g,o⟩,r⟩:=A v c x b;refine⟨by rw[p];omega,?_⟩;rw[d] at c;cases bk
  ·simp at r⊢;omega
  ·simp at r⊢;omega) n al
 rw[d,D];omega
theorem akZ (h:VK n Vs):fS (ik Vs)=(List.range n).map (jT 110):=by
 apply qh
 ·simp[fS,ik,h.len]
 ·intro i a c;have b:i<Vs.length:=by simpa [fS,ik] using a
  simp[fS,ik,(h.each i b).1]
theorem akY:∀n,n<=6 ->iy ((List.range n).map (jT 110))=0:=by
 intro n a;have h:n=0∨n=1∨n=2∨n=3∨n=4∨n=5∨n=6:=al
 rcases h with rfl |rfl |rfl |rfl |rfl |rfl |rfl<;>decide+kernel
theorem ag2:∀k,k<=3 ->iy (tZ k)=0:=by
 intro n a;have h:n=0∨n=1∨n=2∨n=3:=al
 rcases h with rfl |rfl |rfl |rfl<;>decide+kernel
theorem alD (h:VK n Vs) (f:n<=6):jB (ik Vs)=0:=by
 rw[jB,akZ h,akY n f,aA rfl];refine xH fun j a=>?_;have g:j<Vs.length:=by simpa [ik] using a
 obtain⟨_,k,c,d,e⟩:=h.each j g
 have b:((ik Vs).getD j (⟨#[]⟩,[])).2=tZ k:=by
  rw[List.getD_eq_getElem?_getD,List.getElem?_eq_getElem a];simp[ik,e]
 rw[np,b,Ps,aA ⟨c,al⟩,ag2 k d]
theorem alH (V:VK n Vs) (h:Df bk n n (ah (ik Vs)) Ls Rs) (h1:1<=n) (a:n<=6):aY (ik Vs) (iN Ls) (pO Rs)=0:=by
 have v:(ik Vs).length=n:=by simp[ik,V.len]
 have l:(iN Ls).length=n:=by simp[iN,h.len]
 have r:(pO Rs).length=n:=by simp[pO,h.lenR]
 rw[aY,aA ⟨al,al⟩,aA (alJ h h1 a),aA (alD V a)];refine xH fun j d=>?_;have k:j<Ls.length:=by have:=h.len;omega
 have R:j<Rs.length:=by have:=h.lenR;omega
 have o:=h.rows j k R;have e:(iN Ls).getD j []=Ls[j].2:=by rw[List.getD_eq_getElem?_getD,List.getElem?_eq_getElem (by simpa [iN] using k)];simp[iN]
 have b:(pO Rs).getD j []=Rs[j].2:=by rw[List.getD_eq_getElem?_getD,List.getElem?_eq_getElem (by simpa [pO] using R)];simp[pO]
 rw[iX,e,b,aA o.len,aA];rw[gW];intro i c;exact o.rows i (bJ.1 c)
structure NM (V:List Vr) (L:List (List Int)) (R:List (List Fr)):Prop where
 ok:aY V L R=0
 one:1<=V.length
 six:V.length<=6
 szs:∀u,sz (ah V) u<=3
 few:∀l∈L,l.length<=3
 aro:∀l∈R,∀f∈l,f.2.1.size+f.2.2.size<=2
 small:tK V L R
 light:∀l∈R,fw l<=400
theorem aeQ:∀ {l:List Fr},(∀f∈l,f.2.1.size+f.2.2.size<=2) ->fw l<=4*l.length
 |[],_=>ar _
 |f::l,h=>by
  have b:=h f dQ;have c:=aeQ fun g a=>h g (eH _ a);simp only[fw,eA];omega
theorem alG (V:VK n Vs) (h:Df bk n n (ah (ik Vs)) Ls Rs) (h1:1<=n) (y:n<=6):NM (ik Vs) (iN Ls) (pO Rs):=by
 have I:(ik Vs).length=n:=by simp[ik,V.len]
 have F:(iN Ls).length=n:=by simp[iN,h.len]
 have H:(pO Rs).length=n:=by simp[pO,h.lenR]
 have e:=V.sizes
 have E:∀l∈pO Rs,∀f∈l,f.2.1.size+f.2.2.size<=2:=fun l m=>by
  obtain⟨p,b,rfl⟩:=bc.1 m;obtain⟨j,a,rfl⟩:=ij b;exact(h.rows j (by have:=h.len;have:=h.lenR;omega) a).small
 have t:∀l∈pO Rs,l.length<=81:=fun l m=>by
  obtain⟨p,b,rfl⟩:=bc.1 m;obtain⟨j,a,rfl⟩:=ij b;have M:j<Ls.length:=by have:=h.len;have:=h.lenR;omega
  rw[(h.rows j M a).len];have w:=(afy e (l:=ag Ls[j].2) (by rw[cV];exact(h.pars j M).few)).2;have q:=(e.sz j).2;exact aR (iH w q) a6
 have g:∀l∈iN Ls,l.length<=3:=fun l m=>by
  obtain⟨p,b,rfl⟩:=bc.1 m;obtain⟨j,a,rfl⟩:=ij b;exact(h.pars j a).few
 have r:∀l∈pO Rs,fw l<=400:=fun l m=>by
  have:=aeQ (E l m);have:=t l m;omega
 have Q:∀c i,i<10 ->(jT c i).size<=5000:=fun c i d=>by
  have h1:(jT c i).size=1+(JW i).size:=by rw[jT,ByteArray.size_append];rfl
  rw[h1,XS d];omega
 refine⟨alH V h h1 y,al,al,fun u=>(e.sz u).2,g,E,⟨⟨al,fun x A=>?_⟩,⟨al,fun l m=>by have:=g l m;omega⟩,⟨al,fun l m=>⟨by have:=t l m;omega,by have:=r l m;omega⟩⟩⟩,r⟩;obtain⟨p,b,rfl⟩:=bc.1 A;obtain⟨j,a,rfl⟩:=ij b;obtain⟨v,k,_,q,o⟩:=V.each j a;have D:j<10:=by have:=V.len;omega
 refine⟨by rw[show (Vs[j].1,Vs[j].2.2).1=Vs[j].1 from rfl,v];exact Q 110 j D,?_,?_⟩
 ·rw[show (Vs[j].1,Vs[j].2.2).2=Vs[j].2.2 from rfl,o,Ps];omega
 ·rw[show (Vs[j].1,Vs[j].2.2).2=Vs[j].2.2 from rfl,o];intro s z;obtain⟨i,d,rfl⟩:=bc.1 z;have:=bJ.1 d;exact Q 118 i al
theorem alI (h i j:Option Addr) (k l m:Nat) (d f g:List Int) (bk:Bool) (w:World) (h1:az w h d) (r:az w i f) (s:az w j g) (H:xL d) (I:xL f) (J:xL g):
  c6 4 #[.agg #[.slice h d.length k,.slice i f.length l,.slice j g.length m,.bool bk]] w fun e w'=>∃(a b c:Option Addr) (ca cb cc:Nat) (V:List Vr) (L:List (List Int)) (R:List (List Fr)),e=.returned (.agg #[.slice a V.length ca,.slice b L.length cb,.slice c R.length cc])/\gO w' a b c V L R/\vZ w' b L/\NM V L R/\c8 w w':=by
 refine(alK h i j k l m d f g bk w h1 r s H I J).af ?_;rintro e w' ⟨O,n,x,y,z,Vs,Ls,Rs,rfl,⟨q,o⟩,u,t,E,A,D,v⟩;obtain⟨a,ca,rfl,F⟩:=E.vars;obtain⟨b,cb,rfl,K,p⟩:=A.pars;obtain⟨c,cc,rfl,M⟩:=D.rows;exact⟨a,b,c,ca,cb,cc,_,_,_,rfl,⟨F,K,M⟩,p,alG u t q o,v⟩
def pK (V:List Vr) (L:List (List Int)) (R:List (List Fr)) (k:Nat):Rat:=jQ V L R (aT (ah V) (List.range V.length) k) V.length
def Ye (V:List Vr) (k:Nat):List Int:=iL (bX (ah V) (List.range V.length) k)
theorem aar (n:Nat):Up (iL (List.range n)) n:=il.2 ⟨fun x b=>by
  obtain⟨i,a,rfl⟩:=bc.1 b;have:=bJ.1 a;omega,by rw[iL,IK];exact(aiL n).imp fun h=>al⟩
theorem ap2 (k:Nat):(fun u=>(ag (Ye V k)).getD u 0)=aT (ah V) (List.range V.length) k:=by
 funext u
 rw[Ye,eM,List.getD_eq_getElem?_getD];by_cases a:u<V.length
 ·rw[J6 qZ (by rw[ly];exact a),r5];rfl
 ·rw[iV (by rw[vT,ly];omega),Dd (fun h=>a (bJ.1 h))];rfl
theorem apf (h:NM V L R):cnt (ah V) (List.range V.length)<=729:=by
 have a:=XV (S:=ah V) h.szs (List.range V.length);rw[ly] at a;have b:3^V.length<=3^6:=kN a6 h.six;omega
def sumW (R:List (List Fr)) (j:Nat):Nat:=((R.take j).map fun l=>l.length+sw l).sum
theorem TM (h:j<R.length):sumW R (j+1)=sumW R j+(R[j].length+sw R[j]):=by
 rw[sumW,sumW,fL h,fg,List.sum_append];simp
def Ak (V:List Vr):Nat ->Nat
 |0=>1
 |k+1=>Ak V k*(if 1<((V[k]?).getD (⟨#[]⟩,[])).2.length then((V[k]?).getD (⟨#[]⟩,[])).2.length else 1)
theorem Uo (h:v<V.length):Ak V (v+1)=Ak V v*(if 1<V[v].2.length then V[v].2.length else 1):=by
 rw[Ak,List.getElem?_eq_getElem h];rfl
structure J7 (V:List Vr) (L:List (List Int)) (R:List (List Fr)):Prop where
 li:NLi V L R
 sum:sumW R R.length<=2048
 prod:Ak V V.length<=800
def HvS (V:List Vr) (L:List (List Int)) (R:List (List Fr)) (e:Ending):Prop:=∃r:Bool,e=.returned (.bool r)/\(r=false ->J7 V L R)
theorem am9 (a b c:Option Addr) (ca cb cc:Nat) (V:List Vr) (L:List (List Int)) (R:List (List Fr)) (w:World) (h:gO w a b c V L R) (P:Yt V L R):
  c6 16 #[.agg #[.slice a V.length ca,.slice b L.length cb,.slice c R.length cc]] w fun e w'=>HvS V L R e/\c8 w w':=by
 have HI:=hid h;have hV:=P.vars.1;have hL:=P.pars.1;have hR:=P.rows.1;have Zj:=hid P;clear h P;have cE:=hid (NK.new w (.slice a V.length ca) (.slice b L.length cb) (.slice c R.length cc));obtain⟨u,y,z⟩:=cE.o.1.cells;have e1:IntKind.i64.wrap ((V.length:Int)+(L.length:Int))=(V.length:Int)+(L.length:Int):=by rw[dE];omega
 have e2:IntKind.i64.wrap ((V.length:Int)+(L.length:Int)+(R.length:Int))=(V.length:Int)+(L.length:Int)+(R.length:Int):=by rw[dE];omega
 go_enter Tryz.func16,Tryz.ntmps16;go_wp2_with fail
 generalize (w.alloc (NC (.slice a V.length ca) (.slice b L.length cb) (.slice c R.length cc)))=w1 at *;clear u y z e1 e2;go_loopw [3,4,5] (fun kv cv iv wr=>∃v k q:Nat,v<=V.length/\iv=.int .i64 v/\kv=.int .i64 k/\cv=.int .i64 q/\k<=2000000000000000/\q<=200000000000000000/\V.length+L.length+R.length<=k/\Hid (q=Ak V v)/\Hid (NF V v k)/\Hid (NK w wr (.slice a V.length ca) (.slice b L.length cb) (.slice c R.length cc))) (fun _ _ iv _=>V.length - (intOf iv).toNat)
 case atStart=>exact⟨0,V.length+L.length+R.length,1,aS _,rfl,by rw[sZ,sZ],rfl,al,al,ar _,rfl,fun _ j _ h=>absurd h al,cE⟩
 case round=>
  obtain⟨v,k,q,hv,rfl,rfl,rfl,hk,hq,bO,YV,HP,H⟩:=hrel;clear cE;obtain⟨u,y,z⟩:=H.o.1.cells;by_cases av:v<V.length/\k<=2048/\q<=800
  ·obtain⟨ab,bN,bl⟩:=av;obtain⟨g,ae,O,Z,rfl,hg,d0,E,CZ, -⟩:=(HI.o.aa H.o.2).vars v ab;have S:=Zj.o.vars.2 V[v] (bB ab)
   have T:Hid (∀d,k<=d ->(d<=2048 ->V[v].1.size<=2048/\V[v].2.length<=2048/\∀s∈V[v].2,s.size<=2048) ->NF V (v+1) d):=fun d o p A j hj nH=>by
    rcases cF j v with t |t
    ·exact HP.o al j hj t
    ·obtain rfl:j=v:=al
     exact p A
   (have U:Hid (1<V[v].2.length ->Ak V (v+1)=q*V[v].2.length):=fun e=>by rw[Uo ab,aA e, <- YV.o]);(have Y:Hid (¬1<V[v].2.length ->Ak V (v+1)=q):=fun e=>by rw[Uo ab,aB e,pI, <- YV.o]);have ai:=hid CZ;clear CZ;generalize V[v]=x at *;obtain⟨I,vs⟩:=x;simp only at d0 E S T ai U Y;have bu:=S.1;have a7:=S.2.1;have sL:=hid S.2.2;clear S;(have bm:IntKind.i64.wrap ((k:Int)+(I.size:Int))=(k:Int)+(I.size:Int):=by rw[dE];omega);(have bo:IntKind.i64.wrap ((k:Int)+(I.size:Int)+(vs.length:Int))=(k:Int)+(I.size:Int)+(vs.length:Int):=by rw[dE];omega);go_upto_region 6 with fail
   go_quiet (fail)
   have zI:=hid (H.o.drewN nq);have aO:Hid (p6 (wr.drewN nq) O vs):=ai.o;have bE:(wr.drewN nq).cell? ⟨g,ae+v*2+1,none⟩=some (.slice O vs.length Z):=E;clear u y z d0 E bm bo H ai;generalize wr.drewN nq=w2 at *;obtain⟨u,y,z⟩:=zI.o.1.cells;go_wp2_with fail
   clear u y z;go_loopw [3,6] (fun kv iv wq=>∃i d:Nat,i<=vs.length/\iv=.int .i64 i/\kv=.int .i64 d/\k+I.size+vs.length<=d/\d<=1000000000000000/\Hid (d<=2048 ->∀s∈vs.take i,s.size<=2048)/\wq=w2) (fun _ iv _=>vs.length - (intOf iv).toNat)
   case atStart=>exact⟨0,k+I.size+vs.length,aS _,rfl,by rw[sZ,sZ],ar _,al,fun _ s K=>by simp at K,rfl⟩
   case round=>
    obtain⟨i,d,D,rfl,rfl,bk,bg,HQ,rfl⟩:=hrel;obtain⟨u,y,z⟩:=zI.o.1.cells;by_cases M:i<vs.length/\d<=2048
    ·obtain⟨Q,ax⟩:=M;obtain⟨g2,o2,rfl,bI,t1⟩:=aO.o i Q;have VE:=sL.o vs[i] (bB Q)
     have aN:Hid (∀ad,d<=ad ->(ad<=2048 ->vs[i].size<=2048) ->ad<=2048 ->∀s∈vs.take (i+1),s.size<=2048):=fun ad o p A s K=>by
      rw[fL Q] at K;rcases dh.1 K with t |t
      ·exact HQ.o al s t
      ·rw[dX.1 t];exact p A
     generalize vs[i]=s at *;(have aG:IntKind.i64.wrap ((d:Int)+(s.size:Int))=(d:Int)+(s.size:Int):=by rw[dE];omega);have X:=hid (aN.o (d+s.size) al (fun h=>al));go_wp2;go_roundw
     case rel=>exact⟨i+1,d+s.size,al,bd,by rw[sZ],al,al,X,trivial⟩
     case measure=>simp[intOf];omega
    ·have Du:Hid (NF V (v+1) d):=T.o d al fun A=>⟨al,al,fun s K=>by
      (have Q:i=vs.length:=al);have:=HQ.o A;rw[Q,fD] at this;exact this s K⟩
     have bf:q*vs.length<=800*140737488355328:=iH bl a7
     have bp:IntKind.i64.wrap ((q:Int)*(vs.length:Int))=((q*vs.length:Nat):Int):=by
      rw[dE, <- jl];omega
     rcases (show vs.length<=i∨(i<vs.length/\2048<d) by omega) with h5 |⟨h5,h6⟩
     all_goals
      clear M;by_cases jm:1<vs.length
      ·have N7:=hid (U.o jm).symm;clear U Y;generalize q*vs.length=q' at *;go_wp2;go_roundw
       case rel=>exact⟨v+1,d,q',al,bd,rfl,rfl,al,al,al,N7,Du,zI⟩
       case measure=>simp[intOf];omega
      ·clear bf bp;have N7:=hid (Y.o jm).symm;clear U Y;go_wp2;go_roundw
       case rel=>exact⟨v+1,d,q,al,bd,rfl,rfl,al,al,al,N7,Du,zI⟩
       case measure=>simp[intOf];omega
  ·have aM:Hid (k<=2048 ->q<=800 ->Ak V V.length<=800):=fun o p=>by
    (have e:v=V.length:=al);rw[<- e, <- YV.o];exact p
   have Ij:Hid (k<=2048 ->q<=800 ->NF V V.length 0):=fun o p _ j hj _=>HP.o o j hj al;rcases (show V.length<=v∨(v<V.length/\2048<k)∨(v<V.length/\k<=2048/\800<q) by omega) with h5 |⟨h5,h6⟩ |⟨h5,h6,h7⟩
   all_goals
    clear av;go_wp2_with fail
    clear u y z;go_loopw [3,7] (fun kv iv wq=>∃j n:Nat,j<=L.length/\iv=.int .i64 j/\kv=.int .i64 n/\k<=n/\n<=3000000000000000/\Hid (Sb L j n)/\wq=wr) (fun _ iv _=>L.length - (intOf iv).toNat)
    case atStart=>exact⟨0,k,aS _,rfl,rfl,ar _,al,fun _ j _ h=>absurd h al,rfl⟩
    case round=>
     obtain⟨j,n,hj,rfl,rfl,bk,bg,Fv,rfl⟩:=hrel;obtain⟨u,y,z⟩:=H.o.1.cells;by_cases M:j<L.length/\n<=2048
     ·try (exfalso;omega)
      all_goals
       obtain⟨F,ax⟩:=M;obtain⟨g,ae,O,Z,rfl,hg,E, -⟩:=(HI.o.aa H.o.2).pars j F;have cN:=Zj.o.pars.2 L[j] (bB F)
       have T:Hid (∀d,n<=d ->(d<=2048 ->L[j].length<=2048) ->Sb L (j+1) d):=fun d o p A i D nH=>by
        rcases cF i j with t |t
        ·exact Fv.o al i D t
        ·obtain rfl:i=j:=al
         exact p A
       generalize L[j]=l at *;(have aG:IntKind.i64.wrap ((n:Int)+(l.length:Int))=(n:Int)+(l.length:Int):=by rw[dE];omega);have X:=hid (T.o (n+l.length) al (fun h=>al));go_wp2;go_roundw
       case rel=>exact⟨j+1,n+l.length,al,bd,by rw[sZ],al,al,X,trivial⟩
       case measure=>simp[intOf];omega
     ·have bb:Hid (n<=2048 ->Sb L L.length 0):=fun o _ i D _=>Fv.o o i D al;rcases (show L.length<=j∨(j<L.length/\2048<n) by omega) with g5 |⟨g5,g6⟩
      all_goals
       clear M;go_wp2_with fail
       clear u y z;go_loopw [3,8] (fun kv iv wq=>∃f m:Nat,f<=R.length/\iv=.int .i64 f/\kv=.int .i64 m/\n<=m/\m<=5000000000000000/\Hid (m<=2048 ->sumW R f<=m)/\Hid (Sa R f m)/\Hid (NK w wq (.slice a V.length ca) (.slice b L.length cb) (.slice c R.length cc))) (fun _ iv _=>R.length - (intOf iv).toNat)
       case atStart=>exact⟨0,n,aS _,rfl,rfl,ar _,al,fun _=>aS _,fun _ j _ h=>absurd h al,H⟩
       case round=>
        obtain⟨f,m,bK,rfl,rfl,bw,bx,an,ak,J⟩:=hrel;obtain⟨u,y,z⟩:=J.o.1.cells;by_cases ao:f<R.length/\m<=2048
        ·try (exfalso;omega)
         all_goals
          obtain⟨F,ax⟩:=ao;obtain⟨g,ae,O,Z,rfl,hg,E,ug, -⟩:=(HI.o.aa J.o.2).rows f F;have cN:=Zj.o.rows.2 R[f] (bB F)
          have T:Hid (∀d,m<=d ->(d<=2048 ->R[f].length+sw R[f]<=2048) ->Sa R (f+1) d):=fun d o p A i D nH=>by
           rcases cF i f with t |t
           ·exact ak.o al i D t
           ·obtain rfl:i=f:=al
            exact p A
          have aQ:Hid (sumW R (f+1)=sumW R f+(R[f].length+sw R[f])):=TM F;have Bz:=hid ug;have qX:=hid cN;clear ug cN;generalize R[f]=l at *;go_wp2_with fail
          refine(aoh O Z l _ Bz.o qX.o.1 qX.o.2).af ?_;rintro e w5 ⟨⟨r,rfl,bQ,aj⟩,aq⟩;have Oq:=hid (J.o.step aq);(have aG:IntKind.i64.wrap ((m:Int)+(r:Int))=(m:Int)+(r:Int):=by rw[dE];omega);have X:=hid (T.o (m+r) al (fun h=>by have:=aj al;omega))
          have a1:Hid (m+r<=2048 ->sumW R (f+1)<=m+r):=fun h=>by
           have o:=aj al;have p:=an.o al;have A:=aQ.o;omega
          clear aq u y z E aj;go_wp2;go_roundw
          case rel=>exact⟨f+1,m+r,al,bd,by rw[sZ],al,al,a1,X,Oq⟩
          case measure=>simp[intOf];omega
        ·have a8:Hid (m<=2048 ->Sa R R.length 0):=fun o _ i D _=>ak.o o i D al
         have uT:Hid (m<=2048 ->q<=800 ->J7 V L R):=fun o p=>⟨⟨al,Ij.o al p,bb.o al,a8.o o⟩,by
          (have e:f=R.length:=al);have:=an.o o;rw[e] at this;omega,aM.o al p⟩
         rcases (show R.length<=f∨(f<R.length/\2048<m) by omega) with f5 |⟨f5,f6⟩
         all_goals
          clear ao;by_cases ay:2048<m
          ·try (exfalso;omega)
           all_goals
            go_wp2;go_ret;exact⟨⟨true,rfl,fun h=>by cases h⟩,J.o.2⟩
          ·by_cases bP:800<q
           ·try (exfalso;omega)
            all_goals
             (have br:(800:Int)<(q:Int):=al);(have a6:(m:Int)<=2048:=al);clear ay;go_wp2;go_ret;exact⟨⟨_,rfl,fun h=>absurd h aE⟩,J.o.2⟩
           ·try (exfalso;omega)
            all_goals
             have HN:=hid (uT.o al al);(have a6:(m:Int)<=2048:=al);clear ay;go_wp2;go_ret;exact⟨⟨_,rfl,fun _=>HN.o⟩,J.o.2⟩
variable {us vs:List Nat}
theorem LN (a:us.Nodup) (l:∀v∈us,v<n):us.Perm ((List.range n).filter fun v=>us.contains v):=
 (KU a (qZ.sublist IP)).2 fun v=>by
  rw[dB,bJ,mh];exact⟨fun h=>⟨l v h,h⟩,fun h=>h.2⟩
theorem aoM {a b:List Nat} (h:a.Perm b):fp R a=fp R b:=by
 induction h with
 |nil=>rfl
 |cons x _ ih=>rw[fp,fp,ih]
 |swap x y l=>simp only[fp];rw[<- iU, <- iU,dJ (xI _) (xI _)]
 |trans _ _ h1 h2=>rw[h1,h2]
theorem aoL {a b:List Nat} (h:a.Sublist b):fp R a<=fp R b:=by
 induction h with
 |slnil=>exact ar _
 |cons x _ ih=>rw[fp];exact aR ih (B6 _ (lZ (Nf _)))
 |cons_cons x _ ih=>rw[fp,fp];exact l6 _ ih
theorem aoN (h:us.Nodup) (l:∀v∈us,v<n):fp R us<=fp R (List.range n):=by
 rw[aoM (LN h l)];exact aoL IP
theorem Py (S:List Nat):∀l,jO S l=cnt S l
 |[]=>rfl
 |v::l=>by rw[jO,cnt,Py S l]
theorem afx (h:∀v,sz S v<=4):∀l:List Nat,cnt S l<=4^l.length
 |[]=>ar _
 |v::l=>by
  rw[cnt,eA,ji,dJ];exact iH (afx h l) (h v)
theorem Lj (f:eW (iL S)) (v:Nat):sz S v<=4:=by
 by_cases h:v<S.length
 ·have a:=(f.each v (by rw[ba];exact h)).2;have b:(iL S)[v]'(by rw[ba];exact h)=(S[v]:Int):=by simp[iL]
  rw[b] at a;rw[sz,List.getElem?_eq_getElem h];show S[v]<=4;omega
 ·rw[sz,iV al];decide
theorem XW (f:eW (iL S)) (n:us.Nodup) (l:∀v∈us,v<S.length):cnt S us<=65536:=by
 have c:=(LN n l).length_eq;have d:((List.range S.length).filter fun v=>us.contains v).length<=S.length:=aR (pJ ..) aE;have h:=f.eight;rw[ba] at h;have a:=afx (Lj f) us;have b:4^us.length<=4^8:=kN a6 al;exact aR a b
theorem S0 (h:n<=65536):(B n).size<=3:=by
 have a:=j8 h;have b:(B 65536).size<=3:=by rw[lq];exact pY 3 65536 a6
 omega
def lW (V:List Vr) (R:List (List Fr)):Prop:=(B (fp R (List.range V.length))).size<=4000
theorem lW.at (h:lW V R) (n:us.Nodup) (l:∀v∈us,v<V.length):(B (fp R us)).size<=4000:=aR (j8 (aoN n l)) h
theorem lW.pool (h:lW V R) (h0:aY V L R=0) (n:us.Nodup) (l:∀v∈us,v<V.length) (b:vs.Nodup) (i:∀v∈vs,v<V.length):2*(B (fp R us)).size+(B (jO (ah V) vs*1)).size+2<=8192:=by
 have c:=h.at n l
 have a:jO (ah V) vs*1<=65536:=by
  rw[pI,Py];exact XW (gD h0).fine b (by rw[ix];exact i)
 have d:=S0 a;omega
theorem Qo (h0:aY V L R=0):bH L=0:=by
 rw[aY] at h0;by_cases a:L.length=V.length/\R.length=V.length
 ·rw[aA a] at h0;by_cases h:bH L=0
  ·exact h
  ·rw[aB h] at h0;exact absurd h0 h
 ·rw[aB a] at h0;exact absurd h0 a6
theorem T7 (h0:aY V L R=0):mS L (·∈List.range V.length):=fun v _ u h=>by
 have a:=gD h0;rw[<- acf] at h;have:=(U3 (vS (Qo h0)) v u h).1;rw[a.len] at this;exact bJ.2 this
theorem ab8 (h0:aY V L R=0) (p:Pos (ah V)) (c:k<cnt (ah V) (List.range V.length)):fB (fp R (List.range V.length)) (pK V L R k)/\lX 1 (pK V L R k):=by
 have f:Fit (ah V) (aT (ah V) (List.range V.length) k):=fun u=>o6 p _ _ u c;have a:=(PD.net (R:=R) (L:=L) (ws:=List.range V.length) h0 (fun v h=>bJ.1 h)).prod f;have b:=(PI.net h0 (fun v h=>bJ.1 h) (T7 h0)).val _ f;rw[b, <- LA] at a;exact a
def aK (V:List Vr) (L:List (List Int)) (R:List (List Fr)) (l:List (Nat×Nat)) (k:Nat):Rat:=kC l (aT (ah V) (List.range V.length) k)*pK V L R k
theorem Qx (V:List Vr) (L:List (List Int)) (R:List (List Fr)) (l:List (Nat×Nat)):CB V L R l=bq (aK V L R l) (cnt (ah V) (List.range V.length)):=rfl
theorem Yp (h0:aY V L R=0) (p:Pos (ah V)) (l:List (Nat×Nat)) (c:k<cnt (ah V) (List.range V.length)):fB (fp R (List.range V.length)) (aK V L R l k)/\lX 1 (aK V L R l k):=by
 obtain⟨a,b⟩:=ab8 h0 p c;rw[aK,MA];by_cases h:tG l (aT (ah V) (List.range V.length) k)=true
 ·rw[aA h,yf];exact⟨a,b⟩
 ·rw[aB h,IH];exact⟨fB.zero _,by constructor<;>decide⟩
theorem ahK (h0:aY V L R=0) (D:lW V R) {g:Nat ->Rat} (j:n<=65536) (a:∀k,k< n ->fB (fp R (List.range V.length)) (g k)/\lX 1 (g k)):qw (bq g n)<=8003:=by
 have z:fp R (List.range V.length)≠0:=(PD.net (V:=V) (L:=L) h0 (fun v d=>bJ.1 d)).nz.1;have b:=fB.sum (k:=n) fun x h=>(a x h).1;have c:=lX.sum (k:=n) fun x h=>(a x h).2;have e:=b.size z c;have f:=S0 (n:=n*1) al;have i:(B (fp R (List.range V.length))).size<=4000:=D;omega
theorem R2 (h0:aY V L R=0):cnt (ah V) (List.range V.length)<=65536:=XW (gD h0).fine qZ fun v h=>by rw[ix];exact bJ.1 h
theorem Vc (h0:aY V L R=0) (p:Pos (ah V)) (h:lW V R) (l:List (Nat×Nat)) (a:n<=cnt (ah V) (List.range V.length)):qw (bq (aK V L R l) n)<=8003:=
 ahK h0 h (aR a (R2 h0)) fun k b=>Yp h0 p l al
theorem P7 (h0:aY V L R=0) (p:Pos (ah V)) (D:lW V R) (b:k<cnt (ah V) (List.range V.length)):qw (pK V L R k)<=8003:=by
 obtain⟨h,a⟩:=ab8 h0 p b;have z:fp R (List.range V.length)≠0:=(PD.net (V:=V) (L:=L) h0 (fun v c=>bJ.1 c)).nz.1;have d:=h.size z a;have e:=S0 (n:=1) al;have f:(B (fp R (List.range V.length))).size<=4000:=D;omega
theorem mq (h0:aY V L R=0):Pos (ah V):=by have:=(gD h0).fine.pos;rwa [eM] at this
theorem ao0 (f:Fr):(B (aW f).den).size<=f.2.2.size+1:=by
 have e:aW f=mkRat (sg f.1 (N f.2.1)) (N f.2.2):=rfl;by_cases h:N f.2.2=0
 ·rw[e,h,Rat.mkRat_zero];have:(B ((0:Rat).den)).size<=1:=by rw[lq];exact pY 1 1 a6
  omega
 ·have a:fB (N f.2.2) (aW f):=⟨_,e⟩;have b:=Nat.le_of_dvd (lZ h) (a.dvd h);have c:=j8 b;have d:=jL f.2.2;omega
theorem afj (y:Nat):∀l:List Fr,(B (xI l*y)).size<=l.length+sw l+(B y).size
 |[]=>by rw[xI,kO];omega
 |f::l=>by
  rw[xI,iU];have h:=tj (aW f).den (xI l*y);have a:=ao0 f;have b:=afj y l;rw[eA,sw];omega
def wR (R:List (List Fr)):List Nat ->Nat
 |[]=>0
 |v::vs=>(R.getD v []).length+sw (R.getD v [])+wR R vs
theorem XQ (R:List (List Fr)):∀us:List Nat,(B (fp R us)).size<=wR R us+1
 |[]=>by
  show (B 1).size<=0+1;rw[lq];exact pY 1 1 a6
 |v::vs=>by
  rw[fp,wR];have h:=afj (fp R vs) (R.getD v []);have a:=XQ R vs;omega
theorem aaf (R:List (List Fr)) (b:List Nat):∀a,wR R (a++b)=wR R a+wR R b
 |[]=>by rw[iI,wR,bM]
 |v::a=>by rw[fM,wR,wR,aaf R b a];omega
theorem aad (R:List (List Fr)):∀n,wR R (List.range n)=sumW R n
 |0=>by simp[wR,sumW]
 |n+1=>by
  rw[sV,aaf,aad R n,wR,wR,fZ];by_cases h:n<R.length
  ·rw[TM h,List.getD_eq_getElem?_getD,List.getElem?_eq_getElem h];rfl
  ·rw[List.getD_eq_getElem?_getD,iV al];(have e:R.take (n+1)=R.take n:=by rw[jA al,jA al]);rw[sumW,sumW,e];rfl
theorem aaF:∀d n,n+d=R.length ->sumW R n<=sumW R R.length
 |0,n,h=>by rw[<- h];exact ar _
 |d+1,n,h=>by
  have a:sumW R (n+1)<=sumW R R.length:=aaF d (n+1) al;rw[TM al] at a;omega
theorem ahM (R:List (List Fr)) (n:Nat):sumW R n<=sumW R R.length:=by
 by_cases h:n<=R.length
 ·exact aaF (R.length - n) n al
 ·have e:R.take n=R.take R.length:=by rw[jA al,fD]
  rw[sumW,sumW,e];exact ar _
theorem J7.lite (h:J7 V L R):lW V R:=by
 have a:=XQ R (List.range V.length);rw[aad] at a;have b:=ahM R V.length;have c:=h.sum;show (B (fp R (List.range V.length))).size<=4000;omega
theorem apb (S:List Nat) (k:Nat):cnt S [k]=sz S k:=by rw[cnt,cnt,pI]
theorem ab0 (h:Pos (ah V)):∀k,k<=V.length ->cnt (ah V) (List.range k)=Ak V k
 |0,_=>rfl
 |k+1,hk=>by
  rw[sV,XX,apb,ab0 h k al,Uo al];have a:=iM h k;have b:sz (ah V) k=V[k].2.length:=Lk al;rw[b] at a⊢;congr 1
  split
  ·rfl
  ·omega
theorem J7.few (h:J7 V L R) (h0:aY V L R=0):cnt (ah V) (List.range V.length)<=800:=by
 rw[ab0 (mq h0) V.length (ar _)];exact h.prod
variable {Q:List (Value×Value)} {P:List Tb} {fv nM tv oC u1 u2:Value} {V':World}
structure mL (W:World) (b:Nat) (x fv tv nM oC:Value) (l:List Int) (Q:List (Value×Value)) (P:List Tb) (V:World):Prop where
 box:bt V b x fv tv
 fo:bA V W.heap.size nM l
 own:lg V W.heap.size oC Q P
 far:∀R,R<=b ->∀k (h:k<P.length) (h':k<Q.length),fV R P[k] Q[k]
 farF:∀R,nM.ownBlock=some R ->∀k (h:k<P.length) (h':k<Q.length),fV R P[k] Q[k]
 ne:∀R,nM.ownBlock=some R ->oC.ownBlock≠some R
 fr:W.grownBy V (some b)
theorem mL.start {W:World} {b:Nat} (h:bt W b x (.slice none 0 0) (.slice none 0 0)):mL W b x (.slice none 0 0) (.slice none 0 0) (.slice none 0 0) (.slice none 0 0) [] [] [] W:=
 ⟨h,⟨rfl,.inl ⟨rfl,rfl⟩⟩,lg.nil _ _,(fun R _ k h=>absurd h aE),(fun R e=>by cases e),(fun R e=>by cases e),Xy _ _⟩
theorem mL.under {W V:World} {b:Nat} (h:mL W b x fv tv nM oC l Q P V) (a:c8 V V'):mL W b x fv tv nM oC l Q P V':=
 ⟨h.box.aa a h.box.lt,Jk h.fo (Dg.aa a),h.own.under a,h.far,h.farF,h.ne,Xz h.fr a⟩
theorem mL.pushF {W V:World} {b:Nat} {E:Value} {l':List Int} (h:mL W b x fv tv nM oC l Q P V) (j:b<W.heap.size) (o:bA V' W.heap.size E l') (g:V.grownBy V' nM.ownBlock) (n:E.ownBlock=nM.ownBlock∨∀k,E.ownBlock=some k ->V.heap.size<=k):mL W b x fv tv E oC l' Q P V':=by
 have f:∀k,nM.ownBlock=some k ->W.heap.size<=k:=fun k e=>(ru h.fo k e).1;refine⟨(g.block b h.box.lt (fun e=>by have:=f b e.symm;omega)).trans h.box,o,⟨h.own.len,Qg h.own.own g (fun R e d=>h.ne R d e),fun k a c=>(h.own.val k a c).keepR (fun r i=>h.farF r i k a c) g,h.own.far⟩,h.far,fun R e k a c=>?_,fun R e d=>?_,MZ h.fr g f⟩
 ·rcases n with n |n
  ·exact h.farF R (by rw[<- n];exact e) k a c
  ·exact(h.own.val k a c).lt (n R e)
 ·rcases n with n |n
  ·exact h.ne R (by rw[<- n];exact e) d
  ·have a:=n R e;have c:=(h.own.lt R d).2;omega
theorem mL.pushT {W V:World} {b:Nat} {d:Value} {t:Tb} (h:mL W b x fv tv nM oC l Q P V) (u:b<W.heap.size) (r:di V u1 u2 t) (p:∀R,oC.ownBlock=some R ->fV R t (u1,u2)) (F:∀R,nM.ownBlock=some R ->fV R t (u1,u2)) (s:∀R,R<=b ->fV R t (u1,u2)) (q:V'.ownsRow W.heap.size 58 2 d (P.length+1) (eI Q++[u1,u2])) (g:V.grownBy V' oC.ownBlock) (n:d.ownBlock=oC.ownBlock∨∀k,d.ownBlock=some k ->V.heap.size<=k):mL W b x fv tv nM d l (Q++[(u1,u2)]) (P++[t]) V':=by
 have c:∀k,oC.ownBlock=some k ->W.heap.size<=k:=fun k e=>(h.own.lt k e).1
 have m:∀R,(∀k (f:k<P.length) (i:k<Q.length),fV R P[k] Q[k]) ->fV R t (u1,u2) ->∀k (f:k<(P++[t]).length) (i:k<(Q++[(u1,u2)]).length),fV R (P++[t])[k] (Q++[(u1,u2)])[k]:=fun R o T k f i=>by
  by_cases O:k<P.length
  ·have j:k<Q.length:=by rw[h.own.len];exact O
   rw[r6 j,r6 O];exact o k O j
  ·have j:¬k<Q.length:=by rw[h.own.len];exact O
   rw[vo al,vo al];simp only[O7];exact T
 refine⟨(g.block b h.box.lt (fun e=>by have:=c b e.symm;omega)).trans h.box,Qg h.fo g (fun R e a=>h.ne R e a),h.own.push r p q g n,(fun R c=>m R (h.far R c) (s R c)),fun R e=>m R (h.farF R e) (F R e),fun R e a=>?_,MZ h.fr g c⟩;rcases n with n |n
 ·rw[n] at a;exact h.ne R e a
 ·have f:=n R a;have i:=(ru h.fo R e).2;omega
theorem mL.set1 {W V:World} {b:Nat} (h:mL W b x fv tv nM oC l Q P V) (a:b<W.heap.size) (u:Value):mL W b x u tv nM oC l Q P (V.setCell ⟨b,1,none⟩ u):=
 ⟨h.box.set1 u,FZ h.fo (fun e=>by have:=(ru h.fo b e).1;omega) u,h.own.off u (h.far b (ar b)) (fun e=>by have:=(h.own.lt b e).1;omega),h.far,h.farF,h.ne,Ru h.fr _ _⟩
theorem mL.set2 {W V:World} {b:Nat} (h:mL W b x fv tv nM oC l Q P V) (a:b<W.heap.size) (u:Value):mL W b x fv u nM oC l Q P (V.setCell ⟨b,2,none⟩ u):=
 ⟨h.box.set2 u,FZ h.fo (fun e=>by have:=(ru h.fo b e).1;omega) u,h.own.off u (h.far b (ar b)) (fun e=>by have:=(h.own.lt b e).1;omega),h.far,h.farF,h.ne,Ru h.fr _ _⟩
theorem alp (a:Option Addr) (ca:Nat) (L:List (List Int)) (w:World) (h:fN w a L) (j:∀l∈L,l.length<=140737488355328) (g:bH L=0):
  c6 88 #[.slice a L.length ca] w fun e w'=>∃G,e=.returned (.tuple #[.slice (some ⟨G,0,none⟩) L.length L.length,.int .i64 0])/\fN w' (some ⟨G,0,none⟩) (oJ L)/\c8 w w':=
 (anM a ca L w h j).af fun e w' i=>by
  rcases i with ⟨⟨b,_⟩ |⟨_,G,c,d⟩,f⟩
  ·exact absurd g b
  ·exact⟨G,c,d,f⟩
theorem aos (a:Option Addr) (ca:Nat) (L:List (List Int)) (w:World) (h:fN w a (oJ L)) (i:gB L=true) (h1:1<=L.length) (f:L.length<=8):
  c6 89 #[.slice a L.length ca] w fun e w'=>∃d cd G,e=.returned (.tuple #[.slice d L.length cd,.slice (some ⟨G,0,none⟩) L.length L.length,.int .i64 0])/\az w' d (iL (iY L))/\c8 w w':=by
 have:=anO a ca (oJ L) w h (fun l k=>by
  obtain⟨s,_,rfl⟩:=bc.1 k;rw[im,ba,gi];exact aR (pJ ..) aE)
 rw[Cz] at this;refine this.af fun e w' j=>?_;rcases j with ⟨⟨_,d,cd,G,b,c,_⟩ |⟨b,_⟩,g⟩
 ·rw[Cz] at b;exact⟨d,cd,G,b,c,g⟩
 ·rw[alq i h1 f] at b;cases b
theorem anI (a b c:Option Addr) (ca cb cc v:Nat) (V:List Vr) (L:List (List Int)) (R:List (List Fr)) (w:World) (h:gO w a b c V L R) (f:vZ w b L) (s:tK V L R) (i:∀l∈R,fw l<=4200) (h0:aY V L R=0) (g:v<V.length) (x:∀U:World,gO U a b c V L R ->c6 69 #[.agg #[.slice a V.length ca,.slice b L.length cb,.slice c R.length cc]] U fun e w'=>e=.returned (.int .i64 (aY V L R))/\c8 U w'):
  c6 90 #[.agg #[.slice a V.length ca,.slice b L.length cb,.slice c R.length cc],.int .i64 (v:Nat)] w fun e w'=>De w.heap.size (gU L v,gL V L R v) e w'/\c8 w w':=
 (ak3 a b c ca cb cc v V L R w h f s i h0 g x).af fun _ _ d=>⟨vV.tb (t:=(gU L v,gL V L R v)) d.1,d.2⟩
theorem Tn {o:Oper} {a:Act} {K:Act ->World ->Prop} {Q:Exit ->Act ->World ->Prop} (s x:Operand)
  (I:o.op=.call {callee:=.builtin .append,args:= #[s,x],argTypes:= #[22,22]}) (base:Nat) (v:Value) (l:List Int) (f:Int) (J:a.eval s=v) (t:bA w base v l) (g:Nat) (L:a.eval x=.slice (some ⟨g,0,none⟩) 1 1) (H:w.cell? ⟨g,0,none⟩=some (.int .i64 f)) (ad:l.length+1<=100000) (U:base<=w.heap.size)
  (h:∀v' w',bA w' base v' (l++[f]) ->w.grownBy w' v.ownBlock ->(v'.ownBlock=v.ownBlock∨∀k,v'.ownBlock=some k ->w.heap.size<=k) ->K (a.put o.dst v') w'):o.wp Tryz.prog a w K Q:=by
 obtain⟨i,d,p,z,q⟩:=dW Tryz.infoInt
 have n:∀j u,[Value.int .i64 f][j]? =some u ->w.cell? ((⟨g,0,none⟩:Addr).add j)=some u:=fun j u c=>by
  match j,c with
  |0,c=>cases c;exact H
  |j+1,c=>simp at c
 have A:∀u∈[Value.int .i64 f],u.oneCell'=true:=fun u y=>by
  simp only[dR,l8,ye] at y;subst y;rfl
 have S:l.length+1<=maxLen:=by unfold maxLen;omega
 obtain⟨v',w',r,E,F, -⟩:=run_append_own (P:=Tryz.prog) w base 22 o.type 3 i (.int .i64 0) 1 8 Tryz.underlying22 d p z q rfl a6 v l.length _ t ⟨g,0,none⟩ 1 1 [.int .i64 f] rfl n A S al U
 have T:v'.ownBlock=v.ownBlock∨∀k,v'.ownBlock=some k ->w.heap.size<=k:=by
  rcases t.2 with ⟨b,Y⟩ |⟨g',cap,O,b,aa,M,X,ab,R,Z⟩
  ·right
   have e:=run_append_nil (P:=Tryz.prog) w 22 o.type 3 i (.int .i64 0) Tryz.underlying22 d p ⟨g,0,none⟩ 1 1 [.int .i64 f] (by rw[z];rfl) n a6 a6 (by rw[q];decide);rw[b] at r;rw[r] at e;cases e;intro k m;cases m;exact ar _
  ·rw[b] at r;by_cases V:l.length+1<=cap
   ·left
    have e:=run_append_room (P:=Tryz.prog) w 22 o.type 3 i Tryz.underlying22 d g' l.length cap O M ⟨g,0,none⟩ 1 1 [.int .i64 f] (by rw[z];rfl) n A V (by rw[z,R];simp;omega);rw[r] at e;cases e;rw[b];rfl
   ·right
    have D:=t;rw[b] at D;have e:=run_append_grow (P:=Tryz.prog) w 22 o.type 3 i (.int .i64 0) Tryz.underlying22 d p ⟨g',0,none⟩ l.length cap (l.map (Value.int .i64)) (by rw[z];simp) (World.ownsRow.cells D rfl) ⟨g,0,none⟩ 1 1 [.int .i64 f] (by rw[z];rfl) n al al (OS al (by rw[q];omega));rw[r] at e;cases e;intro k m;cases m;exact ar _
 unfold Oper.wp execOp;simp only[I,resolve,invoke,builtin,KN,F2,BV,KV,gV,lx,J,L,r];refine h v' w' ?_ F T;rw[bA,dm,fg];exact E
theorem Tm {o:Oper} {a:Act} {K:Act ->World ->Prop} {Q:Exit ->Act ->World ->Prop} (s x:Operand)
  (e:o.op=.call {callee:=.builtin .append,args:= #[s,x],argTypes:= #[91,91]}) (base:Nat) (v:Value) (n:Nat) (xs:List Value) (u1 u2:Value) (f:a.eval s=v) (E:w.ownsRow base 58 2 v n xs) (g:Nat) (i:a.eval x=.slice (some ⟨g,0,none⟩) 1 1) (h0:w.cell? ⟨g,0,none⟩=some u1) (h1:w.cell? ⟨g,1,none⟩=some u2) (t:cP u1) (y:cP u2) (H:n+1<=100000) (F:base<=w.heap.size)
  (h:∀v' w',w'.ownsRow base 58 2 v' (n+1) (xs++[u1,u2]) ->w.grownBy w' v.ownBlock ->(v'.ownBlock=v.ownBlock∨∀k,v'.ownBlock=some k ->w.heap.size<=k) ->K (a.put o.dst v') w'):o.wp Tryz.prog a w K Q:=by
 obtain⟨l,d,z,A,D⟩:=dW Tryz.infoTable
 obtain⟨v',w',r,m,p,q⟩:=abn (P:=Tryz.prog) w base 91 o.type 58 l (.agg #[.slice none 0 0,.slice none 0 0]) 2 48 Tryz.underlying91 d z A D rfl a6 v n xs E ⟨g,0,none⟩ 1 1 [u1,u2] rfl (fun j u b=>by
  match j,b with
  |0,b=>cases b;exact h0
  |1,b=>cases b;exact h1
  |j+2,b=>simp at b) (fun u c=>by
  simp only[dR,l8,ye] at c;rcases c with rfl |rfl
  ·obtain⟨_,_,_,rfl⟩:=t;rfl
  ·obtain⟨_,_,_,rfl⟩:=y;rfl) (by unfold maxLen;omega) al F a6
 unfold Oper.wp execOp;simp only[e,resolve,invoke,builtin,KN,F2,BV,KV,gV,lx,f,i,r];exact h v' w' m p q
variable {rs:List Nat} {oi:Oper}
section
variable {P : Program} {ops : Array Oper} {Q : Exit -> Act -> World -> Prop} {md : Region.Mode} {S : Bool -> World -> Prop} {k : Nat}
def vt (P:Program) (md:Region.Mode) (ops:Array Oper) (Q:Exit ->Act ->World ->Prop) (S:Bool ->World ->Prop) (k:Nat):Nat ->Array Bool ->Act ->World ->Prop
 |0,l,a,w=>Region.ready md ops l=[]/\Q .normal a w
 |n+1,l,a,w=>(Region.ready md ops l=[] ->Q .normal a w)/\∀i∈Region.ready md ops l,wpOp P ops Q i (fun a' w'=>S ((l.setIfInBounds i true).getD k true) w'/\vt P md ops Q S k n (l.setIfInBounds i true) a' w') a w
theorem Z3:∀(n:Nat) (l:Array Bool) (a:Act) (w:World),vt P md ops Q S k n l a w ->wpAny P md ops Q n l a w
 |0,_,_,_,h=>h
 |n+1,_,_,_,h=>⟨h.1,fun i d=>wpOp_mono (fun b w' c=>Z3 n _ b w' c.2) (h.2 i d)⟩
theorem aby {l:Array Bool} (h:i∈Region.ready md ops l):l.getD i true=false:=(mem_ready.1 h).1
theorem Z2 {v:Value} (W:Bool ->Prop) (D:ops[i]? =some oi) (R:∀(j:Nat) (o:Oper) s b,ops[j]? =some o ->o.op≠.select s b)
  (Y:∀c a w,Q (.panic c) (a.put oi.dst v) w ->Q (.panic c) a w)
  (Z:∀(l:Array Bool) (j:Nat),i∈Region.ready md ops l ->j∈Region.ready md ops l ->j≠i ->W (l.getD k true) ->W ((l.setIfInBounds j true).getD k true)) (F:k≠i):
  ∀(n:Nat) (l:Array Bool) (a:Act) (w:World),
   (∀j g,ops[j]? =some g ->j≠i ->l.getD j true=false ->(∀e∈g.after,Region.binds md e=true ->e.on≠i) ->oi.apart ops g=true) ->
   i∈Region.ready md ops l ->YieldsIf P ops (fun u=>∃b,W b/\S b u) oi v a ->W (l.getD k true) ->S (l.getD k true) w ->
   vt P md ops Q S k n (l.setIfInBounds i true) (a.put oi.dst v) w ->vt P md ops Q S k (n+1) l a w:=by
 have M:∀l:Array Bool,(l.setIfInBounds i true).getD k true=l.getD k true:=fun l=>getD_set_ne true (Ne.symm F);intro n;induction n with
 |zero=>
  intro l a w _ r y t m H;refine⟨fun h=>(by rw[h] at r;cases r),fun j p=>?_⟩;by_cases d:j=i
  ·subst d;exact y.wpOp D ⟨_,t,m⟩ ⟨by rw[M];exact m,H⟩
  ·have:=ready_mono p d;rw[H.1] at this;cases this
 |succ n ih=>
  intro l a w L r y t m H;refine⟨fun h=>(by rw[h] at r;cases r),fun j p=>?_⟩;by_cases d:j=i
  ·subst d;exact y.wpOp D ⟨_,t,m⟩ ⟨by rw[M];exact m,H⟩
  ·have f:=H.2 j (ready_mono p d);obtain⟨K,g,J,aj⟩:=mem_ready.1 p
   have ab:∀e∈g.after,Region.binds md e=true ->e.on≠i:=fun e he hb ad=>by
    have f:=aj e he hb;have E:=aby r;rw[ad] at f;rcases cF i l.size with z |z
    ·simp[z] at E f;rw[E] at f;cases f
    ·simp[Array.getElem?_eq_none z] at f
   have X:=wpOp_putIf J (L j g J d K ab) (fun s b=>R i oi s b D) (fun s b=>R j g s b J) Y y f
   have aa:∀x q,ops[x]? =some q ->x≠i ->(l.setIfInBounds j true).getD x true=false ->(∀e∈q.after,Region.binds md e=true ->e.on≠i) ->oi.apart ops q=true:=fun x q hx ai I ae=>by
    refine L x q hx ai ?_ ae;by_cases U:j=x
    ·subst U;exact K
    ·rw[getD_set_ne true U] at I;exact I
   have af:=Z l j r p d t;have O:(l.setIfInBounds i true).setIfInBounds j true=(l.setIfInBounds j true).setIfInBounds i true:=Array.setIfInBounds_comm _ _ (Ne.symm d);refine wpOp_mono (fun V w' A=>?_) X
   have T:S ((l.setIfInBounds j true).getD k true) w':=by
    have:=A.2.1;rwa [O,getD_set_ne true (Ne.symm F)] at this
   refine⟨T,ih (l.setIfInBounds j true) V w' aa (ready_mono r (Ne.symm d)) A.1 af T ?_⟩;rw[<- O];exact A.2.2
theorem nk {v:Value} {l:Array Bool} {a:Act} (d:ops[i]? =some oi)
  (s:Region.noSelect ops=true) (o:Region.free md ops l i=true) (r:(Region.ready md ops l).contains i=true) (p:k≠i)
  (g:∀c a w,Q (.panic c) (a.put oi.dst v) w ->Q (.panic c) a w) (y:YieldsIf P ops (fun u=>∃b,S b u) oi v a) {b:Bool} (m:l.getD k true=b) (j:S b w)
  (h:vt P md ops Q S k n (l.setIfInBounds i true) (a.put oi.dst v) w):vt P md ops Q S k (n+1) l a w:=
 Z2 (fun _=>True) d (Region.noSelect_spec s) g (fun _ _ _ _ _ h=>h) p n l a w (Region.free_spec d o) (by simpa using r) (y.imp (fun ⟨e,f⟩=>⟨e,fun u ⟨b,_,q⟩=>f u ⟨b,q⟩⟩) id) trivial (by rw[m];exact j) h
theorem IW {ok:Oper} {v:Value} {l:Array Bool} {a:Act} (p:ops[i]? =some oi)
  (I:Region.noSelect ops=true) (D:Region.free md ops l i=true) (H:(Region.ready md ops l).contains i=true) (F:k≠i)
  (r:ops[k]? =some ok) (L:(ok.after.any fun e=>Region.binds md e&&e.on==i)=true)
  (y:∀c a w,Q (.panic c) (a.put oi.dst v) w ->Q (.panic c) a w) (M:YieldsIf P ops (S false) oi v a) (f:l.getD k true=false) (z:S false w)
  (h:vt P md ops Q S k n (l.setIfInBounds i true) (a.put oi.dst v) w):vt P md ops Q S k (n+1) l a w:=by
 refine Z2 (fun b=>b=false) p (Region.noSelect_spec I) y (fun l j O E T e=>?_) F n l a w (Region.free_spec p D) (by simpa using H) (M.imp (fun ⟨s,m⟩=>⟨s,fun u ⟨b,f,K⟩=>m u (by subst f;exact K)⟩) id) f (by rw[f];exact z) h;by_cases q:j=k
 ·subst q;exfalso
  obtain⟨_,U,J,R⟩:=mem_ready.1 E;rw[r] at J;cases J;obtain⟨e,A,m⟩:=Array.any_eq_true'.1 L;obtain⟨t,x⟩:=Bool.and_eq_true_iff.1 m;have d:=R e A t;have o:=aby O;rw[eq_of_beq x] at d;rcases cF i l.size with g |g
  ·simp[g] at o d;rw[o] at d;cases d
  ·simp[Array.getElem?_eq_none g] at d
 ·rw[getD_set_ne true q];exact e
def eG (P:Program) (md:Region.Mode) (ops:Array Oper) (Q:Exit ->Act ->World ->Prop) (S:Bool ->World ->Prop) (k n:Nat) (l:Array Bool) (a:Act) (w:World) (rs:List Nat):Prop:=
 ∀i∈rs,wpOp P ops Q i (fun a' w'=>S ((l.setIfInBounds i true).getD k true) w'/\vt P md ops Q S k n (l.setIfInBounds i true) a' w') a w
theorem eG.nil {l:Array Bool} {a:Act}:eG P md ops Q S k n l a w []:=fun _ h=>by cases h
theorem eG.cons {l:Array Bool} {a:Act} {o:Oper} {b:Bool} (g:ops[i]? =some o) (f:(l.setIfInBounds i true).getD k true=b)
  (h:∀K:Act ->World ->Prop,Go.Shut (∀a w,S b w ->(S b w ->vt P md ops Q S k n (l.setIfInBounds i true) a w) ->K a w) ->if Region.wanted o (yielded ops a.tmps)=true then Oper.wp P o a w K Q else K (a.put o.dst undef) w)
  (s:eG P md ops Q S k n l a w rs):eG P md ops Q S k n l a w (i::rs):=fun j c=>by
 rcases dR.1 c with rfl |c
 ·exact wpOp_step g (fun K e=>h K (fun a w d U=>e a w ⟨by rw[f];exact d,U d⟩))
 ·exact s j c
theorem pM {l:Array Bool} {a:Act} (r:Region.ready md ops l=rs) (e:rs≠[]) (h:eG P md ops Q S k n l a w rs):vt P md ops Q S k (n+1) l a w:=
 ⟨fun b=>absurd (r▸b) e,r▸h⟩
theorem K2 {l:Array Bool} {a:Act} (r:Region.ready md ops l=[]) (h:Q .normal a w):∀n,vt P md ops Q S k n l a w
 |0=>⟨r,h⟩
 |_+1=>⟨fun _=>h,by rw[r];simp⟩
theorem Tl {id:Nat} {a:Act} (k:Nat) (S:Bool ->World ->Prop) (m:P.follows .mixedOrders=true) (b:S false w.drew) (h:S false w.drew ->vt P .any ops Q S k ops.size (Array.replicate ops.size false) a w.drew):(Code.region id ops true).wp P Q a w:=
 wp_region_any m (Z3 _ _ _ _ (h b))
end
variable {U U':World}
structure o9 (U:World) (B:Nat) (u1 u2 fv tv:Value):Prop where
 tb:bs U B u1 u2
 nf:fv.ownBlock≠some B
 nt:tv.ownBlock≠some B
theorem o9.under {B:Nat} (h:o9 U B u1 u2 fv tv) (b:c8 U U'):o9 U' B u1 u2 fv tv:=⟨h.tb.aa b h.tb.lt,h.nf,h.nt⟩
theorem o9.pushF {B:Nat} {E:Value} (h:o9 U B u1 u2 fv tv) (g:U.grownBy U' fv.ownBlock) (n:E.ownBlock=fv.ownBlock∨∀k,E.ownBlock=some k ->U.heap.size<=k):o9 U' B u1 u2 E tv:=
 ⟨(g.block B h.tb.lt (fun e=>h.nf e.symm)).trans h.tb,fun e=>by
  rcases n with n |n
  ·exact h.nf (n▸e)
  ·have:=n B e;have:=h.tb.lt;omega,h.nt⟩
theorem o9.pushT {B:Nat} {d:Value} (h:o9 U B u1 u2 fv tv) (g:U.grownBy U' tv.ownBlock) (n:d.ownBlock=tv.ownBlock∨∀k,d.ownBlock=some k ->U.heap.size<=k):o9 U' B u1 u2 fv d:=
 ⟨(g.block B h.tb.lt (fun e=>h.nt e.symm)).trans h.tb,h.nf,fun e=>by
  rcases n with n |n
  ·exact h.nt (n▸e)
  ·have:=n B e;have:=h.tb.lt;omega⟩
theorem o9.off {B:Nat} (h:o9 U B u1 u2 fv tv) (b j:Nat) (u:Value) (e:B≠b):o9 (U.setCell ⟨b,j,none⟩ u) B u1 u2 fv tv:=⟨(iJ U ⟨b,j,none⟩ u B e).trans h.tb,h.nf,h.nt⟩
theorem o9.new {W V:World} {b:Nat} (h:mL W b x fv tv nM oC l Q P V) (u1 u2:Value):o9 (V.alloc (TC u1 u2)) V.heap.size u1 u2 nM oC:=
 ⟨bs.at rfl u1 u2,fun e=>by have:=(ru h.fo _ e).2;omega,fun e=>by have:=(h.own.lt _ e).2;omega⟩
def lO (b B:Nat) (fv tv u1 u2:Value) (c:Bool) (U:World):Prop:=(U.cell? ⟨B,0,none⟩=some u1/\U.cell? ⟨B,1,none⟩=some u2)/\(c=false ->U.cell? ⟨b,1,none⟩=some fv/\U.cell? ⟨b,2,none⟩=some tv)
theorem lO.of {W:World} {b B:Nat} (h:mL W b x fv tv nM oC l Q P U) (o:o9 U B u1 u2 nM oC) (c:Bool):lO b B fv tv u1 u2 c U:=⟨⟨o.tb.c0,o.tb.c1⟩,fun _=>h.box.cells.2⟩
theorem lO.late {b B:Nat} (o:o9 U B u1 u2 nM oC):lO b B fv tv u1 u2 true U:=⟨⟨o.tb.c0,o.tb.c1⟩,fun e=>by cases e⟩
theorem ab2 (a b c q:Option Addr) (ca cb cc cq:Nat) (V:List Vr) (L:List (List Int)) (R:List (List Fr)) (vars:List Int) (w:World) (h:gO w a b c V L R) (hN:vZ w b L) (hs:tK V L R) (hw:∀l∈R,fw l<=4200) (h0:aY V L R=0) (oT:bH L=0) (h1:1<=L.length) (cN:∀l∈L,l.length<=140737488355328) (hq:az w q vars) (eB:vars.length<=1000) (xD:∀U:World,gO U a b c V L R ->c6 69 #[.agg #[.slice a V.length ca,.slice b L.length cb,.slice c R.length cc]] U fun e w'=>e=.returned (.int .i64 (aY V L R))/\c8 U w'):
  c6 50 #[.agg #[.slice a V.length ca,.slice b L.length cb,.slice c R.length cc],.slice q vars.length cq] w fun e w'=>∃g d cd t' cI,e=.returned (.agg #[.slice (some ⟨g,0,none⟩) V.length V.length,.slice d ((iY L).filter fun v:Nat=>vars.contains (v:Int)).length cd,.slice t' ((iY L).filter fun v:Nat=>vars.contains (v:Int)).length cI])/\az w' (some ⟨g,0,none⟩) (iL (ah V))/\az w' d (iL ((iY L).filter fun v:Nat=>vars.contains (v:Int)))/\eC w' t' (((iY L).filter fun v:Nat=>vars.contains (v:Int)).map fun v=>(gU L v,gL V L R v))/\c8 w w'/\eV w.heap.size t' cI:=by
 have aQ:=gD h0;have h8:L.length<=8:=by rw[aQ.len];exact aQ.n8
 have a8:=hid (fun (U:World) (hU:c8 w U)=>alp b cb L U (h.aa hU).pars cN oT);have bI:=hid (fun (x:Option Addr) (cx:Nat) (U:World) (hx:fN U x (oJ L))=>aos x cx L U hx (vS oT) h1 h8);have eD:=hid (fun (U:World) (hU:c8 w U)=>Qr a b c ca cb cc L.length R.length V U (h.aa hU).vars hs.vars.1);have Zl:=hid (fun (v:Nat) (hv:v<V.length) (U:World) (hU:c8 w U)=>anI a b c ca cb cc v V L R U (h.aa hU) (hN.aa h.pars hU) hs hw h0 hv xD);have je:Hid (∀(x:Int) (U:World),c8 w U ->c6 53 #[.slice q vars.length cq,.int .i64 x] U fun e w'=>e=.returned (.bool (vars.contains x))/\c8 U w'):=fun x U hU=>I8 q cq vars x U (hq.aa hU) al;have vR:=(aw w.heap.size w).alloc (ar _) (NC (.slice a V.length ca) (.slice b L.length cb) (.slice c R.length cc));have E4:=vR.alloc vR.size (.cells #[.slice none 0 0,.slice none 0 0,.slice none 0 0] 93);have Xc:=cT.at (w:=w) rfl (.slice a V.length ca) (.slice b L.length cb) (.slice c R.length cc);have Rh:=Xc.aa ((aw _ _).alloc (ar _) (.cells #[.slice none 0 0,.slice none 0 0,.slice none 0 0] 93)) Xc.lt;have jb:bt ((w.alloc (NC (.slice a V.length ca) (.slice b L.length cb) (.slice c R.length cc))).alloc (.cells #[.slice none 0 0,.slice none 0 0,.slice none 0 0] 93)) (w.heap.size+1) (.slice none 0 0) (.slice none 0 0) (.slice none 0 0):=bt.at (w:=w.alloc (NC (.slice a V.length ca) (.slice b L.length cb) (.slice c R.length cc))) aE _ _ _;have n1:=Rh.cells.2.1
 obtain⟨F,EY⟩:∃F:Nat ->List Nat,∀k,((iY L).take k).filter (fun v:Nat=>vars.contains (v:Int))=F k:=⟨fun k=>((iY L).take k).filter (fun v:Nat=>vars.contains (v:Int)),fun _=>rfl⟩;obtain⟨TL,pU⟩:∃TL:Nat ->List Tb,∀k,(F k).map (fun v=>(gU L v,gL V L R v))=TL k:=⟨fun k=>(F k).map (fun v=>(gU L v,gL V L R v)),fun _=>rfl⟩;have GM:(iY L).length=L.length:=by rw[Qm];simp
 have rT:Hid (∀i,i<L.length ->∃v:Nat,v<V.length/\(∀(d1:Option Addr) (U:World),az U d1 (iL (iY L)) ->∃g ab,d1=some ⟨g,ab,none⟩/\g<U.heap.size/\U.cell? ⟨g,ab+i,none⟩=some (.int .i64 (v:Nat)))/\(vars.contains (v:Int)=true ->F (i+1)=F i++[v])/\(vars.contains (v:Int)=false ->F (i+1)=F i)):=fun i hi=>by
  have QZ:i<(iY L).length:=al
  have Ml:i<(iL (iY L)).length:=by rw[ba];exact QZ
  refine⟨(iY L)[i],?_,fun d1 U hU=>?_,fun h=>?_,fun h=>?_⟩
  ·rw[<- aQ.len];exact Ql (vS oT) h1 h8 (bB QZ)
  ·obtain⟨g,ab,e,hg,hc⟩:=hU i Ml;refine⟨g,ab,e,hg,?_⟩;rw[hc];simp[iL]
  ·rw[<- EY, <- EY,fL QZ,Ch,Cf (p:=fun v:Nat=>vars.contains (v:Int)) h];rfl
  ·rw[<- EY, <- EY,fL QZ,Ch,Cg (p:=fun v:Nat=>vars.contains (v:Int)) (by rw[h];decide)];simp
 have OB:Hid (F 0=[]/\TL 0=[]):=by show _/\_;rw[<- pU, <- EY];exact⟨rfl,rfl⟩
 have jK:Hid (∀k,(F k).length<=8):=fun k=>by rw[<- EY];exact aR (pJ ..) (by rw[eX];omega)
 have YJ:Hid (∀k,(TL k).length<=8):=fun k=>by rw[<- pU,dD];exact jK.o k
 have uK:Hid (∀(k v:Nat),F (k+1)=F k++[v] ->iL (F (k+1))=iL (F k)++[(v:Int)]/\TL (k+1)=TL k++[(gU L v,gL V L R v)]):=fun k v h=>by rw[<- pU, <- pU,h,fg,iL,fg];exact⟨rfl,rfl⟩
 have NV:Hid (∀k,F (k+1)=F k ->TL (k+1)=TL k):=fun k h=>by rw[<- pU, <- pU,h]
 have Oz:Hid (F L.length=(iY L).filter (fun v:Nat=>vars.contains (v:Int))):=by show _=_;rw[<- EY, <- GM,fD]
 have rQ:Hid (TL L.length=((iY L).filter (fun v:Nat=>vars.contains (v:Int))).map fun v=>(gU L v,gL V L R v)):=by show _=_;rw[<- pU,Oz.o]
 have bg:(TL L.length).length=(F L.length).length:=by rw[<- pU,dD]
 rw[<- Oz.o] at rQ⊢;rw[<- rQ.o];clear EY pU Oz rQ GM h hN hs hw hq xD vR Xc;go_enter Tryz.func50,Tryz.ntmps50;go_wp2_with fail
 generalize ((w.alloc (NC (.slice a V.length ca) (.slice b L.length cb) (.slice c R.length cc))).alloc (.cells #[.slice none 0 0,.slice none 0 0,.slice none 0 0] 93))=W0 at *;refine(a8.o W0 E4).af ?_;rintro e w1 ⟨G1,rfl,jm,an⟩;have ax:=E4.trans (an.af E4.size);have xB:=Rh.aa an Rh.lt;have ay:=jb.aa an jb.lt;have zO:=hid (bI.o _ L.length w1 jm);clear n1 Rh jb E4 an jm;go_wp2_with fail
 refine zO.o.af ?_;rintro e w2 ⟨d1,A4,G2,rfl,kq,av⟩;have aj:=ax.trans (av.af ax.size);have G7:=xB.aa av xB.lt;have ak:=ay.aa av ay.lt;obtain⟨n0,n1,n2⟩:=G7.cells;have gQ:=hid (eD.o w2 aj);clear ax xB ay av zO;go_wp2_with fail
 refine gQ.o.af ?_;rintro e m ⟨G,rfl,hG,aM,ai⟩;have cj:=aj.trans (ai.af aj.size);have Xb:=G7.aa ai G7.lt;have mF:=ak.aa ai ak.lt;have MN:=kq.aa ai;have br:=ak.lt;have bu:=ai.size;have ky:=(aw m.heap.size m).alloc (ar _) (.cells #[.slice (some ⟨G,0,none⟩) V.length V.length,.slice none 0 0,.slice none 0 0] 93);have fh:(m.alloc (.cells #[.slice (some ⟨G,0,none⟩) V.length V.length,.slice none 0 0,.slice none 0 0] 93)).heap.size=m.heap.size+1:=aE
 have eL:=hid (cj.trans (ky.af cj.size));have wA:=hid (Xb.aa ky Xb.lt);have iE:=hid (mF.alloc (.cells #[.slice (some ⟨G,0,none⟩) V.length V.length,.slice none 0 0,.slice none 0 0] 93));have Ip:=hid (MN.aa ky);have bo:=hid (aM.ints.aa ky);have G8:=aM.lt;have uQ:Hid (mL (m.alloc (.cells #[.slice (some ⟨G,0,none⟩) V.length V.length,.slice none 0 0,.slice none 0 0] 93)) m.heap.size (.slice (some ⟨G,0,none⟩) V.length V.length) (.slice none 0 0) (.slice none 0 0) (.slice none 0 0) (.slice none 0 0) (iL []) [] [] (m.alloc (.cells #[.slice (some ⟨G,0,none⟩) V.length V.length,.slice none 0 0,.slice none 0 0] 93))):=mL.start (bt.at (w:=m) rfl (.slice (some ⟨G,0,none⟩) V.length V.length) (.slice none 0 0) (.slice none 0 0));have nX:=hid ky
 have a7:Hid (∀U:World,(m.alloc (.cells #[.slice (some ⟨G,0,none⟩) V.length V.length,.slice none 0 0,.slice none 0 0] 93)).grownBy U (some m.heap.size) ->az U d1 (iL (iY L))):=fun U hU=>Jt Ip.o (fun g ab e ae e2=>by
  obtain⟨g',o',e',iA,_⟩:=MN 0 (by cases hl:iL (iY L) with |nil=>exact absurd hl ae |cons x l=>simp);rw[e] at e';cases e';cases e2;omega) hU
 have bm:Hid (∀U:World,(m.alloc (.cells #[.slice (some ⟨G,0,none⟩) V.length V.length,.slice none 0 0,.slice none 0 0] 93)).grownBy U (some m.heap.size) ->az U (some ⟨G,0,none⟩) (iL (ah V))):=fun U hU=>Jt bo.o (fun g ab e ae e2=>by
  cases e;cases e2;omega) hU
 clear aj cj G7 Xb ak mF MN kq ky aM ai n0 n1 n2 gQ eD a8 bI h0 oT aQ cN;go_wp2_with fail
 generalize (m.alloc (.cells #[.slice (some ⟨G,0,none⟩) V.length V.length,.slice none 0 0,.slice none 0 0] 93))=W4 at *;have ad:m.heap.size<W4.heap.size:=al
 go_loopw [32] (fun iv wr=>∃(i:Nat) (fv tv:Value) (Q:List (Value×Value)),i<=L.length/\iv=.int .i64 i/\Hid (mL W4 m.heap.size (.slice (some ⟨G,0,none⟩) V.length V.length) fv tv fv tv (iL (F i)) Q (TL i) wr)) (fun iv _=>L.length - (intOf iv).toNat)
 case atStart=>exact⟨0,_,_,_,aS _,rfl,by rw[OB.o.1,OB.o.2];exact uQ⟩
 case round=>
  obtain⟨i,fv,tv,Q,hi,rfl,H⟩:=hrel;have JH:=H.o.fr.size;have HB:Hid (c8 w wr):=JT eL.o H.o.fr al al;have DI:Hid (c8 m wr):=JT nX.o H.o.fr al al;have Ku:Hid (cT wr w.heap.size (.slice a V.length ca) (.slice b L.length cb) (.slice c R.length cc)):=(H.o.fr.block _ wA.o.lt (fun e=>by have:=mW e;omega)).trans wA.o;have mO:Hid (bt wr (w.heap.size+1) (.slice none 0 0) (.slice none 0 0) (.slice none 0 0)):=(H.o.fr.block _ iE.o.lt (fun e=>by have:=mW e;omega)).trans iE.o;by_cases bp:i<L.length
  ·obtain⟨v,hv,bl,aG,WX⟩:=rT.o i bp;obtain⟨g,ab,rfl,hg,hc⟩:=bl d1 wr (a7.o wr H.o.fr);have HX:=hid (je.o (v:Int) wr HB.o);have a1:=hid (Zl.o v hv);have kE:=hid (fun h=>uK.o i v (aG h));have qb:=hid WX;clear bl aG WX iE wA mO;generalize vars.contains (v:Int)=bv at *;go_wp2_with fail
   refine HX.o.af ?_;rintro e w5 ⟨rfl,My⟩;have zE:=hid (H.o.under My);have Ds:=hid (Ku.o.aa My Ku.o.lt);have eE:=hid (HB.o.trans (My.af HB.o.size));have bw:=My.size;have uN:Hid (∀Z,fv.ownBlock=some Z ->Z<wr.heap.size):=fun Z hZ=>(ru H.o.fo Z hZ).2;have Fw:Hid (∀Z,tv.ownBlock=some Z ->Z<wr.heap.size):=fun Z hZ=>(H.o.own.lt Z hZ).2;clear hc HX H Ku HB My DI;cases bv with
   |false=>
    replace qb:=hid (qb.o rfl);replace NV:=hid (NV.o i qb.o);go_wp2;go_roundw
    case rel=>exact⟨i+1,fv,tv,Q,al,bd,by rw[qb.o,NV.o];exact zE⟩
    case measure=>simp[intOf];omega
   |true=>
    obtain⟨n0,n1,n2⟩:=Ds.o.cells;have zL:=hid (a1.o w5 eE.o);replace kE:=hid (kE.o rfl);clear a1 qb eE Zl je NV uK;go_wp2_with fail
    refine zL.o.af ?_;rintro e w6 ⟨⟨u1,u2,rfl,Ay,CR⟩,bE⟩;have tM:=hid Ay.slices;have bx:=bE.size;have qW:Hid (∀Z,Z<wr.heap.size ->fV Z (gU L v,gL V L R v) (u1,u2)):=fun Z hZ=>CR Z al;have Ih:=hid (zE.o.under bE);have bb:=hid Ay;obtain⟨t,z,S,rfl⟩:=Ay.slices.1;obtain⟨u,P,A,rfl⟩:=Ay.slices.2;clear Ay CR zL n0 n1 n2 Ds zE;go_upto_region 9 with (fail)
    have uB:=(aw w6.heap.size w6).alloc (ar _) (TC (.slice t z S) (.slice u P A));have O:=hid (o9.new Ih.o (.slice t z S) (.slice u P A));have H:=hid (Ih.o.under uB);have n:=hid (bb.o.aa uB);(have ae:w6.heap.size≠m.heap.size:=al);clear uB Ih bb bE;generalize anu:w6.heap.size=IC at *;obtain⟨W8,WS⟩:∃W8,w6.alloc (TC (.slice t z S) (.slice u P A))=W8:=⟨_,rfl⟩;have bf:w6.alloc (.cells #[.slice t z S,.slice u P A] 58)=W8:=WS;rw[WS] at O H n;simp only[bf];clear WS bf anu;have jr:c8 W8 W8.drew:=(aw W8.heap.size W8).drew;replace O:=hid (O.o.under jr);replace H:=hid (H.o.under jr);replace n:=hid (n.o.aa jr);clear jr;obtain⟨D5,jq⟩:∃D5,W8.drew=D5:=⟨_,rfl⟩;rw[jq] at O H n;refine Tl 11 (lO m.heap.size IC fv tv (.slice t z S) (.slice u P A)) ao (by rw[jq];exact lO.of H.o O.o false) (fun f=>?_);rw[jq] at f⊢;clear jq;(try simp only[gE,aP]);refine nk (i:=0) (oi:=_) (v:=.pointer (some ⟨m.heap.size,1,none⟩)) (b:=false) rfl ao ao ao a6 (fun _ _ _ h=>h) (Or.inl ⟨by rfl,?_⟩) ao b5 ?_
    ·intro u' aO;go_simp
    (try simp only[gE,aP]);refine IW (i:=1) (oi:=_) (v:=fv) rfl ao ao ao a6 rfl ao (fun _ _ _ h=>h) (Or.inl ⟨by rfl,?_⟩) ao b5 ?_
    ·intro u' aO;(try simp only[gE]);obtain⟨⟨_,_⟩,Rg⟩:=aO;obtain⟨Rf,Re⟩:=Rg rfl;go_simp
    (try simp only[gE,aP]);refine nk (i:=2) (oi:=_) (v:=.int .i64 (v:Nat)) (b:=false) rfl ao ao ao a6 (fun _ _ _ h=>h) (Or.inl ⟨by rfl,?_⟩) ao b5 ?_
    ·intro u' aO;go_simp
    (try simp only[gE,aP]);refine nk (i:=5) (oi:=_) (v:=.pointer (some ⟨m.heap.size,2,none⟩)) (b:=false) rfl ao ao ao a6 (fun _ _ _ h=>h) (Or.inl ⟨by rfl,?_⟩) ao b5 ?_
    ·intro u' aO;go_simp
    (try simp only[gE,aP]);refine IW (i:=6) (oi:=_) (v:=tv) rfl ao ao ao a6 rfl ao (fun _ _ _ h=>h) (Or.inl ⟨by rfl,?_⟩) ao b5 ?_
    ·intro u' aO;(try simp only[gE]);obtain⟨⟨_,_⟩,Rg⟩:=aO;obtain⟨Rf,Re⟩:=Rg rfl;go_simp
    (try simp only[gE,aP]);refine nk (i:=7) (oi:=_) (v:=.agg #[.slice t z S,.slice u P A]) (b:=false) rfl ao ao ao a6 (fun _ _ _ h=>h) (Or.inl ⟨by rfl,?_⟩) ao b5 ?_
    ·intro u' aO;(try simp only[gE]);obtain⟨_,⟨WX,aG⟩,_⟩:=aO;go_simp
    (try simp only[gE,aP]);refine pM (rs:=[3,8]) ao aE (eG.cons (b:=false) rfl ao ?_ (eG.cons (b:=false) rfl ao ?_ (eG.nil)))
    ·intro o K;go_simp;have s:=(aw D5.heap.size D5).alloc (ar _) (.cells #[.int .i64 (v:Nat)] 3);have kJ:=hid (bh D5 3 (.int .i64 (v:Nat))).cell;replace H:=hid (H.o.under s);replace O:=hid (O.o.under s);replace n:=hid (n.o.aa s);clear f;refine K.o _ _ (lO.of H.o O.o false) (fun f=>?_);clear K o s;obtain⟨ga,xw⟩:∃ga,D5.heap.size=ga:=⟨_,rfl⟩;obtain⟨ua,nE⟩:∃ua,D5.alloc (.cells #[.int .i64 (v:Nat)] 3)=ua:=⟨_,rfl⟩;rw[xw,nE] at kJ;rw[nE] at H O n;simp only[nE] at f⊢;simp only[xw];clear nE xw;(try simp only[gE,aP]);refine pM (rs:=[4,8]) ao aE (eG.cons (b:=false) rfl ao ?_ (eG.cons (b:=false) rfl ao ?_ (eG.nil)))
     ·intro o K;rw[aA (by rfl)];refine Tn _ _ rfl W4.heap.size fv (iL (F i)) (v:Int) rfl H.o.fo ga rfl kJ.o (by rw[ba];have:=jK.o i;omega) H.o.fr.size ?_;intro E7 w9 tD X Y
      have FA:Hid (∀Z,E7.ownBlock=some Z ->fV Z (gU L v,gL V L R v) (.slice t z S,.slice u P A)):=fun Z hR=>by
       rcases Y with hn |hn
       ·exact qW.o Z (uN.o Z (by rw[<- hn];exact hR))
       ·exact n.o.lt (hn Z hR)
      replace n:=hid (n.o.keepR (fun r hr=>qW.o r (uN.o r hr)) X);replace O:=hid (O.o.pushF X Y);replace H:=hid (H.o.pushF ad tD X Y)
      obtain⟨T,D,E,rfl⟩:∃T D E,E7=Value.slice D T E:=by
       obtain⟨D,E,e⟩:=wO tD;exact⟨_,D,E,e⟩
      clear f;refine K.o _ _ (lO.of H.o O.o false) (fun f=>?_);clear K o tD X Y kJ;(try simp only[gE,aP]);refine nk (i:=10) (oi:=_) (v:=.pointer (some ⟨m.heap.size,1,none⟩)) (b:=false) rfl ao ao ao a6 (fun _ _ _ h=>h) (Or.inl ⟨by rfl,?_⟩) ao b5 ?_
      ·intro u' aO;go_simp
      (try simp only[gE,aP]);refine pM (rs:=[8]) ao aE (eG.cons (b:=false) rfl ao ?_ (eG.nil))
      ·intro o K;go_simp;have s:=(aw w9.heap.size w9).alloc (ar _) (TC (.slice t z S) (.slice u P A));have I:=hid (o9.new H.o (.slice t z S) (.slice u P A));replace H:=hid (H.o.under s);replace O:=hid (O.o.under s);replace n:=hid (n.o.aa s);clear f;refine K.o _ _ (lO.of H.o O.o false) (fun f=>?_);clear K o s;obtain⟨gt,oP⟩:∃gt,w9.heap.size=gt:=⟨_,rfl⟩;obtain⟨ut,pR⟩:∃ut,w9.alloc (TC (.slice t z S) (.slice u P A))=ut:=⟨_,rfl⟩;have Es:w9.alloc (.cells #[.slice t z S,.slice u P A] 58)=ut:=pR;rw[oP,pR] at I;rw[pR] at H O n;simp only[Es] at f⊢;simp only[oP];clear pR Es oP;(try simp only[gE,aP]);refine pM (rs:=[9]) ao aE (eG.cons (b:=false) rfl ao ?_ (eG.nil))
       ·intro o K;rw[aA (by rfl)];refine Tm _ _ rfl W4.heap.size tv (TL i).length (eI Q) (.slice t z S) (.slice u P A) rfl H.o.own.own gt rfl I.o.tb.c0 I.o.tb.c1 tM.o.1 tM.o.2 (by have:=YJ.o i;omega) H.o.fr.size ?_;intro c4 bQ dP dL gF;replace O:=hid (O.o.pushT dL gF);replace H:=hid (H.o.pushT ad n.o (fun Z hZ=>qW.o Z (Fw.o Z hZ)) FA.o (fun Z hZ=>qW.o Z al) dP dL gF);obtain⟨J,M,rfl⟩:=wO dP;clear f;refine K.o _ _ (lO.of H.o O.o false) (fun f=>?_);clear K o dP dL gF I n FA;have c1:=H.o.box.cells.2.1;have f1:=H.o.box.fz 1;refine pM (rs:=[11]) ao aE (eG.cons (b:=true) rfl ao ?_ (eG.nil))
        ·intro o K;go_simp;replace H:=hid (H.o.set1 ad (.slice D T E));replace O:=hid (O.o.off m.heap.size 1 (.slice D T E) ae);clear f;refine K.o _ _ (lO.late O.o) (fun f=>?_);clear K o c1 f1;(try simp only[gE,aP]);refine nk (i:=12) (oi:=_) (v:=.pointer (some ⟨m.heap.size,2,none⟩)) (b:=true) rfl ao ao ao a6 (fun _ _ _ h=>h) (Or.inl ⟨by rfl,?_⟩) ao b5 ?_
         ·intro u' aO;go_simp
         have c2:=H.o.box.cells.2.2;have f2:=H.o.box.fz 2;refine pM (rs:=[13]) ao aE (eG.cons (b:=true) rfl ao ?_ (eG.nil))
         ·intro o K;go_simp;replace H:=hid (H.o.set2 ad (.slice J ((TL i).length+1) M));replace O:=hid (O.o.off m.heap.size 2 (.slice J ((TL i).length+1) M) ae);clear f;refine K.o _ _ (lO.late O.o) (fun f=>?_);clear K o c2 f2;(try simp only[gE,aP]);refine K2 ao ?_ _;clear f O;generalize (((bQ.setCell ⟨m.heap.size,1,none⟩ (.slice D T E))).setCell ⟨m.heap.size,2,none⟩ (.slice J ((TL i).length+1) M))=vu at *;go_wp2;go_roundw
          case rel=>exact⟨i+1,_,_,_,al,bd,by rw[kE.o.1,kE.o.2];exact H⟩
          case measure=>simp[intOf];omega
     ·intro o K;go_simp;have s:=(aw ua.heap.size ua).alloc (ar _) (TC (.slice t z S) (.slice u P A));have I:=hid (o9.new H.o (.slice t z S) (.slice u P A));replace H:=hid (H.o.under s);replace O:=hid (O.o.under s);replace n:=hid (n.o.aa s);replace kJ:=hid (((s.cell (p:=⟨ga,0,none⟩) (World.block_lt_of_cell? _ _ kJ.o))).trans kJ.o);clear f;refine K.o _ _ (lO.of H.o O.o false) (fun f=>?_);clear K o s;obtain⟨gt,oP⟩:∃gt,ua.heap.size=gt:=⟨_,rfl⟩;obtain⟨ut,pR⟩:∃ut,ua.alloc (TC (.slice t z S) (.slice u P A))=ut:=⟨_,rfl⟩;have Es:ua.alloc (.cells #[.slice t z S,.slice u P A] 58)=ut:=pR;rw[oP,pR] at I;rw[pR] at H O n kJ;simp only[Es] at f⊢;simp only[oP];clear pR Es oP;(try simp only[gE,aP]);refine pM (rs:=[4]) ao aE (eG.cons (b:=false) rfl ao ?_ (eG.nil))
      ·intro o K;rw[aA (by rfl)];refine Tn _ _ rfl W4.heap.size fv (iL (F i)) (v:Int) rfl H.o.fo ga rfl kJ.o (by rw[ba];have:=jK.o i;omega) H.o.fr.size ?_;intro E7 w9 tD X Y
       have FA:Hid (∀Z,E7.ownBlock=some Z ->fV Z (gU L v,gL V L R v) (.slice t z S,.slice u P A)):=fun Z hR=>by
        rcases Y with hn |hn
        ·exact qW.o Z (uN.o Z (by rw[<- hn];exact hR))
        ·exact n.o.lt (hn Z hR)
       replace n:=hid (n.o.keepR (fun r hr=>qW.o r (uN.o r hr)) X);replace I:=hid (I.o.pushF X Y);replace O:=hid (O.o.pushF X Y);replace H:=hid (H.o.pushF ad tD X Y)
       obtain⟨T,D,E,rfl⟩:∃T D E,E7=Value.slice D T E:=by
        obtain⟨D,E,e⟩:=wO tD;exact⟨_,D,E,e⟩
       clear f;refine K.o _ _ (lO.of H.o O.o false) (fun f=>?_);clear K o tD X Y kJ;(try simp only[gE,aP]);refine nk (i:=10) (oi:=_) (v:=.pointer (some ⟨m.heap.size,1,none⟩)) (b:=false) rfl ao ao ao a6 (fun _ _ _ h=>h) (Or.inl ⟨by rfl,?_⟩) ao b5 ?_
       ·intro u' aO;go_simp
       (try simp only[gE,aP]);refine pM (rs:=[9]) ao aE (eG.cons (b:=false) rfl ao ?_ (eG.nil))
       ·intro o K;rw[aA (by rfl)];refine Tm _ _ rfl W4.heap.size tv (TL i).length (eI Q) (.slice t z S) (.slice u P A) rfl H.o.own.own gt rfl I.o.tb.c0 I.o.tb.c1 tM.o.1 tM.o.2 (by have:=YJ.o i;omega) H.o.fr.size ?_;intro c4 bQ dP dL gF;replace O:=hid (O.o.pushT dL gF);replace H:=hid (H.o.pushT ad n.o (fun Z hZ=>qW.o Z (Fw.o Z hZ)) FA.o (fun Z hZ=>qW.o Z al) dP dL gF);obtain⟨J,M,rfl⟩:=wO dP;clear f;refine K.o _ _ (lO.of H.o O.o false) (fun f=>?_);clear K o dP dL gF I n FA;have c1:=H.o.box.cells.2.1;have f1:=H.o.box.fz 1;refine pM (rs:=[11]) ao aE (eG.cons (b:=true) rfl ao ?_ (eG.nil))
        ·intro o K;go_simp;replace H:=hid (H.o.set1 ad (.slice D T E));replace O:=hid (O.o.off m.heap.size 1 (.slice D T E) ae);clear f;refine K.o _ _ (lO.late O.o) (fun f=>?_);clear K o c1 f1;(try simp only[gE,aP]);refine nk (i:=12) (oi:=_) (v:=.pointer (some ⟨m.heap.size,2,none⟩)) (b:=true) rfl ao ao ao a6 (fun _ _ _ h=>h) (Or.inl ⟨by rfl,?_⟩) ao b5 ?_
         ·intro u' aO;go_simp
         have c2:=H.o.box.cells.2.2;have f2:=H.o.box.fz 2;refine pM (rs:=[13]) ao aE (eG.cons (b:=true) rfl ao ?_ (eG.nil))
         ·intro o K;go_simp;replace H:=hid (H.o.set2 ad (.slice J ((TL i).length+1) M));replace O:=hid (O.o.off m.heap.size 2 (.slice J ((TL i).length+1) M) ae);clear f;refine K.o _ _ (lO.late O.o) (fun f=>?_);clear K o c2 f2;(try simp only[gE,aP]);refine K2 ao ?_ _;clear f O;generalize (((bQ.setCell ⟨m.heap.size,1,none⟩ (.slice D T E))).setCell ⟨m.heap.size,2,none⟩ (.slice J ((TL i).length+1) M))=vu at *;go_wp2;go_roundw
          case rel=>exact⟨i+1,_,_,_,al,bd,by rw[kE.o.1,kE.o.2];exact H⟩
          case measure=>simp[intOf];omega
    ·intro o K;go_simp;have s:=(aw D5.heap.size D5).alloc (ar _) (TC (.slice t z S) (.slice u P A));have I:=hid (o9.new H.o (.slice t z S) (.slice u P A));replace H:=hid (H.o.under s);replace O:=hid (O.o.under s);replace n:=hid (n.o.aa s);clear f;refine K.o _ _ (lO.of H.o O.o false) (fun f=>?_);clear K o s;obtain⟨gt,oP⟩:∃gt,D5.heap.size=gt:=⟨_,rfl⟩;obtain⟨ut,pR⟩:∃ut,D5.alloc (TC (.slice t z S) (.slice u P A))=ut:=⟨_,rfl⟩;have Es:D5.alloc (.cells #[.slice t z S,.slice u P A] 58)=ut:=pR;rw[oP,pR] at I;rw[pR] at H O n;simp only[Es] at f⊢;simp only[oP];clear pR Es oP;(try simp only[gE,aP]);refine pM (rs:=[3]) ao aE (eG.cons (b:=false) rfl ao ?_ (eG.nil))
     ·intro o K;go_simp;have s:=(aw ut.heap.size ut).alloc (ar _) (.cells #[.int .i64 (v:Nat)] 3);have kJ:=hid (bh ut 3 (.int .i64 (v:Nat))).cell;replace H:=hid (H.o.under s);replace O:=hid (O.o.under s);replace I:=hid (I.o.under s);replace n:=hid (n.o.aa s);clear f;refine K.o _ _ (lO.of H.o O.o false) (fun f=>?_);clear K o s;obtain⟨ga,xw⟩:∃ga,ut.heap.size=ga:=⟨_,rfl⟩;obtain⟨ua,nE⟩:∃ua,ut.alloc (.cells #[.int .i64 (v:Nat)] 3)=ua:=⟨_,rfl⟩;rw[xw,nE] at kJ;rw[nE] at H O n I;simp only[nE] at f⊢;simp only[xw];clear nE xw;(try simp only[gE,aP]);refine pM (rs:=[4]) ao aE (eG.cons (b:=false) rfl ao ?_ (eG.nil))
      ·intro o K;rw[aA (by rfl)];refine Tn _ _ rfl W4.heap.size fv (iL (F i)) (v:Int) rfl H.o.fo ga rfl kJ.o (by rw[ba];have:=jK.o i;omega) H.o.fr.size ?_;intro E7 w9 tD X Y
       have FA:Hid (∀Z,E7.ownBlock=some Z ->fV Z (gU L v,gL V L R v) (.slice t z S,.slice u P A)):=fun Z hR=>by
        rcases Y with hn |hn
        ·exact qW.o Z (uN.o Z (by rw[<- hn];exact hR))
        ·exact n.o.lt (hn Z hR)
       replace n:=hid (n.o.keepR (fun r hr=>qW.o r (uN.o r hr)) X);replace I:=hid (I.o.pushF X Y);replace O:=hid (O.o.pushF X Y);replace H:=hid (H.o.pushF ad tD X Y)
       obtain⟨T,D,E,rfl⟩:∃T D E,E7=Value.slice D T E:=by
        obtain⟨D,E,e⟩:=wO tD;exact⟨_,D,E,e⟩
       clear f;refine K.o _ _ (lO.of H.o O.o false) (fun f=>?_);clear K o tD X Y kJ;(try simp only[gE,aP]);refine nk (i:=10) (oi:=_) (v:=.pointer (some ⟨m.heap.size,1,none⟩)) (b:=false) rfl ao ao ao a6 (fun _ _ _ h=>h) (Or.inl ⟨by rfl,?_⟩) ao b5 ?_
       ·intro u' aO;go_simp
       (try simp only[gE,aP]);refine pM (rs:=[9]) ao aE (eG.cons (b:=false) rfl ao ?_ (eG.nil))
       ·intro o K;rw[aA (by rfl)];refine Tm _ _ rfl W4.heap.size tv (TL i).length (eI Q) (.slice t z S) (.slice u P A) rfl H.o.own.own gt rfl I.o.tb.c0 I.o.tb.c1 tM.o.1 tM.o.2 (by have:=YJ.o i;omega) H.o.fr.size ?_;intro c4 bQ dP dL gF;replace O:=hid (O.o.pushT dL gF);replace H:=hid (H.o.pushT ad n.o (fun Z hZ=>qW.o Z (Fw.o Z hZ)) FA.o (fun Z hZ=>qW.o Z al) dP dL gF);obtain⟨J,M,rfl⟩:=wO dP;clear f;refine K.o _ _ (lO.of H.o O.o false) (fun f=>?_);clear K o dP dL gF I n FA;have c1:=H.o.box.cells.2.1;have f1:=H.o.box.fz 1;refine pM (rs:=[11]) ao aE (eG.cons (b:=true) rfl ao ?_ (eG.nil))
        ·intro o K;go_simp;replace H:=hid (H.o.set1 ad (.slice D T E));replace O:=hid (O.o.off m.heap.size 1 (.slice D T E) ae);clear f;refine K.o _ _ (lO.late O.o) (fun f=>?_);clear K o c1 f1;(try simp only[gE,aP]);refine nk (i:=12) (oi:=_) (v:=.pointer (some ⟨m.heap.size,2,none⟩)) (b:=true) rfl ao ao ao a6 (fun _ _ _ h=>h) (Or.inl ⟨by rfl,?_⟩) ao b5 ?_
         ·intro u' aO;go_simp
         have c2:=H.o.box.cells.2.2;have f2:=H.o.box.fz 2;refine pM (rs:=[13]) ao aE (eG.cons (b:=true) rfl ao ?_ (eG.nil))
         ·intro o K;go_simp;replace H:=hid (H.o.set2 ad (.slice J ((TL i).length+1) M));replace O:=hid (O.o.off m.heap.size 2 (.slice J ((TL i).length+1) M) ae);clear f;refine K.o _ _ (lO.late O.o) (fun f=>?_);clear K o c2 f2;(try simp only[gE,aP]);refine K2 ao ?_ _;clear f O;generalize (((bQ.setCell ⟨m.heap.size,1,none⟩ (.slice D T E))).setCell ⟨m.heap.size,2,none⟩ (.slice J ((TL i).length+1) M))=vu at *;go_wp2;go_roundw
          case rel=>exact⟨i+1,_,_,_,al,bd,by rw[kE.o.1,kE.o.2];exact H⟩
          case measure=>simp[intOf];omega
  ·obtain rfl:i=L.length:=al
   obtain⟨d,cd,rfl,bk⟩:=H.o.fo.ints;obtain⟨J,M,rfl,AB⟩:=H.o.own.row;obtain⟨x0,t,u⟩:=H.o.box.cells;obtain⟨r0,r1,r2⟩:=mO.o.cells;have Cn:=mO.o.fz 0;have Lr:=mO.o.fz 1;have Lq:=mO.o.fz 2;have e1:(iL (F L.length)).length=(F L.length).length:=ba _;rw[e1] at H t;rw[bg] at H u;have zA:=hid (mO.o.put (.slice (some ⟨G,0,none⟩) V.length V.length) (.slice d (F L.length).length cd) (.slice J (F L.length).length M));have sS:=hid (bL HB.o (show w.heap.size<=w.heap.size+1 by omega) (.slice (some ⟨G,0,none⟩) V.length V.length) (.slice d (F L.length).length cd) (.slice J (F L.length).length M))
   have fC:Value.ownBlock (.slice J (F L.length).length M)≠some (w.heap.size+1):=fun e=>by
    have:=(H.o.own.lt _ e).1;omega
   have xA:=((H.o.own.off (g:=w.heap.size+1) (j:=0) (.slice (some ⟨G,0,none⟩) V.length V.length) (H.o.far _ al) fC).off (g:=w.heap.size+1) (j:=1) (.slice d (F L.length).length cd) (H.o.far _ al) fC).off (g:=w.heap.size+1) (j:=2) (.slice J (F L.length).length M) (H.o.far _ al) fC;obtain⟨TH,TE,e2,yz⟩:=xA.row;rw[bg] at e2;injection e2 with e3 e4 e5;subst e3 e5;clear e4;have Hx:=hid yz
   have nU:∀g ab,d=some ⟨g,ab,none⟩ ->iL (F L.length)≠[] ->g≠w.heap.size+1:=fun g ab e _ e2=>by
    subst e;have:=(ru H.o.fo g rfl).1;omega
   have xZ:=hid (((bk.off (g:=w.heap.size+1) (j:=0) (y:=.slice (some ⟨G,0,none⟩) V.length V.length) nU).off (g:=w.heap.size+1) (j:=1) (y:=.slice d (F L.length).length cd) nU).off (g:=w.heap.size+1) (j:=2) (y:=.slice J (F L.length).length M) nU)
   have wy:∀g ab,(some ⟨G,0,none⟩:Option Addr)=some ⟨g,ab,none⟩ ->iL (ah V)≠[] ->g≠w.heap.size+1:=fun g ab e _ e2=>by
    cases e;omega
   have Ou:=hid ((((bm.o wr H.o.fr).off (g:=w.heap.size+1) (j:=0) (y:=.slice (some ⟨G,0,none⟩) V.length V.length) wy).off (g:=w.heap.size+1) (j:=1) (y:=.slice d (F L.length).length cd) wy).off (g:=w.heap.size+1) (j:=2) (y:=.slice J (F L.length).length M) wy);have Ic:=hid ((Qf H.o.own.own).up (show w.heap.size<=W4.heap.size by omega));clear xA yz AB bk wy nU fC H HB DI Ku mO a7 rT Zl je uK NV;go_wp2;refine bD (zA.o.result1 rfl _ rfl) rfl ?_;exact⟨G,d,cd,J,M,rfl,Ou.o,xZ.o,Hx.o,sS.o,Ic.o⟩
theorem ajC (a b c q:Option Addr) (ca cb cc f:Nat) (V:List Vr) (L:List (List Int)) (R:List (List Fr)) (vars:List Int) (w:World) (h:gO w a b c V L R) (k:vZ w b L) (s:tK V L R) (n:∀l∈R,fw l<=4200) (h0:aY V L R=0) (T:bH L=0) (h1:1<=L.length) (i:∀l∈L,l.length<=140737488355328) (m:az w q vars) (j:vars.length<=1000) (x:∀U:World,gO U a b c V L R ->c6 69 #[.agg #[.slice a V.length ca,.slice b L.length cb,.slice c R.length cc]] U fun e w'=>e=.returned (.int .i64 (aY V L R))/\c8 U w'):
  c6 50 #[.agg #[.slice a V.length ca,.slice b L.length cb,.slice c R.length cc],.slice q vars.length f] w fun e w'=>∃g d cd t I,e=.returned (.agg #[.slice (some ⟨g,0,none⟩) V.length V.length,.slice d ((iY L).filter fun v:Nat=>vars.contains (v:Int)).length cd,.slice t ((iY L).filter fun v:Nat=>vars.contains (v:Int)).length I])/\az w' (some ⟨g,0,none⟩) (iL (ah V))/\az w' d (iL ((iY L).filter fun v:Nat=>vars.contains (v:Int)))/\eC w' t (((iY L).filter fun v:Nat=>vars.contains (v:Int)).map fun v=>(gU L v,gL V L R v))/\c8 w w':=
 (ab2 a b c q ca cb cc f V L R vars w h k s n h0 T h1 i m j x).af fun _ _ ⟨g,d,cd,t,I,e,o,p,r,u,_⟩=>⟨g,d,cd,t,I,e,o,p,r,u⟩
open Go.Sort
theorem ah3 {B:Nat} (d:Option Addr) (n cd:Nat) (l:List Int) (w:World) (h:bA w B (.slice d n cd) l) (m:B<=w.heap.size) (v:l.length<=100000):
  c6 71 #[.slice d n cd] w fun e w'=>e=.returned (.tuple #[])/\n=l.length/\az w' d (l.mergeSort fun x y=>decide (x<=y))/\Below B w w':=by
 rcases h.cases with ⟨e,rfl⟩ |⟨g,cap,e,t,a,A,D,c⟩
 ·cases e;refine(Tryz.slices_Sort_int_none none 0 w).af ?_;rintro e r ⟨rfl,rfl⟩;exact⟨rfl,rfl,fun k p=>absurd p aE,aw _ _⟩
 ·cases e;refine(Tryz.slices_Sort_int g 0 cd l w c a al).af ?_;have u:(l.mergeSort fun x y=>decide (x<=y)).length=l.length:=O6 _;generalize (l.mergeSort fun x y=>decide (x<=y))=s at *;rintro e r ⟨rfl,q,o,rfl⟩;have z:s.toArray.size=l.toArray.size:=by simp;exact u
  have E:Holds (Value.int .i64) (grow (putRow (Value.int .i64) (Sort.ahead w q) g 0 s.toArray) o) g 0 s.toArray:=fun j b=>by
   obtain⟨f,i⟩:=holds_putRow (Value.int .i64) (Sort.ahead w q) g 0 _ s.toArray c z j b;(have K:g<(putRow (Value.int .i64) (Sort.ahead w q) g 0 s.toArray).heap.size:=by rw[size_putRow];exact a);refine⟨(cell?_grow _ _ _ K).trans f,?_⟩;rw[frozen?_grow _ _ _ K];exact i
  have M:g<(grow (putRow (Value.int .i64) (Sort.ahead w q) g 0 s.toArray) o).heap.size:=aU a (OU (w:=w) (g:=g) (n:=q) (os:=o) s.toArray).size;exact⟨rfl,rfl,EB E M (fun j b=>⟨by simpa using b,aE⟩),Yb s.toArray (aw _ _) m t⟩
theorem ah2 (d:∀x∈l,0<=x/\x<n) (j:l.Nodup):Up (l.mergeSort fun x y=>decide (x<=y)) n:=by
 have s:(l.mergeSort fun x y=>decide (x<=y)).Pairwise (fun x y=>decide (x<=y)=true):=List.pairwise_mergeSort (fun a b c=>by simp;omega) (fun a b=>by simp;omega) _;have p:=Tc l fun x y=>decide (x<=y);have e:(l.mergeSort fun x y=>decide (x<=y)).Nodup:=p.nodup_iff.2 j;refine il.2 ⟨fun x f=>d x (p.mem_iff.1 f),(s.and e).imp fun {a b} h=>?_⟩;have g:=tW h.1;have i:=h.2;omega
def vU (q:List Int) (l:List (Nat×Nat)):List Int:=q++(zF l).map (·.1)
def ze (q:List Int) (l:List (Nat×Nat)):List Int:=(vU q l).mergeSort fun x y=>decide (x<=y)
theorem afP {q:List Int} {l:List (Nat×Nat)} (v:Nat):v∈ag (ze q l)↔v∈ag q∨v∈l.map (·.1):=by
 have c:=Tc (vU q l) fun x y=>decide (x<=y)
 have m:v∈ag (ze q l)↔∃x∈vU q l,x.toNat=v:=by
  rw[ze,ag,bc];exact⟨fun ⟨x,h,e⟩=>⟨x,c.mem_iff.1 h,e⟩,fun ⟨x,h,e⟩=>⟨x,c.mem_iff.2 h,e⟩⟩
 rw[m];constructor
 ·rintro⟨x,a,rfl⟩;rcases dh.1 a with a |a
  ·exact .inl (bc.2 ⟨x,a,rfl⟩)
  ·obtain⟨p,d,rfl⟩:=bc.1 a;obtain⟨r,b,rfl⟩:=bc.1 d;exact .inr (bc.2 ⟨r,b,aE⟩)
 ·rintro(h |h)
  ·obtain⟨x,a,e⟩:=bc.1 h;exact⟨x,dh.2 (.inl a),e⟩
  ·obtain⟨r,b,rfl⟩:=bc.1 h;exact⟨(r.1:Int),dh.2 (.inr (bc.2 ⟨_,bc.2 ⟨r,b,rfl⟩,rfl⟩)),aE⟩
theorem ap6 {q:List Int} {l:List (Nat×Nat)} (i:Up q n) (g:lV S n l) (j:∀v∈ag q,¬v∈l.map (·.1)):Up (ze q l) n:=by
 refine ah2 (fun x c=>?_) ?_
 ·rcases dh.1 c with c |c
  ·exact Gd i x c
  ·obtain⟨p,f,rfl⟩:=bc.1 c;obtain⟨r,d,rfl⟩:=bc.1 f;have:=g.lt r d;show 0<=(r.1:Int)/\(r.1:Int)<n;omega
 ·refine IL.2 ⟨?_,?_,fun x c y k e=>?_⟩
  ·exact(il.1 i).2.imp fun h=>al
  ·rw[zF,D7];refine(IK.2 ?_);exact(IK.1 g.nd).imp fun {a b} h e=>h (by have m:(a.1:Int)=(b.1:Int):=e;omega)
  ·subst e;obtain⟨p,f,rfl⟩:=bc.1 k;obtain⟨r,d,rfl⟩:=bc.1 f;exact j r.1 (bc.2 ⟨_,c,aE⟩) (bc.2 ⟨r,d,rfl⟩)
theorem lV.len {l:List (Nat×Nat)} (h:lV S n l):l.length<=n:=by
 have a:=(LN h.nd (n:=n) fun v c=>by
  obtain⟨p,b,rfl⟩:=bc.1 c;exact h.lt p b).length_eq
 have d:((List.range n).filter fun v=>(l.map (·.1)).contains v).length<=n:=aR (pJ ..) aE;rw[dD] at a;omega
theorem aqh (b d:Option Addr) (cb cd:Nat) (L:List (List Int)) (A:List Int) (w:World) (h:fN w b L) (n:∀l∈L,l.length<=140737488355328) (i:az w d A) (k:bH L=0) (u:Up A L.length) (Y:A.length<=1000):
  c6 72 #[.slice b L.length cb,.slice d A.length cd] w fun e w'=>∃d cd,e=.returned (.tuple #[.slice d (im (iC (aL L) (ag A) L.length)).length cd,.int .i64 0])/\az w' d (im (iC (aL L) (ag A) L.length))/\c8 w w':=
 (anT b d cb cd L A w h n i al).af fun e w' m=>by
  rcases m with ⟨⟨c,_⟩ |⟨_,a,_⟩ |⟨_,_,d,cd,f,g⟩,j⟩
  ·exact absurd k c
  ·rw[aaq u] at a;cases a
  ·exact⟨d,cd,f,g,j⟩
theorem XG (S:List Nat) (p:Nat×Nat):∀(l:List (Nat×Nat)) (P:List Tb),kY S (l++[p]) P=(kY S l P).map (ie S p.1 p.2)
 |[],_=>rfl
 |x::l,P=>by rw[fM,kY,kY,XG S p l]
theorem Vg (p:Nat×Nat):∀(l:List (Nat×Nat)) (f:List Nat),fT f (l++[p])=(fT f l).filter fun u=>!(u==p.1)
 |[],_=>rfl
 |x::l,f=>by rw[fM,fT,fT,Vg p l]
theorem adr (f:List Nat) (v:Nat):bC (iL f) (v:Int)=iL (f.filter fun u=>!(u==v)):=by
 rw[bC,iL,O9];congr 1
 refine List.filter_congr fun x _=>?_;show (!((x:Int)==(v:Int)))=!(x==v);congr 1
 rw[td,sU,sU];omega
def pX (ws:List Nat) (l:List (Nat×Nat)) (i:Nat):List Int:=iL (fT ws (l.take i))
def oX (V:List Vr) (L:List (List Int)) (R:List (List Fr)) (ws:List Nat) (l:List (Nat×Nat)) (i:Nat):List Tb:=kY (ah V) (l.take i) (gT V L R ws)
theorem anW {l:List (Nat×Nat)} (h:i<l.length):pX ws l (i+1)=bC (pX ws l i) (l[i].1:Int):=by
 rw[pX,pX,fL h,Vg,adr]
theorem anU {l:List (Nat×Nat)} (h:i<l.length):oX V L R ws l (i+1)=(oX V L R ws l i).map (ie (ah V) l[i].1 l[i].2):=by
 rw[oX,oX,fL h,XG]
theorem aeP (h0:aY V L R=0) (t:∀v∈ws,v<V.length) (c:mS L (·∈ws)) {l:List (Nat×Nat)} (h:lV (ah V) V.length l) (i:Nat):fH (ah V) V.length (oX V L R ws l i) (fp R ws) 1:=
 fH.fixes (mq h0) (aeN h0 t c) fun p a=>h.val p (O3 a)
theorem anV (V:List Vr) (L:List (List Int)) (R:List (List Fr)) (ws:List Nat) (l:List (Nat×Nat)) (i:Nat):(oX V L R ws l i).length=ws.length:=by rw[oX,M6,gT,dD]
theorem anX (ws:List Nat) (l:List (Nat×Nat)) (i:Nat):(pX ws l i).length<=ws.length:=by rw[pX,ba];exact(QB _ _).length_le
theorem Gl (h:ws.Nodup) (l:∀v∈ws,v<n):ws.length<=n:=by
 have a:=(LN h l).length_eq;have b:((List.range n).filter fun v=>ws.contains v).length<=n:=aR (pJ ..) aE;omega
theorem aok (h0:aY V L R=0) (D:lW V R) (n:ws.Nodup) (j:∀v∈ws,v<V.length) (m:mS L (·∈ws)) {l:List (Nat×Nat)} (f:lV (ah V) V.length l) (h:i<l.length) (s b t:Option Addr) (c cb ct:Nat) (w:World) (p:az w s (iL (ah V))) (k:az w b (pX ws l i)) (P:eC w t (oX V L R ws l i)):
  c6 52 #[.agg #[.slice s V.length c,.slice b (pX ws l i).length cb,.slice t (oX V L R ws l i).length ct],.agg #[.int .i64 (l[i].1:Nat),.int .i64 (l[i].2:Nat)]] w fun e w'=>∃d cd g I,e=.returned (.agg #[.slice s V.length c,.slice d (pX ws l (i+1)).length cd,.slice g (oX V L R ws l (i+1)).length I])/\az w' d (pX ws l (i+1))/\eC w' g (oX V L R ws l (i+1))/\eV w.heap.size g I/\c8 w w':=by
 have Q:=gD h0;have a:(ah V).length=V.length:=ix V;have z:=Gl n j;have y:=Q.n8;have u:=anX ws l i;have x:=anV V L R ws l i;have r:=aeP h0 j m f i;have o:=D.pool h0 n j (vs:=[]) List.nodup_nil (fun v q=>by cases q);have:=ajP s b t c cb ct (ah V) (pX ws l i) (oX V L R ws l i) (fp R ws) 1 l[i].1 l[i].2 w Q.fine p k P (by rw[a];exact r) al al o (by rw[a];exact f.lt _ (bB h)) (f.val _ (bB h));rw[a] at this;rw[anW h,anU h,dD];exact this
theorem akt (h0:aY V L R=0) (z:lW V R) (n:ws.Nodup) (h:∀v∈ws,v<V.length) (d:mS L (·∈ws)) {l:List (Nat×Nat)} (a:lV (ah V) V.length l) (M:∀p∈l,p.1∈ws) {Q:List Int} (m:Up Q V.length) (o:∀v∈ag Q,v∈ws/\¬v∈l.map (·.1)) (s b t q:Option Addr) (j cb ct i:Nat) (w:World) (F:az w s (iL (ah V))) (k:az w b (pX ws l l.length)) (P:eC w t (oX V L R ws l l.length)) (A:az w q Q):
  c6 55 #[.agg #[.slice s V.length j,.slice b (pX ws l l.length).length cb,.slice t (oX V L R ws l l.length).length ct],.slice q Q.length i,.bool false] w fun e w'=>∃x y,e=.returned (.agg #[x,y])/\di w' x y (dF V L R Q l)/\c8 w w':=by
 have g:=gD h0;have f:=mq h0;have c:(ah V).length=V.length:=ix V;have S:=Gl n h;have K:=g.n8;have I:=LR (l:=l) n;have E:∀v∈fT ws l,v<V.length:=fun v H=>h v (Aw.1 H).1;have u:pX ws l l.length=iL (fT ws l):=by rw[pX,fD]
 have r:oX V L R ws l l.length=kY (ah V) l (gT V L R ws):=by rw[oX,fD]
 have D:=aeP h0 h d a l.length;rw[r] at D P⊢;rw[u] at k⊢;have J:=Gl I E;have O:(kY (ah V) l (gT V L R ws)).length=ws.length:=by rw[M6,gT,dD]
 have:=ab7 s b t q j cb ct i (ah V) (fT ws l) Q (kY (ah V) l (gT V L R ws)) _ (fp R ws) 1 false w g.fine F k P A (by have:=m.length;omega) I (by rw[c];exact E) (by rw[c];exact(PI.net h0 h d).fixes f a.nd a.val) (NN.fixes f a.val (PI.net h0 h d).ok (NN.net h0 h)) (by rw[c];exact D) al (z.pool h0 n h I E);rw[c,ahb h0 f n h d a M m o] at this;rw[ba];exact this
theorem adB (a b c q f:Option Addr) (ca cb cc cq cf:Nat) (V:List Vr) (L:List (List Int)) (R:List (List Fr)) (Q:List Int) (l:List (Nat×Nat)) (w:World) (h:gO w a b c V L R) (hN:vZ w b L) (hs:tK V L R) (hw:∀l∈R,fw l<=4200) (h0:aY V L R=0) (hD:lW V R) (hq:az w q Q) (yG:Up Q V.length) (hF:jf w f (zF l)) (hl:lV (ah V) V.length l) (hd:∀v∈ag Q,¬v∈l.map (·.1)) (xD:∀U:World,gO U a b c V L R ->c6 69 #[.agg #[.slice a V.length ca,.slice b L.length cb,.slice c R.length cc]] U fun e w'=>e=.returned (.int .i64 (aY V L R))/\c8 U w'):
  c6 36 #[.agg #[.slice a V.length ca,.slice b L.length cb,.slice c R.length cc],.slice q Q.length cq,.slice f l.length cf] w fun e w'=>∃x y,e=.returned (.agg #[x,y])/\di w' x y (dF V L R Q l)/\c8 w w':=by
 have D:=gD h0;have h8:=D.n8;have T:=Qo h0;have ai:=vS T
 have Y:1<=L.length:=by
  have:=D.fine.one;rw[ba,ix] at this;rw[D.len];exact this
 have uz:L.length<=8:=by rw[D.len];exact h8
 have cN:∀x∈L,x.length<=140737488355328:=fun x hx=>by
  obtain⟨i,j,rfl⟩:=ij hx;have:=(D.up i j).length;omega
 have eB:=yG.length;have ku:=hl.len;have WH:=ap6 yG hl hd;have AY:(ze Q l).length=(vU Q l).length:=O6 _;have bx:(vU Q l).length=Q.length+l.length:=by rw[vU,dm,dD,tY]
 have hA:∀v∈ag (ze Q l),v<L.length:=fun v M=>by rw[D.len];exact WH.aa v M
 obtain⟨ws,O⟩:∃ws,Af L (ag (ze Q l))=ws:=⟨_,rfl⟩;have Vw:ws.Nodup:=by rw[<- O];exact agG ai Y uz _
 have ak:∀v∈ws,v<V.length:=fun v M=>by rw[<- D.len];rw[<- O] at M;exact agH ai Y uz M
 have aj:mS L (·∈ws):=by rw[<- O];exact agI T Y uz hA
 have bg:∀p∈l,p.1∈ws:=fun p hp=>by
  rw[<- O];exact Z0 T Y uz hA ((afP _).2 (.inr (bc.2 ⟨p,hp,rfl⟩)))
 have Vv:∀v∈ag Q,v∈ws/\¬v∈l.map (·.1):=fun v M=>⟨by
  rw[<- O];exact Z0 T Y uz hA ((afP _).2 (.inl M)),hd v M⟩
 have BI:=hid (fun (U:World) (r:c8 w U)=>PB q cq Q U (hq.aa r) al);have aq:Hid (∀(d:Option Addr) (n cd B:Nat) (U:World),bA U B (.slice d n cd) (vU Q l) ->B<=U.heap.size ->c6 71 #[.slice d n cd] U fun e w'=>e=.returned (.tuple #[])/\n=(vU Q l).length/\az w' d (ze Q l)/\Below B U w'):=fun d n cd B U I h2=>ah3 d n cd (vU Q l) U I h2 al;obtain⟨J,QF⟩:∃J,im (iC (aL L) (ag (ze Q l)) L.length)=J:=⟨_,rfl⟩;have i6:J.length<=8:=by rw[<- QF,im,ba,gi];exact aR (pJ ..) aE
 have DM:Hid (∀(d:Option Addr) (cd:Nat) (U:World),c8 w U ->az U d (ze Q l) ->c6 72 #[.slice b L.length cb,.slice d (vU Q l).length cd] U fun e w'=>∃d cd,e=.returned (.tuple #[.slice d J.length cd,.int .i64 0])/\az w' d J/\c8 U w'):=fun d cd U r j=>by
  have:=aqh b d cb cd L (ze Q l) U (h.aa r).pars cN j T (by rw[D.len];exact WH) al;rwa [QF,AY] at this
 have qU:Hid (∀(d:Option Addr) (cd:Nat) (U:World),c8 w U ->az U d J ->c6 50 #[.agg #[.slice a V.length ca,.slice b L.length cb,.slice c R.length cc],.slice d J.length cd] U fun e w'=>∃g d cd K cI,e=.returned (.agg #[.slice (some ⟨g,0,none⟩) V.length V.length,.slice d (pX ws l 0).length cd,.slice K (oX V L R ws l 0).length cI])/\az w' (some ⟨g,0,none⟩) (iL (ah V))/\az w' d (pX ws l 0)/\eC w' K (oX V L R ws l 0)/\c8 U w'):=fun d cd U r j=>by
  have:=ajC a b c d ca cb cc cd V L R J U (h.aa r) (hN.aa h.pars r) hs hw h0 T Y cN j al xD;have e:(iY L).filter (fun v:Nat=>J.contains (v:Int))=ws:=by rw[<- O,Af,QF]
  rw[e] at this;have e1:pX ws l 0=iL ws:=rfl;have e2:oX V L R ws l 0=ws.map fun v=>(gU L v,gL V L R v):=rfl;rw[e1,e2,ba,dD];exact this
 have rV:=hid (fun (i:Nat) (j:i<l.length) (s b ae:Option Addr) (cs cb ct:Nat) (U:World)=>aok (L:=L) h0 hD Vw ak aj hl j s b ae cs cb ct U);have Kt:=hid (fun (s b ae:Option Addr) (cs cb ct:Nat) (U:World) (r:c8 w U) I h2 h3=>akt h0 hD Vw ak aj hl bg yG Vv s b ae q cs cb ct cq U I h2 h3 (hq.aa r))
 have HF:Hid (∀i (j:i<l.length) (U:World),c8 w U ->∃g o,f=some ⟨g,o,none⟩/\g<U.heap.size/\U.cell? ⟨g,o+i*2,none⟩=some (.int .i64 (l[i].1:Nat))/\U.cell? ⟨g,o+i*2+1,none⟩=some (.int .i64 (l[i].2:Nat))):=fun i j U r=>by
  have hz:i<(zF l).length:=by rw[tY];exact j
  obtain⟨g,o,e,hg,h0,I⟩:=(hF.aa r) i hz;have e1:(zF l)[i]=((l[i].1:Int),(l[i].2:Int)):=by simp[zF]
  rw[e1] at h0 I;exact⟨g,o,e,hg,h0,I⟩
 obtain⟨A,JR⟩:∃A:Nat ->List Int,∀k,Q++(l.take k).map (fun p=>(p.1:Int))=A k:=⟨fun k=>Q++(l.take k).map (fun p=>(p.1:Int)),fun _=>rfl⟩;have uV:Hid (A 0=Q):=by show _=_;rw[<- JR];simp
 have an:Hid (∀k (hk:k<l.length),A (k+1)=A k++[((l[k].1:Nat):Int)]):=fun k hk=>by rw[<- JR, <- JR,fL hk,fg,sX];rfl
 have ZI:Hid (A l.length=vU Q l):=by show _=_;rw[<- JR,fD,vU,zF,D7];rfl
 have tS:Hid (∀k,(A k).length<=16):=fun k=>by
  rw[<- JR,dm,dD,eX];omega
 have qd:=hid (cT.at (w:=w) rfl (.slice a V.length ca) (.slice b L.length cb) (.slice c R.length cc));clear JR h hN hs hw h0 hD hq yG hF hl hd xD D T ai cN WH AY bx hA O Vw ak aj bg Vv QF Y;generalize pX ws l=F at *;generalize oX V L R ws l=P at *;generalize dF V L R Q l=TT at *
 have Z:Hid (c8 w ((w.alloc (NC (.slice a V.length ca) (.slice b L.length cb) (.slice c R.length cc))).alloc (TC (.slice none 0 0) (.slice none 0 0)))):=by
  have I:=(aw w.heap.size w).alloc (ar _) (NC (.slice a V.length ca) (.slice b L.length cb) (.slice c R.length cc));exact I.alloc I.size _
 have nV:Hid (cT ((w.alloc (NC (.slice a V.length ca) (.slice b L.length cb) (.slice c R.length cc))).alloc (TC (.slice none 0 0) (.slice none 0 0))) w.heap.size (.slice a V.length ca) (.slice b L.length cb) (.slice c R.length cc)):=qd.o.aa ((aw _ _).alloc (ar _) (TC (.slice none 0 0) (.slice none 0 0))) qd.o.lt;have pq:Hid (bs ((w.alloc (NC (.slice a V.length ca) (.slice b L.length cb) (.slice c R.length cc))).alloc (TC (.slice none 0 0) (.slice none 0 0))) (w.heap.size+1) (.slice none 0 0) (.slice none 0 0)):=bs.at (w:=w.alloc (NC (.slice a V.length ca) (.slice b L.length cb) (.slice c R.length cc))) aE _ _;clear qd;go_enter Tryz.func36,Tryz.ntmps36;go_wp2_with fail
 generalize ((w.alloc (NC (.slice a V.length ca) (.slice b L.length cb) (.slice c R.length cc))).alloc (TC (.slice none 0 0) (.slice none 0 0)))=W0 at *;refine(BI.o W0 Z.o).af ?_;rintro e w1 ⟨av,rfl,bb,aN⟩;have bN:=pq.o.lt;have ay:=hid bb;have dN:=hid aN;clear bb aN BI;go_wp2_with fail
 go_loopw [7,19] (fun av iv wr=>∃i:Nat,i<=l.length/\iv=.int .i64 i/\Hid (bA wr W0.heap.size av (A i))/\Hid (c8 W0 wr)) (fun _ iv _=>l.length - (intOf iv).toNat)
 case atStart=>exact⟨0,aS _,rfl,by rw[uV.o];exact ay,dN⟩
 case round=>
  obtain⟨i,j,rfl,fO,S⟩:=hrel;clear ay dN;have H:=hid (Z.o.trans (S.o.af Z.o.size));obtain⟨d,cd,rfl⟩:=wO fO.o;by_cases a6:i<l.length
  ·obtain⟨g,o,rfl,hg,k0,k1⟩:=HF.o i a6 wr H.o;have bu:=hid (an.o i a6);generalize l[i].1=v at *;generalize l[i].2=z at *;have u:=(aw wr.heap.size wr).alloc (ar _) (.cells #[.int .i64 (v:Nat),.int .i64 (z:Nat)] 66);(have A2:(wr.alloc (.cells #[.int .i64 (v:Nat),.int .i64 (z:Nat)] 66)).cell? ⟨wr.heap.size,0,none⟩=some (.int .i64 (v:Nat)):=by rw[bZ _ _ 0 _ _ (0,0) (jg wr _)];rfl);(have bf:(wr.alloc (.cells #[.int .i64 (v:Nat),.int .i64 (z:Nat)] 66)).heap.size=wr.heap.size+1:=aE);have a1:=(aw _ (wr.alloc (.cells #[.int .i64 (v:Nat),.int .i64 (z:Nat)] 66))).alloc (ar _) (.cells #[.int .i64 (v:Nat)] 3)
   have bl:Hid (((wr.alloc (.cells #[.int .i64 (v:Nat),.int .i64 (z:Nat)] 66)).alloc (.cells #[.int .i64 (v:Nat)] 3)).cell? ⟨wr.heap.size+1,0,none⟩=some (.int .i64 (v:Nat))):=by
    have:=(bh (wr.alloc (.cells #[.int .i64 (v:Nat),.int .i64 (z:Nat)] 66)) 3 (.int .i64 (v:Nat))).cell;rwa [bf] at this
   have jo:=u.trans (a1.af u.size);have ax:=hid (Jk fO.o (Dg.aa jo));have KF:=hid (S.o.trans (jo.af S.o.size));have bE:=tS.o i;have jx:Hid (W0.heap.size<=((wr.alloc (.cells #[.int .i64 (v:Nat),.int .i64 (z:Nat)] 66)).alloc (.cells #[.int .i64 (v:Nat)] 3)).heap.size):=KF.o.size;clear u a1 jo bf fO S H;go_wp2_with (at_builtin;refine agP rfl _ _ rfl W0.heap.size (.slice d (A i).length cd) (A i) (v:Int) rfl ax.o (wr.heap.size+1) rfl bl.o al jx.o ?_;intro bw w9 tD jn oN;have br:=hid tD;have kK:=hid (KF.o.grown jn jx.o (fun k e=>(ru ax.o k e).1));obtain⟨n9,d9,c9,rfl⟩:∃n d c,bw=Value.slice d n c:=(wO tD).elim fun d h=>h.elim fun c e=>⟨_,d,c,e⟩;clear tD jn oN)
   go_roundw
   case rel=>exact⟨i+1,al,bd,by rw[bu.o];exact br,kK⟩
   case measure=>simp[intOf];omega
  ·obtain rfl:i=l.length:=al
   rw[ZI.o] at fO;(have e1:(A l.length).length=(vU Q l).length:=by rw[ZI.o]);rw[e1];clear e1 ZI an tS uV;have kE:=hid (aq.o d _ cd W0.heap.size wr fO.o S.o.size);clear fO H aq;go_wp2_with fail
   refine kE.o.af ?_;rintro e w2 ⟨rfl, -,kq,aO⟩;have Ro:=S.o.trans aO;have a7:=hid (Z.o.trans (Ro.af Z.o.size));have fQ:=hid (nV.o.aa Ro nV.o.lt);have fK:=hid (pq.o.aa Ro pq.o.lt);have mN:=hid (DM.o d cd w2 a7.o kq);have n1:=fQ.o.cells.2.1;clear kq aO Ro S kE DM nV pq Z;go_wp2_with fail
   refine mN.o.af ?_;rintro e w3 ⟨d3,Hm,rfl,uj,ab⟩;have df:=hid (a7.o.trans (ab.af a7.o.size));have Dt:=hid (fQ.o.aa ab fQ.o.lt);have jy:=hid (fK.o.aa ab fK.o.lt);have mM:=hid (qU.o d3 Hm w3 df.o uj);clear n1;obtain⟨n0,n1,n2⟩:=Dt.o.cells;clear uj ab mN qU fQ fK a7;go_wp2_with fail
   refine mM.o.af ?_;rintro e m ⟨G,d4,rL,t4,Ni,rfl,aG,Q1,yA,ad⟩;have ky:=ad.alloc ad.size (.cells #[.slice (some ⟨G,0,none⟩) V.length V.length,.slice d4 (F 0).length rL,.slice t4 (P 0).length Ni] 93);have E3:=(aw m.heap.size m).alloc (ar _) (.cells #[.slice (some ⟨G,0,none⟩) V.length V.length,.slice d4 (F 0).length rL,.slice t4 (P 0).length Ni] 93);have eE:=hid (df.o.trans (ky.af df.o.size));have uL:=hid (jy.o.aa ky jy.o.lt);have Kr:Hid (bt (m.alloc (.cells #[.slice (some ⟨G,0,none⟩) V.length V.length,.slice d4 (F 0).length rL,.slice t4 (P 0).length Ni] 93)) m.heap.size (.slice (some ⟨G,0,none⟩) V.length V.length) (.slice d4 (F 0).length rL) (.slice t4 (P 0).length Ni)):=bt.at (w:=m) rfl _ _ _;have zL:=hid (aG.aa E3);have Io:=hid (Q1.aa E3);have Ki:=hid (yA.aa E3);have bK:w.heap.size+1<m.heap.size:=(jy.o.aa ad jy.o.lt).lt;clear aG Q1 yA ad ky E3 mM df Dt jy n0 n1 n2;go_wp2_with fail
   generalize (m.alloc (.cells #[.slice (some ⟨G,0,none⟩) V.length V.length,.slice d4 (F 0).length rL,.slice t4 (P 0).length Ni] 93))=W5 at *;go_loopw [43] (fun iv wr=>∃(i:Nat) (b' K:Option Addr) (fG cI:Nat),i<=l.length/\iv=.int .i64 i/\Hid (bt wr m.heap.size (.slice (some ⟨G,0,none⟩) V.length V.length) (.slice b' (F i).length fG) (.slice K (P i).length cI))/\Hid (az wr (some ⟨G,0,none⟩) (iL (ah V)))/\Hid (az wr b' (F i))/\Hid (eC wr K (P i))/\Hid (bs wr (w.heap.size+1) (.slice none 0 0) (.slice none 0 0))/\Hid (c8 w wr)) (fun iv _=>l.length - (intOf iv).toNat)
   case atStart=>exact⟨0,_,_,_,_,aS _,rfl,Kr,zL,Io,Ki,uL,eE⟩
   case round=>
    obtain⟨i,b',K,fG,cI,j,rfl,uM,HG,HI,HT,HR,H⟩:=hrel;clear Kr zL Io Ki uL eE;rename World=>W6
    obtain⟨p0,p1,p2⟩:=uM.o.cells;by_cases bk:i<l.length
    ·obtain⟨g,o,rfl,hg,k0,k1⟩:=HF.o i bk W6 H.o;have ao:=hid (rV.o i bk);generalize l[i].1=v at *;generalize l[i].2=z at *;have u:=(aw W6.heap.size W6).alloc (ar _) (.cells #[.int .i64 (v:Nat),.int .i64 (z:Nat)] 66);(have A2:(W6.alloc (.cells #[.int .i64 (v:Nat),.int .i64 (z:Nat)] 66)).cell? ⟨W6.heap.size,0,none⟩=some (.int .i64 (v:Nat)):=by rw[bZ _ _ 0 _ _ (0,0) (jg W6 _)];rfl);(have Db:(W6.alloc (.cells #[.int .i64 (v:Nat),.int .i64 (z:Nat)] 66)).cell? ⟨W6.heap.size,1,none⟩=some (.int .i64 (z:Nat)):=by rw[bZ _ _ 1 _ _ (0,0) (jg W6 _)];rfl);have Sx:=hid (uM.o.aa u uM.o.lt);have FM:=hid (HG.o.aa u);have rS:=hid (HR.o.aa u HR.o.lt);have dN:=hid (H.o.trans (u.af H.o.size));have HX:=hid (ao.o (some ⟨G,0,none⟩) b' K V.length fG cI _ FM.o (HI.o.aa u) (HT.o.aa u));clear p0 p1 p2 uM HG HI HT HR H ao u;obtain⟨p0,p1,p2⟩:=Sx.o.cells;go_wp2_with fail
     refine HX.o.af ?_;rintro e w7 ⟨d7,uC,t7,y8,rfl,uh,vF,a8,E⟩;have t:=Sx.o.aa E Sx.o.lt;have X:=rS.o.aa E rS.o.lt;have nL:=dN.o.trans (E.af dN.o.size);have aM:=FM.o.aa E;have bI:=Sx.o.lt;clear p0 p1 p2 A2 Db k0 k1;obtain⟨p0,p1,p2⟩:=t.cells;have Ct:=t.fz 0;have Cs:=t.fz 1;have Cr:=t.fz 2;have iF:=hid (t.put (.slice (some ⟨G,0,none⟩) V.length V.length) (.slice d7 (F (i+1)).length uC) (.slice t7 (P (i+1)).length y8));have bm:=hid (aM.putP t (slv _ _ _) (slv _ _ _) (slv _ _ _) (.slice (some ⟨G,0,none⟩) V.length V.length) (.slice d7 (F (i+1)).length uC) (.slice t7 (P (i+1)).length y8));have bo:=hid (uh.putP t (slv _ _ _) (slv _ _ _) (slv _ _ _) (.slice (some ⟨G,0,none⟩) V.length V.length) (.slice d7 (F (i+1)).length uC) (.slice t7 (P (i+1)).length y8));have bp:=hid (vF.putP t (slv _ _ _) (slv _ _ _) (slv _ _ _) (fun g' o' e=>by have:=a8.2 g' o' e;omega) (slv (some ⟨G,0,none⟩) V.length V.length) (slv d7 (F (i+1)).length uC) (.slice t7 (P (i+1)).length y8));have N3:=hid (((X.off m.heap.size 0 (.slice (some ⟨G,0,none⟩) V.length V.length) al).off m.heap.size 1 (.slice d7 (F (i+1)).length uC) al).off m.heap.size 2 (.slice t7 (P (i+1)).length y8) al);have KF:=hid (bL nL (show w.heap.size<=m.heap.size by omega) (.slice (some ⟨G,0,none⟩) V.length V.length) (.slice d7 (F (i+1)).length uC) (.slice t7 (P (i+1)).length y8));clear uh vF a8 E t X nL aM HX;go_wp2;go_roundw
     case rel=>exact⟨i+1,_,_,_,_,al,bd,iF,bm,bo,bp,N3,KF⟩
     case measure=>simp[intOf];omega
    ·obtain rfl:i=l.length:=al
     have YZ:=hid (Kt.o (some ⟨G,0,none⟩) b' K V.length fG cI W6 H.o HG.o HI.o HT.o);go_wp2_with fail
     refine YZ.o.af ?_;rintro e w7 ⟨x,y,rfl,QG,E⟩;obtain⟨xs,xn,xc,rfl⟩:=QG.slices.1;obtain⟨ys,yn,yc,rfl⟩:=QG.slices.2;have X:=HR.o.aa E HR.o.lt;have nL:=H.o.trans (E.af H.o.size);obtain⟨t0,t1,f0,f1⟩:=X.facts;have mP:=hid (X.put (.slice xs xn xc) (.slice ys yn yc));have Hv:=hid (QG.putT X (slv _ _ _) (slv _ _ _) (slv xs xn xc) (.slice ys yn yc));have kK:=hid (nN (g:=w.heap.size+1) nL al (.slice xs xn xc) (.slice ys yn yc));clear QG E X nL p0 p1 p2;go_wp2;refine bD (mP.o.result1 rfl _ rfl) rfl ?_;exact⟨_,_,rfl,Hv.o,kK.o⟩
def lN (A:List Nat) (l:List (Nat×Nat)):Bool:=l.all fun p=>A.getD p.1 0==p.2
theorem ajm (d f:Option Addr) (cd K:Nat) (A:List Nat) (l:List (Nat×Nat)) (w:World) (u:az w d (iL A)) (F:jf w f (zF l)) (z:∀p∈l,p.1<A.length) (X:l.length<=1000):
  c6 60 #[.slice d A.length cd,.slice f l.length K] w (da w (.bool (lN A l))):=by
 have E:Hid (∀i (k:i<l.length),∃g o,f=some ⟨g,o,none⟩/\w.cell? ⟨g,o+i*2,none⟩=some (.int .i64 (l[i].1:Nat))/\w.cell? ⟨g,o+i*2+1,none⟩=some (.int .i64 (l[i].2:Nat))/\l[i].1<A.length/\∃g' o',d=some ⟨g',o',none⟩/\w.cell? ⟨g',o'+l[i].1,none⟩=some (.int .i64 (A.getD l[i].1 0:Nat))):=fun i k=>by
  have P:i<(zF l).length:=by rw[tY];exact k
  obtain⟨g,o,e,V,r,s⟩:=F i P;have M:(zF l)[i]=((l[i].1:Int),(l[i].2:Int)):=by simp[zF]
  rw[M] at r s;have t:=z _ (bB k);obtain⟨g',o',L,iA,c⟩:=u l[i].1 (by rw[ba];exact t);refine⟨g,o,e,r,s,t,g',o',L,?_⟩;rw[c];simp[iL,List.getD_eq_getElem?_getD,t]
 obtain⟨b,n⟩:∃b,lN A l=b:=⟨_,rfl⟩
 have Y:Hid ((∀j (a:j<l.length),A.getD l[j].1 0=l[j].2) ->b=true):=fun h=>by
  rw[<- n,lN,gW];intro p O;obtain⟨j,a,rfl⟩:=ij O;exact sU.2 (h j a)
 have J:Hid (∀j (a:j<l.length),A.getD l[j].1 0≠l[j].2 ->b=false):=fun j a h=>by
  rw[<- n,lN,IV];exact⟨l[j],bB a,by simpa using h⟩
 rw[n];clear u F z n;go_enter Tryz.func60,Tryz.ntmps60;go_wp2_with fail
 go_loopw [5] (fun iv wr=>∃i m:Nat,i<=l.length/\iv=.int .i64 i/\Hid (∀j (a:j<l.length),j< i ->A.getD l[j].1 0=l[j].2)/\wr=w.drewN m) (fun iv _=>l.length - (intOf iv).toNat)
 case atStart=>exact⟨0,0,aS _,rfl,(fun j _ a=>absurd a al),rfl⟩
 case round=>
  obtain⟨i,m,k,rfl,Z,rfl⟩:=hrel;by_cases D:i<l.length
  ·obtain⟨g,o,rfl,S,T,hv,g',o',rfl,U⟩:=E.o i D;have Q:=hid (J.o i D)
   have R:Hid (A.getD l[i].1 0=l[i].2 ->∀j (a:j<l.length),j<i+1 ->A.getD l[j].1 0=l[j].2):=fun e j a sF=>by
    rcases cF j i with c |c
    ·exact Z.o j a c
    ·obtain rfl:j=i:=al
     exact e
   generalize A.getD l[i].1 0=x at *;generalize l[i].1=v at *;generalize l[i].2=y at *;by_cases q:x=y
   ·have I:=hid (R.o q);subst q;go_wp2_with (go_quiet (fail))
    go_roundw
    case rel=>exact⟨i+1,_,al,bd,I,rfl⟩
    case measure=>simp[intOf];omega
   ·have H:=hid (Q.o q);(have aa:((x:Int)==(y:Int))=false:=by rw[BU];omega);go_wp2_with (go_quiet (fail))
    go_ret;exact⟨by rw[H.o];rfl,by first |exact below_drewN (aw _ _) _ |exact below_drewN (below_drewN (aw _ _) _) _⟩
  ·obtain rfl:i=l.length:=al
   have H:=hid (Y.o fun j a=>Z.o j a a);go_wp2;go_ret;exact⟨by rw[H.o];rfl,below_drewN (aw _ _) _⟩
theorem Ud (a b c d:Option Addr) (ca cb cc cd:Nat) (V:List Vr) (L:List (List Int)) (R:List (List Fr)) (F:List (Int×Int)) (w:World) (h:gO w a b c V L R) (J:tK V L R) (hF:jf w d F) (hn:F.length<=1000):
  c6 37 #[.agg #[.slice a V.length ca,.slice b L.length cb,.slice c R.length cc],.slice d F.length cd] w (da w (.int .i64 (bY V L R F))):=by
 have S:=(aw w.heap.size w).alloc (ar _) (NC (.slice a V.length ca) (.slice b L.length cb) (.slice c R.length cc));have X:=hid (cT.at (w:=w) rfl (.slice a V.length ca) (.slice b L.length cb) (.slice c R.length cc));have eQ:=hid (ai1 a b c ca cb cc V L R _ (h.aa S) J);have K:=hid S;have sL:=hid h.vars;have HF:=hid hF;have EN:V.length<=5000:=J.vars.1;have YD:Hid (∀v (q:v<V.length),V[v].2.length<=5000):=fun v q=>J.vars.2 _ (bB q) |>.2.1;obtain⟨y,A⟩:∃y,bY V L R F=y:=⟨_,rfl⟩;have fR:Hid (aY V L R≠0 ->aY V L R=y):=fun e=>by rw[<- A,bY,aB e]
 have eP:Hid (aY V L R=0 ->∀i,i<F.length ->(∀j,j< i ->iT (ah V) V.length F j=0) ->∀k,iT (ah V) V.length F i=k ->k≠0 ->k=y):=fun e i s T k u ao=>by rw[<- A,bY,aA e,Da T (by rw[u];exact ao) s,u]
 have gA:Hid (aY V L R=0 ->(∀j,j<F.length ->iT (ah V) V.length F j=0) ->0=y):=fun e T=>by rw[<- A,bY,aA e,xH T]
 have ZH:Hid (∀i (s:i<F.length),(∀j (f:j<F.length),j< i ->F[j].1≠F[i].1) ->((F.take i).any fun p=>p.1==F[i].1)=false):=fun i s hh=>KZ.2 fun p hp=>by
  obtain⟨j,f,rfl⟩:=ij hp;rw[eX] at f;rw[Ce];simpa using hh j al al
 have ai:Hid (∀i j (s:i<F.length) (f:j<F.length),j< i ->F[j].1=F[i].1 ->((F.take i).any fun p=>p.1==F[i].1)=true):=fun i j s f t e=>tX.2 ⟨F[j],by
  have:j<(F.take i).length:=by rw[eX];omega
  have l:=bB this;rwa [Ce] at l,by simpa using e⟩
 rw[A];clear h J hF S A;go_enter Tryz.func37,Tryz.ntmps37;go_wp2_with fail
 refine eQ.o.af ?_;rintro e w1 ⟨rfl,ab⟩;have P:=hid (K.o.trans (ab.af K.o.size));have uP:=hid (X.o.aa ab X.o.lt);clear ab eQ X K;by_cases x:aY V L R=0
 ·rw[x];have nV:=hid x;clear x;go_wp2_with fail
  go_loopw [6] (fun iv wr=>∃i:Nat,i<=F.length/\iv=.int .i64 i/\Hid (∀j,j< i ->iT (ah V) V.length F j=0)/\Hid (cT wr w.heap.size (.slice a V.length ca) (.slice b L.length cb) (.slice c R.length cc))/\Hid (c8 w wr)) (fun iv _=>F.length - (intOf iv).toNat)
  case atStart=>exact⟨0,aS _,rfl,(fun j f=>absurd f al),uP,P⟩
  case round=>
   obtain⟨i,s,rfl,Z,HN,H⟩:=hrel;rename World=>W0
   clear uP P;by_cases t:i<F.length
   ·obtain⟨g,ae,rfl,hg,E,h1⟩:=HF.o i t;have k0:=(H.o.cell (p:=⟨g,_,none⟩) hg).trans E;have k1:=(H.o.cell (p:=⟨g,_,none⟩) hg).trans h1;have M:=hid (eP.o nV.o i t Z.o);have zO:Hid (¬(0<=F[i].1/\F[i].1<(V.length:Int)) ->iT (ah V) V.length F i=11):=XL t;have FN:Hid (0<=F[i].1/\F[i].1<(V.length:Int) ->¬(0<=F[i].2/\F[i].2<(sz (ah V) F[i].1.toNat:Int)) ->iT (ah V) V.length F i=12):=XM t;have OA:Hid (0<=F[i].1/\F[i].1<(V.length:Int) ->(0<=F[i].2/\F[i].2<(sz (ah V) F[i].1.toNat:Int)) ->((F.take i).any fun p=>p.1==F[i].1)=true ->iT (ah V) V.length F i=7):=XN t;have pC:Hid (0<=F[i].1/\F[i].1<(V.length:Int) ->(0<=F[i].2/\F[i].2<(sz (ah V) F[i].1.toNat:Int)) ->((F.take i).any fun p=>p.1==F[i].1)=false ->iT (ah V) V.length F i=0):=ae8 t;have nT:Hid (iT (ah V) V.length F i=0 ->∀j,j<i+1 ->iT (ah V) V.length F j=0):=fun e=>Gb Z.o e;have an:=hid (ZH.o i t);have ak:=hid (fun j=>ai.o i j t);generalize iT (ah V) V.length F i=fe at *;generalize ((F.take i).any fun p=>p.1==F[i].1)=fq at *;generalize F[i].1=n at *;generalize F[i].2=o at *;have nc:=HN.o.cells.1;clear E h1;by_cases q:0<=n/\n<(V.length:Int)
    focus
     obtain⟨v,rfl⟩:∃v:Nat,n=v:=⟨n.toNat,al⟩;(have wZ:v<V.length:=al);obtain⟨gv,ov,bv,cv,rfl,AL,aq,oK,_,_⟩:=sL.o v wZ;have uf:sz (ah V) v=V[v].2.length:=Lk wZ;have av:=YD.o v wZ;rw[nh,uf] at FN OA pC;have kv:=(H.o.cell (p:=⟨gv,_,none⟩) AL).trans oK;generalize V[v].2.length=Y at *;have O:=hid q;clear aq oK q uf;by_cases D:0<=o/\o<(Y:Int)
     ·obtain⟨z,rfl⟩:∃z:Nat,o=z:=⟨o.toNat,al⟩;(have aE:z<Y:=al);have Hu:=hid D;clear D;go_wp2_with (go_quiet (fail))
      have aj:Hid (∀k (u:k<F.length),W0.cell? ⟨g,ae+k*2,none⟩=some (.int .i64 F[k].1)):=fun k u=>by
       obtain⟨g',o',e,iA,E,_⟩:=HF.o k u;cases e;exact(H.o.cell (p:=⟨g,_,none⟩) iA).trans E
      have Q:Hid (∀m,c8 w (W0.drewN m)):=fun m=>below_drewN H.o m;have nU:Hid (∀m,cT (W0.drewN m) w.heap.size (.slice (some ⟨gv,ov,none⟩) V.length ca) (.slice b L.length cb) (.slice c R.length cc)):=fun m=>HN.o;go_loopw [7] (fun jv wq=>∃k m:Nat,k<=i/\jv=.int .i64 k/\Hid (∀j (f:j<F.length),j< k ->F[j].1≠(v:Int))/\wq=W0.drewN m) (fun jv _=>i - (intOf jv).toNat)
      case atStart=>exact⟨0,_,aS _,rfl,(fun j _ f=>absurd f al),World.drewN_drewN _ _ _⟩
      case round=>
       obtain⟨k,m,u,rfl,FB,rfl⟩:=hrel;by_cases QX:k<i
       ·have ad:k<F.length:=al
        have kk:=aj.o k ad;have Di:=hid (ak.o k ad QX)
        have wm:Hid (F[k].1≠(v:Int) ->∀j (f:j<F.length),j<k+1 ->F[j].1≠(v:Int)):=fun e j f sF=>by
         rcases cF j k with l |l
         ·exact FB.o j f l
         ·obtain rfl:j=k:=al
          exact e
        generalize F[k].1=fk at *;by_cases I:fk=(v:Int)
        ·have r:=hid (M.o 7 (OA.o O.o Hu.o (Di.o I)) a6);subst I;go_wp2_with (go_quiet (fail))
         go_ret;exact⟨by rw[<- r.o];rfl,by first |exact Q.o _ |exact below_drewN (Q.o _) _⟩
        ·have HE:=hid (wm.o I);(have ax:(fk==(v:Int))=false:=by simpa using I);go_wp2_with (go_quiet (fail))
         go_roundw
         case rel=>exact⟨k+1,_,al,bd,HE,rfl⟩
         case measure=>simp[intOf];omega
       ·obtain rfl:k=i:=al
        have Yv:=hid (nT.o (pC.o O.o Hu.o (an.o fun j f sF=>FB.o j f sF)));have Ds:=hid (nU.o m);have eE:=hid (Q.o m);generalize W0.drewN m=W9 at *;go_wp2;go_roundw
        case rel=>exact⟨k+1,al,bd,Yv,Ds,eE⟩
        case measure=>simp[intOf];omega
     focus
      have r:=hid (M.o 12 (FN.o O.o D) a6);rcases Int.lt_or_le o 0 with l |l
      focus
       have U:decide (o<0)=true:=cY l;clear D
      rotate_left
      focus
       have U:decide (o<0)=false:=cK al;have jH:decide ((Y:Int)<=o)=true:=cY al;clear D
    rotate_left 2
    focus
     have r:=hid (M.o 11 (zO.o q) a6);rcases Int.lt_or_le n 0 with l |l
     focus
      have U:decide (n<0)=true:=cY l;clear q
     rotate_left
     focus
      have U:decide (n<0)=false:=cK al;have jH:decide ((V.length:Int)<=n)=true:=cY al;clear q
    all_goals
     go_wp2_with (go_quiet (fail))
     go_ret;exact⟨by rw[<- r.o];rfl,by first |exact below_drewN H.o _ |exact below_drewN (below_drewN H.o _) _⟩
   ·obtain rfl:i=F.length:=al
    have r:=hid (gA.o nV.o Z.o);go_wp2;go_ret;exact⟨by rw[<- r.o];rfl,H.o⟩
 ·have r:=hid (fR.o x);have ay:(aY V L R==0)=false:=by simpa using x
  clear x fR eP gA;generalize aY V L R=ne at *;go_wp2;go_ret;exact⟨by rw[<- r.o];rfl,P.o⟩
theorem Yk (l:List (Nat×Nat)) (k:Nat):lN (bX (ah V) (List.range V.length) k) l=tG l (aT (ah V) (List.range V.length) k):=by
 rw[lN,tG];refine List.all_congr rfl fun p=>?_;have e:=congrFun (ap2 (V:=V) k) p.1;simp only[Ye,eM] at e;rw[e]
theorem af1 {l:List (Nat×Nat)} (h:lN (bX (ah V) (List.range V.length) k) l=true):aK V L R l k=pK V L R k:=by
 rw[Yk] at h;rw[aK,MA,aA h,yf]
theorem af3 {l:List (Nat×Nat)} (h:lN (bX (ah V) (List.range V.length) k) l=false):aK V L R l k=0:=by
 rw[Yk] at h;rw[aK,MA,aB (by rw[h];decide),IH]
theorem Ug (h0:aY V L R=0) (s d:Option Addr) (c cd:Nat) (U:World) (i:az U s (iL (ah V))) (a:az U d (iL (List.range V.length))):
  c6 14 #[.slice s V.length c,.slice d V.length cd] U (da U (.tuple #[.int .i64 (cnt (ah V) (List.range V.length):Nat),.int .i64 0])):=by
 have b:(iL (ah V)).length=V.length:=by rw[ba,ix]
 have M:(iL (List.range V.length)).length=V.length:=by simp[iL]
 have h:=PT s d c cd (iL (ah V)) (iL (List.range V.length)) U i a (gD h0).fine (by rw[b];exact aar _);rwa [b,M,eM,eM] at h
theorem T9 (h0:aY V L R=0) (s d:Option Addr) (a cd k:Nat) (U:World) (f:k<cnt (ah V) (List.range V.length)) (i:az U s (iL (ah V))) (g:az U d (iL (List.range V.length))):
  c6 59 #[.slice s V.length a,.slice d V.length cd,.int .i64 (k:Nat)] U fun e w'=>∃(c:Option Addr) (Z:Nat),e=.returned (.tuple #[.slice c V.length Z,.int .i64 0])/\az w' c (iL (bX (ah V) (List.range V.length) k))/\c8 U w':=by
 have b:(iL (ah V)).length=V.length:=by rw[ba,ix]
 have M:(iL (List.range V.length)).length=V.length:=by simp[iL]
 have h:=aiN s d a cd k (iL (ah V)) (iL (List.range V.length)) U i g (gD h0).fine (by rw[b];exact aar _) (by rw[eM,eM];exact f);rwa [b,M,eM,eM] at h
theorem Uc (h0:aY V L R=0) (w:∀l∈R,fw l<=4200) (a b c d:Option Addr) (ca cb cc cd k:Nat) (U:World) (f:k<cnt (ah V) (List.range V.length)) (i:gO U a b c V L R) (j:az U d (iL (bX (ah V) (List.range V.length) k))):
  c6 61 #[.agg #[.slice a V.length ca,.slice b L.length cb,.slice c R.length cc],.slice d V.length cd] U (da U (dM (qF (pK V L R k)))):=by
 have e:(bX (ah V) (List.range V.length) k).length=V.length:=by rw[vT,ly]
 have h:=ai9 a b c d ca cb cc cd V L R (bX (ah V) (List.range V.length) k) U i (gD h0) w j e (aT (ah V) (List.range V.length) k) (fun u=>o6 (mq h0) _ _ u f) fun u g=>by
  rw[J6 qZ (by rw[ly];exact g),r5]
 rwa [e] at h
theorem abO (p q:Rat) (U:World) (a:qw p<=40000) (b:qw q<=40000):c6 74 #[dM (qF p),dM (qF q)] U (da U (dM (qF (p+q)))):=by
 have h:=PU (aJ p) (aJ q) (nu p) (de p) (nu q) (de q) U (by rw[lC];omega) (by rw[lC];omega);rw[gg,gg] at h;exact h
theorem Ui (d f:Option Addr) (cd c k:Nat) (V:List Vr) (l:List (Nat×Nat)) (w:World) (A:az w d (iL (bX (ah V) (List.range V.length) k))) (F:jf w f (zF l)) (a:∀p∈l,p.1<V.length) (n:l.length<=1000):
  c6 60 #[.slice d V.length cd,.slice f l.length c] w (da w (.bool (lN (bX (ah V) (List.range V.length) k) l))):=by
 have h:=ajm d f cd c (bX (ah V) (List.range V.length) k) l w A F (fun p b=>by rw[vT,ly];exact a p b) n;rwa [vT,ly] at h
theorem PN (a b c:Option Addr) (ca cb cc n m:Nat) (V:List Vr) (w:World) (h:uG w a V) (k:V.length<=5000):
  c6 13 #[.agg #[.slice a V.length ca,.slice b n cb,.slice c m cc]] w fun e w'=>∃s g,e=.returned (.slice s V.length g)/\az w' s (iL (ah V))/\c8 w w':=
 (Ub a b c ca cb cc n m V w h k).af fun e w' ⟨x,f,i,j⟩=>by
  obtain⟨d,cd,rfl,l⟩:=i.ints;rw[ba,ix] at f;exact⟨d,cd,f,l,j⟩
theorem Uh (a:Option Addr) (ca n:Nat) (w:World) (g:n<=1000):
  c6 58 #[.slice a n ca] w fun e w'=>∃s c,e=.returned (.slice s n c)/\az w' s (iL (List.range n))/\c8 w w':=
 (ajl a ca n w g).af fun e w' ⟨x,h,b,f⟩=>by
  obtain⟨d,cd,rfl,i⟩:=b.ints;rw[ba,ly] at h;exact⟨d,cd,h,i,f⟩
theorem aiY (a b c f:Option Addr) (ca cb cc cf:Nat) (V:List Vr) (L:List (List Int)) (R:List (List Fr)) (l:List (Nat×Nat)) (w:World) (h:gO w a b c V L R) (hw:∀l∈R,fw l<=4200) (h0:aY V L R=0) (hD:lW V R) (hF:jf w f (zF l)) (hl:lV (ah V) V.length l) (hn:l.length<=1000):
  c6 38 #[.agg #[.slice a V.length ca,.slice b L.length cb,.slice c R.length cc],.slice f l.length cf] w (da w (dM (qF (CB V L R l)))):=by
 have G0:=(gD h0).n8;have hp:=mq h0;have eD:=hid (fun (U:World) (t:c8 w U)=>PN a b c ca cb cc L.length R.length V U (h.aa t).vars al);have tS:=hid (fun (U:World) (s:Option Addr) (g:Nat)=>Uh s g V.length U al);have je:=hid (fun (s d:Option Addr) (g cd:Nat) (U:World)=>Ug h0 s d g cd U);have wj:=hid (fun (s d:Option Addr) (g cd k:Nat) (U:World)=>T9 h0 s d g cd k U);have HJ:=hid (fun (d:Option Addr) (cd k:Nat) (U:World) (i:k<cnt (ah V) (List.range V.length)) (t:c8 w U)=>Uc h0 hw a b c d ca cb cc cd k U i (h.aa t));have DL:=hid (fun (d:Option Addr) (cd k:Nat) (U:World) (hA:az U d (iL (bX (ah V) (List.range V.length) k))) (t:c8 w U)=>Ui d f cd cf k V l U hA (hF.aa t) hl.lt hn)
 have aq:Hid (∀k,k<cnt (ah V) (List.range V.length) ->∀U:World,c6 74 #[dM (qF (bq (aK V L R l) k)),dM (qF (pK V L R k))] U fun e w'=>e=.returned (dM (qF (bq (aK V L R l) k+pK V L R k)))/\c8 U w'):=fun k i U=>by
  have h1:=Vc h0 hp hD l (vk i);have h2:=P7 h0 hp hD i;exact abO _ _ U al al
 have Fj:Hid (∀k,lN (bX (ah V) (List.range V.length) k) l=true ->bq (aK V L R l) k+pK V L R k=bq (aK V L R l) (k+1)):=fun k i=>by rw[bq,af1 i]
 have fC:Hid (∀k,lN (bX (ah V) (List.range V.length) k) l=false ->bq (aK V L R l) k=bq (aK V L R l) (k+1)):=fun k i=>by rw[bq,af3 i,F4]
 have qb:Hid (bq (aK V L R l) 0=0):=rfl;have MV:=R2 h0;rw[Qx];generalize bq (aK V L R l)=SK at *;generalize pK V L R=PK at *;generalize cnt (ah V) (List.range V.length)=v at *;have y:=hid (LK.new w (.slice a V.length ca) (.slice b L.length cb) (.slice c R.length cc));clear h hw h0 hD hF hl hp;go_enter Tryz.func38,Tryz.ntmps38;obtain⟨O,S,T⟩:=y.o.1.1.cells;go_wp2_with fail
 generalize ((w.alloc (NC (.slice a V.length ca) (.slice b L.length cb) (.slice c R.length cc))).alloc (FC false ⟨#[]⟩ ⟨#[]⟩))=w1 at *;refine(eD.o w1 y.o.1.2).af ?_;rintro e w2 ⟨s,g,rfl,an,u⟩;have q:=hid (y.o.step u);clear u y eD O S T;go_wp2_with fail
 refine(tS.o w2 s g).af ?_;rintro e w3 ⟨d3,Hm,rfl,uj,j⟩;have ae:=an.aa j;have p:=hid (q.o.step j);clear j q an;go_wp2_with fail
 refine(je.o s d3 g Hm w3 ae uj).af ?_;rintro e w4 ⟨rfl,n⟩;have fh:=ae.aa n;have rU:=hid (p.o.step n);clear n p ae uj je;go_wp2_with fail
 refine(Lt _).af ?_;rintro e r ⟨rfl,I⟩;have ao:=fh.aa I;have m:=(aw _ r).alloc (ar _) (FC (aJ 0) (nu 0) (de 0));have av:w.heap.size+1<r.heap.size:=(rU.o.step I).2.lt;have zK:=hid ((rU.o.step I).step m);have Fl:=hid (aF.new r (aJ 0) (nu 0) (de 0));have Bu:=hid ao;have bT:=hid m;clear I rU fh ao m;go_wp2_with fail
 generalize (r.alloc (FC (aJ 0) (nu 0) (de 0)))=w6 at *;go_loopw [9] (fun iv wr=>∃k:Nat,k<=v/\iv=.int .i64 k/\Hid (LK w wr (.slice a V.length ca) (.slice b L.length cb) (.slice c R.length cc))/\Hid (aF wr r.heap.size (aJ (SK k)) (nu (SK k)) (de (SK k)))/\Hid (c8 r wr)) (fun iv _=>v - (intOf iv).toNat)
 case atStart=>exact⟨0,aS _,rfl,zK,by rw[qb.o];exact Fl,bT⟩
 case round=>
  obtain⟨k,i,rfl,H,X,x⟩:=hrel;clear zK Fl bT;by_cases ad:k<v
  ·go_wp2_with fail
   refine(tS.o wr s g).af ?_;rintro e z1 ⟨d1,A4,rfl,kr,F⟩;have lT:=hid kr;clear kr;go_wp2_with fail
   refine(wj.o s d1 g A4 k z1 ad ((Bu.o.aa x.o).aa F) lT.o).af ?_;rintro e z2 ⟨d2,uD,rfl,kq,u⟩;have A:=F.trans (u.af F.size);have Z:=hid kq;have q:=hid (H.o.step A);have mN:=hid (X.o.aa A X.o.lt);have J:=hid (x.o.trans (A.af x.o.size));clear lT kq F u A H X x;have Di:=hid (Fj.o k);have D:=hid (fC.o k);have FR:=hid (DL.o d2 uD k z2 Z.o q.o.1.2);have BF:=hid (fun U=>HJ.o d2 uD k U ad);have K:=hid (aq.o k ad);generalize bX (ah V) (List.range V.length) k=DG at *;generalize lN DG l=ab at *;go_wp2_with fail
   refine FR.o.af ?_;rintro e z3 ⟨rfl,j⟩;have FK:=hid (Z.o.aa j);have p:=hid (q.o.step j);have M:=hid (mN.o.aa j mN.o.lt);have z:=hid (J.o.trans (j.af J.o.size));clear Z q mN J j FR;cases ab with
   |false=>
    replace D:=hid (D.o rfl);go_wp2;go_roundw
    case rel=>exact⟨k+1,al,bd,p,by rw[<- D.o];exact M,z⟩
    case measure=>simp[intOf];omega
   |true=>
    obtain⟨O,S,T⟩:=p.o.1.1.cells;have ak:=Di.o rfl;rw[ak] at K;clear ak Di D;go_wp2_with fail
    refine(BF.o z3 p.o.1.2 FK.o).af ?_;rintro e z4 ⟨rfl,n⟩;have m:=n.alloc n.size (FC (qF (PK k)).1 (qF (PK k)).2.1 (qF (PK k)).2.2);have Oq:=hid (p.o.step m);have P:=hid (M.o.aa m M.o.lt);have Y:=hid (z.o.trans (m.af z.o.size));have aj:=aF.new z4 (qF (PK k)).1 (qF (PK k)).2.1 (qF (PK k)).2.2;obtain⟨p0,p1,p2, -⟩:=aj.facts;obtain⟨x0,x1,x2, -⟩:=P.o.facts;clear p M z FK n m aj O S T BF;go_wp2_with fail
    generalize (z4.alloc (FC (qF (PK k)).1 (qF (PK k)).2.1 (qF (PK k)).2.2))=z5 at *;refine(K.o z5).af ?_;rintro e z6 ⟨rfl,E⟩;have AV:=Oq.o.step E;have Q:=P.o.aa E P.o.lt;have ai:=Y.o.trans (E.af Y.o.size);clear p0 p1 p2 x0 x1 x2;obtain⟨x0,x1,x2,f0,f1,f2⟩:=Q.facts;have YA:=hid (Q.put (aJ (SK (k+1))) (nu (SK (k+1))) (de (SK (k+1))));have wD:=hid (AV.put av (aJ (SK (k+1))) (nu (SK (k+1))) (de (SK (k+1))));have ZG:=hid (bL ai (ar _) (.bool (aJ (SK (k+1)))) (.string (nu (SK (k+1)))) (.string (de (SK (k+1)))));clear E AV Q ai Oq P Y K;go_wp2;go_roundw
    case rel=>exact⟨k+1,al,bd,wD,YA,ZG⟩
    case measure=>simp[intOf];omega
  ·obtain rfl:k=v:=al
   obtain⟨k0,k1,k2,f0,f1,f2⟩:=H.o.2.facts;obtain⟨q0,q1,q2, -⟩:=X.o.facts;have eT:=H.o.2.put (aJ (SK k)) (nu (SK k)) (de (SK k));have rG:=bL H.o.1.2 (show w.heap.size<=w.heap.size+1 by omega) (.bool (aJ (SK k))) (.string (nu (SK k))) (.string (de (SK k)));go_wp2;refine bD (eT.result rfl _ rfl) rfl ?_;exact⟨rfl,rG⟩
structure xM (w:World) (a b c:Option Addr) (V:List Vr) (L:List (List Int)) (R:List (List Fr)):Prop where
 net:gO w a b c V L R
 ls:vZ w b L
 sm:tK V L R
 wt:∀l∈R,fw l<=4200
 lt:lW V R
 few:aY V L R=0 ->cnt (ah V) (List.range V.length)<=800
theorem xM.aa {b c:Option Addr} (h:xM w a b c V L R) (d:c8 w w'):xM w' a b c V L R:=⟨h.net.aa d,h.ls.aa h.net.pars d,h.sm,h.wt,h.lt,h.few⟩
def nF (F:List (Int×Int)):List (Nat×Nat):=F.map fun p=>(p.1.toNat,p.2.toNat)
theorem ak4 (l:List (Nat×Nat)):nF (zF l)=l:=by
 rw[nF,zF,D7];refine(wG fun p _=>?_).trans (List.map_id l);show (((p.1:Int).toNat),((p.2:Int).toNat))=p;simp
theorem rK (h:bY V L R F=0):aY V L R=0/\F=zF (nF F)/\lV (ah V) V.length (nF F):=by
 obtain⟨a,l,rfl,b⟩:=aox h;rw[ak4];exact⟨a,rfl,b⟩
def sj (V:List Vr) (L:List (List Int)) (R:List (List Fr)) (F:List (Int×Int)):Fr:=if bY V L R F=0 then qF (CB V L R (nF F)) else(false,⟨#[]⟩,⟨#[]⟩)
theorem ahd (V:List Vr) (L:List (List Int)) (R:List (List Fr)) (l:List (Nat×Nat)):dF V L R [] l=([],[qF (CB V L R l)]):=rfl
theorem aiX (a b c f:Option Addr) (ca cb cc i:Nat) (V:List Vr) (L:List (List Int)) (R:List (List Fr)) (F:List (Int×Int)) (w:World) (h:xM w a b c V L R) (n:jf w f F) (s:F.length<=1000):
  c6 18 #[.agg #[.slice a V.length ca,.slice b L.length cb,.slice c R.length cc],.slice f F.length i] w (da w (.tuple #[dM (sj V L R F),.int .i64 (bY V L R F)])):=by
 have v:=hid (fun (U:World) (d:c8 w U)=>Ud a b c f ca cb cc i V L R F U (h.net.aa d) h.sm (n.aa d) s)
 have t:Hid (bY V L R F=0 ->∀U:World,c8 w U ->c6 38 #[.agg #[.slice a V.length ca,.slice b L.length cb,.slice c R.length cc],.slice f F.length i] U fun e w'=>e=.returned (dM (sj V L R F))/\c8 U w'):=fun e U d=>by
  obtain⟨O,z,S⟩:=rK e;have q:=n.aa d;rw[z] at q;have:=aiY a b c f ca cb cc i V L R (nF F) U (h.net.aa d) h.wt O h.lt q S (by rw[<- tY, <- z];exact s);rw[<- tY, <- z] at this;rw[sj,aA e];exact this
 have m:Hid (bY V L R F≠0 ->sj V L R F=(false,⟨#[]⟩,⟨#[]⟩)):=fun e=>aB e;generalize sj V L R F=pf at *;generalize bY V L R F=p at *;clear h n;have E:=hid (LK.new w (.slice a V.length ca) (.slice b L.length cb) (.slice c R.length cc));obtain⟨j,k,l⟩:=E.o.1.1.cells;go_enter Tryz.func18,Tryz.ntmps18;go_wp2_with fail
 generalize ((w.alloc (NC (.slice a V.length ca) (.slice b L.length cb) (.slice c R.length cc))).alloc (FC false ⟨#[]⟩ ⟨#[]⟩))=w1 at *;refine(v.o _ E.o.1.2).af ?_;rintro e w2 ⟨rfl,g⟩;have K:=E.o.step g;clear g E j k l v;by_cases P:p=0
 ·subst P;have D:=hid (t.o rfl);have H:=hid K;obtain⟨j,k,l⟩:=K.1.1.cells;clear m t K;obtain⟨u,x,y⟩:=pf;go_wp2_with fail
  refine(D.o _ H.o.1.2).af ?_;rintro e w6 ⟨rfl,g⟩;have A:=H.o.step g;obtain⟨X,Y,Z,I,J,M⟩:=A.2.facts;have T:=A.2.put u x y;have r:=bL A.1.2 (show w.heap.size<=w.heap.size+1 by omega) (.bool u) (.string x) (.string y);clear g j k l;go_wp2;refine bD (T.result2 rfl _ rfl) rfl ?_;exact⟨rfl,r⟩
 ·have Q:=hid (m.o P);have kd:(p==0)=false:=by simpa using P
  obtain⟨X,Y,Z,I,J,M⟩:=K.2.facts;have T:=K.2.put false ⟨#[]⟩ ⟨#[]⟩;have r:=bL K.1.2 (show w.heap.size<=w.heap.size+1 by omega) (.bool false) (.string ⟨#[]⟩) (.string ⟨#[]⟩);clear P t m;go_wp2;refine bD (T.result2 rfl _ rfl) rfl ?_;exact⟨by rw[Q.o];rfl,r⟩
theorem ama (a b c f:Option Addr) (ca cb cc d:Nat) (V:List Vr) (L:List (List Int)) (R:List (List Fr)) (F:List (Int×Int)) (w:World) (h:xM w a b c V L R) (t:jf w f F) (hn:F.length<=1000) (uq:F.length<=d):
  c6 17 #[.agg #[.slice a V.length ca,.slice b L.length cb,.slice c R.length cc],.slice f F.length d] w (da w (.tuple #[dM (sj V L R F),.int .i64 (bY V L R F)])):=by
 have Z:=hid (fun (U:World) (l:c8 w U)=>Vj a b c f ca cb cc d V L R F U (h.net.aa l) h.sm (t.aa l) hn uq)
 have z:Hid (bY V L R F=0 ->∀U:World,c8 w U ->c6 36 #[.agg #[.slice a V.length ca,.slice b L.length cb,.slice c R.length cc],.slice none 0 0,.slice f F.length d] U fun e w'=>∃(x:Value) (g o n:Nat),e=.returned (.agg #[x,.slice (some ⟨g,o,none⟩) 1 n])/\w'.cell? ⟨g,o,none⟩=some (.bool (sj V L R F).1)/\w'.cell? ⟨g,o+1,none⟩=some (.string (sj V L R F).2.1)/\w'.cell? ⟨g,o+2,none⟩=some (.string (sj V L R F).2.2)/\cP x/\c8 U w'):=fun e U l=>by
  obtain⟨h0,Q,hl⟩:=rK e;have I:=t.aa l;rw[Q] at I;have O:=h.aa l;have:=adB a b c none f ca cb cc 0 d V L R [] (nF F) U O.net O.ls h.sm h.wt h0 h.lt (fun k hk=>absurd hk aE) ⟨fun i hi=>absurd hi aE,fun i j hj=>absurd hj aE⟩ I hl (fun v hv=>by cases hv) (fun U' EP=>RO a b c ca cb cc V L R U' EP h.sm);rw[<- tY, <- Q,ahd] at this;refine this.af fun e' w' hh=>?_;obtain⟨x,y,h2,⟨b',c',fG,kZ,h3,h4,_,h5,_⟩,h6⟩:=hh;obtain⟨g,o,h7,_,J,M,ab⟩:=h5 0 aE;rw[sj,aA e];refine⟨x,g,o,kZ,by rw[h2,h4,h7];rfl,?_,?_,?_,⟨_,_,_,h3⟩,h6⟩
  ·rw[mX,fZ] at J;exact J
  ·rw[mX,fZ] at M;exact M
  ·rw[mX,fZ] at ab;exact ab
 have s:Hid (bY V L R F≠0 ->sj V L R F=(false,⟨#[]⟩,⟨#[]⟩)):=fun e=>aB e;generalize sj V L R F=pf at *;generalize bY V L R F=D at *;clear h t uq;have E:=hid (LK.new w (.slice a V.length ca) (.slice b L.length cb) (.slice c R.length cc));obtain⟨p,q,r⟩:=E.o.1.1.cells;go_enter Tryz.func17,Tryz.ntmps17;go_wp2_with fail
 generalize ((w.alloc (NC (.slice a V.length ca) (.slice b L.length cb) (.slice c R.length cc))).alloc (FC false ⟨#[]⟩ ⟨#[]⟩))=w1 at *;refine(Z.o _ E.o.1.2).af ?_;rintro e w2 ⟨rfl,m⟩;have K:=E.o.step m;clear m E p q r Z;by_cases P:D=0
 ·subst P;have HP:=hid (z.o rfl);have H:=hid K;obtain⟨p,q,r⟩:=K.1.1.cells;clear s z K;obtain⟨S,X,Y⟩:=pf;go_wp2_with fail
  refine(HP.o _ H.o.1.2).af ?_;rintro e w6 ⟨x,g,o,n,rfl,q0,q1,q2,⟨xa,xn,xc,rfl⟩,m⟩;have A:=H.o.step m;obtain⟨k0,k1,k2,f0,f1,f2⟩:=A.2.facts;have T:=A.2.put S X Y;have u:=bL A.1.2 (show w.heap.size<=w.heap.size+1 by omega) (.bool S) (.string X) (.string Y);have ad:∀U:World,(Instr.field 58 (.agg #[.slice xa xn xc,.slice (some ⟨g,o,none⟩) 1 n]) 1).run Tryz.prog U=.ok (.slice (some ⟨g,o,none⟩) 1 n) U:=fun _=>ao
  clear m p q r;go_wp2;refine bD (T.result2 rfl _ rfl) rfl ?_;exact⟨rfl,u⟩
 ·have HQ:=hid (s.o P);have kd:(D==0)=false:=by simpa using P
  obtain⟨k0,k1,k2,f0,f1,f2⟩:=K.2.facts;have T:=K.2.put false ⟨#[]⟩ ⟨#[]⟩;have u:=bL K.1.2 (show w.heap.size<=w.heap.size+1 by omega) (.bool false) (.string ⟨#[]⟩) (.string ⟨#[]⟩);clear P z s;go_wp2;refine bD (T.result2 rfl _ rfl) rfl ?_;exact⟨by rw[HQ.o];rfl,u⟩
theorem Pz:∀l:List Fr,l.length+sw l<=fw l
 |[]=>ar _
 |f::l=>by
  have:=Pz l;rw[eA,sw,fw];omega
theorem aae (h:∀l∈R,fw l<=400):∀us:List Nat,wR R us<=400*us.length
 |[]=>ar _
 |v::vs=>by
  have b:=aae h vs
  have c:(R.getD v []).length+sw (R.getD v [])<=400:=by
   by_cases a:v<R.length
   ·rw[List.getD_eq_getElem?_getD,List.getElem?_eq_getElem a];exact aR (Pz _) (h _ (bB a))
   ·rw[List.getD_eq_getElem?_getD,iV al];exact aR (Pz _) a6
  rw[wR,eA];omega
theorem NM.lite (h:NM V L R):lW V R:=by
 have b:=XQ R (List.range V.length);have a:=aae h.light (List.range V.length);have c:=h.six;rw[ly] at a;show (B (fp R (List.range V.length))).size<=4000;omega
theorem NM.ni4 (h:NM V L R) {b c:Option Addr} (n:gO w a b c V L R) (d:vZ w b L):xM w a b c V L R:=
 ⟨n,d,h.small,fun l m=>by have:=h.light l m;omega,h.lite,fun _=>by have:=apf h;omega⟩
variable {ca cb cc:Nat}
structure TS (w W:World) (B:Nat) (a b c:Option Addr) (ca cb cc:Nat) (V:List Vr) (L:List (List Int)) (R:List (List Fr)):Prop where
 box:cT W B (.slice a V.length ca) (.slice b L.length cb) (.slice c R.length cc)
 net:xM W a b c V L R
 fr:c8 w W
theorem TS.step {W:World} {B:Nat} {b c:Option Addr} (h:TS w W B a b c ca cb cc V L R) (d:c8 W W'):TS w W' B a b c ca cb cc V L R:=
 ⟨h.box.aa d h.box.lt,h.net.aa d,h.fr.trans (d.af h.fr.size)⟩
theorem ag8 {M:List Int} (h:Up l n):Up (sq l M) n:=
 il.2 ⟨fun x a=>(il.1 h).1 x (dB.1 a).1,(il.1 h).2.filter _⟩
theorem aao (h:Up l n) (a:n<=6):l.length<=6:=by have:=h.length;omega
variable {K:Nat}
theorem fW.put {B:Nat} {l:List Fr} (h:fW w B (.slice (some ⟨g,0,none⟩) n cap) l) (k:Nat) (f:Fr):fW (((w.setCell ⟨g,k*3,none⟩ (.bool f.1)).setCell ⟨g,k*3+1,none⟩ (.string f.2.1)).setCell ⟨g,k*3+2,none⟩ (.string f.2.2)) B (.slice (some ⟨g,0,none⟩) n cap) (l.set k f):=by
 obtain⟨o,a⟩:=h;rcases a with ⟨e,_⟩ |⟨g',p,r,e,j,m,b,c,d,i⟩
 ·cases e
 ·injection e with e1 e2 e3;injection e1 with e1;injection e1 with e1;subst e1 e2 e3;refine⟨by rw[M4,sW];omega,.inr ⟨g,cap,((r.setIfInBounds (k*3) (.bool f.1)).setIfInBounds (k*3+1) (.string f.2.1)).setIfInBounds (k*3+2) (.string f.2.2),by rw[sW],j,Ms _ _ _ _ _ _ (Ms _ _ _ _ _ _ (Ms _ _ _ _ _ _ m)),by rw[sW];exact b,c,by simp[d],?_⟩⟩;rw[<- XF, <- i,sW];simp only[Array.toList_setIfInBounds,List.take_set]
theorem abo {B:Nat} {l:List Fr} (h:fW w B (.slice (some ⟨g,0,none⟩) n cap) l) (j:k<l.length):w.cell? ⟨g,k*3,none⟩=some (.bool l[k].1)/\w.cell? ⟨g,k*3+1,none⟩=some (.string l[k].2.1)/\w.cell? ⟨g,k*3+2,none⟩=some (.string l[k].2.2)/\w.frozen? ⟨g,k*3,none⟩=false/\w.frozen? ⟨g,k*3+1,none⟩=false/\w.frozen? ⟨g,k*3+2,none⟩=false:=by
 obtain⟨m,f⟩:=h;rcases f with ⟨e,_⟩ |⟨g',s,u,e,r,a,o,p,q,i⟩
 ·cases e
 ·injection e with e1 e2 e3;injection e1 with e1;injection e1 with e1;subst e1 e2 e3;obtain⟨b,c,d⟩:=M5 l k j;rw[<- i] at b c d;refine⟨?_,?_,?_,lr w g _ _ _ a,lr w g _ _ _ a,lr w g _ _ _ a⟩
  ·rw[bZ w g _ _ _ (0,0) a, <- vr];rw[r7] at b;split at b
   ·exact b
   ·cases b
  ·rw[bZ w g _ _ _ (0,0) a, <- vr];rw[r7] at c;split at c
   ·exact c
   ·cases c
  ·rw[bZ w g _ _ _ (0,0) a, <- vr];rw[r7] at d;split at d
   ·exact d
   ·cases d
theorem apX {B:Nat} {a:World} (h:Below B a w) (b:B<=g) (j:Nat) (u v x:Value):Below B a (((w.setCell ⟨g,j,none⟩ u).setCell ⟨g,j+1,none⟩ v).setCell ⟨g,j+2,none⟩ x):=((h.setCell b u).setCell b v).setCell b x
def Ny (g i B:Nat) (s p:Fr) (c:Bool) (U:World):Prop:=c=false ->(U.cell? ⟨g,i*3,none⟩=some (.bool s.1)/\U.cell? ⟨g,i*3+1,none⟩=some (.string s.2.1)/\U.cell? ⟨g,i*3+2,none⟩=some (.string s.2.2))/\U.cell? ⟨B,0,none⟩=some (.bool p.1)/\U.cell? ⟨B,1,none⟩=some (.string p.2.1)/\U.cell? ⟨B,2,none⟩=some (.string p.2.2)
theorem Ny.of {f B:Nat} {l:List Fr} {s p:Fr} (h:fW U f (.slice (some ⟨g,0,none⟩) n cap) l) (j:i<l.length) (e:l[i]=s) (b:aF U B p.1 p.2.1 p.2.2) (c:Bool):Ny g i B s p c U:=fun _=>by
 obtain⟨y,a,d,_⟩:=abo h j;rw[e] at y a d;exact⟨⟨y,a,d⟩,b.c0,b.c1,b.c2⟩
def lA (V:List Vr) (L:List (List Int)) (R:List (List Fr)) (q:List Nat) (l:List (Nat×Nat)) (k:Nat):List Fr:=(List.range (cnt (ah V) q)).map fun K=>qF (bq (aK V L R (qV (ah V) q K++l)) k)
theorem aau (V:List Vr) (L:List (List Int)) (R:List (List Fr)) (q:List Nat) (l:List (Nat×Nat)) (k:Nat):(lA V L R q l k).length=cnt (ah V) q:=by simp[lA]
theorem Pv {q:List Nat} {l:List (Nat×Nat)} (h:K<(lA V L R q l k).length):(lA V L R q l k)[K]=qF (bq (aK V L R (qV (ah V) q K++l)) k):=by simp[lA]
theorem ahk (V:List Vr) (L:List (List Int)) (R:List (List Fr)) (q:List Nat) (l:List (Nat×Nat)):lA V L R q l 0=List.replicate (cnt (ah V) q) (qF 0):=by
 refine qh (by simp[lA]) fun i h a=>?_;rw[Pv,List.getElem_replicate];rfl
theorem ahn (V:List Vr) (L:List (List Int)) (R:List (List Fr)) (Q:List Int) (l:List (Nat×Nat)):lA V L R (ag Q) l (cnt (ah V) (List.range V.length))=(dF V L R Q l).2:=rfl
theorem af2 (h:Pos (ah V)) {q:List Nat} (c:q.Nodup) (l:List (Nat×Nat)) (b:k<cnt (ah V) (List.range V.length)) (a:K<cnt (ah V) q):aK V L R (qV (ah V) q K++l) k=if pos (ah V) (aT (ah V) (List.range V.length) k) q=K then aK V L R l k else 0:=by
 rw[aK,afT,MA (qV (ah V) q K),ajq h c a (fun u=>o6 h _ _ u b),zX];by_cases e:pos (ah V) (aT (ah V) (List.range V.length) k) q=K
 ·rw[cY e,aA rfl,aA e,yf];rfl
 ·rw[cK e,aB a6,aB e,IH]
theorem ahm (p:Pos (ah V)) {q:List Nat} (c:q.Nodup) {l:List (Nat×Nat)} (b:k<cnt (ah V) (List.range V.length)) (h:lN (bX (ah V) (List.range V.length) k) l=false):lA V L R q l (k+1)=lA V L R q l k:=by
 refine wG fun K a=>?_;rw[bq,af2 p c l b (bJ.1 a),af3 h];split<;>rw[F4]
theorem ahl (p:Pos (ah V)) {q:List Nat} (d:q.Nodup) {l:List (Nat×Nat)} (c:k<cnt (ah V) (List.range V.length)) (h:lN (bX (ah V) (List.range V.length) k) l=true) {x:Rat} (f:bq (aK V L R (qV (ah V) q (pos (ah V) (aT (ah V) (List.range V.length) k) q)++l)) k=x):
  lA V L R q l (k+1)=(lA V L R q l k).set (pos (ah V) (aT (ah V) (List.range V.length) k) q) (qF (x+pK V L R k)):=by
 refine qh (by simp[lA]) fun K a g=>?_;have b:K<cnt (ah V) q:=by rwa [aau] at a
 rw[Pv,KW,bq,af2 p d l c b,af1 h];by_cases e:pos (ah V) (aT (ah V) (List.range V.length) k) q=K
 ·rw[aA e,aA e, <- f,e]
 ·rw[aB e,aB e,Pv,F4]
theorem afv {q:List Nat} (p:Pos (ah V)) (a:q.Nodup) (t:∀v∈q,v<V.length):cnt (ah V) q<=cnt (ah V) (List.range V.length):=by
 rw[<- Py, <- Py]
 have h:jO (ah V) q=jO (ah V) ((List.range V.length).filter fun v=>q.contains v):=by
  have e:=LN a t;generalize ((List.range V.length).filter fun v=>q.contains v)=b at e;clear a t;induction e with
  |nil=>rfl
  |cons x _ ih=>rw[jO,jO,ih]
  |swap x y l=>simp only[jO];rw[<- iU, <- iU,dJ (sz _ _) (sz _ _)]
  |trans _ _ h h2=>rw[h,h2]
 rw[h];exact ahF p IP
theorem aiP (a b c q f:Option Addr) (ca cb cc cq cf:Nat) (V:List Vr) (L:List (List Int)) (R:List (List Fr)) (Q:List Int) (l:List (Nat×Nat)) (w:World) (h:gO w a b c V L R) (hw:∀l∈R,fw l<=4200) (h0:aY V L R=0) (hD:lW V R) (hq:az w q Q) (yG:Up Q V.length) (hF:jf w f (zF l)) (hl:lV (ah V) V.length l) (hn:l.length<=1000) (EH:cnt (ah V) (List.range V.length)<=800):
  c6 47 #[.agg #[.slice a V.length ca,.slice b L.length cb,.slice c R.length cc],.slice q Q.length cq,.slice f l.length cf] w fun e w'=>∃d cd,e=.returned (.slice d (dF V L R Q l).2.length cd)/\cG w' d (dF V L R Q l).2/\c8 w w':=by
 have aQ:=gD h0;have G0:=aQ.n8;have I:=mq h0;have bR:(iL (ah V)).length=V.length:=by rw[ba,ix]
 have QN:=yG.nodup;have bP:=yG.length;have bW:=afv I QN yG.aa;have bV:=A3 I (ag Q);have eD:=hid (fun (U:World) (t:c8 w U)=>PN a b c ca cb cc L.length R.length V U (h.aa t).vars al)
 have zR:Hid (∀(s:Option Addr) (p:Nat) (U:World),c8 w U ->az U s (iL (ah V)) ->c6 14 #[.slice s V.length p,.slice q Q.length cq] U fun e w'=>e=.returned (.tuple #[.int .i64 (cnt (ah V) (ag Q):Nat),.int .i64 0])/\c8 U w'):=fun s p U t hi=>by
  have:=PT s q p cq (iL (ah V)) Q U hi (hq.aa t) aQ.fine (by rw[bR];exact yG);rwa [bR,eM] at this
 have tS:=hid (fun (U:World) (s:Option Addr) (p:Nat)=>Uh s p V.length U al);have je:=hid (fun (s d:Option Addr) (p cd:Nat) (U:World)=>Ug h0 s d p cd U);have wj:=hid (fun (s d:Option Addr) (p cd k:Nat) (U:World)=>T9 h0 s d p cd k U);have HJ:=hid (fun (d:Option Addr) (cd k:Nat) (U:World) (r:k<cnt (ah V) (List.range V.length)) (t:c8 w U)=>Uc h0 hw a b c d ca cb cc cd k U r (h.aa t));have DL:=hid (fun (d:Option Addr) (cd k:Nat) (U:World) (hA:az U d (iL (bX (ah V) (List.range V.length) k))) (t:c8 w U)=>Ui d f cd cf k V l U hA (hF.aa t) hl.lt hn);obtain⟨n,G6⟩:∃n:Nat ->Nat ->Nat,∀k j,pos (ah V) (aT (ah V) (List.range V.length) k) ((ag Q).take j)=n k j:=⟨fun k j=>pos (ah V) (aT (ah V) (List.range V.length) k) ((ag Q).take j),fun _ _=>rfl⟩;have BB:Hid (∀k,n k 0=0):=fun k=>by rw[<- G6];rfl
 have gH:Hid (∀k j,k<cnt (ah V) (List.range V.length) ->n k j<=65536):=fun k j r=>by
  rw[<- G6];have:=Uq (Lj aQ.fine) (aT (ah V) (List.range V.length) k) (fun u=>o6 I _ _ u r) (P:=ag Q) (by rw[cV];omega) j;omega
 have N8:Hid (∀k,k<cnt (ah V) (List.range V.length) ->n k Q.length<cnt (ah V) (ag Q)):=fun k r=>by
  rw[<- G6, <- cV,fD];exact rq _ (fun u=>o6 I _ _ u r) _
 have a8:Hid (∀k j (Z:j<Q.length),k<cnt (ah V) (List.range V.length) ->∃u:Nat,u<V.length/\(∀(U:World),c8 w U ->∃g o,q=some ⟨g,o,none⟩/\U.cell? ⟨g,o+j,none⟩=some (.int .i64 (u:Nat)))/\(∀(s:Option Addr) (U:World),az U s (iL (ah V)) ->∃g o,s=some ⟨g,o,none⟩/\U.cell? ⟨g,o+u,none⟩=some (.int .i64 (sz (ah V) u:Nat)))/\(∀(s:Option Addr) (U:World),az U s (iL (bX (ah V) (List.range V.length) k)) ->∃g o,s=some ⟨g,o,none⟩/\U.cell? ⟨g,o+u,none⟩=some (.int .i64 (aT (ah V) (List.range V.length) k u:Nat)))/\sz (ah V) u<=4/\aT (ah V) (List.range V.length) k u<4/\n k (j+1)=n k j*sz (ah V) u+aT (ah V) (List.range V.length) k u):=fun k j Z r=>by
  obtain⟨eN,dK⟩:=yG.nat Z;refine⟨Q[j].toNat,dK,fun U t=>?_,fun s U t=>?_,fun s U t=>?_,Lj aQ.fine _,?_,?_⟩
  ·obtain⟨g,o,e,hg,hc⟩:=(hq.aa t) j Z;exact⟨g,o,e,by rw[hc,eN]⟩
  ·obtain⟨g,o,e,hg,hc⟩:=t Q[j].toNat (by rw[bR];exact dK);refine⟨g,o,e,?_⟩;(have ae:Q[j].toNat<(ah V).length:=by rw[ix];exact dK);rw[hc,sz,List.getElem?_eq_getElem ae];simp[iL]
  ·have qC:(bX (ah V) (List.range V.length) k).length=V.length:=by rw[vT,ly]
   obtain⟨g,o,e,hg,hc⟩:=t Q[j].toNat (by rw[ba,qC];exact dK);refine⟨g,o,e,?_⟩;have hd:=J6 (S:=ah V) (k:=k) (i:=Q[j].toNat) (vs:=List.range V.length) qZ (by rw[ly];exact dK);rw[r5] at hd;rw[hc]
   have jH:(bX (ah V) (List.range V.length) k)[Q[j].toNat]'(by rw[qC];exact dK)=aT (ah V) (List.range V.length) k Q[j].toNat:=by
    rw[List.getElem?_eq_getElem (by rw[qC];exact dK)] at hd;exact mW hd
   simp[iL,jH]
  ·have h1:=o6 I (List.range V.length) k Q[j].toNat r;have h2:=Lj aQ.fine Q[j].toNat;omega
  ·have bl:j<(ag Q).length:=by rw[cV];exact Z
   rw[<- G6, <- G6,Ur _ _ bl,qj Z]
 have an:Hid (∀k,k<cnt (ah V) (List.range V.length) ->∀U:World,c6 74 #[dM (qF (bq (aK V L R (qV (ah V) (ag Q) (n k Q.length)++l)) k)),dM (qF (pK V L R k))] U fun e w'=>e=.returned (dM (qF (bq (aK V L R (qV (ah V) (ag Q) (n k Q.length)++l)) k+pK V L R k)))/\c8 U w'):=fun k r U=>by
  have h1:=Vc h0 I hD (qV (ah V) (ag Q) (n k Q.length)++l) (vk r);have h2:=P7 h0 I hD r;exact abO _ _ U al al
 have ay:Hid (∀k (h:n k Q.length<(lA V L R (ag Q) l k).length),(lA V L R (ag Q) l k)[n k Q.length]=qF (bq (aK V L R (qV (ah V) (ag Q) (n k Q.length)++l)) k)):=fun k h=>Pv h
 have Fj:Hid (∀k,k<cnt (ah V) (List.range V.length) ->lN (bX (ah V) (List.range V.length) k) l=true ->lA V L R (ag Q) l (k+1)=(lA V L R (ag Q) l k).set (n k Q.length) (qF (bq (aK V L R (qV (ah V) (ag Q) (n k Q.length)++l)) k+pK V L R k))):=fun k r hh=>by
  rw[<- G6, <- cV,fD];exact ahl I QN r hh rfl
 have fC:Hid (∀k,k<cnt (ah V) (List.range V.length) ->lN (bX (ah V) (List.range V.length) k) l=false ->lA V L R (ag Q) l (k+1)=lA V L R (ag Q) l k):=fun k r hh=>ahm I QN r hh;have xS:Hid (lA V L R (ag Q) l 0=List.replicate (cnt (ah V) (ag Q)) (qF 0)):=ahk ..;have rQ:Hid (lA V L R (ag Q) l (cnt (ah V) (List.range V.length))=(dF V L R Q l).2):=ahn ..;have xQ:Hid (∀k,(lA V L R (ag Q) l k).length=cnt (ah V) (ag Q)):=fun k=>aau ..;have pU:(dF V L R Q l).2.length=cnt (ah V) (ag Q):=by rw[<- rQ.o,xQ.o]
 rw[pU];clear pU;generalize lA V L R (ag Q) l=TG at *;generalize (dF V L R Q l).2=TT at *;generalize cnt (ah V) (ag Q)=X at *;obtain⟨SM,aG⟩:∃SM:Nat ->Rat,∀k,bq (aK V L R (qV (ah V) (ag Q) (n k Q.length)++l)) k=SM k:=⟨_,fun _=>rfl⟩;simp only[aG] at an ay Fj;generalize pK V L R=PK at *;clear aG G6;generalize cnt (ah V) (List.range V.length)=C0 at *;have uV:=hid ((aw w.heap.size w).alloc (ar _) (NC (.slice a V.length ca) (.slice b L.length cb) (.slice c R.length cc)));have Dr:=hid (cT.at (w:=w) rfl (.slice a V.length ca) (.slice b L.length cb) (.slice c R.length cc));obtain⟨n0,n1,n2⟩:=Dr.o.cells;clear h hw h0 hD hq yG hF hl I aQ bR QN;go_enter Tryz.func47,Tryz.ntmps47;go_wp2_with fail
 generalize (w.alloc (NC (.slice a V.length ca) (.slice b L.length cb) (.slice c R.length cc)))=w1 at *;refine(eD.o w1 uV.o).af ?_;rintro e w2 ⟨s,p,rfl,ae,M⟩;have F:=hid (uV.o.trans (M.af uV.o.size));have fQ:=hid (Dr.o.aa M Dr.o.lt);have mN:=hid (zR.o s p w2 F.o ae);have gQ:=hid ae;clear n0 n1 n2 M uV Dr eD zR ae;go_wp2_with fail
 refine mN.o.af ?_;rintro e w3 ⟨rfl,T⟩;have df:=hid (F.o.trans (T.af F.o.size));have Dt:=hid (fQ.o.aa T fQ.o.lt);have zu:=hid (gQ.o.aa T);clear T F fQ gQ mN;go_wp2_with fail
 go_loopw [10,11] (fun v iv wr=>∃k:Nat,k<=X/\iv=.int .i64 k/\Hid (fW wr w3.heap.size v (List.replicate k (qF 0)))/\Hid (c8 w3 wr)) (fun _ iv _=>X - (intOf iv).toNat)
 case atStart=>exact⟨0,aS _,rfl,fW.empty _ _,aw _ _⟩
 case round=>
  obtain⟨k,r,rfl,O,H⟩:=hrel;obtain⟨vd,vn,vc,rfl⟩:=O.o.slv;by_cases b1:k<X
  ·go_wp2_with fail
   refine(Lt wr).af ?_;rintro e z1 ⟨rfl,A⟩;have aN:=A.alloc A.size (FC (aJ 0) (nu 0) (de 0));have NZ:=hid (O.o.aa aN);have F:=hid (H.o.trans (aN.af H.o.size));have mN:=hid (aF.new z1 (aJ 0) (nu 0) (de 0));have gQ:Hid (w3.heap.size<=(z1.alloc (FC (aJ 0) (nu 0) (de 0))).heap.size):=F.o.size;clear A aN O H;go_wp2_with (at_builtin;refine Tp rfl _ _ rfl w3.heap.size (.slice vd vn vc) (List.replicate k (qF 0)) (qF 0) rfl NZ.o z1.heap.size rfl mN.o (by rw[IM];omega) gQ.o ?_;intro v' bQ dP dL;have bf:=hid (F.o.grown dL gQ.o (fun j e=>NZ.o.own j e));have bg:=hid dP;obtain⟨bO,b3,bx,rfl⟩:=dP.slv;clear dP dL)
   go_roundw
   case rel=>exact⟨k+1,al,bd,by rw[List.replicate_succ'];exact bg,bf⟩
   case measure=>simp[intOf];omega
  ·obtain rfl:X=k:=al
   rw[<- xS.o] at O
   obtain⟨D,cr,er,bk⟩:∃D cr,Value.slice (some ⟨D,0,none⟩) X cr=.slice vd vn vc/\w3.heap.size<=D:=by
    rcases O.o.2 with ⟨e,e2⟩ |⟨g',bu,bN,e,hB,_⟩
    ·rw[xQ.o] at e2;omega
    ·rw[xQ.o] at e;exact⟨g',bu,e.symm,hB⟩
   injection er with er1 er2 er3;subst er1 er2 er3;clear xS;go_wp2_with fail
   refine(tS.o wr s p).af ?_;rintro e z1 ⟨d1,A4,rfl,kr,A⟩;have lT:=hid kr;clear kr;go_wp2_with fail
   refine(je.o s d1 p A4 z1 ((zu.o.aa H.o).aa A) lT.o).af ?_;rintro e z2 ⟨rfl,M⟩;have jX:=A.trans (M.af A.size);have NZ:=hid (O.o.aa jX);have F:=hid (H.o.trans (jX.af H.o.size));clear A M jX O H lT je;go_wp2_with fail
   go_loopw [12] (fun iv wr=>∃k:Nat,k<=C0/\iv=.int .i64 k/\Hid (fW wr w3.heap.size (.slice (some ⟨D,0,none⟩) X cr) (TG k))/\Hid (c8 w3 wr)) (fun iv _=>C0 - (intOf iv).toNat)
   case atStart=>exact⟨0,aS _,rfl,NZ,F⟩
   case round=>
    obtain⟨k,b0,rfl,O,H⟩:=hrel;clear NZ F;rename World=>W6
    by_cases ad:k<C0
    ·go_wp2_with fail
     refine(tS.o W6 s p).af ?_;rintro e z1 ⟨d1,A4,rfl,kr,A⟩;have lT:=hid kr;clear kr;go_wp2_with fail
     refine(wj.o s d1 p A4 k z1 ad ((zu.o.aa H.o).aa A) lT.o).af ?_;rintro e z2 ⟨d2,uD,rfl,kq,M⟩;have jX:=A.trans (M.af A.size);replace O:=hid (O.o.aa jX);replace H:=hid (H.o.trans (jX.af H.o.size));have Y:=hid kq;clear A M jX lT kq;have FR:=hid (DL.o d2 uD k z2 Y.o (df.o.trans (H.o.af df.o.size)));have Di:=hid (Fj.o k ad);have wm:=hid (fC.o k ad);have BF:=hid (fun U=>HJ.o d2 uD k U ad);have ax:=hid (fun j Z=>a8.o k j Z ad);generalize bX (ah V) (List.range V.length) k=DG at *;generalize lN DG l=ab at *;go_wp2_with fail
     refine FR.o.af ?_;rintro e z3 ⟨rfl,T⟩;replace O:=hid (O.o.aa T);replace H:=hid (H.o.trans (T.af H.o.size));replace Y:=hid (Y.o.aa T);clear T FR;cases ab with
     |false=>
      replace wm:=hid (wm.o rfl);go_wp2;go_roundw
      case rel=>exact⟨k+1,al,bd,by rw[wm.o];exact O,H⟩
      case measure=>simp[intOf];omega
     |true=>
      have Sq:=hid (Di.o rfl);clear Di wm;have ak:=hid (zu.o.aa H.o);have lU:=hid (df.o.trans (H.o.af df.o.size));go_wp2_with fail
      go_loopw [16,17] (fun av jv wq=>∃j m:Nat,j<=Q.length/\jv=.int .i64 j/\av=.int .i64 (n k j:Nat)/\wq=z3.drewN m) (fun _ jv _=>Q.length - (intOf jv).toNat)
      case atStart=>exact⟨0,0,aS _,rfl,by rw[BB.o];rfl,rfl⟩
      case round=>
       obtain⟨j,m,Z,rfl,rfl,rfl⟩:=hrel;by_cases jW:j<Q.length
       ·obtain⟨u,hu,f1,f2,f3,vD,bT,fj⟩:=ax.o j jW;obtain⟨gq,oq,rfl,Nk⟩:=f1 z3 lU.o;obtain⟨gs,os,rfl,bK⟩:=f2 s z3 ak.o;obtain⟨ga,oa,rfl,bI⟩:=f3 d2 z3 Y.o;have xr:=gH.o k j ad;have BA:=hid fj;clear f1 f2 f3 fj;generalize vO:n k (j+1)=P1 at *;generalize n k j=P0 at *;generalize sz (ah V) u=su at *;generalize aT (ah V) (List.range V.length) k u=fu at *;have h1:P0*su<=65536*4:=iH xr vD
        have b2:IntKind.i64.wrap ((P0:Int)*(su:Int))=((P0*su:Nat):Int):=by
         rw[dE, <- jl];omega
        have bw:IntKind.i64.wrap (((P0*su:Nat):Int)+(fu:Int))=(P1:Int):=by
         rw[dE];have:=BA.o;omega
        generalize P0*su=Q0 at *;have mQ:=hid vO;clear vO h1 BA;go_wp2_with (go_quiet (fail))
        go_roundw
        case rel=>exact⟨j+1,_,al,bd,by rw[mQ.o],rfl⟩
        case measure=>simp[intOf];omega
       ·obtain rfl:j=Q.length:=al
        have bb:=N8.o k ad;(have fj:n k Q.length<(TG k).length:=by rw[xQ.o];exact bb);have Ir:=hid (ay.o k fj);have KG:=hid (an.o k ad);have MX:=below_drewN (aw z3.heap.size z3) m;replace O:=hid (O.o.aa MX);replace H:=hid (H.o.trans (MX.af H.o.size));replace Y:=hid (Y.o.aa MX);replace lU:=hid (lU.o.trans (MX.af lU.o.size));have hN:=Dt.o.aa H.o Dt.o.lt;obtain⟨n0,n1,n2⟩:=hN.cells;clear MX ax ak hN;generalize z3.drewN m=z4 at *;generalize n k Q.length=J at *;obtain⟨sn,sx,sy,xp⟩:∃x y z,qF (SM k)=(x,y,z):=⟨_,_,_,rfl⟩;obtain⟨pn,px,py,mA⟩:∃x y z,qF (PK k)=(x,y,z):=⟨_,_,_,rfl⟩;obtain⟨tn,tx,ty,VA⟩:∃x y z,qF (SM k+PK k)=(x,y,z):=⟨_,_,_,rfl⟩;rw[xp,mA,VA] at KG;rw[mA] at BF;rw[xp] at Ir;rw[VA] at Sq;clear xp mA VA;go_wp2_with fail
        refine(BF.o z4 lU.o Y.o).af ?_;rintro e Tk ⟨rfl,aj⟩;have aN:=aj.alloc aj.size (FC pn px py);replace O:=hid (O.o.aa aN);replace H:=hid (H.o.trans (aN.af H.o.size));have E:=hid (aF.new Tk pn px py);clear aj aN Y lU n0 n1 n2 BF;go_upto_region 21 with (fail)
        generalize anr:Tk.heap.size=a1 at *;generalize hz5:(Tk.alloc (FC pn px py))=z5 at *;clear anr hz5;obtain⟨D5,jq⟩:∃D5,z5.drew=D5:=⟨_,rfl⟩;have jr:c8 z5 z5.drew:=(aw z5.heap.size z5).drew;replace O:=hid (O.o.aa jr);replace E:=hid (E.o.aa jr E.o.lt);replace H:=hid (H.o.trans (jr.af H.o.size));rw[jq] at O E H;clear jr;refine Tl 9 (Ny D J a1 (sn,sx,sy) (pn,px,py)) ao (by rw[jq];exact Ny.of O.o fj Ir.o E.o false) (fun aq=>?_);rw[jq] at aq⊢;clear jq;(try simp only[gE,aP]);refine nk (i:=0) (oi:=_) (v:=.slice (some ⟨D,0,none⟩) X cr) (b:=false) rfl ao ao ao a6 (fun _ _ _ h=>h) (Or.inl ⟨by rfl,?_⟩) ao b5 ?_
        ·intro u' K;go_simp
        (try simp only[gE,aP]);refine nk (i:=1) (oi:=_) (v:=.int .i64 (J:Nat)) (b:=false) rfl ao ao ao a6 (fun _ _ _ h=>h) (Or.inl ⟨by rfl,?_⟩) ao b5 ?_
        ·intro u' K;go_simp
        (try simp only[gE,aP]);refine nk (i:=2) (oi:=_) (v:=.slice (some ⟨D,0,none⟩) X cr) (b:=false) rfl ao ao ao a6 (fun _ _ _ h=>h) (Or.inl ⟨by rfl,?_⟩) ao b5 ?_
        ·intro u' K;go_simp
        (try simp only[gE,aP]);refine nk (i:=3) (oi:=_) (v:=.int .i64 (J:Nat)) (b:=false) rfl ao ao ao a6 (fun _ _ _ h=>h) (Or.inl ⟨by rfl,?_⟩) ao b5 ?_
        ·intro u' K;go_simp
        (try simp only[gE,aP]);refine nk (i:=4) (oi:=_) (v:=.pointer (some ⟨D,J*3,none⟩)) (b:=false) rfl ao ao ao a6 (fun _ _ _ h=>h) (Or.inl ⟨by rfl,?_⟩) ao b5 ?_
        ·intro u' K;go_simp
        (try simp only[gE,aP]);refine IW (i:=5) (oi:=_) (v:=.agg #[.bool sn,.string sx,.string sy]) rfl ao ao ao a6 rfl ao (fun _ _ _ h=>h) (Or.inl ⟨by rfl,?_⟩) ao b5 ?_
        ·intro u' K;(try simp only[gE]);obtain⟨⟨bm,bo,ae⟩,bp,fh,br⟩:=K rfl;go_simp
        (try simp only[gE,aP]);refine IW (i:=6) (oi:=_) (v:=.agg #[.bool pn,.string px,.string py]) rfl ao ao ao a6 rfl ao (fun _ _ _ h=>h) (Or.inl ⟨by rfl,?_⟩) ao b5 ?_
        ·intro u' K;(try simp only[gE]);obtain⟨⟨bm,bo,ae⟩,bp,fh,br⟩:=K rfl;go_simp
        (try simp only[gE,aP]);refine pM (rs:=[7]) ao aE (eG.cons (b:=false) rfl ao ?_ (eG.nil))
        ·intro K' ai;go_simp;refine(KG.o D5).af ?_;rintro e z6 ⟨rfl,bE⟩;replace O:=hid (O.o.aa bE);replace E:=hid (E.o.aa bE E.o.lt);replace H:=hid (H.o.trans (bE.af H.o.size));clear aq;refine ai.o _ _ (Ny.of O.o fj Ir.o E.o false) (fun aq=>?_);clear ai K' bE;(try simp only[gE,aP]);refine nk (i:=8) (oi:=_) (v:=.pointer (some ⟨D,J*3,none⟩)) (b:=false) rfl ao ao ao a6 (fun _ _ _ h=>h) (Or.inl ⟨by rfl,?_⟩) ao b5 ?_
         ·intro u' K;go_simp
         (try simp only[gE,aP]);obtain⟨y0,y1,y2,f0,f1,f2⟩:=abo O.o fj;rw[Ir.o] at y0 y1 y2;refine pM (rs:=[9]) ao aE (eG.cons (b:=true) rfl ao ?_ (eG.nil))
         ·intro K' ai;go_simp;replace O:=hid (O.o.put J (tn,tx,ty));replace H:=hid (apX H.o bk (J*3) (.bool tn) (.string tx) (.string ty));clear aq;refine ai.o _ _ (fun e=>by cases e) (fun aq=>?_);clear ai K' y0 y1 y2 f0 f1 f2 E;(try simp only[gE,aP]);refine K2 ao ?_ _;clear aq;rw[<- Sq.o] at O;generalize (((z6.setCell ⟨D,J*3,none⟩ (.bool tn)).setCell ⟨D,J*3+1,none⟩ (.string tx)).setCell ⟨D,J*3+2,none⟩ (.string ty))=z7 at *;go_wp2;go_roundw
          case rel=>exact⟨k+1,al,bd,O,H⟩
          case measure=>simp[intOf];omega
    ·obtain rfl:C0=k:=al
     rw[rQ.o] at O;obtain⟨d,cd,e,aM⟩:=O.o.fr;injection e with e1 e2 e3;subst e1 e3;have Zq:=hid aM;have lU:=hid (df.o.trans (H.o.af df.o.size));clear aM O H e2;go_wp2;go_ret;exact⟨_,_,rfl,Zq.o,lU.o⟩
def jd (V:List Vr) (L:List (List Int)) (R:List (List Fr)) (Q:List Int) (F:List (Int×Int)):Int:=
 if bY V L R F=0 then(if (gM (iL (ah V)) Q).2=0 then(if (F.any fun p=>gJ p.1 Q)=true then 7 else 0) else(gM (iL (ah V)) Q).2) else bY V L R F
def kV (V:List Vr) (L:List (List Int)) (R:List (List Fr)) (Q:List Int) (F:List (Int×Int)):Int:=
 if jd V L R Q F=0 then(if aX (dF V L R Q (nF F)).2=0 then 3 else 0) else jd V L R Q F
def jR (V:List Vr) (L:List (List Int)) (R:List (List Fr)) (Q:List Int) (F:List (Int×Int)):Tb:=
 if kV V L R Q F=0 then(Q,iZ (dF V L R Q (nF F)).2) else([],[])
theorem aqb (Q:List Int) (F:List (Int×Int)):(F.any fun p=>gJ p.1 Q)=Q.any fun v=>F.any fun p=>p.1==v:=by
 rw[td,tX,tX];constructor
 ·rintro⟨p,a,h⟩;obtain⟨x,c,e⟩:=tX.1 h;exact⟨x,c,tX.2 ⟨p,a,by rw[sU] at e⊢;exact e.symm⟩⟩
 ·rintro⟨v,b,h⟩;obtain⟨p,a,e⟩:=tX.1 h;exact⟨p,a,tX.2 ⟨v,b,by rw[sU] at e⊢;exact e.symm⟩⟩
theorem XU {Q:List Int} (h:(gM (iL (ah V)) Q).2=0):Up Q V.length:=by
 cases hb:countB (iL (ah V)) Q with
 |false=>rw[Hk hb] at h;exact absurd h a6
 |true=>
  rw[countB,gX] at hb;have:=Cm hb.2;rwa [ba,ix] at this
theorem ap9 {Q:List Int} {l:List (Nat×Nat)} (q:Up Q n) (h:((zF l).any fun p=>gJ p.1 Q)=false):∀v∈ag Q,¬v∈l.map (·.1):=fun v c m=>by
 obtain⟨p,b,rfl⟩:=bc.1 m;refine KZ.1 h ((p.1:Int),(p.2:Int)) (bc.2 ⟨p,b,rfl⟩) ?_;obtain⟨x,a,e⟩:=bc.1 c;have:=(Gd q x a).1;refine tX.2 ⟨x,a,sU.2 ?_⟩;have d:x.toNat=p.1:=e;show x=(p.1:Int);omega
theorem aeV (g:Nat ->Rat):∀n,aX ((List.range n).map fun K=>qF (g K))=bq g n
 |0=>rfl
 |n+1=>by
  rw[sV,fg,List.map_singleton,Ry,aeV g n];show bq g n+aW (qF (g n))=_;rw[qJ];rfl
theorem arl (h:n<=4294967296):(B n).size<=5:=by
 have a:=j8 h;have b:(B 4294967296).size<=5:=by rw[lq];exact pY 5 4294967296 a6
 omega
theorem TD (h0:aY V L R=0) (D:lW V R) (Q:List Int) (l:List (Nat×Nat)):∀k (h:k<(dF V L R Q l).2.length),(dF V L R Q l).2[k].2.1.size+(dF V L R Q l).2[k].2.2.size<=40000:=fun k h=>by
 have e:(dF V L R Q l).2[k]=qF (CB V L R (qV (ah V) (ag Q) k++l)):=by simp[dF]
 rw[e,Ul,Qx];have:=Vc h0 (mq h0) D (qV (ah V) (ag Q) k++l) (ar _);omega
theorem aha (h0:aY V L R=0) (D:lW V R) {Q:List Int} (q:Up Q V.length) (l:List (Nat×Nat)):∀k,k<=(dF V L R Q l).2.length ->qw (aX ((dF V L R Q l).2.take k))<=8005:=fun k o=>by
 have r:(dF V L R Q l).2.length=cnt (ah V) (ag Q):=by simp[dF]
 have e:(dF V L R Q l).2.take k=(List.range k).map fun K=>qF (CB V L R (qV (ah V) (ag Q) K++l)):=by
  rw[dF, <- List.map_take,List.take_range,wE al]
 rw[e,aeV];have p:=mq h0;have z:fp R (List.range V.length)≠0:=(PD.net (V:=V) (L:=L) h0 (fun v c=>bJ.1 c)).nz.1
 have a:fB (fp R (List.range V.length)) (bq (fun K=>CB V L R (qV (ah V) (ag Q) K++l)) k):=fB.sum fun K _=>by
  rw[Qx];exact fB.sum fun x h=>(Yp h0 p _ h).1
 have b:lX (k*(cnt (ah V) (List.range V.length)*1)) (bq (fun K=>CB V L R (qV (ah V) (ag Q) K++l)) k):=lX.sum fun K _=>by
  rw[Qx];exact lX.sum fun x h=>(Yp h0 p _ h).2
 have d:=a.size z b;have f:=R2 h0;have g:=XW (gD h0).fine q.nodup (by rw[ix];exact q.aa);have i:k*(cnt (ah V) (List.range V.length)*1)<=65536*65536:=iH al al;have j:=arl (n:=k*(cnt (ah V) (List.range V.length)*1)) al;have m:(B (fp R (List.range V.length))).size<=4000:=D;omega
theorem TA (h0:aY V L R=0) (h:lW V R) {Q:List Int} (q:Up Q V.length) (l:List (Nat×Nat)):∀k,k<=(dF V L R Q l).2.length ->qw (aX ((dF V L R Q l).2.take k))<=40000:=fun k a=>aR (aha h0 h q l k a) a6
theorem ahc (h0:aY V L R=0) {Q:List Int} (h:Up Q V.length) (l:List (Nat×Nat)):jZ (iL (ah V)) Q (dF V L R Q l).2.length=0:=
 RQ (Hi (gD h0).fine (by rw[ba,ix];exact h)) (by rw[eM];simp[dF])
theorem TB (h0:aY V L R=0) {Q:List Int} (h:Up Q V.length) (l:List (Nat×Nat)) (c:cnt (ah V) (List.range V.length)<=800):(dF V L R Q l).2.length<=800/\1<=(dF V L R Q l).2.length:=by
 have e:(dF V L R Q l).2.length=cnt (ah V) (ag Q):=by simp[dF]
 have a:=afv (mq h0) h.nodup h.aa;have b:=A3 (mq h0) (ag Q);omega
variable {base:Nat}
theorem aiR (a:Option Addr) (cap:Nat) (l:List Fr) (w:World) (h:cG w a l) (D:∀k (h:k<l.length),l[k].2.1.size+l[k].2.2.size<=40000) (E:∀k,k<=l.length ->qw (aX (l.take k))<=40000) (hn:l.length<=10000):
  c6 87 #[.slice a l.length cap] w (da w (C (aX l))):=by
 have z:=aD h;clear h;have T:Hid (aX (l.take l.length)=aX l):=by show _=_;rw[fD]
 have O:=aD (fun V=>Lu 0 V al al);rw[F3] at O;go_enter Tryz.func87,Tryz.ntmps87;have r:=aF.at (w:=w) rfl false ⟨#[]⟩ ⟨#[]⟩;have c:c8 w (w.alloc (FC false ⟨#[]⟩ ⟨#[]⟩)):=(aw _ w).alloc (ar _) _;go_wp2_with fail
 refine(O.o _).af ?_;rintro e u ⟨rfl,f⟩;have v:=r.aa f r.lt;have d:c8 w u:=c.trans (f.af c.size);clear r c f;rw[kL];go_wp2_with fail
 have Q:=v.lt;go_loopw [4] (fun iv wr=>∃k:Nat,k<=l.length/\iv=.int .i64 k/\Hid (aF wr u.heap.size (aJ (aX (l.take k))) (nu (aX (l.take k))) (de (aX (l.take k))))/\Hid (aF wr w.heap.size false ⟨#[]⟩ ⟨#[]⟩)/\c8 w wr) (fun iv _=>l.length - (intOf iv).toNat)
 case atStart=>exact⟨0,aS _,rfl,aF.at rfl _ _ _,v.alloc _,d.alloc d.size _⟩
 case round=>
  obtain⟨k,A,rfl,S,H,b⟩:=hrel;by_cases t:k<l.length
  ·obtain⟨g,o,rfl,hg,R,U,X⟩:=(z.o.aa b) k t;have y:=take_one t;have P:=D k t;have J:=E k A;have I:=lC (aX (l.take k));have F:=aD (fun V=>PU (aJ (aX (l.take k))) l[k].1 (nu (aX (l.take k))) (de (aX (l.take k))) l[k].2.1 l[k].2.2 V al al);rw[gg,show val l[k].1 l[k].2.1 l[k].2.2=E8 l[k] from rfl, <- y] at F;have K:=S.o;clear S y P J I;generalize l[k].1=fn at *;generalize l[k].2.1=Z at *;generalize l[k].2.2=fy at *;obtain⟨p,q,s,j,m,n⟩:=K.facts;have Y:=K.lt;go_upto_region 5 with fail
   go_region_with (
     (go_at_call 74;refine(F.o _).af ?_;rintro e w2 ⟨rfl,i⟩;have x:=K.drew.aa i K.lt;have M:=(aF.drew H.o).aa i H.o.lt;have L:=b.drew.trans (i.af b.size);obtain⟨p,q,s,j,m,n⟩:=x.facts;rw[kL]))
   all_goals
    go_wp2;go_roundw
    case rel=>exact⟨k+1,al,bd,x.put _ _ _,M.far3 al _ _ _,bL L d.size _ _ _⟩
    case measure=>simp[intOf];omega
  ·obtain rfl:k=l.length:=al
   have K:=S.o;rw[T.o] at K;obtain⟨p,q,s,j,m,n⟩:=K.facts;obtain⟨j0,j1,j2,i0,i1,i2⟩:=H.o.facts;go_wp2;refine bD ((H.o.put _ _ _).result rfl _ rfl) rfl ?_;exact⟨rfl,bL b (ar _) _ _ _⟩
structure A6 (w:World) (B4 base:Nat) (s:Fr) (v:Value) (N:List Fr) (U:World):Prop where
 bx:aF U B4 s.1 s.2.1 s.2.2
 row:fW U base v N
 bel:c8 w U
theorem A6.step {a:Nat} {s:Fr} {v:Value} {N:List Fr} (h:A6 w a base s v N U) (b:c8 U U'):A6 w a base s v N U':=⟨h.bx.aa b h.bx.lt,h.row.aa b,h.bel.trans (b.af h.bel.size)⟩
theorem A6.put3 {a:Nat} {s:Fr} {v:Value} {N:List Fr} (h:A6 w a base s v N U) (h1:g≠a) (b:v.ownBlock≠some g) (c:w.heap.size<=g) (x y z:Value):A6 w a base s v N (((U.setCell ⟨g,0,none⟩ x).setCell ⟨g,1,none⟩ y).setCell ⟨g,2,none⟩ z):=
 ⟨h.bx.far3 (Ne.symm h1) x y z,FZ (FZ (FZ h.row b x) b y) b z,bL h.bel c x y z⟩
theorem aiV (a:Option Addr) (cap:Nat) (l:List Fr) (w:World) (h:cG w a l) (hl:∀k (h:k<l.length),l[k].2.1.size+l[k].2.2.size<=40000) (hq:∀k,k<=l.length ->qw (aX (l.take k))<=40000) (hn:l.length<=10000) (h1:1<=l.length):
  c6 48 #[.slice a l.length cap] w fun e w'=>((aX l=0/\e=.returned (.tuple #[.slice none 0 0,.int .i64 3]))∨(aX l≠0/\∃d cd,e=.returned (.tuple #[.slice d (iZ l).length cd,.int .i64 0])/\cG w' d (iZ l)))/\c8 w w':=by
 have jw:=hid (aiR a cap l w h hl hq hn);have HF:=hid h;have qA:=hq l.length (ar _);rw[fD] at qA;obtain⟨D,MU⟩:∃D:Nat ->Fr×Int,∀k (c:k<l.length),D k=if aX l=0 then((false,⟨#[]⟩,⟨#[]⟩),3) else(qF (aW l[k]*(1/aX l)),0):=⟨fun k=>if aX l=0 then((false,⟨#[]⟩,⟨#[]⟩),3) else(qF (aW (l.getD k (false,⟨#[]⟩,⟨#[]⟩))*(1/aX l)),0),fun k c=>by dsimp only;rw[List.getD_eq_getElem?_getD,List.getElem?_eq_getElem c];rfl⟩
 have ae:Hid (∀k (c:k<l.length) (U:World),c6 32 #[.agg #[.bool l[k].1,.string l[k].2.1,.string l[k].2.2],.agg #[.bool (aJ (aX l)),.string (nu (aX l)),.string (de (aX l))]] U fun e w'=>e=.returned (.tuple #[.agg #[.bool (D k).1.1,.string (D k).1.2.1,.string (D k).1.2.2],.int .i64 (D k).2])/\c8 U w'):=fun k c U=>by
  have f:=lC (aX l);have ay:=hl k c;rw[MU k c];by_cases e:aX l=0
  ·rw[aA e];exact aji l[k].1 (aJ (aX l)) l[k].2.1 l[k].2.2 (nu (aX l)) (de (aX l)) U (by rw[gg];exact e) al
  ·rw[aB e];have:=abL l[k].1 (aJ (aX l)) l[k].2.1 l[k].2.2 (nu (aX l)) (de (aX l)) U (by rw[gg];exact e) al al;rw[gg,vg, <- yf (aX l)⁻¹, <- vg] at this;exact this
 have Yw:Hid (aX l=0 ->∀k (c:k<l.length),(D k).2=3):=fun e k c=>by rw[MU k c,aA e]
 have NJ:Hid (aX l≠0 ->∀k (c:k<l.length),(D k).2=0):=fun e k c=>by rw[MU k c,aB e]
 obtain⟨NK,JN⟩:∃NK:Nat ->List Fr,∀k,(iZ l).take k=NK k:=⟨fun k=>(iZ l).take k,fun _=>rfl⟩;have ad:(iZ l).length=l.length:=by simp[iZ]
 have nV:Hid (NK 0=[]):=by show _=_;rw[<- JN];rfl
 have Kv:Hid (aX l≠0 ->∀k (c:k<l.length),NK (k+1)=NK k++[(D k).1]):=fun e k c=>by
  have iz:k<(iZ l).length:=by rw[ad];exact c
  rw[<- JN, <- JN,fL iz,MU k c,aB e];simp[iZ]
 have FB:Hid (NK l.length=iZ l):=by show _=_;rw[<- JN, <- ad,fD]
 have Kz:Hid (∀k,(NK k).length<=l.length):=fun k=>by rw[<- JN,eX];omega
 clear h hl hq MU JN;obtain⟨s,hs⟩:∃s:Fr,s=(aJ (aX l),nu (aX l),de (aX l)):=⟨_,rfl⟩;obtain⟨z,f⟩:∃z:Prop,z=(aX l=0):=⟨_,rfl⟩;have Bo:Hid (C (aX l)=.agg #[.bool s.1,.string s.2.1,.string s.2.2]):=by show _=_;rw[hs];rfl
 have ak:Hid (∀k (c:k<l.length) (U:World),c6 32 #[.agg #[.bool l[k].1,.string l[k].2.1,.string l[k].2.2],.agg #[.bool s.1,.string s.2.1,.string s.2.2]] U fun e w'=>e=.returned (.tuple #[.agg #[.bool (D k).1.1,.string (D k).1.2.1,.string (D k).1.2.2],.int .i64 (D k).2])/\c8 U w'):=by rw[hs];exact ae
 rw[Bo.o] at jw;clear ae Bo hs;have an:Hid ((iZ l).length=l.length):=ad;clear ad qA f z;obtain⟨t,u,A⟩:=s;go_enter Tryz.func48,Tryz.ntmps48;go_wp2_with fail
 refine jw.o.af ?_;rintro e w1 ⟨rfl,F⟩;have hA:=F.alloc F.size (FC t u A);have cE:Hid (A6 w w1.heap.size (w1.heap.size+1) (t,u,A) (.slice none 0 0) [] (w1.alloc (FC t u A))):=⟨aF.new w1 t u A,fW.empty _ _,hA⟩;have aE:=F.size;clear F hA jw;go_wp2_with fail
 generalize dU:w1.heap.size=b at *;generalize hW2:(w1.alloc (FC t u A))=W2 at *;clear dU hW2;go_loopw [5,6] (fun v iv wr=>∃k:Nat,k<=l.length/\iv=.int .i64 k/\Hid (k=0∨aX l≠0)/\Hid (A6 w b (b+1) (t,u,A) v (NK k) wr)) (fun _ iv _=>l.length - (intOf iv).toNat)
 case atStart=>exact⟨0,aS _,rfl,.inl rfl,by rw[nV.o];exact cE⟩
 case round=>
  obtain⟨k,c,rfl,NG,Om⟩:=hrel;clear cE;obtain⟨vd,vn,vc,rfl⟩:=Om.o.row.slv;by_cases ab:k<l.length
  ·obtain⟨g,o,rfl,hg,c0,c1,c2⟩:=HF.o k ab;have Ix:=hid (ak.o k ab);have V:=hid (fun e=>Yw.o e k ab);have J9:=hid (fun e=>NJ.o e k ab);have Od:=hid (fun e=>Kv.o e k ab);generalize l[k].1=fn at *;generalize l[k].2.1=fx at *;generalize l[k].2.2=fy at *;generalize D k=dv at *;obtain⟨⟨n,x,y⟩,Q⟩:=dv;simp only at Ix V J9 Od;have I:Hid (∀U:World,A6 w b (b+1) (t,u,A) (.slice vd vn vc) (NK k) U ->(U.cell? ⟨g,o+k*3,none⟩=some (.bool fn)/\U.cell? ⟨g,o+k*3+1,none⟩=some (.string fx)/\U.cell? ⟨g,o+k*3+2,none⟩=some (.string fy))/\U.cell? ⟨b,0,none⟩=some (.bool t)/\U.cell? ⟨b,1,none⟩=some (.string u)/\U.cell? ⟨b,2,none⟩=some (.string A)):=fun U hU=>⟨⟨(hU.bel.cell (p:=⟨g,_,none⟩) hg).trans c0,(hU.bel.cell (p:=⟨g,_,none⟩) hg).trans c1,(hU.bel.cell (p:=⟨g,_,none⟩) hg).trans c2⟩,hU.bx.c0,hU.bx.c1,hU.bx.c2⟩;clear c0 c1 c2;obtain⟨v,hv⟩:∃v,v=Value.slice vd vn vc:=⟨_,rfl⟩;clear hv v;go_upto_region 6 with (go_quiet (fail))
   obtain⟨i,jq⟩:∃i,wr.drew=i:=⟨_,rfl⟩;have H:=hid (Om.o.step ((aw wr.heap.size wr).drew));rw[jq] at H;refine iu (S:=(fun U=>(U.cell? ⟨g,o+k*3,none⟩=some (.bool fn)/\U.cell? ⟨g,o+k*3+1,none⟩=some (.string fx)/\U.cell? ⟨g,o+k*3+2,none⟩=some (.string fy))/\U.cell? ⟨b,0,none⟩=some (.bool t)/\U.cell? ⟨b,1,none⟩=some (.string u)/\U.cell? ⟨b,2,none⟩=some (.string A))) ao (by rw[jq];exact I.o i H.o) (fun q=>?_);rw[jq] at q⊢;clear jq Om;refine au 0 (.slice (some ⟨g,o,none⟩) l.length cap) ?_;refine au 1 (.int .i64 (k:Nat)) ?_;refine au 2 (.pointer (some ⟨g,o+k*3,none⟩)) ?_;(try simp only[gE,aP]);refine cM 3 (.agg #[.bool fn,.string fx,.string fy]) ?_ ?_
   ·intro u' aO;try simp only[gE];obtain⟨⟨s0,s1,s2⟩,s3,s4,s5⟩:=aO;go_simp
   (try simp only[gE,aP]);refine cM 4 (.agg #[.bool t,.string u,.string A]) ?_ ?_
   ·intro u' aO;try simp only[gE];obtain⟨⟨s0,s1,s2⟩,s3,s4,s5⟩:=aO;go_simp
   refine aI [5,9] (cA ?_ (cA ?_ aH))
   focus
    intro r K;go_simp;refine(Ix.o i).af ?_;rintro e u1 ⟨rfl,F⟩;replace H:=hid (H.o.step F);clear q;refine K.o _ _ (I.o u1 H.o) (fun q=>?_);clear K r F;refine au 6 (.tuple #[.agg #[.bool n,.string x,.string y],.int .i64 Q]) ?_;refine au 7 (.agg #[.bool n,.string x,.string y]) ?_;refine au 8 (.int .i64 Q) ?_;refine aI [9] (cA ?_ aH);intro r K;go_simp;have P:=(aw _ u1).alloc (ar _) (FC false ⟨#[]⟩ ⟨#[]⟩);have J:=hid (aF.new u1 false ⟨#[]⟩ ⟨#[]⟩);have L:u1.heap.size≠b/\w.heap.size<=u1.heap.size:=⟨by have:=H.o.bx.lt;omega,H.o.bel.size⟩
    have X:Hid (Value.ownBlock (.slice vd vn vc)≠some u1.heap.size):=fun e=>by
     have:=(ru H.o.row _ e).2;omega
    replace H:=hid (H.o.step P);clear q;refine K.o _ _ (I.o _ H.o) (fun q=>?_);clear K r P;obtain⟨m,T⟩:∃m,u1.heap.size=m:=⟨_,rfl⟩;obtain⟨M,Z⟩:∃M,u1.alloc (FC false ⟨#[]⟩ ⟨#[]⟩)=M:=⟨_,rfl⟩;have lH:u1.alloc (.cells #[.bool false,.string ⟨#[]⟩,.string ⟨#[]⟩] 53)=M:=Z;rw[T] at J L X;rw[Z] at J H;simp only[lH] at q⊢;simp only[T];clear Z lH T;(try simp only[gE,aP]);obtain⟨x0,x1,x2,f0,f1,f2⟩:=J.o.facts;refine aI [10] (cA ?_ aH);intro r K;go_simp;have Ke:=hid (J.o.put n x y);have E:=hid (H.o.put3 L.1 X.o L.2 (.bool n) (.string x) (.string y));clear q;refine K.o _ _ (I.o _ E.o) (fun q=>?_);clear K r x0 x1 x2 f0 f1 f2 J H X L;refine au 11 (.int .i64 Q) ?_;(try simp only[gE,aP]);refine dC ao ?_ _;clear q I Ix;obtain⟨O,LW⟩:∃O,((M.setCell ⟨m,0,none⟩ (.bool n)).setCell ⟨m,1,none⟩ (.string x)).setCell ⟨m,2,none⟩ (.string y)=O:=⟨_,rfl⟩;rw[LW] at Ke E⊢;clear LW;by_cases lJ:Q=0
    focus
     subst lJ
    rotate_left
    ·have f:aX l=0:=Decidable.byContradiction fun e=>lJ (J9.o e);have GY:=V.o f;subst GY;have R:=hid f;have kK:=hid E.o.bel;clear f lJ V J9 Od NG E Ke;go_wp2;go_ret2;exact⟨.inl ⟨R.o,rfl⟩,kK.o⟩
   rotate_left
   focus
    intro r K;go_simp;have P:=(aw _ i).alloc (ar _) (FC false ⟨#[]⟩ ⟨#[]⟩);have J:=hid (aF.new i false ⟨#[]⟩ ⟨#[]⟩);have L:i.heap.size≠b/\w.heap.size<=i.heap.size:=⟨by have:=H.o.bx.lt;omega,H.o.bel.size⟩
    have X:Hid (Value.ownBlock (.slice vd vn vc)≠some i.heap.size):=fun e=>by
     have:=(ru H.o.row _ e).2;omega
    replace H:=hid (H.o.step P);clear q;refine K.o _ _ (I.o _ H.o) (fun q=>?_);clear K r P;obtain⟨m,T⟩:∃m,i.heap.size=m:=⟨_,rfl⟩;obtain⟨M,Z⟩:∃M,i.alloc (FC false ⟨#[]⟩ ⟨#[]⟩)=M:=⟨_,rfl⟩;have lH:i.alloc (.cells #[.bool false,.string ⟨#[]⟩,.string ⟨#[]⟩] 53)=M:=Z;rw[T] at J L X;rw[Z] at J H;simp only[lH] at q⊢;simp only[T];clear Z lH T;refine aI [5] (cA ?_ aH);intro r K;go_simp;refine(Ix.o M).af ?_;rintro e u1 ⟨rfl,F⟩;replace H:=hid (H.o.step F);replace J:=hid (J.o.aa F J.o.lt);clear q;refine K.o _ _ (I.o u1 H.o) (fun q=>?_);clear K r F;refine au 6 (.tuple #[.agg #[.bool n,.string x,.string y],.int .i64 Q]) ?_;refine au 7 (.agg #[.bool n,.string x,.string y]) ?_;refine au 8 (.int .i64 Q) ?_;(try simp only[gE,aP]);obtain⟨x0,x1,x2,f0,f1,f2⟩:=J.o.facts;refine aI [10] (cA ?_ aH);intro r K;go_simp;have Ke:=hid (J.o.put n x y);have E:=hid (H.o.put3 L.1 X.o L.2 (.bool n) (.string x) (.string y));clear q;refine K.o _ _ (I.o _ E.o) (fun q=>?_);clear K r x0 x1 x2 f0 f1 f2 J H X L;refine au 11 (.int .i64 Q) ?_;(try simp only[gE,aP]);refine dC ao ?_ _;clear q I Ix;obtain⟨O,LW⟩:∃O,((u1.setCell ⟨m,0,none⟩ (.bool n)).setCell ⟨m,1,none⟩ (.string x)).setCell ⟨m,2,none⟩ (.string y)=O:=⟨_,rfl⟩;rw[LW] at Ke E⊢;clear LW;by_cases lJ:Q=0
    focus
     subst lJ
    rotate_left
    ·have f:aX l=0:=Decidable.byContradiction fun e=>lJ (J9.o e);have GY:=V.o f;subst GY;have R:=hid f;have kK:=hid E.o.bel;clear f lJ V J9 Od NG E Ke;go_wp2;go_ret2;exact⟨.inl ⟨R.o,rfl⟩,kK.o⟩
   all_goals
    (have f:aX l≠0:=fun e=>by have:=V.o e;omega);have wm:=hid (Od.o f);have R:Hid (k+1=0∨aX l≠0):=.inr f;obtain⟨x0,x1,x2, -⟩:=Ke.o.facts;have P:=(aw _ O).alloc (ar _) (FC n x y);have Y:=hid (E.o.step P);have pj:=hid (aF.new O n x y);have qR:Hid (b+1<=(O.alloc (FC n x y)).heap.size):=Y.o.bx.lt;have ad:=Kz.o k;clear f P V J9 Od NG E;go_wp2_with (at_builtin;refine Tp rfl _ _ rfl (b+1) (.slice vd vn vc) (NK k) (n,x,y) rfl Y.o.row O.heap.size rfl pj.o al qR.o ?_;intro v' bQ dP dL;have aj:Hid (A6 w b (b+1) (t,u,A) v' (NK k++[(n,x,y)]) bQ):=⟨(dL.block b Y.o.bx.lt (fun e=>by have:=Y.o.row.own b e.symm;omega)).trans Y.o.bx,dP,Y.o.bel.grown dL Y.o.bel.size (fun j e=>aR al (Y.o.row.own j e))⟩;obtain⟨ax,aG,av,rfl⟩:=dP.slv;clear dP dL)
    go_roundw
    case rel=>exact⟨k+1,al,bd,R,by rw[wm.o];exact aj⟩
    case measure=>simp[intOf];omega
  ·obtain rfl:k=l.length:=al
   have f:=NG.o.resolve_left al;have R:=hid f;have Y:=Om;rw[FB.o] at Y;obtain⟨d,cd,e,ai⟩:=Y.o.row.fr;injection e with e1 e2 e3;subst e1 e2 e3;have Zq:=hid ai;have kK:=hid Y.o.bel;clear f ai NG Om;go_wp2;go_ret2;exact⟨.inr ⟨R.o,vd,vc,rfl,Zq.o⟩,kK.o⟩
end Go.Proofs.YtfhdoommfenijaaGreatDoor
